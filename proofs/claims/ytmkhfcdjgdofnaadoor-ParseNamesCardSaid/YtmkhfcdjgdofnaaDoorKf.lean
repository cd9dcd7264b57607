/- What stays but for some blocks. No function of the program. -/
import Derived.Test.YtmkhfcdjgdofnaaDoorRows
import Derived.WalkKit
import Derived.Below
import Derived.Laws.OwnMore
import Derived.Deep.Draws
import Derived.Lib.Builder
import Derived.Lib.BufferMore
import Derived.Lib.Hide
namespace Go.Proofs.YtmkhfcdjgdofnaaDoor
open Go.RowKit

/-- But for F's blocks, what was there is as it was. -/
structure Kf (F : Nat → Prop) (w w' : World) : Prop where
  os : w'.os = w.os
  tape : w'.tape = w.tape
  output : w'.output = w.output
  size : w.heap.size ≤ w'.heap.size
  block : ∀ k, k < w.heap.size → ¬ F k → w'.heap[k]? = w.heap[k]?
theorem Kf.refl (F : Nat → Prop) (w : World) : Kf F w w := ⟨rfl, rfl, rfl, Nat.le_refl _, fun _ _ _ => rfl⟩
theorem Kf.trans {F G : Nat → Prop} {a b c : World} (h : Kf F a b) (k : Kf G b c) (hG : ∀ x, G x → F x ∨ a.heap.size ≤ x) : Kf F a c :=
  ⟨k.os.trans h.os, k.tape.trans h.tape, k.output.trans h.output, Nat.le_trans h.size k.size, fun x hx hF =>
    (k.block x (Nat.lt_of_lt_of_le hx h.size) (fun g => by rcases hG x g with y | y; exact hF y; omega)).trans (h.block x hx hF)⟩
theorem Kf.mono {F G : Nat → Prop} {a b : World} (h : Kf F a b) (hG : ∀ x, F x → G x ∨ a.heap.size ≤ x) : Kf G a b :=
  ⟨h.os, h.tape, h.output, h.size, fun x hx hF => h.block x hx (fun g => by rcases hG x g with y | y; exact hF y; omega)⟩
theorem Kf.drewN {F : Nat → Prop} {a b : World} (h : Kf F a b) (q : Nat) : Kf F a (b.drewN q) := ⟨h.os, h.tape, h.output, h.size, h.block⟩
theorem Kf.drew {F : Nat → Prop} {a b : World} (h : Kf F a b) : Kf F a b.drew := ⟨h.os, h.tape, h.output, h.size, h.block⟩
theorem Kf.set {F : Nat → Prop} {a b : World} (h : Kf F a b) {p : Addr} (hp : F p.block ∨ a.heap.size ≤ p.block) (v : Value) : Kf F a (b.setCell p v) :=
  ⟨h.os, h.tape, h.output, by have := h.size; simp only [World.setCell, Array.size_modify]; exact this, fun x hx hF =>
    (Below.heap_setCell _ _ _ _ (fun e => by subst e; rcases hp with y | y; exact hF y; omega)).trans (h.block x hx hF)⟩
theorem Kf.alloc {F : Nat → Prop} {a b : World} (h : Kf F a b) (o : Obj) : Kf F a (b.alloc o) :=
  ⟨h.os, h.tape, h.output, by have := h.size; simp; omega, fun x hx hF => (Below.heap_alloc _ _ _ (Nat.lt_of_lt_of_le hx h.size)).trans (h.block x hx hF)⟩
theorem Kf.grown {F : Nat → Prop} {a b c : World} {row : Option Nat} (h : Kf F a b) (hg : b.grownBy c row) (hr : ∀ g, row = some g → F g ∨ a.heap.size ≤ g) : Kf F a c :=
  ⟨hg.os.trans h.os, hg.tape.trans h.tape, hg.output.trans h.output, Nat.le_trans h.size hg.size, fun x hx hF =>
    (hg.block x (Nat.lt_of_lt_of_le hx h.size) (fun e => by rcases hr x e.symm with y | y; exact hF y; omega)).trans (h.block x hx hF)⟩
theorem Kf.below {F : Nat → Prop} {a b : World} {B : Nat} (h : Kf F a b) (hB : B ≤ a.heap.size) (hF : ∀ x, F x → B ≤ x) : Below B a b :=
  ⟨h.os, h.tape, h.output, h.size, fun x hx => h.block x (by omega) (fun g => by have := hF x g; omega)⟩
theorem Kf.cell {F : Nat → Prop} {a b : World} (h : Kf F a b) {p : Addr} (hp : p.block < a.heap.size) (hF : ¬ F p.block) : b.cell? p = a.cell? p := World.cell?_of_block (h.block _ hp hF)
theorem Kf.of_below {F : Nat → Prop} {a b : World} (h : Below a.heap.size a b) : Kf F a b := ⟨h.os, h.tape, h.output, h.size, fun x hx _ => h.block x hx⟩

end Go.Proofs.YtmkhfcdjgdofnaaDoor
