/- A row of 32-bit numbers in a block of the call's own that a sort turns: the words; cmp.Less at these. -/
import Derived.Test.YtghclmbicdmboaaRows
import Derived.Sort.AssemblyPlain
import Derived.Sort.Row
import Derived.WalkKit
import Derived.BigGuard
import Derived.BigCall
import Derived.CellFam
import Derived.Deep.Draws
import Derived.Deep.QuietTactic
import Derived.BigQuiet
import Derived.Lib.Hide
namespace Go.Proofs.Ytghclmbicdmboaa
open Go.RowKit Go.Sort

/-- All blocks but g stay as they were. -/
structure KeptR (g : Nat) (w w' : World) : Prop where
  os : w'.os = w.os
  tape : w'.tape = w.tape
  output : w'.output = w.output
  size : w.heap.size ≤ w'.heap.size
  block : ∀ k, k < w.heap.size → k ≠ g → w'.heap[k]? = w.heap[k]?
abbrev RowAt (w : World) (b : Nat) (d : Array Int) : Prop := Holds (Value.int .i32) w b 0 d
/-- The row of block b holds d; all other blocks are as they were in w. -/
def SW (w W : World) (b : Nat) (d : Array Int) : Prop := KeptR b w W ∧ RowAt W b d
/-- What a sorting function without a result answers. -/
def SPost (w : World) (b : Nat) (d : Array Int) (e : Ending) (w' : World) : Prop := e = .returned (.tuple #[]) ∧ SW w w' b d
section
variable {w W W' : World} {b g : Nat} {d d' d0 : Array Int}
theorem KeptR.refl (g : Nat) (w : World) : KeptR g w w := ⟨rfl, rfl, rfl, Nat.le_refl _, fun _ _ _ => rfl⟩
theorem KeptR.trans (h : KeptR g w W) (k : KeptR g W W') : KeptR g w W' :=
  ⟨k.os.trans h.os, k.tape.trans h.tape, k.output.trans h.output, Nat.le_trans h.size k.size, fun i hi hg => (k.block i (Nat.lt_of_lt_of_le hi h.size) hg).trans (h.block i hi hg)⟩
theorem KeptR.drewN (h : KeptR g w W) (q : Nat) : KeptR g w (W.drewN q) := ⟨h.os, h.tape, h.output, h.size, h.block⟩
theorem KeptR.set (h : KeptR g w W) (j : Nat) (v : Value) : KeptR g w (W.setCell ⟨g, j, none⟩ v) :=
  ⟨h.os, h.tape, h.output, by simpa [World.setCell] using h.size, fun k hk hg => by rw [← h.block k hk hg]; simp [World.setCell, Array.getElem?_modify]; intro e; exact absurd e.symm hg⟩
theorem KeptR.alloc (h : KeptR g w W) (o : Obj) : KeptR g w (W.alloc o) :=
  ⟨h.os, h.tape, h.output, by have := h.size; simp; omega, fun k hk hg => by rw [← h.block k hk hg]; exact Below.heap_alloc W o k (Nat.lt_of_lt_of_le hk h.size)⟩
theorem SW.start (h : RowAt w b d) : SW w w b d := ⟨KeptR.refl _ _, h⟩
theorem SW.row (hs : SW w W b d) (_ : RowAt w b d0) (_ : d.size = d0.size) : RowAt W b d := hs.2
theorem SW.drewN (hs : SW w W b d) (q : Nat) : SW w (W.drewN q) b d := ⟨hs.1.drewN q, hs.2⟩
theorem SW.trans (h1 : SW w W b d) (h2 : SW W W' b d') (_ : d'.size = d.size) : SW w W' b d' := ⟨h1.1.trans h2.1, h2.2⟩
theorem SW.swap (hs : SW w W b d) {i j : Nat} (hi : i < d.size) (hj : j < d.size) : SW w ((W.setCell ⟨b, i, none⟩ (.int .i32 d[j]!)).setCell ⟨b, j, none⟩ (.int .i32 d[i]!)) b (swp d i j) := by
  refine ⟨(hs.1.set _ _).set _ _, ?_⟩
  have h1 := putRow_swp (Value.int .i32) W b 0 d i j hi hj
  rw [Nat.zero_add, Nat.zero_add, putRow_self _ _ _ _ _ hs.2] at h1
  rw [h1]
  exact holds_putRow _ _ _ _ d (swp d i j) hs.2 (by simp [swp])
/-- A row in another block. -/
theorem RowAt.kept (h : RowAt w b d) (hk : KeptR g w W) (hg : b ≠ g) : RowAt W b d := fun j hj => by
  obtain ⟨h1, h2⟩ := h j hj
  have hb := World.block_lt_of_cell? _ _ h1
  have := hk.block b hb hg
  refine ⟨?_, ?_⟩
  · rw [← h1]; simp only [World.cell?, this]
  · rw [← h2]; simp only [World.frozen?, this]
theorem RowAt.get (h : RowAt w b d) {t : Nat} (ht : t < d.size) : w.cell? ⟨b, t, none⟩ = some (.int .i32 d[t]!) ∧ w.frozen? ⟨b, t, none⟩ = false := by
  have := h t ht
  rw [Nat.zero_add] at this
  exact this
theorem swp_size (d : Array Int) (i j : Nat) : (swp d i j).size = d.size := by simp [swp]
end

theorem lisNaN_any (x : Int) (w : World) : Calls Try.prog 47 #[.int .i32 x] w fun e w' => e = .returned (.bool false) ∧ w' = w := by
  have hx : (x != x) = false := by simp
  go_enter Try.func47, Try.ntmps47
  go_wp2
  go_ret
  exact ⟨rfl, rfl⟩
theorem lless_any (x y : Int) (w : World) : Calls Try.prog 31 #[.int .i32 x, .int .i32 y] w fun e w' => e = .returned (.bool (ltInt x y)) ∧ w' = w := by
  go_enter Try.func31, Try.ntmps31
  go_wp2_with (first | (go_at_call 47; refine (lisNaN_any _ _).mono ?_; rintro e w' ⟨rfl, rfl⟩))
  go_ret
  exact ⟨rfl, rfl⟩
end Go.Proofs.Ytghclmbicdmboaa
