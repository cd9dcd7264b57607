/- The memory of a queue: three rows of numbers and the block that holds them; what stays, what turns. -/
import Derived.Test.YtffpggdbmfidcaaRows
import Derived.Test.YtffpggdbmfidcaaHeapM
import Derived.WalkKit
import Derived.Below
import Derived.Laws.OwnMore
import Derived.Deep.Draws
import Derived.Lib.Builder
import Derived.Lib.BufferMore
import Derived.Lib.Hide
namespace Go.Proofs.Ytffpggdbmfidcaa
open Go.RowKit HeapM

theorem ret_int {k : IntKind} {a b : Int} (h : a = b) : Ending.returned (.int k a) = .returned (.int k b) := by rw [h]
theorem ret_bool {a b : Bool} (h : a = b) : Ending.returned (.bool a) = .returned (.bool b) := by rw [h]

/-- Block g holds the numbers f 0 .. f (n - 1), and has room for cap. -/
def Row (T : TypeId) (w : World) (g n cap : Nat) (f : Nat → Int) : Prop :=
  ∃ cur : Array Value, w.heap[g]? = some (.cells cur T (0, 0)) ∧ n ≤ cap ∧ cap ≤ maxLen ∧ cur.size = cap ∧ ∀ j, j < n → cur[j]? = some (.int .i64 (f j))

theorem Row.lt {T : TypeId} {w : World} {g n cap : Nat} {f : Nat → Int} (h : Row T w g n cap f) : g < w.heap.size := by
  obtain ⟨cur, h, _⟩ := h
  rcases Nat.lt_or_ge g w.heap.size with h' | h'
  · exact h'
  · rw [Array.getElem?_eq_none h'] at h; cases h
theorem Row.cell {T : TypeId} {w : World} {g n cap : Nat} {f : Nat → Int} (h : Row T w g n cap f) {j : Nat} (hj : j < n) : w.cell? ⟨g, j, none⟩ = some (.int .i64 (f j)) := by
  obtain ⟨cur, h, _, _, _, hc⟩ := h
  rw [Lib.cell_of_heap h]; exact hc j hj
theorem Row.free {T : TypeId} {w : World} {g n cap : Nat} {f : Nat → Int} (h : Row T w g n cap f) (j : Nat) : w.frozen? ⟨g, j, none⟩ = false := by
  obtain ⟨cur, h, _⟩ := h
  exact Lib.frozen_of_heap h j
theorem Row.same {T : TypeId} {w w' : World} {g n cap : Nat} {f : Nat → Int} (h : Row T w g n cap f) (hb : w'.heap[g]? = w.heap[g]?) : Row T w' g n cap f := by
  obtain ⟨cur, h, r⟩ := h
  exact ⟨cur, by rw [hb]; exact h, r⟩
theorem Row.set {T : TypeId} {w : World} {g n cap : Nat} {f : Nat → Int} (h : Row T w g n cap f) {j : Nat} (hj : j < n) (x : Int) : Row T (w.setCell ⟨g, j, none⟩ (.int .i64 x)) g n cap (upd f j x) := by
  obtain ⟨cur, h, h1, h2, h3, hc⟩ := h
  refine ⟨_, Lib.heap_setCell_same h _, h1, h2, by simp [h3], fun k hk => ?_⟩
  rw [Array.getElem?_setIfInBounds]
  by_cases e : j = k
  · subst e; rw [if_pos rfl, if_pos (by omega), upd_at]
  · rw [if_neg e, upd_ne _ _ (fun x => e x.symm)]; exact hc k hk
theorem Row.other {T : TypeId} {w : World} {g n cap : Nat} {f : Nat → Int} (h : Row T w g n cap f) {a : Addr} (ha : a.block ≠ g) (v : Value) : Row T (w.setCell a v) g n cap f :=
  h.same (Below.heap_setCell _ _ _ _ (fun e => ha e.symm))
theorem Row.alloc {T : TypeId} {w : World} {g n cap : Nat} {f : Nat → Int} (h : Row T w g n cap f) (o : Obj) : Row T (w.alloc o) g n cap f :=
  h.same (Below.heap_alloc _ _ _ h.lt)
theorem Row.congr {T : TypeId} {w : World} {g n cap : Nat} {f f' : Nat → Int} (h : Row T w g n cap f) (e : ∀ j, j < n → f' j = f j) : Row T w g n cap f' := by
  obtain ⟨cur, h, h1, h2, h3, hc⟩ := h
  exact ⟨cur, h, h1, h2, h3, fun j hj => by rw [e j hj]; exact hc j hj⟩
theorem Row.less {T : TypeId} {w : World} {g n n' cap : Nat} {f : Nat → Int} (h : Row T w g n cap f) (e : n' ≤ n) : Row T w g n' cap f := by
  obtain ⟨cur, h, h1, h2, h3, hc⟩ := h
  exact ⟨cur, h, by omega, h2, h3, fun j hj => hc j (by omega)⟩
theorem Row.cap_le {T : TypeId} {w : World} {g n cap : Nat} {f : Nat → Int} (h : Row T w g n cap f) : n ≤ cap ∧ cap ≤ maxLen := by
  obtain ⟨cur, h, h1, h2, _⟩ := h
  exact ⟨h1, h2⟩
/-- As the library's own word has it. -/
def cellsOf (f : Nat → Int) (n : Nat) : List Value := (List.range n).map fun j => Value.int .i64 (f j)
theorem cellsOf_length (f : Nat → Int) (n : Nat) : (cellsOf f n).length = n := by simp [cellsOf]
theorem cellsOf_get (f : Nat → Int) {n j : Nat} (h : j < n) : (cellsOf f n)[j]? = some (.int .i64 (f j)) := by
  simp [cellsOf, List.getElem?_map, List.getElem?_range h]
theorem Row.own {T : TypeId} {w : World} {g n cap : Nat} {f : Nat → Int} (h : Row T w g n cap f) : w.ownsRow g T 1 (.slice (some ⟨g, 0, none⟩) n cap) n (cellsOf f n) := by
  obtain ⟨cur, h, h1, h2, h3, hc⟩ := h
  refine ⟨by rw [cellsOf_length]; omega, .inr ⟨g, cap, cur, rfl, Nat.le_refl _, h, h1, h2, by omega, ?_⟩⟩
  rw [Nat.mul_one]
  apply List.ext_getElem?
  intro j
  by_cases e : j < n
  · rw [cellsOf_get f e, List.getElem?_take_of_lt e, Array.getElem?_toList]; exact hc j e
  · rw [List.getElem?_eq_none (l := cellsOf f n) (by rw [cellsOf_length]; omega), List.getElem?_eq_none (by rw [List.length_take]; omega)]
theorem Row.of_own {T : TypeId} {w : World} {base g n cap : Nat} {f : Nat → Int} (h : w.ownsRow base T 1 (.slice (some ⟨g, 0, none⟩) n cap) n (cellsOf f n)) : Row T w g n cap f := by
  rcases h.2 with ⟨hv, _⟩ | ⟨g', cap', cur, hv, _, hh, h1, h2, h3, h4⟩
  · cases hv
  · injection hv with e1 e2 e3
    injection e1 with e1
    injection e1 with e1
    subst e1; subst e3
    refine ⟨cur, hh, h1, h2, by omega, fun j hj => ?_⟩
    rw [← Array.getElem?_toList, ← List.getElem?_take_of_lt (show j < n * 1 by omega), h4]
    exact cellsOf_get f hj

/-- But for F's blocks, what was there is as it was. -/
structure Kf (F : Nat → Prop) (w w' : World) : Prop where
  os : w'.os = w.os
  tape : w'.tape = w.tape
  output : w'.output = w.output
  size : w.heap.size ≤ w'.heap.size
  block : ∀ k, k < w.heap.size → ¬ F k → w'.heap[k]? = w.heap[k]?
theorem Kf.refl (F : Nat → Prop) (w : World) : Kf F w w := ⟨rfl, rfl, rfl, Nat.le_refl _, fun _ _ _ => rfl⟩
theorem Kf.trans {F G : Nat → Prop} {a b c : World} (h : Kf F a b) (k : Kf G b c) (hG : ∀ x, G x → F x ∨ a.heap.size ≤ x) : Kf F a c :=
  ⟨k.os.trans h.os, k.tape.trans h.tape, k.output.trans h.output, Nat.le_trans h.size k.size, fun x hx hF =>
    (k.block x (Nat.lt_of_lt_of_le hx h.size) (fun g => by rcases hG x g with y | y; exact hF y; omega)).trans (h.block x hx hF)⟩
theorem Kf.mono {F G : Nat → Prop} {a b : World} (h : Kf F a b) (hG : ∀ x, F x → G x ∨ a.heap.size ≤ x) : Kf G a b :=
  ⟨h.os, h.tape, h.output, h.size, fun x hx hF => h.block x hx (fun g => by rcases hG x g with y | y; exact hF y; omega)⟩
theorem Kf.drewN {F : Nat → Prop} {a b : World} (h : Kf F a b) (q : Nat) : Kf F a (b.drewN q) := ⟨h.os, h.tape, h.output, h.size, h.block⟩
theorem Kf.drew {F : Nat → Prop} {a b : World} (h : Kf F a b) : Kf F a b.drew := ⟨h.os, h.tape, h.output, h.size, h.block⟩
theorem Kf.set {F : Nat → Prop} {a b : World} (h : Kf F a b) {p : Addr} (hp : F p.block ∨ a.heap.size ≤ p.block) (v : Value) : Kf F a (b.setCell p v) :=
  ⟨h.os, h.tape, h.output, by have := h.size; simp only [World.setCell, Array.size_modify]; exact this, fun x hx hF =>
    (Below.heap_setCell _ _ _ _ (fun e => by subst e; rcases hp with y | y; exact hF y; omega)).trans (h.block x hx hF)⟩
theorem Kf.alloc {F : Nat → Prop} {a b : World} (h : Kf F a b) (o : Obj) : Kf F a (b.alloc o) :=
  ⟨h.os, h.tape, h.output, by have := h.size; simp; omega, fun x hx hF => (Below.heap_alloc _ _ _ (Nat.lt_of_lt_of_le hx h.size)).trans (h.block x hx hF)⟩
theorem Kf.grown {F : Nat → Prop} {a b c : World} {row : Option Nat} (h : Kf F a b) (hg : b.grownBy c row) (hr : ∀ g, row = some g → F g ∨ a.heap.size ≤ g) : Kf F a c :=
  ⟨hg.os.trans h.os, hg.tape.trans h.tape, hg.output.trans h.output, Nat.le_trans h.size hg.size, fun x hx hF =>
    (hg.block x (Nat.lt_of_lt_of_le hx h.size) (fun e => by rcases hr x e.symm with y | y; exact hF y; omega)).trans (h.block x hx hF)⟩
theorem Kf.below {F : Nat → Prop} {a b : World} {B : Nat} (h : Kf F a b) (hB : B ≤ a.heap.size) (hF : ∀ x, F x → B ≤ x) : Below B a b :=
  ⟨h.os, h.tape, h.output, h.size, fun x hx => h.block x (by omega) (fun g => by have := hF x g; omega)⟩
theorem Kf.cell {F : Nat → Prop} {a b : World} (h : Kf F a b) {p : Addr} (hp : p.block < a.heap.size) (hF : ¬ F p.block) : b.cell? p = a.cell? p := World.cell?_of_block (h.block _ hp hF)
theorem Kf.of_below {F : Nat → Prop} {a b : World} (h : Below a.heap.size a b) : Kf F a b := ⟨h.os, h.tape, h.output, h.size, fun x hx _ => h.block x hx⟩

/-- A queue at block b: n variables with scores sc at places pl, of which m wait in the order od; its rows' blocks and room. -/
structure Q3 (w : World) (b gs cs gp cp go co ns np m : Nat) (sc pl : Nat → Int) (od : Nat → Nat) : Prop where
  head : ∃ T, w.heap[b]? = some (.cells #[.slice (some ⟨gs, 0, none⟩) ns cs, .slice (some ⟨gp, 0, none⟩) np cp, .slice (some ⟨go, 0, none⟩) m co] T (0, 0))
  scs : Row 2 w gs ns cs sc
  pls : Row 3 w gp np cp pl
  ods : Row 3 w go m co (fun i => (od i : Int))
  ne : b ≠ gs ∧ b ≠ gp ∧ b ≠ go ∧ gs ≠ gp ∧ gs ≠ go ∧ gp ≠ go
/-- A queue of n variables. -/
abbrev QAt (w : World) (b gs cs gp cp go co n m : Nat) (sc pl : Nat → Int) (od : Nat → Nat) : Prop := Q3 w b gs cs gp cp go co (n + 1) (n + 1) m sc pl od
/-- Its blocks. -/
def Foot (b gs gp go : Nat) : Nat → Prop := fun k => k = b ∨ k = gs ∨ k = gp ∨ k = go
section
variable {w w' : World} {b gs cs gp cp go co ns np m : Nat} {sc pl : Nat → Int} {od : Nat → Nat}
theorem Q3.h0 (h : Q3 w b gs cs gp cp go co ns np m sc pl od) : w.cell? ⟨b, 0, none⟩ = some (.slice (some ⟨gs, 0, none⟩) ns cs) := by
  obtain ⟨T, h⟩ := h.head; rw [Lib.cell_of_heap h]; rfl
theorem Q3.h1 (h : Q3 w b gs cs gp cp go co ns np m sc pl od) : w.cell? ⟨b, 1, none⟩ = some (.slice (some ⟨gp, 0, none⟩) np cp) := by
  obtain ⟨T, h⟩ := h.head; rw [Lib.cell_of_heap h]; rfl
theorem Q3.h2 (h : Q3 w b gs cs gp cp go co ns np m sc pl od) : w.cell? ⟨b, 2, none⟩ = some (.slice (some ⟨go, 0, none⟩) m co) := by
  obtain ⟨T, h⟩ := h.head; rw [Lib.cell_of_heap h]; rfl
theorem Q3.free (h : Q3 w b gs cs gp cp go co ns np m sc pl od) (j : Nat) : w.frozen? ⟨b, j, none⟩ = false := by
  obtain ⟨T, h⟩ := h.head; exact Lib.frozen_of_heap h j
theorem Q3.lt (h : Q3 w b gs cs gp cp go co ns np m sc pl od) : b < w.heap.size := by
  obtain ⟨T, h⟩ := h.head
  rcases Nat.lt_or_ge b w.heap.size with h' | h'
  · exact h'
  · rw [Array.getElem?_eq_none h'] at h; cases h
theorem Q3.foot (h : Q3 w b gs cs gp cp go co ns np m sc pl od) : ∀ k, Foot b gs gp go k → k < w.heap.size := by
  rintro k (rfl | rfl | rfl | rfl)
  · exact h.lt
  · exact h.scs.lt
  · exact h.pls.lt
  · exact h.ods.lt
theorem Q3.same (h : Q3 w b gs cs gp cp go co ns np m sc pl od) (hb : ∀ k, Foot b gs gp go k → w'.heap[k]? = w.heap[k]?) : Q3 w' b gs cs gp cp go co ns np m sc pl od := by
  obtain ⟨T, hh⟩ := h.head
  exact ⟨⟨T, by rw [hb b (.inl rfl)]; exact hh⟩, h.scs.same (hb _ (.inr (.inl rfl))), h.pls.same (hb _ (.inr (.inr (.inl rfl)))), h.ods.same (hb _ (.inr (.inr (.inr rfl)))), h.ne⟩
theorem Q3.drewN (h : Q3 w b gs cs gp cp go co ns np m sc pl od) (q : Nat) : Q3 (w.drewN q) b gs cs gp cp go co ns np m sc pl od := h.same fun _ _ => rfl
theorem Q3.kept {F : Nat → Prop} (h : Q3 w b gs cs gp cp go co ns np m sc pl od) (hk : Kf F w w') (hF : ∀ k, Foot b gs gp go k → ¬ F k) : Q3 w' b gs cs gp cp go co ns np m sc pl od :=
  h.same fun k hf => hk.block k (h.foot k hf) (hF k hf)
theorem Q3.setS (h : Q3 w b gs cs gp cp go co ns np m sc pl od) {j : Nat} (hj : j < ns) (x : Int) : Q3 (w.setCell ⟨gs, j, none⟩ (.int .i64 x)) b gs cs gp cp go co ns np m (upd sc j x) pl od := by
  obtain ⟨T, hh⟩ := h.head
  obtain ⟨n1, n2, n3, n4, n5, n6⟩ := h.ne
  exact ⟨⟨T, by rw [Below.heap_setCell _ _ _ _ n1]; exact hh⟩, h.scs.set hj x, h.pls.other (fun e => n4 e) _, h.ods.other (fun e => n5 e) _, h.ne⟩
theorem Q3.setP (h : Q3 w b gs cs gp cp go co ns np m sc pl od) {j : Nat} (hj : j < np) (x : Int) : Q3 (w.setCell ⟨gp, j, none⟩ (.int .i64 x)) b gs cs gp cp go co ns np m sc (upd pl j x) od := by
  obtain ⟨T, hh⟩ := h.head
  obtain ⟨n1, n2, n3, n4, n5, n6⟩ := h.ne
  exact ⟨⟨T, by rw [Below.heap_setCell _ _ _ _ n2]; exact hh⟩, h.scs.other (fun e => n4 e.symm) _, h.pls.set hj x, h.ods.other (fun e => n6 e) _, h.ne⟩
theorem Q3.setO (h : Q3 w b gs cs gp cp go co ns np m sc pl od) {j : Nat} (hj : j < m) (x : Nat) : Q3 (w.setCell ⟨go, j, none⟩ (.int .i64 (x : Int))) b gs cs gp cp go co ns np m sc pl (upd od j x) := by
  obtain ⟨T, hh⟩ := h.head
  obtain ⟨n1, n2, n3, n4, n5, n6⟩ := h.ne
  refine ⟨⟨T, by rw [Below.heap_setCell _ _ _ _ n3]; exact hh⟩, h.scs.other (fun e => n5 e.symm) _, h.pls.other (fun e => n6 e.symm) _, (h.ods.set hj (x : Int)).congr fun k _ => ?_, h.ne⟩
  show ((upd od j x k : Nat) : Int) = upd (fun i => (od i : Int)) j (x : Int) k
  unfold upd; split <;> rfl
theorem Q3.cut (h : Q3 w b gs cs gp cp go co ns np (m + 1) sc pl od) : Q3 (w.setCell ⟨b, 2, none⟩ (.slice (some ⟨go, 0, none⟩) m co)) b gs cs gp cp go co ns np m sc pl od := by
  obtain ⟨T, hh⟩ := h.head
  obtain ⟨n1, n2, n3, n4, n5, n6⟩ := h.ne
  refine ⟨⟨T, by rw [Lib.heap_setCell_same hh]; rfl⟩, h.scs.other (fun e => n1 e) _, h.pls.other (fun e => n2 e) _, (h.ods.less (Nat.le_succ m)).other (fun e => n3 e) _, h.ne⟩
end
end Go.Proofs.Ytffpggdbmfidcaa
