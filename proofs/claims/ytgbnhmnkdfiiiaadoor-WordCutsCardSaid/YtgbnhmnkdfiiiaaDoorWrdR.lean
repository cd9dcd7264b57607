/- Words in memory, one by one; faults in a box. -/
import Derived.Test.YtgbnhmnkdfiiiaaDoorWrdI
import Derived.Test.YtgbnhmnkdfiiiaaDoorWrdJ
namespace Go.Proofs.YtgbnhmnkdfiiiaaDoor
open Go.RowKit WrdM

theorem tkC_at : ∀ (ts : List Tok) (i k : Nat) (t : Tok), ts[i]? = some t → k < 5 → (ts.flatMap tokC)[i * 5 + k]? = (tokC t)[k]?
  | [], i, k, t, h, _ => by simp at h
  | x :: xs, 0, k, t, h, hk => by
    have : x = t := by simpa using h
    subst this
    rw [List.flatMap_cons, Nat.zero_mul, Nat.zero_add, List.getElem?_append_left (by show k < 5; exact hk)]
  | x :: xs, i + 1, k, t, h, hk => by
    rw [List.flatMap_cons, List.getElem?_append_right (by show 5 ≤ _; omega), show (i + 1) * 5 + k - (tokC x).length = i * 5 + k from by show (i + 1) * 5 + k - 5 = _; omega]
    exact tkC_at xs i k t (by simpa using h) hk
theorem tkF_at (ts : List Tok) (i k : Nat) (t : Tok) (h : ts[i]? = some t) (hk : k < 5) : tkF ts (i * 5 + k) = (tokC t).getD k (.int .i64 0) := by
  unfold tkF
  rw [List.getD_eq_getElem?_getD, tkC_at ts i k t h hk, List.getD_eq_getElem?_getD]
/-- The cells of a word. -/
structure TokAt (W : World) (g i : Nat) (t : Tok) : Prop where
  k : W.cell? ⟨g, i * 5, none⟩ = some (.int .i64 t.kind)
  x : W.cell? ⟨g, i * 5 + 1, none⟩ = some (.string ⟨t.text.toArray⟩)
  n : W.cell? ⟨g, i * 5 + 2, none⟩ = some (.int .i64 t.num)
  l : W.cell? ⟨g, i * 5 + 3, none⟩ = some (.int .i64 t.line)
  c : W.cell? ⟨g, i * 5 + 4, none⟩ = some (.int .i64 t.col)
/-- Words that can be read. -/
def RdT (W : World) (g : Nat) (ts : List Tok) : Prop := g < W.heap.size ∧ ∀ i t, ts[i]? = some t → TokAt W g i t
theorem rdT_of {W : World} {A : Option Addr} {c : Nat} {ts : List Tok} (h : SlV 33 5 W A ts.length c (tkF ts)) (hn : 0 < ts.length) : ∃ g, A = some ⟨g, 0, none⟩ ∧ RdT W g ts ∧ ts.length ≤ c ∧ c ≤ 9223372036854775807 := by
  have hbd := h.bd
  obtain ⟨g, hA, hg, hc⟩ := row_cell h hn
  refine ⟨g, hA, ⟨hg, fun i t ht => ?_⟩, hbd⟩
  have hi : i < ts.length := by
    rcases Nat.lt_or_ge i ts.length with h | h
    · exact h
    · rw [List.getElem?_eq_none h] at ht; cases ht
  have key : ∀ k, k < 5 → W.cell? ⟨g, i * 5 + k, none⟩ = some ((tokC t).getD k (.int .i64 0)) := fun k hk => by
    rw [hc _ (by omega), tkF_at ts i k t ht hk]
  exact ⟨key 0 (by decide), key 1 (by decide), key 2 (by decide), key 3 (by decide), key 4 (by decide)⟩
theorem RdT.below {W W' : World} {g : Nat} {ts : List Tok} (h : RdT W g ts) {B : Nat} (hb : Below B W W') (hB : g < B) : RdT W' g ts := by
  have hc : ∀ j, W'.cell? ⟨g, j, none⟩ = W.cell? ⟨g, j, none⟩ := fun j => hb.cell (p := ⟨g, j, none⟩) hB
  refine ⟨Nat.lt_of_lt_of_le h.1 hb.size, fun i t ht => ?_⟩
  obtain ⟨a, b, c, d, e⟩ := h.2 i t ht
  exact ⟨by rw [hc]; exact a, by rw [hc]; exact b, by rw [hc]; exact c, by rw [hc]; exact d, by rw [hc]; exact e⟩
theorem RdT.drew {W : World} {g : Nat} {ts : List Tok} (h : RdT W g ts) : RdT W.drew g ts := h.below (Below.drew (Below.refl W.heap.size W)) h.1
theorem RdT.drewN {W : World} {g : Nat} {ts : List Tok} (h : RdT W g ts) (q : Nat) : RdT (W.drewN q) g ts := h.below (B := W.heap.size) ⟨rfl, rfl, rfl, Nat.le_refl _, fun _ _ => rfl⟩ h.1
theorem below_drewN {B : Nat} {w W : World} (h : Below B w W) (q : Nat) : Below B w (W.drewN q) := ⟨h.os, h.tape, h.output, h.size, h.block⟩
/-- A fault in a box of the law's own. -/
theorem flt_box (w : World) (a b c : Value) {W : World} (hb : Below (w.heap.size + 1) (w.alloc (.cells #[a, b, c] 25)) W) :
    W.cell? ⟨w.heap.size, 0, none⟩ = some a ∧ W.cell? ⟨w.heap.size, 1, none⟩ = some b ∧ W.cell? ⟨w.heap.size, 2, none⟩ = some c :=
  cells3 ((hb.block w.heap.size (by omega)).trans (blk_new w _))
theorem size_alloc (w : World) (o : Obj) : (w.alloc o).heap.size = w.heap.size + 1 := by simp
end Go.Proofs.YtgbnhmnkdfiiiaaDoor
