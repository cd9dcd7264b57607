/- Package tree: Right; which kid is the first; numbered, writable. -/
import Derived.Test.YtmkhfcdjgdofnaaDoorTreD
namespace Go.Proofs.YtmkhfcdjgdofnaaDoor
open Go.RowKit TreM WrdM

theorem right_any (X : Ex) (v : Value) (w : World) (h : ExV w X v) :
    Calls Tryd.prog 26 #[v] w fun e w' => e = .returned (.bool (rightB X)) ∧ Below w.heap.size w w' := by
  cases X with
  | mk o n s ks l c =>
  obtain ⟨A, cap, rfl, hB, hK⟩ := h.open
  have HC := Lib.hid (rightP_any _ _ 0 60 _ (box_alloc h) (by decide))
  have HB := Lib.hid (below_alloc w (.cells #[.int .i64 o, .int .i64 n, .string ⟨s.toArray⟩, .slice A ks.length cap, .int .i64 l, .int .i64 c] 24))
  have HE : Hid (rightB (.mk o n s ks l c) = rB 60 (.mk o n s ks l c)) := rfl
  generalize rightB (.mk o n s ks l c) = R at *
  generalize rB 60 (.mk o n s ks l c) = N at *
  generalize ks.length = m at *
  generalize (⟨s.toArray⟩ : ByteArray) = sb at *
  clear h hB hK
  go_enter Tryd.func26, Tryd.ntmps26
  go_wp2_with (refine HC.out.mono ?_; rintro e w' ⟨rfl, hB1⟩)
  go_ret
  exact ⟨ret_bool HE.out.symm, HB.out.trans (hB1.mono HB.out.size)⟩

/-- The value that is loaded from a kid's place. -/
theorem kid_val {W : World} {b p : Nat} {X : Ex} (h : ExP W b p X) : ∃ (o n : Int) (sb : ByteArray) (A : Option Addr) (m cap : Nat) (l c : Int), W.cell? ⟨b, p, none⟩ = some (.int .i64 o) ∧ W.cell? ⟨b, p + 1, none⟩ = some (.int .i64 n) ∧ W.cell? ⟨b, p + 2, none⟩ = some (.string sb) ∧ W.cell? ⟨b, p + 3, none⟩ = some (.slice A m cap) ∧ W.cell? ⟨b, p + 4, none⟩ = some (.int .i64 l) ∧ W.cell? ⟨b, p + 5, none⟩ = some (.int .i64 c) ∧
    ExV W X (.agg #[.int .i64 o, .int .i64 n, .string sb, .slice A m cap, .int .i64 l, .int .i64 c]) := by
  cases X with
  | mk o n s ks l c =>
  obtain ⟨A, cap, h6, _, _⟩ := h.open
  exact ⟨_, _, _, _, _, _, _, _, h6.c0, h6.c1, h6.c2, h6.c3, h6.c4, h6.c5, h.val h6⟩
theorem any_take {ks : List Ex} {f : Ex → Bool} (h : ∀ j x, j < ks.length → ks[j]? = some x → f x = false) : ks.any f = false := by
  rw [Bool.eq_false_iff]
  intro e
  obtain ⟨x, hx, hf⟩ := List.any_eq_true.1 e
  obtain ⟨j, hj⟩ := List.getElem?_of_mem hx
  have := h j x (by
    rcases Nat.lt_or_ge j ks.length with h' | h'
    · exact h'
    · rw [List.getElem?_eq_none h'] at hj; cases hj) hj
  rw [this] at hf
  cases hf

theorem hasL_any (p : Int) : ∀ ks : List Ex, hasL p ks = ks.any (hasOp p)
  | [] => rfl
  | y :: ys => by rw [hasL, List.any_cons, hasL_any p ys]
end Go.Proofs.YtmkhfcdjgdofnaaDoor
