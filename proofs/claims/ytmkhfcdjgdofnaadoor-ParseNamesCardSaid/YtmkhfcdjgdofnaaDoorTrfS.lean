/- The plain answer of layer 14: Sign (cut out of TrNm). -/
import Derived.Test.YtmkhfcdjgdofnaaDoorParG
namespace Go.Proofs.YtmkhfcdjgdofnaaDoor
open Go.RowKit TreM WrdM

theorem sgT : ∀ j : Nat, j < 26 → signT.getD j [] = signE ((j : Int) + 5) := by decide
abbrev sgV : Array Value := #[.string ⟨#[45]⟩, .string ⟨#[33]⟩, .string ⟨#[88]⟩, .string ⟨#[70]⟩, .string ⟨#[71]⟩, .string ⟨#[89]⟩, .string ⟨#[90]⟩, .string ⟨#[79]⟩, .string ⟨#[72]⟩, .string ⟨#[42]⟩, .string ⟨#[43]⟩, .string ⟨#[45]⟩, .string ⟨#[61]⟩, .string ⟨#[33, 61]⟩, .string ⟨#[60]⟩, .string ⟨#[60, 61]⟩, .string ⟨#[62]⟩, .string ⟨#[62, 61]⟩, .string ⟨#[85]⟩, .string ⟨#[82]⟩, .string ⟨#[83]⟩, .string ⟨#[84]⟩, .string ⟨#[38]⟩, .string ⟨#[124]⟩, .string ⟨#[45, 62]⟩, .string ⟨#[60, 45, 62]⟩]
theorem sgV_at : ∀ j : Nat, j < 26 → sgV[j]? = some (.string ⟨(signT.getD j []).toArray⟩) := by
  intro j hj
  match j, hj with
  | 0, _ => rfl | 1, _ => rfl | 2, _ => rfl | 3, _ => rfl | 4, _ => rfl | 5, _ => rfl | 6, _ => rfl | 7, _ => rfl | 8, _ => rfl | 9, _ => rfl | 10, _ => rfl | 11, _ => rfl | 12, _ => rfl
  | 13, _ => rfl | 14, _ => rfl | 15, _ => rfl | 16, _ => rfl | 17, _ => rfl | 18, _ => rfl | 19, _ => rfl | 20, _ => rfl | 21, _ => rfl | 22, _ => rfl | 23, _ => rfl | 24, _ => rfl | 25, _ => rfl
  | j + 26, h => exact absurd h (by omega)
set_option maxHeartbeats 1600000 in
set_option maxRecDepth 100000 in
theorem psign_any (o : Int) (w : World) : Calls Tryd.prog 37 #[.int .i64 o] w fun e w' => e = .returned (.string ⟨(signE o).toArray⟩) ∧ Below w.heap.size w w' := by
  by_cases h1 : o < 5
  · have t1 : decide (o < 5) = true := decide_eq_true h1
    have hE : signE o = [] := by unfold signE; rw [if_neg (by omega)]
    rw [hE]
    go_enter Tryd.func37, Tryd.ntmps37
    go_wp2
    go_ret
    exact ⟨rfl, Below.refl _ _⟩
  have t1 : decide (o < 5) = false := decide_eq_false h1
  by_cases h2 : 30 < o
  · have t2 : decide ((30 : Int) < o) = true := decide_eq_true h2
    have hE : signE o = [] := by unfold signE; rw [if_neg (by omega)]
    rw [hE]
    go_enter Tryd.func37, Tryd.ntmps37
    go_wp2
    go_ret
    exact ⟨rfl, Below.refl _ _⟩
  have t2 : decide ((30 : Int) < o) = false := decide_eq_false h2
  obtain ⟨j, hj⟩ := Int.eq_ofNat_of_zero_le (show 0 ≤ o - 5 by omega)
  have ho : o = (j : Int) + 5 := by omega
  subst ho
  have hj26 : j < 26 := by omega
  rw [← sgT j hj26]
  have hc : (w.alloc (.cells sgV 9)).cell? ⟨w.heap.size, j, none⟩ = some (.string ⟨(signT.getD j []).toArray⟩) := by
    rw [Lib.cell_of_heap (blk_new w _)]; exact sgV_at j hj26
  have hb := below_alloc w (.cells sgV 9)
  have hw5 : (j : Int) + 5 - 5 = (j : Int) := by omega
  generalize signT.getD j [] = sg at *
  go_enter Tryd.func37, Tryd.ntmps37
  go_wp2_with fail
  go_ret
  exact ⟨rfl, hb⟩
end Go.Proofs.YtmkhfcdjgdofnaaDoor
