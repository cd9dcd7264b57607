/- When two formulas are the same: plain facts. -/
import Derived.Test.YtcfbnddoknpehaaGreatDoorRsame
import Derived.Test.YtcfbnddoknpehaaGreatDoorRdF
import Derived.Test.YtcfbnddoknpehaaGreatDoorFindL
namespace Go.Proofs.YtcfbnddoknpehaaGreatDoor
open Go.RowKit LitM CnfP

def sameC (cs ds : List (List Int)) : Bool := decide (cs = ds)
theorem sameC_len {cs ds : List (List Int)} (h : cs.length ≠ ds.length) : sameC cs ds = false := by
  unfold sameC; rw [decide_eq_false_iff_not]; intro e; exact h (by rw [e])
theorem sameC_at {cs ds : List (List Int)} {j : Nat} (h : sameB (cs.getD j []) (ds.getD j []) = false) : sameC cs ds = false := by
  unfold sameC; rw [decide_eq_false_iff_not]; intro e
  rw [e] at h
  unfold sameB at h
  simp at h
theorem sameC_yes {cs ds : List (List Int)} (hl : cs.length = ds.length) (h : ∀ j, j < cs.length → sameB (cs.getD j []) (ds.getD j []) = true) : sameC cs ds = true := by
  unfold sameC
  rw [decide_eq_true_iff]
  apply List.ext_getElem hl
  intro i h1 h2
  have := h i h1
  rw [getF_lt h1, getF_lt h2, sameB_iff] at this
  exact this
def sameF (v : Int) (cs : List (List Int)) (u : Int) (ds : List (List Int)) : Bool := decide (v = u) && sameC cs ds

theorem RdF.drewN {w : World} {B n : Nat} {A : Option Addr} {cs : List (List Int)} (h : RdF w B A n cs) (q : Nat) : RdF (w.drewN q) B A n cs := h.keep fun _ _ => rfl
end Go.Proofs.YtcfbnddoknpehaaGreatDoor
