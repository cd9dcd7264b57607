/- cnf.Write of what can be no formula. -/
import Derived.Test.YtamfbnmpllogbaaGreatDoorRightG
import Derived.Test.YtamfbnmpllogbaaGreatDoorHoldsM
namespace Go.Proofs.YtamfbnmpllogbaaGreatDoor
open Go.RowKit LitM CnfP

set_option maxHeartbeats 1600000 in
theorem write_no (v : Int) (A : Option Addr) (n c : Nat) (cs : List (List Int)) (w : World) (h : RdF w w.heap.size A n cs) (hr : Ok32 cs) (hn : n ≤ 9223372036854775807) (hv0 : -9223372036854775808 ≤ v) (hv1 : v ≤ 9223372036854775807) (hrt : rightF v cs = false) :
    Calls Tryz.prog 10 #[.agg #[.int .i64 v, .slice A n c]] w fun e w' => e = .returned (.tuple #[.string ⟨#[]⟩, .int .i64 21]) ∧ Below w.heap.size w w' := by
  have hB0 := boxF_below w v A n c
  have HB0 := Lib.hid hB0
  have hcon := rightF_any v A n c cs _ ((h.below hB0).more hB0.size) hr hn hv0 hv1
  rw [hrt] at hcon
  unfold boxF at hcon
  have HC := Lib.hid hcon
  clear hcon h hB0
  go_enter Tryz.func10, Tryz.ntmps10
  go_wp2_with fail
  refine HC.out.mono ?_
  rintro e w1 ⟨rfl, hB1⟩
  have HB1 := Lib.hid (HB0.out.trans (hB1.mono HB0.out.size))
  clear hB1
  go_wp2_with fail
  go_ret2
  exact ⟨rfl, HB1.out⟩
end Go.Proofs.YtamfbnmpllogbaaGreatDoor
