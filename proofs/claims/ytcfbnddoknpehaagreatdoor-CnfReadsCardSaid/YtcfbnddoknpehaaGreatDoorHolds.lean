/- The contracts of cnf.holds, cnf.False, cnf.Holds. -/
import Derived.Test.YtcfbnddoknpehaaGreatDoorRightG
import Derived.Test.YtcfbnddoknpehaaGreatDoorHoldsM
namespace Go.Proofs.YtcfbnddoknpehaaGreatDoor
open Go.RowKit LitM CnfP

theorem eg_holds1 : ∀ args w, (callFunc 35 args).run Tryz.prog w = .ok (.enter 35 args) w := enters_of Tryz.func35 (by kernel_rfl) rfl
theorem eg_false1 : ∀ args w, (callFunc 18 args).run Tryz.prog w = .ok (.enter 18 args) w := enters_of Tryz.func18 (by kernel_rfl) rfl

set_option maxHeartbeats 400000 in
theorem holds1_says (G : Nat) (A : Option Addr) (n c : Nat) (bs : List Bool) (w : World) (hg : w.cell? ⟨G, 0, none⟩ = some (.slice A n c)) (B : Nat) (hb : RdB w B A n bs) (hn : n ≤ 9223372036854775807) (x : Int) (h0 : -2147483648 ≤ x) (h1 : x ≤ 2147483647) (hx0 : 1 ≤ varZ x) (hx1 : varZ x ≤ n) :
    Says 35 #[.pointer (some ⟨G, 0, none⟩)] (Value.int .i32) (trueB bs) w x := by
  intro q
  have hg' : (w.drewN q).cell? ⟨G, 0, none⟩ = some (.slice A n c) := hg
  obtain ⟨m, hm⟩ : ∃ m : Nat, varZ x = (m : Int) + 1 := ⟨(varZ x - 1).toNat, by omega⟩
  have hmn : m < n := by omega
  obtain ⟨b, o, rfl, hbB, hc⟩ := hb.get hmn
  have hc' : (w.drewN q).cell? ⟨b, o + m, none⟩ = some (.bool (bs.getD m false)) := hc
  have ET : Hid (trueB bs x = (bs.getD m false == decide (0 < x))) := by
    unfold Hid trueB
    rw [hm]
    have : ((m : Int) + 1 - 1).toNat = m := by omega
    rw [this]
  have hvar : ∀ W : World, Calls Tryz.prog 36 #[.int .i32 x] W fun e w' => e = .returned (.int .i64 ((m : Int) + 1)) ∧ w' = W := fun W => by rw [← hm]; exact var_q x W h0 h1
  have HV := Lib.hid hvar
  generalize hW : w.drewN q = W at *
  have HW := Lib.hid hW; clear hW hvar hm hc hg hb hx0 hx1
  have hi1 : IntKind.i64.wrap ((m : Int) + 1 - 1) = (m : Int) := by simp [IntKind.wrap, IntKind.bits, IntKind.signed]; omega
  rcases bs.getD m false with _ | _
  all_goals
    by_cases hp : 0 < x
    all_goals
      show Calls Tryz.prog 35 #[.int .i32 x, .pointer (some ⟨G, 0, none⟩)] W _
      go_enter Tryz.func35, Tryz.ntmps35
      go_wp2
      go_quiet ((go_at_call 36; exact Calls.quiet_of_same (HV.out _)))
      go_wp2
      all_goals (go_ret; exact ⟨ret_bool (by rw [ET.out]; simp [hp]), _, by rw [← HW.out]; exact World.drewN_drewN _ _ _⟩)
end Go.Proofs.YtcfbnddoknpehaaGreatDoor
