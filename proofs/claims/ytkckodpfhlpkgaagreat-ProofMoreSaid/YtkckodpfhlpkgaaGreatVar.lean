/- The contract of lit.Var; what all walks import. -/
import Derived.Test.YtkckodpfhlpkgaaGreatRows
import Derived.Test.YtkckodpfhlpkgaaGreatLitM
import Derived.WalkKit
import Derived.Below
import Derived.Lib.Hide
import Derived.BigQuiet
import Derived.Deep.QuietTactic
import Derived.BigGuardPart
import Derived.WalkLawsBesides
import Derived.WalkSpells
namespace Go.Proofs.YtkckodpfhlpkgaaGreat
open Go.RowKit LitM

theorem ret_int {k : IntKind} {a b : Int} (h : a = b) : Ending.returned (.int k a) = .returned (.int k b) := by rw [h]
theorem ret_bool {a b : Bool} (h : a = b) : Ending.returned (.bool a) = .returned (.bool b) := by rw [h]

set_option maxHeartbeats 400000 in
theorem var_any (l : Int) (w : World) (h0 : -2147483648 ≤ l) (h1 : l ≤ 2147483647) :
    Calls Tryz.prog 28 #[.int .i32 l] w fun e w' => e = .returned (.int .i64 (varZ l)) ∧ w = w' := by
  by_cases hn : l < 0
  · by_cases hb : 262144 < -l
    · have EV := Lib.hid (varZ_out ((one_false l).2 (by omega)))
      go_enter Tryz.func28, Tryz.ntmps28
      go_wp2
      all_goals (go_ret; exact ⟨ret_int (by rw [EV.out]), rfl⟩)
    · have EV := Lib.hid (varZ_neg (l := l) (by omega) (by omega))
      go_enter Tryz.func28, Tryz.ntmps28
      go_wp2
      all_goals (go_ret; exact ⟨ret_int (by rw [EV.out]), rfl⟩)
  · by_cases hz : l = 0
    · subst hz
      go_enter Tryz.func28, Tryz.ntmps28
      go_wp2
      all_goals (go_ret; exact ⟨ret_int (by decide), rfl⟩)
    by_cases hb : 262144 < l
    · have EV := Lib.hid (varZ_out ((one_false l).2 (by omega)))
      have hm : max l (-l) = l := by omega
      go_enter Tryz.func28, Tryz.ntmps28
      go_wp2
      all_goals (go_ret; exact ⟨ret_int (by rw [EV.out]), rfl⟩)
    · have EV := Lib.hid (varZ_pos (l := l) (by omega) (by omega))
      go_enter Tryz.func28, Tryz.ntmps28
      go_wp2
      all_goals (go_ret; exact ⟨ret_int (by rw [EV.out]), rfl⟩)

end Go.Proofs.YtkckodpfhlpkgaaGreat
