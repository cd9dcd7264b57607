/- The contract of lit.Var; what all walks import. -/
import Derived.Test.YtmiifhclcknhdaaRows
import Derived.Test.YtmiifhclcknhdaaLitM
import Derived.WalkKit
import Derived.Below
import Derived.Lib.Hide
import Derived.BigQuiet
import Derived.Deep.QuietTactic
import Derived.BigGuardPart
import Derived.WalkLawsBesides
import Derived.WalkSpells
namespace Go.Proofs.Ytmiifhclcknhdaa
open Go.RowKit LitM

theorem ret_int {k : IntKind} {a b : Int} (h : a = b) : Ending.returned (.int k a) = .returned (.int k b) := by rw [h]
theorem ret_bool {a b : Bool} (h : a = b) : Ending.returned (.bool a) = .returned (.bool b) := by rw [h]

end Go.Proofs.Ytmiifhclcknhdaa
