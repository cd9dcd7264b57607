/- Contracts of the plain answers' One, Var. -/
import Derived.Test.YtmiifhclcknhdaaVar
namespace Go.Proofs.Ytmiifhclcknhdaa
open Go.RowKit LitM

set_option maxHeartbeats 400000 in
theorem rone_any (l : Int) (w : World) :
    Calls Try.prog 51 #[.int .i32 l] w fun e w' => e = .returned (.bool (one l)) ∧ w = w' := by
  by_cases h1 : 1 ≤ l
  · by_cases h2 : l ≤ 262144
    · have EV : Hid (one l = true) := (one_iff l).2 (by omega)
      go_enter Try.func51, Try.ntmps51
      go_wp2
      all_goals (go_ret; exact ⟨ret_bool (by rw [EV.out]), rfl⟩)
    · have EV : Hid (one l = false) := (one_false l).2 (by omega)
      go_enter Try.func51, Try.ntmps51
      go_wp2
      all_goals (go_ret; exact ⟨ret_bool (by rw [EV.out]), rfl⟩)
  · by_cases h3 : l ≤ -1
    · by_cases h4 : -262144 ≤ l
      · have EV : Hid (one l = true) := (one_iff l).2 (by omega)
        go_enter Try.func51, Try.ntmps51
        go_wp2
        all_goals (go_ret; exact ⟨ret_bool (by rw [EV.out]), rfl⟩)
      · have EV : Hid (one l = false) := (one_false l).2 (by omega)
        go_enter Try.func51, Try.ntmps51
        go_wp2
        all_goals (go_ret; exact ⟨ret_bool (by rw [EV.out]), rfl⟩)
    · have EV : Hid (one l = false) := (one_false l).2 (by omega)
      go_enter Try.func51, Try.ntmps51
      go_wp2
      all_goals (go_ret; exact ⟨ret_bool (by rw [EV.out]), rfl⟩)

set_option maxHeartbeats 400000 in
theorem rvar_any (l : Int) (w : World) (h0 : -2147483648 ≤ l) (h1 : l ≤ 2147483647) :
    Calls Try.prog 52 #[.int .i32 l] w fun e w' => e = .returned (.int .i64 (varZ l)) ∧ w = w' := by
  rcases hone : one l with _ | _
  · have EV := Lib.hid (varZ_out hone)
    go_enter Try.func52, Try.ntmps52
    go_wp2_with (go_at_call 51; refine (rone_any _ _).mono ?_; rintro e w' ⟨rfl, rfl⟩)
    all_goals (go_ret; exact ⟨ret_int (by rw [EV.out]), rfl⟩)
  · have hb := (one_iff l).1 hone
    by_cases hn : l < 0
    · have EV := Lib.hid (varZ_neg (l := l) (by omega) (by omega))
      go_enter Try.func52, Try.ntmps52
      go_wp2_with (go_at_call 51; refine (rone_any _ _).mono ?_; rintro e w' ⟨rfl, rfl⟩)
      all_goals (go_ret; exact ⟨ret_int (by rw [EV.out]), rfl⟩)
    · have EV := Lib.hid (varZ_pos (l := l) (by omega) (by omega))
      go_enter Try.func52, Try.ntmps52
      go_wp2_with (go_at_call 51; refine (rone_any _ _).mono ?_; rintro e w' ⟨rfl, rfl⟩)
      all_goals (go_ret; exact ⟨ret_int (by rw [EV.out]), rfl⟩)
end Go.Proofs.Ytmiifhclcknhdaa
