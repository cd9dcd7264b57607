/- Contracts of byPlace, and of the plain answers' One, Var, before. -/
import Derived.Test.YtjhopjokllkipaaLitA
import Derived.Test.YtjhopjokllkipaaRone
import Derived.Test.YtjhopjokllkipaaShelf
import Derived.Shelf.SlicesG.Cmp
namespace Go.Proofs.Ytjhopjokllkipaa
open Go.RowKit Go.Shelf LitM

/-- Does one come ahead of another one? -/
def beforeB (a b : Int) : Bool := decide (varZ a < varZ b ∨ (varZ a = varZ b ∧ b < a))
set_option maxHeartbeats 400000 in
theorem rbefore_any (a b : Int) (w : World) (h0 : -2147483648 ≤ a) (h1 : a ≤ 2147483647) (h2 : -2147483648 ≤ b) (h3 : b ≤ 2147483647) :
    Calls Try.prog 49 #[.int .i32 a, .int .i32 b] w fun e w' => e = .returned (.bool (beforeB a b)) ∧ w = w' := by
  by_cases h : varZ a < varZ b
  · have EV : Hid (beforeB a b = true) := by unfold Hid beforeB; simp [h]
    go_enter Try.func49, Try.ntmps49
    go_wp2_with (go_at_call 46; refine (rvar_any _ _ (by omega) (by omega)).mono ?_; rintro e w' ⟨rfl, rfl⟩)
    all_goals (go_ret; exact ⟨ret_bool (by rw [EV.out]), rfl⟩)
  · by_cases he : varZ a = varZ b
    · have hb : (varZ a == varZ b) = true := by simpa using he
      by_cases hlt : b < a
      all_goals
        have EV : Hid (beforeB a b = decide (b < a)) := by unfold Hid beforeB; simp [he]
        clear he
        go_enter Try.func49, Try.ntmps49
        go_wp2_with (go_at_call 46; refine (rvar_any _ _ (by omega) (by omega)).mono ?_; rintro e w' ⟨rfl, rfl⟩)
        all_goals (go_ret; exact ⟨ret_bool (by first | (exfalso; omega) | (rw [EV.out]; done) | (rw [EV.out]; simp [hlt]; done)), rfl⟩)
    · have hb : (varZ a == varZ b) = false := by simpa using he
      have EV : Hid (beforeB a b = false) := by unfold Hid beforeB; simp [he, h]
      clear he
      go_enter Try.func49, Try.ntmps49
      go_wp2_with (go_at_call 46; refine (rvar_any _ _ (by omega) (by omega)).mono ?_; rintro e w' ⟨rfl, rfl⟩)
      all_goals (go_ret; exact ⟨ret_bool (by rw [EV.out]), rfl⟩)

/-- The order of the places. -/
def cfP (a b : Int) : Int := Lib.compareInt (placeZ a) (placeZ b)
set_option maxHeartbeats 400000 in
theorem byPlace_any (a b : Int) (w : World) (h0 : -2147483648 ≤ a) (h1 : a ≤ 2147483647) (h2 : -2147483648 ≤ b) (h3 : b ≤ 2147483647) :
    Calls Try.prog 58 #[.int .i32 a, .int .i32 b] w fun e w' => e = .returned (.int .i64 (cfP a b)) ∧ w = w' := by
  have hcon := AnyG.cmp_Compare_int Try.cmpL (placeZ a) (placeZ b) w
  change Calls Try.prog 77 _ _ _ at hcon
  unfold cfP
  generalize Lib.compareInt (placeZ a) (placeZ b) = r at hcon ⊢
  have H := Lib.hid hcon; clear hcon
  go_enter Try.func58, Try.ntmps58
  go_wp2_with fail
  refine (place_any _ _ (by omega) (by omega)).mono ?_
  rintro e w' ⟨rfl, rfl⟩
  go_wp2_with fail
  refine (place_any _ _ (by omega) (by omega)).mono ?_
  rintro e w' ⟨rfl, rfl⟩
  go_wp2_with fail
  refine H.out.mono ?_
  rintro e w' ⟨rfl, rfl⟩
  go_wp2_with fail
  go_ret
  exact ⟨rfl, rfl⟩
end Go.Proofs.Ytjhopjokllkipaa
