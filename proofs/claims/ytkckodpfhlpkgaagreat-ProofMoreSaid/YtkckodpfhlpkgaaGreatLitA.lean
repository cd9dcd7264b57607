/- Contracts of lit.Not, Place. -/
import Derived.Test.YtkckodpfhlpkgaaGreatVar
namespace Go.Proofs.YtkckodpfhlpkgaaGreat
open Go.RowKit LitM

set_option maxHeartbeats 400000 in
theorem not_any (l : Int) (w : World) (h0 : -2147483648 ≤ l) (h1 : l ≤ 2147483647) :
    Calls Tryz.prog 39 #[.int .i32 l] w fun e w' => e = .returned (.int .i32 (notZ l)) ∧ w = w' := by
  by_cases h : one l = true
  · have EV : Hid (notZ l = -l) := by simp [notZ, h, Hid]
    have hb := (one_iff l).1 h
    have hv : (varZ l == 0) = false := by
      have : varZ l ≠ 0 := fun e => by rw [(varZ_zero l).1 e] at h; cases h
      simpa using this
    clear h
    go_enter Tryz.func39, Tryz.ntmps39
    go_wp2_with (go_at_call 28; refine (var_any _ _ (by omega) (by omega)).mono ?_; rintro e w' ⟨rfl, rfl⟩)
    all_goals (go_ret; exact ⟨ret_int (by rw [EV.out]), rfl⟩)
  · have h' : one l = false := by simpa using h
    have EV : Hid (notZ l = 0) := by simp [notZ, h', Hid]
    have hv : (varZ l == 0) = true := by rw [varZ_out h']; rfl
    clear h h'
    go_enter Tryz.func39, Tryz.ntmps39
    go_wp2_with (go_at_call 28; refine (var_any _ _ (by omega) (by omega)).mono ?_; rintro e w' ⟨rfl, rfl⟩)
    all_goals (go_ret; exact ⟨ret_int (by rw [EV.out]), rfl⟩)

set_option maxHeartbeats 400000 in
theorem place_any (l : Int) (w : World) (h0 : -2147483648 ≤ l) (h1 : l ≤ 2147483647) :
    Calls Tryz.prog 75 #[.int .i32 l] w fun e w' => e = .returned (.int .i64 (placeZ l)) ∧ w = w' := by
  have hvb := varZ_bd l
  by_cases h : one l = true
  · have hb := (one_iff l).1 h
    by_cases hn : l < 0
    · have EV := Lib.hid (placeZ_neg (l := l) (by omega) (by omega))
      have e := varZ_neg (l := l) (by omega) (by omega)
      have hp : decide (0 < 2 * varZ l) = true := by rw [e]; simp; omega
      have hp' : 0 < varZ l := by rw [e]; omega
      have E := Lib.hid e
      clear h e
      go_enter Tryz.func75, Tryz.ntmps75
      go_wp2_with (go_at_call 28; refine (var_any _ _ (by omega) (by omega)).mono ?_; rintro e w' ⟨rfl, rfl⟩)
      all_goals (go_ret; exact ⟨ret_int (by rw [EV.out, E.out]), rfl⟩)
    · have EV := Lib.hid (placeZ_pos (l := l) (by omega) (by omega))
      have e := varZ_pos (l := l) (by omega) (by omega)
      have hp' : 0 < varZ l := by rw [e]; omega
      have E := Lib.hid e
      clear h e
      go_enter Tryz.func75, Tryz.ntmps75
      go_wp2_with (go_at_call 28; refine (var_any _ _ (by omega) (by omega)).mono ?_; rintro e w' ⟨rfl, rfl⟩)
      all_goals (go_ret; exact ⟨ret_int (by rw [EV.out, E.out]), rfl⟩)
  · have h' : one l = false := by simpa using h
    have EV := Lib.hid (placeZ_out h')
    have e := varZ_out h'
    have hp' : ¬ 0 < varZ l := by rw [e]; omega
    have E := Lib.hid e
    clear h h' e
    go_enter Tryz.func75, Tryz.ntmps75
    go_wp2_with (go_at_call 28; refine (var_any _ _ (by omega) (by omega)).mono ?_; rintro e w' ⟨rfl, rfl⟩)
    all_goals (go_ret; exact ⟨ret_int (by rw [EV.out, E.out]; rfl), rfl⟩)
end Go.Proofs.YtkckodpfhlpkgaaGreat
