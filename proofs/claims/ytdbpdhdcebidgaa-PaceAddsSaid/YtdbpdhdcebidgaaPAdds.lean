/- PaceAdds is true: the statement Rows.PaceAddsSaid, without a condition. -/
import Derived.Test.YtdbpdhdcebidgaaPacW
import Derived.Test.YtdbpdhdcebidgaaRows
namespace Go.Proofs.Ytdbpdhdcebidgaa.PAdds
open Go.ChangeShapes Go.WideShapes Go.ChangeAt Go.RowKit PacM
theorem adds : ∀ k : Nat, k < 13 → 1 ≤ k → 2 * sumL (2 ^ k - 1) = k * 2 ^ k ∧ 2 * onesL (2 ^ k - 1) = max (2 ^ k) 2 ∧ lub (2 ^ k - 1) = 2 ^ (k - 1) := by decide +kernel
set_option maxHeartbeats 3200000 in
set_option maxRecDepth 100000 in
theorem walk (k : Int) (w : World) : Calls Try.prog 7 #[.int .i64 k] w fun e w' => e = .returned (.bool true) ∧ Below w.heap.size w w' := by
  have HA := Lib.hid (alive_any w)
  have HL := Lib.hid luby_any
  by_cases hk : k < 1 ∨ 12 < k
  · rcases hk with hk | hk
    · have t1 : decide (k < 1) = true := decide_eq_true hk
      go_enter Try.func7, Try.ntmps7
      go_wp2_with fail
      refine HA.out.mono ?_
      rintro e w1 ⟨rfl, hB⟩
      have HB := Lib.hid hB
      clear hB HA
      go_wp2_with fail
      go_ret
      exact ⟨rfl, HB.out⟩
    · have t1 : decide (k < 1) = false := decide_eq_false (by omega)
      have t2 : decide (12 < k) = true := decide_eq_true hk
      go_enter Try.func7, Try.ntmps7
      go_wp2_with fail
      refine HA.out.mono ?_
      rintro e w1 ⟨rfl, hB⟩
      have HB := Lib.hid hB
      clear hB HA
      go_wp2_with fail
      go_ret
      exact ⟨rfl, HB.out⟩
  obtain ⟨K, rfl⟩ := Int.eq_ofNat_of_zero_le (show 0 ≤ k by omega)
  have hk1 : 1 ≤ K := by omega
  have hk2 : K ≤ 12 := by omega
  have t1 : decide ((K : Int) < 1) = false := decide_eq_false (by omega)
  have t2 : decide (12 < (K : Int)) = false := decide_eq_false (by omega)
  have HX := Lib.hid (adds K (by omega) hk1)
  have hpb : 2 ^ K ≤ 4096 := Nat.le_trans (Nat.pow_le_pow_right (by omega) hk2) (by decide)
  have hpp : 2 ≤ 2 ^ K := Nat.le_trans (by decide) (Nat.pow_le_pow_right (n := 2) (by omega) hk1)
  have hP : wrap64 ((2 : Int) ^ K) = ((2 ^ K : Nat) : Int) := by
    rw [show (2 : Int) ^ K = ((2 ^ K : Nat) : Int) by simp]
    generalize 2 ^ K = p at *
    simp only [wrap64]; omega
  have hP2 : wrap64 ((2 : Int) ^ (K - 1)) = ((2 ^ (K - 1) : Nat) : Int) := by
    rw [show (2 : Int) ^ (K - 1) = ((2 ^ (K - 1) : Nat) : Int) by simp]
    have : 2 ^ (K - 1) ≤ 2 ^ K := Nat.pow_le_pow_right (by omega) (by omega)
    generalize 2 ^ K = p at *
    generalize 2 ^ (K - 1) = p2 at *
    simp only [wrap64]; omega
  clear hk
  generalize 2 ^ (K - 1) = p2 at *
  generalize 2 ^ K = p at *
  go_enter Try.func7, Try.ntmps7
  go_wp2_with fail
  refine HA.out.mono ?_
  rintro e w1 ⟨rfl, hB⟩
  have HB := Lib.hid hB
  clear hB HA
  go_wp2_with fail
  go_loopw [3, 4, 5] (fun sv ov iv wr => ∃ i : Nat, sv = .int .i64 (sumL i) ∧ ov = .int .i64 (onesL i) ∧ iv = .int .i64 ((i + 1 : Nat) : Int) ∧ i + 1 ≤ p ∧ w1 = wr) (fun _ _ iv _ => p - (intOf iv).toNat)
  case atStart => exact ⟨0, rfl, rfl, rfl, by omega, by first | rfl | trivial⟩
  case round =>
    obtain ⟨i, rfl, rfl, rfl, hi, rfl⟩ := hrel
    have hsu : sumL i ≤ 16777216 := by
      have h1 := sum_ub i (by omega)
      have h2 : i * i ≤ 4096 * 4096 := Nat.mul_le_mul (by omega) (by omega)
      omega
    have hou := ones_ub i
    by_cases hlt : i + 1 < p
    · have q1 : decide (i + 1 < p) = true := decide_eq_true hlt
      have q2 : decide (((i + 1 : Nat) : Int) < (p : Int)) = true := decide_eq_true (by omega)
      have HLi := Lib.hid (HL.out ((i + 1 : Nat) : Int) w1)
      rw [if_pos (by omega), Int.toNat_natCast] at HLi
      have hlb := lub_bd (i := i + 1) (by omega) (by omega)
      obtain ⟨hlb1, hlb2⟩ := hlb
      have HS : Hid (sumL (i + 1) = sumL i + lub (i + 1)) := rfl
      have HO : Hid (onesL (i + 1) = onesL i + if lub (i + 1) = 1 then 1 else 0) := rfl
      generalize lub (i + 1) = lz at *
      generalize sumL i = s1 at *
      generalize onesL i = o1 at *
      have q3 : decide ((lz : Int) < 1) = false := decide_eq_false (by omega)
      by_cases h1 : lz = 1
      · subst h1
        have hs2 := HS.out
        have ho2 := HO.out
        rw [if_pos rfl] at ho2
        have HS2 : Hid ((sumL (i + 1) : Int) = ((s1 + 1 : Nat) : Int)) := by unfold Hid; omega
        have HO2 : Hid ((onesL (i + 1) : Int) = ((o1 + 1 : Nat) : Int)) := by unfold Hid; omega
        clear HS HO hs2 ho2
        go_wp2_with fail
        refine HLi.out.mono ?_
        rintro e w' ⟨rfl, rfl⟩
        go_wp2_with fail
        go_roundw
        case rel => exact ⟨i + 1, by rw [HS2.out]; go_num, by rw [HO2.out]; go_num, by go_num, by omega, by first | rfl | trivial⟩
        case measure => simp [intOf]; omega
      · have q4 : ((lz : Int) == 1) = false := by rw [beq_eq_false_iff_ne]; omega
        have hs2 := HS.out
        have ho2 := HO.out
        rw [if_neg h1] at ho2
        have HS2 : Hid ((sumL (i + 1) : Int) = ((s1 + lz : Nat) : Int)) := by unfold Hid; omega
        have HO2 : Hid ((onesL (i + 1) : Int) = (o1 : Int)) := by unfold Hid; omega
        clear HS HO hs2 ho2
        go_wp2_with fail
        refine HLi.out.mono ?_
        rintro e w' ⟨rfl, rfl⟩
        go_wp2_with fail
        go_roundw
        case rel => exact ⟨i + 1, by rw [HS2.out]; go_num, by rw [HO2.out], by go_num, by omega, by first | rfl | trivial⟩
        case measure => simp [intOf]; omega
    have q1 : decide (i + 1 < p) = false := decide_eq_false hlt
    have q2 : decide (((i + 1 : Nat) : Int) < (p : Int)) = false := decide_eq_false (by omega)
    obtain rfl : i + 1 = p := by omega
    have hx := HX.out
    rw [Nat.add_sub_cancel] at hx
    have HLi := Lib.hid (HL.out (i : Int) w1)
    rw [if_pos (by omega), Int.toNat_natCast, hx.2.2] at HLi
    have e1 : (2 * (sumL i : Int)) = (K : Int) * ((i + 1 : Nat) : Int) := by
      have := hx.1
      rw [← Int.natCast_mul, ← this]; omega
    have e2 : (2 * (onesL i : Int)) = max ((i + 1 : Nat) : Int) 2 := by
      have := hx.2.1
      omega
    have HE1 := Lib.hid e1
    have HE2 := Lib.hid e2
    clear hx HX e1 e2
    generalize sumL i = s1 at *
    generalize onesL i = o1 at *
    have hx1 : 2 * (s1 : Int) = wrap64 ((K : Int) * ((i : Int) + 1)) := by
      have h := HE1.out
      rw [show ((i + 1 : Nat) : Int) = (i : Int) + 1 by omega] at h
      rw [← h]
      simp only [wrap64]; omega
    have hx2 : 2 * (o1 : Int) = max ((i : Int) + 1) 2 := by
      have h := HE2.out
      omega
    have hx3 : (2 * (s1 : Int) == wrap64 ((K : Int) * ((i : Int) + 1))) = true := by rw [beq_iff_eq]; exact hx1
    have hx4 : (2 * (o1 : Int) == max ((i : Int) + 1) 2) = true := by rw [beq_iff_eq]; exact hx2
    go_wp2_with fail
    refine HLi.out.mono ?_
    rintro e w' ⟨rfl, rfl⟩
    go_wp2_with fail
    go_ret
    exact ⟨rfl, HB.out⟩
set_option maxHeartbeats 800000 in
set_option maxRecDepth 100000 in
theorem lifted (os : Os) (started : os.Started) (H : Type) (enc : TypeId × Value → H) :
    ReturnsInHanded {} Try.checked os 7 .any (Rows.paceAddsSpec.pre6 enc Try.prog Try.f7 Rows.paceAddsRow.domain false) (Rows.paceAddsSpec.post enc Try.prog Try.f7 false true false false) := by
  refine returnsInHanded_of_change (C := Try.checked) own_knob started (by kernel_rfl) Try.func7
    (ChangeSpec.witness6 (enc := enc) (C := Try.checked) false ⟨#[], #[.int .i64 0], []⟩ 8 (by kernel_rfl) (by kernel_rfl) (by kernel_rfl) (by kernel_rfl)) ?_
  intro W base args ds gs before hval0 hW _ _
  have hval : ∀ (j : Nat) t v, Try.f7.params[j]? = some t → args[j]? = some v → Value.okWide Try.prog W .any base t v := hval0
  have hW' := hW
  obtain ⟨p, q, hA0, hV, rfl, _, _⟩ := hW
  have hA : DataW.TrodAll enc Try.prog W 0 (fun _ => true) true Try.f7.params.toList args.toList ds p := hA0
  rw [Try.params7] at hA hval
  obtain ⟨v0, d0, rfl, rfl, h0⟩ := trodAll_one hA
  obtain ⟨rfl, rfl⟩ := trodVars_none hV
  obtain ⟨a0, rfl, rfl, rfl, w0⟩ := open_int Try.underlying3 (hval 0 3 v0 rfl rfl) h0
  clear hA0 hval0
  simp only [List.append_nil] at hW'
  refine (walk a0 W).mono fun e W' ⟨he, hB⟩ => ?_
  subst he
  exact ⟨_, rfl, _, _, _, [], _, [], hW', trodAll_mk1 (shut_bool Try.underlying4 true), trodAll_mk1 (shut_int Try.underlying3 w0), rfl, hB.frame _, fun h => by cases h⟩

theorem proved : Rows.PaceAddsSaid :=
  OpenClaim.holds_of_wide 7 Try.f7 rfl rfl rfl rfl rfl rfl rfl ⟨rfl, rfl, rfl, rfl, rfl⟩ rfl rfl rfl rfl rfl (by kernel_rfl) Try.func7 (by kernel_rfl)
    (of_decide_eq_true (by kernel_rfl)) (by unfold Func.isWrapper; first | (rw [if_pos (by decide +kernel)]; kernel_rfl) | (rw [if_neg (by decide +kernel)]; exact ⟨rfl, rfl⟩))
    (fun os started H enc _ => lifted os started H enc)
end Go.Proofs.Ytdbpdhdcebidgaa.PAdds
namespace Go.Proofs.Ytdbpdhdcebidgaa
theorem paceAdds_holds : Rows.PaceAddsSaid := PAdds.proved
#print axioms paceAdds_holds
end Go.Proofs.Ytdbpdhdcebidgaa
