/- The contracts of Luby, First and their plain answers. -/
import Derived.Test.YtdbpdhdcebidgaaPacM
import Derived.Test.YtdbpdhdcebidgaaShelf
import Derived.Shelf.Spec.BitsCarry
namespace Go.Proofs.Ytdbpdhdcebidgaa
open Go.RowKit PacM

theorem ret_int {k : IntKind} {a b : Int} (h : a = b) : Ending.returned (.int k a) = .returned (.int k b) := by rw [h]
theorem ret_bool {a b : Bool} (h : a = b) : Ending.returned (.bool a) = .returned (.bool b) := by rw [h]
theorem len64_any (x : Nat) (w : World) (h1 : x ≤ 1048576) : Calls Try.prog 26 #[.int .u64 (x : Int)] w fun e w' => e = .returned (.int .i64 (Lib.bitLen x)) ∧ w = w' := by
  have h := Any.bits_Len64 Try.lays129 (x : Int) w (by omega) (by omega)
  rw [Int.toNat_natCast] at h
  exact h.mono fun e w' ⟨h1, h2⟩ => ⟨h1, h2.symm⟩
theorem len_any (x : Nat) (w : World) (h1 : x ≤ 1048576) : Calls Try.prog 24 #[.int .u64 (x : Int)] w fun e w' => e = .returned (.int .i64 (Lib.bitLen x)) ∧ w = w' := by
  have H := Lib.hid (len64_any x w h1)
  go_enter Try.func24, Try.ntmps24
  go_wp2_with fail
  refine H.out.mono ?_
  rintro e w' ⟨rfl, rfl⟩
  go_wp2_with fail
  go_ret
  exact ⟨rfl, rfl⟩
set_option maxHeartbeats 1600000 in
set_option maxRecDepth 100000 in
theorem lub_any (i : Nat) (w : World) (h0 : 1 ≤ i) (h1 : i ≤ 1048576) : Calls Try.prog 20 #[.int .i64 (i : Int)] w fun e w' => e = .returned (.int .i64 (lub i)) ∧ w = w' := by
  go_enter Try.func20, Try.ntmps20
  go_wp2_with fail
  go_loopw [0] (fun v wr => ∃ j : Nat, v = .int .i64 (j : Int) ∧ 1 ≤ j ∧ j ≤ i ∧ Hid (lub j = lub i) ∧ w = wr) (fun v _ => (intOf v).toNat)
  case atStart => exact ⟨i, rfl, h0, Nat.le_refl _, rfl, rfl⟩
  case round =>
    obtain ⟨j, rfl, hj0, hj1, hl, rfl⟩ := hrel
    obtain ⟨k, hk, hb, hp1, hp2⟩ := bit_len hj0 (by omega)
    have HL := Lib.hid (len_any j w (by omega))
    rw [hb] at HL
    have su : IntKind.u64.wrap (j : Int) = (j : Int) := by rw [IntKind.wrap_u64]; omega
    have hpk : (2 : Nat) ^ k ≤ 1048576 := Nat.le_trans (Nat.pow_le_pow_right (by omega) hk) (by decide)
    have HP : Hid (wrap64 ((2 : Int) ^ k) = ((2 ^ k : Nat) : Int)) := by
      unfold Hid
      rw [show (2 : Int) ^ k = ((2 ^ k : Nat) : Int) by simp]
      generalize 2 ^ k = p at *
      simp only [wrap64]
      omega
    have HT := Lib.hid (lub_top (k := k) (by omega))
    have HD := Lib.hid (fun h => lub_down (k := k) (i := j) (by omega) hp1 h)
    have hp3 : 1 ≤ 2 ^ k := two_pos k
    have e2 : 2 ^ (k + 1) = 2 * 2 ^ k := by rw [Nat.pow_succ]; omega
    rw [e2] at hp2 HT HD
    clear e2 hb
    generalize hpe : 2 ^ k = p at *
    go_wp2_with fail
    refine HL.out.mono ?_
    rintro e w' ⟨rfl, rfl⟩
    go_wp2_with fail
    · rename_i ht
      rw [HP.out] at ht
      have hj : j = 2 * p - 1 := by
        have := of_decide_eq_true ht
        simp only [wrap64] at this
        omega
      go_ret
      refine ⟨?_, rfl⟩
      have e : lub i = p := by rw [← hl.out, hj, HT.out]
      rw [e, ← HP.out]; rfl
    · rename_i ht
      rw [HP.out] at ht ⊢
      have hj : j ≠ 2 * p - 1 := by
        intro e
        apply ne_of_beq_false ht
        simp only [wrap64]
        omega
      have := HD.out (by omega)
      have e : wrap64 ((j : Int) - wrap64 ((p : Int) - 1)) = ((j - (p - 1) : Nat) : Int) := by simp only [wrap64]; omega
      rw [e]
      refine ⟨⟨j - (p - 1), rfl, by omega, by omega, by unfold Hid; rw [← this]; exact hl.out, trivial⟩, ?_⟩
      simp only [intOf]
      omega
set_option maxHeartbeats 1600000 in
set_option maxRecDepth 100000 in
theorem luby_any (i : Int) (w : World) : Calls Try.prog 8 #[.int .i64 i] w fun e w' => e = .returned (if 1 ≤ i ∧ i ≤ 1048576 then .tuple #[.int .i64 (lub i.toNat), .int .i64 0] else .tuple #[.int .i64 0, .int .i64 71]) ∧ w = w' := by
  by_cases h1 : i < 1
  · rw [if_neg (by omega)]
    go_enter Try.func8, Try.ntmps8
    go_wp2_with fail
    go_ret2
    exact ⟨rfl, rfl⟩
  by_cases h2 : i > 1048576
  · rw [if_neg (by omega)]
    have t1 : decide (i < 1) = false := decide_eq_false h1
    go_enter Try.func8, Try.ntmps8
    go_wp2_with fail
    go_ret2
    exact ⟨rfl, rfl⟩
  rw [if_pos (by omega)]
  obtain ⟨n, rfl⟩ := Int.eq_ofNat_of_zero_le (show 0 ≤ i by omega)
  rw [Int.toNat_natCast]
  have H := Lib.hid (lub_any n w (by omega) (by omega))
  have t1 : decide ((n : Int) < 1) = false := decide_eq_false h1
  have t2 : decide (1048576 < (n : Int)) = false := decide_eq_false h2
  go_enter Try.func8, Try.ntmps8
  go_wp2_with fail
  refine H.out.mono ?_
  rintro e w' ⟨rfl, rfl⟩
  go_wp2_with fail
  go_ret2
  exact ⟨rfl, rfl⟩
set_option maxHeartbeats 1600000 in
theorem within_any (n : Int) (w : World) : Calls Try.prog 23 #[.int .i64 n] w fun e w' => e = .returned (.int .i64 (min (max n 1) 1048576)) ∧ w = w' := by
  go_enter Try.func23, Try.ntmps23
  go_wp2_with fail
  go_ret
  exact ⟨rfl, rfl⟩
set_option maxHeartbeats 1600000 in
theorem rwithin_any (n : Int) (w : World) : Calls Try.prog 15 #[.int .i64 n] w fun e w' => e = .returned (.int .i64 (min (max n 1) 1048576)) ∧ w = w' := by
  by_cases h1 : n < 1
  · go_enter Try.func15, Try.ntmps15
    go_wp2_with fail
    go_ret
    exact ⟨ret_int (by omega), rfl⟩
  by_cases h2 : n > 1048576
  · go_enter Try.func15, Try.ntmps15
    go_wp2_with fail
    go_ret
    exact ⟨ret_int (by omega), rfl⟩
  go_enter Try.func15, Try.ntmps15
  go_wp2_with fail
  go_ret
  exact ⟨ret_int (by omega), rfl⟩
theorem wrap_pos (x : Int) : 0 ≤ IntKind.u64.wrap x := by rw [IntKind.wrap_u64]; exact Int.emod_nonneg _ (by decide)
theorem mul_u (x y : Int) : IntKind.u64.wrap (IntKind.u64.wrap x * y) = IntKind.u64.wrap (x * y) := by
  simp only [IntKind.wrap_u64]
  rw [Int.mul_emod, Int.emod_emod, ← Int.mul_emod]
theorem add_u (x y : Int) : IntKind.u64.wrap (IntKind.u64.wrap x + IntKind.u64.wrap y) = IntKind.u64.wrap (x + y) := by
  simp only [IntKind.wrap_u64]
  rw [← Int.add_emod]
/-- With which value a variable is tried first. -/
def firstB (seed v : Int) : Bool := decide (seed ≠ 0 ∧ 9223372036854775808 ≤ (seed * 6364136223846793005 + v * 1442695040888963407) % 18446744073709551616)
set_option maxHeartbeats 1600000 in
theorem first_any (seed v : Int) (w : World) (h0 : 0 ≤ seed) (h1 : seed ≤ 18446744073709551615) : Calls Try.prog 10 #[.int .u64 seed, .int .i64 v] w fun e w' => e = .returned (.bool (firstB seed v)) ∧ w = w' := by
  by_cases hs : seed = 0
  · subst hs
    go_enter Try.func10, Try.ntmps10
    go_wp2_with fail
    go_ret
    exact ⟨rfl, rfl⟩
  have ts : (seed == 0) = false := by simpa using hs
  go_enter Try.func10, Try.ntmps10
  go_wp2_with fail
  go_ret
  refine ⟨ret_bool ?_, rfl⟩
  unfold firstB
  rw [mul_u, add_u]
  generalize seed * 6364136223846793005 + v * 1442695040888963407 = X
  rw [IntKind.wrap_u64, Bool.eq_iff_iff, beq_iff_eq, decide_eq_true_iff]
  constructor
  · intro h; exact ⟨hs, by omega⟩
  · rintro ⟨_, h⟩; omega
set_option maxHeartbeats 1600000 in
theorem mul_any (x y : Int) (w : World) : Calls Try.prog 21 #[.int .u64 x, .int .u64 y] w fun e w' => (∃ z, e = .returned (.tuple #[.int .u64 z, .int .u64 (IntKind.u64.wrap (x * y))])) ∧ w = w' := by
  go_enter Try.func21, Try.ntmps21
  go_wp2_with fail
  go_ret2
  exact ⟨⟨_, rfl⟩, rfl⟩
theorem add_call (x y : Nat) (w : World) : (callFunc 22 #[.int .u64 x, .int .u64 y, .int .u64 0]).run Try.prog w =
      .ok (.value (.tuple #[.int .u64 (((x + y) % 18446744073709551616 : Nat) : Int), .int .u64 (((x + y) / 18446744073709551616 : Nat) : Int)])) w := by
  rw [run_callFunc_extern Try.func22 (by kernel_rfl) (by kernel_rfl) (by kernel_rfl) (e := add64Entry) (by kernel_rfl), run_add64 x y 0 (by omega) (by omega) (by omega) (by omega)]
  simp only [Result.andThen]
  congr 5 <;> omega
set_option maxHeartbeats 1600000 in
theorem rfirst_any (seed v : Int) (w : World) (h0 : 0 ≤ seed) (h1 : seed ≤ 18446744073709551615) : Calls Try.prog 11 #[.int .u64 seed, .int .i64 v] w fun e w' => e = .returned (.bool (firstB seed v)) ∧ w = w' := by
  by_cases hs : seed = 0
  · subst hs
    go_enter Try.func11, Try.ntmps11
    go_wp2_with fail
    go_ret
    exact ⟨rfl, rfl⟩
  have ts : (seed == 0) = false := by simpa using hs
  have H1 := Lib.hid (mul_any seed 6364136223846793005 w)
  have H2 := Lib.hid (mul_any (IntKind.u64.wrap v) 1442695040888963407 w)
  obtain ⟨a, ha⟩ : ∃ a : Nat, IntKind.u64.wrap (seed * 6364136223846793005) = (a : Int) := ⟨_, (Int.toNat_of_nonneg (wrap_pos _)).symm⟩
  obtain ⟨b, hb⟩ : ∃ b : Nat, IntKind.u64.wrap (IntKind.u64.wrap v * 1442695040888963407) = (b : Int) := ⟨_, (Int.toNat_of_nonneg (wrap_pos _)).symm⟩
  rw [ha] at H1
  rw [hb] at H2
  have HA := Lib.hid (fun W => add_call a b W)
  go_enter Try.func11, Try.ntmps11
  go_wp2_with fail
  refine H1.out.mono ?_
  rintro e w' ⟨⟨z1, rfl⟩, rfl⟩
  go_wp2_with fail
  refine H2.out.mono ?_
  rintro e w' ⟨⟨z2, rfl⟩, rfl⟩
  go_wp2_with (simp only [HA.out])
  go_ret
  refine ⟨ret_bool ?_, rfl⟩
  unfold firstB
  have h3 := add_u (seed * 6364136223846793005) (v * 1442695040888963407)
  rw [mul_u] at hb
  rw [ha, hb] at h3
  generalize seed * 6364136223846793005 + v * 1442695040888963407 = X at *
  rw [IntKind.wrap_u64, IntKind.wrap_u64] at h3
  clear ha hb
  rw [Bool.eq_iff_iff, decide_eq_true_iff, decide_eq_true_iff]
  constructor
  · intro h; exact ⟨hs, by omega⟩
  · rintro ⟨_, h⟩; omega
end Go.Proofs.Ytdbpdhdcebidgaa
