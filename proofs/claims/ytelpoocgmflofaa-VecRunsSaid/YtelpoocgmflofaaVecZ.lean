/- A number's bits, in plain words: which number some bits are, how many it has. No function of the program. -/
import Derived.Test.YtelpoocgmflofaaVecM
import Derived.Lib.ItoaNum
namespace Go.Proofs.Ytelpoocgmflofaa.VecM
open GatM

/-- A number's bit. -/
def bitZ (n : Int) (i : Nat) : Bool := decide (n / pw i % 2 = 1)
theorem emod_step (n : Int) (m : Nat) : n % pw (m + 1) = n % pw m + (if n / pw m % 2 = 1 then pw m else 0) := by
  have hp := pw_pos m
  have h1 := Int.emod_add_mul_ediv n (pw m)
  have h2 := Int.emod_nonneg n (Int.ne_of_gt hp)
  have h3 := Int.emod_lt_of_pos n hp
  have h4 : n / pw (m + 1) = n / pw m / 2 := by rw [pw_succ, Int.mul_comm, Int.ediv_ediv_of_nonneg (Int.le_of_lt hp)]
  have h5 := Int.emod_add_mul_ediv n (pw (m + 1))
  rw [h4, pw_succ] at h5
  rw [pw_succ]
  have h6 : n / pw m = 2 * (n / pw m / 2) + n / pw m % 2 := by omega
  generalize n / pw m / 2 = s at *
  have h7 : pw m * (n / pw m) = 2 * pw m * s + pw m * (n / pw m % 2) := by
    rw [h6, Int.mul_add, ← Int.mul_assoc, Int.mul_comm (pw m) 2]
    congr 2
    omega
  rcases (show n / pw m % 2 = 0 ∨ n / pw m % 2 = 1 by omega) with e | e
  · rw [e, Int.mul_zero] at h7
    rw [e, if_neg (by decide)]
    omega
  · rw [e, Int.mul_one] at h7
    rw [e, if_pos rfl]
    omega
theorem uN_bit (n : Int) : ∀ m, uN (bitZ n) m = n % pw m
  | 0 => by rw [pw_zero]; show 0 = _; omega
  | m + 1 => by
    rw [uN_succ, uN_bit n m, emod_step]
    unfold bitZ
    simp only [decide_eq_true_eq]
/-- Enough bits are the number. -/
theorem nB_bit {n : Int} {k : Nat} (h1 : - pw k ≤ n) (h2 : n < pw k) : nB (bitZ n) (k + 1) = n := by
  have hp := pw_pos k
  rw [nB_one, uN_bit]
  unfold bitZ
  simp only [decide_eq_true_eq]
  by_cases h : 0 ≤ n
  · rw [Int.emod_eq_of_lt h h2, Int.ediv_eq_zero_of_lt h h2]; simp
  · have e1 : n / pw k = -1 := by
      have := Int.emod_add_mul_ediv n (pw k)
      have h3 := Int.emod_nonneg n (Int.ne_of_gt hp)
      have h4 := Int.emod_lt_of_pos n hp
      rcases Int.lt_trichotomy (n / pw k) (-1) with h5 | h5 | h5
      · have := Int.mul_le_mul_of_nonneg_left (show n / pw k ≤ -2 by omega) (Int.le_of_lt hp)
        omega
      · exact h5
      · have := Int.mul_le_mul_of_nonneg_left (show 0 ≤ n / pw k by omega) (Int.le_of_lt hp)
        omega
    have := Int.emod_add_mul_ediv n (pw k)
    rw [e1] at this ⊢
    rw [if_pos (by decide)]
    omega
/-- Some bits of a number, where the last one counts below 0. -/
def cutZ (n : Int) (w : Nat) : Int := if pw (w - 1) ≤ n % pw w then n % pw w - pw w else n % pw w
theorem nB_cut (n : Int) (k : Nat) : nB (bitZ n) (k + 1) = cutZ n (k + 1) := by
  have hp := pw_pos k
  have h2 := Int.emod_nonneg n (Int.ne_of_gt hp)
  have h3 := Int.emod_lt_of_pos n hp
  rw [nB_one, uN_bit]
  unfold cutZ
  rw [Nat.add_sub_cancel, emod_step, pw_succ]
  unfold bitZ
  simp only [decide_eq_true_eq]
  split <;> split <;> omega
theorem bit_mod (n : Int) (w : Nat) {i : Nat} (hi : i < w) : bitZ (n % pw w) i = bitZ n i := by
  have h : ∀ d, bitZ (n % pw (i + 1 + d)) i = bitZ n i := by
    intro d
    have e1 : uN (bitZ (n % pw (i + 1 + d))) (i + 1) = uN (bitZ n) (i + 1) := by
      rw [uN_bit, uN_bit, pw_add, Int.emod_emod_of_dvd _ (Int.dvd_mul_right _ _)]
    exact uN_inj e1 i (by omega)
  have := h (w - (i + 1))
  rwa [show i + 1 + (w - (i + 1)) = w by omega] at this
theorem cut_mod (n : Int) (k : Nat) : cutZ n (k + 1) % pw (k + 1) = n % pw (k + 1) := by
  unfold cutZ
  split
  · rw [Int.sub_emod_right, Int.emod_emod]
  · rw [Int.emod_emod]
theorem cut_of {x n : Int} {k : Nat} (h : x % pw (k + 1) = n % pw (k + 1)) : cutZ x (k + 1) = cutZ n (k + 1) := by unfold cutZ; rw [h]
theorem cut_cut (n : Int) (k : Nat) : cutZ (cutZ n (k + 1)) (k + 1) = cutZ n (k + 1) := cut_of (cut_mod n k)
theorem cut_bd (n : Int) (k : Nat) : - pw k ≤ cutZ n (k + 1) ∧ cutZ n (k + 1) < pw k := by
  rw [← nB_cut]; exact nB_bd _ _
theorem cut_id {n : Int} {k : Nat} (h1 : - pw k ≤ n) (h2 : n < pw k) : cutZ n (k + 1) = n := by rw [← nB_cut]; exact nB_bit h1 h2

/-! ### How many bits -/
def absZ (n : Int) : Nat := (max n (-1 - n)).toNat
def widZ (n : Int) : Nat := Lib.bitLen (absZ n) + 1
theorem len_lt {x k : Nat} (hk : k ≤ 64) (hx : x < 2 ^ 64) : Lib.bitLen x ≤ k ↔ x < 2 ^ k := by
  constructor
  · intro h
    by_cases h0 : x = 0
    · rw [h0]; exact Nat.two_pow_pos k
    · have := (Lib.bitLenAux_bounds 64 x hx h0).2.2
      exact Nat.lt_of_lt_of_le this (Nat.pow_le_pow_right (by decide) h)
  · exact Lib.bitLen_le x k hk
theorem pw_nat (k : Nat) : pw k = ((2 ^ k : Nat) : Int) := by unfold pw; rw [Int.natCast_pow]; rfl
/-- A number has k + 1 bits, if it lies so. -/
theorem wid_le {n : Int} (h1 : -9223372036854775808 ≤ n) (h2 : n ≤ 9223372036854775807) {k : Nat} (hk : k ≤ 64) : widZ n ≤ k + 1 ↔ - pw k ≤ n ∧ n ≤ pw k - 1 := by
  unfold widZ
  have h := len_lt (x := absZ n) hk (by unfold absZ; omega)
  have hp : absZ n < 2 ^ k ↔ (absZ n : Int) < pw k := by rw [pw_nat]; omega
  have e : (absZ n : Int) = max n (-1 - n) := by unfold absZ; omega
  rw [show Lib.bitLen (absZ n) + 1 ≤ k + 1 ↔ Lib.bitLen (absZ n) ≤ k by omega, h, hp, e]
  omega
theorem wid_pos (n : Int) : 1 ≤ widZ n := by unfold widZ; omega
/-- How many bits all numbers from low to high have, at most 32. -/
def widthZ (low high : Int) : Nat := if high < low ∨ 32 < max (widZ low) (widZ high) then 0 else max (widZ low) (widZ high)
end Go.Proofs.Ytelpoocgmflofaa.VecM
