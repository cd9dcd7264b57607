/- Luby's numbers, and the rows they are made of. No function of the program. -/
import Derived.Test.YtfllhfhcmoemeaaGreatRowV
import Derived.Lib.ItoaNum
namespace Go.Proofs.YtfllhfhcmoemeaaGreat.PacM

/-- Luby's number at i, for i from 1 to 2^(k+1)-1. -/
def lubD : Nat → Nat → Nat
  | 0, _ => 1
  | k + 1, i => if i < 2 ^ (k + 1) then lubD k i else if i = 2 ^ (k + 2) - 1 then 2 ^ (k + 1) else lubD k (i - (2 ^ (k + 1) - 1))
def lub (i : Nat) : Nat := lubD 21 i
theorem lubD_more : ∀ (d k i : Nat), i < 2 ^ (k + 1) → lubD (k + d) i = lubD k i
  | 0, _, _, _ => rfl
  | d + 1, k, i, h => by
    have h2 : i < 2 ^ (k + d + 1) := Nat.lt_of_lt_of_le h (Nat.pow_le_pow_right (by omega) (by omega))
    rw [show k + (d + 1) = (k + d) + 1 by omega, lubD, if_pos h2]
    exact lubD_more d k i h
theorem lub_eq {k i : Nat} (hk : k ≤ 21) (h : i < 2 ^ (k + 1)) : lub i = lubD k i := by
  have := lubD_more (21 - k) k i h
  rw [show k + (21 - k) = 21 by omega] at this
  exact this
theorem two_pos (k : Nat) : 0 < 2 ^ k := Nat.two_pow_pos k
theorem lub_top {k : Nat} (hk : k ≤ 21) : lub (2 ^ (k + 1) - 1) = 2 ^ k := by
  have h := two_pos (k + 1)
  rw [lub_eq hk (by omega)]
  cases k with
  | zero => rfl
  | succ k =>
    have e : 2 ^ (k + 2) = 2 * 2 ^ (k + 1) := by rw [Nat.pow_succ]; omega
    have h2 := two_pos (k + 1)
    rw [lubD, if_neg (by rw [show k + 1 + 1 = k + 2 from rfl, e]; omega), if_pos rfl]
theorem lub_down {k i : Nat} (hk : k ≤ 21) (h1 : 2 ^ k ≤ i) (h2 : i < 2 ^ (k + 1) - 1) : lub i = lub (i - (2 ^ k - 1)) := by
  cases k with
  | zero => omega
  | succ k =>
    have e : 2 ^ (k + 2) = 2 * 2 ^ (k + 1) := by rw [Nat.pow_succ]; omega
    rw [show k + 1 + 1 = k + 2 from rfl] at h2
    rw [lub_eq hk (by rw [show k + 1 + 1 = k + 2 from rfl]; omega), lub_eq (k := k) (by omega) (by omega), lubD, if_neg (by omega), if_neg (by omega)]
theorem lubD_bd : ∀ (k i : Nat), 1 ≤ i → i < 2 ^ (k + 1) → 1 ≤ lubD k i ∧ lubD k i ≤ i
  | 0, i, h, _ => by rw [lubD]; omega
  | k + 1, i, h, h3 => by
    have e : 2 ^ (k + 2) = 2 * 2 ^ (k + 1) := by rw [Nat.pow_succ]; omega
    have hp := two_pos (k + 1)
    rw [show k + 1 + 1 = k + 2 from rfl] at h3
    rw [lubD]
    split
    · exact lubD_bd k i h (by omega)
    · split
      · omega
      · have := lubD_bd k (i - (2 ^ (k + 1) - 1)) (by omega) (by omega)
        omega
theorem lub_bd {i : Nat} (h : 1 ≤ i) (h2 : i ≤ 1048576) : 1 ≤ lub i ∧ lub i ≤ i := lubD_bd 21 i h (Nat.lt_of_le_of_lt h2 (by decide))
/-- The k-th row: 2^(k+1)-1 numbers. -/
theorem row_step {k : Nat} (hk : k ≤ 20) {j : Nat} (hj : j < 2 * (2 ^ (k + 1) - 1) + 1) : lub (j + 1) = if j < 2 ^ (k + 1) - 1 then lub (j + 1) else if j < 2 * (2 ^ (k + 1) - 1) then lub (j - (2 ^ (k + 1) - 1) + 1) else 2 * lub (2 ^ (k + 1) - 1) := by
  have e : 2 ^ (k + 2) = 2 * 2 ^ (k + 1) := by rw [Nat.pow_succ]; omega
  have hp := two_pos (k + 1)
  split
  · rfl
  · split
    · rw [lub_down (k := k + 1) (by omega) (by omega) (by rw [show k + 1 + 1 = k + 2 from rfl]; omega)]
      congr 1; omega
    · have hj2 : j + 1 = 2 ^ (k + 2) - 1 := by omega
      rw [hj2, lub_top (k := k) (by omega)]
      have := lub_top (k := k + 1) (by omega)
      rw [show k + 1 + 1 = k + 2 from rfl] at this
      rw [this, Nat.pow_succ]; omega
theorem bit_len {i : Nat} (h : 1 ≤ i) (h2 : i ≤ 1048576) : ∃ k, k ≤ 20 ∧ Lib.bitLen i = k + 1 ∧ 2 ^ k ≤ i ∧ i < 2 ^ (k + 1) := by
  have h3 := Lib.bitLenAux_bounds 64 i (by omega) (by omega)
  obtain ⟨a, b, c⟩ := h3
  refine ⟨Lib.bitLenAux 64 i - 1, ?_, by unfold Lib.bitLen; omega, b, by rw [show Lib.bitLenAux 64 i - 1 + 1 = Lib.bitLenAux 64 i by omega]; exact c⟩
  rcases Nat.lt_or_ge 20 (Lib.bitLenAux 64 i - 1) with h4 | h4
  · have : 2 ^ 21 ≤ 2 ^ (Lib.bitLenAux 64 i - 1) := Nat.pow_le_pow_right (by omega) h4
    omega
  · exact h4
/-- The first numbers together, and how often it is 1. -/
def sumL : Nat → Nat
  | 0 => 0
  | n + 1 => sumL n + lub (n + 1)
def onesL : Nat → Nat
  | 0 => 0
  | n + 1 => onesL n + if lub (n + 1) = 1 then 1 else 0
theorem sum_bd : ∀ n : Nat, n ≤ 1048576 → n ≤ sumL n
  | 0, _ => Nat.le_refl _
  | n + 1, h => by
    have := sum_bd n (by omega)
    have := (lub_bd (i := n + 1) (by omega) h).1
    show n + 1 ≤ sumL n + lub (n + 1)
    omega
theorem sum_ub : ∀ n : Nat, n ≤ 1048576 → sumL n ≤ n * n
  | 0, _ => Nat.le_refl _
  | n + 1, h => by
    have h1 := sum_ub n (by omega)
    have h2 := (lub_bd (i := n + 1) (by omega) h).2
    have e : (n + 1) * (n + 1) = n * n + n + n + 1 := by rw [Nat.succ_mul, Nat.mul_succ]; omega
    show sumL n + lub (n + 1) ≤ (n + 1) * (n + 1)
    omega
theorem ones_ub : ∀ n : Nat, onesL n ≤ n
  | 0 => Nat.le_refl _
  | n + 1 => by
    have h1 := ones_ub n
    show onesL n + (if lub (n + 1) = 1 then 1 else 0) ≤ n + 1
    split <;> omega
end Go.Proofs.YtfllhfhcmoemeaaGreat.PacM
