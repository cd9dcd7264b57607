/- Plain facts on literals as whole numbers: what is one, its variable, its place. No program. -/
namespace Go.Proofs.YtkckodpfhlpkgaaGreat.LitM

/-- Is it a literal? -/
def one (l : Int) : Bool := decide ((1 ≤ l ∧ l ≤ 262144) ∨ (-262144 ≤ l ∧ l ≤ -1))
def absZ (l : Int) : Int := if l < 0 then -l else l
def varZ (l : Int) : Int := if one l = true then absZ l else 0
def placeZ (l : Int) : Int := if one l = true then (if l < 0 then 2 * absZ l + 1 else 2 * l) else 0
def notZ (l : Int) : Int := if one l = true then -l else 0
def atZ (p : Int) : Int := if 2 ≤ p ∧ p ≤ 524289 then (if p % 2 = 1 then -(p / 2) else p / 2) else 0

theorem one_iff (l : Int) : one l = true ↔ ((1 ≤ l ∧ l ≤ 262144) ∨ (-262144 ≤ l ∧ l ≤ -1)) := by simp [one]
theorem one_false (l : Int) : one l = false ↔ ¬ ((1 ≤ l ∧ l ≤ 262144) ∨ (-262144 ≤ l ∧ l ≤ -1)) := by
  rw [← one_iff]; simp
theorem varZ_pos {l : Int} (h1 : 1 ≤ l) (h2 : l ≤ 262144) : varZ l = l := by
  have : one l = true := (one_iff l).2 (by omega)
  simp only [varZ, this, absZ, if_true]; rw [if_neg (by omega)]
theorem varZ_neg {l : Int} (h1 : -262144 ≤ l) (h2 : l ≤ -1) : varZ l = -l := by
  have : one l = true := (one_iff l).2 (by omega)
  simp only [varZ, this, absZ, if_true]; rw [if_pos (by omega)]
theorem varZ_out {l : Int} (h : one l = false) : varZ l = 0 := by simp [varZ, h]
theorem varZ_bd (l : Int) : 0 ≤ varZ l ∧ varZ l ≤ 262144 := by
  by_cases h : one l = true
  · have := (one_iff l).1 h
    by_cases hl : l < 0
    · rw [varZ_neg (by omega) (by omega)]; omega
    · rw [varZ_pos (by omega) (by omega)]; omega
  · rw [varZ_out (by simpa using h)]; omega
theorem varZ_zero (l : Int) : varZ l = 0 ↔ one l = false := by
  by_cases h : one l = true
  · have := (one_iff l).1 h
    rw [h]
    constructor
    · intro hv
      by_cases hl : l < 0
      · rw [varZ_neg (by omega) (by omega)] at hv; omega
      · rw [varZ_pos (by omega) (by omega)] at hv; omega
    · intro hv; cases hv
  · have h' : one l = false := by simpa using h
    rw [varZ_out h', h']; simp
theorem placeZ_pos {l : Int} (h1 : 1 ≤ l) (h2 : l ≤ 262144) : placeZ l = 2 * l := by
  have : one l = true := (one_iff l).2 (by omega)
  simp only [placeZ, this, if_true]; rw [if_neg (by omega)]
theorem placeZ_neg {l : Int} (h1 : -262144 ≤ l) (h2 : l ≤ -1) : placeZ l = 2 * (-l) + 1 := by
  have : one l = true := (one_iff l).2 (by omega)
  simp only [placeZ, this, absZ, if_true]; rw [if_pos (by omega), if_pos (by omega)]
theorem placeZ_out {l : Int} (h : one l = false) : placeZ l = 0 := by simp [placeZ, h]
end Go.Proofs.YtkckodpfhlpkgaaGreat.LitM
