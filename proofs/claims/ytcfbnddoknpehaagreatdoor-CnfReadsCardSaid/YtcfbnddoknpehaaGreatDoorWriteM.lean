/- Plain facts on how a formula is written. -/
import Derived.Test.YtcfbnddoknpehaaGreatDoorParse
import Derived.Lib.ItoaNum
namespace Go.Proofs.YtcfbnddoknpehaaGreatDoor
open Words CnfP

/-- A clause as a text, and a formula. -/
def litT (l : Int) : List UInt8 := Lib.itoa l ++ [32]
def litsT (c : List Int) : List UInt8 := c.flatMap litT
def clauseT (c : List Int) : List UInt8 := litsT c ++ [48, 10]
def headT (v n : Int) : List UInt8 := [112, 32, 99, 110, 102, 32] ++ Lib.itoa v ++ [32] ++ Lib.itoa n ++ [10]
def formulaT (v : Int) (cs : List (List Int)) : List UInt8 := headT v cs.length ++ cs.flatMap clauseT

theorem litsT_snoc (c : List Int) (l : Int) : litsT (c ++ [l]) = litsT c ++ litT l := by simp [litsT]
theorem clausesT_snoc (cs : List (List Int)) (c : List Int) : (cs ++ [c]).flatMap clauseT = cs.flatMap clauseT ++ clauseT c := by simp
theorem nDigits_le : ∀ (k u : Nat), 1 ≤ k → u < 10 ^ k → Lib.nDigits u ≤ k
  | 0, u, h, _ => absurd h (by omega)
  | 1, u, _, h => by rw [Lib.nDigits_small (by simpa using h)]; omega
  | k + 2, u, _, h => by
    by_cases hu : u < 10
    · rw [Lib.nDigits_small hu]; omega
    · rw [Lib.nDigits_big hu]
      have := nDigits_le (k + 1) (u / 10) (by omega) (by rw [Nat.pow_succ] at h ⊢; rw [Nat.pow_succ] at h; omega)
      omega
theorem itoa_len {n : Int} (h0 : -999999999 ≤ n) (h1 : n ≤ 999999999) : (Lib.itoa n).length ≤ 10 := by
  unfold Lib.itoa
  split
  · rw [List.length_cons, Lib.decDigits_length]
    have := nDigits_le 9 n.natAbs (by omega) (by omega)
    omega
  · rw [Lib.decDigits_length]
    have := nDigits_le 9 n.toNat (by omega) (by omega)
    omega
theorem litsT_len : ∀ c : List Int, (∀ l ∈ c, -262144 ≤ l ∧ l ≤ 262144) → (litsT c).length ≤ 11 * c.length
  | [], _ => by simp [litsT]
  | l :: c, h => by
    have ih := litsT_len c (fun x hx => h x (by simp [hx]))
    have hl := h l (by simp)
    have := itoa_len (n := l) (by omega) (by omega)
    simp only [litsT, List.flatMap_cons, List.length_append, litT, List.length_cons, List.length_nil] at ih ⊢
    omega
theorem clausesT_len : ∀ cs : List (List Int), (∀ c ∈ cs, ∀ l ∈ c, -262144 ≤ l ∧ l ≤ 262144) → (cs.flatMap clauseT).length ≤ 11 * total cs + 2 * cs.length
  | [], _ => by simp
  | c :: cs, h => by
    have ih := clausesT_len cs (fun x hx => h x (by simp [hx]))
    have := litsT_len c (h c (by simp))
    rw [total_cons]
    simp only [List.flatMap_cons, List.length_append, clauseT, List.length_cons, List.length_nil] at ih ⊢
    omega
theorem headT_len {v n : Int} (h0 : 0 ≤ v) (h1 : v ≤ 262144) (h2 : 0 ≤ n) (h3 : n ≤ 1048576) : (headT v n).length ≤ 28 := by
  have a := itoa_len (n := v) (by omega) (by omega)
  have b := itoa_len (n := n) (by omega) (by omega)
  simp only [headT, List.length_append, List.length_cons, List.length_nil]
  omega
end Go.Proofs.YtcfbnddoknpehaaGreatDoor
