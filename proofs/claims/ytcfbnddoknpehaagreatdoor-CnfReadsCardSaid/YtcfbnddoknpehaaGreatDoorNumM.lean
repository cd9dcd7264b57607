/- Plain facts on a word's number: what the library's calls answer. -/
import Derived.Test.YtcfbnddoknpehaaGreatDoorWords
import Derived.Lib.Atoi
import Derived.Lib.SlTrimSet
import Derived.Lib.Strings
namespace Go.Proofs.YtcfbnddoknpehaaGreatDoor
open Words

theorem trimPrefix_minus (w : List UInt8) : Lib.trimPrefix w [45] = digitsOf w := by
  unfold Lib.trimPrefix digitsOf Lib.hasPrefix
  match w with
  | [] => rfl
  | c :: cs =>
    by_cases h : c = 45
    · subst h; rfl
    · have h1 : ([45] : List UInt8).isPrefixOf (c :: cs) = false := by
        simp only [List.isPrefixOf, Bool.and_true]
        rw [beq_eq_false_iff_ne]; exact fun e => h e.symm
      have h2 : minusB (c :: cs) = false := by
        show (c == 45) = false
        rw [beq_eq_false_iff_ne]; exact h
      rw [if_neg (by rw [h1]; simp), if_neg (by rw [h2]; simp)]
/-- The ten digits. -/
def tenB : List UInt8 := [48, 49, 50, 51, 52, 53, 54, 55, 56, 57]
theorem ten_digit (c : UInt8) : tenB.contains c = digB c := by
  have h : ∀ n : Fin 256, tenB.contains (UInt8.ofNat n.val) = digB (UInt8.ofNat n.val) := by decide +kernel
  have := h ⟨c.toNat, c.toNat_lt⟩
  simpa using this
theorem dropWhile_nil (p : UInt8 → Bool) : ∀ l : List UInt8, l.dropWhile p = [] ↔ l.all p = true
  | [] => by simp
  | c :: cs => by
    rw [List.dropWhile_cons, List.all_cons]
    by_cases h : p c = true
    · rw [if_pos h, dropWhile_nil p cs, h, Bool.true_and]
    · rw [if_neg h]
      simp only [Bool.not_eq_true] at h
      simp [h]
theorem dropWhile_head (p : UInt8 → Bool) : ∀ (l : List UInt8) (c : UInt8) (cs : List UInt8), l.dropWhile p = c :: cs → p c = false
  | [], c, cs, h => by cases h
  | a :: t, c, cs, h => by
    rw [List.dropWhile_cons] at h
    by_cases hb : p a = true
    · rw [if_pos hb] at h; exact dropWhile_head p t c cs h
    · rw [if_neg hb] at h
      injection h with h1 h2
      rw [← h1]; simpa using hb
theorem trim_nil (l cs : List UInt8) : (Lib.trimS l cs).isEmpty = l.all (fun c => cs.contains c) := by
  rw [Bool.eq_iff_iff, List.isEmpty_iff]
  unfold Lib.trimS Lib.trimLeftS Lib.trimRightS
  rw [dropWhile_nil, List.all_reverse]
  cases hd : l.reverse.dropWhile (fun x => cs.contains x) with
  | nil =>
    rw [dropWhile_nil, List.all_reverse] at hd
    exact ⟨fun _ => hd, fun _ => rfl⟩
  | cons a t =>
    have h1 := dropWhile_head _ _ _ _ hd
    have h2 : ¬ (l.all (fun c => cs.contains c) = true) := by
      intro h
      have : l.reverse.dropWhile (fun x => cs.contains x) = [] := by rw [dropWhile_nil, List.all_reverse]; exact h
      rw [hd] at this; cases this
    rw [List.all_cons, h1]
    simp only [Bool.false_and, Bool.false_eq_true, false_iff]
    exact h2
theorem trim_ten (l : List UInt8) : (Lib.trimS l tenB).isEmpty = l.all digB := by
  rw [trim_nil]
  congr 1
  exact funext ten_digit
theorem digitVal_of {c : UInt8} (h : digB c = true) : Lib.digitVal c = some (c.toNat - 48) := by
  unfold digB at h
  simp only [Bool.and_eq_true, decide_eq_true_eq] at h
  unfold Lib.digitVal
  rw [if_pos h]
theorem decFrom_all : ∀ (l : List UInt8) (a : Nat), l.all digB = true → Lib.decFrom a l = some (l.foldl (fun n c => 10 * n + (c.toNat - 48)) a)
  | [], a, _ => rfl
  | c :: cs, a, h => by
    rw [List.all_cons, Bool.and_eq_true] at h
    unfold Lib.decFrom
    rw [digitVal_of h.1]
    simp only [List.foldl_cons]
    rw [Nat.mul_comm a 10]
    exact decFrom_all cs _ h.2
theorem decNat_all {l : List UInt8} (h0 : l ≠ []) (h : l.all digB = true) : Lib.decNat l = some (valN l) := by
  unfold Lib.decNat
  rw [if_neg (by simpa using h0), decFrom_all l 0 h]
  rfl
theorem atoi_none {w : List UInt8} (h : digitsOf w = []) : Lib.atoi w = none := by
  match w, h with
  | [], _ => rfl
  | c :: cs, h =>
    unfold digitsOf minusB at h
    by_cases hc : (c == 45) = true
    · rw [if_pos hc] at h
      simp only [List.tail_cons] at h
      subst h
      simp only [Lib.atoi]
      rw [if_pos hc]; rfl
    · rw [if_neg hc] at h; cases h
theorem atoi_some {w : List UInt8} (h0 : digitsOf w ≠ []) (h : (digitsOf w).all digB = true) : Lib.atoi w = some (valZ w) := by
  match w, h0, h with
  | [], h0, _ => exact absurd rfl h0
  | c :: cs, h0, h =>
    unfold valZ
    unfold digitsOf minusB at h0 h ⊢
    by_cases hc : (c == 45) = true
    · rw [if_pos hc] at h0 h
      rw [if_pos hc, if_pos hc]
      simp only [List.tail_cons] at h0 h ⊢
      simp only [Lib.atoi]
      rw [if_pos hc, decNat_all h0 h]; rfl
    · rw [if_neg hc] at h0 h
      rw [if_neg hc, if_neg hc]
      have h43 : ¬ (c == 43) = true := by
        intro e
        have : c = 43 := by simpa using e
        subst this
        rw [List.all_cons] at h
        simp [digB] at h
      simp only [Lib.atoi]
      rw [if_neg hc, if_neg h43, decNat_all h0 h]; rfl
theorem digits_len (w : List UInt8) : w.length ≤ (digitsOf w).length + 1 := by
  unfold digitsOf
  split
  · rw [List.length_tail]; omega
  · omega
theorem num_long {w : List UInt8} (h : 9 < (digitsOf w).length) : numOf w = none := by
  unfold numOf okB
  rw [if_neg]
  simp only [Bool.and_eq_true, decide_eq_true_eq]
  omega
theorem num_bad {w : List UInt8} (h : (digitsOf w).all digB = false) : numOf w = none := by
  unfold numOf okB
  rw [if_neg]
  rw [h]; simp
theorem num_empty {w : List UInt8} (h : digitsOf w = []) : numOf w = none := by
  unfold numOf okB
  rw [if_neg]
  rw [h]; simp
theorem num_yes {w : List UInt8} (h0 : digitsOf w ≠ []) (h1 : (digitsOf w).length ≤ 9) (h2 : (digitsOf w).all digB = true) : numOf w = some (valZ w) := by
  unfold numOf okB
  rw [if_pos]
  have : 1 ≤ (digitsOf w).length := by
    rcases hd : digitsOf w with _ | ⟨a, b⟩
    · exact absurd hd h0
    · simp
  simp [h1, h2, this]
end Go.Proofs.YtcfbnddoknpehaaGreatDoor
