/- Package tree: fits, right, Right. -/
import Derived.Test.YtmkhfcdjgdofnaaDoorTreB
import Derived.Lib.QuietBelow
namespace Go.Proofs.YtmkhfcdjgdofnaaDoor
open Go.RowKit TreM WrdM

/-- Are Num and Name as the op says? -/
def fitB (o n : Int) (s : List UInt8) : Bool :=
  if o = 1 then s.isEmpty && (decide (0 ≤ n) && decide (n ≤ 1000000)) else if o = 2 then s.isEmpty && (decide (0 ≤ n) && decide (n ≤ 1)) else if o = 4 then s.isEmpty else if o = 3 then decide (n = 0) && nameB s else decide (n = 0) && s.isEmpty
theorem nameB_eq (s : List UInt8) : nameB s = nameOk s := rfl
theorem empty_list (s : List UInt8) : ((⟨s.toArray⟩ : ByteArray).toList == []) = s.isEmpty := by
  rw [Lib.toList_data]
  cases s <;> simp

set_option maxHeartbeats 1600000 in
theorem fits_any {b p : Nat} {w : World} {o n : Int} {s : List UInt8} {A : Option Addr} {m cap : Nat} {l c : Int} (h : Ex6 w b p o n s A m cap l c) (hs : s.length ≤ 9223372036854775807) :
    Calls Tryd.prog 76 #[.pointer (some ⟨b, p, none⟩)] w fun e w' => e = .returned (.bool (fitB o n s)) ∧ Below w.heap.size w w' := by
  obtain ⟨c0, c1, c2, c3, c4, c5⟩ := h
  have HN := Lib.hid (name_any s w hs)
  have HE := Lib.hid (empty_list s)
  have HF : Hid (fitB o n s = if o = 1 then s.isEmpty && (decide (0 ≤ n) && decide (n ≤ 1000000)) else if o = 2 then s.isEmpty && (decide (0 ≤ n) && decide (n ≤ 1)) else if o = 4 then s.isEmpty else if o = 3 then decide (n = 0) && nameB s else decide (n = 0) && s.isEmpty) := rfl
  generalize fitB o n s = F at *
  generalize s.isEmpty = em at *
  generalize nameB s = nb at *
  generalize (⟨s.toArray⟩ : ByteArray) = sb at *
  have he := HE.out
  clear HE hs
  by_cases h1 : o = 1
  · have t1 : (o == 1) = true := by rw [beq_iff_eq]; exact h1
    have hF := HF.out
    rw [if_pos h1] at hF
    clear h1 HF HN
    cases em
    · have HF := Lib.hid hF; clear hF
      go_enter Tryd.func76, Tryd.ntmps76
      go_wp2
      go_ret
      exact ⟨ret_bool HF.out.symm, Below.refl _ _⟩
    · rcases h0 : decide (0 ≤ n) with _ | _
      · rw [h0] at hF
        have HF := Lib.hid hF; clear hF
        go_enter Tryd.func76, Tryd.ntmps76
        go_wp2
        go_ret
        exact ⟨ret_bool HF.out.symm, Below.refl _ _⟩
      · rw [h0] at hF
        have HF := Lib.hid hF; clear hF
        go_enter Tryd.func76, Tryd.ntmps76
        go_wp2
        go_ret
        exact ⟨ret_bool HF.out.symm, Below.refl _ _⟩
  have t1 : (o == 1) = false := by rw [beq_eq_false_iff_ne]; exact h1
  by_cases h2 : o = 2
  · have t2 : (o == 2) = true := by rw [beq_iff_eq]; exact h2
    have hF := HF.out
    rw [if_neg h1, if_pos h2] at hF
    clear h1 h2 HF HN
    cases em
    · have HF := Lib.hid hF; clear hF
      go_enter Tryd.func76, Tryd.ntmps76
      go_wp2
      go_ret
      exact ⟨ret_bool HF.out.symm, Below.refl _ _⟩
    · rcases h0 : decide (0 ≤ n) with _ | _
      · rw [h0] at hF
        have HF := Lib.hid hF; clear hF
        go_enter Tryd.func76, Tryd.ntmps76
        go_wp2
        go_ret
        exact ⟨ret_bool HF.out.symm, Below.refl _ _⟩
      · rw [h0] at hF
        have HF := Lib.hid hF; clear hF
        go_enter Tryd.func76, Tryd.ntmps76
        go_wp2
        go_ret
        exact ⟨ret_bool HF.out.symm, Below.refl _ _⟩
  have t2 : (o == 2) = false := by rw [beq_eq_false_iff_ne]; exact h2
  by_cases h4 : o = 4
  · have t4 : (o == 4) = true := by rw [beq_iff_eq]; exact h4
    have hF := HF.out
    rw [if_neg h1, if_neg h2, if_pos h4] at hF
    clear h1 h2 h4 HF HN
    have HF := Lib.hid hF; clear hF
    go_enter Tryd.func76, Tryd.ntmps76
    go_wp2
    go_ret
    exact ⟨ret_bool HF.out.symm, Below.refl _ _⟩
  have t4 : (o == 4) = false := by rw [beq_eq_false_iff_ne]; exact h4
  have e0 : (n == 0) = decide (n = 0) := by rw [Bool.eq_iff_iff]; simp
  by_cases h3 : o = 3
  · have t3 : (o == 3) = true := by rw [beq_iff_eq]; exact h3
    have hF := HF.out
    rw [if_neg h1, if_neg h2, if_neg h4, if_pos h3] at hF
    clear h1 h2 h4 h3 HF
    rcases h0 : decide (n = 0) with _ | _
    · rw [h0] at hF e0
      have HF := Lib.hid hF; clear hF h0
      go_enter Tryd.func76, Tryd.ntmps76
      go_wp2
      go_ret
      exact ⟨ret_bool HF.out.symm, Below.refl _ _⟩
    · rw [h0] at hF e0
      have HF := Lib.hid hF; clear hF h0
      go_enter Tryd.func76, Tryd.ntmps76
      go_wp2_with (refine HN.out.mono ?_; rintro e w1 ⟨rfl, hB1⟩)
      go_ret
      exact ⟨ret_bool HF.out.symm, hB1⟩
  have t3 : (o == 3) = false := by rw [beq_eq_false_iff_ne]; exact h3
  have hF := HF.out
  rw [if_neg h1, if_neg h2, if_neg h4, if_neg h3] at hF
  clear h1 h2 h4 h3 HF HN
  rcases h0 : decide (n = 0) with _ | _
  · rw [h0] at hF e0
    have HF := Lib.hid hF; clear hF h0
    go_enter Tryd.func76, Tryd.ntmps76
    go_wp2
    go_ret
    exact ⟨ret_bool HF.out.symm, Below.refl _ _⟩
  · rw [h0] at hF e0
    have HF := Lib.hid hF; clear hF h0
    go_enter Tryd.func76, Tryd.ntmps76
    go_wp2
    go_ret
    exact ⟨ret_bool HF.out.symm, Below.refl _ _⟩
/-- What stands in an expression itself, as the code asks it. -/
theorem own_eq (o n : Int) (s : List UInt8) (m : Nat) : ownB o n s m = (decide (1 ≤ o) && (decide (o < 31) && (decide (m = kidsC o) && fitB o n s))) := by
  unfold ownB kidsN kidsC fitB
  simp only [nameB_eq]
  by_cases h0 : 1 ≤ o
  case neg =>
    have a1 : ¬ (1 ≤ o ∧ o ≤ 4) := by omega
    have a2 : ¬ (5 ≤ o ∧ o ≤ 13) := by omega
    have a3 : ¬ (14 ≤ o ∧ o ≤ 30) := by omega
    rw [if_neg a1, if_neg a2, if_neg a3, decide_eq_false h0, decide_eq_false (by omega)]
    simp
  by_cases h1 : o < 31
  case neg =>
    have a1 : ¬ (1 ≤ o ∧ o ≤ 4) := by omega
    have a2 : ¬ (5 ≤ o ∧ o ≤ 13) := by omega
    have a3 : ¬ (14 ≤ o ∧ o ≤ 30) := by omega
    rw [if_neg a1, if_neg a2, if_neg a3, decide_eq_false h1, decide_eq_false (by omega)]
    simp
  rw [decide_eq_true h0, decide_eq_true h1, Bool.true_and, Bool.true_and]
  by_cases h14 : 14 ≤ o
  · have a1 : ¬ (1 ≤ o ∧ o ≤ 4) := by omega
    have a2 : ¬ (5 ≤ o ∧ o ≤ 13) := by omega
    have a3 : (14 ≤ o ∧ o ≤ 30) := by omega
    have b1 : ¬ o = 1 := by omega
    have b2 : ¬ o = 2 := by omega
    have b3 : ¬ o = 3 := by omega
    have b4 : ¬ o = 4 := by omega
    simp only [if_neg a1, if_neg a2, if_pos a3, if_pos h14, if_neg b1, if_neg b2, if_neg b3, if_neg b4, decide_eq_false b3, Bool.false_or]
    congr 1
    · rw [Bool.eq_iff_iff]; simp; omega
    · rw [Bool.and_comm]
  · by_cases h5 : 5 ≤ o
    · have a1 : ¬ (1 ≤ o ∧ o ≤ 4) := by omega
      have a2 : (5 ≤ o ∧ o ≤ 13) := by omega
      have b1 : ¬ o = 1 := by omega
      have b2 : ¬ o = 2 := by omega
      have b3 : ¬ o = 3 := by omega
      have b4 : ¬ o = 4 := by omega
      simp only [if_neg a1, if_pos a2, if_neg h14, if_pos h5, if_neg b1, if_neg b2, if_neg b3, if_neg b4, decide_eq_false b3, Bool.false_or]
      congr 1
      · rw [Bool.eq_iff_iff]; simp; omega
      · rw [Bool.and_comm]
    · have a1 : (1 ≤ o ∧ o ≤ 4) := by omega
      simp only [if_pos a1, if_neg h14, if_neg h5]
      congr 1
      · rw [Bool.eq_iff_iff]; simp; omega
      · rcases (show o = 1 ∨ o = 2 ∨ o = 3 ∨ o = 4 by omega) with rfl | rfl | rfl | rfl
        · simp
        · simp only [show ¬ ((2 : Int) = 1) by decide, if_false, if_true, show decide ((2 : Int) = 3) = false by decide, Bool.false_or]
          congr 1
          rw [Bool.eq_iff_iff]; simp; omega
        · simp
        · simp
end Go.Proofs.YtmkhfcdjgdofnaaDoor
