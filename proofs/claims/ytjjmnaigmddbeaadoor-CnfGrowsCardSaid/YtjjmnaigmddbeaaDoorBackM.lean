/- Plain facts: what is written of a formula is read as that formula. No program. -/
import Derived.Test.YtjjmnaigmddbeaaDoorWriteM
import Derived.Test.YtjjmnaigmddbeaaDoorNumM
namespace Go.Proofs.YtjjmnaigmddbeaaDoor
open Words CnfP LitM

theorem dec_all (u : Nat) : (Lib.decDigits u).all digB = true := by
  induction u using Nat.strongRecOn with
  | ind u ih =>
    rw [Lib.decDigits]
    split
    · simp [digB]; omega
    · rw [List.all_append, ih (u / 10) (by omega)]; simp [digB]; omega
theorem dec_ne (u : Nat) : Lib.decDigits u ≠ [] := by
  rw [Lib.decDigits]
  split <;> simp
theorem dec_val (u : Nat) : valN (Lib.decDigits u) = u := by
  induction u using Nat.strongRecOn with
  | ind u ih =>
    rw [Lib.decDigits]
    split
    · simp [valN]; omega
    · rw [valN_snoc, ih (u / 10) (by omega)]; simp; omega
theorem dec_le {u : Nat} (h : u ≤ 999999999) : (Lib.decDigits u).length ≤ 9 := by
  rw [Lib.decDigits_length]; exact nDigits_le 9 u (by omega) (by omega)
theorem minus_dec (u : Nat) : minusB (Lib.decDigits u) = false := by
  have h1 := dec_ne u
  have h2 := dec_all u
  cases hd : Lib.decDigits u with
  | nil => exact absurd hd h1
  | cons c cs =>
    rw [hd] at h2
    simp only [List.all_cons, Bool.and_eq_true] at h2
    have h3 := h2.1
    unfold digB at h3
    simp only [Bool.and_eq_true, decide_eq_true_eq] at h3
    by_cases hc : c = 45
    · subst hc; simp at h3
    · simp [minusB, hc]
theorem num_itoa {n : Int} (h0 : -999999999 ≤ n) (h1 : n ≤ 999999999) : numOf (Lib.itoa n) = some n := by
  by_cases hn : n < 0
  · have e : Lib.itoa n = 45 :: Lib.decDigits n.natAbs := by unfold Lib.itoa; rw [if_pos hn]
    have em : minusB (45 :: Lib.decDigits n.natAbs) = true := rfl
    have ed : digitsOf (Lib.itoa n) = Lib.decDigits n.natAbs := by rw [e]; unfold digitsOf; rw [em]; rfl
    rw [num_yes (by rw [ed]; exact dec_ne _) (by rw [ed]; exact dec_le (by omega)) (by rw [ed]; exact dec_all _)]
    unfold valZ
    rw [ed, dec_val, e, em]
    simp only [if_true]
    congr 1; omega
  · have e : Lib.itoa n = Lib.decDigits n.toNat := by unfold Lib.itoa; rw [if_neg hn]
    have ed : digitsOf (Lib.itoa n) = Lib.decDigits n.toNat := by rw [e]; unfold digitsOf; rw [minus_dec]; rfl
    rw [num_yes (by rw [ed]; exact dec_ne _) (by rw [ed]; exact dec_le (by omega)) (by rw [ed]; exact dec_all _)]
    unfold valZ
    rw [ed, dec_val, e, minus_dec]
    simp only [Bool.false_eq_true, if_false]
    congr 1; omega
theorem itoa_ne (n : Int) : Lib.itoa n ≠ [] := by
  unfold Lib.itoa
  split
  · simp
  · exact dec_ne _
/-- A sign of a number. -/
theorem itoa_signs (n : Int) : ∀ c ∈ Lib.itoa n, c = 45 ∨ digB c = true := by
  intro c hc
  unfold Lib.itoa at hc
  split at hc
  · rcases List.mem_cons.1 hc with h | h
    · exact .inl h
    · exact .inr (List.all_eq_true.1 (dec_all _) c h)
  · exact .inr (List.all_eq_true.1 (dec_all _) c hc)
theorem sign_not {c : UInt8} (h : c = 45 ∨ digB c = true) : blankB c = false ∧ (c == 10) = false ∧ c ≠ 99 := by
  rcases h with rfl | h
  · decide
  · unfold digB at h
    simp only [Bool.and_eq_true, decide_eq_true_eq] at h
    refine ⟨?_, ?_, ?_⟩
    · unfold blankB
      simp only [Bool.or_eq_false_iff, beq_eq_false_iff_ne]
      exact ⟨fun e => by subst e; simp at h, fun e => by subst e; simp at h⟩
    · rw [beq_eq_false_iff_ne]; exact fun e => by subst e; simp at h
    · exact fun e => by subst e; simp at h

theorem goW_app : ∀ (W acc R : List UInt8), (∀ c ∈ W, blankB c = false) → goW acc (W ++ R) = goW (acc ++ W) R
  | [], acc, R, _ => by simp
  | c :: W, acc, R, h => by
    have hc := h c (by simp)
    rw [List.cons_append]
    simp only [goW, hc, Bool.false_eq_true, if_false]
    rw [goW_app W (acc ++ [c]) R (fun x hx => h x (by simp [hx]))]
    simp
theorem goW_one {W : List UInt8} (hne : W ≠ []) (h : ∀ c ∈ W, blankB c = false) (R : List UInt8) : goW [] (W ++ 32 :: R) = W :: goW [] R := by
  rw [goW_app W [] (32 :: R) h, List.nil_append]
  have : blankB 32 = true := rfl
  simp [goW, this, hne]
theorem goW_last {W : List UInt8} (hne : W ≠ []) (h : ∀ c ∈ W, blankB c = false) : goW [] W = [W] := by
  have := goW_app W [] [] h
  rw [List.append_nil, List.nil_append] at this
  rw [this]; simp [goW, hne]
theorem goL_app : ∀ (X line R : List UInt8), (∀ c ∈ X, (c == 10) = false) → goL line (X ++ 10 :: R) = lineW (line ++ X) ++ goL [] R
  | [], line, R, _ => by simp [goL]
  | c :: X, line, R, h => by
    have hc := h c (by simp)
    rw [List.cons_append]
    simp only [goL, hc, Bool.false_eq_true, if_false]
    rw [goL_app X (line ++ [c]) R (fun x hx => h x (by simp [hx]))]
    simp
theorem remark_no {l : List UInt8} (h : ∀ c ∈ l, c ≠ 99) : remarkB l = false := by
  unfold remarkB
  split
  · rfl
  · rw [beq_eq_false_iff_ne]; exact h _ (by simp)
  · rw [Bool.and_eq_false_iff]; left; rw [beq_eq_false_iff_ne]; exact h _ (by simp)

/-- The words of a clause's line. -/
def clauseWs (c : List Int) : List (List UInt8) := c.map Lib.itoa ++ [[48]]
theorem lits_words : ∀ c : List Int, goW [] (litsT c ++ [48]) = clauseWs c
  | [] => by decide
  | l :: c => by
    have ih := lits_words c
    have e : litsT (l :: c) ++ [48] = Lib.itoa l ++ 32 :: (litsT c ++ [48]) := by simp [litsT, litT]
    rw [e, goW_one (itoa_ne l) (fun x hx => (sign_not (itoa_signs l x hx)).1), ih]
    rfl
theorem lits_signs (c : List Int) : ∀ x ∈ litsT c ++ [48], (x == 10) = false ∧ x ≠ 99 := by
  intro x hx
  rcases List.mem_append.1 hx with h | h
  · unfold litsT at h
    obtain ⟨l, _, h⟩ := List.mem_flatMap.1 h
    unfold litT at h
    rcases List.mem_append.1 h with h | h
    · exact (sign_not (itoa_signs l x h)).2
    · simp at h; subst h; decide
  · simp at h; subst h; decide
theorem clause_line (c : List Int) (R : List UInt8) : goL [] (clauseT c ++ R) = clauseWs c ++ goL [] R := by
  have e : clauseT c ++ R = (litsT c ++ [48]) ++ 10 :: R := by simp [clauseT]
  rw [e, goL_app _ [] R (fun x hx => (lits_signs c x hx).1), List.nil_append]
  unfold lineW
  rw [remark_no (fun x hx => (lits_signs c x hx).2), if_neg (by simp), lits_words]
theorem clauses_lines : ∀ cs : List (List Int), goL [] (cs.flatMap clauseT) = cs.flatMap clauseWs
  | [] => rfl
  | c :: cs => by rw [List.flatMap_cons, List.flatMap_cons, clause_line, clauses_lines cs]
theorem head_line (v n : Int) (R : List UInt8) : goL [] (headT v n ++ R) = pW :: cnfW :: Lib.itoa v :: Lib.itoa n :: goL [] R := by
  have e : headT v n ++ R = ([112] ++ 32 :: ([99, 110, 102] ++ 32 :: (Lib.itoa v ++ 32 :: Lib.itoa n))) ++ 10 :: R := by simp [headT]
  have hs : ∀ m : Int, ∀ c ∈ Lib.itoa m, blankB c = false ∧ (c == 10) = false := fun m c hc => ⟨(sign_not (itoa_signs m c hc)).1, (sign_not (itoa_signs m c hc)).2.1⟩
  rw [e, goL_app _ [] R (fun x hx => by
    simp only [List.mem_append, List.mem_cons, List.mem_nil_iff, or_false] at hx
    rcases hx with h | h | (h | h | h) | h | h | h | h
    · subst h; decide
    · subst h; decide
    · subst h; decide
    · subst h; decide
    · subst h; decide
    · subst h; decide
    · exact (hs v x h).2
    · subst h; decide
    · exact (hs n x h).2), List.nil_append]
  unfold lineW
  rw [show remarkB ([112] ++ 32 :: ([99, 110, 102] ++ 32 :: (Lib.itoa v ++ 32 :: Lib.itoa n))) = false from rfl, if_neg (by simp)]
  rw [goW_one (by simp) (by decide), goW_one (by simp) (by decide), goW_one (itoa_ne v) (fun x hx => (hs v x hx).1), goW_last (itoa_ne n) (fun x hx => (hs n x hx).1)]
  rfl

theorem clause_back : ∀ (c : List Int) (ws : List (List UInt8)), (∀ l ∈ c, l ≠ 0 ∧ -262144 ≤ l ∧ l ≤ 262144) → clauseOf (clauseWs c ++ ws) = some (c, ws)
  | [], ws, _ => by
    have : numOf [48] = some 0 := by decide
    simp [clauseWs, clauseOf, this]
  | l :: c, ws, h => by
    have hl := h l (by simp)
    have ih := clause_back c ws (fun x hx => h x (by simp [hx]))
    have e : clauseWs (l :: c) ++ ws = Lib.itoa l :: (clauseWs c ++ ws) := by simp [clauseWs]
    rw [e, clauseOf, num_itoa (by omega) (by omega)]
    simp only
    rw [if_neg hl.1, ih]
    rfl
theorem clauses_back : ∀ (cs : List (List Int)), (∀ c ∈ cs, ∀ l ∈ c, l ≠ 0 ∧ -262144 ≤ l ∧ l ≤ 262144) → clausesOf cs.length (cs.flatMap clauseWs) = some (cs, [])
  | [], _ => rfl
  | c :: cs, h => by
    rw [List.flatMap_cons, List.length_cons, clausesOf, clause_back c _ (h c (by simp))]
    simp only
    rw [clauses_back cs (fun x hx => h x (by simp [hx]))]
    rfl
theorem rightF_lits {v : Int} {cs : List (List Int)} (h : rightF v cs = true) : ∀ c ∈ cs, ∀ l ∈ c, l ≠ 0 ∧ -262144 ≤ l ∧ l ≤ 262144 := by
  intro c hc l hl
  unfold rightF at h
  simp only [Bool.and_eq_true, List.all_eq_true] at h
  have h1 := h.2 c hc
  unfold clauseB at h1
  have h2 := List.all_eq_true.1 h1 l hl
  unfold litB at h2
  rw [Bool.and_eq_true] at h2
  have := (one_iff l).1 h2.1
  omega
theorem rightF_var {v : Int} {cs : List (List Int)} (h : rightF v cs = true) : 0 ≤ v ∧ v ≤ 262144 := by
  unfold rightF at h
  simp only [Bool.and_eq_true, decide_eq_true_eq] at h
  exact h.1.1.1
/-- What is written is read again. -/
theorem formula_back {v : Int} {cs : List (List Int)} (h : rightF v cs = true) : formulaOf (wordsL (formulaT v cs)) = some (v, cs) := by
  have hv := rightF_var h
  have hn := rightF_len h
  unfold wordsL formulaT
  rw [head_line, clauses_lines, formulaOf, if_pos ⟨rfl, rfl⟩, num_itoa (by omega) (by omega), num_itoa (by omega) (by omega)]
  simp only
  exact body_back h hn
where
  body_back {v : Int} {cs : List (List Int)} (h : rightF v cs = true) (hn : cs.length ≤ 1048576) : bodyOf v (cs.length : Int) (cs.flatMap clauseWs) = some (v, cs) := by
    unfold bodyOf
    rw [if_pos ⟨by omega, by omega⟩, show ((cs.length : Int)).toNat = cs.length from by omega, clauses_back cs (rightF_lits h)]
    simp [h]
/-- What is read can be. -/
theorem formula_right {ws : List (List UInt8)} {v : Int} {cs : List (List Int)} (h : formulaOf ws = some (v, cs)) : rightF v cs = true := by
  unfold formulaOf at h
  split at h
  · split at h
    · split at h
      · unfold bodyOf at h
        split at h
        · split at h
          · split at h
            · rename_i hr
              injection h with h
              injection h with h1 h2
              subst h1; subst h2
              exact hr
            · cases h
          · cases h
        · cases h
      · cases h
    · cases h
  · cases h
end Go.Proofs.YtjjmnaigmddbeaaDoor
