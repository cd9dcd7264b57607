/- Plain facts on formulas that are read of words: clause by clause, and as the plain answer does. No program. -/
import Derived.Test.YtcfbnddoknpehaaGreatDoorLitM
import Derived.Test.YtcfbnddoknpehaaGreatDoorWords
namespace Go.Proofs.YtcfbnddoknpehaaGreatDoor.CnfP
open LitM Words

/-- Can a formula be? -/
def litB (v l : Int) : Bool := one l && decide (varZ l ≤ v)
def clauseB (v : Int) (c : List Int) : Bool := c.all (litB v)
def total (cs : List (List Int)) : Nat := (cs.map List.length).sum
def rightF (v : Int) (cs : List (List Int)) : Bool :=
  decide (0 ≤ v) && decide (v ≤ 262144) && decide (cs.length ≤ 1048576) && decide (total cs ≤ 4194304) && cs.all (clauseB v)

theorem total_nil : total [] = 0 := rfl
theorem total_cons (c : List Int) (cs : List (List Int)) : total (c :: cs) = c.length + total cs := by simp [total]
theorem total_append (a b : List (List Int)) : total (a ++ b) = total a + total b := by simp [total]

/-- A clause, up to its 0, and what is behind it. -/
def clauseOf : List (List UInt8) → Option (List Int × List (List UInt8))
  | [] => none
  | w :: ws => match numOf w with
    | none => none
    | some n => if n = 0 then some ([], ws) else (clauseOf ws).map (fun p => (n :: p.1, p.2))
def clausesOf : Nat → List (List UInt8) → Option (List (List Int) × List (List UInt8))
  | 0, ws => some ([], ws)
  | k + 1, ws => match clauseOf ws with
    | none => none
    | some p => (clausesOf k p.2).map (fun q => (p.1 :: q.1, q.2))
def pW : List UInt8 := [112]
def cnfW : List UInt8 := [99, 110, 102]
/-- The formula whose numbers are read. -/
def bodyOf (v m : Int) (ws : List (List UInt8)) : Option (Int × List (List Int)) :=
  if 0 ≤ m ∧ m ≤ 1048576 then match clausesOf m.toNat ws with
    | some (cs, []) => if rightF v cs then some (v, cs) else none
    | _ => none
  else none
def formulaOf : List (List UInt8) → Option (Int × List (List Int))
  | p :: c :: a :: b :: ws => if p = pW ∧ c = cnfW then match numOf a, numOf b with
      | some v, some m => bodyOf v m ws
      | _, _ => none
    else none
  | _ => none

/-- As the plain answer reads it, word by word. -/
def refGo (F : List (List Int)) (cur : List Int) : List (List UInt8) → Option (List (List Int) × List Int)
  | [] => some (F, cur)
  | w :: ws => match numOf w with
    | none => none
    | some n => if 262144 < n ∨ n < -262144 then none else if n = 0 then refGo (F ++ [cur]) [] ws else refGo F (cur ++ [n]) ws
def refBody (v m : Int) (ws : List (List UInt8)) : Option (Int × List (List Int)) :=
  match refGo [] [] ws with
  | some (F, []) => if (F.length : Int) = m ∧ rightF v F = true then some (v, F) else none
  | _ => none

theorem clausesOf_len : ∀ (k : Nat) (ws : List (List UInt8)) (cs r), clausesOf k ws = some (cs, r) → cs.length = k
  | 0, ws, cs, r, h => by simp [clausesOf] at h; simp [← h.1]
  | k + 1, ws, cs, r, h => by
    simp only [clausesOf] at h
    split at h
    · cases h
    · rename_i p hp
      rw [Option.map_eq_some_iff] at h
      obtain ⟨q, hq, e⟩ := h
      injection e with e1 e2
      subst e1
      have := clausesOf_len k p.2 q.1 q.2 hq
      simp [this]
theorem clauseOf_ref : ∀ (ws : List (List UInt8)) (c : List Int) (r : List (List UInt8)) (F : List (List Int)) (cur : List Int), clauseOf ws = some (c, r) → (∀ l ∈ c, -262144 ≤ l ∧ l ≤ 262144) → refGo F cur ws = refGo (F ++ [cur ++ c]) [] r
  | [], c, r, F, cur, h, _ => by cases h
  | w :: ws, c, r, F, cur, h, hb => by
    simp only [clauseOf] at h
    simp only [refGo]
    cases hn : numOf w with
    | none => rw [hn] at h; cases h
    | some n =>
      rw [hn] at h
      simp only at h ⊢
      by_cases h0 : n = 0
      · rw [if_pos h0] at h
        injection h with h
        injection h with h1 h2
        subst h1; subst h2
        rw [if_neg (by omega), if_pos h0, List.append_nil]
      · rw [if_neg h0, Option.map_eq_some_iff] at h
        obtain ⟨q, hq, e⟩ := h
        injection e with e1 e2
        subst e1; subst e2
        have hnb := hb n (by simp)
        rw [if_neg (by omega), if_neg h0, clauseOf_ref ws q.1 q.2 F (cur ++ [n]) hq (fun l hl => hb l (by simp [hl]))]
        simp
theorem clausesOf_ref : ∀ (k : Nat) (ws : List (List UInt8)) (cs : List (List Int)) (F : List (List Int)), clausesOf k ws = some (cs, []) → (∀ c ∈ cs, ∀ l ∈ c, -262144 ≤ l ∧ l ≤ 262144) → refGo F [] ws = some (F ++ cs, [])
  | 0, ws, cs, F, h, _ => by
    simp only [clausesOf] at h
    injection h with h
    injection h with h1 h2
    subst h1; subst h2
    simp [refGo]
  | k + 1, ws, cs, F, h, hb => by
    simp only [clausesOf] at h
    split at h
    · cases h
    · rename_i p hp
      rw [Option.map_eq_some_iff] at h
      obtain ⟨q, hq, e⟩ := h
      injection e with e1 e2
      subst e1
      have e3 : q = (q.1, []) := by rw [← e2]
      rw [e3] at hq
      rw [clauseOf_ref ws p.1 p.2 F [] hp (fun l hl => hb _ (by simp) l hl), clausesOf_ref k p.2 q.1 (F ++ [[] ++ p.1]) hq (fun c hc => hb c (by simp [hc]))]
      simp
theorem refGo_back : ∀ (ws : List (List UInt8)) (F : List (List Int)) (cur : List Int) (G : List (List Int)), refGo F cur ws = some (G, []) →
    (cur = [] → ∃ k cs, clausesOf k ws = some (cs, []) ∧ G = F ++ cs) ∧ (∃ c r k cs, clauseOf ws = some (c, r) ∧ clausesOf k r = some (cs, []) ∧ G = F ++ (cur ++ c) :: cs) ∨ (ws = [] ∧ cur = [] ∧ G = F)
  | [], F, cur, G, h => by
    simp only [refGo] at h
    injection h with h
    injection h with h1 h2
    exact .inr ⟨rfl, h2, h1.symm⟩
  | w :: ws, F, cur, G, h => by
    simp only [refGo] at h
    cases hn : numOf w with
    | none => rw [hn] at h; cases h
    | some n =>
      rw [hn] at h
      simp only at h
      split at h
      · cases h
      · have key : ∃ c r k cs, clauseOf (w :: ws) = some (c, r) ∧ clausesOf k r = some (cs, []) ∧ G = F ++ (cur ++ c) :: cs := by
          split at h
          · rename_i h0
            have hc : clauseOf (w :: ws) = some ([], ws) := by simp [clauseOf, hn, h0]
            rcases refGo_back ws (F ++ [cur]) [] G h with ⟨h1, _⟩ | ⟨rfl, _, rfl⟩
            · obtain ⟨k, cs, e1, e2⟩ := h1 rfl
              exact ⟨[], ws, k, cs, hc, e1, by rw [e2]; simp⟩
            · exact ⟨[], [], 0, [], hc, rfl, by simp⟩
          · rename_i h0
            rcases refGo_back ws F (cur ++ [n]) G h with ⟨_, c, r, k, cs, e1, e2, e3⟩ | ⟨_, e, _⟩
            · exact ⟨n :: c, r, k, cs, by simp [clauseOf, hn, h0, e1], e2, by rw [e3]; simp⟩
            · simp at e
        refine .inl ⟨fun hcur => ?_, key⟩
        obtain ⟨c, r, k, cs, e1, e2, e3⟩ := key
        subst hcur
        exact ⟨k + 1, c :: cs, by simp [clausesOf, e1, e2], by rw [e3]; simp⟩
theorem clauseB_bd {v : Int} {c : List Int} (h : clauseB v c = true) {l : Int} (hl : l ∈ c) : -262144 ≤ l ∧ l ≤ 262144 := by
  unfold clauseB at h
  rw [List.all_eq_true] at h
  have := h l hl
  unfold litB at this
  rw [Bool.and_eq_true] at this
  have := (one_iff l).1 this.1
  omega
theorem rightF_bd {v : Int} {cs : List (List Int)} (h : rightF v cs = true) : ∀ c ∈ cs, ∀ l ∈ c, -262144 ≤ l ∧ l ≤ 262144 := by
  unfold rightF at h
  simp only [Bool.and_eq_true, List.all_eq_true] at h
  exact fun c hc l hl => clauseB_bd (h.2 c hc) hl
theorem rightF_len {v : Int} {cs : List (List Int)} (h : rightF v cs = true) : cs.length ≤ 1048576 := by
  unfold rightF at h
  simp only [Bool.and_eq_true, decide_eq_true_eq] at h
  exact h.1.1.2
theorem refBody_eq (v m : Int) (ws : List (List UInt8)) : refBody v m ws = bodyOf v m ws := by
  unfold refBody bodyOf
  by_cases hm : 0 ≤ m ∧ m ≤ 1048576
  · rw [if_pos hm]
    cases hc : clausesOf m.toNat ws with
    | none =>
      cases hg : refGo [] [] ws with
      | none => rfl
      | some q =>
        obtain ⟨F, cur⟩ := q
        cases cur with
        | cons _ _ => rfl
        | nil =>
          simp only
          rw [if_neg]
          rintro ⟨h1, h2⟩
          have : ∃ k cs, clausesOf k ws = some (cs, []) ∧ F = cs := by
            rcases refGo_back ws [] [] F hg with ⟨h, _⟩ | ⟨rfl, _, rfl⟩
            · simpa using h rfl
            · exact ⟨0, [], rfl, rfl⟩
          obtain ⟨k, cs, e1, rfl⟩ := this
          have e2 := clausesOf_len _ _ _ _ e1
          have : m.toNat = k := by omega
          rw [this, e1] at hc
          cases hc
    | some q =>
      obtain ⟨cs, r⟩ := q
      have e2 := clausesOf_len _ _ _ _ hc
      have hrest : r = [] → rightF v cs = true → refGo [] [] ws = some (cs, []) := fun hr hR => by
        subst hr
        simpa using clausesOf_ref _ _ _ [] hc (rightF_bd hR)
      cases r with
      | nil =>
        simp only
        by_cases hR : rightF v cs = true
        · rw [hrest rfl hR, if_pos hR]
          simp only
          rw [if_pos ⟨by omega, hR⟩]
        · rw [if_neg hR]
          cases hg : refGo [] [] ws with
          | none => rfl
          | some q =>
            obtain ⟨F, cur⟩ := q
            cases cur with
            | cons _ _ => rfl
            | nil =>
              simp only
              rw [if_neg]
              rintro ⟨h1, h2⟩
              have : ∃ k cs, clausesOf k ws = some (cs, []) ∧ F = cs := by
                rcases refGo_back ws [] [] F hg with ⟨h, _⟩ | ⟨rfl, _, rfl⟩
                · simpa using h rfl
                · exact ⟨0, [], rfl, rfl⟩
              obtain ⟨k, cs', e1, rfl⟩ := this
              have e3 := clausesOf_len _ _ _ _ e1
              have : m.toNat = k := by omega
              rw [this, e1] at hc
              injection hc with hc
              injection hc with hc _
              subst hc
              exact hR h2
      | cons x xs =>
        simp only
        cases hg : refGo [] [] ws with
        | none => rfl
        | some q =>
          obtain ⟨F, cur⟩ := q
          cases cur with
          | cons _ _ => rfl
          | nil =>
            simp only
            rw [if_neg]
            rintro ⟨h1, h2⟩
            have : ∃ k cs, clausesOf k ws = some (cs, []) ∧ F = cs := by
              rcases refGo_back ws [] [] F hg with ⟨h, _⟩ | ⟨rfl, _, rfl⟩
              · simpa using h rfl
              · exact ⟨0, [], rfl, rfl⟩
            obtain ⟨k, cs', e1, rfl⟩ := this
            have e3 := clausesOf_len _ _ _ _ e1
            have : m.toNat = k := by omega
            rw [this, e1] at hc
            injection hc with hc
            injection hc with _ hc
            cases hc
  · rw [if_neg hm]
    cases hg : refGo [] [] ws with
    | none => rfl
    | some q =>
      obtain ⟨F, cur⟩ := q
      cases cur with
      | cons _ _ => rfl
      | nil =>
        simp only
        rw [if_neg]
        rintro ⟨h1, h2⟩
        have := rightF_len h2
        omega
end Go.Proofs.YtcfbnddoknpehaaGreatDoor.CnfP
