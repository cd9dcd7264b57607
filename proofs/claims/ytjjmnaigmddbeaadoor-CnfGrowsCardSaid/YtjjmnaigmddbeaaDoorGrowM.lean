/- Plain facts on a formula with one clause more, with an empty one, with none. No program. -/
import Derived.Test.YtjjmnaigmddbeaaDoorFalse
import Derived.Test.YtjjmnaigmddbeaaDoorGreat
namespace Go.Proofs.YtjjmnaigmddbeaaDoor
open LitM CnfP

theorem falseAt_all (bs : List Bool) : ∀ cs : List (List Int), falseAt bs cs = -1 ↔ ∀ c ∈ cs, clauseH bs c = true
  | [] => by simp [falseAt]
  | c :: cs => by
    have ih := falseAt_all bs cs
    have hg := falseAt_ge bs cs
    unfold falseAt
    by_cases hc : clauseH bs c = true
    · rw [if_pos hc]
      by_cases hf : falseAt bs cs = -1
      · rw [if_pos hf]
        simp only [List.mem_cons, forall_eq_or_imp, true_iff]
        exact ⟨hc, ih.1 hf⟩
      · rw [if_neg hf]
        constructor
        · intro h; omega
        · intro h; exact absurd (ih.2 fun x hx => h x (by simp [hx])) hf
    · rw [if_neg hc]
      constructor
      · intro h; omega
      · intro h; exact absurd (h c (by simp)) hc
theorem right_parts {v : Int} {cs : List (List Int)} : rightF v cs = true ↔ 0 ≤ v ∧ v ≤ 262144 ∧ cs.length ≤ 1048576 ∧ total cs ≤ 4194304 ∧ ∀ c ∈ cs, clauseB v c = true := by
  unfold rightF
  simp only [Bool.and_eq_true, decide_eq_true_eq, List.all_eq_true]
  constructor
  · rintro ⟨⟨⟨⟨h1, h2⟩, h3⟩, h4⟩, h5⟩; exact ⟨h1, h2, h3, h4, h5⟩
  · rintro ⟨h1, h2, h3, h4, h5⟩; exact ⟨⟨⟨⟨h1, h2⟩, h3⟩, h4⟩, h5⟩
theorem right_nil {v : Int} {cs : List (List Int)} (h : rightF v cs = true) : rightF v [] = true := by
  rw [right_parts] at h ⊢
  exact ⟨h.1, h.2.1, by simp, by simp [total], by simp⟩
theorem right_app {v : Int} {cs : List (List Int)} {xs : List Int} (h : rightF v (cs ++ [xs]) = true) : rightF v cs = true := by
  rw [right_parts] at h ⊢
  obtain ⟨h1, h2, h3, h4, h5⟩ := h
  rw [List.length_append] at h3
  rw [total_append] at h4
  exact ⟨h1, h2, by omega, by omega, fun c hc => h5 c (by simp [hc])⟩
theorem right_empty {v : Int} {cs : List (List Int)} (h : rightF v cs = true) (hl : cs.length ≤ 100) : rightF v (cs ++ [[]]) = true := by
  rw [right_parts] at h ⊢
  obtain ⟨h1, h2, h3, h4, h5⟩ := h
  refine ⟨h1, h2, by simp; omega, by rw [total_append]; simp [total] at h4 ⊢; omega, fun c hc => ?_⟩
  rcases List.mem_append.1 hc with hc | hc
  · exact h5 c hc
  · simp at hc; subst hc; rfl
theorem grow_cases {v : Int} {cs : List (List Int)} {xs : List Int} {bs : List Bool} (hl : cs.length ≤ 100) :
    (falseE v cs bs = 21 ∧ falseE v (cs ++ [xs]) bs = 21) ∨
    (falseE v cs bs = 0 ∧ falseE v [] bs = 0 ∧ holdsV v [] bs = true ∧ falseE v (cs ++ [[]]) bs = 0 ∧ holdsV v (cs ++ [[]]) bs = false ∧
      (falseE v (cs ++ [xs]) bs = 21 ∨ (falseE v (cs ++ [xs]) bs = 0 ∧ (holdsV v (cs ++ [xs]) bs = false ∨ holdsV v cs bs = true)))) := by
  by_cases hg : (bs.length : Int) = v ∧ rightF v cs = true
  · right
    have hn := right_nil hg.2
    have he := right_empty hg.2 hl
    refine ⟨by unfold falseE; rw [if_pos hg], by unfold falseE; rw [if_pos ⟨hg.1, hn⟩], ?_, by unfold falseE; rw [if_pos ⟨hg.1, he⟩], ?_, ?_⟩
    · unfold holdsV falseV; rw [if_pos ⟨hg.1, hn⟩]; simp [falseAt]
    · unfold holdsV falseV
      rw [if_pos ⟨hg.1, he⟩, decide_eq_false_iff_not, falseAt_all]
      intro h
      have := h [] (by simp)
      simp [clauseH] at this
    · by_cases hx : rightF v (cs ++ [xs]) = true
      · right
        refine ⟨by unfold falseE; rw [if_pos ⟨hg.1, hx⟩], ?_⟩
        cases hh : holdsV v (cs ++ [xs]) bs with
        | false => exact .inl rfl
        | true =>
          right
          unfold holdsV falseV at hh ⊢
          rw [if_pos ⟨hg.1, hx⟩, decide_eq_true_eq, falseAt_all] at hh
          rw [if_pos hg, decide_eq_true_eq, falseAt_all]
          exact fun c hc => hh c (by simp [hc])
      · left
        unfold falseE; rw [if_neg (fun h => hx h.2)]
  · left
    exact ⟨by unfold falseE; rw [if_neg hg], by unfold falseE; rw [if_neg fun h => hg ⟨h.1, right_app h.2⟩]⟩
end Go.Proofs.YtjjmnaigmddbeaaDoor
