/- Plain facts on what is read: each part takes words. No program. -/
import Derived.Test.YtmkhfcdjgdofnaaDoorParM
namespace Go.Proofs.YtmkhfcdjgdofnaaDoor.ParM
open WrdM TreM

theorem bind_ok {α β : Type} {x : Res α} {f : α → List Tok → Res β} {b : β} {r : List Tok} (h : x.bind f = .ok b r) : ∃ a r1, x = .ok a r1 ∧ f a r1 = .ok b r := by
  cases x with
  | bad l c => cases h
  | ok a r1 => exact ⟨a, r1, rfl, h⟩
theorem fail_no {α : Type} {L : List Tok} {x : α} {r : List Tok} (h : failR L = .ok x r) : False := by
  cases L <;> cases h
theorem len_all : ∀ n : Nat, (∀ o least L x r, exprR n o least L = .ok x r → r.length < L.length) ∧ (∀ o least most x L y r, loopR n o least most x L = .ok y r → r.length ≤ L.length) ∧
    (∀ o L x r, prefR n o L = .ok x r → r.length < L.length) ∧ (∀ o L x r, valueR n o L = .ok x r → r.length < L.length)
  | 0 => by
    refine ⟨fun o least L x r h => ?_, fun o least most x L y r h => ?_, fun o L x r h => ?_, fun o L x r h => ?_⟩
    · rw [exprR] at h; cases h
    · rw [loopR] at h; cases h
    · rw [prefR] at h; cases h
    · rw [valueR] at h; cases h
  | n + 1 => by
    obtain ⟨hE, hL, hP, hV⟩ := len_all n
    refine ⟨fun o least L x r h => ?_, fun o least most x L y r h => ?_, fun o L x r h => ?_, fun o L x r h => ?_⟩
    · rw [exprR] at h
      obtain ⟨a, r1, h1, h2⟩ := bind_ok h
      have := hP _ _ _ _ h1
      have := hL _ _ _ _ _ _ _ h2
      omega
    · cases L with
      | nil => rw [loopR] at h; cases h
      | cons t r0 =>
        rw [loopR] at h
        split at h
        · injection h with h1 h2; rw [← h2]; exact Nat.le_refl _
        · obtain ⟨a, r1, h1, h2⟩ := bind_ok h
          have := hE _ _ _ _ _ h1
          have := hL _ _ _ _ _ _ _ h2
          rw [List.length_cons]; omega
    · cases L with
      | nil => rw [prefR] at h; cases h
      | cons t r0 =>
        rw [prefR] at h
        split at h
        · exact hV _ _ _ _ h
        · split at h
          · exact (fail_no h).elim
          · obtain ⟨a, r1, h1, h2⟩ := bind_ok h
            injection h2 with h3 h4
            have := hP _ _ _ _ h1
            rw [← h4, List.length_cons]; omega
    · cases L with
      | nil => rw [valueR] at h; cases h
      | cons t r0 =>
        rw [valueR] at h
        split at h
        · split at h
          · exact (fail_no h).elim
          · obtain ⟨a, r1, h1, h2⟩ := bind_ok h
            have := hE _ _ _ _ _ h1
            cases r1 with
            | nil => cases h2
            | cons u r3 =>
              rw [closeR] at h2
              split at h2
              · injection h2 with h3 h4
                rw [← h4]
                rw [List.length_cons] at this ⊢; omega
              · cases h2
        · repeat' split at h
          all_goals (first | (injection h with h3 h4; rw [← h4, List.length_cons]; omega) | cases h)
end Go.Proofs.YtmkhfcdjgdofnaaDoor.ParM
