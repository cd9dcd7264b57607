/- Behind a log in plain words: what is proved holds; of more clauses it is a proof, too; its beginnings. No program. -/
import Derived.Test.YtkckodpfhlpkgaaGreatHandP
namespace Go.Proofs.YtkckodpfhlpkgaaGreat
open LitM TrailM EngM CnfP

/-- A clause is true. -/
def TrueC (T : Int → Prop) (c : List Int) : Prop := ∃ x ∈ c, T x
/-- Each literal is true or its other sign is, and never both. -/
structure Vals (T : Int → Prop) : Prop where
  con : ∀ y, LitM.one y = true → T y → T (-y) → False
  all : ∀ y, LitM.one y = true → T y ∨ T (-y)
theorem rup_true {K : List Int → Prop} {T : Int → Prop} (hT : Vals T) (hK : ∀ c, K c → TrueC T c) {c : List Int} (ho : allOne c = true) (h : Rup K c) : TrueC T c := by
  apply Classical.byContradiction
  intro hno
  refine h T ⟨hT.con, fun c hc _ => .inl (hK c hc)⟩ fun l hl => ?_
  rcases hT.all l (List.all_eq_true.1 ho l hl) with t | t
  · exact absurd ⟨l, hl, t⟩ hno
  · exact t
theorem clean_ex : ∀ (xs : List Int), allOne xs = true → ∃ ys, IsClean xs ys
  | [], _ => ⟨[], List.Pairwise.nil, fun _ => Iff.rfl⟩
  | x :: r, ho => by
    have hx : LitM.one x = true ∧ allOne r = true := by simpa [allOne] using ho
    obtain ⟨ys, hp, hm⟩ := clean_ex r hx.2
    by_cases hmem : x ∈ ys
    · refine ⟨ys, hp, fun z => ?_⟩
      rw [List.mem_cons, hm z]
      exact ⟨.inr, fun h => h.elim (fun e => e ▸ (hm x).1 hmem) id⟩
    · refine ⟨ys.filter (fun y => decide (placeZ y < placeZ x)) ++ x :: ys.filter (fun y => decide (placeZ x < placeZ y)), ?_, fun z => ?_⟩
      · rw [List.pairwise_append]
        refine ⟨hp.filter _, List.pairwise_cons.2 ⟨fun y hy => ?_, hp.filter _⟩, fun a ha b hb => ?_⟩
        · simpa using (List.mem_filter.1 hy).2
        · have h1 : placeZ a < placeZ x := by simpa using (List.mem_filter.1 ha).2
          rcases List.mem_cons.1 hb with e | e
          · rw [e]; exact h1
          · have h2 : placeZ x < placeZ b := by simpa using (List.mem_filter.1 e).2
            omega
      · rw [List.mem_append, List.mem_cons, List.mem_filter, List.mem_filter, List.mem_cons, ← hm z]
        constructor
        · rintro (h | h | h)
          · exact .inr h.1
          · exact .inl h
          · exact .inr h.1
        · rintro (h | h)
          · exact .inr (.inl h)
          · by_cases h1 : placeZ z < placeZ x
            · exact .inl ⟨h, by simpa using h1⟩
            · by_cases h2 : placeZ x < placeZ z
              · exact .inr (.inr ⟨h, by simpa using h2⟩)
              · exact .inr (.inl (place_inj (List.all_eq_true.1 hx.2 z ((hm z).1 h)) hx.1 (by omega)))
theorem cl_clean {xs : List Int} (ho : allOne xs = true) : IsClean xs (clZ xs) := by
  obtain ⟨ys, h⟩ := clean_ex xs ho
  rw [clZ_eq h]; exact h
theorem true_clean {T : Int → Prop} {xs : List Int} (ho : allOne xs = true) : TrueC T (clZ xs) ↔ TrueC T xs := by
  have h := cl_clean ho
  exact ⟨fun ⟨x, hx, t⟩ => ⟨x, (h.2 x).1 hx, t⟩, fun ⟨x, hx, t⟩ => ⟨x, (h.2 x).2 hx, t⟩⟩
theorem next_true {T : Int → Prop} (hT : Vals T) {m : List Int → Nat} {s : Bool × List Int} (hm : ∀ c, m c ≠ 0 → TrueC T c) (ho : allOne s.2 = true) (hs : StepOk m s) :
    (∀ c, nextM m s c ≠ 0 → TrueC T c) ∧ (s.1 = false → TrueC T s.2) := by
  obtain ⟨g, xs⟩ := s
  cases g with
  | true => exact ⟨fun c hc => hm c fun e => hc (by simp [nextM, decM, e]), fun e => by cases e⟩
  | false =>
    have ht : TrueC T xs := rup_true hT hm ho (by simpa [StepOk] using hs)
    refine ⟨fun c hc => ?_, fun _ => ht⟩
    by_cases e : c = clZ xs
    · rw [e]; exact (true_clean ho).2 ht
    · exact hm c (by simpa [nextM, incM, e] using hc)
theorem walk_from : ∀ (log : List (Bool × List Int)) (m : List Int → Nat) (i : Nat), walkZ m log i = -1 ∨ (i : Int) ≤ walkZ m log i
  | [], _, _ => .inl rfl
  | s :: r, m, i => by
    unfold walkZ
    split
    · rcases walk_from r (nextM m s) (i + 1) with h | h
      · exact .inl h
      · exact .inr (by omega)
    · exact .inr (Int.le_refl _)
/-- What is proved holds. -/
theorem walk_holds {T : Int → Prop} (hT : Vals T) : ∀ (log : List (Bool × List Int)) (m : List Int → Nat) (i : Nat), (∀ c, m c ≠ 0 → TrueC T c) → (∀ s ∈ log, allOne s.2 = true) →
    ∀ (j : Nat) (s : Bool × List Int), log[j]? = some s → (walkZ m log i = -1 ∨ ((i + j : Nat) : Int) < walkZ m log i) → s.1 = false → TrueC T s.2
  | [], _, _, _, _, j, s, h, _, _ => by simp at h
  | s0 :: r, m, i, hm, ho, j, s, h, hw, hg => by
    by_cases hs : StepOk m s0
    · have hn := next_true hT hm (ho s0 (List.mem_cons_self ..)) hs
      cases j with
      | zero =>
        have e : s0 = s := by simpa using h
        exact e ▸ hn.2 (e ▸ hg)
      | succ j =>
        refine walk_holds hT r (nextM m s0) (i + 1) hn.1 (fun s hs => ho s (List.mem_cons_of_mem _ hs)) j s (by simpa using h) ?_ hg
        have e : walkZ m (s0 :: r) i = walkZ (nextM m s0) r (i + 1) := by rw [walkZ, if_pos hs]
        rw [e] at hw
        rcases hw with hw | hw
        · exact .inl hw
        · exact .inr (by omega)
    · have e : walkZ m (s0 :: r) i = (i : Int) := by rw [walkZ, if_neg hs]
      rw [e] at hw
      rcases hw with hw | hw <;> omega
theorem hand_true {T : Int → Prop} : ∀ (cs : List (List Int)) (m : List Int → Nat), (∀ c ∈ cs, allOne c = true ∧ TrueC T c) → (∀ c, m c ≠ 0 → TrueC T c) → ∀ c, handM cs m c ≠ 0 → TrueC T c
  | [], _, _, hm => hm
  | c0 :: r, m, hc, hm => hand_true r (incM m (clZ c0)) (fun c h => hc c (List.mem_cons_of_mem _ h)) fun c h => by
      by_cases e : c = clZ c0
      · rw [e]; exact (true_clean (hc c0 (List.mem_cons_self ..)).1).2 (hc c0 (List.mem_cons_self ..)).2
      · exact hm c (by simpa [incM, e] using h)
/-- Of more clauses. -/
theorem step_mono {m m' : List Int → Nat} (h : ∀ c, m c ≤ m' c) {s : Bool × List Int} (hs : StepOk m s) : StepOk m' s := by
  unfold StepOk at hs ⊢
  by_cases hg : s.1 = true
  · rw [if_pos hg] at hs ⊢
    have := h (clZ s.2)
    omega
  · rw [if_neg hg] at hs ⊢
    exact hs.mono fun c hc => by have := h c; omega
theorem next_mono {m m' : List Int → Nat} (h : ∀ c, m c ≤ m' c) (s : Bool × List Int) (c : List Int) : nextM m s c ≤ nextM m' s c := by
  have := h c
  unfold nextM
  split
  · unfold decM; split <;> omega
  · unfold incM; split <;> omega
theorem walk_mono : ∀ (log : List (Bool × List Int)) (m m' : List Int → Nat) (i : Nat), (∀ c, m c ≤ m' c) → walkZ m log i = -1 → walkZ m' log i = -1
  | [], _, _, _, _, _ => rfl
  | s :: r, m, m', i, h, hw => by
    by_cases hs : StepOk m s
    · rw [walkZ, if_pos hs] at hw
      rw [walkZ, if_pos (step_mono h hs)]
      exact walk_mono r _ _ (i + 1) (next_mono h s) hw
    · rw [walkZ, if_neg hs] at hw
      omega
theorem hand_mono : ∀ (cs : List (List Int)) (m m' : List Int → Nat), (∀ c, m c ≤ m' c) → ∀ c, handM cs m c ≤ handM cs m' c
  | [], _, _, h => h
  | c0 :: r, m, m', h => hand_mono r _ _ fun c => by have := h c; unfold incM; split <;> omega
theorem hand_more : ∀ (cs : List (List Int)) (m : List Int → Nat) (c : List Int), m c ≤ handM cs m c
  | [], _, _ => Nat.le_refl _
  | c0 :: r, m, c => Nat.le_trans (by unfold incM; split <;> omega) (hand_more r (incM m (clZ c0)) c)
theorem hand_app : ∀ (cs ds : List (List Int)) (m : List Int → Nat), handM (cs ++ ds) m = handM ds (handM cs m)
  | [], _, _ => rfl
  | c0 :: r, ds, m => hand_app r ds (incM m (clZ c0))
/-- A formula with more clauses. -/
theorem walk_more (cs ds : List (List Int)) (log : List (Bool × List Int)) (h : walkZ (handM cs fun _ => 0) log 0 = -1) : walkZ (handM (cs ++ ds) fun _ => 0) log 0 = -1 :=
  walk_mono log _ _ 0 (fun c => by rw [hand_app]; exact hand_more ds _ c) h
/-- The beginnings of a log. -/
theorem walk_take : ∀ (log : List (Bool × List Int)) (m : List Int → Nat) (i k : Nat),
    (walkZ m log i = -1 → walkZ m (log.take k) i = -1) ∧ (∀ r : Nat, walkZ m log i = (r : Int) → (i + k ≤ r → walkZ m (log.take k) i = -1) ∧ (r < i + k → walkZ m (log.take k) i = (r : Int)))
  | [], m, i, k => by
    rw [List.take_nil]
    refine ⟨fun h => h, fun r h => ?_⟩
    unfold walkZ at h
    omega
  | s :: l, m, i, 0 => by
    refine ⟨fun _ => rfl, fun r h => ⟨fun _ => rfl, fun hr => ?_⟩⟩
    rcases walk_from (s :: l) m i with e | e <;> omega
  | s :: l, m, i, k + 1 => by
    rw [List.take_succ_cons]
    by_cases hs : StepOk m s
    · rw [walkZ, if_pos hs, walkZ, if_pos hs]
      have ih := walk_take l (nextM m s) (i + 1) k
      refine ⟨ih.1, fun r h => ⟨fun hr => (ih.2 r h).1 (by omega), fun hr => (ih.2 r h).2 (by omega)⟩⟩
    · rw [walkZ, if_neg hs, walkZ, if_neg hs]
      refine ⟨fun h => h, fun r h => ⟨fun hr => by omega, fun _ => h⟩⟩
end Go.Proofs.YtkckodpfhlpkgaaGreat
