/- Plain facts on the insertion of a literal into a cleaned clause, as the plain answer does it. -/
import Derived.Test.YtjhopjokllkipaaLitB
import Derived.Test.YtjhopjokllkipaaCleanM
namespace Go.Proofs.Ytjhopjokllkipaa
open LitM

theorem before_place {a b : Int} (ha : LitM.one a = true) (hb : LitM.one b = true) : beforeB a b = decide (placeZ a < placeZ b) := by
  have h1 := (one_iff a).1 ha
  have h2 := (one_iff b).1 hb
  unfold beforeB
  rw [decide_eq_decide]
  by_cases n1 : a < 0 <;> by_cases n2 : b < 0
  · rw [placeZ_neg (l := a) (by omega) (by omega), placeZ_neg (l := b) (by omega) (by omega), varZ_neg (l := a) (by omega) (by omega), varZ_neg (l := b) (by omega) (by omega)]; omega
  · rw [placeZ_neg (l := a) (by omega) (by omega), placeZ_pos (l := b) (by omega) (by omega), varZ_neg (l := a) (by omega) (by omega), varZ_pos (l := b) (by omega) (by omega)]; omega
  · rw [placeZ_pos (l := a) (by omega) (by omega), placeZ_neg (l := b) (by omega) (by omega), varZ_pos (l := a) (by omega) (by omega), varZ_neg (l := b) (by omega) (by omega)]; omega
  · rw [placeZ_pos (l := a) (by omega) (by omega), placeZ_pos (l := b) (by omega) (by omega), varZ_pos (l := a) (by omega) (by omega), varZ_pos (l := b) (by omega) (by omega)]; omega

/-- x has been laid into the prefix p, or not yet. -/
def InsAt (x : Int) (p next : List Int) (put : Bool) : Prop :=
  if put = true then ∃ p1 y p2, p = p1 ++ y :: p2 ∧ next = p1 ++ x :: y :: p2 ∧ (∀ z ∈ p1, beforeB x z = false) ∧ beforeB x y = true
  else next = p ∧ ∀ z ∈ p, beforeB x z = false
theorem InsAt.start (x : Int) : InsAt x [] [] false := by simp [InsAt]
theorem InsAt.skip {x y : Int} {p next : List Int} (h : InsAt x p next false) (hy : beforeB x y = false) : InsAt x (p ++ [y]) (next ++ [y]) false := by
  simp only [InsAt, Bool.false_eq_true, if_false] at h ⊢
  refine ⟨by rw [h.1], fun z hz => ?_⟩
  rw [List.mem_append, List.mem_singleton] at hz
  rcases hz with hz | rfl
  · exact h.2 z hz
  · exact hy
theorem InsAt.lay {x y : Int} {p next : List Int} (h : InsAt x p next false) (hy : beforeB x y = true) : InsAt x (p ++ [y]) (next ++ [x] ++ [y]) true := by
  simp only [InsAt, Bool.false_eq_true, if_false, if_true] at h ⊢
  exact ⟨p, y, [], by simp, by simp [h.1], h.2, hy⟩
theorem InsAt.more {x y : Int} {p next : List Int} (h : InsAt x p next true) : InsAt x (p ++ [y]) (next ++ [y]) true := by
  simp only [InsAt, if_true] at h ⊢
  obtain ⟨p1, y1, p2, rfl, rfl, h1, h2⟩ := h
  exact ⟨p1, y1, p2 ++ [y], by simp, by simp, h1, h2⟩
theorem InsAt.len {x : Int} {p next : List Int} {put : Bool} (h : InsAt x p next put) : next.length ≤ p.length + 1 ∧ (put = false → next.length = p.length) := by
  unfold InsAt at h
  cases put
  · simp only [Bool.false_eq_true, if_false] at h
    rw [h.1]; simp
  · simp only [if_true] at h
    obtain ⟨p1, y1, p2, rfl, rfl, _⟩ := h
    simp; omega

theorem ins_yes {x : Int} {ys next : List Int} (h : InsAt x ys next true) (hs : ys.Pairwise (fun a b => placeZ a < placeZ b)) (ha : allOne ys = true) (hx : LitM.one x = true) (hn : x ∉ ys) :
    next.Pairwise (fun a b => placeZ a < placeZ b) ∧ ∀ z, z ∈ next ↔ z ∈ ys ∨ z = x := by
  simp only [InsAt, if_true] at h
  obtain ⟨p1, y, p2, rfl, rfl, h1, h2⟩ := h
  have hy : LitM.one y = true := allOne_mem ha (by simp)
  rw [before_place hx hy, decide_eq_true_iff] at h2
  rw [List.pairwise_append, List.pairwise_cons] at hs
  obtain ⟨s1, ⟨s2, s3⟩, s4⟩ := hs
  constructor
  · rw [List.pairwise_append, List.pairwise_cons, List.pairwise_cons]
    refine ⟨s1, ⟨fun z hz => ?_, s2, s3⟩, fun a hp b hb => ?_⟩
    · rw [List.mem_cons] at hz
      rcases hz with rfl | hz
      · exact h2
      · have := s2 z hz; omega
    · rw [List.mem_cons] at hb
      rcases hb with rfl | hb
      · have oa : LitM.one a = true := allOne_mem ha (by simp [hp])
        have h3 := h1 a hp
        rw [before_place hx oa, decide_eq_false_iff_not] at h3
        have hne : placeZ a ≠ placeZ b := fun e => hn (by rw [← place_inj oa hx e]; simp [hp])
        omega
      · exact s4 a hp b hb
  · intro z
    simp only [List.mem_append, List.mem_cons]
    constructor
    · rintro (h | h | h | h)
      · exact .inl (.inl h)
      · exact .inr h
      · exact .inl (.inr (.inl h))
      · exact .inl (.inr (.inr h))
    · rintro ((h | h | h) | h)
      · exact .inl h
      · exact .inr (.inr (.inl h))
      · exact .inr (.inr (.inr h))
      · exact .inr (.inl h)
theorem ins_no {x : Int} {ys next : List Int} (h : InsAt x ys next false) (hs : ys.Pairwise (fun a b => placeZ a < placeZ b)) (ha : allOne ys = true) (hx : LitM.one x = true) (hn : x ∉ ys) :
    (next ++ [x]).Pairwise (fun a b => placeZ a < placeZ b) ∧ ∀ z, z ∈ next ++ [x] ↔ z ∈ ys ∨ z = x := by
  simp only [InsAt, Bool.false_eq_true, if_false] at h
  obtain ⟨rfl, h1⟩ := h
  constructor
  · rw [List.pairwise_append]
    refine ⟨hs, by simp, fun a hp b hb => ?_⟩
    rw [List.mem_singleton] at hb
    subst hb
    have oa : LitM.one a = true := allOne_mem ha hp
    have h3 := h1 a hp
    rw [before_place hx oa, decide_eq_false_iff_not] at h3
    have hne : placeZ a ≠ placeZ b := fun e => hn (by rw [← place_inj oa hx e]; exact hp)
    omega
  · intro z; rw [List.mem_append, List.mem_singleton]

theorem clean_start (xs : List Int) : IsClean (xs.take 0) [] := ⟨List.Pairwise.nil, by simp⟩
theorem clean_keep {xs ys : List Int} {k : Nat} (h : IsClean (xs.take k) ys) (hk : k < xs.length) (hin : xs.getD k 0 ∈ ys) : IsClean (xs.take (k + 1)) ys := by
  refine ⟨h.1, fun z => ?_⟩
  rw [List.take_succ_eq_append_getElem hk, List.mem_append, List.mem_singleton, h.2 z]
  constructor
  · exact .inl
  · rintro (h' | h')
    · exact h'
    · rw [getD_lt hk] at hin
      rw [h']; exact (h.2 _).1 hin
theorem clean_add {xs ys next : List Int} {k : Nat} (h : IsClean (xs.take k) ys) (hk : k < xs.length)
    (hn : next.Pairwise (fun a b => placeZ a < placeZ b) ∧ ∀ z, z ∈ next ↔ z ∈ ys ∨ z = xs.getD k 0) : IsClean (xs.take (k + 1)) next := by
  refine ⟨hn.1, fun z => ?_⟩
  rw [List.take_succ_eq_append_getElem hk, List.mem_append, List.mem_singleton, hn.2 z, h.2 z, getD_lt hk]
theorem nodup_len : ∀ (ys l : List Int), ys.Nodup → (∀ x ∈ ys, x ∈ l) → ys.length ≤ l.length
  | [], _, _, _ => Nat.zero_le _
  | a :: ys, l, h, hs => by
    rw [List.nodup_cons] at h
    have ha : a ∈ l := hs a (by simp)
    have := nodup_len ys (l.erase a) h.2 fun x hx => by
      have hne : x ≠ a := fun e => h.1 (by rw [← e]; exact hx)
      exact (List.mem_erase_of_ne hne).2 (hs x (by simp [hx]))
    rw [List.length_erase_of_mem ha] at this
    have := List.length_pos_of_mem ha
    simp only [List.length_cons]; omega
theorem clean_len {xs ys : List Int} {k : Nat} (h : IsClean (xs.take k) ys) : ys.length ≤ k := by
  have hnd : ys.Nodup := h.1.imp fun {a b} hab e => by rw [e] at hab; omega
  have := nodup_len ys _ hnd fun x hx => (h.2 x).1 hx
  have := List.length_take_le k xs
  omega

/-- Is a variable of the first k there by both signs? -/
def bothTo (xs : List Int) (k : Nat) : Bool := (xs.take k).any fun x => hasB xs (-x)
theorem bothTo_succ {xs : List Int} {k : Nat} (hk : k < xs.length) : bothTo xs (k + 1) = (bothTo xs k || hasB xs (-(xs.getD k 0))) := by
  unfold bothTo
  rw [List.take_succ_eq_append_getElem hk, List.any_append, getD_lt hk]
  simp
theorem bothTo_all (xs : List Int) : bothTo xs xs.length = bothB xs := by
  unfold bothTo bothB; rw [List.take_length]
end Go.Proofs.Ytjhopjokllkipaa
