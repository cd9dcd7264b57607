/- Plain facts on cleaned clauses: each literal once, by the places; one such list for each set of literals. -/
import Derived.Test.YtkckodpfhlpkgaaGreatRd
import Derived.Lib.SlicesCompact
namespace Go.Proofs.YtkckodpfhlpkgaaGreat
open LitM Go.Lib

def IsClean (xs ys : List Int) : Prop := ys.Pairwise (fun a b => placeZ a < placeZ b) ∧ ∀ x, x ∈ ys ↔ x ∈ xs

theorem place_inj {a b : Int} (ha : LitM.one a = true) (hb : LitM.one b = true) (h : placeZ a = placeZ b) : a = b := by
  have h1 := (one_iff a).1 ha
  have h2 := (one_iff b).1 hb
  by_cases n1 : a < 0 <;> by_cases n2 : b < 0
  · rw [placeZ_neg (by omega) (by omega), placeZ_neg (by omega) (by omega)] at h; omega
  · rw [placeZ_neg (by omega) (by omega), placeZ_pos (by omega) (by omega)] at h; omega
  · rw [placeZ_pos (by omega) (by omega), placeZ_neg (by omega) (by omega)] at h; omega
  · rw [placeZ_pos (by omega) (by omega), placeZ_pos (by omega) (by omega)] at h; omega

theorem sorted_unique : ∀ (ys zs : List Int), ys.Pairwise (fun a b => placeZ a < placeZ b) → zs.Pairwise (fun a b => placeZ a < placeZ b) → (∀ x, x ∈ ys ↔ x ∈ zs) → ys = zs
  | [], [], _, _, _ => rfl
  | [], b :: zs, _, _, h => absurd ((h b).2 (by simp)) (by simp)
  | a :: ys, [], _, _, h => absurd ((h a).1 (by simp)) (by simp)
  | a :: ys, b :: zs, hy, hz, h => by
    rw [List.pairwise_cons] at hy hz
    have hab : a = b := by
      have h1 := (h a).1 (by simp)
      have h2 := (h b).2 (by simp)
      rw [List.mem_cons] at h1 h2
      rcases h1 with h1 | h1
      · exact h1
      rcases h2 with h2 | h2
      · exact h2.symm
      have := hz.1 a h1
      have := hy.1 b h2
      omega
    subst hab
    have ht : ys = zs := sorted_unique ys zs hy.2 hz.2 fun x => by
      constructor
      · intro hx
        have := (h x).1 (by simp [hx])
        rw [List.mem_cons] at this
        rcases this with e | this
        · have := hy.1 x hx; rw [e] at this; omega
        · exact this
      · intro hx
        have := (h x).2 (by simp [hx])
        rw [List.mem_cons] at this
        rcases this with e | this
        · have := hz.1 x hx; rw [e] at this; omega
        · exact this
    rw [ht]
theorem IsClean.unique {xs ys zs : List Int} (h : IsClean xs ys) (k : IsClean xs zs) : ys = zs :=
  sorted_unique ys zs h.1 k.1 fun x => (h.2 x).trans (k.2 x).symm
theorem IsClean.all {xs ys : List Int} (h : IsClean xs ys) : allOne ys = allOne xs := by
  unfold allOne
  rw [Bool.eq_iff_iff, List.all_eq_true, List.all_eq_true]
  exact ⟨fun g x hx => g x ((h.2 x).2 hx), fun g x hx => g x ((h.2 x).1 hx)⟩
theorem allOne_mem {xs : List Int} (h : allOne xs = true) {x : Int} (hx : x ∈ xs) : LitM.one x = true := by
  unfold allOne at h; rw [List.all_eq_true] at h; exact h x hx

/-- Are there two neighbours of one variable? -/
def nbB (ys : List Int) : Bool := decide (∃ i, i < ys.length - 1 ∧ varZ (ys.getD (i + 1) 0) = varZ (ys.getD i 0))
/-- Is a variable there by both signs? -/
def bothB (xs : List Int) : Bool := xs.any fun x => hasB xs (-x)
theorem bothB_iff (xs : List Int) : bothB xs = true ↔ ∃ x, x ∈ xs ∧ -x ∈ xs := by
  unfold bothB
  rw [List.any_eq_true]
  simp only [hasB_iff]
theorem IsClean.both {xs ys : List Int} (h : IsClean xs ys) : bothB ys = bothB xs := by
  rw [Bool.eq_iff_iff, bothB_iff, bothB_iff]
  constructor
  · rintro ⟨x, h1, h2⟩; exact ⟨x, (h.2 x).1 h1, (h.2 _).1 h2⟩
  · rintro ⟨x, h1, h2⟩; exact ⟨x, (h.2 x).2 h1, (h.2 _).2 h2⟩

theorem pairwise_getD {ys : List Int} {R : Int → Int → Prop} (h : ys.Pairwise R) {i j : Nat} (hij : i < j) (hj : j < ys.length) : R (ys.getD i 0) (ys.getD j 0) := by
  rw [getD_lt (by omega), getD_lt hj]
  exact List.pairwise_iff_getElem.1 h i j (by omega) hj hij

theorem nbB_both {ys : List Int} (hs : ys.Pairwise (fun a b => placeZ a < placeZ b)) (ha : allOne ys = true) : nbB ys = bothB ys := by
  have h1 : ∀ i, i < ys.length → LitM.one (ys.getD i 0) = true := (allOne_iff ys).1 ha
  rw [Bool.eq_iff_iff, bothB_iff]
  unfold nbB
  rw [decide_eq_true_iff]
  constructor
  · rintro ⟨i, hi, he⟩
    have hp := pairwise_getD hs (show i < i + 1 by omega) (by omega)
    have oa := h1 i (by omega)
    have ob := h1 (i + 1) (by omega)
    refine ⟨ys.getD i 0, mem_getD.2 ⟨i, by omega, rfl⟩, mem_getD.2 ⟨i + 1, by omega, ?_⟩⟩
    generalize ys.getD i 0 = a at *
    generalize ys.getD (i + 1) 0 = b at *
    have ka := (one_iff a).1 oa
    have kb := (one_iff b).1 ob
    by_cases n1 : a < 0 <;> by_cases n2 : b < 0
    · rw [placeZ_neg (by omega) (by omega), placeZ_neg (by omega) (by omega)] at hp
      rw [varZ_neg (by omega) (by omega), varZ_neg (by omega) (by omega)] at he; omega
    · rw [varZ_pos (by omega) (by omega), varZ_neg (by omega) (by omega)] at he; omega
    · rw [varZ_neg (by omega) (by omega), varZ_pos (by omega) (by omega)] at he; omega
    · rw [placeZ_pos (by omega) (by omega), placeZ_pos (by omega) (by omega)] at hp
      rw [varZ_pos (by omega) (by omega), varZ_pos (by omega) (by omega)] at he; omega
  · rintro ⟨x, hx, hy⟩
    have key : ∀ v : Int, 1 ≤ v → v ∈ ys → -v ∈ ys → ∃ i, i < ys.length - 1 ∧ varZ (ys.getD (i + 1) 0) = varZ (ys.getD i 0) := by
      intro v hv hp hn
      obtain ⟨i, hi, ei⟩ := mem_getD.1 hp
      obtain ⟨j, hj, ej⟩ := mem_getD.1 hn
      have o1 := (one_iff _).1 (h1 i hi)
      rw [ei] at o1
      have p1 : placeZ v = 2 * v := placeZ_pos (by omega) (by omega)
      have p2 : placeZ (-v) = 2 * v + 1 := by rw [placeZ_neg (by omega) (by omega)]; omega
      have hij : i < j := by
        rcases Nat.lt_trichotomy i j with h | h | h
        · exact h
        · subst h; rw [ei] at ej; omega
        · have := pairwise_getD hs h hi
          rw [ei, ej, p1, p2] at this; omega
      have hj1 : j = i + 1 := by
        by_cases hlt : i + 1 < j
        · have a1 := pairwise_getD hs (show i < i + 1 by omega) (by omega)
          have a2 := pairwise_getD hs hlt hj
          rw [ei, p1] at a1
          rw [ej, p2] at a2
          omega
        · omega
      subst hj1
      refine ⟨i, by omega, ?_⟩
      rw [ei, ej, varZ_pos (l := v) (by omega) (by omega), varZ_neg (l := -v) (by omega) (by omega)]; omega
    have ox := (one_iff _).1 (allOne_mem ha hx)
    by_cases hn : x < 0
    · exact key (-x) (by omega) hy (by rw [Int.neg_neg]; exact hx)
    · exact key x (by omega) hx hy

/-- What is sorted by the places, and then compacted, is cleaned. -/
theorem compactUpTo_clean {zs : List Int} (hs : zs.Pairwise (fun a b => placeZ a ≤ placeZ b)) (ha : allOne zs = true) : ∀ m, m ≤ zs.length →
    (compactUpTo zs.toArray m).Pairwise (fun a b => placeZ a < placeZ b) ∧ (∀ x, x ∈ compactUpTo zs.toArray m ↔ x ∈ zs.take m) ∧
      ∀ x ∈ compactUpTo zs.toArray m, 0 < m ∧ placeZ x ≤ placeZ (zs.getD (m - 1) 0)
  | 0, _ => by simp [compactUpTo]
  | m + 1, hm => by
    obtain ⟨i1, i2, i3⟩ := compactUpTo_clean hs ha m (by omega)
    have hg : ∀ j, j < zs.length → zs.toArray[j]! = zs.getD j 0 := fun j hj => by
      simp [getElem!_pos, hj]
    have ht : zs.take (m + 1) = zs.take m ++ [zs.getD m 0] := by
      rw [List.take_succ_eq_append_getElem (by omega), getD_lt (by omega)]
    rw [compactUpTo_succ, hg m (by omega)]
    simp only [Nat.add_sub_cancel]
    rcases hk : keeps zs.toArray m with _ | _
    · have hk' : ¬ (m = 0 ∨ zs.toArray[m]! ≠ zs.toArray[m - 1]!) := by
        simpa [keeps] using hk
      have hm0 : m ≠ 0 := fun e => hk' (.inl e)
      have he : zs.getD m 0 = zs.getD (m - 1) 0 := by
        rw [← hg m (by omega), ← hg (m - 1) (by omega)]
        exact Classical.byContradiction fun h => hk' (.inr h)
      simp only [Bool.false_eq_true, if_false, List.append_nil]
      refine ⟨i1, fun x => ?_, fun x hx => ⟨by omega, ?_⟩⟩
      · rw [i2, ht, List.mem_append, List.mem_singleton]
        constructor
        · exact .inl
        · rintro (h | h)
          · exact h
          · rw [h, he, List.mem_take_iff_getElem]
            exact ⟨m - 1, by omega, (getD_lt (by omega)).symm⟩
      · rw [he]; exact (i3 x hx).2
    · have hk' : m = 0 ∨ zs.getD m 0 ≠ zs.getD (m - 1) 0 := by
        have : m = 0 ∨ zs.toArray[m]! ≠ zs.toArray[m - 1]! := by simpa [keeps] using hk
        rcases this with h | h
        · exact .inl h
        · by_cases h0 : m = 0
          · exact .inl h0
          · rw [hg m (by omega), hg (m - 1) (by omega)] at h; exact .inr h
      simp only [if_true]
      have hlt : ∀ x ∈ compactUpTo zs.toArray m, placeZ x < placeZ (zs.getD m 0) := by
        intro x hx
        obtain ⟨h0, hle⟩ := i3 x hx
        rcases hk' with h | h
        · omega
        have hp := pairwise_getD hs (show m - 1 < m by omega) (by omega)
        have hne : placeZ (zs.getD (m - 1) 0) ≠ placeZ (zs.getD m 0) := fun e =>
          h (place_inj ((allOne_iff zs).1 ha m (by omega)) ((allOne_iff zs).1 ha (m - 1) (by omega)) e.symm)
        omega
      refine ⟨?_, fun x => ?_, fun x hx => ⟨by omega, ?_⟩⟩
      · rw [List.pairwise_append]
        exact ⟨i1, by simp, fun a ha b hb => by rw [List.mem_singleton] at hb; rw [hb]; exact hlt a ha⟩
      · rw [ht, List.mem_append, List.mem_append, i2]
      · rw [List.mem_append, List.mem_singleton] at hx
        rcases hx with h | h
        · have := hlt x h; omega
        · rw [h]; omega

theorem compact_clean {xs zs : List Int} (hs : zs.Pairwise (fun a b => placeZ a ≤ placeZ b)) (hm : ∀ x, x ∈ zs ↔ x ∈ xs) (ha : allOne xs = true) : IsClean xs (compact zs) := by
  have ha' : allOne zs = true := by
    unfold allOne at ha ⊢
    rw [List.all_eq_true] at ha ⊢
    exact fun x hx => ha x ((hm x).1 hx)
  obtain ⟨h1, h2, _⟩ := compactUpTo_clean hs ha' zs.length (Nat.le_refl _)
  refine ⟨h1, fun x => ?_⟩
  show x ∈ compactUpTo zs.toArray zs.length ↔ _
  rw [h2, List.take_length, hm]
end Go.Proofs.YtkckodpfhlpkgaaGreat
