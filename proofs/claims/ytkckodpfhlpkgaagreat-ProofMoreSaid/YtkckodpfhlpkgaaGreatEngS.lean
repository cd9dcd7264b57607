/- An engine's indexes stay within, whatever is done. No program. -/
import Derived.Test.YtkckodpfhlpkgaaGreatEngU
import Derived.Test.YtkckodpfhlpkgaaGreatENf
namespace Go.Proofs.YtkckodpfhlpkgaaGreat
open LitM TrailM EngM

section
variable {S : Eng} {K : Nat}
theorem EngM.Sf.mono {K' : Nat} (h : Sf S K) (hk : K ≤ K') : Sf S K' :=
  ⟨h.n, h.cl, by have := h.cn; omega, h.lo, by have := h.ln; omega, h.wa, fun p hp => by have := h.wn p hp; omega, h.wl, h.le, fun k hk' => by have := h.en k hk'; omega, h.vi, h.ok⟩
theorem watchF_sf (h : Sf S K) {id : Nat} (hi : id < S.cs.length) {l : Int} (hp : plc l < S.wa.length) : Sf (watchF S id l) (K + 1) := by
  refine ⟨h.n, h.cl, by have := h.cn; unfold watchF; simp only; omega, h.lo, by have := h.ln; unfold watchF; simp only; omega, ?_, ?_, ?_, h.le, fun k hk => by have := h.en k hk; unfold watchF; simp only; omega, h.vi, h.ok⟩
  · intro p hp' i hm
    unfold watchF at hp' hm ⊢
    simp only [List.length_set] at hp' hm ⊢
    rw [waA_set hp] at hm
    split at hm
    · rcases List.mem_append.1 hm with e | e
      · exact h.wa _ hp i e
      · have : i = id := by simpa using e
        omega
    · exact h.wa p hp' i hm
  · intro p hp'
    unfold watchF at hp' ⊢
    simp only [List.length_set] at hp' ⊢
    rw [waA_set hp]
    split
    · have := h.wn _ hp
      rw [List.length_append]; simp only [List.length_singleton]; omega
    · have := h.wn p hp'; omega
  · unfold watchF; simp only [List.length_set]; exact h.wl
/-- A clause that is written anew. -/
theorem setCl_sf (h : Sf S K) {id : Nat} (hi : id < S.cs.length) {c : Cl} (hl : c.ls = (clA S.cs id).ls) (hx : c.nx = 0 ∨ c.nx < c.ls.length) (h0 : c.w0 = 0 ∨ c.w0 ∈ c.ls) (h1 : c.w1 = 0 ∨ c.w1 ∈ c.ls) : Sf { S with cs := S.cs.set id c } K := by
  refine ⟨h.n, ?_, by simp only [List.length_set]; exact h.cn, fun i hi' => by simp only [List.length_set]; exact h.lo i hi', h.ln, fun p hp i hm => by simp only [List.length_set]; exact h.wa p hp i hm, h.wn, h.wl, fun k hk i hm => by simp only [List.length_set]; exact h.le k hk i hm, h.en, h.vi, h.ok⟩
  intro i hi'
  simp only [List.length_set] at hi'
  simp only
  rw [clA_set hi]
  by_cases e : i = id
  · rw [if_pos e]
    have := h.cl id hi
    rw [← hl] at this
    exact ⟨this.1, hx, this.2.2.1, h0, h1⟩
  · rw [if_neg e]; exact h.cl i hi'
theorem rewatch_sf (h : Sf S K) {id : Nat} (hi : id < S.cs.length) {x y : Int} (h0 : x = 0 ∨ x ∈ (clA S.cs id).ls) (h1 : y = 0 ∨ y ∈ (clA S.cs id).ls) : Sf (rewatch S id x y) K :=
  setCl_sf h hi (c := { clA S.cs id with w0 := x, w1 := y }) rfl (h.cl id hi).2.1 h0 h1
theorem anoF_lt (L : List Ent) (c : Cl) : ∀ k i, (0 < c.ls.length ∨ k = 0) → (i = 0 ∨ i < c.ls.length) → ((anoF L c k i).1 = 0 ∨ (anoF L c k i).1 < c.ls.length) ∧ ((anoF L c k i).2 = 0 ∨ ((anoF L c k i).2 ∈ c.ls ∧ fitB L c (anoF L c k i).2 = true)) := by
  intro k
  induction k with
  | zero => intro i _ hi; exact ⟨hi, .inl rfl⟩
  | succ k ih =>
    intro i h0 hi
    have h0 : 0 < c.ls.length := by omega
    have hn : nextI c i < c.ls.length := nextI_lt hi h0
    unfold anoF
    split
    · rename_i hf
      exact ⟨.inr hn, .inr ⟨by rw [List.getD, List.getElem?_eq_getElem hn]; exact List.getElem_mem hn, hf⟩⟩
    · exact ih _ (.inl h0) (.inr hn)
theorem nextF_sf (h : Sf S K) {id : Nat} (hi : id < S.cs.length) : Sf (nextF S id) K := by
  have hc := h.cl id hi
  exact setCl_sf h hi (c := { clA S.cs id with nx := _ }) rfl (anoF_lt S.L (clA S.cs id) _ _ (by omega) hc.2.1).1 hc.2.2.2.1 hc.2.2.2.2
theorem anoL_in (h : Sf S K) {id : Nat} (hi : id < S.cs.length) : anoL S id = 0 ∨ (anoL S id ∈ (clA S.cs id).ls ∧ fitB S.L (clA S.cs id) (anoL S id) = true) :=
  (anoF_lt S.L (clA S.cs id) _ _ (by omega) (h.cl id hi).2.1).2
theorem val_none {L : List Ent} {l : Int} (h : valZ L l = 0) : findE L (varZ l) = none := by
  unfold valZ at h
  split at h
  · split at h <;> omega
  · assumption
theorem setF_sf (h : Sf S K) {l : Int} (h1 : one l = true) (h2 : varZ l ≤ S.n) (h3 : valZ S.L l = 0) (r : Nat) : Sf (setF S l r) K :=
  ⟨h.n, h.cl, h.cn, h.lo, h.ln, h.wa, h.wn, h.wl, h.le, h.en, by have := h.vi; unfold setF; simp only [List.length_append, List.length_singleton]; omega, h.ok.set h1 h2 (val_none h3)⟩
theorem trySet_sf (h : Sf S K) {l : Int} (h1 : one l = true) (h2 : varZ l ≤ S.n) (r : Nat) : Sf (trySet S l r) K := by
  unfold trySet
  split
  · exact setF_sf h h1 h2 (by assumption) r
  · exact h
theorem dueF_sf (h : Sf S K) {id : Nat} (hi : id < S.cs.length) (lv : Int) (hlv : lv ≤ S.le.length) : Sf (dueF S id lv) (K + 1) := by
  unfold dueF
  split
  · have hk : lv.toNat - 1 < S.le.length := by omega
    refine ⟨h.n, h.cl, by have := h.cn; simp only; omega, h.lo, by have := h.ln; simp only; omega, h.wa, fun p hp => by have := h.wn p hp; simp only; omega, h.wl, ?_, ?_, h.vi, ?_⟩
    · intro k hk' i hm
      simp only [List.length_set] at hk' hm
      rw [leA_set hk] at hm
      split at hm
      · rcases List.mem_append.1 hm with e | e
        · exact h.le _ hk i e
        · have : i = id := by simpa using e
          show i < S.cs.length
          omega
      · exact h.le k hk' i hm
    · intro k hk'
      simp only [List.length_set] at hk'
      simp only
      rw [leA_set hk]
      split
      · have := h.en _ hk
        rw [List.length_append]; simp only [List.length_singleton]; omega
      · have := h.en k hk'; omega
    · simp only [List.length_set]; exact h.ok
  · exact h.mono (by omega)

/-- What stays of an engine while it propagates. -/
structure Kep (S S' : Eng) : Prop where
  n : S'.n = S.n
  cs : S'.cs.length = S.cs.length
  lo : S'.lo = S.lo
  wa : S'.wa.length = S.wa.length
  le : S'.le.length = S.le.length
  vi : S'.vi = S.vi
theorem Kep.refl (S : Eng) : Kep S S := ⟨rfl, rfl, rfl, rfl, rfl, rfl⟩
theorem Kep.trans {A B C : Eng} (h : Kep A B) (k : Kep B C) : Kep A C := ⟨k.n.trans h.n, k.cs.trans h.cs, k.lo.trans h.lo, k.wa.trans h.wa, k.le.trans h.le, k.vi.trans h.vi⟩
theorem watchF_kep (S : Eng) (id : Nat) (l : Int) : Kep S (watchF S id l) := ⟨rfl, rfl, rfl, by simp [watchF], rfl, rfl⟩
theorem setCl_kep (S : Eng) (id : Nat) (c : Cl) : Kep S { S with cs := S.cs.set id c } := ⟨rfl, by simp, rfl, rfl, rfl, rfl⟩
theorem setF_kep (S : Eng) (l : Int) (r : Nat) : Kep S (setF S l r) := ⟨rfl, rfl, rfl, rfl, rfl, rfl⟩
theorem trySet_kep (S : Eng) (l : Int) (r : Nat) : Kep S (trySet S l r) := by unfold trySet; split; exact setF_kep S l r; exact Kep.refl S
theorem dueF_kep (S : Eng) (id : Nat) (lv : Int) : Kep S (dueF S id lv) := by
  unfold dueF
  split
  · exact ⟨rfl, rfl, rfl, rfl, by simp, rfl⟩
  · exact Kep.refl S
theorem fastF_kep (S : Eng) (id : Nat) : Kep S (fastF S id).1 := by
  unfold fastF
  split
  · exact Kep.refl S
  · split
    · exact Kep.refl S
    · exact (trySet_kep S _ _).trans (dueF_kep _ _ _)
    · exact ((setCl_kep S _ _).trans (watchF_kep _ _ _)).trans (watchF_kep _ _ _)
theorem lev_le {n d : Nat} {L : List Ent} (h : Ok n d L) (v : Int) : levZ L v ≤ d := by
  unfold levZ
  split
  · rename_i x hx
    have := (h.pre.at_ hx).2.2.2.2
    omega
  · omega
theorem fastF_sf (h : Sf S K) {id : Nat} (hi : id < S.cs.length) (hplc : ∀ l : Int, one l = true ∧ varZ l ≤ S.n → plc l < S.wa.length) : Sf (fastF S id).1 (K + 2) := by
  have hc := h.cl id hi
  have hnf : ∀ x ∈ nf S.L (clA S.cs id).ls, x ∈ (clA S.cs id).ls := fun x hx => by
    unfold nf at hx
    exact (List.mem_filter.1 hx).1
  unfold fastF
  split
  · exact h.mono (by omega)
  · split
    · exact h.mono (by omega)
    · rename_i f hf
      have hm := hc.1 f (hnf f (by rw [hf]; simp))
      have ht := trySet_sf h hm.1 hm.2 id
      have hk := trySet_kep S f id
      refine (dueF_sf ht (by rw [hk.cs]; exact hi) _ ?_).mono (by omega)
      exact lev_le ht.ok _
    · rename_i f s t hf
      have m1 := hnf f (by rw [hf]; simp)
      have m2 := hnf s (by rw [hf]; simp)
      have hr := rewatch_sf h hi (x := f) (y := s) (.inr m1) (.inr m2)
      have h1 := watchF_sf hr (id := id) (by simp [rewatch]; exact hi) (l := f) (hplc f (hc.1 f m1))
      exact watchF_sf h1 (id := id) (by simp [rewatch, watchF]; exact hi) (l := s) (by simp [rewatch, watchF]; exact hplc s (hc.1 s m2))
/-- What a tell leaves. -/
theorem tellF_kep (S : Eng) (id : Nat) (wrong : Int) : Kep S (tellF S id wrong).1 := by
  unfold tellF
  split
  · exact Kep.refl S
  · split
    · exact Kep.refl S
    · split
      · exact ((setCl_kep S _ _).trans (setCl_kep _ _ _)).trans (watchF_kep _ _ _)
      · split
        · exact (setCl_kep S _ _).trans (setF_kep _ _ _)
        · exact setCl_kep S _ _
theorem nextF_cl {id : Nat} (hi : id < S.cs.length) : (clA (nextF S id).cs id).ls = (clA S.cs id).ls := by
  unfold nextF
  rw [clA_set hi, if_pos rfl]
theorem tellF_sf (h : Sf S K) {id : Nat} (hi : id < S.cs.length) (hplc : ∀ l : Int, one l = true ∧ varZ l ≤ S.n → plc l < S.wa.length) (wrong : Int) (hw : (clA S.cs id).pr = true → (clA S.cs id).w0 ∈ (clA S.cs id).ls ∧ (clA S.cs id).w1 ∈ (clA S.cs id).ls) : Sf (tellF S id wrong).1 (K + 1) := by
  have hc := h.cl id hi
  have ho : (clA S.cs id).pr = true → otherW (clA S.cs id) wrong ∈ (clA S.cs id).ls := fun hp => by
    unfold otherW
    split
    · exact (hw hp).2
    · exact (hw hp).1
  unfold tellF
  split
  · exact h.mono (by omega)
  · rename_i hp
    have ho := ho (by simpa using hp)
    split
    · exact h.mono (by omega)
    · split
      · rename_i _ ha
        rcases anoL_in h hi with e | ⟨e, _⟩
        · exact absurd e ha
        · have h1 := rewatch_sf (nextF_sf h hi) (id := id) (by simp [nextF]; exact hi) (x := otherW (clA S.cs id) wrong) (y := anoL S id) (.inr (by rw [nextF_cl hi]; exact ho)) (.inr (by rw [nextF_cl hi]; exact e))
          exact watchF_sf h1 (id := id) (by simp [nextF, rewatch]; exact hi) (hplc _ (hc.1 _ e))
      · split
        · rename_i hv
          exact (setF_sf (nextF_sf h hi) (l := otherW (clA S.cs id) wrong) (hc.1 _ ho).1 (hc.1 _ ho).2 hv id).mono (by omega)
        · exact (nextF_sf h hi).mono (by omega)
end
end Go.Proofs.YtkckodpfhlpkgaaGreat
