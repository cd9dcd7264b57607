/- Plain part of WatchAgain: gone back and decided again the same follows. No program. -/
import Derived.Test.YtaalaekiblifpaaEGo
namespace Go.Proofs.Ytaalaekiblifpaa.WAgn
open LitM TrailM EngM

theorem eErr0 {S : Eng} {l : Int} : eErr S l = 0 ↔ errZ S.n S.L l = 0 := by
  unfold eErr
  constructor
  · intro h
    split at h
    · omega
    · exact h
  · intro h
    rw [h]; rfl
/-- Behind k clauses that were added. -/
structure P0 (N k : Nat) (F : Eng) : Prop where
  n : F.n = N
  L : F.L = []
  le : F.le = []
  cs : F.cs.length ≤ k
theorem P0.new (N : Nat) : P0 N 0 (newE N) := ⟨rfl, rfl, rfl, Nat.le_refl _⟩
theorem P0.step {N k : Nat} {F F' : Eng} {xs : List Int} {e : Ending} (h : P0 N k F) (a : AddS F xs e F') : P0 N (k + 1) F' := by
  rcases a with ⟨_, _, rfl⟩ | ⟨_, _, ys, _, rfl⟩
  · exact ⟨h.n, h.L, h.le, by have := h.cs; omega⟩
  · refine ⟨h.n, h.L, h.le, ?_⟩
    show (F.cs ++ [_]).length ≤ k + 1
    rw [List.length_append]
    have := h.cs
    show F.cs.length + 1 ≤ k + 1
    omega
/-- D was decided, and nothing is open. -/
structure Ph1 (N K : Nat) (D : List Int) (F : Eng) : Prop where
  n : F.n = N
  cs : F.cs.length ≤ K
  vi : F.vi = F.L.length
  lo : F.lo = []
  dec : ∀ x ∈ F.L, x.rs < 0 → x.l ∈ D
  tr : ∀ l ∈ D, Tr F.L l
  le : F.le.length = D.length
theorem prop_neg {S : Eng} (h : Inv S) (hn : ¬ 0 ≤ (propF S).2) : (propF S).2 = -1 ∧ (propF S).1.vi = (propF S).1.L.length ∧ (propF S).1.lo = [] := by
  obtain ⟨_, _, a | ⟨id, e, _⟩⟩ := inv_prop h
  · exact a
  · omega
theorem P0.prop {N k : Nat} {F : Eng} (h : P0 N k F) (hI : Inv F) (hn : ¬ 0 ≤ (propF F).2) : Ph1 N k [] (propF F).1 := by
  obtain ⟨_, h2, h3⟩ := prop_neg hI hn
  obtain ⟨_, k2, _⟩ := inv_prop hI
  obtain ⟨M, hM, hM2⟩ := k2.L
  refine ⟨k2.n.trans h.n, by have := h.cs; have e : (propF F).1.cs.length = F.cs.length := k2.cs; omega, h2, h3, fun x hx h0 => ?_, fun l hl => absurd hl List.not_mem_nil, ?_⟩
  · have e : (roomF F).L = [] := h.L
    rw [hM, e, List.nil_append] at hx
    have := (hM2 x hx).1; omega
  · have e : (propF F).1.le.length = F.le.length := k2.le
    rw [e, h.le]; rfl
theorem Ph1.step {N K : Nat} {D : List Int} {F : Eng} {l : Int} (h : Ph1 N K D F) (hI : Inv F) (he : errZ F.n F.L l = 0) (hn : ¬ 0 ≤ (propF (decideF F l)).2) : Ph1 N K (D ++ [l]) (propF (decideF F l)).1 := by
  have hI2 := inv_decide hI he
  obtain ⟨_, h2, h3⟩ := prop_neg hI2 hn
  obtain ⟨_, k2, _⟩ := inv_prop hI2
  obtain ⟨M, hM, hM2⟩ := k2.L
  have eL : (roomF (decideF F l)).L = F.L ++ [⟨l, F.le.length + 1, -1⟩] := rfl
  rw [eL] at hM
  refine ⟨k2.n.trans h.n, by have := h.cs; have e : (propF (decideF F l)).1.cs.length = F.cs.length := k2.cs; omega, h2, h3, fun x hx h0 => ?_, fun y hy => ?_, ?_⟩
  · rw [hM, List.append_assoc] at hx
    rcases List.mem_append.1 hx with e | e
    · exact List.mem_append_left _ (h.dec x e h0)
    · rcases List.mem_append.1 e with e | e
      · have : x = ⟨l, F.le.length + 1, -1⟩ := by simpa using e
        subst this; exact List.mem_append_right _ (by simp)
      · have := (hM2 x e).1; omega
  · rw [hM]
    rcases List.mem_append.1 hy with e | e
    · exact tr_app (tr_app (h.tr y e))
    · have : y = l := by simpa using e
      subst this
      exact tr_app ⟨⟨y, F.le.length + 1, -1⟩, by simp, rfl⟩
  · have e : (propF (decideF F l)).1.le.length = (decideF F l).le.length := k2.le
    rw [e]
    show (F.le ++ [_]).length = (D ++ [l]).length
    rw [List.length_append, List.length_append, h.le]; rfl
/-- Behind the first i of D that were decided again. -/
structure Ph2 (F : Eng) (D : List Int) (i : Nat) (T : Eng) : Prop where
  n : T.n = F.n
  cs : T.cs.length = F.cs.length
  cl : ∀ j, (clA T.cs j).pr = (clA F.cs j).pr ∧ (clA T.cs j).ls = (clA F.cs j).ls
  sub : ∀ x ∈ T.L, Tr F.L x.l
  tr : ∀ l ∈ D.take i, Tr T.L l
  done : (i = 0 ∧ (D = [] → T = F)) ∨ (T.vi = T.L.length ∧ T.lo = [])
theorem Ph1.back {N K : Nat} {D : List Int} {F : Eng} (h : Ph1 N K D F) : Ph2 F D 0 (backF F 0) := by
  refine ⟨by unfold backF; split <;> rfl, by unfold backF; split <;> rfl, fun j => by unfold backF; split <;> exact ⟨rfl, rfl⟩, fun x hx => ?_, fun l hl => by simp at hl, .inl ⟨rfl, fun hD => ?_⟩⟩
  · unfold backF at hx
    split at hx
    · exact ⟨x, hx, rfl⟩
    · exact ⟨x, List.mem_of_mem_take hx, rfl⟩
  · unfold backF
    rw [if_pos (by rw [h.le, hD]; rfl)]
theorem Ph2.subc {F T : Eng} {D : List Int} {i : Nat} (h : Ph2 F D i T) : ∀ j, j < T.cs.length → (clA T.cs j).pr = true → ∃ k, k < F.cs.length ∧ (clA F.cs k).pr = true ∧ (clA F.cs k).ls = (clA T.cs j).ls :=
  fun j hj hp => ⟨j, by rw [← h.cs]; exact hj, by rw [← (h.cl j).1]; exact hp, (h.cl j).2.symm⟩
/-- What is decided again has no value, or is true. -/
theorem Ph2.val {N K : Nat} {F T : Eng} {D : List Int} {i : Nat} {l : Int} (h : Ph2 F D i T) (h1 : Ph1 N K D F) (hF : Inv F) (hT : Inv T) (hl : l ∈ D) : (valZ T.L l = 0 ∧ errZ T.n T.L l = 0) ∨ (valZ T.L l = 1) := by
  have ht := h1.tr l hl
  obtain ⟨x, hx, e⟩ := ht
  have ho := hF.pre.one x hx
  rw [e] at ho
  by_cases h0 : valZ T.L l = 0
  · refine .inl ⟨h0, ?_⟩
    have hf := val_none h0
    have h2 := ho.2.1
    rcases errZ_cases T.n T.L l with ⟨a, _⟩ | ⟨a, _⟩ | ⟨_, _, _, _, _, _, e⟩
    · rcases a with a | a
      · rw [ho.1] at a; cases a
      · rw [h.n] at a; omega
    · exact absurd a (by rw [hf]; simp)
    · exact e
  · refine .inr ?_
    by_cases hn : valZ T.L l = 1
    · exact hn
    · exfalso
      have h2 : valZ T.L l = -1 := by
        unfold valZ at h0 hn ⊢
        split at h0
        · split at h0 <;> simp_all
        · exact absurd rfl h0
      obtain ⟨y, hy, e2⟩ := (val_neg hT.pre ho.1).1 h2
      have := h.sub y hy
      rw [e2] at this
      exact tr_both hF.pre ho.1 ⟨x, hx, e⟩ this
/-- One is decided again, if it has no value, and what follows is set. -/
theorem Ph2.step {N K : Nat} {F T T' : Eng} {D : List Int} {i : Nat} {l : Int} (h : Ph2 F D i T) (h1 : Ph1 N K D F) (hF : Inv F) (hT' : Inv T') (hi : D[i]? = some l) (ha : T' = decideF T l ∨ (T' = T ∧ Tr T.L l)) : (propF T').2 = -1 ∧ Ph2 F D (i + 1) (propF T').1 := by
  obtain ⟨p1, p2, p3⟩ := inv_prop hT'
  obtain ⟨M, hM, hM2⟩ := p2.L
  have hl : l ∈ D := List.mem_of_getElem? hi
  have en : T'.n = T.n := by rcases ha with rfl | ⟨rfl, _⟩ <;> rfl
  have ec : T'.cs = T.cs := by rcases ha with rfl | ⟨rfl, _⟩ <;> rfl
  have eL : ∀ x ∈ T'.L, Tr F.L x.l := by
    rcases ha with rfl | ⟨rfl, _⟩
    · intro x hx
      rcases List.mem_append.1 hx with e | e
      · exact h.sub x e
      · have : x = ⟨l, T.le.length + 1, -1⟩ := by simpa using e
        subst this; exact h1.tr l hl
    · exact h.sub
  have tl : Tr T'.L l := by
    rcases ha with rfl | ⟨rfl, a⟩
    · exact ⟨⟨l, T.le.length + 1, -1⟩, List.mem_append_right _ (by simp), rfl⟩
    · exact a
  have tD : ∀ y ∈ D.take i, Tr T'.L y := fun y hy => by
    rcases ha with rfl | ⟨rfl, _⟩
    · exact tr_app (h.tr y hy)
    · exact h.tr y hy
  have eT : (propF T').1.n = T.n := (p2.n).trans en
  have eC : (propF T').1.cs.length = F.cs.length := (p2.cs).trans ((congrArg List.length ec).trans h.cs)
  have eQ : ∀ j, (clA (propF T').1.cs j).pr = (clA F.cs j).pr ∧ (clA (propF T').1.cs j).ls = (clA F.cs j).ls := fun j => by
    have a1 := p2.cl j
    have a2 := h.cl j
    have a3 : (roomF T').cs = T.cs := ec
    rw [a3] at a1
    exact ⟨a1.1.trans a2.1, a1.2.trans a2.2⟩
  have hsub : ∀ j, j < (propF T').1.cs.length → (clA (propF T').1.cs j).pr = true → ∃ k, k < F.cs.length ∧ (clA F.cs k).pr = true ∧ (clA F.cs k).ls = (clA (propF T').1.cs j).ls :=
    fun j hj hp => ⟨j, by rw [← eC]; exact hj, by rw [← (eQ j).1]; exact hp, (eQ j).2.symm⟩
  have hd : ∀ x ∈ (propF T').1.L, x.rs < 0 → Tr F.L x.l := fun x hx h0 => by
    rw [hM] at hx
    rcases List.mem_append.1 hx with e | e
    · exact eL x e
    · have := (hM2 x e).1; omega
  have hno : (propF T').2 = -1 ∧ (propF T').1.vi = (propF T').1.L.length ∧ (propF T').1.lo = [] := by
    rcases p3 with a | b
    · exact a
    · exact (sub_conf p1 hF h1.vi h1.lo hsub hd b).elim
  refine ⟨hno.1, eT.trans h.n, eC, eQ, fun x hx => ?_, fun y hy => ?_, .inr hno.2⟩
  · obtain ⟨j, hj, rfl⟩ := List.getElem_of_mem hx
    exact sub_true p1 hF h1.vi h1.lo hsub hd j _ (List.getElem?_eq_getElem hj)
  · rw [List.take_add_one, hi] at hy
    refine p2.tr (A := roomF T') ?_
    rcases List.mem_append.1 hy with e | e
    · exact tD y e
    · have : y = l := by simpa using e
      subst this; exact tl
/-- At the end the same is true. -/
theorem Ph2.same {N K : Nat} {F T : Eng} {D : List Int} (h : Ph2 F D D.length T) (h1 : Ph1 N K D F) (hF : Inv F) (hT : Inv T) (y : Int) : y ∈ T.L.map Ent.l ↔ y ∈ F.L.map Ent.l := by
  have key : T = F ∨ (T.vi = T.L.length ∧ T.lo = []) := by
    rcases h.done with ⟨a, b⟩ | a
    · exact .inl (b (List.length_eq_zero_iff.1 a))
    · exact .inr a
  rcases key with rfl | ⟨k1, k2⟩
  · exact Iff.rfl
  constructor
  · intro hy
    obtain ⟨x, hx, rfl⟩ := List.mem_map.1 hy
    obtain ⟨z, hz, e⟩ := h.sub x hx
    exact List.mem_map.2 ⟨z, hz, e⟩
  · intro hy
    obtain ⟨x, hx, rfl⟩ := List.mem_map.1 hy
    obtain ⟨j, hj, rfl⟩ := List.getElem_of_mem hx
    obtain ⟨z, hz, e⟩ := sub_true hF hT k1 k2 (fun i hi hp => ⟨i, by rw [h.cs]; exact hi, by rw [(h.cl i).1]; exact hp, (h.cl i).2⟩) (fun x hx h0 => h.tr x.l (by rw [List.take_length]; exact h1.dec x hx h0)) j _ (List.getElem?_eq_getElem hj)
    exact List.mem_map.2 ⟨z, hz, e⟩
theorem all_one {n d : Nat} {L : List Ent} (h : Pre n d L) : allOne (L.map Ent.l) = true := by
  unfold allOne
  rw [List.all_eq_true]
  intro y hy
  obtain ⟨x, hx, rfl⟩ := List.mem_map.1 hy
  exact (h.one x hx).1
theorem clean_same {xs ys us vs : List Int} (h : IsClean xs us) (k : IsClean ys vs) (e : ∀ y, y ∈ ys ↔ y ∈ xs) : us = vs :=
  sorted_unique us vs h.1 k.1 fun x => (h.2 x).trans ((e x).symm.trans (k.2 x).symm)
end Go.Proofs.Ytaalaekiblifpaa.WAgn
