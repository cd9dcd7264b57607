/- What follows of fewer clauses follows of more. No program. -/
import Derived.Test.YtjhopjokllkipaaEngW
namespace Go.Proofs.Ytjhopjokllkipaa
open LitM TrailM EngM

theorem sub_true {S T : Eng} (hS : Inv S) (hT : Inv T) (hvi : T.vi = T.L.length) (hlo : T.lo = []) (hc : ∀ i, i < S.cs.length → (clA S.cs i).pr = true → ∃ k, k < T.cs.length ∧ (clA T.cs k).pr = true ∧ (clA T.cs k).ls = (clA S.cs i).ls)
    (hd : ∀ x ∈ S.L, x.rs < 0 → Tr T.L x.l) : ∀ (j : Nat) (x : Ent), S.L[j]? = some x → Tr T.L x.l := by
  intro j
  induction j using Nat.strongRecOn with
  | _ j ih =>
    intro x hx
    have hm := List.mem_of_getElem? hx
    by_cases h0 : 0 ≤ x.rs
    · obtain ⟨r, q1, q2, q3, q4, q5⟩ := hS.i8 j x hx h0
      have hls := hS.ls q2
      have hprev : ∀ y, Tr (S.L.take j) y → Tr T.L y := fun y hy => by
        obtain ⟨z, hz, e⟩ := hy
        obtain ⟨i, hi, rfl⟩ := List.getElem_of_mem hz
        have hi2 : i < j := by have := hi; rw [List.length_take] at this; omega
        have hz2 : S.L[i]? = some (S.L.take j)[i] := by rw [← List.getElem?_take_of_lt hi2, List.getElem?_eq_getElem hi]
        rw [← e]; exact ih i hi2 _ hz2
      have hfa : ∀ y ∈ (clA S.cs r).ls, y ≠ x.l → Tr T.L (-y) := fun y hy hne => hprev _ (q5 y hy hne)
      have hxo := hls _ q4
      have hxn : x.l ≠ 0 := by have := (one_iff x.l).1 hxo.1; omega
      have hnot : ¬ Tr (S.L.take j) x.l := fun ⟨z, hz, e⟩ => by
        obtain ⟨i, hi, rfl⟩ := List.getElem_of_mem hz
        have hi2 : i < j := by have := hi; rw [List.length_take] at this; omega
        have hjl := (List.getElem?_eq_some_iff.1 hx).1
        have h1 := List.pairwise_iff_getElem.1 hS.pre.dis i j (by omega) hjl hi2
        rw [List.getElem_take] at e
        have h2 : S.L[j] = x := (List.getElem?_eq_some_iff.1 hx).2
        rw [h2, e] at h1
        exact h1 rfl
      have hb : bothB (clA S.cs r).ls = false := by
        rw [Bool.eq_false_iff]
        intro hb
        obtain ⟨y, hy1, hy2⟩ := (bothB_iff _).1 hb
        by_cases e1 : y = x.l
        · have := q5 (-y) hy2 (by omega)
          rw [e1, not_not] at this
          exact hnot this
        · by_cases e2 : -y = x.l
          · have := q5 y hy1 e1
            rw [e2] at this
            exact hnot this
          · have a1 := hfa y hy1 e1
            have a2 := hfa (-y) hy2 e2
            exact tr_both hT.pre (one_neg (hls y hy1).1) a1 a2
      obtain ⟨k, k1, k2, k3⟩ := hc r q2 q3
      rcases prop_done hT hvi hlo k1 k2 (by rw [k3]; exact hb) with ⟨y, hy, ht⟩ | ⟨a, b, ha, hb', hab, _, a2, _, b2⟩
      · rw [k3] at hy
        by_cases e : y = x.l
        · rw [← e]; exact ht
        · exact (tr_both hT.pre (hls y hy).1 ht (hfa y hy e)).elim
      · rw [k3] at ha hb'
        by_cases e : a = x.l
        · exact absurd (hfa b hb' (fun q => hab (e.trans q.symm))) b2
        · exact absurd (hfa a ha e) a2
    · exact hd x hm (by omega)
theorem sub_conf {S T : Eng} (hS : Inv S) (hT : Inv T) (hvi : T.vi = T.L.length) (hlo : T.lo = []) (hc : ∀ i, i < S.cs.length → (clA S.cs i).pr = true → ∃ k, k < T.cs.length ∧ (clA T.cs k).pr = true ∧ (clA T.cs k).ls = (clA S.cs i).ls)
    (hd : ∀ x ∈ S.L, x.rs < 0 → Tr T.L x.l) {c : Int} (hco : Conf S c) : False := by
  obtain ⟨id, _, hi, hp, hf⟩ := hco
  have hls := hS.ls hi
  have hfa : ∀ y ∈ (clA S.cs id).ls, Tr T.L (-y) := fun y hy => by
    obtain ⟨z, hz, e⟩ := hf y hy
    obtain ⟨j, hj, rfl⟩ := List.getElem_of_mem hz
    rw [← e]; exact sub_true hS hT hvi hlo hc hd j _ (List.getElem?_eq_getElem hj)
  have hb : bothB (clA S.cs id).ls = false := by
    rw [Bool.eq_false_iff]
    intro hb
    obtain ⟨y, hy1, hy2⟩ := (bothB_iff _).1 hb
    exact tr_both hT.pre (one_neg (hls y hy1).1) (hfa y hy1) (hfa (-y) hy2)
  obtain ⟨k, k1, k2, k3⟩ := hc id hi hp
  rcases prop_done hT hvi hlo k1 k2 (by rw [k3]; exact hb) with ⟨y, hy, ht⟩ | ⟨a, b, ha, _, _, _, a2, _, _⟩
  · rw [k3] at hy
    exact tr_both hT.pre (hls y hy).1 ht (hfa y hy)
  · rw [k3] at ha
    exact a2 (hfa a ha)
/-- Behind the Propagates of two engines, one of which has the other's clauses and decisions. -/
theorem prop_sub {S T : Eng} (hS : Inv S) (hT : Inv T) (hc : ∀ i, i < S.cs.length → (clA S.cs i).pr = true → ∃ k, k < T.cs.length ∧ (clA T.cs k).pr = true ∧ (clA T.cs k).ls = (clA S.cs i).ls)
    (hd : ∀ x ∈ S.L, Tr T.L x.l) (h1 : (propF T).2 = -1) : (propF S).2 = -1 ∧ ∀ y, Tr (propF S).1.L y → Tr (propF T).1.L y := by
  obtain ⟨s1, s2, s3⟩ := inv_prop hS
  obtain ⟨t1, t2, t3⟩ := inv_prop hT
  have tv : (propF T).1.vi = (propF T).1.L.length ∧ (propF T).1.lo = [] := by
    rcases t3 with ⟨_, a, b⟩ | ⟨id, e, _⟩
    · exact ⟨a, b⟩
    · omega
  have hc' : ∀ i, i < (propF S).1.cs.length → (clA (propF S).1.cs i).pr = true → ∃ k, k < (propF T).1.cs.length ∧ (clA (propF T).1.cs k).pr = true ∧ (clA (propF T).1.cs k).ls = (clA (propF S).1.cs i).ls := fun i hi hp => by
    have e1 : (propF S).1.cs.length = S.cs.length := s2.cs
    have e2 : (propF T).1.cs.length = T.cs.length := t2.cs
    have p1 : (clA (propF S).1.cs i).pr = (clA S.cs i).pr := (s2.cl i).1
    have p2 : (clA (propF S).1.cs i).ls = (clA S.cs i).ls := (s2.cl i).2
    rw [p1] at hp
    obtain ⟨k, k1, k2, k3⟩ := hc i (by omega) hp
    have p3 : (clA (propF T).1.cs k).pr = (clA T.cs k).pr := (t2.cl k).1
    have p4 : (clA (propF T).1.cs k).ls = (clA T.cs k).ls := (t2.cl k).2
    exact ⟨k, by omega, by rw [p3]; exact k2, by rw [p4, p2]; exact k3⟩
  have hd' : ∀ x ∈ (propF S).1.L, x.rs < 0 → Tr (propF T).1.L x.l := fun x hx h0 => by
    obtain ⟨M, hM, hM2⟩ := s2.L
    rw [hM] at hx
    rcases List.mem_append.1 hx with e | e
    · exact t2.tr (A := roomF T) (hd x e)
    · have := (hM2 x e).1; omega
  refine ⟨?_, fun y ⟨x, hx, e⟩ => ?_⟩
  · rcases s3 with ⟨a, _, _⟩ | b
    · exact a
    · exact (sub_conf s1 t1 tv.1 tv.2 hc' hd' b).elim
  · obtain ⟨j, hj, rfl⟩ := List.getElem_of_mem hx
    rw [← e]; exact sub_true s1 t1 tv.1 tv.2 hc' hd' j _ (List.getElem?_eq_getElem hj)
theorem val_same {n d m e : Nat} {L M : List Ent} (h : Pre n d L) (k : Pre m e M) {y : Int} (hy : LitM.one y = true) (hs : ∀ z, Tr L z → Tr M z) (h0 : valZ L y ≠ 0) : valZ M y = valZ L y := by
  by_cases h1 : valZ L y = 1
  · rw [h1]; exact (val_one k).2 (hs y ((val_one h).1 h1))
  · have h2 : valZ L y = -1 := by
      unfold valZ at h0 h1 ⊢
      split at h0
      · split at h0 <;> simp_all
      · exact absurd rfl h0
    rw [h2]; exact (val_neg k hy).2 (hs (-y) ((val_neg h hy).1 h2))
end Go.Proofs.Ytjhopjokllkipaa
