/- What holds of an engine stays, whatever is added, decided, removed, taken back, grown. No program. What holds of an engine stays, when it goes back, or grows. No program. -/
import Derived.Test.YtkckodpfhlpkgaaGreatEngW
import Derived.Test.YtkckodpfhlpkgaaGreatEAdd
import Derived.Test.YtkckodpfhlpkgaaGreatEDec
namespace Go.Proofs.YtkckodpfhlpkgaaGreat
open LitM TrailM EngM

section
variable {S : Eng}
theorem clean_nodup {xs ys : List Int} (h : IsClean xs ys) : ys.Nodup := by
  have := h.1
  exact this.imp (fun {a b} hab e => by subst e; omega)
theorem inv_add (h : Inv S) {xs ys : List Int} (hf : fitsB S.n xs = true) (hc : IsClean xs ys) (hm : ys.length ≤ 90000) : Inv (addF S ys (bothB xs)) := by
  obtain ⟨K, hs⟩ := h.sf
  have hone : ∀ x ∈ ys, LitM.one x = true ∧ varZ x ≤ S.n := fun x hx => fitsB_iff.1 hf x ((hc.2 x).1 hx)
  have hcl : ∀ i, i < S.cs.length → clA (S.cs ++ [⟨true, ys, 0, 0, 0⟩]) i = clA S.cs i := fun i hi => by rw [clA_snoc, if_pos hi]
  have hnew : clA (S.cs ++ [⟨true, ys, 0, 0, 0⟩]) S.cs.length = ⟨true, ys, 0, 0, 0⟩ := by rw [clA_snoc, if_neg (by omega), if_pos rfl]
  have hle : ∀ i ∈ S.le.flatMap Prod.snd, i < S.cs.length := fun i hi => by
    obtain ⟨x, hx, hi⟩ := List.mem_flatMap.1 hi
    obtain ⟨k, hk, rfl⟩ := List.getElem_of_mem hx
    exact hs.le k hk i (by unfold leA; rw [List.getD, List.getElem?_eq_getElem hk]; exact hi)
  have hwa : ∀ p, S.cs.length ∉ waA S.wa p := fun p hm => by have := hs.wa p (wa_lt hm) _ hm; omega
  have hlo : ∀ i, i ∈ (addF S ys (bothB xs)).lo → i ∈ S.lo ∨ (i = S.cs.length ∧ bothB xs = false) := fun i hi => by
    unfold addF at hi
    simp only at hi
    split at hi
    · exact .inl hi
    · rename_i hb
      rcases List.mem_append.1 hi with e | e
      · exact .inl e
      · exact .inr ⟨by simpa using e, by simpa using hb⟩
  have hsub : ∀ i, i ∈ S.lo → i ∈ (addF S ys (bothB xs)).lo := fun i hi => by
    unfold addF
    simp only
    split
    · exact hi
    · exact List.mem_append_left _ hi
  have hlen : (addF S ys (bothB xs)).cs.length = S.cs.length + 1 := by simp [addF]
  have hwl : ∀ p i, i ∈ waA S.wa p → i < S.cs.length := fun p i hi => hs.wa p (wa_lt hi) i hi
  refine ⟨⟨K + 1, ⟨hs.n, fun i hi => ?_, by have := hs.cn; omega, fun i hi => ?_, ?_, fun p hp i hi => ?_, fun p hp => by have := hs.wn p hp; show (waA S.wa p).length ≤ K + 1; omega, hs.wl, fun k hk i hi => ?_, fun k hk => by have := hs.en k hk; show (leA S.le k).2.length ≤ K + 1; omega, hs.vi, hs.ok⟩⟩, fun i hi => ?_, ?_, h.i2, fun p i hi hpi => ?_, fun i hi p => ?_, fun i hi hpi hb => ?_, fun p i hi hpi => ?_, h.i7, fun j x hx h0 => ?_⟩
  · show (∀ x ∈ (clA (S.cs ++ [⟨true, ys, 0, 0, 0⟩]) i).ls, _) ∧ _
    rw [hlen] at hi
    by_cases e : i < S.cs.length
    · have := hs.cl i e
      show (∀ x ∈ (clA (S.cs ++ [⟨true, ys, 0, 0, 0⟩]) i).ls, LitM.one x = true ∧ varZ x ≤ S.n) ∧ ((clA (S.cs ++ [⟨true, ys, 0, 0, 0⟩]) i).nx = 0 ∨ (clA (S.cs ++ [⟨true, ys, 0, 0, 0⟩]) i).nx < (clA (S.cs ++ [⟨true, ys, 0, 0, 0⟩]) i).ls.length) ∧ (clA (S.cs ++ [⟨true, ys, 0, 0, 0⟩]) i).ls.length ≤ 90000 ∧ ((clA (S.cs ++ [⟨true, ys, 0, 0, 0⟩]) i).w0 = 0 ∨ (clA (S.cs ++ [⟨true, ys, 0, 0, 0⟩]) i).w0 ∈ (clA (S.cs ++ [⟨true, ys, 0, 0, 0⟩]) i).ls) ∧ ((clA (S.cs ++ [⟨true, ys, 0, 0, 0⟩]) i).w1 = 0 ∨ (clA (S.cs ++ [⟨true, ys, 0, 0, 0⟩]) i).w1 ∈ (clA (S.cs ++ [⟨true, ys, 0, 0, 0⟩]) i).ls)
      rw [hcl i e]; exact this
    · have : i = S.cs.length := by omega
      subst this
      show (∀ x ∈ (clA (S.cs ++ [⟨true, ys, 0, 0, 0⟩]) S.cs.length).ls, LitM.one x = true ∧ varZ x ≤ S.n) ∧ ((clA (S.cs ++ [⟨true, ys, 0, 0, 0⟩]) S.cs.length).nx = 0 ∨ (clA (S.cs ++ [⟨true, ys, 0, 0, 0⟩]) S.cs.length).nx < (clA (S.cs ++ [⟨true, ys, 0, 0, 0⟩]) S.cs.length).ls.length) ∧ (clA (S.cs ++ [⟨true, ys, 0, 0, 0⟩]) S.cs.length).ls.length ≤ 90000 ∧ ((clA (S.cs ++ [⟨true, ys, 0, 0, 0⟩]) S.cs.length).w0 = 0 ∨ (clA (S.cs ++ [⟨true, ys, 0, 0, 0⟩]) S.cs.length).w0 ∈ (clA (S.cs ++ [⟨true, ys, 0, 0, 0⟩]) S.cs.length).ls) ∧ ((clA (S.cs ++ [⟨true, ys, 0, 0, 0⟩]) S.cs.length).w1 = 0 ∨ (clA (S.cs ++ [⟨true, ys, 0, 0, 0⟩]) S.cs.length).w1 ∈ (clA (S.cs ++ [⟨true, ys, 0, 0, 0⟩]) S.cs.length).ls)
      rw [hnew]
      exact ⟨hone, .inl rfl, hm, .inl rfl, .inl rfl⟩
  · rw [hlen]
    rcases hlo i hi with e | ⟨e, _⟩
    · have := hs.lo i e; omega
    · omega
  · have := hs.ln
    unfold addF
    simp only
    split
    · omega
    · rw [List.length_append]; simp only [List.length_singleton]; omega
  · rw [hlen]
    have := hs.wa p hp i hi
    omega
  · rw [hlen]
    have := hs.le k hk i hi
    omega
  · rw [hlen] at hi
    show (clA (S.cs ++ [⟨true, ys, 0, 0, 0⟩]) i).ls.Nodup
    by_cases e : i < S.cs.length
    · rw [hcl i e]; exact h.nd i e
    · have : i = S.cs.length := by omega
      subst this
      rw [hnew]; exact clean_nodup hc
  · show ((addF S ys (bothB xs)).lo ++ S.le.flatMap Prod.snd).Nodup
    unfold addF
    simp only
    split
    · exact h.i1
    · have hp : List.Perm (S.lo ++ [S.cs.length] ++ S.le.flatMap Prod.snd) (S.cs.length :: (S.lo ++ S.le.flatMap Prod.snd)) := by
        rw [List.append_assoc]; exact List.perm_middle
      rw [hp.nodup_iff, List.nodup_cons]
      refine ⟨fun hm => ?_, h.i1⟩
      rcases List.mem_append.1 hm with e | e
      · have := hs.lo _ e; omega
      · have := hle _ e; omega
  · have hpi : (clA (S.cs ++ [⟨true, ys, 0, 0, 0⟩]) i).pr = true := hpi
    have hi : i ∈ waA S.wa p := hi
    show (p = plc (clA (S.cs ++ [⟨true, ys, 0, 0, 0⟩]) i).w0 ∨ p = plc (clA (S.cs ++ [⟨true, ys, 0, 0, 0⟩]) i).w1) ∧ (clA (S.cs ++ [⟨true, ys, 0, 0, 0⟩]) i).w0 ≠ (clA (S.cs ++ [⟨true, ys, 0, 0, 0⟩]) i).w1 ∧ (clA (S.cs ++ [⟨true, ys, 0, 0, 0⟩]) i).w0 ∈ (clA (S.cs ++ [⟨true, ys, 0, 0, 0⟩]) i).ls ∧ (clA (S.cs ++ [⟨true, ys, 0, 0, 0⟩]) i).w1 ∈ (clA (S.cs ++ [⟨true, ys, 0, 0, 0⟩]) i).ls ∧ i ∈ waA S.wa (plc (clA (S.cs ++ [⟨true, ys, 0, 0, 0⟩]) i).w0) ∧ i ∈ waA S.wa (plc (clA (S.cs ++ [⟨true, ys, 0, 0, 0⟩]) i).w1)
    rw [hcl i (hwl p i hi)] at hpi ⊢
    exact h.i3 p i hi hpi
  · rcases List.mem_append.1 hi with e | e
    · rcases hlo i e with q | ⟨q, _⟩
      · exact h.i4 i (List.mem_append_left _ q) p
      · rw [q]; exact hwa p
    · exact h.i4 i (List.mem_append_right _ e) p
  · rw [hlen] at hi
    have hpi : (clA (S.cs ++ [⟨true, ys, 0, 0, 0⟩]) i).pr = true := hpi
    have hb : bothB (clA (S.cs ++ [⟨true, ys, 0, 0, 0⟩]) i).ls = false := hb
    show i ∈ (addF S ys (bothB xs)).lo ∨ (∃ k, k < S.le.length ∧ i ∈ (leA S.le k).2 ∧ ∃ x ∈ S.L, x.l ∈ (clA (S.cs ++ [⟨true, ys, 0, 0, 0⟩]) i).ls ∧ x.lv ≤ k + 1) ∨ (∃ x ∈ S.L, x.l ∈ (clA (S.cs ++ [⟨true, ys, 0, 0, 0⟩]) i).ls ∧ x.lv = 0) ∨ (i ∈ waA S.wa (plc (clA (S.cs ++ [⟨true, ys, 0, 0, 0⟩]) i).w0) ∧ i ∈ waA S.wa (plc (clA (S.cs ++ [⟨true, ys, 0, 0, 0⟩]) i).w1))
    by_cases e : i < S.cs.length
    · rw [hcl i e] at hpi hb ⊢
      rcases h.i5 i e hpi hb with q | q
      · exact .inl (hsub i q)
      · exact .inr q
    · have : i = S.cs.length := by omega
      subst this
      rw [hnew] at hb
      left
      unfold addF
      simp only
      rw [if_neg (by rw [← hc.both]; simpa using hb)]
      simp
  · have hpi : (clA (S.cs ++ [⟨true, ys, 0, 0, 0⟩]) i).pr = true := hpi
    have hi : i ∈ waA S.wa p := hi
    show ∀ k, k ≤ S.le.length → ∀ j x, j < vk S k → S.L[j]? = some x → (x.l = -(clA (S.cs ++ [⟨true, ys, 0, 0, 0⟩]) i).w0 → ∃ y ∈ S.L, y.l = (clA (S.cs ++ [⟨true, ys, 0, 0, 0⟩]) i).w1 ∧ y.lv ≤ k) ∧ (x.l = -(clA (S.cs ++ [⟨true, ys, 0, 0, 0⟩]) i).w1 → ∃ y ∈ S.L, y.l = (clA (S.cs ++ [⟨true, ys, 0, 0, 0⟩]) i).w0 ∧ y.lv ≤ k)
    rw [hcl i (hwl p i hi)] at hpi ⊢
    exact h.i6 p i hi hpi
  · obtain ⟨r, q1, q2, q3, q4, q5⟩ := h.i8 j x hx h0
    refine ⟨r, q1, by rw [hlen]; omega, ?_, ?_, ?_⟩
    · show (clA (S.cs ++ [_]) r).pr = true
      rw [hcl r q2]; exact q3
    · show x.l ∈ (clA (S.cs ++ [_]) r).ls
      rw [hcl r q2]; exact q4
    · show ∀ y ∈ (clA (S.cs ++ [_]) r).ls, y ≠ x.l → Tr (S.L.take j) (-y)
      rw [hcl r q2]; exact q5
theorem err_zero_of {n : Nat} {L : List Ent} {l : Int} (he : errZ n L l = 0) : LitM.one l = true ∧ varZ l ≤ n ∧ findE L (varZ l) = none := by
  rcases errZ_cases n L l with ⟨_, e⟩ | ⟨_, e⟩ | ⟨ho, q, hq, q1, q2, hf, _⟩
  · omega
  · omega
  · exact ⟨ho, by omega, hf⟩
theorem inv_decide (h : Inv S) {l : Int} (he : errZ S.n S.L l = 0) : Inv (decideF S l) := by
  obtain ⟨K, hs⟩ := h.sf
  obtain ⟨h1, h2, h3⟩ := err_zero_of he
  have hlen : (decideF S l).le.length = S.le.length + 1 := by simp [decideF]
  have hle : ∀ k, leA (decideF S l).le k = if k < S.le.length then leA S.le k else if k = S.le.length then (S.vi, []) else (0, []) := fun k => leA_snoc S.le (S.vi, []) k
  have hvk : ∀ k, k < S.le.length → vk (decideF S l) k = vk S k := fun k hk => by
    unfold vk
    rw [hlen, if_pos (by omega), if_pos hk, hle, if_pos hk]
  have hvd : ∀ k, S.le.length ≤ k → k ≤ S.le.length + 1 → vk (decideF S l) k = S.vi := fun k hk hk2 => by
    unfold vk
    rw [hlen]
    by_cases e : k < S.le.length + 1
    · rw [if_pos e, hle, if_neg (by omega), if_pos (by omega)]
    · rw [if_neg e]; rfl
  have hflat : (decideF S l).le.flatMap Prod.snd = S.le.flatMap Prod.snd := by simp [decideF]
  have hget : ∀ j x, (S.L ++ [⟨l, S.le.length + 1, -1⟩])[j]? = some x → S.L[j]? = some x ∨ (j = S.L.length ∧ x = ⟨l, S.le.length + 1, -1⟩) := fun j x hx => by
    rcases Nat.lt_or_ge j S.L.length with e | e
    · rw [List.getElem?_append_left e] at hx; exact .inl hx
    · rw [List.getElem?_append_right e] at hx
      by_cases e2 : j = S.L.length
      · subst e2; rw [Nat.sub_self] at hx; simp at hx; exact .inr ⟨rfl, hx.symm⟩
      · rw [List.getElem?_eq_none (by simp; omega)] at hx; cases hx
  have hvl := h.vi_le
  refine ⟨⟨K, ⟨hs.n, hs.cl, hs.cn, hs.lo, hs.ln, hs.wa, hs.wn, hs.wl, fun k hk i hi => ?_, fun k hk => ?_, ?_, ?_⟩⟩, h.nd, by rw [hflat]; exact h.i1, h.i2, h.i3, fun i hi => h.i4 i (by rw [hflat] at hi; exact hi), fun i hi hpi hb => ?_, fun p i hi hpi k hk j x hj hx => ?_, fun k hk => ?_, fun j x hx h0 => ?_⟩
  · rw [hlen] at hk
    rw [hle] at hi
    by_cases e : k < S.le.length
    · rw [if_pos e] at hi; exact hs.le k e i hi
    · rw [if_neg e, if_pos (by omega)] at hi; exact absurd hi List.not_mem_nil
  · rw [hlen] at hk
    rw [hle]
    by_cases e : k < S.le.length
    · rw [if_pos e]; exact hs.en k e
    · rw [if_neg e, if_pos (by omega)]; exact Nat.zero_le _
  · show S.vi ≤ (S.L ++ [_]).length
    rw [List.length_append]; omega
  · rw [hlen]; exact hs.ok.decide h1 h2 h3
  · rcases h.i5 i hi hpi hb with e | ⟨k, e1, e2, x, e3, e4⟩ | ⟨x, e3, e4⟩ | e
    · exact .inl e
    · exact .inr (.inl ⟨k, by rw [hlen]; omega, by rw [hle, if_pos e1]; exact e2, x, List.mem_append_left _ e3, e4⟩)
    · exact .inr (.inr (.inl ⟨x, List.mem_append_left _ e3, e4⟩))
    · exact .inr (.inr (.inr e))
  · rw [hlen] at hk
    have key : ∀ k', k' ≤ S.le.length → k' ≤ k → j < vk S k' → (x.l = -(clA S.cs i).w0 → ∃ y ∈ (decideF S l).L, y.l = (clA S.cs i).w1 ∧ y.lv ≤ k) ∧ (x.l = -(clA S.cs i).w1 → ∃ y ∈ (decideF S l).L, y.l = (clA S.cs i).w0 ∧ y.lv ≤ k) := fun k' hk' hkk hj' => by
      have hjl : j < S.L.length := by have := h.vk_le k' hk'; omega
      have hx' : S.L[j]? = some x := by
        rcases hget j x hx with e | ⟨e, _⟩
        · exact e
        · omega
      obtain ⟨a, b⟩ := h.i6 p i hi hpi k' hk' j x hj' hx'
      exact ⟨fun e => by obtain ⟨y, hy, q1, q2⟩ := a e; exact ⟨y, List.mem_append_left _ hy, q1, by omega⟩, fun e => by obtain ⟨y, hy, q1, q2⟩ := b e; exact ⟨y, List.mem_append_left _ hy, q1, by omega⟩⟩
    by_cases e : k < S.le.length
    · rw [hvk k e] at hj
      exact key k (by omega) (Nat.le_refl _) hj
    · rw [hvd k (by omega) hk] at hj
      exact key S.le.length (Nat.le_refl _) (by omega) (by unfold vk; rw [if_neg (by omega)]; exact hj)
  · rw [hlen] at hk
    have hup : ∀ k, k ≤ S.le.length → upTo (decideF S l).L k = upTo S.L k := fun k hk => upTo_snoc _ _ _ (by show k < S.le.length + 1; omega)
    by_cases e : k < S.le.length
    · rw [hvk k e, hup k (by omega)]
      have := h.i7 k e
      refine ⟨?_, this.2⟩
      by_cases e2 : k + 1 < S.le.length
      · rw [hvk _ e2]; exact this.1
      · rw [hvd _ (by omega) (by omega)]
        have h3 := this.1
        have : vk S (k + 1) = S.vi := by unfold vk; rw [if_neg e2]
        omega
    · have : k = S.le.length := by omega
      subst this
      rw [hvd _ (Nat.le_refl _) (by omega), hvd _ (by omega) (by omega), hup _ (Nat.le_refl _), upTo_all h.pre]
      exact ⟨Nat.le_refl _, hvl⟩
  · rcases hget j x hx with e | ⟨e, rfl⟩
    · obtain ⟨r', q1, q2, q3, q4, q5⟩ := h.i8 j x e h0
      refine ⟨r', q1, q2, q3, q4, fun y hy hne => ?_⟩
      have hj : j ≤ S.L.length := by
        rcases Nat.lt_or_ge j S.L.length with a | a
        · omega
        · rw [List.getElem?_eq_none a] at e; cases e
      show Tr ((S.L ++ [_]).take j) (-y)
      rw [List.take_append_of_le_length hj]; exact q5 y hy hne
    · exact absurd h0 (by show ¬ (0 : Int) ≤ -1; omega)
end
end Go.Proofs.YtkckodpfhlpkgaaGreat
namespace Go.Proofs.YtkckodpfhlpkgaaGreat
open LitM TrailM EngM

theorem leA_take {le : List (Nat × List Nat)} {k j : Nat} (hj : j < k) : leA (le.take k) j = leA le j := by
  unfold leA
  rw [List.getD, List.getD, List.getElem?_take_of_lt hj]
theorem mem_take_up {n d : Nat} {L : List Ent} (h : Pre n d L) {x : Ent} {k : Nat} (hx : x ∈ L) (hk : x.lv ≤ k) : x ∈ L.take (upTo L k) := by
  rw [(take_upTo h.inc k).1]
  exact List.mem_filter.2 ⟨hx, by simpa using hk⟩
theorem up_lv {n d : Nat} {L : List Ent} (h : Pre n d L) {x : Ent} {k : Nat} (hx : x ∈ L.take (upTo L k)) : x ∈ L ∧ x.lv ≤ k := by
  rw [(take_upTo h.inc k).1] at hx
  obtain ⟨a, b⟩ := List.mem_filter.1 hx
  exact ⟨a, by simpa using b⟩
section
variable {S : Eng}
theorem vk_back {k j : Nat} (hk : k < S.le.length) (hj : j ≤ k) : vk (backF S k) j = vk S j := by
  unfold backF
  rw [if_neg (by omega)]
  unfold vk
  dsimp only
  rw [List.length_take, Nat.min_eq_left (by omega)]
  by_cases e : j < k
  · rw [if_pos e, if_pos (by omega), leA_take e]
  · have e2 : j = k := by omega
    rw [if_neg e, if_pos (by omega), e2]
theorem inv_back (h : Inv S) {k : Nat} (hk : k ≤ S.le.length) : Inv (backF S k) := by
  by_cases hke : k = S.le.length
  · unfold backF; rw [if_pos hke]; exact h
  have hk : k < S.le.length := by omega
  have hvk := fun (j : Nat) (hj : j ≤ k) => vk_back (S := S) hk hj
  have hperm : List.Perm ((S.lo ++ (S.le.drop k).flatMap Prod.snd) ++ (S.le.take k).flatMap Prod.snd) (S.lo ++ S.le.flatMap Prod.snd) := by
    rw [List.append_assoc]
    refine List.Perm.append_left _ ?_
    have e : S.le.flatMap Prod.snd = (S.le.take k).flatMap Prod.snd ++ (S.le.drop k).flatMap Prod.snd := by
      rw [← List.flatMap_append, List.take_append_drop]
    rw [e]
    exact List.perm_append_comm
  have hB : backF S k = { S with L := S.L.take (upTo S.L k), lo := S.lo ++ (S.le.drop k).flatMap Prod.snd, vi := (leA S.le k).1, le := S.le.take k } := by
    unfold backF; rw [if_neg hke]
  have hlen : (S.le.take k).length = k := by rw [List.length_take]; omega
  have hleq : (backF S k).le.length = k := by rw [hB]; exact hlen
  have hi7 := h.i7 k hk
  have hvkk : vk S k = (leA S.le k).1 := by unfold vk; rw [if_pos hk]
  obtain ⟨K, hs⟩ := h.sf
  have hmem : ∀ i, i ∈ (S.lo ++ (S.le.drop k).flatMap Prod.snd) ++ (S.le.take k).flatMap Prod.snd ↔ i ∈ S.lo ++ S.le.flatMap Prod.snd := fun i => hperm.mem_iff
  have hlt : ∀ i, i ∈ S.lo ++ S.le.flatMap Prod.snd → i < S.cs.length := fun i hi => by
    rcases List.mem_append.1 hi with e | e
    · exact hs.lo i e
    · obtain ⟨x, hx, hi⟩ := List.mem_flatMap.1 e
      obtain ⟨j, hj, rfl⟩ := List.getElem_of_mem hx
      exact hs.le j hj i (by unfold leA; rw [List.getD, List.getElem?_eq_getElem hj]; exact hi)
  have hget : ∀ j x, (S.L.take (upTo S.L k))[j]? = some x → S.L[j]? = some x ∧ j < upTo S.L k := fun j x hx => by
    have hj : j < upTo S.L k := by
      have := (List.getElem?_eq_some_iff.1 hx).1
      rw [List.length_take] at this; omega
    rw [List.getElem?_take_of_lt hj] at hx
    exact ⟨hx, hj⟩
  rw [hB] at hvk ⊢
  refine ⟨⟨K + (S.lo ++ (S.le.drop k).flatMap Prod.snd).length, ⟨hs.n, hs.cl, by have := hs.cn; show S.cs.length ≤ _; omega, fun i hi => ?_, Nat.le_add_left _ _, hs.wa, fun p hp => Nat.le_trans (hs.wn p hp) (Nat.le_add_right _ _), hs.wl, fun j hj => ?_, fun j hj => ?_, ?_, ?_⟩⟩, h.nd, ?_, h.i2, h.i3, fun i hi p => ?_, fun i hi hp hb => ?_, fun p i hi hp j hj t x ht hx => ?_, fun j hj => ?_, fun j x hx h0 => ?_⟩
  · exact hlt i ((hmem i).1 (List.mem_append_left _ hi))
  · have hj : j < (S.le.take k).length := hj
    show ∀ i ∈ (leA (S.le.take k) j).2, i < S.cs.length
    rw [hlen] at hj
    rw [leA_take hj]; exact hs.le j (by omega)
  · have hj : j < (S.le.take k).length := hj
    show (leA (S.le.take k) j).2.length ≤ _
    rw [hlen] at hj
    rw [leA_take hj]
    exact Nat.le_trans (hs.en j (by omega)) (Nat.le_add_right _ _)
  · show (leA S.le k).1 ≤ (S.L.take (upTo S.L k)).length
    rw [List.length_take, Nat.min_eq_left (upTo_le _ _), ← hvkk]; exact hi7.2
  · show Ok S.n (S.le.take k).length (S.L.take (upTo S.L k))
    rw [hlen]; exact hs.ok.back (by omega)
  · exact hperm.nodup_iff.2 h.i1
  · exact h.i4 i ((hmem i).1 hi) p
  · show i ∈ S.lo ++ (S.le.drop k).flatMap Prod.snd ∨ (∃ j, j < (S.le.take k).length ∧ i ∈ (leA (S.le.take k) j).2 ∧ ∃ x ∈ S.L.take (upTo S.L k), x.l ∈ (clA S.cs i).ls ∧ x.lv ≤ j + 1) ∨ (∃ x ∈ S.L.take (upTo S.L k), x.l ∈ (clA S.cs i).ls ∧ x.lv = 0) ∨ _
    rcases h.i5 i hi hp hb with e | ⟨j, e1, e2, x, e3, e4, e5⟩ | ⟨x, e3, e4, e5⟩ | e
    · exact .inl (List.mem_append_left _ e)
    · by_cases hj : j < k
      · refine .inr (.inl ⟨j, by rw [hlen]; exact hj, by rw [leA_take hj]; exact e2, x, mem_take_up h.pre e3 (by omega), e4, e5⟩)
      · refine .inl (List.mem_append_right _ ?_)
        unfold leA at e2
        rw [List.getD, List.getElem?_eq_getElem e1] at e2
        refine List.mem_flatMap.2 ⟨S.le[j], ?_, e2⟩
        rw [List.mem_iff_getElem]
        exact ⟨j - k, by rw [List.length_drop]; omega, by rw [List.getElem_drop]; congr 1; omega⟩
    · exact .inr (.inr (.inl ⟨x, mem_take_up h.pre e3 (by omega), e4, e5⟩))
    · exact .inr (.inr (.inr e))
  · have hj : j ≤ (S.le.take k).length := hj
    rw [hlen] at hj
    rw [hvk j hj] at ht
    obtain ⟨hx', hxk⟩ := hget t x hx
    obtain ⟨a, b⟩ := h.i6 p i hi hp j (by omega) t x ht hx'
    refine ⟨fun e => ?_, fun e => ?_⟩
    · obtain ⟨y, y1, y2, y3⟩ := a e
      exact ⟨y, mem_take_up h.pre y1 (by omega), y2, y3⟩
    · obtain ⟨y, y1, y2, y3⟩ := b e
      exact ⟨y, mem_take_up h.pre y1 (by omega), y2, y3⟩
  · have hj : j < (S.le.take k).length := hj
    rw [hlen] at hj
    rw [hvk j (by omega), hvk (j + 1) (by omega)]
    have := h.i7 j (by omega)
    refine ⟨this.1, ?_⟩
    show vk S j ≤ upTo (S.L.take (upTo S.L k)) j
    rw [upTo_back h.pre (by omega)]; exact this.2
  · obtain ⟨hx', hxk⟩ := hget j x hx
    obtain ⟨r, q1, q2, q3, q4, q5⟩ := h.i8 j x hx' h0
    refine ⟨r, q1, q2, q3, q4, fun y hy hne => ?_⟩
    show Tr ((S.L.take (upTo S.L k)).take j) (-y)
    rw [List.take_take, Nat.min_eq_left (by omega)]; exact q5 y hy hne
/-- A variable more. -/
def growF (S : Eng) : Eng := { S with n := S.n + 1 }
theorem inv_grow (h : Inv S) (hn : S.n + 1 ≤ 90000) : Inv (growF S) := by
  obtain ⟨K, hs⟩ := h.sf
  refine ⟨⟨K, ⟨hn, fun i hi => ?_, hs.cn, hs.lo, hs.ln, hs.wa, hs.wn, by have := hs.wl; show S.wa.length ≤ 2 * (S.n + 1 + 1); omega, hs.le, hs.en, hs.vi, hs.ok.grow⟩⟩, h.nd, h.i1, h.i2, h.i3, h.i4, h.i5, h.i6, h.i7, h.i8⟩
  obtain ⟨a, b⟩ := hs.cl i hi
  exact ⟨fun x hx => ⟨(a x hx).1, by have := (a x hx).2; show varZ x ≤ ((S.n + 1 : Nat) : Int); omega⟩, b⟩
end
end Go.Proofs.YtkckodpfhlpkgaaGreat
