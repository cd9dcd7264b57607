/- What holds of an engine stays, while it propagates. No program. -/
import Derived.Test.YtjhopjokllkipaaEngI
import Derived.Test.YtjhopjokllkipaaEVis
import Derived.Test.YtjhopjokllkipaaESett
namespace Go.Proofs.Ytjhopjokllkipaa
open LitM TrailM EngM

/-- A clause that is false. -/
def Conf (S : Eng) (c : Int) : Prop := ∃ id : Nat, c = (id : Int) ∧ id < S.cs.length ∧ (clA S.cs id).pr = true ∧ ∀ y ∈ (clA S.cs id).ls, Tr S.L (-y)
/-- What propagating leaves as it was: clauses; what was true; and what is new is no decision. -/
structure Ker (S S' : Eng) : Prop where
  n : S'.n = S.n
  cs : S'.cs.length = S.cs.length
  cl : ∀ i, (clA S'.cs i).pr = (clA S.cs i).pr ∧ (clA S'.cs i).ls = (clA S.cs i).ls
  wa : S'.wa.length = S.wa.length
  le : S'.le.length = S.le.length
  L : ∃ M, S'.L = S.L ++ M ∧ ∀ x ∈ M, 0 ≤ x.rs ∧ x.lv = S.le.length
theorem Ker.refl (S : Eng) : Ker S S := ⟨rfl, rfl, fun _ => ⟨rfl, rfl⟩, rfl, rfl, [], by simp, by simp⟩
theorem Ker.trans {A B C : Eng} (h : Ker A B) (k : Ker B C) : Ker A C := by
  obtain ⟨M, h1, h2⟩ := h.L
  obtain ⟨N, k1, k2⟩ := k.L
  refine ⟨k.n.trans h.n, k.cs.trans h.cs, fun i => ⟨(k.cl i).1.trans (h.cl i).1, (k.cl i).2.trans (h.cl i).2⟩, k.wa.trans h.wa, k.le.trans h.le, M ++ N, by rw [k1, h1, List.append_assoc], fun x hx => ?_⟩
  rcases List.mem_append.1 hx with e | e
  · exact h2 x e
  · have := k2 x e
    rw [h.le] at this; exact this
theorem Ker.tr {A B : Eng} (h : Ker A B) {y : Int} (ht : Tr A.L y) : Tr B.L y := by
  obtain ⟨M, h1, _⟩ := h.L
  rw [h1]; exact tr_app ht
section
variable {S : Eng}
theorem ker_cs (S : Eng) {id : Nat} (hi : id < S.cs.length) {c : Cl} (h1 : c.pr = (clA S.cs id).pr) (h2 : c.ls = (clA S.cs id).ls) : Ker S { S with cs := S.cs.set id c } := by
  refine ⟨rfl, by simp, fun i => ?_, rfl, rfl, [], by simp, by simp⟩
  show (clA (S.cs.set id c) i).pr = _ ∧ (clA (S.cs.set id c) i).ls = _
  rw [clA_set hi]
  split
  · rename_i e; subst e; exact ⟨h1, h2⟩
  · exact ⟨rfl, rfl⟩
theorem ker_rew (S : Eng) {id : Nat} (hi : id < S.cs.length) (x y : Int) : Ker S (rewatch S id x y) := ker_cs S hi (c := { clA S.cs id with w0 := x, w1 := y }) rfl rfl
theorem ker_next {id : Nat} (hi : id < S.cs.length) : Ker S (nextF S id) := ker_cs S hi rfl rfl
theorem ker_set (S : Eng) (l : Int) (r : Nat) : Ker S (setF S l r) := ⟨rfl, rfl, fun _ => ⟨rfl, rfl⟩, rfl, rfl, [⟨l, S.le.length, (r : Int)⟩], rfl, fun x hx => by
  have : x = ⟨l, S.le.length, (r : Int)⟩ := by simpa using hx
  subst this; exact ⟨by simp, rfl⟩⟩
theorem ker_try (S : Eng) (l : Int) (r : Nat) : Ker S (trySet S l r) := by unfold trySet; split; exact ker_set S l r; exact Ker.refl S
theorem ker_due (S : Eng) (id : Nat) (lv : Int) : Ker S (dueF S id lv) := by
  unfold dueF
  split
  · exact ⟨rfl, rfl, fun _ => ⟨rfl, rfl⟩, rfl, by simp, [], by simp, by simp⟩
  · exact Ker.refl S
theorem ker_wa (S : Eng) (p : Nat) (X : List Nat) : Ker S (setWa S p X) := ⟨rfl, rfl, fun _ => ⟨rfl, rfl⟩, by simp [setWa], rfl, [], by simp [setWa], by simp⟩
theorem ker_lo (S : Eng) (X : List Nat) : Ker S { S with lo := X } := ⟨rfl, rfl, fun _ => ⟨rfl, rfl⟩, rfl, rfl, [], by simp, by simp⟩
theorem ker_watch (S : Eng) (id : Nat) (l : Int) : Ker S (watchF S id l) := ker_wa S _ _
theorem ker_fast {id : Nat} (hi : id < S.cs.length) : Ker S (fastF S id).1 := by
  unfold fastF
  split
  · exact Ker.refl S
  · split
    · exact Ker.refl S
    · exact (ker_try S _ _).trans (ker_due _ _ _)
    · exact ((ker_rew S hi _ _).trans (ker_watch _ _ _)).trans (ker_watch _ _ _)
theorem ker_tell {id : Nat} (hi : id < S.cs.length) (wrong : Int) : Ker S (tellF S id wrong).1 := by
  unfold tellF
  split
  · exact Ker.refl S
  · split
    · exact Ker.refl S
    · split
      · refine ((ker_next hi).trans (ker_rew (nextF S id) (by simp [nextF]; exact hi) _ _)).trans (ker_watch _ _ _)
      · split
        · exact (ker_next hi).trans (ker_set _ _ _)
        · exact ker_next hi
theorem lo_tail {id : Nat} {r : List Nat} (h : Inv S) (hlo : S.lo = id :: r) : id ∉ r ∧ id ∉ S.le.flatMap Prod.snd ∧ (r ++ S.le.flatMap Prod.snd).Nodup ∧ ∀ p, id ∉ waA S.wa p := by
  have h1 := h.i1
  rw [hlo, List.cons_append, List.nodup_cons] at h1
  refine ⟨fun e => h1.1 (List.mem_append_left _ e), fun e => h1.1 (List.mem_append_right _ e), h1.2, fun p => h.i4 id (by rw [hlo]; simp) p⟩
/-- A clause that was removed isn't loose any more. -/
theorem inv_gone (h : Inv S) {id : Nat} {r : List Nat} (hlo : S.lo = id :: r) (hp : (clA S.cs id).pr = false) : Inv { S with lo := r } := by
  obtain ⟨K, hs⟩ := h.sf
  obtain ⟨_, _, n3, _⟩ := lo_tail h hlo
  refine ⟨⟨K, ⟨hs.n, hs.cl, hs.cn, fun i hi => hs.lo i (by rw [hlo]; exact List.mem_cons_of_mem _ hi), by have := hs.ln; rw [hlo] at this; simp at this; show r.length ≤ K; omega, hs.wa, hs.wn, hs.wl, hs.le, hs.en, hs.vi, hs.ok⟩⟩, h.nd, n3, h.i2, h.i3, fun i hi => h.i4 i (by
    rw [hlo]
    rcases List.mem_append.1 hi with e | e
    · exact List.mem_append_left _ (List.mem_cons_of_mem _ e)
    · exact List.mem_append_right _ e), fun i hi hpi hb => ?_, h.i6, h.i7, h.i8⟩
  have hpi : (clA S.cs i).pr = true := hpi
  rcases h.i5 i hi hpi hb with e | e
  · rw [hlo] at e
    rcases List.mem_cons.1 e with q | q
    · subst q; rw [hp] at hpi; cases hpi
    · exact .inl q
  · exact .inr e
theorem flat_set {le : List (Nat × List Nat)} {k id : Nat} (hk : k < le.length) : List.Perm ((le.set k ((leA le k).1, (leA le k).2 ++ [id])).flatMap Prod.snd) (id :: le.flatMap Prod.snd) := by
  induction le generalizing k with
  | nil => simp at hk
  | cons x le ih =>
    cases k with
    | zero =>
      show List.Perm (((x.1, x.2 ++ [id]) :: le).flatMap Prod.snd) _
      rw [List.flatMap_cons, List.flatMap_cons]
      show List.Perm ((x.2 ++ [id]) ++ le.flatMap Prod.snd) _
      rw [List.append_assoc]
      exact List.perm_middle
    | succ k =>
      have hk : k < le.length := by simpa using hk
      show List.Perm ((x :: le.set k ((leA le k).1, (leA le k).2 ++ [id])).flatMap Prod.snd) _
      rw [List.flatMap_cons, List.flatMap_cons]
      exact ((ih hk).append_left x.2).trans List.perm_middle
/-- A clause that holds by a literal of a level alone. -/
theorem inv_due (h : Inv S) {id : Nat} {r : List Nat} (hlo : S.lo = id :: r) {x : Ent} (hx : x ∈ S.L) (hxl : x.l ∈ (clA S.cs id).ls) : Inv { dueF S id (x.lv : Int) with lo := r } := by
  obtain ⟨K, hs⟩ := h.sf
  obtain ⟨n1, n2, n3, n4⟩ := lo_tail h hlo
  have hlv := (h.pre.one x hx).2.2
  have hidl : id < S.cs.length := hs.lo id (by rw [hlo]; simp)
  by_cases h0 : x.lv = 0
  · have hd : dueF S id (x.lv : Int) = S := by unfold dueF; rw [if_neg (by omega)]
    rw [hd]
    refine ⟨⟨K, ⟨hs.n, hs.cl, hs.cn, fun i hi => hs.lo i (by rw [hlo]; exact List.mem_cons_of_mem _ hi), by have := hs.ln; rw [hlo] at this; simp at this; show r.length ≤ K; omega, hs.wa, hs.wn, hs.wl, hs.le, hs.en, hs.vi, hs.ok⟩⟩, h.nd, n3, h.i2, h.i3, fun i hi => h.i4 i (by
      rw [hlo]
      rcases List.mem_append.1 hi with e | e
      · exact List.mem_append_left _ (List.mem_cons_of_mem _ e)
      · exact List.mem_append_right _ e), fun i hi hpi hb => ?_, h.i6, h.i7, h.i8⟩
    rcases h.i5 i hi hpi hb with e | e
    · rw [hlo] at e
      rcases List.mem_cons.1 e with q | q
      · subst q; exact .inr (.inr (.inl ⟨x, hx, hxl, h0⟩))
      · exact .inl q
    · exact .inr e
  · obtain ⟨k, hk⟩ : ∃ k, x.lv = k + 1 := ⟨x.lv - 1, by omega⟩
    have hkl : k < S.le.length := by omega
    have hd : dueF S id (x.lv : Int) = { S with le := S.le.set k ((leA S.le k).1, (leA S.le k).2 ++ [id]) } := by
      unfold dueF
      rw [if_pos (by omega), show ((x.lv : Int)).toNat - 1 = k from by omega]
    have hsf : Sf (dueF S id (x.lv : Int)) (K + 1) := dueF_sf hs hidl _ (by omega)
    rw [hd] at hsf ⊢
    have hlen : (S.le.set k ((leA S.le k).1, (leA S.le k).2 ++ [id])).length = S.le.length := by simp
    have hvk : ∀ k', vk { S with le := S.le.set k ((leA S.le k).1, (leA S.le k).2 ++ [id]), lo := r } k' = vk S k' := fun k' => by
      unfold vk
      simp only [hlen]
      split
      · rw [leA_set hkl]
        split
        · rename_i e; subst e; rfl
        · rfl
      · rfl
    have hmem : ∀ i, i ∈ (S.le.set k ((leA S.le k).1, (leA S.le k).2 ++ [id])).flatMap Prod.snd ↔ (i = id ∨ i ∈ S.le.flatMap Prod.snd) := fun i => by
      rw [(flat_set hkl).mem_iff, List.mem_cons]
    refine ⟨⟨K + 1, ⟨hsf.n, hsf.cl, hsf.cn, fun i hi => hs.lo i (by rw [hlo]; exact List.mem_cons_of_mem _ hi), by have := hs.ln; rw [hlo] at this; simp at this; show r.length ≤ K + 1; omega, hsf.wa, hsf.wn, hsf.wl, hsf.le, hsf.en, hsf.vi, hsf.ok⟩⟩, h.nd, ?_, h.i2, h.i3, fun i hi p => ?_, fun i hi hpi hb => ?_, fun p i hi hpi k' hk' j y hj hy => ?_, fun k' hk' => ?_, h.i8⟩
    · have : List.Perm (r ++ (S.le.set k ((leA S.le k).1, (leA S.le k).2 ++ [id])).flatMap Prod.snd) (id :: (r ++ S.le.flatMap Prod.snd)) := ((flat_set hkl).append_left r).trans List.perm_middle
      rw [this.nodup_iff, List.nodup_cons]
      exact ⟨fun e => (List.mem_append.1 e).elim n1 n2, n3⟩
    · rcases List.mem_append.1 hi with e | e
      · exact h.i4 i (by rw [hlo]; exact List.mem_append_left _ (List.mem_cons_of_mem _ e)) p
      · rcases (hmem i).1 e with q | q
        · subst q; exact n4 p
        · exact h.i4 i (List.mem_append_right _ q) p
    · show i ∈ r ∨ (∃ k', k' < (S.le.set k ((leA S.le k).1, (leA S.le k).2 ++ [id])).length ∧ i ∈ (leA (S.le.set k ((leA S.le k).1, (leA S.le k).2 ++ [id])) k').2 ∧ ∃ x ∈ S.L, x.l ∈ (clA S.cs i).ls ∧ x.lv ≤ k' + 1) ∨ (∃ x ∈ S.L, x.l ∈ (clA S.cs i).ls ∧ x.lv = 0) ∨ (i ∈ waA S.wa (plc (clA S.cs i).w0) ∧ i ∈ waA S.wa (plc (clA S.cs i).w1))
      by_cases e : i = id
      · subst e
        refine .inr (.inl ⟨k, by rw [hlen]; exact hkl, ?_, x, hx, hxl, by omega⟩)
        rw [leA_set hkl, if_pos rfl]; simp
      · rcases h.i5 i hi hpi hb with q | ⟨k', q1, q2, q3⟩ | q | q
        · rw [hlo] at q
          rcases List.mem_cons.1 q with q | q
          · exact absurd q e
          · exact .inl q
        · refine .inr (.inl ⟨k', by rw [hlen]; exact q1, ?_, q3⟩)
          rw [leA_set hkl]
          split
          · rename_i e2; subst e2; exact List.mem_append_left _ q2
          · exact q2
        · exact .inr (.inr (.inl q))
        · exact .inr (.inr (.inr q))
    · rw [hvk] at hj
      exact h.i6 p i hi hpi k' (by rw [← hlen]; exact hk') j y hj hy
    · rw [hvk, hvk]
      exact h.i7 k' (by rw [← hlen]; exact hk')
theorem nf_mem {L : List Ent} {ls : List Int} {y : Int} : y ∈ nf L ls ↔ y ∈ ls ∧ valZ L y ≠ -1 := by
  unfold nf
  rw [List.mem_filter]; simp
/-- A loose clause is looked at. -/
theorem inv_fast (h : Inv S) {id : Nat} {r : List Nat} (hlo : S.lo = id :: r) (hwa : S.wa.length = 2 * (S.n + 1)) :
    ((fastF S id).2 = true → Inv { (fastF S id).1 with lo := r }) ∧ ((fastF S id).2 = false → (fastF S id).1 = S ∧ Conf S (id : Int)) := by
  obtain ⟨K, hs⟩ := h.sf
  obtain ⟨n1, n2, n3, n4⟩ := lo_tail h hlo
  have hidl : id < S.cs.length := hs.lo id (by rw [hlo]; simp)
  have hls := h.ls hidl
  have hplc : ∀ l : Int, LitM.one l = true ∧ varZ l ≤ S.n → plc l < S.wa.length := fun l hl => plc_lt hl (by omega)
  have hsf := fastF_sf hs hidl hplc
  cases hp : (clA S.cs id).pr with
  | false =>
    have hR : fastF S id = (S, true) := by unfold fastF; rw [if_pos hp]
    rw [hR]
    exact ⟨fun _ => inv_gone h hlo hp, fun e => by cases e⟩
  | true =>
    have hR : fastF S id = match nf S.L (clA S.cs id).ls with
      | [] => (S, false)
      | [f] => (dueF (trySet S f id) id (levZ (trySet S f id).L (varZ f)), true)
      | f :: s :: _ => (watchF (watchF { S with cs := S.cs.set id { clA S.cs id with w0 := f, w1 := s } } id f) id s, true) := by unfold fastF; rw [if_neg (by rw [hp]; simp)]; rfl
    cases hf : nf S.L (clA S.cs id).ls with
    | nil =>
      rw [hf] at hR
      rw [hR]
      refine ⟨fun e => (by cases e), fun _ => ⟨rfl, id, rfl, hidl, hp, fun y hy => ?_⟩⟩
      rw [← val_neg h.pre (hls y hy).1]
      by_cases e : valZ S.L y = -1
      · exact e
      · have : y ∈ nf S.L (clA S.cs id).ls := nf_mem.2 ⟨hy, e⟩
        rw [hf] at this; cases this
    | cons f t =>
      obtain ⟨m1, v1⟩ := nf_mem.1 (show f ∈ nf S.L (clA S.cs id).ls by rw [hf]; simp)
      cases t with
      | nil =>
        rw [hf] at hR
        have hothers : ∀ y ∈ (clA S.cs id).ls, y ≠ f → Tr S.L (-y) := fun y hy hne => by
          rw [← val_neg h.pre (hls y hy).1]
          by_cases e : valZ S.L y = -1
          · exact e
          · have : y ∈ nf S.L (clA S.cs id).ls := nf_mem.2 ⟨hy, e⟩
            rw [hf] at this
            exact absurd (by simpa using this) hne
        have key : Inv (trySet S f id) ∧ (trySet S f id).lo = id :: r ∧ (trySet S f id).cs = S.cs ∧ ∃ x ∈ (trySet S f id).L, x.l = f := by
          unfold trySet
          split
          · rename_i hv
            exact ⟨inv_set h (hls f m1).1 (hls f m1).2 hv hidl hp m1 hothers, hlo, rfl, ⟨f, S.le.length, (id : Int)⟩, by simp [setF], rfl⟩
          · rename_i hv
            have : valZ S.L f = 1 := by
              unfold valZ at v1 hv ⊢
              split at v1 <;> simp_all
            exact ⟨h, hlo, rfl, (val_one h.pre).1 this⟩
        obtain ⟨k1, k2, k3, x, k4, k5⟩ := key
        have hlev : levZ (trySet S f id).L (varZ f) = (x.lv : Int) := by
          have := k1.pre.find k4
          rw [k5] at this
          unfold levZ; rw [this]
        rw [hR]
        simp only [hlev]
        exact ⟨fun _ => inv_due k1 k2 k4 (by rw [k3, k5]; exact m1), fun e => by cases e⟩
      | cons s t =>
        obtain ⟨m2, v2⟩ := nf_mem.1 (show s ∈ nf S.L (clA S.cs id).ls by rw [hf]; simp)
        have hne : f ≠ s := by
          have : (nf S.L (clA S.cs id).ls).Nodup := (h.nd id hidl).sublist List.filter_sublist
          rw [hf, List.nodup_cons] at this
          intro e; exact this.1 (by rw [e]; simp)
        rw [hf] at hR
        rw [hR] at hsf ⊢
        have p1 := hplc f (hls f m1)
        have p2 := hplc s (hls s m2)
        have hpn : plc f ≠ plc s := fun e => hne (plc_inj (hls f m1).1 (hls s m2).1 e)
        have hwv : ∀ p, waA ((S.wa.set (plc f) (waA S.wa (plc f) ++ [id])).set (plc s) (waA (S.wa.set (plc f) (waA S.wa (plc f) ++ [id])) (plc s) ++ [id])) p = if p = plc s then waA S.wa (plc s) ++ [id] else if p = plc f then waA S.wa (plc f) ++ [id] else waA S.wa p := fun p => by
          rw [waA_set (by simpa using p2), waA_set p1, waA_set p1]
          split
          · rw [if_neg (fun e => hpn e.symm)]
          · rfl
        refine ⟨fun _ => ?_, fun e => by cases e⟩
        have hnod : ∀ p, (waA S.wa p ++ [id]).Nodup := fun p => by
          rw [List.nodup_append]
          exact ⟨h.i2 p, by simp, fun a ha b hb e => by
            have : b = id := by simpa using hb
            subst this; subst e; exact n4 p ha⟩
        refine inv_watch h hidl hp hne m1 m2 (fun k hk j x hj hx => ⟨fun e => ?_, fun e => ?_⟩) (fun p => ?_) (fun p i hi => ?_) (fun p => ?_) (fun i => ?_) n3 n2 ⟨K + 2, ?_⟩
        · exact v1 ((val_neg h.pre (hls f m1).1).2 ⟨x, List.mem_of_getElem? hx, e⟩)
        · exact v2 ((val_neg h.pre (hls s m2).1).2 ⟨x, List.mem_of_getElem? hx, e⟩)
        · show (waA ((S.wa.set (plc f) (waA S.wa (plc f) ++ [id])).set (plc s) (waA (S.wa.set (plc f) (waA S.wa (plc f) ++ [id])) (plc s) ++ [id])) p).Nodup
          rw [hwv]
          split
          · exact hnod _
          · split
            · exact hnod _
            · exact h.i2 p
        · show i ∈ waA ((S.wa.set (plc f) (waA S.wa (plc f) ++ [id])).set (plc s) (waA (S.wa.set (plc f) (waA S.wa (plc f) ++ [id])) (plc s) ++ [id])) p ↔ _
          rw [hwv]
          split
          · rename_i e; rw [e, List.mem_append]; simp [hi]
          · split
            · rename_i e; rw [e, List.mem_append]; simp [hi]
            · exact Iff.rfl
        · show id ∈ waA ((S.wa.set (plc f) (waA S.wa (plc f) ++ [id])).set (plc s) (waA (S.wa.set (plc f) (waA S.wa (plc f) ++ [id])) (plc s) ++ [id])) p ↔ _
          rw [hwv]
          split
          · rename_i e; simp [e]
          · split
            · rename_i e; simp [e]
            · rename_i e1 e2
              constructor
              · intro e; exact absurd e (n4 p)
              · rintro (e | e)
                · exact absurd e e2
                · exact absurd e e1
        · rw [hlo, List.mem_cons]
          constructor
          · intro e; exact ⟨.inr e, fun q => n1 (q ▸ e)⟩
          · rintro ⟨e | e, q⟩
            · exact absurd e q
            · exact e
        · exact ⟨hsf.n, hsf.cl, hsf.cn, fun i hi => by
            have := hs.lo i (by rw [hlo]; exact List.mem_cons_of_mem _ hi)
            show i < (S.cs.set id _).length
            simp only [List.length_set]; exact this, by have := hs.ln; rw [hlo] at this; simp at this; show r.length ≤ K + 2; omega, hsf.wa, hsf.wn, hsf.wl, hsf.le, hsf.en, hsf.vi, hsf.ok⟩
theorem fastF_lo (S : Eng) (id : Nat) (X : List Nat) : fastF { S with lo := X } id = ({ (fastF S id).1 with lo := X }, (fastF S id).2) := by
  unfold fastF
  simp only
  split
  · rfl
  · split
    · rfl
    · unfold trySet dueF setF
      simp only
      split <;> (try split) <;> rfl
    · rfl
theorem settF_lo : ∀ (l : List Nat) (S : Eng) (X : List Nat), settF l { S with lo := X } = settF l S
  | [], S, X => rfl
  | id :: r, S, X => by
    rw [settF_cons, settF_cons, fastF_lo]
    simp only
    rw [settF_lo r]
theorem inv_sett : ∀ (l : List Nat) (S : Eng), Inv S → S.lo = l → S.wa.length = 2 * (S.n + 1) →
    Inv (settF l S).1 ∧ Ker S (settF l S).1 ∧ (settF l S).1.vi = S.vi ∧ (((settF l S).2 = -1 ∧ (settF l S).1.lo = []) ∨ Conf (settF l S).1 (settF l S).2)
  | [], S, h, hlo, _ => by
    have e : settF [] S = (S, -1) := by
      show ({ S with lo := [] }, (-1 : Int)) = (S, -1)
      rw [← hlo]
    rw [e]
    exact ⟨h, Ker.refl S, rfl, .inl ⟨rfl, hlo⟩⟩
  | id :: r, S, h, hlo, hwa => by
    obtain ⟨K, hs⟩ := h.sf
    have hidl : id < S.cs.length := hs.lo id (by rw [hlo]; simp)
    have hf := inv_fast h hlo hwa
    have hk := ker_fast hidl
    have hv := (fastF_kep S id).vi
    rw [settF_cons]
    cases hb : (fastF S id).2 with
    | true =>
      rw [if_pos rfl]
      have hi := hf.1 hb
      have := inv_sett r { (fastF S id).1 with lo := r } hi rfl (by show (fastF S id).1.wa.length = 2 * ((fastF S id).1.n + 1); rw [hk.wa, hk.n]; exact hwa)
      rw [settF_lo] at this
      obtain ⟨a, b, c, d⟩ := this
      exact ⟨a, (hk.trans (ker_lo _ r)).trans b, c.trans hv, d⟩
    | false =>
      rw [if_neg (by simp)]
      obtain ⟨e1, e2⟩ := hf.2 hb
      rw [e1]
      have e3 : ({ S with lo := id :: r } : Eng) = S := by rw [← hlo]
      rw [e3]
      exact ⟨h, Ker.refl S, rfl, .inr e2⟩
end
end Go.Proofs.Ytjhopjokllkipaa
