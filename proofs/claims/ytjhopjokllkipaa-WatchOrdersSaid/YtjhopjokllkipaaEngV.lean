/- What holds of an engine stays, while one literal is visited, and all of them. No program. -/
import Derived.Test.YtjhopjokllkipaaEngT
namespace Go.Proofs.Ytjhopjokllkipaa
open LitM TrailM EngM

section
variable {S : Eng}
theorem not_not {l : Int} : - -l = l := by omega
/-- A place's list without a clause that was removed. -/
theorem inv_less (h : Inv S) {p id : Nat} {a b : List Nat} (hw : waA S.wa p = a ++ id :: b) (hp : (clA S.cs id).pr = false) : Inv (setWa S p (a ++ b)) := by
  obtain ⟨K, hs⟩ := h.sf
  have hpl : p < S.wa.length := wa_lt (i := id) (by rw [hw]; simp)
  have hsub : (a ++ b).Sublist (waA S.wa p) := by rw [hw]; exact (List.sublist_cons_self id b).append_left a
  have hv : ∀ r, waA (setWa S p (a ++ b)).wa r = if r = p then a ++ b else waA S.wa r := fun r => waA_set hpl _ r
  have hin : ∀ r i, i ∈ waA (setWa S p (a ++ b)).wa r → i ∈ waA S.wa r := fun r i hi => by
    rw [hv] at hi
    split at hi
    · rename_i e; subst e; exact hsub.subset hi
    · exact hi
  have hback : ∀ r i, i ≠ id → i ∈ waA S.wa r → i ∈ waA (setWa S p (a ++ b)).wa r := fun r i hne hi => by
    rw [hv]
    split
    · rename_i e; subst e
      rw [hw] at hi
      rcases List.mem_append.1 hi with q | q
      · exact List.mem_append_left _ q
      · rcases List.mem_cons.1 q with q | q
        · exact absurd q hne
        · exact List.mem_append_right _ q
    · exact hi
  have hne : ∀ i, (clA S.cs i).pr = true → i ≠ id := fun i hi e => by subst e; rw [hp] at hi; cases hi
  refine ⟨⟨K, setWa_sf hs hpl (fun i hi => hs.wa p hpl i (hsub.subset hi)) (Nat.le_trans hsub.length_le (hs.wn p hpl))⟩, h.nd, h.i1, fun r => ?_, fun r i hi hpi => ?_, fun i hi r hm => h.i4 i hi r (hin r i hm), fun i hi hpi hb => ?_, fun r i hi => h.i6 r i (hin r i hi), h.i7, h.i8⟩
  · rw [hv]
    split
    · exact (h.i2 p).sublist hsub
    · exact h.i2 r
  · obtain ⟨a1, a2, a3, a4, a5, a6⟩ := h.i3 r i (hin r i hi) hpi
    exact ⟨a1, a2, a3, a4, hback _ i (hne i hpi) a5, hback _ i (hne i hpi) a6⟩
  · rcases h.i5 i hi hpi hb with q | q | q | ⟨q1, q2⟩
    · exact .inl q
    · exact .inr (.inl q)
    · exact .inr (.inr (.inl q))
    · exact .inr (.inr (.inr ⟨hback _ i (hne i hpi) q1, hback _ i (hne i hpi) q2⟩))
/-- The other literal that a clause watches. -/
theorem other_cases {c : Cl} {wrong : Int} (h : wrong = c.w0 ∨ wrong = c.w1) (hne : c.w0 ≠ c.w1) : (wrong = c.w0 ∧ otherW c wrong = c.w1) ∨ (wrong = c.w1 ∧ otherW c wrong = c.w0) := by
  unfold otherW
  rcases h with e | e
  · left; rw [if_pos e.symm]; exact ⟨e, rfl⟩
  · right; rw [if_neg (fun q => hne (q.trans e))]; exact ⟨e, rfl⟩
/-- A clause is told. -/
theorem inv_tell (h : Inv S) {p id : Nat} {a b : List Nat} (hw : waA S.wa p = a ++ id :: b) {wrong : Int} (hw1 : LitM.one wrong = true) (hp : p = plc wrong) (hfa : Tr S.L (-wrong)) (hwa : S.wa.length = 2 * (S.n + 1)) :
    ((tellF S id wrong).2 = 0 → Inv (tellF S id wrong).1 ∧ ((clA S.cs id).pr = true → Tr (tellF S id wrong).1.L (otherW (clA (tellF S id wrong).1.cs id) wrong)) ∧ waA (tellF S id wrong).1.wa p = a ++ id :: b) ∧
    ((tellF S id wrong).2 = 1 → Inv (setWa (tellF S id wrong).1 p (a ++ b))) ∧
    ((tellF S id wrong).2 = 2 → Inv (tellF S id wrong).1 ∧ Conf (tellF S id wrong).1 (id : Int) ∧ waA (tellF S id wrong).1.wa p = a ++ id :: b) := by
  obtain ⟨K, hs⟩ := h.sf
  have hpl : p < S.wa.length := wa_lt (i := id) (by rw [hw]; simp)
  have hmem : id ∈ waA S.wa p := by rw [hw]; simp
  have hidl : id < S.cs.length := hs.wa p hpl id hmem
  have hls := h.ls hidl
  cases hpr : (clA S.cs id).pr with
  | false =>
    have hR : tellF S id wrong = (S, 1) := by unfold tellF; rw [if_pos hpr]
    rw [hR]
    exact ⟨fun e => (by simp at e), fun _ => inv_less h hw hpr, fun e => (by simp at e)⟩
  | true =>
    obtain ⟨i3a, i3b, i3c, i3d, i3e, i3f⟩ := h.i3 p id hmem hpr
    have hwr : wrong = (clA S.cs id).w0 ∨ wrong = (clA S.cs id).w1 := by
      rw [hp] at i3a
      rcases i3a with e | e
      · exact .inl (plc_inj hw1 (hls _ i3c).1 e)
      · exact .inr (plc_inj hw1 (hls _ i3d).1 e)
    have hoc := other_cases hwr i3b
    have hom : otherW (clA S.cs id) wrong ∈ (clA S.cs id).ls := by
      rcases hoc with ⟨_, e⟩ | ⟨_, e⟩ <;> rw [e] <;> assumption
    have hT : tellF S id wrong = if valZ S.L (otherW (clA S.cs id) wrong) = 1 then (S, 0) else if anoL S id ≠ 0 then (watchF (rewatch (nextF S id) id (otherW (clA S.cs id) wrong) (anoL S id)) id (anoL S id), 1) else if valZ S.L (otherW (clA S.cs id) wrong) = 0 then (setF (nextF S id) (otherW (clA S.cs id) wrong) id, 0) else (nextF S id, 2) := by
      conv => lhs; unfold tellF
      rw [if_neg (by rw [hpr]; simp)]
    have hon := hls _ hom
    have hnx := inv_next h hidl
    have hncl : clA (nextF S id).cs id = { clA S.cs id with nx := (anoF S.L (clA S.cs id) (clA S.cs id).ls.length (clA S.cs id).nx).1 } := nextF_at hidl
    have hothers : anoL S id = 0 → ∀ y ∈ (clA S.cs id).ls, y ≠ otherW (clA S.cs id) wrong → Tr S.L (-y) := fun hz y hy hne => by
      by_cases e : y = wrong
      · subst e; exact hfa
      · have hfit := anoF_all (c := clA S.cs id) (L := S.L) (fun x hx e => by have := (one_iff x).1 (hls x hx).1; omega) (hs.cl id hidl).2.1 hz y hy
        have y0 : y ≠ (clA S.cs id).w0 ∧ y ≠ (clA S.cs id).w1 := by
          rcases hoc with ⟨q1, q2⟩ | ⟨q1, q2⟩
          · exact ⟨fun q => e (q.trans q1.symm), fun q => hne (q.trans q2.symm)⟩
          · exact ⟨fun q => hne (q.trans q2.symm), fun q => e (q.trans q1.symm)⟩
        unfold fitB at hfit
        rw [decide_eq_true y0.1, decide_eq_true y0.2] at hfit
        rw [← val_neg h.pre (hls y hy).1]
        simpa using hfit
    by_cases hv1 : valZ S.L (otherW (clA S.cs id) wrong) = 1
    · rw [if_pos hv1] at hT
      rw [hT]
      exact ⟨fun _ => ⟨h, fun _ => (val_one h.pre).1 hv1, hw⟩, fun e => (by simp at e), fun e => (by simp at e)⟩
    · rw [if_neg hv1] at hT
      by_cases hz : anoL S id = 0
      · rw [if_neg (by simpa using hz)] at hT
        by_cases hv0 : valZ S.L (otherW (clA S.cs id) wrong) = 0
        · rw [if_pos hv0] at hT
          rw [hT]
          refine ⟨fun _ => ⟨inv_set hnx hon.1 hon.2 hv0 (by simp [nextF]; exact hidl) (by rw [hncl]; exact hpr) (by rw [hncl]; exact hom) (by rw [hncl]; exact hothers hz), fun _ => ?_, hw⟩, fun e => (by simp at e), fun e => (by simp at e)⟩
          show Tr (S.L ++ [_]) (otherW (clA (nextF S id).cs id) wrong)
          rw [hncl]
          exact ⟨_, List.mem_append_right _ (List.mem_singleton.2 rfl), rfl⟩
        · rw [if_neg hv0] at hT
          rw [hT]
          refine ⟨fun e => (by simp at e), fun e => (by simp at e), fun _ => ⟨hnx, ⟨id, rfl, by simp [nextF]; exact hidl, by rw [hncl]; exact hpr, ?_⟩, hw⟩⟩
          rw [hncl]
          intro y hy
          by_cases e : y = otherW (clA S.cs id) wrong
          · rw [e]
            show Tr S.L _
            rw [← val_neg h.pre hon.1]
            unfold valZ at hv0 hv1 ⊢
            split at hv0 <;> simp_all
          · exact hothers hz y hy e
      · rw [if_pos hz] at hT
        rw [hT]
        refine ⟨fun e => (by simp at e), fun _ => ?_, fun e => (by simp at e)⟩
        rcases anoL_in hs hidl with e | ⟨hal, hfit⟩
        · exact absurd e hz
        · unfold fitB at hfit
          simp only [Bool.and_eq_true, decide_eq_true_eq] at hfit
          obtain ⟨⟨hf0, hf1⟩, hf2⟩ := hfit
          generalize anoL S id = l at *
          have hol : otherW (clA S.cs id) wrong ≠ l := by
            rcases hoc with ⟨_, e⟩ | ⟨_, e⟩ <;> rw [e] <;> intro q <;> first | exact hf0 q.symm | exact hf1 q.symm
          have hlw : l ≠ wrong := by rcases hwr with e | e <;> rw [e] <;> assumption
          have hpo : plc (otherW (clA S.cs id) wrong) ≠ p := fun e => by
            rw [hp] at e
            have := plc_inj hon.1 hw1 e
            rcases hoc with ⟨q1, q2⟩ | ⟨q1, q2⟩
            · exact i3b (by rw [← q1, ← this, q2])
            · exact i3b (by rw [← q1, ← this, q2])
          have hpl2 : plc l ≠ p := fun e => hlw (plc_inj (hls l hal).1 hw1 (by rw [e, hp]))
          have hplo : plc l ≠ plc (otherW (clA S.cs id) wrong) := fun e => hol (plc_inj (hls l hal).1 hon.1 e).symm
          have p1 : plc l < S.wa.length := plc_lt (hls l hal) (by omega)
          have hnot : ∀ r, r ≠ plc (clA S.cs id).w0 → r ≠ plc (clA S.cs id).w1 → id ∉ waA S.wa r := fun r h0 h1 hm => by
            rcases (h.i3 r id hm hpr).1 with q | q
            · exact h0 q
            · exact h1 q
          have hpc : (plc (clA S.cs id).w0 = p ∧ plc (clA S.cs id).w1 = plc (otherW (clA S.cs id) wrong)) ∨ (plc (clA S.cs id).w1 = p ∧ plc (clA S.cs id).w0 = plc (otherW (clA S.cs id) wrong)) := by
            rcases hoc with ⟨q1, q2⟩ | ⟨q1, q2⟩
            · left; rw [q2, hp, q1]; exact ⟨rfl, rfl⟩
            · right; rw [q2, hp, q1]; exact ⟨rfl, rfl⟩
          have hno : ∀ r, r ≠ p → r ≠ plc (otherW (clA S.cs id) wrong) → id ∉ waA S.wa r := fun r h0 h1 => by
            rcases hpc with ⟨q1, q2⟩ | ⟨q1, q2⟩
            · exact hnot r (fun e => h0 (e.trans q1)) (fun e => h1 (e.trans q2))
            · exact hnot r (fun e => h1 (e.trans q2)) (fun e => h0 (e.trans q1))
          have hino : id ∈ waA S.wa (plc (otherW (clA S.cs id) wrong)) := by
            rcases hpc with ⟨q1, q2⟩ | ⟨q1, q2⟩
            · rw [← q2]; exact i3f
            · rw [← q2]; exact i3e
          have hnd := h.i2 p
          rw [hw] at hnd
          have hnab : id ∉ a ++ b := fun hm => by
            rw [List.nodup_append] at hnd
            rcases List.mem_append.1 hm with q | q
            · exact hnd.2.2 id q id (by simp) rfl
            · exact (List.nodup_cons.1 hnd.2.1).1 q
          have hwv : ∀ r, waA ((S.wa.set (plc l) (waA S.wa (plc l) ++ [id])).set p (a ++ b)) r = if r = p then a ++ b else if r = plc l then waA S.wa (plc l) ++ [id] else waA S.wa r := fun r => by
            rw [waA_set (by simpa using hpl), waA_set p1]
          have hncs : (nextF S id).cs.length = S.cs.length := by simp [nextF]
          have hsf : Sf (setWa (watchF (rewatch (nextF S id) id (otherW (clA S.cs id) wrong) l) id l) p (a ++ b)) (K + 1) := by
            have h1 := rewatch_sf (nextF_sf hs hidl) (id := id) (by rw [hncs]; exact hidl) (x := otherW (clA S.cs id) wrong) (y := l) (.inr (by rw [hncl]; exact hom)) (.inr (by rw [hncl]; exact hal))
            have h2 := watchF_sf h1 (id := id) (by simp [rewatch, nextF]; exact hidl) (l := l) p1
            refine setWa_sf h2 (by simp [watchF, rewatch, nextF]; exact hpl) (fun i hi => ?_) ?_
            · show i < ((nextF S id).cs.set id _).length
              simp only [List.length_set, hncs]
              refine hs.wa p hpl i ?_
              rw [hw]
              rcases List.mem_append.1 hi with q | q
              · exact List.mem_append_left _ q
              · exact List.mem_append_right _ (List.mem_cons_of_mem _ q)
            · have := hs.wn p hpl
              rw [hw] at this
              simp only [List.length_append, List.length_cons] at this ⊢
              omega
          have hid4 : id ∉ S.lo ++ S.le.flatMap Prod.snd := fun hm => h.i4 id hm p hmem
          have key := inv_watch hnx (id := id) (by rw [hncs]; exact hidl) (by rw [hncl]; exact hpr) (a := otherW (clA S.cs id) wrong) (b := l) hol (by rw [hncl]; exact hom) (by rw [hncl]; exact hal) (fun k hk j x hj hx => ⟨fun e => ?_, fun e => ?_⟩) (wa' := (S.wa.set (plc l) (waA S.wa (plc l) ++ [id])).set p (a ++ b)) (lo' := S.lo) (fun r => ?_) (fun r i hi => ?_) (fun r => ?_) (fun i => ?_) h.i1 (fun e => hid4 (List.mem_append_right _ e)) ⟨K + 1, hsf⟩
          · exact key
          · obtain ⟨f0, f1⟩ := h.i6 p id hmem hpr k hk j x hj hx
            have : Tr S.L wrong := by
              rcases hoc with ⟨q1, q2⟩ | ⟨q1, q2⟩
              · obtain ⟨y, hy, hyl, _⟩ := f1 (by rw [e, q2])
                exact ⟨y, hy, by rw [hyl, q1]⟩
              · obtain ⟨y, hy, hyl, _⟩ := f0 (by rw [e, q2])
                exact ⟨y, hy, by rw [hyl, q1]⟩
            exact tr_both h.pre hw1 this hfa
          · exact hf2 ((val_neg h.pre (hls l hal).1).2 ⟨x, List.mem_of_getElem? hx, e⟩)
          · rw [hwv]
            split
            · exact hnd.sublist ((List.sublist_cons_self id b).append_left a)
            · split
              · rw [List.nodup_append]
                exact ⟨h.i2 _, by simp, fun u hu v hv e => by
                  have : v = id := by simpa using hv
                  subst this; subst e; exact hno (plc l) hpl2 hplo hu⟩
              · exact h.i2 r
          · rw [hwv]
            show _ ↔ i ∈ waA S.wa r
            split
            · rename_i e; subst e; rw [hw]; simp [hi]
            · split
              · rename_i e; rw [e, List.mem_append]; simp [hi]
              · exact Iff.rfl
          · rw [hwv]
            split
            · rename_i e
              subst e
              exact ⟨fun q => absurd q hnab, fun q => by rcases q with q | q; exact absurd q.symm hpo; exact absurd q.symm hpl2⟩
            · split
              · rename_i e; simp [e]
              · rename_i e1 e2
                constructor
                · intro q
                  by_cases e3 : r = plc (otherW (clA S.cs id) wrong)
                  · exact .inl e3
                  · exact absurd q (hno r e1 e3)
                · rintro (q | q)
                  · rw [q]; exact hino
                  · exact absurd q e2
          · exact ⟨fun q => ⟨q, fun e => hid4 (List.mem_append_left _ (e ▸ q))⟩, fun q => q.1⟩
end
end Go.Proofs.Ytjhopjokllkipaa
