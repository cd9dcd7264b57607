/- What an engine says behind a Propagate. No program. -/
import Derived.Test.YtjhopjokllkipaaEngV
namespace Go.Proofs.Ytjhopjokllkipaa
open LitM TrailM EngM

theorem setWa_at {S : Eng} {p : Nat} (hp : p < S.wa.length) (X : List Nat) : waA (setWa S p X).wa p = X := by
  unfold setWa; simp only; rw [waA_set hp, if_pos rfl]
/-- Those that are told, one behind the other. -/
theorem inv_vis {p : Nat} {wrong : Int} (hw1 : LitM.one wrong = true) (hp : p = plc wrong) : ∀ (told rest : List Nat) (S : Eng), Inv (setWa S p (rest ++ told)) → p < S.wa.length → Tr S.L (-wrong) → S.wa.length = 2 * (S.n + 1) →
    (∀ i ∈ rest, (clA S.cs i).pr = true → Tr S.L (otherW (clA S.cs i) wrong)) →
    Inv (visF p wrong told rest S).1 ∧ Ker S (visF p wrong told rest S).1 ∧ (visF p wrong told rest S).1.vi = S.vi ∧ (visF p wrong told rest S).1.lo = S.lo ∧
      (((visF p wrong told rest S).2 = -1 ∧ ∀ i ∈ waA (visF p wrong told rest S).1.wa p, (clA (visF p wrong told rest S).1.cs i).pr = true → Tr (visF p wrong told rest S).1.L (otherW (clA (visF p wrong told rest S).1.cs i) wrong)) ∨ Conf (visF p wrong told rest S).1 (visF p wrong told rest S).2)
  | [], rest, S, h, hpl, hfa, hwa, hr => by
    rw [List.append_nil] at h
    show Inv (setWa S p rest) ∧ Ker S (setWa S p rest) ∧ S.vi = S.vi ∧ S.lo = S.lo ∧ (((-1 : Int) = -1 ∧ ∀ i ∈ waA (setWa S p rest).wa p, (clA S.cs i).pr = true → Tr S.L (otherW (clA S.cs i) wrong)) ∨ Conf (setWa S p rest) (-1))
    refine ⟨h, ker_wa S p rest, rfl, rfl, .inl ⟨rfl, ?_⟩⟩
    rw [setWa_at hpl]; exact hr
  | id :: r, rest, S, h, hpl, hfa, hwa, hr => by
    have hM : waA (setWa S p (rest ++ id :: r)).wa p = rest ++ id :: r := setWa_at hpl _
    have hML : (setWa S p (rest ++ id :: r)).wa.length = S.wa.length := by simp [setWa]
    obtain ⟨K, hs⟩ := h.sf
    have hidl : id < S.cs.length := hs.wa p (by rw [hML]; exact hpl) id (by rw [hM]; simp)
    have hmem : id ∈ waA (setWa S p (rest ++ id :: r)).wa p := by rw [hM]; simp
    have hls := h.ls (i := id) hidl
    have hne : (clA S.cs id).pr = true → anoL S id ≠ 0 → plc (anoL S id) ≠ p := fun hpr h0 e => by
      obtain ⟨i3a, i3b, i3c, i3d, _, _⟩ := h.i3 p id hmem hpr
      have hwr : wrong = (clA S.cs id).w0 ∨ wrong = (clA S.cs id).w1 := by
        rw [hp] at i3a
        rcases i3a with q | q
        · exact .inl (plc_inj hw1 (hls _ i3c).1 q)
        · exact .inr (plc_inj hw1 (hls _ i3d).1 q)
      rcases anoL_in hs (id := id) hidl with q | ⟨q1, q2⟩
      · exact h0 q
      · have q1 : anoL S id ∈ (clA S.cs id).ls := q1
        have q2 : fitB S.L (clA S.cs id) (anoL S id) = true := q2
        have := plc_inj (hls _ q1).1 hw1 (by rw [e, hp])
        unfold fitB at q2
        simp only [Bool.and_eq_true, decide_eq_true_eq] at q2
        rcases hwr with x | x
        · exact q2.1.1 (this.trans x)
        · exact q2.1.2 (this.trans x)
    have hT := tellF_setWa (X := rest ++ id :: r) (wrong := wrong) hpl hne
    obtain ⟨t0, t1, t2⟩ := inv_tell h hM hw1 hp hfa (by rw [hML]; exact hwa)
    rw [hT] at t0 t1 t2
    have hker := ker_tell (S := S) hidl wrong
    have hkep := tellF_kep S id wrong
    have hpT : p < (tellF S id wrong).1.wa.length := by rw [hkep.wa]; exact hpl
    have hwT : (tellF S id wrong).1.wa.length = 2 * ((tellF S id wrong).1.n + 1) := by rw [hkep.wa, hkep.n]; exact hwa
    have hfT : Tr (tellF S id wrong).1.L (-wrong) := hker.tr hfa
    have hnd : (rest ++ id :: r).Nodup := by rw [← hM]; exact h.i2 p
    have hrT : ∀ i ∈ rest, (clA (tellF S id wrong).1.cs i).pr = true → Tr (tellF S id wrong).1.L (otherW (clA (tellF S id wrong).1.cs i) wrong) := fun i hi hpr => by
      have hne : i ≠ id := fun e => by
        subst e
        rw [List.nodup_append] at hnd
        exact hnd.2.2 i hi i (by simp) rfl
      rw [tellF_other hidl hne] at hpr ⊢
      exact hker.tr (hr i hi hpr)
    rw [visF_cons]
    rcases tellF_res S id wrong with e | e | e
    · rw [if_pos e]
      obtain ⟨a1, a2, _⟩ := t0 e
      have := inv_vis hw1 hp r (rest ++ [id]) (tellF S id wrong).1 (by rw [List.append_assoc]; exact a1) hpT hfT hwT (fun i hi hpr => by
        rcases List.mem_append.1 hi with q | q
        · exact hrT i q hpr
        · have : i = id := by simpa using q
          subst this
          exact a2 (show (clA S.cs i).pr = true by rw [← (hker.cl i).1]; exact hpr))
      obtain ⟨b1, b2, b3, b4, b5⟩ := this
      exact ⟨b1, hker.trans b2, b3.trans hkep.vi, b4.trans hkep.lo, b5⟩
    · rw [if_neg (by omega), if_neg (by omega)]
      have a1 := t1 e
      rw [setWa_setWa] at a1
      have := inv_vis hw1 hp r rest (tellF S id wrong).1 a1 hpT hfT hwT hrT
      obtain ⟨b1, b2, b3, b4, b5⟩ := this
      exact ⟨b1, hker.trans b2, b3.trans hkep.vi, b4.trans hkep.lo, b5⟩
    · rw [if_neg (by omega), if_pos e]
      obtain ⟨a1, a2, _⟩ := t2 e
      exact ⟨a1, hker.trans (ker_wa _ _ _), hkep.vi, hkep.lo, .inr a2⟩
section
variable {S : Eng}
/-- One literal more is visited. -/
theorem inv_vi (h : Inv S) {x : Ent} (hx : S.L[S.vi]? = some x) (hall : ∀ i ∈ waA S.wa (plc (-x.l)), (clA S.cs i).pr = true → Tr S.L (otherW (clA S.cs i) (-x.l))) : Inv { S with vi := S.vi + 1 } := by
  obtain ⟨K, hs⟩ := h.sf
  have hlt : S.vi < S.L.length := (List.getElem?_eq_some_iff.1 hx).1
  have hone := (h.pre.one x (List.mem_of_getElem? hx)).1
  have hvk : ∀ k, k < S.le.length → vk { S with vi := S.vi + 1 } k = vk S k := fun k hk => by unfold vk; rw [if_pos hk, if_pos hk]
  have hvd : ∀ k, ¬ k < S.le.length → vk { S with vi := S.vi + 1 } k = S.vi + 1 := fun k hk => by unfold vk; rw [if_neg hk]
  refine ⟨⟨K, ⟨hs.n, hs.cl, hs.cn, hs.lo, hs.ln, hs.wa, hs.wn, hs.wl, hs.le, hs.en, by show S.vi + 1 ≤ S.L.length; omega, hs.ok⟩⟩, h.nd, h.i1, h.i2, h.i3, h.i4, h.i5, fun p i hi hpi k hk j y hj hy => ?_, fun k hk => ?_, h.i8⟩
  · have hk : k ≤ S.le.length := hk
    by_cases hkd : k < S.le.length
    · rw [hvk k hkd] at hj; exact h.i6 p i hi hpi k hk j y hj hy
    · rw [hvd k hkd] at hj
      by_cases hjv : j < S.vi
      · exact h.i6 p i hi hpi k hk j y (by unfold vk; rw [if_neg hkd]; exact hjv) hy
      · have hjv : j = S.vi := by omega
        subst hjv
        have hy : S.L[S.vi]? = some y := hy
        rw [hx] at hy
        injection hy with hy
        subst hy
        obtain ⟨i3a, i3b, i3c, i3d, i3e, i3f⟩ := h.i3 p i hi hpi
        have hlv : ∀ z ∈ S.L, z.lv ≤ k := fun z hz => Nat.le_trans (h.pre.one z hz).2.2 (by omega)
        refine ⟨fun e => ?_, fun e => ?_⟩
        · have hw : -x.l = (clA S.cs i).w0 := by rw [e]; exact not_not
          obtain ⟨z, hz, q⟩ := hall i (by rw [hw]; exact i3e) hpi
          have : otherW (clA S.cs i) (-x.l) = (clA S.cs i).w1 := by unfold otherW; rw [if_pos hw.symm]
          exact ⟨z, hz, q.trans this, hlv z hz⟩
        · have hw : -x.l = (clA S.cs i).w1 := by rw [e]; exact not_not
          obtain ⟨z, hz, q⟩ := hall i (by rw [hw]; exact i3f) hpi
          have : otherW (clA S.cs i) (-x.l) = (clA S.cs i).w0 := by unfold otherW; rw [if_neg (fun q => i3b (q.trans hw))]
          exact ⟨z, hz, q.trans this, hlv z hz⟩
  · have hk : k < S.le.length := hk
    have := h.i7 k hk
    rw [hvk k hk]
    refine ⟨?_, this.2⟩
    by_cases hkd : k + 1 < S.le.length
    · rw [hvk _ hkd]; exact this.1
    · rw [hvd _ hkd]
      have h1 := this.1
      unfold vk at h1 ⊢
      rw [if_pos hk] at h1 ⊢
      rw [if_neg hkd] at h1
      omega
theorem litA_at {L : List Ent} {j : Nat} {x : Ent} (hx : L[j]? = some x) : litA L j = x.l := by
  unfold litA
  rw [List.getD, List.getElem?_map, hx]; rfl
theorem not_one {l : Int} (h : LitM.one l = true) : notZ l = -l := by unfold notZ; rw [if_pos h]
theorem inv_visit (h : Inv S) (hwa : S.wa.length = 2 * (S.n + 1)) {x : Ent} (hx : S.L[S.vi]? = some x) :
    Inv (visitF S x.l).1 ∧ Ker S (visitF S x.l).1 ∧ (visitF S x.l).1.vi = S.vi ∧ (visitF S x.l).1.lo = S.lo ∧ (((visitF S x.l).2 = -1 ∧ Inv { (visitF S x.l).1 with vi := S.vi + 1 }) ∨ Conf (visitF S x.l).1 (visitF S x.l).2) := by
  have hm := List.mem_of_getElem? hx
  have hone := (h.pre.one x hm).1
  have hn1 : LitM.one (-x.l) = true := one_neg hone
  have hp : plc (-x.l) < S.wa.length := plc_lt ⟨hn1, by rw [var_neg hone]; exact (h.pre.one x hm).2.1⟩ (by omega)
  have hS : setWa S (plc (-x.l)) ([] ++ waA S.wa (plc (-x.l))) = S := by
    rw [List.nil_append]; unfold setWa; rw [waA_self hp]
  have key := inv_vis hn1 rfl (waA S.wa (plc (-x.l))) [] S (by rw [hS]; exact h) hp ⟨x, hm, by rw [not_not]⟩ hwa (fun i hi => absurd hi List.not_mem_nil)
  have e : visitF S x.l = visF (plc (-x.l)) (-x.l) (waA S.wa (plc (-x.l))) [] S := by unfold visitF; rw [not_one hone]
  rw [e]
  obtain ⟨a1, a2, a3, a4, a5⟩ := key
  refine ⟨a1, a2, a3, a4, ?_⟩
  rcases a5 with ⟨b1, b2⟩ | b
  · refine .inl ⟨b1, ?_⟩
    have hx' : (visF (plc (-x.l)) (-x.l) (waA S.wa (plc (-x.l))) [] S).1.L[(visF (plc (-x.l)) (-x.l) (waA S.wa (plc (-x.l))) [] S).1.vi]? = some x := by
      obtain ⟨M, hM, _⟩ := a2.L
      rw [a3, hM, List.getElem?_append_left (List.getElem?_eq_some_iff.1 hx).1]; exact hx
    have := inv_vi a1 hx' b2
    rw [a3] at this
    exact this
  · exact .inr b
theorem ker_vi (S : Eng) (v : Nat) : Ker S { S with vi := v } := ⟨rfl, rfl, fun _ => ⟨rfl, rfl⟩, rfl, rfl, [], by simp, by simp⟩
theorem inv_go : ∀ (k : Nat) (S : Eng), Inv S → S.wa.length = 2 * (S.n + 1) → S.n ≤ k + S.vi →
    Inv (goF k S).1 ∧ Ker S (goF k S).1 ∧ (goF k S).1.lo = S.lo ∧ (((goF k S).2 = -1 ∧ (goF k S).1.vi = (goF k S).1.L.length) ∨ Conf (goF k S).1 (goF k S).2)
  | 0, S, h, _, hk => by
    refine ⟨h, Ker.refl S, rfl, .inl ⟨rfl, ?_⟩⟩
    show S.vi = S.L.length
    have := h.vi_le
    have := h.ok.len
    omega
  | k + 1, S, h, hwa, hk => by
    unfold goF
    by_cases hlt : S.vi < S.L.length
    · rw [if_pos hlt]
      have hx : S.L[S.vi]? = some S.L[S.vi] := List.getElem?_eq_getElem hlt
      rw [litA_at hx]
      obtain ⟨a1, a2, a3, a4, a5⟩ := inv_visit h hwa hx
      rcases a5 with ⟨b1, b2⟩ | b
      · rw [if_pos b1]
        have := inv_go k { (visitF S S.L[S.vi].l).1 with vi := S.vi + 1 } b2 (by show (visitF S S.L[S.vi].l).1.wa.length = 2 * ((visitF S S.L[S.vi].l).1.n + 1); rw [a2.wa, a2.n]; exact hwa) (by show (visitF S S.L[S.vi].l).1.n ≤ k + (S.vi + 1); rw [a2.n]; omega)
        obtain ⟨c1, c2, c3, c4⟩ := this
        exact ⟨c1, (a2.trans (ker_vi _ _)).trans c2, c3.trans a4, c4⟩
      · have hne : ¬ (visitF S S.L[S.vi].l).2 = -1 := by
          obtain ⟨id, e, _⟩ := b
          rw [e]; omega
        rw [if_neg hne]
        exact ⟨a1, a2, a4, .inr b⟩
    · rw [if_neg hlt]
      have := h.vi_le
      exact ⟨h, Ker.refl S, rfl, .inl ⟨rfl, by show S.vi = S.L.length; omega⟩⟩
/-- Behind a Propagate. -/
theorem inv_prop (h : Inv S) : Inv (propF S).1 ∧ Ker (roomF S) (propF S).1 ∧ (((propF S).2 = -1 ∧ (propF S).1.vi = (propF S).1.L.length ∧ (propF S).1.lo = []) ∨ Conf (propF S).1 (propF S).2) := by
  have hr := inv_room h
  have hrl := room_len h
  obtain ⟨a1, a2, a3, a4⟩ := inv_sett S.lo (roomF S) hr rfl hrl
  unfold propF
  rcases a4 with ⟨b1, b2⟩ | b
  · rw [if_pos b1]
    have hn : (settF S.lo (roomF S)).1.n = S.n := a2.n
    obtain ⟨c1, c2, c3, c4⟩ := inv_go (S.n + 1) (settF S.lo (roomF S)).1 a1 (by rw [a2.wa, a2.n]; exact hrl) (by rw [hn]; omega)
    refine ⟨c1, a2.trans c2, ?_⟩
    rcases c4 with ⟨d1, d2⟩ | d
    · exact .inl ⟨d1, d2, c3.trans b2⟩
    · exact .inr d
  · have hne : ¬ (settF S.lo (roomF S)).2 = -1 := by
      obtain ⟨id, e, _⟩ := b
      rw [e]; omega
    rw [if_neg hne]
    exact ⟨a1, a2, .inr b⟩
/-- Nothing is open any more. -/
theorem prop_done (h : Inv S) (hvi : S.vi = S.L.length) (hlo : S.lo = []) {i : Nat} (hi : i < S.cs.length) (hp : (clA S.cs i).pr = true) (hb : bothB (clA S.cs i).ls = false) :
    (∃ y ∈ (clA S.cs i).ls, Tr S.L y) ∨ ∃ a b, a ∈ (clA S.cs i).ls ∧ b ∈ (clA S.cs i).ls ∧ a ≠ b ∧ ¬ Tr S.L a ∧ ¬ Tr S.L (-a) ∧ ¬ Tr S.L b ∧ ¬ Tr S.L (-b) := by
  rcases h.i5 i hi hp hb with e | ⟨k, _, _, x, hx, hxl, _⟩ | ⟨x, hx, hxl, _⟩ | ⟨e0, e1⟩
  · rw [hlo] at e; cases e
  · exact .inl ⟨x.l, hxl, x, hx, rfl⟩
  · exact .inl ⟨x.l, hxl, x, hx, rfl⟩
  · obtain ⟨_, i3b, i3c, i3d, _, _⟩ := h.i3 _ i e0 hp
    by_cases t0 : Tr S.L (clA S.cs i).w0
    · exact .inl ⟨_, i3c, t0⟩
    · by_cases t1 : Tr S.L (clA S.cs i).w1
      · exact .inl ⟨_, i3d, t1⟩
      · have hvd : vk S S.le.length = S.L.length := by unfold vk; rw [if_neg (by omega)]; exact hvi
        refine .inr ⟨_, _, i3c, i3d, i3b, t0, ?_, t1, ?_⟩
        · rintro ⟨x, hx, e⟩
          obtain ⟨j, hj, rfl⟩ := List.getElem_of_mem hx
          obtain ⟨f0, _⟩ := h.i6 _ i e0 hp S.le.length (Nat.le_refl _) j _ (by rw [hvd]; exact hj) (List.getElem?_eq_getElem hj)
          obtain ⟨y, hy, q, _⟩ := f0 e
          exact t1 ⟨y, hy, q⟩
        · rintro ⟨x, hx, e⟩
          obtain ⟨j, hj, rfl⟩ := List.getElem_of_mem hx
          obtain ⟨_, f1⟩ := h.i6 _ i e0 hp S.le.length (Nat.le_refl _) j _ (by rw [hvd]; exact hj) (List.getElem?_eq_getElem hj)
          obtain ⟨y, hy, q, _⟩ := f1 e
          exact t0 ⟨y, hy, q⟩
end
end Go.Proofs.Ytjhopjokllkipaa
