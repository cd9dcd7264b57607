/- What becomes of an engine's memory by a step: a row that grew, a cell that was written, the trail that changed. -/
import Derived.Test.YtjhopjokllkipaaEngQ
namespace Go.Proofs.Ytjhopjokllkipaa
open Go.RowKit LitM TrailM EngM

/-- A block's owner is told. -/
def relab (own : Nat → Owner) (g : Nat) (o : Owner) : Nat → Owner := fun k => if k = g then o else own k
theorem relab_at (own : Nat → Owner) (g : Nat) (o : Owner) : relab own g o g = o := by simp [relab]
theorem relab_old {own : Nat → Owner} {g : Nat} {o : Owner} {k : Nat} (h : own g = o ∨ k ≠ g) : relab own g o k = own k := by
  unfold relab
  by_cases e : k = g
  · rw [if_pos e]
    rcases h with h | h
    · rw [e, h]
    · exact absurd e h
  · rw [if_neg e]
section
variable {w w' : World} {b d : Nat} {q : Pm} {S : Eng} {O : Owner → Prop} {own' : Nat → Owner}
theorem E6.chg (h : E6 w b q S d) (hk : Kf (fun k => O (q.own k)) w w') : Chg O q.own q.own w w' := ⟨hk, fun _ _ => rfl, fun k e => h.fr k (Nat.le_trans hk.size e)⟩
theorem E6.chg_new (h : E6 w b q S d) {g : Nat} {o : Owner} (hk : Kf (fun k => O (q.own k)) w w') (hg : q.own g = o ∨ w.heap.size ≤ g) (hl : g < w'.heap.size) : Chg O q.own (relab q.own g o) w w' :=
  ⟨hk, fun k hk' => relab_old (hg.imp id fun e => by omega), fun k e => by
    have := hk.size
    rw [relab_old (.inr (by omega))]; exact h.fr k (by omega)⟩
theorem E6.head_kept (h : E6 w b q S d) (hc : Chg O q.own own' w w') (ho : ¬ O .eng) : w'.heap[b]? = some (.cells (headV q S) 37 (0, 0)) := by
  rw [hc.kf.block b h.lt (fun e => ho (by rw [h.ob] at e; exact e))]; exact h.head
theorem E6.ob_kept (h : E6 w b q S d) (hc : Chg O q.own own' w w') : own' b = .eng := by rw [hc.old b h.lt]; exact h.ob
theorem E6.tr_kept (h : E6 w b q S d) (hc : Chg O q.own own' w w') (ho : ¬ O .trail) : ∃ F, TrailAt w' q.bt F S.n d S.L ∧ ∀ k, F k → own' k = .trail := by
  obtain ⟨F, hT, hF⟩ := h.tr
  exact ⟨F, hT.kept hc.kf (fun k hk e => ho (by rw [hF k hk] at e; exact e)), fun k hk => by rw [hc.old k (hT.foot k hk)]; exact hF k hk⟩
theorem Chg.ext (hc : Chg O q.own own' w w') (ho : ¬ O .no) {q' : Pm} (h1 : q'.own = own') (h2 : q'.bt = q.bt) : Ext q q' w w' :=
  ⟨fun k hk => by rw [h1]; exact hc.old k hk, hc.kf.mono fun x hx => .inl (fun e => ho (by rw [e] at hx; exact hx)), h2⟩

/-- A call of the trail's. -/
theorem E6.trailTo (h : E6 w b q S d) {F : Nat → Prop} (hF : ∀ k, F k → q.own k = .trail) {d' : Nat} {L' : List Ent} (hT : TrailTo F w w' q.bt S.n d' L') :
    ∃ own', E6 w' b { q with own := own' } { S with L := L' } d' ∧ Ext q { q with own := own' } w w' := by
  obtain ⟨F', hT', hN, hK⟩ := hT
  have hK' : Kf (fun k => q.own k = .trail) w w' := hK.mono fun x hx => .inl (hF x hx)
  classical
  have hc : Chg (fun o => o = .trail) q.own (fun k => if F' k then .trail else q.own k) w w' := ⟨hK', fun k hk => by
    by_cases e : F' k
    · simp only [if_pos e]
      rcases hN k e with x | x
      · exact (hF k x).symm
      · omega
    · simp only [if_neg e], fun k hk => by
    have hn : ¬ F' k := fun e => by have := hT'.foot k e; omega
    simp only [if_neg hn]; exact h.fr k (Nat.le_trans hK.size hk)⟩
  refine ⟨fun k => if F' k then .trail else q.own k, ⟨h.head_kept hc (by simp), h.ob_kept hc, ⟨F', hT', fun k hk => by simp only [if_pos hk]⟩, h.cl.kept hc (by simp), fun i hi => (h.lc i hi).kept hc (by simp), h.lo.kept hc (by simp), h.wa.kept hc (by simp), fun p hp => (h.wb p hp).kept hc (by simp), h.le.kept hc (by simp), fun k hk => (h.lb k hk).kept hc (by simp), hc.fr⟩, hc.ext (by simp) rfl rfl⟩

/-- A clause's marks are written: its literals stay. -/
theorem E6.clsTo (h : E6 w b q S d) (hk : Kf (fun k => q.own k = .cls) w w') {cs' : List Cl} (hl : cs'.length = S.cs.length) (hls : ∀ i, (clA cs' i).ls = (clA S.cs i).ls)
    (hr : SlV 71 5 w' q.Ac S.cs.length q.cc (clC cs' q.Lc)) : E6 w' b q { S with cs := cs' } d ∧ Ext q q w w' := by
  have hc : Chg (fun o => o = .cls) q.own q.own w w' := h.chg hk
  refine ⟨⟨?_, h.ob, h.tr_kept hc (by simp), ?_, fun i hi => ?_, h.lo.kept hc (by simp), h.wa.kept hc (by simp), fun p hp => (h.wb p hp).kept hc (by simp), h.le.kept hc (by simp), fun k hk => (h.lb k hk).kept hc (by simp), hc.fr⟩, hc.ext (by simp) rfl rfl⟩
  · have := h.head_kept hc (by simp)
    unfold headV at *
    rw [this]; simp only [hl]
  · rw [show ({ S with cs := cs' } : Eng).cs.length = S.cs.length from hl]; exact ⟨hr, h.cl.2⟩
  · show Part w' q.own (.lits i) _ 1 _ (clA cs' i).ls.length _ (lsC (clA cs' i).ls)
    rw [hls i]; exact (h.lc i (by rw [← hl]; exact hi)).kept hc (by simp)
theorem clA_set {cs : List Cl} {i : Nat} (hi : i < cs.length) (c : Cl) (k : Nat) : clA (cs.set i c) k = if k = i then c else clA cs k := by
  unfold clA
  rw [List.getD, List.getD, List.getElem?_set]
  by_cases e : i = k
  · subst e; rw [if_pos rfl, if_pos rfl, if_pos hi]; rfl
  · rw [if_neg e, if_neg (fun x => e x.symm)]
theorem waA_set {wa : List (List Nat)} {i : Nat} (hi : i < wa.length) (c : List Nat) (k : Nat) : waA (wa.set i c) k = if k = i then c else waA wa k := by
  unfold waA
  rw [List.getD, List.getD, List.getElem?_set]
  by_cases e : i = k
  · subst e; rw [if_pos rfl, if_pos rfl, if_pos hi]; rfl
  · rw [if_neg e, if_neg (fun x => e x.symm)]
theorem leA_set {le : List (Nat × List Nat)} {i : Nat} (hi : i < le.length) (c : Nat × List Nat) (k : Nat) : leA (le.set i c) k = if k = i then c else leA le k := by
  unfold leA
  rw [List.getD, List.getD, List.getElem?_set]
  by_cases e : i = k
  · subst e; rw [if_pos rfl, if_pos rfl, if_pos hi]; rfl
  · rw [if_neg e, if_neg (fun x => e x.symm)]
/-- One of a clause's cells: which. -/
theorem E6.clsRow (h : E6 w b q S d) {id : Nat} (hi : id < S.cs.length) : ∃ g, q.Ac = some ⟨g, 0, none⟩ ∧ RowV 71 5 w g S.cs.length q.cc (clC S.cs q.Lc) ∧ q.own g = .cls := by
  obtain ⟨g, hg, hr⟩ := h.cl.1.row (by omega)
  exact ⟨g, hg, hr, h.cl.2 g (by rw [hg, onB_some])⟩
theorem clC_set {cs : List Cl} {Lc : Nat → Option Addr × Nat} {id : Nat} (hi : id < cs.length) {c : Cl} (hl : c.ls = (clA cs id).ls) {f : Nat → Value} (h0 : f (id * 5) = .bool c.pr) (h1 : f (id * 5 + 1) = clC cs Lc (id * 5 + 1)) (h2 : f (id * 5 + 2) = .int .i32 c.w0) (h3 : f (id * 5 + 3) = .int .i32 c.w1) (h4 : f (id * 5 + 4) = .int .i64 (c.nx : Nat))
    (ho : ∀ j, j / 5 ≠ id → f j = clC cs Lc j) (j : Nat) : clC (cs.set id c) Lc j = f j := by
  by_cases e : j / 5 = id
  · rcases (show j = id * 5 ∨ j = id * 5 + 1 ∨ j = id * 5 + 2 ∨ j = id * 5 + 3 ∨ j = id * 5 + 4 by omega) with x | x | x | x | x <;> subst x
    · rw [h0, clC0, clA_set hi, if_pos rfl]
    · rw [h1, clC1, clC1, clA_set hi, if_pos rfl, hl]
    · rw [h2, clC2, clA_set hi, if_pos rfl]
    · rw [h3, clC3, clA_set hi, if_pos rfl]
    · rw [h4, clC4, clA_set hi, if_pos rfl]
  · rw [ho j e]
    unfold clC
    rw [clA_set hi, if_neg e]

/-- A place's list grew. -/
theorem E6.pushW (h : E6 w b q S d) {p gw : Nat} (hp : p < S.wa.length) (hA : q.Aw = some ⟨gw, 0, none⟩) {W w2 : World} (hW : Below w.heap.size w W) {g' c' id : Nat} (hr : RowV 3 1 w2 g' ((waA S.wa p).length + 1) c' (natC (waA S.wa p ++ [id])))
    (hg : onB (q.Wb p).1 g' ∨ W.heap.size ≤ g') (hk : Kf (fun k => onB (q.Wb p).1 k) W w2) :
    ∃ own', E6 (w2.setCell ⟨gw, p, none⟩ (.slice (some ⟨g', 0, none⟩) ((waA S.wa p).length + 1) c')) b { q with own := own', Wb := fun k => if k = p then (some ⟨g', 0, none⟩, c') else q.Wb k } { S with wa := S.wa.set p (waA S.wa p ++ [id]) } d ∧
      Ext q { q with own := own', Wb := fun k => if k = p then (some ⟨g', 0, none⟩, c') else q.Wb k } w (w2.setCell ⟨gw, p, none⟩ (.slice (some ⟨g', 0, none⟩) ((waA S.wa p).length + 1) c')) := by
  obtain ⟨hr0, how⟩ := h.wa
  rw [hA] at hr0 how
  have ogw : q.own gw = .wrow := how gw (by rw [onB_some])
  obtain ⟨g0, e0, hrow⟩ := hr0.row (by omega)
  injection e0 with e0
  injection e0 with e0
  subst e0
  have hlw : gw < w.heap.size := hrow.lt
  have hWs := hW.size
  have hks := hk.size
  have hob := (h.wb p hp).2
  have hg' : q.own g' = .wl p ∨ w.heap.size ≤ g' := hg.imp (hob g') (fun e => by omega)
  have K1 : Kf (fun k => q.own k = .wl p ∨ q.own k = .wrow) w w2 :=
    (Kf.of_below hW).trans hk (fun x hx => .inl (.inl (hob x hx)))
  have K2 := K1.set (p := ⟨gw, p, none⟩) (.inl (.inr ogw)) (.slice (some ⟨g', 0, none⟩) ((waA S.wa p).length + 1) c')
  have hne : g' ≠ gw := by
    rintro rfl
    rcases hg' with e | e
    · rw [ogw] at e; cases e
    · omega
  have hc : Chg (fun o => o = .wl p ∨ o = .wrow) q.own (relab q.own g' (.wl p)) w (w2.setCell ⟨gw, p, none⟩ (.slice (some ⟨g', 0, none⟩) ((waA S.wa p).length + 1) c')) :=
    h.chg_new (O := fun o => o = .wl p ∨ o = .wrow) K2 hg' (by simp only [World.setCell, Array.size_modify]; exact hr.lt)
  have hrw : RowV 33 1 w2 gw S.wa.length q.cw (waC S.wa q.Wb) := hrow.same ((hk.block gw (by omega) (fun e => by have := hob gw e; rw [ogw] at this; cases this)).trans (hW.block gw hlw))
  refine ⟨relab q.own g' (.wl p), ⟨?_, h.ob_kept hc, h.tr_kept hc (by simp), h.cl.kept hc (by simp), fun i hi => (h.lc i hi).kept hc (by simp), h.lo.kept hc (by simp), ?_, ?_, h.le.kept hc (by simp), fun k hk => (h.lb k hk).kept hc (by simp), hc.fr⟩, hc.ext (by simp) rfl rfl⟩
  · have := h.head_kept hc (by simp)
    unfold headV at *
    rw [this]; simp
  · refine ⟨?_, fun j hj => ?_⟩
    · show SlV _ 1 _ q.Aw (S.wa.set p _).length q.cw _
      rw [hA, List.length_set]
      refine .inr ⟨gw, rfl, (hrw.set (show p < S.wa.length * 1 by omega) _).congr fun j hj => ?_⟩
      unfold waC
      rw [waA_set hp]
      dsimp only
      by_cases e : j = p
      · subst e; rw [updV_at, if_pos rfl, if_pos rfl]; simp
      · rw [updV_ne _ _ e, if_neg e, if_neg e]
    · show relab q.own g' (.wl p) j = .wrow
      have hj' : onB q.Aw j := hj
      rw [hA, onB_some] at hj'
      have hj' : j = gw := hj'
      subst hj'
      rw [relab_old (.inr (fun e => hne e.symm))]; exact ogw
  · intro k hk'
    have hk' : k < S.wa.length := by simpa using hk'
    show Part _ _ (.wl k) _ 1 (if k = p then _ else _ : Option Addr × Nat).1 (waA (S.wa.set p _) k).length (if k = p then _ else _ : Option Addr × Nat).2 (natC (waA (S.wa.set p _) k))
    rw [waA_set hp]
    by_cases e : k = p
    · subst e
      rw [if_pos rfl, if_pos rfl]
      refine ⟨.inr ⟨g', rfl, ?_⟩, fun j hj => ?_⟩
      · rw [List.length_append]
        exact hr.other (fun e => hne e.symm) _
      · rw [onB_some] at hj
        have hj : j = g' := hj
        subst hj
        exact relab_at _ _ _
    · rw [if_neg e, if_neg e]
      exact (h.wb k hk').kept hc (by simp [e])

/-- A level's list grew. -/
theorem E6.pushE (h : E6 w b q S d) {k ge : Nat} (hk' : k < S.le.length) (hA : q.Ae = some ⟨ge, 0, none⟩) {W w2 : World} (hW : Below w.heap.size w W) {g' c' id : Nat} (hr : RowV 3 1 w2 g' ((leA S.le k).2.length + 1) c' (natC ((leA S.le k).2 ++ [id])))
    (hg : onB (q.Le k).1 g' ∨ W.heap.size ≤ g') (hk : Kf (fun x => onB (q.Le k).1 x) W w2) :
    ∃ own', E6 (w2.setCell ⟨ge, k * 2 + 1, none⟩ (.slice (some ⟨g', 0, none⟩) ((leA S.le k).2.length + 1) c')) b { q with own := own', Le := fun x => if x = k then (some ⟨g', 0, none⟩, c') else q.Le x } { S with le := S.le.set k ((leA S.le k).1, (leA S.le k).2 ++ [id]) } d ∧
      Ext q { q with own := own', Le := fun x => if x = k then (some ⟨g', 0, none⟩, c') else q.Le x } w (w2.setCell ⟨ge, k * 2 + 1, none⟩ (.slice (some ⟨g', 0, none⟩) ((leA S.le k).2.length + 1) c')) := by
  obtain ⟨hr0, how⟩ := h.le
  rw [hA] at hr0 how
  have ogw : q.own ge = .lrow := how ge (by rw [onB_some])
  obtain ⟨g0, e0, hrow⟩ := hr0.row (by omega)
  injection e0 with e0
  injection e0 with e0
  subst e0
  have hlw : ge < w.heap.size := hrow.lt
  have hWs := hW.size
  have hks := hk.size
  have hob := (h.lb k hk').2
  have hg' : q.own g' = .ll k ∨ w.heap.size ≤ g' := hg.imp (hob g') (fun e => by omega)
  have K1 : Kf (fun x => q.own x = .ll k ∨ q.own x = .lrow) w w2 :=
    (Kf.of_below hW).trans hk (fun x hx => .inl (.inl (hob x hx)))
  have K2 := K1.set (p := ⟨ge, k * 2 + 1, none⟩) (.inl (.inr ogw)) (.slice (some ⟨g', 0, none⟩) ((leA S.le k).2.length + 1) c')
  have hne : g' ≠ ge := by
    rintro rfl
    rcases hg' with e | e
    · rw [ogw] at e; cases e
    · omega
  have hc : Chg (fun o => o = .ll k ∨ o = .lrow) q.own (relab q.own g' (.ll k)) w (w2.setCell ⟨ge, k * 2 + 1, none⟩ (.slice (some ⟨g', 0, none⟩) ((leA S.le k).2.length + 1) c')) :=
    h.chg_new (O := fun o => o = .ll k ∨ o = .lrow) K2 hg' (by simp only [World.setCell, Array.size_modify]; exact hr.lt)
  have hrw : RowV 81 2 w2 ge S.le.length q.ce (leC S.le q.Le) := hrow.same ((hk.block ge (by omega) (fun e => by have := hob ge e; rw [ogw] at this; cases this)).trans (hW.block ge hlw))
  refine ⟨relab q.own g' (.ll k), ⟨?_, h.ob_kept hc, h.tr_kept hc (by simp), h.cl.kept hc (by simp), fun i hi => (h.lc i hi).kept hc (by simp), h.lo.kept hc (by simp), h.wa.kept hc (by simp), fun p hp => (h.wb p hp).kept hc (by simp), ?_, ?_, hc.fr⟩, hc.ext (by simp) rfl rfl⟩
  · have := h.head_kept hc (by simp)
    unfold headV at *
    rw [this]; simp
  · refine ⟨?_, fun j hj => ?_⟩
    · show SlV _ 2 _ q.Ae (S.le.set k _).length q.ce _
      rw [hA, List.length_set]
      refine .inr ⟨ge, rfl, (hrw.set (show k * 2 + 1 < S.le.length * 2 by omega) _).congr fun j hj => ?_⟩
      unfold leC
      rw [leA_set hk']
      dsimp only
      by_cases e : j / 2 = k
      · rw [if_pos e, if_pos e]
        by_cases e2 : j % 2 = 0
        · rw [if_pos e2, updV_ne _ _ (by omega), if_pos e2, e]
        · rw [if_neg e2, show j = k * 2 + 1 from by omega, updV_at]; simp
      · rw [if_neg e, if_neg e, updV_ne _ _ (by omega)]
    · show relab q.own g' (.ll k) j = .lrow
      have hj' : onB q.Ae j := hj
      rw [hA, onB_some] at hj'
      have hj' : j = ge := hj'
      subst hj'
      rw [relab_old (.inr (fun e => hne e.symm))]; exact ogw
  · intro x hx
    have hx : x < S.le.length := by simpa using hx
    show Part _ _ (.ll x) _ 1 (if x = k then _ else _ : Option Addr × Nat).1 (leA (S.le.set k _) x).2.length (if x = k then _ else _ : Option Addr × Nat).2 (natC (leA (S.le.set k _) x).2)
    rw [leA_set hk']
    by_cases e : x = k
    · subst e
      rw [if_pos rfl, if_pos rfl]
      refine ⟨.inr ⟨g', rfl, ?_⟩, fun j hj => ?_⟩
      · show RowV _ 1 _ g' ((leA S.le x).2 ++ [id]).length c' _
        rw [List.length_append]
        exact hr.other (fun e => hne e.symm) _
      · rw [onB_some] at hj
        have hj : j = g' := hj
        subst hj
        exact relab_at _ _ _
    · rw [if_neg e, if_neg e]
      exact (h.lb x hx).kept hc (by simp [e])
end
end Go.Proofs.Ytjhopjokllkipaa
