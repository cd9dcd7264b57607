/- The contract of an engine's Add. -/
import Derived.Test.YtkckodpfhlpkgaaGreatEProp
import Derived.Test.YtkckodpfhlpkgaaGreatEHas
import Derived.Deep.RegionWith
namespace Go.Proofs.YtkckodpfhlpkgaaGreat
open Go.RowKit LitM TrailM EngM

theorem info_clause : (Tryz.prog.info? 112).map (fun i => (i.zero, i.size, i.bytes)) = some (some (.agg #[.bool false, .slice none 0 0, .int .i32 0, .int .i32 0, .int .i64 0]), 5, 48) := by kernel_rfl
/-- The cells of a clause that was added. -/
def addC (A2 : Option Addr) (m c2 : Nat) : List Value := [.bool true, .slice A2 m c2, .int .i32 0, .int .i32 0, .int .i64 0]
theorem clA_snoc (cs : List Cl) (c : Cl) (i : Nat) : clA (cs ++ [c]) i = if i < cs.length then clA cs i else if i = cs.length then c else Cl.gone := by
  unfold clA
  by_cases e : i < cs.length
  · rw [if_pos e, List.getD, List.getD, List.getElem?_append_left e]
  · rw [if_neg e, List.getD, List.getElem?_append_right (by omega)]
    by_cases e2 : i = cs.length
    · rw [if_pos e2, e2, Nat.sub_self]; rfl
    · rw [if_neg e2, List.getElem?_eq_none (by simp; omega)]; rfl
theorem clC_snoc {cs : List Cl} {ys : List Int} {m c2 : Nat} (hm : ys.length = m) (A2 : Option Addr) (Lc : Nat → Option Addr × Nat) (j : Nat) (hj : j < (cs.length + 1) * 5) :
    clC (cs ++ [⟨true, ys, 0, 0, 0⟩]) (fun i => if i = cs.length then (A2, c2) else Lc i) j = appV (clC cs Lc) (cs.length * 5) (addC A2 m c2) j := by
  unfold appV
  by_cases e : j < cs.length * 5
  · rw [if_pos e]
    have h5 : j / 5 < cs.length := by omega
    unfold clC
    rw [clA_snoc, if_pos h5]
    simp only
    rw [if_neg (show ¬ j / 5 = cs.length by omega)]
  · rw [if_neg e]
    have h5 : j / 5 = cs.length := by omega
    have hcl : clA (cs ++ [⟨true, ys, 0, 0, 0⟩]) (j / 5) = ⟨true, ys, 0, 0, 0⟩ := by rw [clA_snoc, if_neg (by omega), if_pos h5]
    unfold clC addC
    rw [hcl]
    simp only
    rw [if_pos h5, hm]
    rcases (show j = cs.length * 5 ∨ j = cs.length * 5 + 1 ∨ j = cs.length * 5 + 2 ∨ j = cs.length * 5 + 3 ∨ j = cs.length * 5 + 4 by omega) with q | q | q | q | q <;> subst q
    · rw [if_pos (by omega), Nat.sub_self]; rfl
    · rw [if_neg (by omega), if_pos (by omega), show cs.length * 5 + 1 - cs.length * 5 = 1 from by omega]; rfl
    · rw [if_neg (by omega), if_neg (by omega), if_pos (by omega), show cs.length * 5 + 2 - cs.length * 5 = 2 from by omega]; rfl
    · rw [if_neg (by omega), if_neg (by omega), if_neg (by omega), if_pos (by omega), show cs.length * 5 + 3 - cs.length * 5 = 3 from by omega]; rfl
    · rw [if_neg (by omega), if_neg (by omega), if_neg (by omega), if_neg (by omega), show cs.length * 5 + 4 - cs.length * 5 = 4 from by omega]; rfl
/-- A clause more. -/
theorem E6.pushC {w : World} {b d : Nat} {q : Pm} {S : Eng} (h : E6 w b q S d) {W w4 : World} (hW : Below w.heap.size w W) {ys : List Int} {A2 : Option Addr} {c2 : Nat} (hS : SlV 34 1 W A2 ys.length c2 (lsC ys)) (hon : ∀ k, onB A2 k → w.heap.size ≤ k) {g' c' : Nat}
    (hr : RowV 112 5 w4 g' (S.cs.length + 1) c' (appV (clC S.cs q.Lc) (S.cs.length * 5) (addC A2 ys.length c2))) (hg : onB q.Ac g' ∨ W.heap.size ≤ g') (hk : Kf (fun k => onB q.Ac k) W w4) :
    ∃ q', E6 (w4.setCell ⟨b, 1, none⟩ (.slice (some ⟨g', 0, none⟩) (S.cs.length + 1) c')) b q' { S with cs := S.cs ++ [⟨true, ys, 0, 0, 0⟩] } d ∧ Ext q q' w (w4.setCell ⟨b, 1, none⟩ (.slice (some ⟨g', 0, none⟩) (S.cs.length + 1) c')) := by
  classical
  have hWs := hW.size
  have hks := hk.size
  have hoc := h.cl.2
  have hbl := h.lt
  have hg' : q.own g' = .cls ∨ w.heap.size ≤ g' := hg.imp (hoc g') (fun e => by omega)
  have hA2 : ∀ k, onB A2 k → k < W.heap.size ∧ w.heap.size ≤ k := fun k hk' => ⟨hS.lt k hk', hon k hk'⟩
  have hgA : ¬ onB A2 g' := fun e => by
    have := hA2 g' e
    rcases hg with x | x
    · have h2 := h.cl.1.lt g' x; omega
    · omega
  have hnb : ¬ onB q.Ac b := fun e => by have := hoc b e; rw [h.ob] at this; cases this
  have K1 : Kf (fun k => q.own k = .cls ∨ q.own k = .eng) w w4 := (Kf.of_below hW).trans hk (fun x hx => .inl (.inl (hoc x hx)))
  have K2 := K1.set (p := ⟨b, 1, none⟩) (.inl (.inr h.ob)) (.slice (some ⟨g', 0, none⟩) (S.cs.length + 1) c')
  have hne : g' ≠ b := by
    rintro rfl
    rcases hg' with e | e
    · rw [h.ob] at e; cases e
    · omega
  obtain ⟨own', ho⟩ : ∃ own' : Nat → Owner, own' = fun k => if k = g' then .cls else if onB A2 k then .lits S.cs.length else q.own k := ⟨_, rfl⟩
  have oold : ∀ k, k < w.heap.size → own' k = q.own k := fun k hk' => by
    rw [ho]
    simp only
    by_cases e : k = g'
    · rw [if_pos e]
      rcases hg' with x | x
      · rw [e, x]
      · omega
    · rw [if_neg e, if_neg (fun x => by have := hA2 k x; omega)]
  have hglt : g' < w4.heap.size := hr.lt
  have hc : Chg (fun o => o = .cls ∨ o = .eng) q.own own' w (w4.setCell ⟨b, 1, none⟩ (.slice (some ⟨g', 0, none⟩) (S.cs.length + 1) c')) := ⟨K2, oold, fun k e => by
    have e : w4.heap.size ≤ k := by simpa only [World.setCell, Array.size_modify] using e
    rw [ho]
    simp only
    rw [if_neg (by omega), if_neg (fun x => by have := hA2 k x; omega)]
    exact h.fr k (by omega)⟩
  have hb2 : w4.heap[b]? = w.heap[b]? := (hk.block b (by omega) hnb).trans (hW.block b hbl)
  have hSA : SlV 34 1 (w4.setCell ⟨b, 1, none⟩ (.slice (some ⟨g', 0, none⟩) (S.cs.length + 1) c')) A2 ys.length c2 (lsC ys) := by
    refine SlV.other (hS.same fun k hk' => ?_) (fun e => by have hx := (hA2 _ e).2; exact absurd hx (by show ¬ w.heap.size ≤ b; omega)) _
    have := hA2 k hk'
    exact hk.block k this.1 (fun e => by have h2 := h.cl.1.lt k e; omega)
  refine ⟨{ q with own := own', Ac := some ⟨g', 0, none⟩, cc := c', Lc := fun i => if i = S.cs.length then (A2, c2) else q.Lc i }, ⟨?_, h.ob_kept hc, h.tr_kept hc (by simp), ⟨?_, fun j hj => ?_⟩, fun i hi => ?_, h.lo.kept hc (by simp), h.wa.kept hc (by simp), fun p hp => (h.wb p hp).kept hc (by simp), h.le.kept hc (by simp), fun k hk => (h.lb k hk).kept hc (by simp), hc.fr⟩, hc.ext (by simp) rfl rfl⟩
  · rw [set_head h hb2]
    unfold headV
    simp
  · show SlV _ 5 _ _ (S.cs ++ [_]).length _ _
    rw [show (S.cs ++ [(⟨true, ys, 0, 0, 0⟩ : Cl)]).length = S.cs.length + 1 from by simp]
    exact .inr ⟨g', rfl, (hr.other (fun e => hne e.symm) _).congr fun j hj => clC_snoc rfl A2 q.Lc j hj⟩
  · rw [onB_some] at hj
    have hj : j = g' := hj
    show own' j = .cls
    rw [ho, hj]; simp
  · have hi : i < S.cs.length + 1 := by simpa using hi
    show Part _ own' (.lits i) _ 1 (if i = S.cs.length then (A2, c2) else q.Lc i).1 (clA (S.cs ++ [⟨true, ys, 0, 0, 0⟩]) i).ls.length (if i = S.cs.length then (A2, c2) else q.Lc i).2 (lsC (clA (S.cs ++ [⟨true, ys, 0, 0, 0⟩]) i).ls)
    rw [clA_snoc]
    by_cases e : i < S.cs.length
    · rw [if_pos e, if_neg (by omega)]
      exact (h.lc i e).kept hc (by simp)
    · have e2 : i = S.cs.length := by omega
      rw [if_neg e, if_pos e2, if_pos e2]
      refine ⟨hSA, fun k hk' => ?_⟩
      have hk' : onB A2 k := hk'
      show own' k = _
      rw [ho]
      simp only
      rw [if_neg (fun x => by rw [x] at hk'; exact hgA hk'), if_pos hk', e2]
/-- A loose one more. -/
theorem E6.pushL {w : World} {b d : Nat} {q : Pm} {S : Eng} (h : E6 w b q S d) {W w2 : World} (hW : Below w.heap.size w W) {g' c' : Nat} {news : List Nat} (hr : RowV 3 1 w2 g' (S.lo.length + news.length) c' (natC (S.lo ++ news))) (hg : onB q.Al g' ∨ W.heap.size ≤ g') (hk : Kf (fun k => onB q.Al k) W w2) :
    ∃ q', E6 (w2.setCell ⟨b, 2, none⟩ (.slice (some ⟨g', 0, none⟩) (S.lo.length + news.length) c')) b q' { S with lo := S.lo ++ news } d ∧ Ext q q' w (w2.setCell ⟨b, 2, none⟩ (.slice (some ⟨g', 0, none⟩) (S.lo.length + news.length) c')) ∧ (∀ k, q'.Le k = q.Le k) ∧ q'.Ae = q.Ae ∧ q'.ce = q.ce := by
  have hWs := hW.size
  have hks := hk.size
  have hol := h.lo.2
  have hbl := h.lt
  have hg' : q.own g' = .loose ∨ w.heap.size ≤ g' := hg.imp (hol g') (fun e => by omega)
  have hnb : ¬ onB q.Al b := fun e => by have := hol b e; rw [h.ob] at this; cases this
  have K1 : Kf (fun k => q.own k = .loose ∨ q.own k = .eng) w w2 := (Kf.of_below hW).trans hk (fun x hx => .inl (.inl (hol x hx)))
  have K2 := K1.set (p := ⟨b, 2, none⟩) (.inl (.inr h.ob)) (.slice (some ⟨g', 0, none⟩) (S.lo.length + news.length) c')
  have hne : g' ≠ b := by
    rintro rfl
    rcases hg' with e | e
    · rw [h.ob] at e; cases e
    · omega
  have hc : Chg (fun o => o = .loose ∨ o = .eng) q.own (relab q.own g' .loose) w (w2.setCell ⟨b, 2, none⟩ (.slice (some ⟨g', 0, none⟩) (S.lo.length + news.length) c')) :=
    h.chg_new (O := fun o => o = .loose ∨ o = .eng) K2 hg' (by simp only [World.setCell, Array.size_modify]; exact hr.lt)
  have hb2 : w2.heap[b]? = w.heap[b]? := (hk.block b (by omega) hnb).trans (hW.block b hbl)
  have hll : (S.lo ++ news).length = S.lo.length + news.length := by simp
  obtain ⟨e1, e2⟩ := h.setLo hc (lo' := S.lo ++ news) (A' := some ⟨g', 0, none⟩) (c' := c') (by rw [← hll]; exact set_head2 h w2 hb2 _ _ _) ⟨.inr ⟨g', rfl, by rw [hll]; exact hr.other (fun e => hne e.symm) _⟩, fun j hj => by
    rw [onB_some] at hj; have hj : j = g' := hj; subst hj; exact relab_at _ _ _⟩
  exact ⟨_, e1, e2, fun _ => rfl, rfl, rfl⟩
/-- What Add leaves. -/
def AddTo (w : World) (b : Nat) (q : Pm) (S : Eng) (d : Nat) (xs : List Int) (e : Ending) (w' : World) : Prop :=
  (fitsB S.n xs = false ∧ e = .returned (.tuple #[.int .i64 0, .int .i64 51]) ∧ ∃ q', E6 w' b q' S d ∧ Ext q q' w w') ∨
  (fitsB S.n xs = true ∧ e = .returned (.tuple #[.int .i64 (S.cs.length : Int), .int .i64 0]) ∧ ∃ q' ys, IsClean xs ys ∧ E6 w' b q' (addF S ys (bothB xs)) d ∧ Ext q q' w w')
set_option maxHeartbeats 6400000 in
set_option maxRecDepth 100000 in
theorem add_big {w : World} {b : Nat} {q : Pm} {S : Eng} {d : Nat} (h : E6 w b q S d) (hn : S.n ≤ 90000) (hcn : S.cs.length ≤ 80000) (hln : S.lo.length ≤ 80000) (A : Option Addr) (n c : Nat) (xs : List Int) (hr : Rd .i32 w w.heap.size A n xs) (h32 : In32 xs) (hm : n * 4 ≤ 140737488351232) (hm2 : ∀ ys, fitsB S.n xs = true → IsClean xs ys → ys.length ≤ 10000) :
    Calls Tryz.prog 67 #[.pointer (some ⟨b, 0, none⟩), .slice A n c] w (AddTo w b q S d xs) := by
  have HL := Lib.hid (elen_any h)
  have HM2 := Lib.hid hm2
  clear hm2
  have HH := Lib.hid (has_any h hn A n c xs hr h32 (by omega))
  have HE := Lib.hid h
  have t0 : ((S.cs.length : Int) == 1048576) = false := by rw [beq_eq_false_iff_ne]; omega
  cases hf : fitsB S.n xs with
  | false =>
    rw [hf] at HH
    have HF := Lib.hid hf
    unfold AddTo
    clear h hr hf
    go_enter Tryz.func67, Tryz.ntmps67
    go_wp2_with fail
    refine HL.out.mono ?_
    rintro e w' ⟨rfl, rfl⟩
    go_wp2_with fail
    refine HH.out.mono ?_
    rintro e w1 ⟨rfl, hB⟩
    have HE1 := Lib.hid (show _ ∧ _ from ⟨HE.out.below hB, Ext.below HE.out hB⟩)
    clear hB HH HL
    go_wp2_with fail
    go_ret2
    exact .inl ⟨HF.out, rfl, q, HE1.out.1, HE1.out.2⟩
  | true =>
    rw [hf] at HH
    have hone := fitsB_iff.1 hf
    have HA : Hid (allOne xs = true) := by unfold Hid allOne; rw [List.all_eq_true]; exact fun x hx => (hone x hx).1
    have HR := Lib.hid hr
    have HF := Lib.hid hf
    unfold AddTo
    clear h hr hf hone h32
    obtain ⟨wo, rfl⟩ : ∃ wo : World, wo = w := ⟨_, rfl⟩
    go_enter Tryz.func67, Tryz.ntmps67
    go_wp2_with fail
    refine HL.out.mono ?_
    rintro e w' ⟨rfl, rfl⟩
    go_wp2_with fail
    refine HH.out.mono ?_
    rintro e w1 ⟨rfl, hB⟩
    have HB1 := Lib.hid hB
    have HR1 : Hid (Rd .i32 w1 w1.heap.size A n xs) := ⟨HR.out.len, fun h0 => by
      obtain ⟨g, o, e, hg, hc⟩ := HR.out.at_ h0
      exact ⟨g, o, e, Nat.lt_of_lt_of_le hg hB.size, fun j hj => (hB.cell (p := ⟨g, o + j, none⟩) hg).trans (hc j hj)⟩⟩
    have HCl := Lib.hid (clean_yes A n c xs w1 HR1.out (by omega) HA.out)
    clear hB HH HL HR
    go_wp2_with fail
    refine HCl.out.mono ?_
    rintro e w2 ⟨A', m, c', ys, rfl, hrd, hcl, hb2⟩
    have hml : ys.length = m := hrd.len
    have HYL : Hid (ys.length = m) := hml
    have HBB := Lib.hid (HB1.out.trans (hb2.mono HB1.out.size))
    have HE2 := Lib.hid (HE.out.below HBB.out)
    have HX2 := Lib.hid (Ext.below HE.out HBB.out)
    have HRD := Lib.hid hrd
    have HCL := Lib.hid hcl
    have HM : Hid (m ≤ 10000 ∧ (A' = none → m = 0)) := by
      have h1 := HM2.out ys HF.out hcl
      refine ⟨by omega, fun e => ?_⟩
      rcases Nat.eq_zero_or_pos m with x | x
      · exact x
      · obtain ⟨g, o, e2, _⟩ := hrd.at_ x
        rw [e] at e2; cases e2
    have HL2 := Lib.hid (elen_any HE2.out)
    clear hrd hcl hb2 hml HCl HR1 HB1 HBB
    go_wp2_with fail
    refine HL2.out.mono ?_
    rintro e w' ⟨rfl, rfl⟩
    clear HL2
    have HNC : Hid (Calls Tryz.prog 84 #[.slice A' m c'] w2.drew (ClTo m ys w2.drew)) := newClause_any A' m c' ys w2.drew (HRD.out.drewN 1) HM.out.2 (by have := HM.out.1; omega)
    have g1 : w2.drew.cell? ⟨b, 1, none⟩ = some (.slice q.Ac S.cs.length q.cc) := HE2.out.h1
    have HE2d : Hid (E6 w2.drew b q S d) := HE2.out.drewN 1
    have HG1 : Hid (∀ W, Below w2.drew.heap.size w2.drew W → W.cell? ⟨b, 1, none⟩ = some (.slice q.Ac S.cs.length q.cc)) := fun W hW => (HE2d.out.below hW).h1
    go_upto_region 5 with (fail)
    generalize hw2d : w2.drew = w2d at *
    go_cut [] (fun wx => Hid (∃ q', E6 wx b q' { S with cs := S.cs ++ [⟨true, ys, 0, 0, 0⟩] } d ∧ Ext q q' wo wx))
    case first =>
      refine wp_region_any (by kernel_rfl) ?_
      change wpAny _ _ _ _ _ _ _ (World.drew _)
      refine wpAny_take (i := 0) (v := ?_) rfl (by kernel_rfl) (by kernel_rfl) (by kernel_rfl) (fun _ _ _ h => h) (Or.inl ⟨by kernel_rfl, ?_⟩) ?_
      rotate_left 1
      · (intro w; go_simp <;> with_reducible rfl)
      go_simp
      refine wpAny_take (i := 1) (v := ?_) rfl (by kernel_rfl) (by kernel_rfl) (by kernel_rfl) (fun _ _ _ h => h) (Or.inl ⟨by kernel_rfl, ?_⟩) ?_
      rotate_left 1
      · (intro w; go_simp <;> with_reducible rfl)
      go_simp
      refine wpAny_take (i := 2) (v := ?_) rfl (by kernel_rfl) (by kernel_rfl) (by kernel_rfl) (fun _ _ _ h => h) (Or.inl ⟨by kernel_rfl, ?_⟩) ?_
      rotate_left 1
      · (intro w; go_simp <;> with_reducible rfl)
      go_simp
      refine wpAny_take (i := 3) (v := ?_) rfl (by kernel_rfl) (by kernel_rfl) (by kernel_rfl) (fun _ _ _ h => h) (Or.inl ⟨by kernel_rfl, ?_⟩) ?_
      rotate_left 1
      · (intro w; go_simp <;> with_reducible rfl)
      go_simp
      refine wpAny_take (i := 5) (v := ?_) rfl (by kernel_rfl) (by kernel_rfl) (by kernel_rfl) (fun _ _ _ h => h) (Or.inl ⟨by kernel_rfl, ?_⟩) ?_
      rotate_left 1
      · (intro w; go_simp <;> with_reducible rfl)
      go_simp
      refine wpAny_ready (rs := [4, 6]) (by kernel_rfl) (by simp) ?_
      refine AllReady.cons rfl (fun K hK => ?_) ?_
      ·
        go_simp
        refine hK _ _ ?_; clear hK K
        refine wpAny_ready (rs := [6]) (by kernel_rfl) (by simp) ?_
        refine AllReady.cons rfl (fun K hK => ?_) ?_
        ·
          go_simp
          go_wp2_with ((go_at_call 84; refine HNC.out.mono ?_; rintro e w3 ⟨A2, c2, rfl, hS2, hon2, hb3⟩; have HS2 := Lib.hid hS2; have HB3 := Lib.hid hb3; have HON := Lib.hid hon2; have g1 := HG1.out w3 hb3; have g1a := HG1.out (w3.alloc (.cells #[.bool true, .slice A2 m c2, .int .i32 0, .int .i32 0, .int .i64 0] 112)) (hb3.alloc hb3.size _); clear hS2 hon2 hb3))
          first | (refine hK _ _ ?_; clear hK K) | skip
          refine wpAny_ready (rs := [7]) (by kernel_rfl) (by simp) ?_
          refine AllReady.cons rfl (fun K hK => ?_) ?_
          ·
            go_simp
            refine hK _ _ ?_; clear hK K
            refine wpAny_ready (rs := [8]) (by kernel_rfl) (by simp) ?_
            refine AllReady.cons rfl (fun K hK => ?_) ?_
            ·
              have HSC : Hid (SlV 112 5 (w3.alloc (.cells #[.bool true, .slice A2 m c2, .int .i32 0, .int .i32 0, .int .i64 0] 112)) q.Ac S.cs.length q.cc (clC S.cs q.Lc)) := SlV.alloc ((HE2d.out.below HB3.out).cl.1) _
              refine step_append_sl _ rfl _ _ 78 112 rfl Tryz.underlying78 info_clause rfl (by decide) (by decide) q.Ac S.cs.length q.cc (clC S.cs q.Lc) rfl HSC.out (by omega) ⟨w3.heap.size, 0, none⟩ 1 1 (addC A2 m c2) rfl rfl (box_news w3 112 (addC A2 m c2)) (by intro u hu; unfold addC at hu; simp at hu; rcases hu with rfl | rfl | rfl | rfl <;> rfl) (by decide) (by decide) ?_
              intro g' c5 w5 hr5 hg5 hk5
              have hk6 := hk5 _ (fun j hj => hj)
              have hBB : Below w2d.heap.size w2d (w3.alloc (.cells #[.bool true, .slice A2 m c2, .int .i32 0, .int .i32 0, .int .i64 0] 112)) := HB3.out.alloc HB3.out.size _
              have HPC : Hid (∃ q', E6 (w5.setCell ⟨b, 1, none⟩ (.slice (some ⟨g', 0, none⟩) (S.cs.length + 1) c5)) b q' { S with cs := S.cs ++ [⟨true, ys, 0, 0, 0⟩] } d ∧ Ext q q' wo (w5.setCell ⟨b, 1, none⟩ (.slice (some ⟨g', 0, none⟩) (S.cs.length + 1) c5))) := by
                have hyl := HYL.out
                obtain ⟨q', e1, e2⟩ := HE2d.out.pushC hBB (ys := ys) (A2 := A2) (c2 := c2) (by rw [hyl]; exact SlV.alloc HS2.out _) HON.out (by rw [hyl]; exact hr5) (by simpa using hg5) hk6
                refine ⟨q', e1, Ext.trans ?_ e2⟩
                rw [← hw2d]; exact ⟨HX2.out.old, HX2.out.kf.drew, HX2.out.bt⟩
              have hbk : w5.heap[b]? = w2d.heap[b]? := (hk6.block b (by have := HB3.out.size; have := HE2d.out.lt; simp; omega) (fun e => by have := HE2d.out.cl.2 b e; rw [HE2d.out.ob] at this; cases this)).trans (hBB.block b HE2d.out.lt)
              have d1 : w5.cell? ⟨b, 1, none⟩ = some (.slice q.Ac S.cs.length q.cc) := by rw [World.cell?_of_block (a := ⟨b, 1, none⟩) hbk]; exact HE2d.out.h1
              have f1 : w5.frozen? ⟨b, 1, none⟩ = false := by rw [World.frozen?_of_block (a := ⟨b, 1, none⟩) hbk]; exact HE2d.out.free 1
              clear hr5 hg5 hk5 hk6 hBB hbk HSC
              refine hK _ _ ?_; clear hK K
              refine wpAny_take (i := 9) (v := ?_) rfl (by kernel_rfl) (by kernel_rfl) (by kernel_rfl) (fun _ _ _ h => h) (Or.inl ⟨by kernel_rfl, ?_⟩) ?_
              rotate_left 1
              · (intro w; go_simp <;> with_reducible rfl)
              go_simp
              refine wpAny_take (i := 10) (v := ?_) rfl (by kernel_rfl) (by kernel_rfl) (by kernel_rfl) (fun _ _ _ h => h) (Or.inl ⟨by kernel_rfl, ?_⟩) ?_
              rotate_left 1
              · (intro w; go_simp <;> with_reducible rfl)
              go_simp
              refine wpAny_ready (rs := [11]) (by kernel_rfl) (by simp) ?_
              refine AllReady.cons rfl (fun K hK => ?_) ?_
              ·
                go_simp
                refine hK _ _ ?_; clear hK K
                refine wpAny_done (by kernel_rfl) ?_ _
                go_wp2_with fail; go_meet; exact HPC
              exact AllReady.nil
            exact AllReady.nil
          exact AllReady.nil
        exact AllReady.nil
      refine AllReady.cons rfl (fun K hK => ?_) ?_
      ·
        go_simp
        go_wp2_with ((go_at_call 84; refine HNC.out.mono ?_; rintro e w3 ⟨A2, c2, rfl, hS2, hon2, hb3⟩; have HS2 := Lib.hid hS2; have HB3 := Lib.hid hb3; have HON := Lib.hid hon2; have g1 := HG1.out w3 hb3; have g1a := HG1.out (w3.alloc (.cells #[.bool true, .slice A2 m c2, .int .i32 0, .int .i32 0, .int .i64 0] 112)) (hb3.alloc hb3.size _); clear hS2 hon2 hb3))
        first | (refine hK _ _ ?_; clear hK K) | skip
        refine wpAny_ready (rs := [4, 7]) (by kernel_rfl) (by simp) ?_
        refine AllReady.cons rfl (fun K hK => ?_) ?_
        ·
          go_simp
          refine hK _ _ ?_; clear hK K
          refine wpAny_ready (rs := [7]) (by kernel_rfl) (by simp) ?_
          refine AllReady.cons rfl (fun K hK => ?_) ?_
          ·
            go_simp
            refine hK _ _ ?_; clear hK K
            refine wpAny_ready (rs := [8]) (by kernel_rfl) (by simp) ?_
            refine AllReady.cons rfl (fun K hK => ?_) ?_
            ·
              have HSC : Hid (SlV 112 5 (w3.alloc (.cells #[.bool true, .slice A2 m c2, .int .i32 0, .int .i32 0, .int .i64 0] 112)) q.Ac S.cs.length q.cc (clC S.cs q.Lc)) := SlV.alloc ((HE2d.out.below HB3.out).cl.1) _
              refine step_append_sl _ rfl _ _ 78 112 rfl Tryz.underlying78 info_clause rfl (by decide) (by decide) q.Ac S.cs.length q.cc (clC S.cs q.Lc) rfl HSC.out (by omega) ⟨w3.heap.size, 0, none⟩ 1 1 (addC A2 m c2) rfl rfl (box_news w3 112 (addC A2 m c2)) (by intro u hu; unfold addC at hu; simp at hu; rcases hu with rfl | rfl | rfl | rfl <;> rfl) (by decide) (by decide) ?_
              intro g' c5 w5 hr5 hg5 hk5
              have hk6 := hk5 _ (fun j hj => hj)
              have hBB : Below w2d.heap.size w2d (w3.alloc (.cells #[.bool true, .slice A2 m c2, .int .i32 0, .int .i32 0, .int .i64 0] 112)) := HB3.out.alloc HB3.out.size _
              have HPC : Hid (∃ q', E6 (w5.setCell ⟨b, 1, none⟩ (.slice (some ⟨g', 0, none⟩) (S.cs.length + 1) c5)) b q' { S with cs := S.cs ++ [⟨true, ys, 0, 0, 0⟩] } d ∧ Ext q q' wo (w5.setCell ⟨b, 1, none⟩ (.slice (some ⟨g', 0, none⟩) (S.cs.length + 1) c5))) := by
                have hyl := HYL.out
                obtain ⟨q', e1, e2⟩ := HE2d.out.pushC hBB (ys := ys) (A2 := A2) (c2 := c2) (by rw [hyl]; exact SlV.alloc HS2.out _) HON.out (by rw [hyl]; exact hr5) (by simpa using hg5) hk6
                refine ⟨q', e1, Ext.trans ?_ e2⟩
                rw [← hw2d]; exact ⟨HX2.out.old, HX2.out.kf.drew, HX2.out.bt⟩
              have hbk : w5.heap[b]? = w2d.heap[b]? := (hk6.block b (by have := HB3.out.size; have := HE2d.out.lt; simp; omega) (fun e => by have := HE2d.out.cl.2 b e; rw [HE2d.out.ob] at this; cases this)).trans (hBB.block b HE2d.out.lt)
              have d1 : w5.cell? ⟨b, 1, none⟩ = some (.slice q.Ac S.cs.length q.cc) := by rw [World.cell?_of_block (a := ⟨b, 1, none⟩) hbk]; exact HE2d.out.h1
              have f1 : w5.frozen? ⟨b, 1, none⟩ = false := by rw [World.frozen?_of_block (a := ⟨b, 1, none⟩) hbk]; exact HE2d.out.free 1
              clear hr5 hg5 hk5 hk6 hBB hbk HSC
              refine hK _ _ ?_; clear hK K
              refine wpAny_take (i := 9) (v := ?_) rfl (by kernel_rfl) (by kernel_rfl) (by kernel_rfl) (fun _ _ _ h => h) (Or.inl ⟨by kernel_rfl, ?_⟩) ?_
              rotate_left 1
              · (intro w; go_simp <;> with_reducible rfl)
              go_simp
              refine wpAny_take (i := 10) (v := ?_) rfl (by kernel_rfl) (by kernel_rfl) (by kernel_rfl) (fun _ _ _ h => h) (Or.inl ⟨by kernel_rfl, ?_⟩) ?_
              rotate_left 1
              · (intro w; go_simp <;> with_reducible rfl)
              go_simp
              refine wpAny_ready (rs := [11]) (by kernel_rfl) (by simp) ?_
              refine AllReady.cons rfl (fun K hK => ?_) ?_
              ·
                go_simp
                refine hK _ _ ?_; clear hK K
                refine wpAny_done (by kernel_rfl) ?_ _
                go_wp2_with fail; go_meet; exact HPC
              exact AllReady.nil
            exact AllReady.nil
          exact AllReady.nil
        refine AllReady.cons rfl (fun K hK => ?_) ?_
        ·
          go_simp
          refine hK _ _ ?_; clear hK K
          refine wpAny_ready (rs := [4]) (by kernel_rfl) (by simp) ?_
          refine AllReady.cons rfl (fun K hK => ?_) ?_
          ·
            go_simp
            refine hK _ _ ?_; clear hK K
            refine wpAny_ready (rs := [8]) (by kernel_rfl) (by simp) ?_
            refine AllReady.cons rfl (fun K hK => ?_) ?_
            ·
              have HSC : Hid (SlV 112 5 (w3.alloc (.cells #[.bool true, .slice A2 m c2, .int .i32 0, .int .i32 0, .int .i64 0] 112)) q.Ac S.cs.length q.cc (clC S.cs q.Lc)) := SlV.alloc ((HE2d.out.below HB3.out).cl.1) _
              refine step_append_sl _ rfl _ _ 78 112 rfl Tryz.underlying78 info_clause rfl (by decide) (by decide) q.Ac S.cs.length q.cc (clC S.cs q.Lc) rfl HSC.out (by omega) ⟨w3.heap.size, 0, none⟩ 1 1 (addC A2 m c2) rfl rfl (box_news w3 112 (addC A2 m c2)) (by intro u hu; unfold addC at hu; simp at hu; rcases hu with rfl | rfl | rfl | rfl <;> rfl) (by decide) (by decide) ?_
              intro g' c5 w5 hr5 hg5 hk5
              have hk6 := hk5 _ (fun j hj => hj)
              have hBB : Below w2d.heap.size w2d (w3.alloc (.cells #[.bool true, .slice A2 m c2, .int .i32 0, .int .i32 0, .int .i64 0] 112)) := HB3.out.alloc HB3.out.size _
              have HPC : Hid (∃ q', E6 (w5.setCell ⟨b, 1, none⟩ (.slice (some ⟨g', 0, none⟩) (S.cs.length + 1) c5)) b q' { S with cs := S.cs ++ [⟨true, ys, 0, 0, 0⟩] } d ∧ Ext q q' wo (w5.setCell ⟨b, 1, none⟩ (.slice (some ⟨g', 0, none⟩) (S.cs.length + 1) c5))) := by
                have hyl := HYL.out
                obtain ⟨q', e1, e2⟩ := HE2d.out.pushC hBB (ys := ys) (A2 := A2) (c2 := c2) (by rw [hyl]; exact SlV.alloc HS2.out _) HON.out (by rw [hyl]; exact hr5) (by simpa using hg5) hk6
                refine ⟨q', e1, Ext.trans ?_ e2⟩
                rw [← hw2d]; exact ⟨HX2.out.old, HX2.out.kf.drew, HX2.out.bt⟩
              have hbk : w5.heap[b]? = w2d.heap[b]? := (hk6.block b (by have := HB3.out.size; have := HE2d.out.lt; simp; omega) (fun e => by have := HE2d.out.cl.2 b e; rw [HE2d.out.ob] at this; cases this)).trans (hBB.block b HE2d.out.lt)
              have d1 : w5.cell? ⟨b, 1, none⟩ = some (.slice q.Ac S.cs.length q.cc) := by rw [World.cell?_of_block (a := ⟨b, 1, none⟩) hbk]; exact HE2d.out.h1
              have f1 : w5.frozen? ⟨b, 1, none⟩ = false := by rw [World.frozen?_of_block (a := ⟨b, 1, none⟩) hbk]; exact HE2d.out.free 1
              clear hr5 hg5 hk5 hk6 hBB hbk HSC
              refine hK _ _ ?_; clear hK K
              refine wpAny_take (i := 9) (v := ?_) rfl (by kernel_rfl) (by kernel_rfl) (by kernel_rfl) (fun _ _ _ h => h) (Or.inl ⟨by kernel_rfl, ?_⟩) ?_
              rotate_left 1
              · (intro w; go_simp <;> with_reducible rfl)
              go_simp
              refine wpAny_take (i := 10) (v := ?_) rfl (by kernel_rfl) (by kernel_rfl) (by kernel_rfl) (fun _ _ _ h => h) (Or.inl ⟨by kernel_rfl, ?_⟩) ?_
              rotate_left 1
              · (intro w; go_simp <;> with_reducible rfl)
              go_simp
              refine wpAny_ready (rs := [11]) (by kernel_rfl) (by simp) ?_
              refine AllReady.cons rfl (fun K hK => ?_) ?_
              ·
                go_simp
                refine hK _ _ ?_; clear hK K
                refine wpAny_done (by kernel_rfl) ?_ _
                go_wp2_with fail; go_meet; exact HPC
              exact AllReady.nil
            exact AllReady.nil
          exact AllReady.nil
        exact AllReady.nil
      exact AllReady.nil
    case rest =>
      obtain ⟨q3, hE3, hX3⟩ := hcut.out
      have HE3 := Lib.hid hE3
      have HX3 := Lib.hid hX3
      clear hcut hE3 hX3 HE2 HX2 HNC g1 HE2d HG1 HRD
      cases hbo : bothB xs with
      | true =>
        have HBO := Lib.hid hbo
        clear hbo
        go_wp2_with fail
        go_ret2
        exact .inr ⟨HF.out, rfl, q3, ys, HCL.out, by rw [HBO.out]; exact HE3.out, HX3.out⟩
      | false =>
        have HBO := Lib.hid hbo
        clear hbo
        have k2 : wc.cell? ⟨b, 2, none⟩ = some (.slice q3.Al S.lo.length q3.cl) := HE3.out.h2
        have HSL : Hid (SlV 3 1 (wc.alloc (.cells #[.int .i64 (S.cs.length : Int)] 3)) q3.Al S.lo.length q3.cl (natC S.lo)) := SlV.alloc HE3.out.lo.1 _
        have HFIN : Hid (∀ g' c5 w5, RowV 3 1 w5 g' (S.lo.length + 1) c5 (appV (natC S.lo) (S.lo.length * 1) [.int .i64 (S.cs.length : Int)]) → (onB q3.Al g' ∨ (wc.alloc (.cells #[.int .i64 (S.cs.length : Int)] 3)).heap.size ≤ g') → Kf (fun k => onB q3.Al k) (wc.alloc (.cells #[.int .i64 (S.cs.length : Int)] 3)) w5 →
            w5.cell? ⟨b, 2, none⟩ = some (.slice q3.Al S.lo.length q3.cl) ∧ w5.frozen? ⟨b, 2, none⟩ = false ∧ ∃ q', E6 (w5.setCell ⟨b, 2, none⟩ (.slice (some ⟨g', 0, none⟩) (S.lo.length + 1) c5)) b q' (addF S ys false) d ∧ Ext q q' wo (w5.setCell ⟨b, 2, none⟩ (.slice (some ⟨g', 0, none⟩) (S.lo.length + 1) c5))) := fun g' c5 w5 x1 x2 x3 => by
          obtain ⟨q', e1, e2, _⟩ := HE3.out.pushL (news := [S.cs.length]) ((Below.refl _ _).alloc (Nat.le_refl _) (.cells #[.int .i64 (S.cs.length : Int)] 3)) (x1.congr fun j hj => by rw [natC_snoc _ _ _ (by have hj : j < (S.lo.length + 1) * 1 := hj; show j < S.lo.length + 1; omega), Nat.mul_one]) x2 x3
          have hnb : ¬ onB q3.Al b := fun e => by have := HE3.out.lo.2 b e; rw [HE3.out.ob] at this; cases this
          have hbl := HE3.out.lt
          have hb5 : w5.heap[b]? = wc.heap[b]? := (x3.block b (by simp; omega) hnb).trans (Below.heap_alloc _ _ _ hbl)
          refine ⟨(World.cell?_of_block (a := ⟨b, 2, none⟩) hb5).trans k2, ?_, q', e1, HX3.out.trans e2⟩
          rw [World.frozen?_of_block (a := ⟨b, 2, none⟩) hb5]; exact HE3.out.free 2
        clear HX3
        go_wp2_with (at_builtin; refine wpList_append_sl _ rfl _ _ 37 3 rfl Tryz.underlying37 info_tint rfl (by decide) (by decide) q3.Al S.lo.length q3.cl (natC S.lo) rfl HSL.out (by omega) ⟨wc.heap.size, 0, none⟩ 1 1 [.int .i64 (S.cs.length : Int)] rfl rfl (box_news wc 3 [.int .i64 (S.cs.length : Int)]) (by intro u hu; simp at hu; subst hu; rfl) (by decide) (by decide) ?_)
        intro g' c5 w5 hr5 hg5 hk5
        obtain ⟨y1, y2, q', y3, y4⟩ := HFIN.out g' c5 w5 (by rw [Nat.mul_one]; exact hr5) (by simpa using hg5) (hk5 _ (fun j hj => hj))
        have HX := Lib.hid (show _ ∧ _ from ⟨y3, y4⟩)
        clear hr5 hg5 hk5 y3 y4 HFIN
        go_wp2_with fail
        go_ret2
        exact .inr ⟨HF.out, rfl, q', ys, HCL.out, by rw [HBO.out]; exact HX.out.1, HX.out.2⟩
theorem add_any {w : World} {b : Nat} {q : Pm} {S : Eng} {d : Nat} (h : E6 w b q S d) (hn : S.n ≤ 90000) (hcn : S.cs.length ≤ 80000) (hln : S.lo.length ≤ 80000) (A : Option Addr) (n c : Nat) (xs : List Int) (hr : Rd .i32 w w.heap.size A n xs) (h32 : In32 xs) (hm : n ≤ 10000) :
    Calls Tryz.prog 67 #[.pointer (some ⟨b, 0, none⟩), .slice A n c] w (AddTo w b q S d xs) :=
  add_big h hn hcn hln A n c xs hr h32 (by omega) fun ys _ hc => by
    have := clean_len (xs := xs) (ys := ys) (k := xs.length) (by rw [List.take_length]; exact hc)
    have := hr.len
    omega
end Go.Proofs.YtkckodpfhlpkgaaGreat
