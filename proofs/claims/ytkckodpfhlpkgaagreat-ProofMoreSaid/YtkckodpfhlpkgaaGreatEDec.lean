/- The contract of an engine's Decide. -/
import Derived.Test.YtkckodpfhlpkgaaGreatEProp
import Derived.Deep.RegionWith
import Derived.Deep.CutBlock
namespace Go.Proofs.YtkckodpfhlpkgaaGreat
open Go.RowKit LitM TrailM EngM

theorem info_level : (Tryz.prog.info? 91).map (fun i => (i.zero, i.size, i.bytes)) = some (some (.agg #[.int .i64 0, .slice none 0 0]), 2, 32) := by kernel_rfl
theorem leA_snoc (le : List (Nat × List Nat)) (x : Nat × List Nat) (k : Nat) : leA (le ++ [x]) k = if k < le.length then leA le k else if k = le.length then x else (0, []) := by
  unfold leA
  by_cases e : k < le.length
  · rw [if_pos e, List.getD, List.getD, List.getElem?_append_left e]
  · rw [if_neg e, List.getD, List.getElem?_append_right (by omega)]
    by_cases e2 : k = le.length
    · rw [if_pos e2, e2, Nat.sub_self]; rfl
    · rw [if_neg e2, List.getElem?_eq_none (by simp; omega)]; rfl
theorem leC_snoc (le : List (Nat × List Nat)) (v : Nat) (Le : Nat → Option Addr × Nat) (j : Nat) (hj : j < (le.length + 1) * 2) :
    leC (le ++ [(v, [])]) (fun k => if k = le.length then (none, 0) else Le k) j = appV (leC le Le) (le.length * 2) [.int .i64 (v : Int), .slice none 0 0] j := by
  unfold appV
  by_cases e : j < le.length * 2
  · rw [if_pos e]
    have h5 : j / 2 < le.length := by omega
    have hl : leA (le ++ [(v, [])]) (j / 2) = leA le (j / 2) := by rw [leA_snoc, if_pos h5]
    unfold leC
    rw [hl]
    simp only
    rw [if_neg (show ¬ j / 2 = le.length by omega)]
  · rw [if_neg e]
    have h5 : j / 2 = le.length := by omega
    have hl : leA (le ++ [(v, [])]) (j / 2) = (v, []) := by rw [leA_snoc, if_neg (by omega), if_pos h5]
    unfold leC
    rw [hl]
    simp only
    rw [if_pos h5]
    rcases (show j = le.length * 2 ∨ j = le.length * 2 + 1 by omega) with q | q <;> subst q
    · rw [if_pos (by omega), Nat.sub_self]; rfl
    · rw [if_neg (by omega), show le.length * 2 + 1 - le.length * 2 = 1 from by omega]; rfl
/-- A level more. -/
theorem E6.pushR {w : World} {b d : Nat} {q : Pm} {S : Eng} (h : E6 w b q S d) {W w4 : World} (hW : Below w.heap.size w W) {v g' c' : Nat}
    (hr : RowV 91 2 w4 g' (S.le.length + 1) c' (appV (leC S.le q.Le) (S.le.length * 2) [.int .i64 (v : Int), .slice none 0 0])) (hg : onB q.Ae g' ∨ W.heap.size ≤ g') (hk : Kf (fun k => onB q.Ae k) W w4) :
    ∃ q', E6 (w4.setCell ⟨b, 5, none⟩ (.slice (some ⟨g', 0, none⟩) (S.le.length + 1) c')) b q' { S with le := S.le ++ [(v, [])] } d ∧ Ext q q' w (w4.setCell ⟨b, 5, none⟩ (.slice (some ⟨g', 0, none⟩) (S.le.length + 1) c')) := by
  have hWs := hW.size
  have hks := hk.size
  have hoc := h.le.2
  have hbl := h.lt
  have hg' : q.own g' = .lrow ∨ w.heap.size ≤ g' := hg.imp (hoc g') (fun e => by omega)
  have hnb : ¬ onB q.Ae b := fun e => by have := hoc b e; rw [h.ob] at this; cases this
  have K1 : Kf (fun k => q.own k = .lrow ∨ q.own k = .eng) w w4 := (Kf.of_below hW).trans hk (fun x hx => .inl (.inl (hoc x hx)))
  have K2 := K1.set (p := ⟨b, 5, none⟩) (.inl (.inr h.ob)) (.slice (some ⟨g', 0, none⟩) (S.le.length + 1) c')
  have hne : g' ≠ b := by
    rintro rfl
    rcases hg' with e | e
    · rw [h.ob] at e; cases e
    · omega
  have hc : Chg (fun o => o = .lrow ∨ o = .eng) q.own (relab q.own g' .lrow) w (w4.setCell ⟨b, 5, none⟩ (.slice (some ⟨g', 0, none⟩) (S.le.length + 1) c')) :=
    h.chg_new (O := fun o => o = .lrow ∨ o = .eng) K2 hg' (by simp only [World.setCell, Array.size_modify]; exact hr.lt)
  have hb2 : w4.heap[b]? = w.heap[b]? := (hk.block b (by omega) hnb).trans (hW.block b hbl)
  refine ⟨{ q with own := relab q.own g' .lrow, Ae := some ⟨g', 0, none⟩, ce := c', Le := fun k => if k = S.le.length then (none, 0) else q.Le k }, ⟨?_, h.ob_kept hc, h.tr_kept hc (by simp), h.cl.kept hc (by simp), fun i hi => (h.lc i hi).kept hc (by simp), h.lo.kept hc (by simp), h.wa.kept hc (by simp), fun p hp => (h.wb p hp).kept hc (by simp), ⟨?_, fun j hj => ?_⟩, fun k hk => ?_, hc.fr⟩, hc.ext (by simp) rfl rfl⟩
  · rw [set_head h hb2]
    unfold headV
    simp
  · show SlV _ 2 _ _ (S.le ++ [_]).length _ _
    rw [show (S.le ++ [((v, []) : Nat × List Nat)]).length = S.le.length + 1 from by simp]
    exact .inr ⟨g', rfl, (hr.other (fun e => hne e.symm) _).congr fun j hj => leC_snoc S.le v q.Le j hj⟩
  · rw [onB_some] at hj
    have hj : j = g' := hj
    show relab q.own g' .lrow j = .lrow
    rw [hj]; exact relab_at _ _ _
  · have hk : k < S.le.length + 1 := by simpa using hk
    show Part _ _ (.ll k) _ 1 (if k = S.le.length then (none, 0) else q.Le k).1 (leA (S.le ++ [(v, [])]) k).2.length (if k = S.le.length then (none, 0) else q.Le k).2 (natC (leA (S.le ++ [(v, [])]) k).2)
    rw [leA_snoc]
    by_cases e : k < S.le.length
    · rw [if_pos e, if_neg (by omega)]
      exact (h.lb k e).kept hc (by simp)
    · have e2 : k = S.le.length := by omega
      rw [if_neg e, if_pos e2, if_pos e2]
      exact Part.nil _ _ _ _ _ _
/-- The error of a Decide. -/
def eErr (S : Eng) (l : Int) : Int := if errZ S.n S.L l = 41 then 51 else errZ S.n S.L l
/-- What Decide leaves. -/
def DecTo (w : World) (b : Nat) (q : Pm) (S : Eng) (d : Nat) (l : Int) (e : Ending) (w' : World) : Prop :=
  e = .returned (.int .i64 (eErr S l)) ∧ ((errZ S.n S.L l ≠ 0 ∧ w = w') ∨ (errZ S.n S.L l = 0 ∧ ∃ q', E6 w' b q' (decideF S l) (d + 1) ∧ Ext q q' w w'))
set_option maxHeartbeats 6400000 in
set_option maxRecDepth 100000 in
theorem edecide_any {w : World} {b : Nat} {q : Pm} {S : Eng} {d : Nat} (h : E6 w b q S d) (hd : d = S.le.length) (hn : S.n ≤ 90000) (l : Int) (l0 : -2147483648 ≤ l) (l1 : l ≤ 2147483647) :
    Calls Tryz.prog 32 #[.pointer (some ⟨b, 0, none⟩), .int .i32 l] w (DecTo w b q S d l) := by
  have h0 := h.h0
  obtain ⟨F, hT, hF⟩ := h.tr
  have hO := h.ok
  have hlen := hO.len
  have hdle := hO.dle
  unfold DecTo eErr
  by_cases he : errZ S.n S.L l = 0
  · have HD : Hid (Calls Tryz.prog 52 #[.pointer (some ⟨q.bt, 0, none⟩), .int .i32 l] w fun e w' => e = .returned (.int .i64 0) ∧ TrailTo F w w' q.bt S.n (d + 1) (S.L ++ [⟨l, d + 1, -1⟩])) := decide_yes w hT (by omega) l l0 l1 he
    have HTT : Hid (∀ w2, TrailTo F w w2 q.bt S.n (d + 1) (S.L ++ [⟨l, d + 1, -1⟩]) → ∃ q2, E6 w2 b q2 { S with L := S.L ++ [⟨l, S.le.length + 1, -1⟩] } (d + 1) ∧ Ext q q2 w w2 ∧ q2.Ae = q.Ae ∧ q2.ce = q.ce ∧ q2.Le = q.Le) := fun w2 ht => by
      obtain ⟨own', e1, e2⟩ := h.trailTo hF ht
      rw [hd] at e1
      rw [hd]
      exact ⟨_, e1, e2, rfl, rfl, rfl⟩
    have HDF : Hid (decideF S l = { ({ S with L := S.L ++ [⟨l, S.le.length + 1, -1⟩] } : Eng) with le := S.le ++ [(S.vi, [])] }) := rfl
    have HLE : Hid (S.le.length ≤ 90000) := by unfold Hid; omega
    have HE0 := Lib.hid he
    rw [he, if_neg (by omega)]
    clear hT hF h hd he hO hdle
    go_enter Tryz.func32, Tryz.ntmps32
    go_wp2_with fail
    refine HD.out.mono ?_
    rintro e w2 ⟨rfl, ht⟩
    obtain ⟨q2, hE2, hX2, a1, a2, a3⟩ := HTT.out w2 ht
    have HE2 := Lib.hid hE2
    have HX2 := Lib.hid hX2
    clear ht hE2 hX2 HTT HD a1 a2 a3
    go_upto_region 4 with (fail)
    have HE2d : Hid (E6 w2.drew b q2 { S with L := S.L ++ [⟨l, S.le.length + 1, -1⟩] } (d + 1)) := HE2.out.drewN 1
    obtain ⟨B, hBo⟩ : ∃ B : Obj, B = .cells #[.int .i64 (S.vi : Int), .slice none 0 0] 91 (0, 0) := ⟨_, rfl⟩
    have g5 : w2.drew.cell? ⟨b, 5, none⟩ = some (.slice q2.Ae S.le.length q2.ce) := HE2d.out.h5
    have g4 : w2.drew.cell? ⟨b, 4, none⟩ = some (.int .i64 (S.vi : Int)) := HE2d.out.h4
    have HG5 : Hid (∀ W, Below w2.drew.heap.size w2.drew W → W.cell? ⟨b, 5, none⟩ = some (.slice q2.Ae S.le.length q2.ce)) := fun W hW => (HE2d.out.below hW).h5
    clear hBo
    generalize hw2d : w2.drew = w2d at *
    have g5a := HG5.out (w2d.alloc (.cells #[.int .i64 (S.vi : Int), .slice none 0 0] 91)) ((Below.refl _ _).alloc (Nat.le_refl _) _)
    have HSC : Hid (SlV 91 2 (w2d.alloc (.cells #[.int .i64 (S.vi : Int), .slice none 0 0] 91)) q2.Ae S.le.length q2.ce (leC S.le q2.Le)) := SlV.alloc HE2d.out.le.1 _
    have HFIN : Hid (∀ g' c5 w5, RowV 91 2 w5 g' (S.le.length + 1) c5 (appV (leC S.le q2.Le) (S.le.length * 2) [.int .i64 (S.vi : Int), .slice none 0 0]) → (onB q2.Ae g' ∨ (w2d.alloc (.cells #[.int .i64 (S.vi : Int), .slice none 0 0] 91)).heap.size ≤ g') → Kf (fun k => onB q2.Ae k) (w2d.alloc (.cells #[.int .i64 (S.vi : Int), .slice none 0 0] 91)) w5 →
        w5.cell? ⟨b, 5, none⟩ = some (.slice q2.Ae S.le.length q2.ce) ∧ w5.frozen? ⟨b, 5, none⟩ = false ∧ ∃ q', E6 (w5.setCell ⟨b, 5, none⟩ (.slice (some ⟨g', 0, none⟩) (S.le.length + 1) c5)) b q' (decideF S l) (d + 1) ∧ Ext q q' w (w5.setCell ⟨b, 5, none⟩ (.slice (some ⟨g', 0, none⟩) (S.le.length + 1) c5))) := fun g' c5 w5 x1 x2 x3 => by
      obtain ⟨q', e1, e2⟩ := HE2d.out.pushR ((Below.refl _ _).alloc (Nat.le_refl _) (.cells #[.int .i64 (S.vi : Int), .slice none 0 0] 91)) x1 x2 x3
      have hnb : ¬ onB q2.Ae b := fun e => by have := HE2d.out.le.2 b e; rw [HE2d.out.ob] at this; cases this
      have hbl := HE2d.out.lt
      have hb5 : w5.heap[b]? = w2d.heap[b]? := (x3.block b (by simp; omega) hnb).trans (Below.heap_alloc _ _ _ hbl)
      refine ⟨by rw [World.cell?_of_block (a := ⟨b, 5, none⟩) hb5]; exact HE2d.out.h5, ?_, q', e1, Ext.trans ?_ e2⟩
      · rw [World.frozen?_of_block (a := ⟨b, 5, none⟩) hb5]; exact HE2d.out.free 5
      · rw [← hw2d]; exact ⟨HX2.out.old, HX2.out.kf.drew, HX2.out.bt⟩
    clear HX2 HE2
    generalize S.vi = vi at *
    generalize hnle : S.le.length = nle at *
    refine wp_region_any (by kernel_rfl) ?_
    change wpAny _ _ _ _ _ _ _ (World.drew _)
    refine wpAny_take (i := 0) (v := ?_) rfl (by kernel_rfl) (by kernel_rfl) (by kernel_rfl) (fun _ _ _ h => h) (Or.inl ⟨by kernel_rfl, ?_⟩) ?_
    rotate_left 1
    · (intro w; go_simp <;> with_reducible rfl)
    go_simp
    refine wpAny_take (i := 1) (v := ?_) rfl (by kernel_rfl) (by kernel_rfl) (by kernel_rfl) (fun _ _ _ h => h) (Or.inl ⟨by kernel_rfl, ?_⟩) ?_
    rotate_left 1
    · (intro w; go_simp <;> with_reducible rfl)
    go_simp
    refine wpAny_take (i := 2) (v := ?_) rfl (by kernel_rfl) (by kernel_rfl) (by kernel_rfl) (fun _ _ _ h => h) (Or.inl ⟨by kernel_rfl, ?_⟩) ?_
    rotate_left 1
    · (intro w; go_simp <;> with_reducible rfl)
    go_simp
    refine wpAny_take (i := 3) (v := ?_) rfl (by kernel_rfl) (by kernel_rfl) (by kernel_rfl) (fun _ _ _ h => h) (Or.inl ⟨by kernel_rfl, ?_⟩) ?_
    rotate_left 1
    · (intro w; go_simp <;> with_reducible rfl)
    go_simp
    refine wpAny_take (i := 5) (v := ?_) rfl (by kernel_rfl) (by kernel_rfl) (by kernel_rfl) (fun _ _ _ h => h) (Or.inl ⟨by kernel_rfl, ?_⟩) ?_
    rotate_left 1
    · (intro w; go_simp <;> with_reducible rfl)
    go_simp
    refine wpAny_take (i := 6) (v := ?_) rfl (by kernel_rfl) (by kernel_rfl) (by kernel_rfl) (fun _ _ _ h => h) (Or.inl ⟨by kernel_rfl, ?_⟩) ?_
    rotate_left 1
    · (intro w; go_simp <;> with_reducible rfl)
    go_simp
    refine wpAny_take (i := 7) (v := ?_) rfl (by kernel_rfl) (by kernel_rfl) (by kernel_rfl) (fun _ _ _ h => h) (Or.inl ⟨by kernel_rfl, ?_⟩) ?_
    rotate_left 1
    · (intro w; go_simp <;> with_reducible rfl)
    go_simp
    refine wpAny_ready (rs := [4, 8]) (by kernel_rfl) (by simp) ?_
    refine AllReady.cons rfl (fun K hK => ?_) ?_
    ·
      go_simp
      refine hK _ _ ?_; clear hK K
      refine wpAny_ready (rs := [8]) (by kernel_rfl) (by simp) ?_
      refine AllReady.cons rfl (fun K hK => ?_) ?_
      ·
        go_simp
        refine hK _ _ ?_; clear hK K
        refine wpAny_take (i := 9) (v := ?_) rfl (by kernel_rfl) (by kernel_rfl) (by kernel_rfl) (fun _ _ _ h => h) (Or.inl ⟨by kernel_rfl, ?_⟩) ?_
        rotate_left 1
        · (intro w; go_simp <;> with_reducible rfl)
        go_simp
        refine wpAny_ready (rs := [10]) (by kernel_rfl) (by simp) ?_
        refine AllReady.cons rfl (fun K hK => ?_) ?_
        ·
          go_simp
          refine hK _ _ ?_; clear hK K
          refine wpAny_ready (rs := [11]) (by kernel_rfl) (by simp) ?_
          refine AllReady.cons rfl (fun K hK => ?_) ?_
          ·
            refine step_append_sl _ rfl _ _ 79 91 rfl Tryz.underlying79 info_level rfl (by decide) (by decide) q2.Ae nle q2.ce (leC S.le q2.Le) rfl HSC.out (by have := HLE.out; omega) ⟨w2d.heap.size, 0, none⟩ 1 1 [.int .i64 (vi : Int), .slice none 0 0] rfl rfl (box_news w2d 91 [.int .i64 (vi : Int), .slice none 0 0]) (by intro u hu; simp at hu; rcases hu with rfl | rfl <;> rfl) (by decide) (by decide) ?_
            intro g' c5 w5 hr5 hg5 hk5
            obtain ⟨y1, y2, q', y3, y4⟩ := HFIN.out g' c5 w5 hr5 (by simpa using hg5) (hk5 _ (fun j hj => hj))
            have HX := Lib.hid (show _ ∧ _ from ⟨y3, y4⟩)
            clear hr5 hg5 hk5 y3 y4
            refine hK _ _ ?_; clear hK K
            refine wpAny_take (i := 12) (v := ?_) rfl (by kernel_rfl) (by kernel_rfl) (by kernel_rfl) (fun _ _ _ h => h) (Or.inl ⟨by kernel_rfl, ?_⟩) ?_
            rotate_left 1
            · (intro w; go_simp <;> with_reducible rfl)
            go_simp
            refine wpAny_take (i := 13) (v := ?_) rfl (by kernel_rfl) (by kernel_rfl) (by kernel_rfl) (fun _ _ _ h => h) (Or.inl ⟨by kernel_rfl, ?_⟩) ?_
            rotate_left 1
            · (intro w; go_simp <;> with_reducible rfl)
            go_simp
            refine wpAny_ready (rs := [14]) (by kernel_rfl) (by simp) ?_
            refine AllReady.cons rfl (fun K hK => ?_) ?_
            ·
              go_simp
              refine hK _ _ ?_; clear hK K
              refine wpAny_done (by kernel_rfl) ?_ _
              go_wp2_with fail; go_ret; exact ⟨rfl, .inr ⟨trivial, q', HX.out.1, HX.out.2⟩⟩
            exact AllReady.nil
          exact AllReady.nil
        exact AllReady.nil
      exact AllReady.nil
    refine AllReady.cons rfl (fun K hK => ?_) ?_
    ·
      go_simp
      refine hK _ _ ?_; clear hK K
      refine wpAny_take (i := 9) (v := ?_) rfl (by kernel_rfl) (by kernel_rfl) (by kernel_rfl) (fun _ _ _ h => h) (Or.inl ⟨by kernel_rfl, ?_⟩) ?_
      rotate_left 1
      · (intro w; go_simp <;> with_reducible rfl)
      go_simp
      refine wpAny_ready (rs := [4, 10]) (by kernel_rfl) (by simp) ?_
      refine AllReady.cons rfl (fun K hK => ?_) ?_
      ·
        go_simp
        refine hK _ _ ?_; clear hK K
        refine wpAny_ready (rs := [10]) (by kernel_rfl) (by simp) ?_
        refine AllReady.cons rfl (fun K hK => ?_) ?_
        ·
          go_simp
          refine hK _ _ ?_; clear hK K
          refine wpAny_ready (rs := [11]) (by kernel_rfl) (by simp) ?_
          refine AllReady.cons rfl (fun K hK => ?_) ?_
          ·
            refine step_append_sl _ rfl _ _ 79 91 rfl Tryz.underlying79 info_level rfl (by decide) (by decide) q2.Ae nle q2.ce (leC S.le q2.Le) rfl HSC.out (by have := HLE.out; omega) ⟨w2d.heap.size, 0, none⟩ 1 1 [.int .i64 (vi : Int), .slice none 0 0] rfl rfl (box_news w2d 91 [.int .i64 (vi : Int), .slice none 0 0]) (by intro u hu; simp at hu; rcases hu with rfl | rfl <;> rfl) (by decide) (by decide) ?_
            intro g' c5 w5 hr5 hg5 hk5
            obtain ⟨y1, y2, q', y3, y4⟩ := HFIN.out g' c5 w5 hr5 (by simpa using hg5) (hk5 _ (fun j hj => hj))
            have HX := Lib.hid (show _ ∧ _ from ⟨y3, y4⟩)
            clear hr5 hg5 hk5 y3 y4
            refine hK _ _ ?_; clear hK K
            refine wpAny_take (i := 12) (v := ?_) rfl (by kernel_rfl) (by kernel_rfl) (by kernel_rfl) (fun _ _ _ h => h) (Or.inl ⟨by kernel_rfl, ?_⟩) ?_
            rotate_left 1
            · (intro w; go_simp <;> with_reducible rfl)
            go_simp
            refine wpAny_take (i := 13) (v := ?_) rfl (by kernel_rfl) (by kernel_rfl) (by kernel_rfl) (fun _ _ _ h => h) (Or.inl ⟨by kernel_rfl, ?_⟩) ?_
            rotate_left 1
            · (intro w; go_simp <;> with_reducible rfl)
            go_simp
            refine wpAny_ready (rs := [14]) (by kernel_rfl) (by simp) ?_
            refine AllReady.cons rfl (fun K hK => ?_) ?_
            ·
              go_simp
              refine hK _ _ ?_; clear hK K
              refine wpAny_done (by kernel_rfl) ?_ _
              go_wp2_with fail; go_ret; exact ⟨rfl, .inr ⟨trivial, q', HX.out.1, HX.out.2⟩⟩
            exact AllReady.nil
          exact AllReady.nil
        exact AllReady.nil
      refine AllReady.cons rfl (fun K hK => ?_) ?_
      ·
        go_simp
        refine hK _ _ ?_; clear hK K
        refine wpAny_ready (rs := [4]) (by kernel_rfl) (by simp) ?_
        refine AllReady.cons rfl (fun K hK => ?_) ?_
        ·
          go_simp
          refine hK _ _ ?_; clear hK K
          refine wpAny_ready (rs := [11]) (by kernel_rfl) (by simp) ?_
          refine AllReady.cons rfl (fun K hK => ?_) ?_
          ·
            refine step_append_sl _ rfl _ _ 79 91 rfl Tryz.underlying79 info_level rfl (by decide) (by decide) q2.Ae nle q2.ce (leC S.le q2.Le) rfl HSC.out (by have := HLE.out; omega) ⟨w2d.heap.size, 0, none⟩ 1 1 [.int .i64 (vi : Int), .slice none 0 0] rfl rfl (box_news w2d 91 [.int .i64 (vi : Int), .slice none 0 0]) (by intro u hu; simp at hu; rcases hu with rfl | rfl <;> rfl) (by decide) (by decide) ?_
            intro g' c5 w5 hr5 hg5 hk5
            obtain ⟨y1, y2, q', y3, y4⟩ := HFIN.out g' c5 w5 hr5 (by simpa using hg5) (hk5 _ (fun j hj => hj))
            have HX := Lib.hid (show _ ∧ _ from ⟨y3, y4⟩)
            clear hr5 hg5 hk5 y3 y4
            refine hK _ _ ?_; clear hK K
            refine wpAny_take (i := 12) (v := ?_) rfl (by kernel_rfl) (by kernel_rfl) (by kernel_rfl) (fun _ _ _ h => h) (Or.inl ⟨by kernel_rfl, ?_⟩) ?_
            rotate_left 1
            · (intro w; go_simp <;> with_reducible rfl)
            go_simp
            refine wpAny_take (i := 13) (v := ?_) rfl (by kernel_rfl) (by kernel_rfl) (by kernel_rfl) (fun _ _ _ h => h) (Or.inl ⟨by kernel_rfl, ?_⟩) ?_
            rotate_left 1
            · (intro w; go_simp <;> with_reducible rfl)
            go_simp
            refine wpAny_ready (rs := [14]) (by kernel_rfl) (by simp) ?_
            refine AllReady.cons rfl (fun K hK => ?_) ?_
            ·
              go_simp
              refine hK _ _ ?_; clear hK K
              refine wpAny_done (by kernel_rfl) ?_ _
              go_wp2_with fail; go_ret; exact ⟨rfl, .inr ⟨trivial, q', HX.out.1, HX.out.2⟩⟩
            exact AllReady.nil
          exact AllReady.nil
        exact AllReady.nil
      exact AllReady.nil
    exact AllReady.nil
  · have HD : Hid (Calls Tryz.prog 52 #[.pointer (some ⟨q.bt, 0, none⟩), .int .i32 l] w fun e w' => e = .returned (.int .i64 (errZ S.n S.L l)) ∧ w = w') := decide_no w hT (by omega) l l0 l1 he
    have hcs : errZ S.n S.L l = 41 ∨ errZ S.n S.L l = 42 := by
      rcases errZ_cases S.n S.L l with ⟨_, e⟩ | ⟨_, e⟩ | ⟨_, _, _, _, _, _, e⟩
      · exact .inl e
      · exact .inr e
      · exact absurd e he
    have HNE := Lib.hid he
    clear hT hF h hd hO hdle he
    rcases hcs with e1 | e1
    · rw [e1] at HD ⊢
      rw [if_pos rfl]
      rw [e1] at HNE
      clear e1
      go_enter Tryz.func32, Tryz.ntmps32
      go_wp2_with fail
      refine HD.out.mono ?_
      rintro e w' ⟨rfl, rfl⟩
      go_wp2_with fail
      go_ret
      exact ⟨rfl, .inl ⟨HNE.out, rfl⟩⟩
    · rw [e1] at HD ⊢
      rw [if_neg (by omega)]
      rw [e1] at HNE
      clear e1
      go_enter Tryz.func32, Tryz.ntmps32
      go_wp2_with fail
      refine HD.out.mono ?_
      rintro e w' ⟨rfl, rfl⟩
      go_wp2_with fail
      go_ret
      exact ⟨rfl, .inl ⟨HNE.out, rfl⟩⟩
end Go.Proofs.YtkckodpfhlpkgaaGreat
