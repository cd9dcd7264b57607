/- The contract of an engine's watch: a clause more is told when a literal is false. -/
import Derived.Test.YtkckodpfhlpkgaaGreatEngU
import Derived.Test.YtkckodpfhlpkgaaGreatLitA
import Derived.Deep.RegionWith
namespace Go.Proofs.YtkckodpfhlpkgaaGreat
open Go.RowKit LitM TrailM EngM

theorem natC_snoc (l : List Nat) (id j : Nat) (hj : j < l.length + 1) : natC (l ++ [id]) j = appV (natC l) l.length [.int .i64 (id : Int)] j := by
  unfold appV natC
  by_cases e : j < l.length
  · rw [if_pos e, List.getD, List.getD, List.getElem?_append_left e]
  · have : j = l.length := by omega
    subst this
    rw [if_neg e, List.getD, List.getElem?_append_right (Nat.le_refl _)]; simp
/-- What watch leaves. -/
def WatchTo (w : World) (b : Nat) (q : Pm) (S : Eng) (d id : Nat) (l : Int) (e : Ending) (w' : World) : Prop :=
  e = .returned (.tuple #[]) ∧ ∃ own' X, E6 w' b { q with own := own', Wb := fun k => if k = plc l then X else q.Wb k } (watchF S id l) d ∧ Ext q { q with own := own', Wb := fun k => if k = plc l then X else q.Wb k } w w'
set_option maxHeartbeats 6400000 in
set_option maxRecDepth 100000 in
theorem ewatch_any {w : World} {b : Nat} {q : Pm} {S : Eng} {d : Nat} (h : E6 w b q S d) (id : Nat) (l : Int) (l0 : -2147483648 ≤ l) (l1 : l ≤ 2147483647) (hp : plc l < S.wa.length) (hn : (waA S.wa (plc l)).length ≤ 90000) :
    Calls Tryz.prog 87 #[.pointer (some ⟨b, 0, none⟩), .int .i64 (id : Int), .int .i32 l] w (WatchTo w b q S d id l) := by
  have hpl : placeZ l = (plc l : Int) := by unfold plc; have := (show 0 ≤ placeZ l from by unfold placeZ absZ; split <;> (try split) <;> (try split) <;> omega); omega
  have HL := Lib.hid (place_any l w l0 l1)
  rw [hpl] at HL
  unfold WatchTo watchF
  generalize plc l = p at *
  clear hpl
  obtain ⟨gw, hA, hrow⟩ := h.wa.1.row (by omega)
  have ogw : q.own gw = .wrow := h.wa.2 gw (by rw [hA, onB_some])
  have HE : Hid (E6 w b q S d) := h
  have hcw := hrow.bd
  obtain ⟨hcw1, hcw2⟩ := hcw
  have HC : Hid (∀ W, Below w.heap.size w W → W.cell? ⟨b, 3, none⟩ = some (.slice (some ⟨gw, 0, none⟩) S.wa.length q.cw) ∧ W.cell? ⟨gw, p, none⟩ = some (.slice (q.Wb p).1 (waA S.wa p).length (q.Wb p).2)) := fun W hW => by
    have h1 := h.h3
    rw [hA] at h1
    have h2 : w.cell? ⟨gw, p, none⟩ = some (waC S.wa q.Wb p) := hrow.cell (show p < S.wa.length * 1 by omega)
    exact ⟨(hW.cell (p := ⟨b, 3, none⟩) h.lt).trans h1, (hW.cell (p := ⟨gw, p, none⟩) hrow.lt).trans h2⟩
  have HD : Hid (∀ W w2, Below w.heap.size w W → Kf (fun k => onB (q.Wb p).1 k) W w2 → w2.cell? ⟨b, 3, none⟩ = some (.slice (some ⟨gw, 0, none⟩) S.wa.length q.cw) ∧ w2.cell? ⟨gw, p, none⟩ = some (.slice (q.Wb p).1 (waA S.wa p).length (q.Wb p).2) ∧ w2.frozen? ⟨gw, p, none⟩ = false) := fun W w2 hW hk => by
    obtain ⟨c1, c2⟩ := HC.out W hW
    have hs := hW.size
    have nb : ¬ onB (q.Wb p).1 b := fun e => by have := (h.wb p hp).2 b e; rw [h.ob] at this; cases this
    have ng : ¬ onB (q.Wb p).1 gw := fun e => by have := (h.wb p hp).2 gw e; rw [ogw] at this; cases this
    have hb2 := hk.block b (by have := h.lt; omega) nb
    have hg2 := hk.block gw (by have := hrow.lt; omega) ng
    refine ⟨(World.cell?_of_block (a := ⟨b, 3, none⟩) hb2).trans c1, (World.cell?_of_block (a := ⟨gw, p, none⟩) hg2).trans c2, ?_⟩
    rw [World.frozen?_of_block (a := ⟨gw, p, none⟩) (hg2.trans (hW.block gw hrow.lt))]
    exact hrow.free p
  have HS : Hid (SlV 3 1 (w.drew.alloc (.cells #[.int .i64 (id : Int)] 3)) (q.Wb p).1 (waA S.wa p).length (q.Wb p).2 (natC (waA S.wa p))) := SlV.alloc (w := w.drew) ((h.wb p hp).1.same (fun _ _ => rfl)) _
  have HB : Hid (Below w.heap.size w (w.drew.alloc (.cells #[.int .i64 (id : Int)] 3))) := (Below.drew (Below.refl _ _)).alloc (Nat.le_refl _) _
  have HF : Hid (∀ g' c' w2, RowV 3 1 w2 g' ((waA S.wa p).length + 1) c' (appV (natC (waA S.wa p)) ((waA S.wa p).length * 1) [.int .i64 (id : Int)]) → (onB (q.Wb p).1 g' ∨ (w.drew.alloc (.cells #[.int .i64 (id : Int)] 3)).heap.size ≤ g') → Kf (fun k => onB (q.Wb p).1 k) (w.drew.alloc (.cells #[.int .i64 (id : Int)] 3)) w2 →
      ∃ own' X, E6 (w2.setCell ⟨gw, p, none⟩ (.slice (some ⟨g', 0, none⟩) ((waA S.wa p).length + 1) c')) b { q with own := own', Wb := fun k => if k = p then X else q.Wb k } { S with wa := S.wa.set p (waA S.wa p ++ [id]) } d ∧ Ext q { q with own := own', Wb := fun k => if k = p then X else q.Wb k } w (w2.setCell ⟨gw, p, none⟩ (.slice (some ⟨g', 0, none⟩) ((waA S.wa p).length + 1) c'))) := fun g' c' w2 hr hg hk => by
    obtain ⟨own', h1, h2⟩ := HE.out.pushW hp hA HB.out (hr.congr fun j hj => by rw [natC_snoc _ _ _ (by omega), Nat.mul_one]) hg hk
    exact ⟨own', _, h1, h2⟩
  obtain ⟨a1, a2⟩ := HC.out w (Below.refl _ _)
  obtain ⟨b1, b2⟩ := HC.out (w.alloc (.cells #[.int .i64 (id : Int)] 3)) ((Below.refl _ _).alloc (Nat.le_refl _) _)
  clear h hrow HE
  generalize waA S.wa p = wp at *
  generalize (q.Wb p).1 = Ap at *
  generalize (q.Wb p).2 = cp at *
  generalize S.wa.length = nw at *
  go_enter Tryz.func87, Tryz.ntmps87
  go_wp2_with fail
  refine HL.out.mono ?_
  rintro e w' ⟨rfl, rfl⟩
  clear HL
  go_upto_region 1 with (fail)
  refine wp_region_any (by kernel_rfl) ?_
  change wpAny _ _ _ _ _ _ _ (World.drew _)
  refine wpAny_take (i := 0) (v := ?_) rfl (by kernel_rfl) (by kernel_rfl) (by kernel_rfl) (fun _ _ _ h => h) (Or.inl ⟨by kernel_rfl, ?_⟩) ?_
  rotate_left 1
  · (intro w; go_simp <;> with_reducible rfl)
  refine wpAny_take (i := 1) (v := ?_) rfl (by kernel_rfl) (by kernel_rfl) (by kernel_rfl) (fun _ _ _ h => h) (Or.inl ⟨by kernel_rfl, ?_⟩) ?_
  rotate_left 1
  · (intro w; go_simp <;> with_reducible rfl)
  refine wpAny_take (i := 2) (v := ?_) rfl (by kernel_rfl) (by kernel_rfl) (by kernel_rfl) (fun _ _ _ h => h) (Or.inl ⟨by kernel_rfl, ?_⟩) ?_
  rotate_left 1
  · (intro w; go_simp <;> with_reducible rfl)
  refine wpAny_take (i := 4) (v := ?_) rfl (by kernel_rfl) (by kernel_rfl) (by kernel_rfl) (fun _ _ _ h => h) (Or.inl ⟨by kernel_rfl, ?_⟩) ?_
  rotate_left 1
  · (intro w; go_simp <;> with_reducible rfl)
  refine wpAny_take (i := 5) (v := ?_) rfl (by kernel_rfl) (by kernel_rfl) (by kernel_rfl) (fun _ _ _ h => h) (Or.inl ⟨by kernel_rfl, ?_⟩) ?_
  rotate_left 1
  · (intro w; go_simp <;> with_reducible rfl)
  refine wpAny_take (i := 6) (v := ?_) rfl (by kernel_rfl) (by kernel_rfl) (by kernel_rfl) (fun _ _ _ h => h) (Or.inl ⟨by kernel_rfl, ?_⟩) ?_
  rotate_left 1
  · (intro w; go_simp <;> with_reducible rfl)
  refine wpAny_take (i := 7) (v := ?_) rfl (by kernel_rfl) (by kernel_rfl) (by kernel_rfl) (fun _ _ _ h => h) (Or.inl ⟨by kernel_rfl, ?_⟩) ?_
  rotate_left 1
  · (intro w; go_simp <;> with_reducible rfl)
  refine wpAny_take (i := 9) (v := ?_) rfl (by kernel_rfl) (by kernel_rfl) (by kernel_rfl) (fun _ _ _ h => h) (Or.inl ⟨by kernel_rfl, ?_⟩) ?_
  rotate_left 1
  · (intro w; go_simp <;> with_reducible rfl)
  refine wpAny_take (i := 12) (v := ?_) rfl (by kernel_rfl) (by kernel_rfl) (by kernel_rfl) (fun _ _ _ h => h) (Or.inl ⟨by kernel_rfl, ?_⟩) ?_
  rotate_left 1
  · (intro w; go_simp <;> with_reducible rfl)
  refine wpAny_ready (rs := [3, 8, 13]) (by kernel_rfl) (by simp) ?_
  refine AllReady.cons rfl (fun K hK => ?_) ?_
  ·
    go_simp
    refine hK _ _ ?_; clear hK K
    refine wpAny_ready (rs := [8, 13]) (by kernel_rfl) (by simp) ?_
    refine AllReady.cons rfl (fun K hK => ?_) ?_
    ·
      go_simp
      refine hK _ _ ?_; clear hK K
      refine wpAny_ready (rs := [10, 13]) (by kernel_rfl) (by simp) ?_
      refine AllReady.cons rfl (fun K hK => ?_) ?_
      ·
        go_simp
        refine hK _ _ ?_; clear hK K
        refine wpAny_ready (rs := [11, 13]) (by kernel_rfl) (by simp) ?_
        refine AllReady.cons rfl (fun K hK => ?_) ?_
        ·
          go_simp
          refine hK _ _ ?_; clear hK K
          refine wpAny_ready (rs := [13]) (by kernel_rfl) (by simp) ?_
          refine AllReady.cons rfl (fun K hK => ?_) ?_
          ·
            go_simp
            refine hK _ _ ?_; clear hK K
            refine wpAny_ready (rs := [14]) (by kernel_rfl) (by simp) ?_
            refine AllReady.cons rfl (fun K hK => ?_) ?_
            ·
              refine step_append_sl _ rfl _ _ 37 3 rfl Tryz.underlying37 info_tint rfl (by decide) (by decide) Ap wp.length cp (natC wp) rfl HS.out (by omega) ⟨w.heap.size, 0, none⟩ 1 1 [.int .i64 (id : Int)] rfl rfl (box_news w.drew 3 [.int .i64 (id : Int)]) (by intro u hu; simp at hu; subst hu; rfl) (by decide) (by decide) ?_
              intro g' c' w2 hr hg hk
              have hk := hk _ (fun j hj => hj)
              obtain ⟨d1, d2, f2⟩ := HD.out _ w2 HB.out hk
              refine hK _ _ ?_; clear hK K
              refine wpAny_ready (rs := [15]) (by kernel_rfl) (by simp) ?_
              refine AllReady.cons rfl (fun K hK => ?_) ?_
              ·
                go_simp
                refine hK _ _ ?_; clear hK K
                refine wpAny_ready (rs := [16]) (by kernel_rfl) (by simp) ?_
                refine AllReady.cons rfl (fun K hK => ?_) ?_
                ·
                  go_simp
                  refine hK _ _ ?_; clear hK K
                  refine wpAny_done (by kernel_rfl) ?_ _
                  go_wp2_with fail; go_end0; exact ⟨rfl, HF.out _ _ _ hr hg hk⟩
                exact AllReady.nil
              exact AllReady.nil
            exact AllReady.nil
          exact AllReady.nil
        refine AllReady.cons rfl (fun K hK => ?_) ?_
        ·
          go_simp
          refine hK _ _ ?_; clear hK K
          refine wpAny_ready (rs := [11]) (by kernel_rfl) (by simp) ?_
          refine AllReady.cons rfl (fun K hK => ?_) ?_
          ·
            go_simp
            refine hK _ _ ?_; clear hK K
            refine wpAny_ready (rs := [14]) (by kernel_rfl) (by simp) ?_
            refine AllReady.cons rfl (fun K hK => ?_) ?_
            ·
              refine step_append_sl _ rfl _ _ 37 3 rfl Tryz.underlying37 info_tint rfl (by decide) (by decide) Ap wp.length cp (natC wp) rfl HS.out (by omega) ⟨w.heap.size, 0, none⟩ 1 1 [.int .i64 (id : Int)] rfl rfl (box_news w.drew 3 [.int .i64 (id : Int)]) (by intro u hu; simp at hu; subst hu; rfl) (by decide) (by decide) ?_
              intro g' c' w2 hr hg hk
              have hk := hk _ (fun j hj => hj)
              obtain ⟨d1, d2, f2⟩ := HD.out _ w2 HB.out hk
              refine hK _ _ ?_; clear hK K
              refine wpAny_ready (rs := [15]) (by kernel_rfl) (by simp) ?_
              refine AllReady.cons rfl (fun K hK => ?_) ?_
              ·
                go_simp
                refine hK _ _ ?_; clear hK K
                refine wpAny_ready (rs := [16]) (by kernel_rfl) (by simp) ?_
                refine AllReady.cons rfl (fun K hK => ?_) ?_
                ·
                  go_simp
                  refine hK _ _ ?_; clear hK K
                  refine wpAny_done (by kernel_rfl) ?_ _
                  go_wp2_with fail; go_end0; exact ⟨rfl, HF.out _ _ _ hr hg hk⟩
                exact AllReady.nil
              exact AllReady.nil
            exact AllReady.nil
          exact AllReady.nil
        exact AllReady.nil
      refine AllReady.cons rfl (fun K hK => ?_) ?_
      ·
        go_simp
        refine hK _ _ ?_; clear hK K
        refine wpAny_ready (rs := [10]) (by kernel_rfl) (by simp) ?_
        refine AllReady.cons rfl (fun K hK => ?_) ?_
        ·
          go_simp
          refine hK _ _ ?_; clear hK K
          refine wpAny_ready (rs := [11]) (by kernel_rfl) (by simp) ?_
          refine AllReady.cons rfl (fun K hK => ?_) ?_
          ·
            go_simp
            refine hK _ _ ?_; clear hK K
            refine wpAny_ready (rs := [14]) (by kernel_rfl) (by simp) ?_
            refine AllReady.cons rfl (fun K hK => ?_) ?_
            ·
              refine step_append_sl _ rfl _ _ 37 3 rfl Tryz.underlying37 info_tint rfl (by decide) (by decide) Ap wp.length cp (natC wp) rfl HS.out (by omega) ⟨w.heap.size, 0, none⟩ 1 1 [.int .i64 (id : Int)] rfl rfl (box_news w.drew 3 [.int .i64 (id : Int)]) (by intro u hu; simp at hu; subst hu; rfl) (by decide) (by decide) ?_
              intro g' c' w2 hr hg hk
              have hk := hk _ (fun j hj => hj)
              obtain ⟨d1, d2, f2⟩ := HD.out _ w2 HB.out hk
              refine hK _ _ ?_; clear hK K
              refine wpAny_ready (rs := [15]) (by kernel_rfl) (by simp) ?_
              refine AllReady.cons rfl (fun K hK => ?_) ?_
              ·
                go_simp
                refine hK _ _ ?_; clear hK K
                refine wpAny_ready (rs := [16]) (by kernel_rfl) (by simp) ?_
                refine AllReady.cons rfl (fun K hK => ?_) ?_
                ·
                  go_simp
                  refine hK _ _ ?_; clear hK K
                  refine wpAny_done (by kernel_rfl) ?_ _
                  go_wp2_with fail; go_end0; exact ⟨rfl, HF.out _ _ _ hr hg hk⟩
                exact AllReady.nil
              exact AllReady.nil
            exact AllReady.nil
          exact AllReady.nil
        exact AllReady.nil
      exact AllReady.nil
    refine AllReady.cons rfl (fun K hK => ?_) ?_
    ·
      go_simp
      refine hK _ _ ?_; clear hK K
      refine wpAny_ready (rs := [8]) (by kernel_rfl) (by simp) ?_
      refine AllReady.cons rfl (fun K hK => ?_) ?_
      ·
        go_simp
        refine hK _ _ ?_; clear hK K
        refine wpAny_ready (rs := [10]) (by kernel_rfl) (by simp) ?_
        refine AllReady.cons rfl (fun K hK => ?_) ?_
        ·
          go_simp
          refine hK _ _ ?_; clear hK K
          refine wpAny_ready (rs := [11]) (by kernel_rfl) (by simp) ?_
          refine AllReady.cons rfl (fun K hK => ?_) ?_
          ·
            go_simp
            refine hK _ _ ?_; clear hK K
            refine wpAny_ready (rs := [14]) (by kernel_rfl) (by simp) ?_
            refine AllReady.cons rfl (fun K hK => ?_) ?_
            ·
              refine step_append_sl _ rfl _ _ 37 3 rfl Tryz.underlying37 info_tint rfl (by decide) (by decide) Ap wp.length cp (natC wp) rfl HS.out (by omega) ⟨w.heap.size, 0, none⟩ 1 1 [.int .i64 (id : Int)] rfl rfl (box_news w.drew 3 [.int .i64 (id : Int)]) (by intro u hu; simp at hu; subst hu; rfl) (by decide) (by decide) ?_
              intro g' c' w2 hr hg hk
              have hk := hk _ (fun j hj => hj)
              obtain ⟨d1, d2, f2⟩ := HD.out _ w2 HB.out hk
              refine hK _ _ ?_; clear hK K
              refine wpAny_ready (rs := [15]) (by kernel_rfl) (by simp) ?_
              refine AllReady.cons rfl (fun K hK => ?_) ?_
              ·
                go_simp
                refine hK _ _ ?_; clear hK K
                refine wpAny_ready (rs := [16]) (by kernel_rfl) (by simp) ?_
                refine AllReady.cons rfl (fun K hK => ?_) ?_
                ·
                  go_simp
                  refine hK _ _ ?_; clear hK K
                  refine wpAny_done (by kernel_rfl) ?_ _
                  go_wp2_with fail; go_end0; exact ⟨rfl, HF.out _ _ _ hr hg hk⟩
                exact AllReady.nil
              exact AllReady.nil
            exact AllReady.nil
          exact AllReady.nil
        exact AllReady.nil
      exact AllReady.nil
    exact AllReady.nil
  refine AllReady.cons rfl (fun K hK => ?_) ?_
  ·
    go_simp
    refine hK _ _ ?_; clear hK K
    refine wpAny_ready (rs := [3, 10, 13]) (by kernel_rfl) (by simp) ?_
    refine AllReady.cons rfl (fun K hK => ?_) ?_
    ·
      go_simp
      refine hK _ _ ?_; clear hK K
      refine wpAny_ready (rs := [10, 13]) (by kernel_rfl) (by simp) ?_
      refine AllReady.cons rfl (fun K hK => ?_) ?_
      ·
        go_simp
        refine hK _ _ ?_; clear hK K
        refine wpAny_ready (rs := [11, 13]) (by kernel_rfl) (by simp) ?_
        refine AllReady.cons rfl (fun K hK => ?_) ?_
        ·
          go_simp
          refine hK _ _ ?_; clear hK K
          refine wpAny_ready (rs := [13]) (by kernel_rfl) (by simp) ?_
          refine AllReady.cons rfl (fun K hK => ?_) ?_
          ·
            go_simp
            refine hK _ _ ?_; clear hK K
            refine wpAny_ready (rs := [14]) (by kernel_rfl) (by simp) ?_
            refine AllReady.cons rfl (fun K hK => ?_) ?_
            ·
              refine step_append_sl _ rfl _ _ 37 3 rfl Tryz.underlying37 info_tint rfl (by decide) (by decide) Ap wp.length cp (natC wp) rfl HS.out (by omega) ⟨w.heap.size, 0, none⟩ 1 1 [.int .i64 (id : Int)] rfl rfl (box_news w.drew 3 [.int .i64 (id : Int)]) (by intro u hu; simp at hu; subst hu; rfl) (by decide) (by decide) ?_
              intro g' c' w2 hr hg hk
              have hk := hk _ (fun j hj => hj)
              obtain ⟨d1, d2, f2⟩ := HD.out _ w2 HB.out hk
              refine hK _ _ ?_; clear hK K
              refine wpAny_ready (rs := [15]) (by kernel_rfl) (by simp) ?_
              refine AllReady.cons rfl (fun K hK => ?_) ?_
              ·
                go_simp
                refine hK _ _ ?_; clear hK K
                refine wpAny_ready (rs := [16]) (by kernel_rfl) (by simp) ?_
                refine AllReady.cons rfl (fun K hK => ?_) ?_
                ·
                  go_simp
                  refine hK _ _ ?_; clear hK K
                  refine wpAny_done (by kernel_rfl) ?_ _
                  go_wp2_with fail; go_end0; exact ⟨rfl, HF.out _ _ _ hr hg hk⟩
                exact AllReady.nil
              exact AllReady.nil
            exact AllReady.nil
          exact AllReady.nil
        refine AllReady.cons rfl (fun K hK => ?_) ?_
        ·
          go_simp
          refine hK _ _ ?_; clear hK K
          refine wpAny_ready (rs := [11]) (by kernel_rfl) (by simp) ?_
          refine AllReady.cons rfl (fun K hK => ?_) ?_
          ·
            go_simp
            refine hK _ _ ?_; clear hK K
            refine wpAny_ready (rs := [14]) (by kernel_rfl) (by simp) ?_
            refine AllReady.cons rfl (fun K hK => ?_) ?_
            ·
              refine step_append_sl _ rfl _ _ 37 3 rfl Tryz.underlying37 info_tint rfl (by decide) (by decide) Ap wp.length cp (natC wp) rfl HS.out (by omega) ⟨w.heap.size, 0, none⟩ 1 1 [.int .i64 (id : Int)] rfl rfl (box_news w.drew 3 [.int .i64 (id : Int)]) (by intro u hu; simp at hu; subst hu; rfl) (by decide) (by decide) ?_
              intro g' c' w2 hr hg hk
              have hk := hk _ (fun j hj => hj)
              obtain ⟨d1, d2, f2⟩ := HD.out _ w2 HB.out hk
              refine hK _ _ ?_; clear hK K
              refine wpAny_ready (rs := [15]) (by kernel_rfl) (by simp) ?_
              refine AllReady.cons rfl (fun K hK => ?_) ?_
              ·
                go_simp
                refine hK _ _ ?_; clear hK K
                refine wpAny_ready (rs := [16]) (by kernel_rfl) (by simp) ?_
                refine AllReady.cons rfl (fun K hK => ?_) ?_
                ·
                  go_simp
                  refine hK _ _ ?_; clear hK K
                  refine wpAny_done (by kernel_rfl) ?_ _
                  go_wp2_with fail; go_end0; exact ⟨rfl, HF.out _ _ _ hr hg hk⟩
                exact AllReady.nil
              exact AllReady.nil
            exact AllReady.nil
          exact AllReady.nil
        exact AllReady.nil
      refine AllReady.cons rfl (fun K hK => ?_) ?_
      ·
        go_simp
        refine hK _ _ ?_; clear hK K
        refine wpAny_ready (rs := [10]) (by kernel_rfl) (by simp) ?_
        refine AllReady.cons rfl (fun K hK => ?_) ?_
        ·
          go_simp
          refine hK _ _ ?_; clear hK K
          refine wpAny_ready (rs := [11]) (by kernel_rfl) (by simp) ?_
          refine AllReady.cons rfl (fun K hK => ?_) ?_
          ·
            go_simp
            refine hK _ _ ?_; clear hK K
            refine wpAny_ready (rs := [14]) (by kernel_rfl) (by simp) ?_
            refine AllReady.cons rfl (fun K hK => ?_) ?_
            ·
              refine step_append_sl _ rfl _ _ 37 3 rfl Tryz.underlying37 info_tint rfl (by decide) (by decide) Ap wp.length cp (natC wp) rfl HS.out (by omega) ⟨w.heap.size, 0, none⟩ 1 1 [.int .i64 (id : Int)] rfl rfl (box_news w.drew 3 [.int .i64 (id : Int)]) (by intro u hu; simp at hu; subst hu; rfl) (by decide) (by decide) ?_
              intro g' c' w2 hr hg hk
              have hk := hk _ (fun j hj => hj)
              obtain ⟨d1, d2, f2⟩ := HD.out _ w2 HB.out hk
              refine hK _ _ ?_; clear hK K
              refine wpAny_ready (rs := [15]) (by kernel_rfl) (by simp) ?_
              refine AllReady.cons rfl (fun K hK => ?_) ?_
              ·
                go_simp
                refine hK _ _ ?_; clear hK K
                refine wpAny_ready (rs := [16]) (by kernel_rfl) (by simp) ?_
                refine AllReady.cons rfl (fun K hK => ?_) ?_
                ·
                  go_simp
                  refine hK _ _ ?_; clear hK K
                  refine wpAny_done (by kernel_rfl) ?_ _
                  go_wp2_with fail; go_end0; exact ⟨rfl, HF.out _ _ _ hr hg hk⟩
                exact AllReady.nil
              exact AllReady.nil
            exact AllReady.nil
          exact AllReady.nil
        exact AllReady.nil
      exact AllReady.nil
    refine AllReady.cons rfl (fun K hK => ?_) ?_
    ·
      go_simp
      refine hK _ _ ?_; clear hK K
      refine wpAny_ready (rs := [3, 11, 13]) (by kernel_rfl) (by simp) ?_
      refine AllReady.cons rfl (fun K hK => ?_) ?_
      ·
        go_simp
        refine hK _ _ ?_; clear hK K
        refine wpAny_ready (rs := [11, 13]) (by kernel_rfl) (by simp) ?_
        refine AllReady.cons rfl (fun K hK => ?_) ?_
        ·
          go_simp
          refine hK _ _ ?_; clear hK K
          refine wpAny_ready (rs := [13]) (by kernel_rfl) (by simp) ?_
          refine AllReady.cons rfl (fun K hK => ?_) ?_
          ·
            go_simp
            refine hK _ _ ?_; clear hK K
            refine wpAny_ready (rs := [14]) (by kernel_rfl) (by simp) ?_
            refine AllReady.cons rfl (fun K hK => ?_) ?_
            ·
              refine step_append_sl _ rfl _ _ 37 3 rfl Tryz.underlying37 info_tint rfl (by decide) (by decide) Ap wp.length cp (natC wp) rfl HS.out (by omega) ⟨w.heap.size, 0, none⟩ 1 1 [.int .i64 (id : Int)] rfl rfl (box_news w.drew 3 [.int .i64 (id : Int)]) (by intro u hu; simp at hu; subst hu; rfl) (by decide) (by decide) ?_
              intro g' c' w2 hr hg hk
              have hk := hk _ (fun j hj => hj)
              obtain ⟨d1, d2, f2⟩ := HD.out _ w2 HB.out hk
              refine hK _ _ ?_; clear hK K
              refine wpAny_ready (rs := [15]) (by kernel_rfl) (by simp) ?_
              refine AllReady.cons rfl (fun K hK => ?_) ?_
              ·
                go_simp
                refine hK _ _ ?_; clear hK K
                refine wpAny_ready (rs := [16]) (by kernel_rfl) (by simp) ?_
                refine AllReady.cons rfl (fun K hK => ?_) ?_
                ·
                  go_simp
                  refine hK _ _ ?_; clear hK K
                  refine wpAny_done (by kernel_rfl) ?_ _
                  go_wp2_with fail; go_end0; exact ⟨rfl, HF.out _ _ _ hr hg hk⟩
                exact AllReady.nil
              exact AllReady.nil
            exact AllReady.nil
          exact AllReady.nil
        refine AllReady.cons rfl (fun K hK => ?_) ?_
        ·
          go_simp
          refine hK _ _ ?_; clear hK K
          refine wpAny_ready (rs := [11]) (by kernel_rfl) (by simp) ?_
          refine AllReady.cons rfl (fun K hK => ?_) ?_
          ·
            go_simp
            refine hK _ _ ?_; clear hK K
            refine wpAny_ready (rs := [14]) (by kernel_rfl) (by simp) ?_
            refine AllReady.cons rfl (fun K hK => ?_) ?_
            ·
              refine step_append_sl _ rfl _ _ 37 3 rfl Tryz.underlying37 info_tint rfl (by decide) (by decide) Ap wp.length cp (natC wp) rfl HS.out (by omega) ⟨w.heap.size, 0, none⟩ 1 1 [.int .i64 (id : Int)] rfl rfl (box_news w.drew 3 [.int .i64 (id : Int)]) (by intro u hu; simp at hu; subst hu; rfl) (by decide) (by decide) ?_
              intro g' c' w2 hr hg hk
              have hk := hk _ (fun j hj => hj)
              obtain ⟨d1, d2, f2⟩ := HD.out _ w2 HB.out hk
              refine hK _ _ ?_; clear hK K
              refine wpAny_ready (rs := [15]) (by kernel_rfl) (by simp) ?_
              refine AllReady.cons rfl (fun K hK => ?_) ?_
              ·
                go_simp
                refine hK _ _ ?_; clear hK K
                refine wpAny_ready (rs := [16]) (by kernel_rfl) (by simp) ?_
                refine AllReady.cons rfl (fun K hK => ?_) ?_
                ·
                  go_simp
                  refine hK _ _ ?_; clear hK K
                  refine wpAny_done (by kernel_rfl) ?_ _
                  go_wp2_with fail; go_end0; exact ⟨rfl, HF.out _ _ _ hr hg hk⟩
                exact AllReady.nil
              exact AllReady.nil
            exact AllReady.nil
          exact AllReady.nil
        exact AllReady.nil
      refine AllReady.cons rfl (fun K hK => ?_) ?_
      ·
        go_simp
        refine hK _ _ ?_; clear hK K
        refine wpAny_ready (rs := [3, 13]) (by kernel_rfl) (by simp) ?_
        refine AllReady.cons rfl (fun K hK => ?_) ?_
        ·
          go_simp
          refine hK _ _ ?_; clear hK K
          refine wpAny_ready (rs := [13]) (by kernel_rfl) (by simp) ?_
          refine AllReady.cons rfl (fun K hK => ?_) ?_
          ·
            go_simp
            refine hK _ _ ?_; clear hK K
            refine wpAny_ready (rs := [14]) (by kernel_rfl) (by simp) ?_
            refine AllReady.cons rfl (fun K hK => ?_) ?_
            ·
              refine step_append_sl _ rfl _ _ 37 3 rfl Tryz.underlying37 info_tint rfl (by decide) (by decide) Ap wp.length cp (natC wp) rfl HS.out (by omega) ⟨w.heap.size, 0, none⟩ 1 1 [.int .i64 (id : Int)] rfl rfl (box_news w.drew 3 [.int .i64 (id : Int)]) (by intro u hu; simp at hu; subst hu; rfl) (by decide) (by decide) ?_
              intro g' c' w2 hr hg hk
              have hk := hk _ (fun j hj => hj)
              obtain ⟨d1, d2, f2⟩ := HD.out _ w2 HB.out hk
              refine hK _ _ ?_; clear hK K
              refine wpAny_ready (rs := [15]) (by kernel_rfl) (by simp) ?_
              refine AllReady.cons rfl (fun K hK => ?_) ?_
              ·
                go_simp
                refine hK _ _ ?_; clear hK K
                refine wpAny_ready (rs := [16]) (by kernel_rfl) (by simp) ?_
                refine AllReady.cons rfl (fun K hK => ?_) ?_
                ·
                  go_simp
                  refine hK _ _ ?_; clear hK K
                  refine wpAny_done (by kernel_rfl) ?_ _
                  go_wp2_with fail; go_end0; exact ⟨rfl, HF.out _ _ _ hr hg hk⟩
                exact AllReady.nil
              exact AllReady.nil
            exact AllReady.nil
          exact AllReady.nil
        refine AllReady.cons rfl (fun K hK => ?_) ?_
        ·
          go_simp
          refine hK _ _ ?_; clear hK K
          refine wpAny_ready (rs := [3, 14]) (by kernel_rfl) (by simp) ?_
          refine AllReady.cons rfl (fun K hK => ?_) ?_
          ·
            go_simp
            refine hK _ _ ?_; clear hK K
            refine wpAny_ready (rs := [14]) (by kernel_rfl) (by simp) ?_
            refine AllReady.cons rfl (fun K hK => ?_) ?_
            ·
              refine step_append_sl _ rfl _ _ 37 3 rfl Tryz.underlying37 info_tint rfl (by decide) (by decide) Ap wp.length cp (natC wp) rfl HS.out (by omega) ⟨w.heap.size, 0, none⟩ 1 1 [.int .i64 (id : Int)] rfl rfl (box_news w.drew 3 [.int .i64 (id : Int)]) (by intro u hu; simp at hu; subst hu; rfl) (by decide) (by decide) ?_
              intro g' c' w2 hr hg hk
              have hk := hk _ (fun j hj => hj)
              obtain ⟨d1, d2, f2⟩ := HD.out _ w2 HB.out hk
              refine hK _ _ ?_; clear hK K
              refine wpAny_ready (rs := [15]) (by kernel_rfl) (by simp) ?_
              refine AllReady.cons rfl (fun K hK => ?_) ?_
              ·
                go_simp
                refine hK _ _ ?_; clear hK K
                refine wpAny_ready (rs := [16]) (by kernel_rfl) (by simp) ?_
                refine AllReady.cons rfl (fun K hK => ?_) ?_
                ·
                  go_simp
                  refine hK _ _ ?_; clear hK K
                  refine wpAny_done (by kernel_rfl) ?_ _
                  go_wp2_with fail; go_end0; exact ⟨rfl, HF.out _ _ _ hr hg hk⟩
                exact AllReady.nil
              exact AllReady.nil
            exact AllReady.nil
          refine AllReady.cons rfl (fun K hK => ?_) ?_
          ·
            refine step_append_sl _ rfl _ _ 37 3 rfl Tryz.underlying37 info_tint rfl (by decide) (by decide) Ap wp.length cp (natC wp) rfl HS.out (by omega) ⟨w.heap.size, 0, none⟩ 1 1 [.int .i64 (id : Int)] rfl rfl (box_news w.drew 3 [.int .i64 (id : Int)]) (by intro u hu; simp at hu; subst hu; rfl) (by decide) (by decide) ?_
            intro g' c' w2 hr hg hk
            have hk := hk _ (fun j hj => hj)
            obtain ⟨d1, d2, f2⟩ := HD.out _ w2 HB.out hk
            refine hK _ _ ?_; clear hK K
            refine wpAny_ready (rs := [3]) (by kernel_rfl) (by simp) ?_
            refine AllReady.cons rfl (fun K hK => ?_) ?_
            ·
              go_simp
              refine hK _ _ ?_; clear hK K
              refine wpAny_ready (rs := [15]) (by kernel_rfl) (by simp) ?_
              refine AllReady.cons rfl (fun K hK => ?_) ?_
              ·
                go_simp
                refine hK _ _ ?_; clear hK K
                refine wpAny_ready (rs := [16]) (by kernel_rfl) (by simp) ?_
                refine AllReady.cons rfl (fun K hK => ?_) ?_
                ·
                  go_simp
                  refine hK _ _ ?_; clear hK K
                  refine wpAny_done (by kernel_rfl) ?_ _
                  go_wp2_with fail; go_end0; exact ⟨rfl, HF.out _ _ _ hr hg hk⟩
                exact AllReady.nil
              exact AllReady.nil
            exact AllReady.nil
          exact AllReady.nil
        exact AllReady.nil
      refine AllReady.cons rfl (fun K hK => ?_) ?_
      ·
        go_simp
        refine hK _ _ ?_; clear hK K
        refine wpAny_ready (rs := [3, 11]) (by kernel_rfl) (by simp) ?_
        refine AllReady.cons rfl (fun K hK => ?_) ?_
        ·
          go_simp
          refine hK _ _ ?_; clear hK K
          refine wpAny_ready (rs := [11]) (by kernel_rfl) (by simp) ?_
          refine AllReady.cons rfl (fun K hK => ?_) ?_
          ·
            go_simp
            refine hK _ _ ?_; clear hK K
            refine wpAny_ready (rs := [14]) (by kernel_rfl) (by simp) ?_
            refine AllReady.cons rfl (fun K hK => ?_) ?_
            ·
              refine step_append_sl _ rfl _ _ 37 3 rfl Tryz.underlying37 info_tint rfl (by decide) (by decide) Ap wp.length cp (natC wp) rfl HS.out (by omega) ⟨w.heap.size, 0, none⟩ 1 1 [.int .i64 (id : Int)] rfl rfl (box_news w.drew 3 [.int .i64 (id : Int)]) (by intro u hu; simp at hu; subst hu; rfl) (by decide) (by decide) ?_
              intro g' c' w2 hr hg hk
              have hk := hk _ (fun j hj => hj)
              obtain ⟨d1, d2, f2⟩ := HD.out _ w2 HB.out hk
              refine hK _ _ ?_; clear hK K
              refine wpAny_ready (rs := [15]) (by kernel_rfl) (by simp) ?_
              refine AllReady.cons rfl (fun K hK => ?_) ?_
              ·
                go_simp
                refine hK _ _ ?_; clear hK K
                refine wpAny_ready (rs := [16]) (by kernel_rfl) (by simp) ?_
                refine AllReady.cons rfl (fun K hK => ?_) ?_
                ·
                  go_simp
                  refine hK _ _ ?_; clear hK K
                  refine wpAny_done (by kernel_rfl) ?_ _
                  go_wp2_with fail; go_end0; exact ⟨rfl, HF.out _ _ _ hr hg hk⟩
                exact AllReady.nil
              exact AllReady.nil
            exact AllReady.nil
          exact AllReady.nil
        refine AllReady.cons rfl (fun K hK => ?_) ?_
        ·
          go_simp
          refine hK _ _ ?_; clear hK K
          refine wpAny_ready (rs := [3, 14]) (by kernel_rfl) (by simp) ?_
          refine AllReady.cons rfl (fun K hK => ?_) ?_
          ·
            go_simp
            refine hK _ _ ?_; clear hK K
            refine wpAny_ready (rs := [14]) (by kernel_rfl) (by simp) ?_
            refine AllReady.cons rfl (fun K hK => ?_) ?_
            ·
              refine step_append_sl _ rfl _ _ 37 3 rfl Tryz.underlying37 info_tint rfl (by decide) (by decide) Ap wp.length cp (natC wp) rfl HS.out (by omega) ⟨w.heap.size, 0, none⟩ 1 1 [.int .i64 (id : Int)] rfl rfl (box_news w.drew 3 [.int .i64 (id : Int)]) (by intro u hu; simp at hu; subst hu; rfl) (by decide) (by decide) ?_
              intro g' c' w2 hr hg hk
              have hk := hk _ (fun j hj => hj)
              obtain ⟨d1, d2, f2⟩ := HD.out _ w2 HB.out hk
              refine hK _ _ ?_; clear hK K
              refine wpAny_ready (rs := [15]) (by kernel_rfl) (by simp) ?_
              refine AllReady.cons rfl (fun K hK => ?_) ?_
              ·
                go_simp
                refine hK _ _ ?_; clear hK K
                refine wpAny_ready (rs := [16]) (by kernel_rfl) (by simp) ?_
                refine AllReady.cons rfl (fun K hK => ?_) ?_
                ·
                  go_simp
                  refine hK _ _ ?_; clear hK K
                  refine wpAny_done (by kernel_rfl) ?_ _
                  go_wp2_with fail; go_end0; exact ⟨rfl, HF.out _ _ _ hr hg hk⟩
                exact AllReady.nil
              exact AllReady.nil
            exact AllReady.nil
          refine AllReady.cons rfl (fun K hK => ?_) ?_
          ·
            refine step_append_sl _ rfl _ _ 37 3 rfl Tryz.underlying37 info_tint rfl (by decide) (by decide) Ap wp.length cp (natC wp) rfl HS.out (by omega) ⟨w.heap.size, 0, none⟩ 1 1 [.int .i64 (id : Int)] rfl rfl (box_news w.drew 3 [.int .i64 (id : Int)]) (by intro u hu; simp at hu; subst hu; rfl) (by decide) (by decide) ?_
            intro g' c' w2 hr hg hk
            have hk := hk _ (fun j hj => hj)
            obtain ⟨d1, d2, f2⟩ := HD.out _ w2 HB.out hk
            refine hK _ _ ?_; clear hK K
            refine wpAny_ready (rs := [3]) (by kernel_rfl) (by simp) ?_
            refine AllReady.cons rfl (fun K hK => ?_) ?_
            ·
              go_simp
              refine hK _ _ ?_; clear hK K
              refine wpAny_ready (rs := [15]) (by kernel_rfl) (by simp) ?_
              refine AllReady.cons rfl (fun K hK => ?_) ?_
              ·
                go_simp
                refine hK _ _ ?_; clear hK K
                refine wpAny_ready (rs := [16]) (by kernel_rfl) (by simp) ?_
                refine AllReady.cons rfl (fun K hK => ?_) ?_
                ·
                  go_simp
                  refine hK _ _ ?_; clear hK K
                  refine wpAny_done (by kernel_rfl) ?_ _
                  go_wp2_with fail; go_end0; exact ⟨rfl, HF.out _ _ _ hr hg hk⟩
                exact AllReady.nil
              exact AllReady.nil
            exact AllReady.nil
          exact AllReady.nil
        exact AllReady.nil
      exact AllReady.nil
    refine AllReady.cons rfl (fun K hK => ?_) ?_
    ·
      go_simp
      refine hK _ _ ?_; clear hK K
      refine wpAny_ready (rs := [3, 10]) (by kernel_rfl) (by simp) ?_
      refine AllReady.cons rfl (fun K hK => ?_) ?_
      ·
        go_simp
        refine hK _ _ ?_; clear hK K
        refine wpAny_ready (rs := [10]) (by kernel_rfl) (by simp) ?_
        refine AllReady.cons rfl (fun K hK => ?_) ?_
        ·
          go_simp
          refine hK _ _ ?_; clear hK K
          refine wpAny_ready (rs := [11]) (by kernel_rfl) (by simp) ?_
          refine AllReady.cons rfl (fun K hK => ?_) ?_
          ·
            go_simp
            refine hK _ _ ?_; clear hK K
            refine wpAny_ready (rs := [14]) (by kernel_rfl) (by simp) ?_
            refine AllReady.cons rfl (fun K hK => ?_) ?_
            ·
              refine step_append_sl _ rfl _ _ 37 3 rfl Tryz.underlying37 info_tint rfl (by decide) (by decide) Ap wp.length cp (natC wp) rfl HS.out (by omega) ⟨w.heap.size, 0, none⟩ 1 1 [.int .i64 (id : Int)] rfl rfl (box_news w.drew 3 [.int .i64 (id : Int)]) (by intro u hu; simp at hu; subst hu; rfl) (by decide) (by decide) ?_
              intro g' c' w2 hr hg hk
              have hk := hk _ (fun j hj => hj)
              obtain ⟨d1, d2, f2⟩ := HD.out _ w2 HB.out hk
              refine hK _ _ ?_; clear hK K
              refine wpAny_ready (rs := [15]) (by kernel_rfl) (by simp) ?_
              refine AllReady.cons rfl (fun K hK => ?_) ?_
              ·
                go_simp
                refine hK _ _ ?_; clear hK K
                refine wpAny_ready (rs := [16]) (by kernel_rfl) (by simp) ?_
                refine AllReady.cons rfl (fun K hK => ?_) ?_
                ·
                  go_simp
                  refine hK _ _ ?_; clear hK K
                  refine wpAny_done (by kernel_rfl) ?_ _
                  go_wp2_with fail; go_end0; exact ⟨rfl, HF.out _ _ _ hr hg hk⟩
                exact AllReady.nil
              exact AllReady.nil
            exact AllReady.nil
          exact AllReady.nil
        exact AllReady.nil
      refine AllReady.cons rfl (fun K hK => ?_) ?_
      ·
        go_simp
        refine hK _ _ ?_; clear hK K
        refine wpAny_ready (rs := [3, 11]) (by kernel_rfl) (by simp) ?_
        refine AllReady.cons rfl (fun K hK => ?_) ?_
        ·
          go_simp
          refine hK _ _ ?_; clear hK K
          refine wpAny_ready (rs := [11]) (by kernel_rfl) (by simp) ?_
          refine AllReady.cons rfl (fun K hK => ?_) ?_
          ·
            go_simp
            refine hK _ _ ?_; clear hK K
            refine wpAny_ready (rs := [14]) (by kernel_rfl) (by simp) ?_
            refine AllReady.cons rfl (fun K hK => ?_) ?_
            ·
              refine step_append_sl _ rfl _ _ 37 3 rfl Tryz.underlying37 info_tint rfl (by decide) (by decide) Ap wp.length cp (natC wp) rfl HS.out (by omega) ⟨w.heap.size, 0, none⟩ 1 1 [.int .i64 (id : Int)] rfl rfl (box_news w.drew 3 [.int .i64 (id : Int)]) (by intro u hu; simp at hu; subst hu; rfl) (by decide) (by decide) ?_
              intro g' c' w2 hr hg hk
              have hk := hk _ (fun j hj => hj)
              obtain ⟨d1, d2, f2⟩ := HD.out _ w2 HB.out hk
              refine hK _ _ ?_; clear hK K
              refine wpAny_ready (rs := [15]) (by kernel_rfl) (by simp) ?_
              refine AllReady.cons rfl (fun K hK => ?_) ?_
              ·
                go_simp
                refine hK _ _ ?_; clear hK K
                refine wpAny_ready (rs := [16]) (by kernel_rfl) (by simp) ?_
                refine AllReady.cons rfl (fun K hK => ?_) ?_
                ·
                  go_simp
                  refine hK _ _ ?_; clear hK K
                  refine wpAny_done (by kernel_rfl) ?_ _
                  go_wp2_with fail; go_end0; exact ⟨rfl, HF.out _ _ _ hr hg hk⟩
                exact AllReady.nil
              exact AllReady.nil
            exact AllReady.nil
          exact AllReady.nil
        refine AllReady.cons rfl (fun K hK => ?_) ?_
        ·
          go_simp
          refine hK _ _ ?_; clear hK K
          refine wpAny_ready (rs := [3, 14]) (by kernel_rfl) (by simp) ?_
          refine AllReady.cons rfl (fun K hK => ?_) ?_
          ·
            go_simp
            refine hK _ _ ?_; clear hK K
            refine wpAny_ready (rs := [14]) (by kernel_rfl) (by simp) ?_
            refine AllReady.cons rfl (fun K hK => ?_) ?_
            ·
              refine step_append_sl _ rfl _ _ 37 3 rfl Tryz.underlying37 info_tint rfl (by decide) (by decide) Ap wp.length cp (natC wp) rfl HS.out (by omega) ⟨w.heap.size, 0, none⟩ 1 1 [.int .i64 (id : Int)] rfl rfl (box_news w.drew 3 [.int .i64 (id : Int)]) (by intro u hu; simp at hu; subst hu; rfl) (by decide) (by decide) ?_
              intro g' c' w2 hr hg hk
              have hk := hk _ (fun j hj => hj)
              obtain ⟨d1, d2, f2⟩ := HD.out _ w2 HB.out hk
              refine hK _ _ ?_; clear hK K
              refine wpAny_ready (rs := [15]) (by kernel_rfl) (by simp) ?_
              refine AllReady.cons rfl (fun K hK => ?_) ?_
              ·
                go_simp
                refine hK _ _ ?_; clear hK K
                refine wpAny_ready (rs := [16]) (by kernel_rfl) (by simp) ?_
                refine AllReady.cons rfl (fun K hK => ?_) ?_
                ·
                  go_simp
                  refine hK _ _ ?_; clear hK K
                  refine wpAny_done (by kernel_rfl) ?_ _
                  go_wp2_with fail; go_end0; exact ⟨rfl, HF.out _ _ _ hr hg hk⟩
                exact AllReady.nil
              exact AllReady.nil
            exact AllReady.nil
          refine AllReady.cons rfl (fun K hK => ?_) ?_
          ·
            refine step_append_sl _ rfl _ _ 37 3 rfl Tryz.underlying37 info_tint rfl (by decide) (by decide) Ap wp.length cp (natC wp) rfl HS.out (by omega) ⟨w.heap.size, 0, none⟩ 1 1 [.int .i64 (id : Int)] rfl rfl (box_news w.drew 3 [.int .i64 (id : Int)]) (by intro u hu; simp at hu; subst hu; rfl) (by decide) (by decide) ?_
            intro g' c' w2 hr hg hk
            have hk := hk _ (fun j hj => hj)
            obtain ⟨d1, d2, f2⟩ := HD.out _ w2 HB.out hk
            refine hK _ _ ?_; clear hK K
            refine wpAny_ready (rs := [3]) (by kernel_rfl) (by simp) ?_
            refine AllReady.cons rfl (fun K hK => ?_) ?_
            ·
              go_simp
              refine hK _ _ ?_; clear hK K
              refine wpAny_ready (rs := [15]) (by kernel_rfl) (by simp) ?_
              refine AllReady.cons rfl (fun K hK => ?_) ?_
              ·
                go_simp
                refine hK _ _ ?_; clear hK K
                refine wpAny_ready (rs := [16]) (by kernel_rfl) (by simp) ?_
                refine AllReady.cons rfl (fun K hK => ?_) ?_
                ·
                  go_simp
                  refine hK _ _ ?_; clear hK K
                  refine wpAny_done (by kernel_rfl) ?_ _
                  go_wp2_with fail; go_end0; exact ⟨rfl, HF.out _ _ _ hr hg hk⟩
                exact AllReady.nil
              exact AllReady.nil
            exact AllReady.nil
          exact AllReady.nil
        exact AllReady.nil
      exact AllReady.nil
    exact AllReady.nil
  refine AllReady.cons rfl (fun K hK => ?_) ?_
  ·
    go_simp
    refine hK _ _ ?_; clear hK K
    refine wpAny_ready (rs := [3, 8]) (by kernel_rfl) (by simp) ?_
    refine AllReady.cons rfl (fun K hK => ?_) ?_
    ·
      go_simp
      refine hK _ _ ?_; clear hK K
      refine wpAny_ready (rs := [8]) (by kernel_rfl) (by simp) ?_
      refine AllReady.cons rfl (fun K hK => ?_) ?_
      ·
        go_simp
        refine hK _ _ ?_; clear hK K
        refine wpAny_ready (rs := [10]) (by kernel_rfl) (by simp) ?_
        refine AllReady.cons rfl (fun K hK => ?_) ?_
        ·
          go_simp
          refine hK _ _ ?_; clear hK K
          refine wpAny_ready (rs := [11]) (by kernel_rfl) (by simp) ?_
          refine AllReady.cons rfl (fun K hK => ?_) ?_
          ·
            go_simp
            refine hK _ _ ?_; clear hK K
            refine wpAny_ready (rs := [14]) (by kernel_rfl) (by simp) ?_
            refine AllReady.cons rfl (fun K hK => ?_) ?_
            ·
              refine step_append_sl _ rfl _ _ 37 3 rfl Tryz.underlying37 info_tint rfl (by decide) (by decide) Ap wp.length cp (natC wp) rfl HS.out (by omega) ⟨w.heap.size, 0, none⟩ 1 1 [.int .i64 (id : Int)] rfl rfl (box_news w.drew 3 [.int .i64 (id : Int)]) (by intro u hu; simp at hu; subst hu; rfl) (by decide) (by decide) ?_
              intro g' c' w2 hr hg hk
              have hk := hk _ (fun j hj => hj)
              obtain ⟨d1, d2, f2⟩ := HD.out _ w2 HB.out hk
              refine hK _ _ ?_; clear hK K
              refine wpAny_ready (rs := [15]) (by kernel_rfl) (by simp) ?_
              refine AllReady.cons rfl (fun K hK => ?_) ?_
              ·
                go_simp
                refine hK _ _ ?_; clear hK K
                refine wpAny_ready (rs := [16]) (by kernel_rfl) (by simp) ?_
                refine AllReady.cons rfl (fun K hK => ?_) ?_
                ·
                  go_simp
                  refine hK _ _ ?_; clear hK K
                  refine wpAny_done (by kernel_rfl) ?_ _
                  go_wp2_with fail; go_end0; exact ⟨rfl, HF.out _ _ _ hr hg hk⟩
                exact AllReady.nil
              exact AllReady.nil
            exact AllReady.nil
          exact AllReady.nil
        exact AllReady.nil
      exact AllReady.nil
    refine AllReady.cons rfl (fun K hK => ?_) ?_
    ·
      go_simp
      refine hK _ _ ?_; clear hK K
      refine wpAny_ready (rs := [3, 10]) (by kernel_rfl) (by simp) ?_
      refine AllReady.cons rfl (fun K hK => ?_) ?_
      ·
        go_simp
        refine hK _ _ ?_; clear hK K
        refine wpAny_ready (rs := [10]) (by kernel_rfl) (by simp) ?_
        refine AllReady.cons rfl (fun K hK => ?_) ?_
        ·
          go_simp
          refine hK _ _ ?_; clear hK K
          refine wpAny_ready (rs := [11]) (by kernel_rfl) (by simp) ?_
          refine AllReady.cons rfl (fun K hK => ?_) ?_
          ·
            go_simp
            refine hK _ _ ?_; clear hK K
            refine wpAny_ready (rs := [14]) (by kernel_rfl) (by simp) ?_
            refine AllReady.cons rfl (fun K hK => ?_) ?_
            ·
              refine step_append_sl _ rfl _ _ 37 3 rfl Tryz.underlying37 info_tint rfl (by decide) (by decide) Ap wp.length cp (natC wp) rfl HS.out (by omega) ⟨w.heap.size, 0, none⟩ 1 1 [.int .i64 (id : Int)] rfl rfl (box_news w.drew 3 [.int .i64 (id : Int)]) (by intro u hu; simp at hu; subst hu; rfl) (by decide) (by decide) ?_
              intro g' c' w2 hr hg hk
              have hk := hk _ (fun j hj => hj)
              obtain ⟨d1, d2, f2⟩ := HD.out _ w2 HB.out hk
              refine hK _ _ ?_; clear hK K
              refine wpAny_ready (rs := [15]) (by kernel_rfl) (by simp) ?_
              refine AllReady.cons rfl (fun K hK => ?_) ?_
              ·
                go_simp
                refine hK _ _ ?_; clear hK K
                refine wpAny_ready (rs := [16]) (by kernel_rfl) (by simp) ?_
                refine AllReady.cons rfl (fun K hK => ?_) ?_
                ·
                  go_simp
                  refine hK _ _ ?_; clear hK K
                  refine wpAny_done (by kernel_rfl) ?_ _
                  go_wp2_with fail; go_end0; exact ⟨rfl, HF.out _ _ _ hr hg hk⟩
                exact AllReady.nil
              exact AllReady.nil
            exact AllReady.nil
          exact AllReady.nil
        exact AllReady.nil
      refine AllReady.cons rfl (fun K hK => ?_) ?_
      ·
        go_simp
        refine hK _ _ ?_; clear hK K
        refine wpAny_ready (rs := [3, 11]) (by kernel_rfl) (by simp) ?_
        refine AllReady.cons rfl (fun K hK => ?_) ?_
        ·
          go_simp
          refine hK _ _ ?_; clear hK K
          refine wpAny_ready (rs := [11]) (by kernel_rfl) (by simp) ?_
          refine AllReady.cons rfl (fun K hK => ?_) ?_
          ·
            go_simp
            refine hK _ _ ?_; clear hK K
            refine wpAny_ready (rs := [14]) (by kernel_rfl) (by simp) ?_
            refine AllReady.cons rfl (fun K hK => ?_) ?_
            ·
              refine step_append_sl _ rfl _ _ 37 3 rfl Tryz.underlying37 info_tint rfl (by decide) (by decide) Ap wp.length cp (natC wp) rfl HS.out (by omega) ⟨w.heap.size, 0, none⟩ 1 1 [.int .i64 (id : Int)] rfl rfl (box_news w.drew 3 [.int .i64 (id : Int)]) (by intro u hu; simp at hu; subst hu; rfl) (by decide) (by decide) ?_
              intro g' c' w2 hr hg hk
              have hk := hk _ (fun j hj => hj)
              obtain ⟨d1, d2, f2⟩ := HD.out _ w2 HB.out hk
              refine hK _ _ ?_; clear hK K
              refine wpAny_ready (rs := [15]) (by kernel_rfl) (by simp) ?_
              refine AllReady.cons rfl (fun K hK => ?_) ?_
              ·
                go_simp
                refine hK _ _ ?_; clear hK K
                refine wpAny_ready (rs := [16]) (by kernel_rfl) (by simp) ?_
                refine AllReady.cons rfl (fun K hK => ?_) ?_
                ·
                  go_simp
                  refine hK _ _ ?_; clear hK K
                  refine wpAny_done (by kernel_rfl) ?_ _
                  go_wp2_with fail; go_end0; exact ⟨rfl, HF.out _ _ _ hr hg hk⟩
                exact AllReady.nil
              exact AllReady.nil
            exact AllReady.nil
          exact AllReady.nil
        refine AllReady.cons rfl (fun K hK => ?_) ?_
        ·
          go_simp
          refine hK _ _ ?_; clear hK K
          refine wpAny_ready (rs := [3, 14]) (by kernel_rfl) (by simp) ?_
          refine AllReady.cons rfl (fun K hK => ?_) ?_
          ·
            go_simp
            refine hK _ _ ?_; clear hK K
            refine wpAny_ready (rs := [14]) (by kernel_rfl) (by simp) ?_
            refine AllReady.cons rfl (fun K hK => ?_) ?_
            ·
              refine step_append_sl _ rfl _ _ 37 3 rfl Tryz.underlying37 info_tint rfl (by decide) (by decide) Ap wp.length cp (natC wp) rfl HS.out (by omega) ⟨w.heap.size, 0, none⟩ 1 1 [.int .i64 (id : Int)] rfl rfl (box_news w.drew 3 [.int .i64 (id : Int)]) (by intro u hu; simp at hu; subst hu; rfl) (by decide) (by decide) ?_
              intro g' c' w2 hr hg hk
              have hk := hk _ (fun j hj => hj)
              obtain ⟨d1, d2, f2⟩ := HD.out _ w2 HB.out hk
              refine hK _ _ ?_; clear hK K
              refine wpAny_ready (rs := [15]) (by kernel_rfl) (by simp) ?_
              refine AllReady.cons rfl (fun K hK => ?_) ?_
              ·
                go_simp
                refine hK _ _ ?_; clear hK K
                refine wpAny_ready (rs := [16]) (by kernel_rfl) (by simp) ?_
                refine AllReady.cons rfl (fun K hK => ?_) ?_
                ·
                  go_simp
                  refine hK _ _ ?_; clear hK K
                  refine wpAny_done (by kernel_rfl) ?_ _
                  go_wp2_with fail; go_end0; exact ⟨rfl, HF.out _ _ _ hr hg hk⟩
                exact AllReady.nil
              exact AllReady.nil
            exact AllReady.nil
          refine AllReady.cons rfl (fun K hK => ?_) ?_
          ·
            refine step_append_sl _ rfl _ _ 37 3 rfl Tryz.underlying37 info_tint rfl (by decide) (by decide) Ap wp.length cp (natC wp) rfl HS.out (by omega) ⟨w.heap.size, 0, none⟩ 1 1 [.int .i64 (id : Int)] rfl rfl (box_news w.drew 3 [.int .i64 (id : Int)]) (by intro u hu; simp at hu; subst hu; rfl) (by decide) (by decide) ?_
            intro g' c' w2 hr hg hk
            have hk := hk _ (fun j hj => hj)
            obtain ⟨d1, d2, f2⟩ := HD.out _ w2 HB.out hk
            refine hK _ _ ?_; clear hK K
            refine wpAny_ready (rs := [3]) (by kernel_rfl) (by simp) ?_
            refine AllReady.cons rfl (fun K hK => ?_) ?_
            ·
              go_simp
              refine hK _ _ ?_; clear hK K
              refine wpAny_ready (rs := [15]) (by kernel_rfl) (by simp) ?_
              refine AllReady.cons rfl (fun K hK => ?_) ?_
              ·
                go_simp
                refine hK _ _ ?_; clear hK K
                refine wpAny_ready (rs := [16]) (by kernel_rfl) (by simp) ?_
                refine AllReady.cons rfl (fun K hK => ?_) ?_
                ·
                  go_simp
                  refine hK _ _ ?_; clear hK K
                  refine wpAny_done (by kernel_rfl) ?_ _
                  go_wp2_with fail; go_end0; exact ⟨rfl, HF.out _ _ _ hr hg hk⟩
                exact AllReady.nil
              exact AllReady.nil
            exact AllReady.nil
          exact AllReady.nil
        exact AllReady.nil
      exact AllReady.nil
    exact AllReady.nil
  exact AllReady.nil
end Go.Proofs.YtkckodpfhlpkgaaGreat
