/- A solver's Var: the contract. -/
import Derived.Test.YtfllhfhcmoemeaaGreatSolM
import Derived.Deep.RegionWith
namespace Go.Proofs.YtfllhfhcmoemeaaGreat
open Go.Shelf Go.RowKit Go.Lib Go.Sort LitM TrailM EngM

section
variable {B bs : Nat} {w0 w w' : World} {c : SolC} {S S' : Eng} {q q' : Pm} {F : Nat → Prop} {nr : Nat} {sc : Nat → Int} {wt : Nat → Bool} {vs : List Bool}
/-- A value more. -/
theorem SolG.push {W w2 : World} {x : Bool} {g' c' : Nat} (h : SolG B w0 W bs c S q F nr sc wt vs) (hr : RowV 4 1 w2 g' (vs.length + 1) c' (appV (boC vs) (vs.length * 1) [.bool x])) (hg : onB c.vA g' ∨ (W.alloc (.cells #[.bool x] 4)).heap.size ≤ g') (hk : Kf (fun k => onB c.vA k) (W.alloc (.cells #[.bool x] 4)) w2) :
    (w2.cell? ⟨bs, 5, none⟩ = some (.slice c.vA vs.length c.vc) ∧ w2.frozen? ⟨bs, 5, none⟩ = false) ∧ SolG B w0 (w2.setCell ⟨bs, 5, none⟩ (.slice (some ⟨g', 0, none⟩) (vs.length + 1) c')) bs { c with vA := some ⟨g', 0, none⟩, vc := c' } S q F nr sc wt (vs ++ [x]) := by
  have hb0 := (Below.refl W.heap.size W).alloc (Nat.le_refl _) (.cells #[.bool x] 4)
  have h1 := h.below hb0
  have lt0 := h.lt
  have ltp0 := h.ltp
  have sz : (W.alloc (.cells #[.bool x] 4)).heap.size = W.heap.size + 1 := by simp
  have hh2 : w2.heap[bs]? = some (.cells (c.cells vs.length) 61 (0, 0)) := by rw [hk.block bs h1.lt h.ob.2.2.2.2]; exact h1.hh
  have ne : ∀ k, k < W.heap.size → ¬ onB c.vA k → k ≠ g' := fun k hk' hn e => by
    rcases hg with e' | e'
    · rw [e] at hn; exact hn e'
    · omega
  have kf : Kf (fun k => onB c.vA k ∨ k = bs) (W.alloc (.cells #[.bool x] 4)) (w2.setCell ⟨bs, 5, none⟩ (.slice (some ⟨g', 0, none⟩) (vs.length + 1) c')) :=
    (hk.mono (G := fun k => onB c.vA k ∨ k = bs) fun y hy => .inl (.inl hy)).set (p := ⟨bs, 5, none⟩) (.inl (.inr rfl)) _
  refine ⟨⟨by rw [Lib.cell_of_heap hh2]; rfl, Lib.frozen_of_heap hh2 5⟩, ?_⟩
  obtain ⟨u, r, k, s, n, hp, hkk⟩ := h1.pc
  refine ⟨?_, h1.eng.kept kf ?_, h1.rk.kept kf ?_, ⟨u, r, k, s, n, hp.same (kf.block _ hp.lt ?_), hkk⟩, ?_, h.sd0, ⟨h.ob.1, h.ob.2.1, h.ob.2.2.1, h.ob.2.2.2.1, ?_⟩, ⟨h.op.1, h.op.2.1, h.op.2.2.1, ?_⟩, fun k hF => ⟨(h.oF k hF).1, (h.oF k hF).2.1, ?_⟩, fun k hk => ?_, fun k o e => ?_⟩
  · rw [Lib.heap_setCell_same hh2]
    rw [show (vs ++ [x]).length = vs.length + 1 by simp]; rfl
  · rintro k (e | e)
    · exact h.ov k e
    · rw [e]; exact ⟨h.ob.1, h.ob.2.2.1⟩
  · rintro k hF (e | e)
    · exact (h.oF k hF).2.2 e
    · rw [e] at hF; exact h.ob.2.1 hF
  · rintro (e | e)
    · exact h.op.2.2.2 e
    · exact h.ob.2.2.2.1 e.symm
  · rw [show (vs ++ [x]).length = vs.length + 1 by simp]
    refine .inr ⟨g', rfl, (hr.other (a := ⟨bs, 5, none⟩) (ne bs lt0 h.ob.2.2.2.2) _).congr fun j hj => ?_⟩
    unfold appV boC
    by_cases e : j < vs.length
    · rw [if_pos (by omega), List.getD, List.getD, List.getElem?_append_left e]
    · obtain rfl : j = vs.length := by omega
      rw [if_neg (by omega)]; simp
  · rw [onB_some]; exact ne bs lt0 h.ob.2.2.2.2
  · rw [onB_some]; exact ne _ ltp0 h.op.2.2.2
  · rw [onB_some]; exact ne k (h.rk.foot k hF) (h.oF k hF).2.2
  · rw [onB_some] at hk
    have hk : k = g' := hk
    rw [hk]
    rcases hg with e | e
    · exact h.ov g' e
    · exact ⟨h.eng.fresh (by omega), by have := h.eng.hs; omega⟩
  · obtain ⟨g1, g2, g3, g4, g5, g6⟩ := h1.gu k o e
    refine ⟨by rw [kf.block k (lt_of_heap g1) (fun e' => e'.elim g6 g4)]; exact g1, g2, g3, g4, g5, ?_⟩
    rw [onB_some]; exact ne k (lt_of_heap (h.gu k o e).1) g6
/-- What Var leaves. -/
def SVarTo (B : Nat) (w0 : World) (bs : Nat) (c : SolC) (S : Eng) (sc : Nat → Int) (wt : Nat → Bool) (vs : List Bool) (w' : World) : Prop :=
  ∃ q' F' vA vc, Sol B w0 w' bs { c with vA := vA, vc := vc } (growF S) q' F' (HeapM.upd sc (S.n + 1) 0) (HeapM.upd wt (S.n + 1) true) (vs ++ [firstB c.sd ((S.n : Int) + 1)])
set_option maxHeartbeats 6400000 in
set_option maxRecDepth 100000 in
theorem svar_any (h : Sol B w0 w bs c S q F sc wt vs) (hn : S.n + 1 ≤ 900) :
    Calls Tryz.prog 17 #[.pointer (some ⟨bs, 0, none⟩)] w fun e w' => e = .returned (.int .i64 ((S.n : Int) + 1)) ∧ SVarTo B w0 bs c S sc wt vs w' := by
  obtain ⟨_, _, c2, _⟩ := h.cells
  have e0 := h.e0
  have HG := Lib.hid (h.eng.grow (by omega))
  have HH := Lib.hid h
  have HF1 := Lib.hid (fun W : World => first_any c.sd ((S.n : Int) + 1) W h.g.sd0.1 h.g.sd0.2)
  have HLN := Lib.hid h.ln
  have t1 : decide ((0 : Int) < (S.n : Int) + 1) = true := decide_eq_true (by omega)
  clear h
  go_enter Tryz.func17, Tryz.ntmps17
  go_wp2_with fail
  refine HG.out.mono ?_
  rintro e w1 ⟨rfl, q1, hs, hx⟩
  have hg1 := HH.out.g.ext hs hx
  obtain ⟨_, _, _, c3, _⟩ := hg1.cells
  have HR := Lib.hid (grow_any w1 hg1.rk (by omega))
  have HG1 := Lib.hid hg1
  clear hg1 hs hx HG HH
  go_wp2_with fail
  refine HR.out.mono ?_
  rintro e w2 ⟨rfl, hrk⟩
  obtain ⟨F2, hg2, _⟩ := HG1.out.rank hrk
  obtain ⟨c0, _, _, _, _, c5, _⟩ := hg2.cells
  have hg3 : SolG B w0 w2.drew bs c (growF S) q1 F2 (S.n + 1) (HeapM.upd sc (S.n + 1) 0) (HeapM.upd wt (S.n + 1) true) vs := hg2.below ⟨rfl, rfl, rfl, Nat.le_refl _, fun _ _ => rfl⟩
  generalize hz : firstB c.sd ((S.n : Int) + 1) = z at *
  have hg4 := hg3.below ((Below.refl _ _).alloc (Nat.le_refl _) (.cells #[.bool z] 4))
  have hg5 := hg2.below ((Below.refl _ _).alloc (Nat.le_refl _) (.cells #[.bool z] 4))
  obtain ⟨d0, _, _, _, _, d5, _⟩ := hg5.cells
  have HS : Hid (SlV 4 1 (w2.drew.alloc (.cells #[.bool z] 4)) c.vA vs.length c.vc (boC vs)) := hg4.vr
  have HG3 := Lib.hid hg3
  have HZ := Lib.hid hz
  have HP : Hid (∀ g' c' w3, RowV 4 1 w3 g' (vs.length + 1) c' (appV (boC vs) (vs.length * 1) [.bool z]) → (onB c.vA g' ∨ (w2.drew.alloc (.cells #[.bool z] 4)).heap.size ≤ g') → Kf (fun k => onB c.vA k) (w2.drew.alloc (.cells #[.bool z] 4)) w3 →
      (w3.cell? ⟨bs, 5, none⟩ = some (.slice c.vA vs.length c.vc) ∧ w3.frozen? ⟨bs, 5, none⟩ = false) ∧ SVarTo B w0 bs c S sc wt vs (w3.setCell ⟨bs, 5, none⟩ (.slice (some ⟨g', 0, none⟩) (vs.length + 1) c'))) := fun g' c' w3 h1 h2 h3 => by
    obtain ⟨a, b⟩ := HG3.out.push h1 h2 h3
    refine ⟨a, q1, F2, some ⟨g', 0, none⟩, c', ?_⟩
    rw [HZ.out]
    have hl := HLN.out
    exact ⟨b, ⟨by rw [List.length_append]; show vs.length + 1 = S.n + 1; omega, by show S.n + 1 ≤ 900; omega⟩⟩
  clear hg2 hg3 hg4 hg5 hrk HG1 HR c2 c3 e0 hz
  go_upto_region 4 with (fail)
  refine wp_region_any (by kernel_rfl) ?_
  change wpAny _ _ _ _ _ _ _ (World.drew _)
  refine wpAny_take (i := 0) (v := ?_) rfl (by kernel_rfl) (by kernel_rfl) (by kernel_rfl) (fun _ _ _ h => h) (Or.inl ⟨by kernel_rfl, ?_⟩) ?_
  rotate_left 1
  · (intro w; go_simp <;> with_reducible rfl)
  go_simp
  refine wpAny_take (i := 1) (v := ?_) rfl (by kernel_rfl) (by kernel_rfl) (by kernel_rfl) (fun _ _ _ h => h) (Or.inl ⟨by kernel_rfl, ?_⟩) ?_
  rotate_left 1
  · (intro w; go_simp <;> with_reducible rfl)
  go_simp
  refine wpAny_take (i := 2) (v := ?_) rfl (by kernel_rfl) (by kernel_rfl) (by kernel_rfl) (fun _ _ _ h => h) (Or.inl ⟨by kernel_rfl, ?_⟩) ?_
  rotate_left 1
  · (intro w; go_simp <;> with_reducible rfl)
  go_simp
  refine wpAny_take (i := 3) (v := ?_) rfl (by kernel_rfl) (by kernel_rfl) (by kernel_rfl) (fun _ _ _ h => h) (Or.inl ⟨by kernel_rfl, ?_⟩) ?_
  rotate_left 1
  · (intro w; go_simp <;> with_reducible rfl)
  go_simp
  refine wpAny_take (i := 5) (v := ?_) rfl (by kernel_rfl) (by kernel_rfl) (by kernel_rfl) (fun _ _ _ h => h) (Or.inl ⟨by kernel_rfl, ?_⟩) ?_
  rotate_left 1
  · (intro w; go_simp <;> with_reducible rfl)
  go_simp
  refine wpAny_take (i := 6) (v := ?_) rfl (by kernel_rfl) (by kernel_rfl) (by kernel_rfl) (fun _ _ _ h => h) (Or.inl ⟨by kernel_rfl, ?_⟩) ?_
  rotate_left 1
  · (intro w; go_simp <;> with_reducible rfl)
  go_simp
  refine wpAny_take (i := 7) (v := ?_) rfl (by kernel_rfl) (by kernel_rfl) (by kernel_rfl) (fun _ _ _ h => h) (Or.inl ⟨by kernel_rfl, ?_⟩) ?_
  rotate_left 1
  · (intro w; go_simp <;> with_reducible rfl)
  go_simp
  refine wpAny_take (i := 9) (v := ?_) rfl (by kernel_rfl) (by kernel_rfl) (by kernel_rfl) (fun _ _ _ h => h) (Or.inl ⟨by kernel_rfl, ?_⟩) ?_
  rotate_left 1
  · (intro w; go_simp <;> with_reducible rfl)
  go_simp
  refine wpAny_ready (rs := [4, 8]) (by kernel_rfl) (by simp) ?_
  refine AllReady.cons rfl (fun K hK => ?_) ?_
  ·
    go_simp
    refine hK _ _ ?_; clear hK K
    refine wpAny_ready (rs := [8]) (by kernel_rfl) (by simp) ?_
    refine AllReady.cons rfl (fun K hK => ?_) ?_
    ·
      go_simp
      refine hK _ _ ?_; clear hK K
      refine wpAny_ready (rs := [10]) (by kernel_rfl) (by simp) ?_
      refine AllReady.cons rfl (fun K hK => ?_) ?_
      ·
        go_simp
        go_wp2_with ((go_at_call 37; refine (HF1.out _).mono ?_; rintro e wq ⟨rfl, rfl⟩))
        first | (refine hK _ _ ?_; clear hK K) | skip
        refine wpAny_ready (rs := [11]) (by kernel_rfl) (by simp) ?_
        refine AllReady.cons rfl (fun K hK => ?_) ?_
        ·
          go_simp
          refine hK _ _ ?_; clear hK K
          refine wpAny_ready (rs := [12]) (by kernel_rfl) (by simp) ?_
          refine AllReady.cons rfl (fun K hK => ?_) ?_
          ·
            refine step_append_sl _ rfl _ _ 40 4 rfl Tryz.underlying40 info_bool rfl (by decide) (by decide) c.vA vs.length c.vc (boC vs) rfl HS.out (by have := HLN.out; omega) ⟨w2.heap.size, 0, none⟩ 1 1 [.bool z] rfl rfl (box_news w2.drew 4 [.bool z]) (by intro u hu; simp at hu; subst hu; rfl) (by decide) (by decide) ?_
            intro g' c' w3 hr hg hk
            obtain ⟨⟨f1, f2⟩, hfin⟩ := HP.out g' c' w3 hr hg (hk _ (fun j hj => hj))
            have HFIN := Lib.hid hfin
            clear hr hg hk hfin
            refine hK _ _ ?_; clear hK K
            refine wpAny_take (i := 13) (v := ?_) rfl (by kernel_rfl) (by kernel_rfl) (by kernel_rfl) (fun _ _ _ h => h) (Or.inl ⟨by kernel_rfl, ?_⟩) ?_
            rotate_left 1
            · (intro w; go_simp <;> with_reducible rfl)
            go_simp
            refine wpAny_take (i := 14) (v := ?_) rfl (by kernel_rfl) (by kernel_rfl) (by kernel_rfl) (fun _ _ _ h => h) (Or.inl ⟨by kernel_rfl, ?_⟩) ?_
            rotate_left 1
            · (intro w; go_simp <;> with_reducible rfl)
            go_simp
            refine wpAny_ready (rs := [15]) (by kernel_rfl) (by simp) ?_
            refine AllReady.cons rfl (fun K hK => ?_) ?_
            ·
              go_simp
              refine hK _ _ ?_; clear hK K
              refine wpAny_done (by kernel_rfl) ?_ _
              go_wp2_with fail; go_ret; exact ⟨rfl, HFIN.out⟩
            exact AllReady.nil
          exact AllReady.nil
        exact AllReady.nil
      exact AllReady.nil
    exact AllReady.nil
  refine AllReady.cons rfl (fun K hK => ?_) ?_
  ·
    go_simp
    refine hK _ _ ?_; clear hK K
    refine wpAny_ready (rs := [4, 10]) (by kernel_rfl) (by simp) ?_
    refine AllReady.cons rfl (fun K hK => ?_) ?_
    ·
      go_simp
      refine hK _ _ ?_; clear hK K
      refine wpAny_ready (rs := [10]) (by kernel_rfl) (by simp) ?_
      refine AllReady.cons rfl (fun K hK => ?_) ?_
      ·
        go_simp
        go_wp2_with ((go_at_call 37; refine (HF1.out _).mono ?_; rintro e wq ⟨rfl, rfl⟩))
        first | (refine hK _ _ ?_; clear hK K) | skip
        refine wpAny_ready (rs := [11]) (by kernel_rfl) (by simp) ?_
        refine AllReady.cons rfl (fun K hK => ?_) ?_
        ·
          go_simp
          refine hK _ _ ?_; clear hK K
          refine wpAny_ready (rs := [12]) (by kernel_rfl) (by simp) ?_
          refine AllReady.cons rfl (fun K hK => ?_) ?_
          ·
            refine step_append_sl _ rfl _ _ 40 4 rfl Tryz.underlying40 info_bool rfl (by decide) (by decide) c.vA vs.length c.vc (boC vs) rfl HS.out (by have := HLN.out; omega) ⟨w2.heap.size, 0, none⟩ 1 1 [.bool z] rfl rfl (box_news w2.drew 4 [.bool z]) (by intro u hu; simp at hu; subst hu; rfl) (by decide) (by decide) ?_
            intro g' c' w3 hr hg hk
            obtain ⟨⟨f1, f2⟩, hfin⟩ := HP.out g' c' w3 hr hg (hk _ (fun j hj => hj))
            have HFIN := Lib.hid hfin
            clear hr hg hk hfin
            refine hK _ _ ?_; clear hK K
            refine wpAny_take (i := 13) (v := ?_) rfl (by kernel_rfl) (by kernel_rfl) (by kernel_rfl) (fun _ _ _ h => h) (Or.inl ⟨by kernel_rfl, ?_⟩) ?_
            rotate_left 1
            · (intro w; go_simp <;> with_reducible rfl)
            go_simp
            refine wpAny_take (i := 14) (v := ?_) rfl (by kernel_rfl) (by kernel_rfl) (by kernel_rfl) (fun _ _ _ h => h) (Or.inl ⟨by kernel_rfl, ?_⟩) ?_
            rotate_left 1
            · (intro w; go_simp <;> with_reducible rfl)
            go_simp
            refine wpAny_ready (rs := [15]) (by kernel_rfl) (by simp) ?_
            refine AllReady.cons rfl (fun K hK => ?_) ?_
            ·
              go_simp
              refine hK _ _ ?_; clear hK K
              refine wpAny_done (by kernel_rfl) ?_ _
              go_wp2_with fail; go_ret; exact ⟨rfl, HFIN.out⟩
            exact AllReady.nil
          exact AllReady.nil
        exact AllReady.nil
      exact AllReady.nil
    refine AllReady.cons rfl (fun K hK => ?_) ?_
    ·
      go_simp
      go_wp2_with ((go_at_call 37; refine (HF1.out _).mono ?_; rintro e wq ⟨rfl, rfl⟩))
      first | (refine hK _ _ ?_; clear hK K) | skip
      refine wpAny_ready (rs := [4, 11]) (by kernel_rfl) (by simp) ?_
      refine AllReady.cons rfl (fun K hK => ?_) ?_
      ·
        go_simp
        refine hK _ _ ?_; clear hK K
        refine wpAny_ready (rs := [11]) (by kernel_rfl) (by simp) ?_
        refine AllReady.cons rfl (fun K hK => ?_) ?_
        ·
          go_simp
          refine hK _ _ ?_; clear hK K
          refine wpAny_ready (rs := [12]) (by kernel_rfl) (by simp) ?_
          refine AllReady.cons rfl (fun K hK => ?_) ?_
          ·
            refine step_append_sl _ rfl _ _ 40 4 rfl Tryz.underlying40 info_bool rfl (by decide) (by decide) c.vA vs.length c.vc (boC vs) rfl HS.out (by have := HLN.out; omega) ⟨w2.heap.size, 0, none⟩ 1 1 [.bool z] rfl rfl (box_news w2.drew 4 [.bool z]) (by intro u hu; simp at hu; subst hu; rfl) (by decide) (by decide) ?_
            intro g' c' w3 hr hg hk
            obtain ⟨⟨f1, f2⟩, hfin⟩ := HP.out g' c' w3 hr hg (hk _ (fun j hj => hj))
            have HFIN := Lib.hid hfin
            clear hr hg hk hfin
            refine hK _ _ ?_; clear hK K
            refine wpAny_take (i := 13) (v := ?_) rfl (by kernel_rfl) (by kernel_rfl) (by kernel_rfl) (fun _ _ _ h => h) (Or.inl ⟨by kernel_rfl, ?_⟩) ?_
            rotate_left 1
            · (intro w; go_simp <;> with_reducible rfl)
            go_simp
            refine wpAny_take (i := 14) (v := ?_) rfl (by kernel_rfl) (by kernel_rfl) (by kernel_rfl) (fun _ _ _ h => h) (Or.inl ⟨by kernel_rfl, ?_⟩) ?_
            rotate_left 1
            · (intro w; go_simp <;> with_reducible rfl)
            go_simp
            refine wpAny_ready (rs := [15]) (by kernel_rfl) (by simp) ?_
            refine AllReady.cons rfl (fun K hK => ?_) ?_
            ·
              go_simp
              refine hK _ _ ?_; clear hK K
              refine wpAny_done (by kernel_rfl) ?_ _
              go_wp2_with fail; go_ret; exact ⟨rfl, HFIN.out⟩
            exact AllReady.nil
          exact AllReady.nil
        exact AllReady.nil
      refine AllReady.cons rfl (fun K hK => ?_) ?_
      ·
        go_simp
        refine hK _ _ ?_; clear hK K
        refine wpAny_ready (rs := [4]) (by kernel_rfl) (by simp) ?_
        refine AllReady.cons rfl (fun K hK => ?_) ?_
        ·
          go_simp
          refine hK _ _ ?_; clear hK K
          refine wpAny_ready (rs := [12]) (by kernel_rfl) (by simp) ?_
          refine AllReady.cons rfl (fun K hK => ?_) ?_
          ·
            refine step_append_sl _ rfl _ _ 40 4 rfl Tryz.underlying40 info_bool rfl (by decide) (by decide) c.vA vs.length c.vc (boC vs) rfl HS.out (by have := HLN.out; omega) ⟨w2.heap.size, 0, none⟩ 1 1 [.bool z] rfl rfl (box_news w2.drew 4 [.bool z]) (by intro u hu; simp at hu; subst hu; rfl) (by decide) (by decide) ?_
            intro g' c' w3 hr hg hk
            obtain ⟨⟨f1, f2⟩, hfin⟩ := HP.out g' c' w3 hr hg (hk _ (fun j hj => hj))
            have HFIN := Lib.hid hfin
            clear hr hg hk hfin
            refine hK _ _ ?_; clear hK K
            refine wpAny_take (i := 13) (v := ?_) rfl (by kernel_rfl) (by kernel_rfl) (by kernel_rfl) (fun _ _ _ h => h) (Or.inl ⟨by kernel_rfl, ?_⟩) ?_
            rotate_left 1
            · (intro w; go_simp <;> with_reducible rfl)
            go_simp
            refine wpAny_take (i := 14) (v := ?_) rfl (by kernel_rfl) (by kernel_rfl) (by kernel_rfl) (fun _ _ _ h => h) (Or.inl ⟨by kernel_rfl, ?_⟩) ?_
            rotate_left 1
            · (intro w; go_simp <;> with_reducible rfl)
            go_simp
            refine wpAny_ready (rs := [15]) (by kernel_rfl) (by simp) ?_
            refine AllReady.cons rfl (fun K hK => ?_) ?_
            ·
              go_simp
              refine hK _ _ ?_; clear hK K
              refine wpAny_done (by kernel_rfl) ?_ _
              go_wp2_with fail; go_ret; exact ⟨rfl, HFIN.out⟩
            exact AllReady.nil
          exact AllReady.nil
        exact AllReady.nil
      exact AllReady.nil
    exact AllReady.nil
  exact AllReady.nil
end
end Go.Proofs.YtfllhfhcmoemeaaGreat
