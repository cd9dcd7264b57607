/- A circuit's contracts: add, both, Input, Parts. -/
import Derived.Test.YtmiifhclcknhdaaGrtA
namespace Go.Proofs.Ytmiifhclcknhdaa
open Go.RowKit GatM

theorem info_pair : (Try.prog.info? 67).map (fun i => (i.zero, i.size, i.bytes)) = some (some (.agg #[.int .u32 0, .int .u32 0]), 2, 8) := by kernel_rfl
theorem gates_snoc (gs : Gs) (p : Nat × Nat) {j : Nat} (hj : j < (gs.length + 1) * 2) : gatesF (gs ++ [p]) j = appV (gatesF gs) (gs.length * 2) [.int .u32 (p.1 : Int), .int .u32 (p.2 : Int)] j := by
  unfold appV gatesF
  by_cases e : j < gs.length * 2
  · rw [if_pos e, getG_app _ _ (by omega)]
  · rw [if_neg e]
    have : j / 2 = gs.length := by omega
    rw [this, getG_end]
    rcases (show j = gs.length * 2 ∨ j = gs.length * 2 + 1 by omega) with q | q <;> subst q
    · rw [if_pos (by omega), Nat.sub_self]; rfl
    · rw [if_neg (by omega), show gs.length * 2 + 1 - gs.length * 2 = 1 by omega]; rfl
/-- Behind the append to the gates, and the store. -/
theorem GrAt.push {w Wx w4 : World} {c : GrC} {gs mp : Gs} {ins : List Nat} (h : GrAt w c gs ins mp) (hb : Below w.heap.size w Wx) {a b g4 c4 : Nat} (hr : RowV 67 2 w4 g4 (gs.length + 1) c4 (appV (gatesF gs) (gs.length * 2) [.int .u32 (a : Int), .int .u32 (b : Int)]))
    (hg : onB (some ⟨c.g, 0, none⟩) g4 ∨ Wx.heap.size ≤ g4) (hk : Kf (fun k => k = c.g) Wx w4) : GrTo w (w4.setCell ⟨c.bg, 0, none⟩ (.slice (some ⟨g4, 0, none⟩) (gs.length + 1) c4)) c { c with g := g4, cg := c4 } (gs ++ [(a, b)]) ins mp := by
  have hx := h.below hb
  have hg' : g4 = c.g ∨ Wx.heap.size ≤ g4 := by
    rcases hg with e | e
    · exact .inl ((onB_some _ _).1 e)
    · exact .inr e
  have hne : c.bg ≠ g4 := by
    rcases hg' with e | e
    · rw [e]; exact h.ne_g
    · have := lt_of_heap hx.hd; omega
  have hl : (gs ++ [(a, b)]).length = gs.length + 1 := by simp
  have h4 : ∀ k, c.own k → k ≠ c.g → w4.heap[k]? = Wx.heap[k]? := fun k ho e => hk.block k (hx.lt ho) e
  have hbg4 : w4.heap[c.bg]? = some (.cells (c.cells gs.length ins.length) 64 (0, 0)) := by rw [h4 _ (.inl rfl) h.ne_g]; exact hx.hd
  have ho : ∀ k, k ≠ c.bg → (w4.setCell ⟨c.bg, 0, none⟩ (.slice (some ⟨g4, 0, none⟩) (gs.length + 1) c4)).heap[k]? = w4.heap[k]? := fun k e => Below.heap_setCell _ _ _ _ e
  refine ⟨⟨?_, ?_, ?_, ?_, ?_⟩, rfl, ?_, fun k hk' => ?_⟩
  · rw [Lib.heap_setCell_same hbg4, hl]; rfl
  · rw [hl]
    exact (hr.other (a := ⟨c.bg, 0, none⟩) hne _).congr fun j hj => gates_snoc gs (a, b) hj
  · refine h.ia.same fun j hj => ?_
    have n1 : j ≠ c.bg := fun e => h.ne_i.1 (e ▸ hj)
    have n2 : j ≠ c.g := fun e => h.ne_i.2 (e ▸ hj)
    rw [ho j n1, h4 j (.inr (.inr (.inl hj))) n2]
    exact hb.block j (h.ia.lt j hj)
  · refine h.ma.same ?_
    rw [ho _ (fun e => h.ne_m.1 e.symm), h4 _ (.inr (.inr (.inr rfl))) (fun e => h.ne_m.2.1 e.symm)]
    exact hb.block _ h.ma.lt
  · exact h.nb
  · exact ((Kf.of_below hb).trans (hk.mono (G := c.own) fun x hx => .inl (.inr (.inl hx))) (fun _ hx => .inl hx)).set (.inl (.inl rfl)) _
  · rcases hk' with e | e | e | e
    · exact .inl (.inl e)
    · have e : k = g4 := e
      rcases hg' with e2 | e2
      · exact .inl (.inr (.inl (e.trans e2)))
      · exact .inr (by rw [e]; exact Nat.le_trans hb.size e2)
    · exact .inl (.inr (.inr (.inl e)))
    · exact .inl (.inr (.inr (.inr e)))
set_option maxHeartbeats 1600000 in
set_option maxRecDepth 100000 in
theorem gadd_any {w : World} {c : GrC} {gs mp : Gs} {ins : List Nat} (h : GrAt w c gs ins mp) (hn : gs.length ≤ 90000) (a b : Nat) :
    Calls Try.prog 21 #[.pointer (some ⟨c.bg, 0, none⟩), pairV (a, b)] w fun e w' => e = .returned (.tuple #[.int .u32 ((2 * gs.length : Nat) : Int), .int .i64 0]) ∧ ∃ c', GrTo w w' c c' (gs ++ [(a, b)]) ins mp := by
  have hb1 : Below w.heap.size w (w.alloc (.cells #[.int .u32 (a : Int), .int .u32 (b : Int)] 67)) := (Below.refl _ _).alloc (Nat.le_refl _) _
  have h1 := h.below hb1
  obtain ⟨c0, _, _, _⟩ := h.cells
  have HL0 := Lib.hid (glen_any h1)
  have t0 : ((gs.length : Int) == 1048576) = false := by rw [beq_eq_false_iff_ne]; omega
  unfold pairV
  go_enter Try.func21, Try.ntmps21
  go_wp2_with fail
  refine HL0.out.mono ?_
  rintro e w' ⟨rfl, rfl⟩
  obtain ⟨Wx, hWx⟩ : ∃ Wx, Wx = (w.alloc (.cells #[.int .u32 (a : Int), .int .u32 (b : Int)] 67)).drew.alloc (.cells #[.int .u32 (a : Int), .int .u32 (b : Int)] 67) := ⟨_, rfl⟩
  have hbx : Below w.heap.size w Wx := by rw [hWx]; exact hb1.drew.alloc (by simp) _
  have hx := h.below hbx
  have HSL : Hid (SlV 67 2 ((w.alloc (.cells #[.int .u32 (a : Int), .int .u32 (b : Int)] 67)).drew.alloc (.cells #[.int .u32 (a : Int), .int .u32 (b : Int)] 67)) (some ⟨c.g, 0, none⟩) gs.length c.cg (gatesF gs)) := by rw [← hWx]; exact .inr ⟨c.g, rfl, hx.ga⟩
  have HD0 : Hid (∀ w4, Kf (fun k => k = c.g) ((w.alloc (.cells #[.int .u32 (a : Int), .int .u32 (b : Int)] 67)).drew.alloc (.cells #[.int .u32 (a : Int), .int .u32 (b : Int)] 67)) w4 → w4.cell? ⟨c.bg, 0, none⟩ = some (.slice (some ⟨c.g, 0, none⟩) gs.length c.cg) ∧ w4.frozen? ⟨c.bg, 0, none⟩ = false) := fun w4 hk => by
    rw [← hWx] at hk
    have e : w4.heap[c.bg]? = some (.cells (c.cells gs.length ins.length) 64 (0, 0)) := by rw [hk.block _ (hx.lt (.inl rfl)) h.ne_g]; exact hx.hd
    exact ⟨by rw [Lib.cell_of_heap e]; rfl, Lib.frozen_of_heap e _⟩
  have HPU : Hid (∀ w4 g4 c4, RowV 67 2 w4 g4 (gs.length + 1) c4 (appV (gatesF gs) (gs.length * 2) [.int .u32 (a : Int), .int .u32 (b : Int)]) → (onB (some ⟨c.g, 0, none⟩) g4 ∨ ((w.alloc (.cells #[.int .u32 (a : Int), .int .u32 (b : Int)] 67)).drew.alloc (.cells #[.int .u32 (a : Int), .int .u32 (b : Int)] 67)).heap.size ≤ g4) → Kf (fun k => k = c.g) ((w.alloc (.cells #[.int .u32 (a : Int), .int .u32 (b : Int)] 67)).drew.alloc (.cells #[.int .u32 (a : Int), .int .u32 (b : Int)] 67)) w4 →
      GrTo w (w4.setCell ⟨c.bg, 0, none⟩ (.slice (some ⟨g4, 0, none⟩) (gs.length + 1) c4)) c { c with g := g4, cg := c4 } (gs ++ [(a, b)]) ins mp) := fun w4 g4 c4 a1 a2 a3 => by
    rw [← hWx] at a2 a3
    exact h.push hbx a1 a2 a3
  have hlt : c.bg < w.heap.size := h.lt (.inl rfl)
  have HNW : Hid (∀ j u, [(.int .u32 (a : Int) : Value), .int .u32 (b : Int)][j]? = some u → ((w.alloc (.cells #[.int .u32 (a : Int), .int .u32 (b : Int)] 67)).drew.alloc (.cells #[.int .u32 (a : Int), .int .u32 (b : Int)] 67)).cell? ((⟨w.heap.size + 1, 0, none⟩ : Addr).add j) = some u) := fun j u hj => by
    have := box_news (w.alloc (.cells #[.int .u32 (a : Int), .int .u32 (b : Int)] 67)).drew 67 [.int .u32 (a : Int), .int .u32 (b : Int)] j u hj
    simpa using this
  clear hWx hbx hx HL0 h1 hb1 h
  clear Wx
  go_upto_region 3 with (fail)
  refine wp_region_any (by kernel_rfl) ?_
  change wpAny _ _ _ _ _ _ _ (World.drew _)
  refine wpAny_take (i := 0) (v := ?_) rfl (by kernel_rfl) (by kernel_rfl) (by kernel_rfl) (fun _ _ _ h => h) (Or.inl ⟨by kernel_rfl, ?_⟩) ?_
  rotate_left 1
  · (intro w; go_simp <;> with_reducible rfl)
  go_simp
  refine wpAny_take (i := 1) (v := ?_) rfl (by kernel_rfl) (by kernel_rfl) (by kernel_rfl) (fun _ _ _ h => h) (Or.inl ⟨by kernel_rfl, ?_⟩) ?_
  rotate_left 1
  · (intro w; go_simp <;> with_reducible rfl)
  go_simp
  refine wpAny_take (i := 2) (v := ?_) rfl (by kernel_rfl) (by kernel_rfl) (by kernel_rfl) (fun _ _ _ h => h) (Or.inl ⟨by kernel_rfl, ?_⟩) ?_
  rotate_left 1
  · (intro w; go_simp <;> with_reducible rfl)
  go_simp
  refine wpAny_take (i := 3) (v := ?_) rfl (by kernel_rfl) (by kernel_rfl) (by kernel_rfl) (fun _ _ _ h => h) (Or.inl ⟨by kernel_rfl, ?_⟩) ?_
  rotate_left 1
  · (intro w; go_simp <;> with_reducible rfl)
  go_simp
  refine wpAny_ready (rs := [4, 5]) (by kernel_rfl) (by simp) ?_
  refine AllReady.cons rfl (fun K hK => ?_) ?_
  ·
    go_simp
    refine hK _ _ ?_; clear hK K
    refine wpAny_ready (rs := [5]) (by kernel_rfl) (by simp) ?_
    refine AllReady.cons rfl (fun K hK => ?_) ?_
    ·
      go_simp
      refine hK _ _ ?_; clear hK K
      refine wpAny_ready (rs := [6]) (by kernel_rfl) (by simp) ?_
      refine AllReady.cons rfl (fun K hK => ?_) ?_
      ·
        go_simp
        refine hK _ _ ?_; clear hK K
        refine wpAny_ready (rs := [7]) (by kernel_rfl) (by simp) ?_
        refine AllReady.cons rfl (fun K hK => ?_) ?_
        ·
          refine step_append_sl _ rfl _ _ 61 67 rfl Try.underlying61 info_pair rfl (by decide) (by decide) (some ⟨c.g, 0, none⟩) gs.length c.cg (gatesF gs) rfl HSL.out (by omega) ⟨w.heap.size + 1, 0, none⟩ 1 1 [.int .u32 (a : Int), .int .u32 (b : Int)] rfl rfl HNW.out (by simp [Value.oneCell']) (by omega) (by omega) ?_
          intro g4 c4 w4 hr4 hg4 hk4
          have hk5 := hk4 (fun k => k = c.g) (fun j hj => (onB_some _ _).1 hj)
          obtain ⟨d0, d1⟩ := HD0.out w4 hk5
          refine hK _ _ ?_; clear hK K
          refine wpAny_take (i := 8) (v := ?_) rfl (by kernel_rfl) (by kernel_rfl) (by kernel_rfl) (fun _ _ _ h => h) (Or.inl ⟨by kernel_rfl, ?_⟩) ?_
          rotate_left 1
          · (intro w; go_simp <;> with_reducible rfl)
          go_simp
          refine wpAny_take (i := 9) (v := ?_) rfl (by kernel_rfl) (by kernel_rfl) (by kernel_rfl) (fun _ _ _ h => h) (Or.inl ⟨by kernel_rfl, ?_⟩) ?_
          rotate_left 1
          · (intro w; go_simp <;> with_reducible rfl)
          go_simp
          refine wpAny_ready (rs := [10]) (by kernel_rfl) (by simp) ?_
          refine AllReady.cons rfl (fun K hK => ?_) ?_
          ·
            go_simp
            refine hK _ _ ?_; clear hK K
            refine wpAny_done (by kernel_rfl) ?_ _
            have HFin := Lib.hid (HPU.out w4 g4 c4 hr4 hg4 hk5)
            clear hr4 hg4 hk4 hk5 d0 d1
            go_wp2_with fail
            refine (glen_any HFin.out.at_).mono ?_
            rintro e w' ⟨rfl, rfl⟩
            go_wp2_with fail
            go_ret2
            exact ⟨rfl, _, HFin.out⟩
          exact AllReady.nil
        exact AllReady.nil
      exact AllReady.nil
    exact AllReady.nil
  refine AllReady.cons rfl (fun K hK => ?_) ?_
  ·
    go_simp
    refine hK _ _ ?_; clear hK K
    refine wpAny_ready (rs := [4, 6]) (by kernel_rfl) (by simp) ?_
    refine AllReady.cons rfl (fun K hK => ?_) ?_
    ·
      go_simp
      refine hK _ _ ?_; clear hK K
      refine wpAny_ready (rs := [6]) (by kernel_rfl) (by simp) ?_
      refine AllReady.cons rfl (fun K hK => ?_) ?_
      ·
        go_simp
        refine hK _ _ ?_; clear hK K
        refine wpAny_ready (rs := [7]) (by kernel_rfl) (by simp) ?_
        refine AllReady.cons rfl (fun K hK => ?_) ?_
        ·
          refine step_append_sl _ rfl _ _ 61 67 rfl Try.underlying61 info_pair rfl (by decide) (by decide) (some ⟨c.g, 0, none⟩) gs.length c.cg (gatesF gs) rfl HSL.out (by omega) ⟨w.heap.size + 1, 0, none⟩ 1 1 [.int .u32 (a : Int), .int .u32 (b : Int)] rfl rfl HNW.out (by simp [Value.oneCell']) (by omega) (by omega) ?_
          intro g4 c4 w4 hr4 hg4 hk4
          have hk5 := hk4 (fun k => k = c.g) (fun j hj => (onB_some _ _).1 hj)
          obtain ⟨d0, d1⟩ := HD0.out w4 hk5
          refine hK _ _ ?_; clear hK K
          refine wpAny_take (i := 8) (v := ?_) rfl (by kernel_rfl) (by kernel_rfl) (by kernel_rfl) (fun _ _ _ h => h) (Or.inl ⟨by kernel_rfl, ?_⟩) ?_
          rotate_left 1
          · (intro w; go_simp <;> with_reducible rfl)
          go_simp
          refine wpAny_take (i := 9) (v := ?_) rfl (by kernel_rfl) (by kernel_rfl) (by kernel_rfl) (fun _ _ _ h => h) (Or.inl ⟨by kernel_rfl, ?_⟩) ?_
          rotate_left 1
          · (intro w; go_simp <;> with_reducible rfl)
          go_simp
          refine wpAny_ready (rs := [10]) (by kernel_rfl) (by simp) ?_
          refine AllReady.cons rfl (fun K hK => ?_) ?_
          ·
            go_simp
            refine hK _ _ ?_; clear hK K
            refine wpAny_done (by kernel_rfl) ?_ _
            have HFin := Lib.hid (HPU.out w4 g4 c4 hr4 hg4 hk5)
            clear hr4 hg4 hk4 hk5 d0 d1
            go_wp2_with fail
            refine (glen_any HFin.out.at_).mono ?_
            rintro e w' ⟨rfl, rfl⟩
            go_wp2_with fail
            go_ret2
            exact ⟨rfl, _, HFin.out⟩
          exact AllReady.nil
        exact AllReady.nil
      exact AllReady.nil
    refine AllReady.cons rfl (fun K hK => ?_) ?_
    ·
      go_simp
      refine hK _ _ ?_; clear hK K
      refine wpAny_ready (rs := [4]) (by kernel_rfl) (by simp) ?_
      refine AllReady.cons rfl (fun K hK => ?_) ?_
      ·
        go_simp
        refine hK _ _ ?_; clear hK K
        refine wpAny_ready (rs := [7]) (by kernel_rfl) (by simp) ?_
        refine AllReady.cons rfl (fun K hK => ?_) ?_
        ·
          refine step_append_sl _ rfl _ _ 61 67 rfl Try.underlying61 info_pair rfl (by decide) (by decide) (some ⟨c.g, 0, none⟩) gs.length c.cg (gatesF gs) rfl HSL.out (by omega) ⟨w.heap.size + 1, 0, none⟩ 1 1 [.int .u32 (a : Int), .int .u32 (b : Int)] rfl rfl HNW.out (by simp [Value.oneCell']) (by omega) (by omega) ?_
          intro g4 c4 w4 hr4 hg4 hk4
          have hk5 := hk4 (fun k => k = c.g) (fun j hj => (onB_some _ _).1 hj)
          obtain ⟨d0, d1⟩ := HD0.out w4 hk5
          refine hK _ _ ?_; clear hK K
          refine wpAny_take (i := 8) (v := ?_) rfl (by kernel_rfl) (by kernel_rfl) (by kernel_rfl) (fun _ _ _ h => h) (Or.inl ⟨by kernel_rfl, ?_⟩) ?_
          rotate_left 1
          · (intro w; go_simp <;> with_reducible rfl)
          go_simp
          refine wpAny_take (i := 9) (v := ?_) rfl (by kernel_rfl) (by kernel_rfl) (by kernel_rfl) (fun _ _ _ h => h) (Or.inl ⟨by kernel_rfl, ?_⟩) ?_
          rotate_left 1
          · (intro w; go_simp <;> with_reducible rfl)
          go_simp
          refine wpAny_ready (rs := [10]) (by kernel_rfl) (by simp) ?_
          refine AllReady.cons rfl (fun K hK => ?_) ?_
          ·
            go_simp
            refine hK _ _ ?_; clear hK K
            refine wpAny_done (by kernel_rfl) ?_ _
            have HFin := Lib.hid (HPU.out w4 g4 c4 hr4 hg4 hk5)
            clear hr4 hg4 hk4 hk5 d0 d1
            go_wp2_with fail
            refine (glen_any HFin.out.at_).mono ?_
            rintro e w' ⟨rfl, rfl⟩
            go_wp2_with fail
            go_ret2
            exact ⟨rfl, _, HFin.out⟩
          exact AllReady.nil
        exact AllReady.nil
      exact AllReady.nil
    exact AllReady.nil
  exact AllReady.nil
end Go.Proofs.Ytmiifhclcknhdaa
