/- Needed at a log whose first Step isn't so: contracts of take, walk, Needed there. -/
import Derived.Test.YtkckodpfhlpkgaaGreatHandD
namespace Go.Proofs.YtkckodpfhlpkgaaGreat
open Go.RowKit LitM TrailM EngM CnfP

/-- A call that says no, and leaves Q. -/
def SaysNo (Q : World → Prop) (e : Ending) (w' : World) : Prop := e = .returned (.bool false) ∧ Q w'
section
variable {w : World}
set_option maxHeartbeats 6400000 in
set_option maxRecDepth 100000 in
theorem htake_no {bh bt n cp : Nat} {i : Int} {A : Option Addr} (Q : World → Prop) (hc : w.cell? ⟨bh, 1, none⟩ = some (.pointer (some ⟨bt, 0, none⟩))) (hbl : bh < w.heap.size) (hF : ∀ V, Below w.heap.size w V → Calls Tryz.prog 14 #[.pointer (some ⟨bt, 0, none⟩), .slice A n cp] V (SaysNo Q)) :
    Calls Tryz.prog 19 #[.pointer (some ⟨bh, 0, none⟩), .int .i64 i, .agg #[.bool false, .slice A n cp]] w (SaysNo Q) := by
  obtain ⟨W, hW⟩ : ∃ W, W = w.alloc (.cells #[.bool false, .slice A n cp] 41) := ⟨_, rfl⟩
  have hbW : Below w.heap.size w W := by rw [hW]; exact (Below.refl _ _).alloc (Nat.le_refl _) _
  have HFl : Hid (∀ V, Below W.heap.size W V → Calls Tryz.prog 14 #[.pointer (some ⟨bt, 0, none⟩), .slice A n cp] V (SaysNo Q)) := fun V hV => hF V (hbW.trans (hV.mono hbW.size))
  have x0 : W.cell? ⟨w.heap.size, 0, none⟩ = some (.bool false) := by rw [hW, Lib.cell_of_heap (blk_new w _)]; rfl
  have x1 : W.cell? ⟨w.heap.size, 1, none⟩ = some (.slice A n cp) := by rw [hW, Lib.cell_of_heap (blk_new w _)]; rfl
  have d1 : W.cell? ⟨bh, 1, none⟩ = some (.pointer (some ⟨bt, 0, none⟩)) := (hbW.cell (p := ⟨bh, 1, none⟩) hbl).trans hc
  have HW := Lib.hid hW
  have hb5 : Below W.heap.size W W.drew := (Below.refl _ _).drew
  clear hc hbl hF hbW hW
  go_enter Tryz.func19, Tryz.ntmps19
  go_upto_region 1 with (fail)
  rw [← HW.out]
  go_upto_region 3 with (fail)
  refine wp_region_any (by kernel_rfl) ?_
  change wpAny _ _ _ _ _ _ _ (World.drew _)
  refine wpAny_take (i := 0) (v := ?_) rfl (by kernel_rfl) (by kernel_rfl) (by kernel_rfl) (fun _ _ _ h => h) (Or.inl ⟨by kernel_rfl, ?_⟩) ?_
  rotate_left 1
  · (intro w; go_simp <;> with_reducible rfl)
  go_simp
  refine wpAny_take (i := 1) (v := ?_) rfl (by kernel_rfl) (by kernel_rfl) (by kernel_rfl) (fun _ _ _ h => h) (Or.inl ⟨by kernel_rfl, ?_⟩) ?_
  rotate_left 1
  · (intro w; go_simp <;> with_reducible rfl)
  go_simp
  refine wpAny_take (i := 2) (v := ?_) rfl (by kernel_rfl) (by kernel_rfl) (by kernel_rfl) (fun _ _ _ h => h) (Or.inl ⟨by kernel_rfl, ?_⟩) ?_
  rotate_left 1
  · (intro w; go_simp <;> with_reducible rfl)
  go_simp
  refine wpAny_take (i := 4) (v := ?_) rfl (by kernel_rfl) (by kernel_rfl) (by kernel_rfl) (fun _ _ _ h => h) (Or.inl ⟨by kernel_rfl, ?_⟩) ?_
  rotate_left 1
  · (intro w; go_simp <;> with_reducible rfl)
  go_simp
  refine wpAny_ready (rs := [3, 5]) (by kernel_rfl) (by simp) ?_
  refine AllReady.cons rfl (fun K hK => ?_) ?_
  ·
    go_simp
    refine hK _ _ ?_; clear hK K
    refine wpAny_ready (rs := [5]) (by kernel_rfl) (by simp) ?_
    refine AllReady.cons rfl (fun K hK => ?_) ?_
    ·
      go_simp
      refine hK _ _ ?_; clear hK K
      refine wpAny_ready (rs := [6]) (by kernel_rfl) (by simp) ?_
      refine AllReady.cons rfl (fun K hK => ?_) ?_
      ·
        go_simp
        go_wp2_with (first | (go_at_call 14; refine (HFl.out _ (by assumption)).mono ?_; rintro e w2 ⟨rfl, hq⟩))
        first | (refine hK _ _ ?_; clear hK K) | skip
        refine wpAny_take (i := 7) (v := ?_) rfl (by kernel_rfl) (by kernel_rfl) (by kernel_rfl) (fun _ _ _ h => h) (Or.inl ⟨by kernel_rfl, ?_⟩) ?_
        rotate_left 1
        · (intro w; go_simp <;> with_reducible rfl)
        go_simp
        refine wpAny_done (by kernel_rfl) ?_ _
        have HQ := Lib.hid hq
        clear hq HFl hb5
        go_wp2_with fail
        go_ret
        exact ⟨rfl, HQ.out⟩
      exact AllReady.nil
    exact AllReady.nil
  refine AllReady.cons rfl (fun K hK => ?_) ?_
  ·
    go_simp
    refine hK _ _ ?_; clear hK K
    refine wpAny_ready (rs := [3]) (by kernel_rfl) (by simp) ?_
    refine AllReady.cons rfl (fun K hK => ?_) ?_
    ·
      go_simp
      refine hK _ _ ?_; clear hK K
      refine wpAny_ready (rs := [6]) (by kernel_rfl) (by simp) ?_
      refine AllReady.cons rfl (fun K hK => ?_) ?_
      ·
        go_simp
        go_wp2_with (first | (go_at_call 14; refine (HFl.out _ (by assumption)).mono ?_; rintro e w2 ⟨rfl, hq⟩))
        first | (refine hK _ _ ?_; clear hK K) | skip
        refine wpAny_take (i := 7) (v := ?_) rfl (by kernel_rfl) (by kernel_rfl) (by kernel_rfl) (fun _ _ _ h => h) (Or.inl ⟨by kernel_rfl, ?_⟩) ?_
        rotate_left 1
        · (intro w; go_simp <;> with_reducible rfl)
        go_simp
        refine wpAny_done (by kernel_rfl) ?_ _
        have HQ := Lib.hid hq
        clear hq HFl hb5
        go_wp2_with fail
        go_ret
        exact ⟨rfl, HQ.out⟩
      exact AllReady.nil
    exact AllReady.nil
  exact AllReady.nil
set_option maxHeartbeats 6400000 in
set_option maxRecDepth 100000 in
theorem hwalk_no {bh bt lg n cp : Nat} {A : Option Addr} (Q : World → Prop) (hc : w.cell? ⟨bh, 1, none⟩ = some (.pointer (some ⟨bt, 0, none⟩))) (hbl : bh < w.heap.size) (c0 : w.cell? ⟨lg, 0, none⟩ = some (.bool false)) (c1 : w.cell? ⟨lg, 1, none⟩ = some (.slice A n cp)) (hF : ∀ V, Below w.heap.size w V → Calls Tryz.prog 14 #[.pointer (some ⟨bt, 0, none⟩), .slice A n cp] V (SaysNo Q)) :
    Calls Tryz.prog 13 #[.pointer (some ⟨bh, 0, none⟩), .slice (some ⟨lg, 0, none⟩) 1 1] w fun e w' => e = .returned (.int .i64 0) ∧ Q w' := by
  obtain ⟨W, hW⟩ : ∃ W, W = w.alloc (.cells #[.bool false, .slice A n cp] 41) := ⟨_, rfl⟩
  have hbW : Below w.heap.size w W := by rw [hW]; exact (Below.refl _ _).alloc (Nat.le_refl _) _
  have hTk := htake_no (w := W) (bh := bh) (bt := bt) (i := 0) (A := A) (n := n) (cp := cp) Q ((hbW.cell (p := ⟨bh, 1, none⟩) hbl).trans hc) (Nat.lt_of_lt_of_le hbl hbW.size) (fun V hV => hF V (hbW.trans (hV.mono hbW.size)))
  have x0 : W.cell? ⟨w.heap.size, 0, none⟩ = some (.bool false) := by rw [hW, Lib.cell_of_heap (blk_new w _)]; rfl
  have x1 : W.cell? ⟨w.heap.size, 1, none⟩ = some (.slice A n cp) := by rw [hW, Lib.cell_of_heap (blk_new w _)]; rfl
  have HTk := Lib.hid hTk
  have HW := Lib.hid hW
  clear hTk hc hbl hF hbW hW
  go_enter Tryz.func13, Tryz.ntmps13
  go_wp2_with fail
  go_loopw [9] (fun v wr => v = .int .i64 0 ∧ w = wr) (fun _ _ => 0)
  case atStart => exact ⟨rfl, rfl⟩
  case round =>
    obtain ⟨rfl, rfl⟩ := hrel
    go_upto_region 4 with (fail)
    rw [← HW.out]
    go_wp2_with fail
    refine HTk.out.mono ?_
    rintro e w2 ⟨rfl, hq⟩
    have HQ := Lib.hid hq
    clear hq HTk
    go_wp2_with fail
    go_ret
    exact ⟨rfl, HQ.out⟩
/-- Of no clauses [1] doesn't follow. -/
theorem rup_none {K : List Int → Prop} (hK : ∀ c, ¬ K c) : ¬ Rup K [1] := fun h => by
  refine h (fun y => y = -1) ⟨fun y _ a b => by omega, fun c hc _ => absurd hc (hK c)⟩ fun l hl => ?_
  have : l = 1 := by simpa using hl
  subst this
  rfl
set_option maxHeartbeats 6400000 in
set_option maxRecDepth 100000 in
theorem pneed_no {lg : Nat} (hl : RdS w w.heap.size (some ⟨lg, 0, none⟩) 1 [(false, [1])]) :
    Calls Tryz.prog 10 #[.agg #[.int .i64 1, .slice none 0 0], .slice (some ⟨lg, 0, none⟩) 1 1] w fun e w' => e = .returned (.tuple #[.slice none 0 0, .int .i64 91]) ∧ Below w.heap.size w w' := by
  have hbw1 : Below w.heap.size w (w.alloc (.cells #[.int .i64 1, .slice none 0 0] 24)) := (Below.refl _ _).alloc (Nat.le_refl _) _
  have HBg := Lib.hid (begin_any (B := w.heap.size) (w0 := w) hbw1.size hbw1 (v := 1) (by omega) (by omega) (.inl (by omega)) (nf := 0) (N := 1) (cn := 1) (cf := 0) (m := 0) (cm := 0) (by omega) (by omega) none [] ⟨rfl, fun h => absurd h (by omega)⟩ (by simp) (by simp) none [] rd_nil (In32.of (by simp)) (by omega) (some ⟨lg, 0, none⟩) [(false, [1])] hl (fun s hs => by simp at hs; subst hs; exact In32.of (by simp)) (fun s hs => by simp at hs; subst hs; simp))
  obtain ⟨b, o, hA, hb, hc⟩ := hl.at_ (by omega)
  obtain ⟨rfl, rfl⟩ : b = lg ∧ o = 0 := by injection hA with hA; injection hA with h1 h2; exact ⟨h1.symm, h2.symm⟩
  obtain ⟨Aj, nj, cj, c0, c1, hrd⟩ := hc 0 (by omega)
  have c0 : w.cell? ⟨b, 0, none⟩ = some (.bool false) := c0
  have c1 : w.cell? ⟨b, 1, none⟩ = some (.slice Aj nj cj) := c1
  have hrd : Rd .i32 w w.heap.size Aj nj [1] := hrd
  have hnj : nj = 1 := hrd.len.symm
  have HC0 := Lib.hid c0
  have HC1 := Lib.hid c1
  have HRD := Lib.hid hrd
  have HB := Lib.hid hb
  clear hl hA hc c0 c1 hrd hb hbw1
  go_enter Tryz.func10, Tryz.ntmps10
  go_wp2_with fail
  refine HBg.out.mono ?_
  intro e w1 ht
  rcases ht with ⟨hf, _⟩ | ⟨_, h, c, S, q, rfl, H, HO, _, _, _, _⟩
  · exact absurd hf (by decide)
  · obtain ⟨_, d1, _, _, _, _⟩ := H.cells
    obtain ⟨h2, x2⟩ := H.tm.tset (c' := { c with tr := true }) (k := 7) (v := .bool true) rfl rfl rfl rfl rfl rfl rfl rfl rfl rfl rfl rfl rfl rfl rfl
    obtain ⟨⟨_, _, _, _, _, _, _, t7⟩, _, _, _, tf, _⟩ := H.tm.cells
    have hlo := H.lo h.bh (by rw [H.lh]; intro e; cases e)
    have hne : c.bt ≠ h.bh := fun e => by have := H.tm.lt; rw [e, hlo.2.1] at this; cases this
    obtain ⟨w2, hw2⟩ : ∃ w2, w2 = w1.setCell ⟨c.bt, 7, none⟩ (.bool true) := ⟨_, rfl⟩
    rw [← hw2] at h2
    have hs2 : w2.heap.size = w1.heap.size := by rw [hw2]; simp [World.setCell]
    have e1 : w2.cell? ⟨h.bh, 1, none⟩ = some (.pointer (some ⟨c.bt, 0, none⟩)) := by rw [hw2, World.cell?_setCell_far _ _ _ _ (by exact hne)]; exact d1
    have ho2 : Below w.heap.size w w2 := h2.eng.out
    have e2 : w2.cell? ⟨b, 0, none⟩ = some (.bool false) := (ho2.cell (p := ⟨b, 0, none⟩) HB.out).trans HC0.out
    have e3 : w2.cell? ⟨b, 1, none⟩ = some (.slice Aj nj cj) := (ho2.cell (p := ⟨b, 1, none⟩) HB.out).trans HC1.out
    have hok2 : TmOk { c with tr := true } S 1 := ⟨HO.t.E, HO.t.v, HO.t.d, HO.t.s⟩
    have hcn : S.cs.length ≤ 20000 := Nat.le_trans HO.sz.1 (by omega)
    have hno : ¬ Rup (hasE S) [1] := rup_none fun c hc => (HO.has c).1 hc rfl
    have HWk := Lib.hid (hwalk_no (w := w2) (bh := h.bh) (bt := c.bt) (lg := b) (n := nj) (cp := cj) (A := Aj) (fun V => Below w.heap.size w V) e1 (by rw [hs2]; exact hlo.2.2.2) e2 e3 (fun V hV => by
      have h3 := h2.below hV
      refine (tfollows_any (n := 1) h3 hok2 hcn Aj nj cj [1] ((HRD.out.below h3.eng.out).more h3.eng.hs) (In32.of (by simp)) (by omega) (fun h0 j hj => ?_) (fun x hx => by simp at hx; subst hx; decide) (fun _ => hno)).mono ?_
      · obtain ⟨g, o, e, hg, _⟩ := HRD.out.at_ h0
        rw [e, onB_some] at hj
        have hj2 : j < w.heap.size := by rw [hj]; exact hg
        refine ⟨Nat.lt_of_lt_of_le hj2 h3.eng.hs, Classical.byContradiction fun e => ?_, Classical.byContradiction fun e => ?_⟩
        · have := h3.eng.own j e; omega
        · have := (h3.lo j e).2.1; omega
      · rintro e w' ⟨bb, rfl, ⟨s, kk, d, S2, q2, a1, _⟩, hrup⟩
        have : bb = false := by
          cases bb with
          | false => rfl
          | true => exact absurd (hrup.1 rfl) hno
        exact ⟨by rw [this], a1.eng.out⟩))
    have HW2 := Lib.hid hw2
    have tf7 := tf 7
    clear HBg H HO h2 x2 tf hlo hne hw2 hs2 e1 ho2 e2 e3 hok2 hcn hno
    go_upto_region 5 with (fail)
    rw [← HW2.out]
    go_wp2_with fail
    refine HWk.out.mono ?_
    rintro e w3 ⟨rfl, hq⟩
    have HQ := Lib.hid hq
    clear hq HWk
    go_wp2_with fail
    go_ret2
    exact ⟨rfl, HQ.out⟩
end
end Go.Proofs.YtkckodpfhlpkgaaGreat
