/- Less. -/
import Derived.Test.YtelpoocgmflofaaVecH
import Derived.StillTailTactics
namespace Go.Proofs.Ytelpoocgmflofaa
open Go.RowKit GatM VecM

/-- a, in m bits, with b's last one. -/
def swL (la lb : List Nat) (m : Nat) : List Nat := (List.range m).map fun j => if j = m - 1 then atL lb j else atL la j
theorem swL_len (la lb : List Nat) (m : Nat) : (swL la lb m).length = m := by simp [swL]
theorem swL_at (la lb : List Nat) {m j : Nat} (h : j < m) : (swL la lb m).getD j 0 = if j = m - 1 then atL lb j else atL la j := by
  unfold swL
  rw [List.getD, List.getElem?_map, List.getElem?_range h]
  rfl
/-- What Less has found so far: of the k lowest bits. -/
structure LtK (gs gk : Gs) (e k m : Nat) (C : Prop) (la lb : List Nat) : Prop where
  wf : Wf gk
  ex : Ex gs gk
  len : gk.length ≤ gs.length + 8 * k
  lt : e / 2 < gk.length
  cst : C → gk = gs ∧ e < 2
  say : ∀ vals, sayE vals gk e = ltF (swF (bitE vals gs la) (bitE vals gs lb) (m - 1)) (swF (bitE vals gs lb) (bitE vals gs la) (m - 1)) k
section
variable {B : Nat} {w0 w : World} {c : GrC} {gs : Gs}
theorem LtK.step {gk g1 g2 : Gs} {e k m r1 r2 : Nat} {C C1 C2 : Prop} {la lb : List Nat} {f2 : List Bool → Bool} (h : LtK gs gk e k m C la lb) (hk : k < m) (h1 : Res gk g1 r1 0 C1 fun vals => !sayE vals gk ((swL la lb m).getD k 0)) (h2 : Res g1 g2 r2 8 C2 f2)
    (hf : ∀ vals, f2 vals = maj (sayE vals g1 r1) (sayE vals g1 ((swL lb la m).getD k 0)) (sayE vals g1 e)) (hc1 : C → C1) (hc2 : C → r1 < 2 → C2) (hla : ∀ i, atL la i / 2 < gs.length) (hlb : ∀ i, atL lb i / 2 < gs.length) : LtK gs g2 r2 (k + 1) m C la lb := by
  have key : ∀ (xa xb : List Nat), (∀ i, atL xa i / 2 < gs.length) → (∀ i, atL xb i / 2 < gs.length) → (swL xa xb m).getD k 0 / 2 < gs.length ∧ ∀ vals, sayE vals gs ((swL xa xb m).getD k 0) = swF (bitE vals gs xa) (bitE vals gs xb) (m - 1) k := fun xa xb ha hb => by
    rw [swL_at xa xb hk]
    refine ⟨by split <;> first | exact hb _ | exact ha _, fun vals => ?_⟩
    unfold swF bitE
    split <;> rfl
  obtain ⟨a1, a2⟩ := key la lb hla hlb
  obtain ⟨b1, b2⟩ := key lb la hlb hla
  refine ⟨h2.wf, h.ex.trans (h1.ex.trans h2.ex), by have := h.len; have := h1.len; have := h2.len; omega, h2.lt, fun q => ?_, fun vals => ?_⟩
  · obtain ⟨c1, d1⟩ := h.cst q
    obtain ⟨c2, d2⟩ := h1.cst (hc1 q)
    obtain ⟨c3, d3⟩ := h2.cst (hc2 q d2)
    exact ⟨c3.trans (c2.trans c1), d3⟩
  · rw [h2.say, hf, h1.say, say_ex h.ex a1, a2, say_ex (h.ex.trans h1.ex) b1, b2, say_ex h1.ex h.lt, h.say]
    rfl
set_option maxHeartbeats 3200000 in
set_option maxRecDepth 100000 in
theorem vless_any (h : LvG B w0 w c gs) {A D : Option Addr} {n m cn cm : Nat} {la lb : List Nat} (hla : VcAt w c A n la) (hlb : VcAt w c D m lb) (hia : AllIn gs la) (hib : AllIn gs lb) (hn : n ≤ 32) (hm : m ≤ 32) (hg : gs.length ≤ 60000) :
    Calls Try.prog 14 #[.pointer (some ⟨c.bg, 0, none⟩), .slice A n cn, .slice D m cm] w (Edge2To B w0 w c gs 256 (Cst la ∧ Cst lb) fun vals => decide (valE vals gs la < valE vals gs lb)) := by
  have hpa := hla.pos
  have hpb := hlb.pos
  have hlna := hla.len
  have hlnb := hlb.len
  obtain ⟨M, hM⟩ : ∃ M, M = max n m := ⟨_, rfl⟩
  have hMM : max (n : Int) (m : Int) = (M : Int) := by omega
  have hM1 : 1 ≤ M ∧ M ≤ 32 ∧ n ≤ M ∧ m ≤ M := by omega
  have HBG := Lib.hid (vbeg2 h hla hlb hia hib (cn := cn) (cm := cm) hn hm (by omega) M ⟨by omega, by omega⟩)
  have HG := Lib.hid h
  have HA := Lib.hid hla
  have HD := Lib.hid hlb
  have HIA : Hid (∀ i, atL la i / 2 < gs.length ∧ (Cst la → atL la i < 2)) := fun i => ⟨hia _ (atL_mem (by omega) i), fun q => q.at_ (by omega) i⟩
  have HIB : Hid (∀ i, atL lb i / 2 < gs.length ∧ (Cst lb → atL lb i < 2)) := fun i => ⟨hib _ (atL_mem (by omega) i), fun q => q.at_ (by omega) i⟩
  have HN := Lib.hid hg
  clear h hla hlb hia hib hg hM hn hm
  go_enter Try.func14, Try.ntmps14
  go_wp2_with fail
  refine HBG.out.mono ?_
  rintro e w1 ⟨b, rfl, hb, hmk1⟩
  have HM := Lib.hid hmk1
  have HW := Lib.hid hb
  have HWA := Lib.hid (vwiden_any (cn := cn) (HA.out.below hb) (by omega) M (by omega))
  clear hb hmk1 HBG
  go_wp2_with fail
  refine HWA.out.mono ?_
  rintro e w2 ⟨ga, rfl, hra, hb2, hga⟩
  have HRA := Lib.hid hra
  have HW2 := Lib.hid hb2
  have HGA := Lib.hid hga
  have HWD := Lib.hid (vwiden_any (cn := cm) ((HD.out.below HW.out).below hb2) (by omega) M (by omega))
  clear hra hb2 hga HWA
  go_wp2_with fail
  refine HWD.out.mono ?_
  rintro e w3 ⟨gd, rfl, hrd, hb3, hgd⟩
  have hra3 := HRA.out.same (hb3.block ga HRA.out.lt)
  have hne : ga ≠ gd := by have := HRA.out.lt; omega
  obtain ⟨M1, hM0⟩ : ∃ M1, M1 = M - 1 := ⟨_, rfl⟩
  have hM1i : (M : Int) - 1 = (M1 : Int) := by omega
  have hM1l : M1 < M := by omega
  have HRA3 := Lib.hid hra3
  have HRD := Lib.hid hrd
  have HW3 : Hid (Below w1.heap.size w1 w3) := HW2.out.trans (hb3.mono HW2.out.size)
  have HGD : Hid (w1.heap.size ≤ gd) := Nat.le_trans HW2.out.size hgd
  have HM0 := Lib.hid hM0
  have x0 : w3.cell? ⟨ga, M1, none⟩ = some (.int .u32 ((atL la M1 : Nat) : Int)) := hra3.cell (show M1 < M * 1 by omega)
  have x1 : w3.cell? ⟨gd, M1, none⟩ = some (.int .u32 ((atL lb M1 : Nat) : Int)) := hrd.cell (show M1 < M * 1 by omega)
  clear hra3 hrd hb3 hgd HWD HRA hM0
  go_upto_region 6 with (fail)
  have hsw : Hid (∀ q, RowV 25 1 (((w3.drewN q).setCell ⟨ga, M1, none⟩ (.int .u32 ((atL lb M1 : Nat) : Int))).setCell ⟨gd, M1, none⟩ (.int .u32 ((atL la M1 : Nat) : Int))) ga M M (numF .u32 (swL la lb M)) ∧ RowV 25 1 (((w3.drewN q).setCell ⟨ga, M1, none⟩ (.int .u32 ((atL lb M1 : Nat) : Int))).setCell ⟨gd, M1, none⟩ (.int .u32 ((atL la M1 : Nat) : Int))) gd M M (numF .u32 (swL lb la M)) ∧ Below w1.heap.size w1 (((w3.drewN q).setCell ⟨ga, M1, none⟩ (.int .u32 ((atL lb M1 : Nat) : Int))).setCell ⟨gd, M1, none⟩ (.int .u32 ((atL la M1 : Nat) : Int)))) := fun q => by
    have r1 : RowV 25 1 (w3.drewN q) ga M M (fun j => .int .u32 ((atL la j : Nat) : Int)) := HRA3.out.same rfl
    have r2 : RowV 25 1 (w3.drewN q) gd M M (fun j => .int .u32 ((atL lb j : Nat) : Int)) := HRD.out.same rfl
    refine ⟨((r1.set (show M1 < M * 1 by omega) _).other (a := ⟨gd, M1, none⟩) (fun e => hne e.symm) _).congr fun j hj => ?_, ((r2.other (a := ⟨ga, M1, none⟩) hne _).set (show M1 < M * 1 by omega) _).congr fun j hj => ?_, ((below_drewN HW3.out q).setCell HGA.out _).setCell HGD.out _⟩
    all_goals
      unfold numF updV
      rw [swL_at _ _ (by omega), ← HM0.out]
      by_cases e : j = M1
      · rw [if_pos e, if_pos e, e]
      · rw [if_neg e, if_neg e]
  go_cut [] (fun wx => Hid (RowV 25 1 wx ga M M (numF .u32 (swL la lb M)) ∧ RowV 25 1 wx gd M M (numF .u32 (swL lb la M)) ∧ Below w1.heap.size w1 wx))
  case first =>
    have x2 := HRA3.out.free M1
    have x3 := HRD.out.free M1
    have hw1 : IntKind.i64.wrap (M1 : Int) = (M1 : Int) := IntWalk.i64_in _ (by omega)
    generalize atL la M1 = xa at *
    generalize atL lb M1 = xb at *
    refine wp_region_any (by kernel_rfl) ?_
    change wpAny _ _ _ _ _ _ _ (World.drew _)
    refine wpAny_take (i := 0) (v := ?_) rfl (by kernel_rfl) (by kernel_rfl) (by kernel_rfl) (fun _ _ _ h => h) (Or.inl ⟨by kernel_rfl, ?_⟩) ?_
    rotate_left 1
    · (intro w; go_simp <;> with_reducible rfl)
    go_simp
    refine wpAny_take (i := 1) (v := ?_) rfl (by kernel_rfl) (by kernel_rfl) (by kernel_rfl) (fun _ _ _ h => h) (Or.inl ⟨by kernel_rfl, ?_⟩) ?_
    rotate_left 1
    · (intro w; go_simp <;> with_reducible rfl)
    go_simp
    refine wpAny_take (i := 2) (v := ?_) rfl (by kernel_rfl) (by kernel_rfl) (by kernel_rfl) (fun _ _ _ h => h) (Or.inl ⟨by kernel_rfl, ?_⟩) ?_
    rotate_left 1
    · (intro w; go_simp <;> with_reducible rfl)
    go_simp
    refine wpAny_take (i := 3) (v := ?_) rfl (by kernel_rfl) (by kernel_rfl) (by kernel_rfl) (fun _ _ _ h => h) (Or.inl ⟨by kernel_rfl, ?_⟩) ?_
    rotate_left 1
    · (intro w; go_simp <;> with_reducible rfl)
    go_simp
    refine wpAny_take (i := 4) (v := ?_) rfl (by kernel_rfl) (by kernel_rfl) (by kernel_rfl) (fun _ _ _ h => h) (Or.inl ⟨by kernel_rfl, ?_⟩) ?_
    rotate_left 1
    · (intro w; go_simp <;> with_reducible rfl)
    go_simp
    refine wpAny_take (i := 5) (v := ?_) rfl (by kernel_rfl) (by kernel_rfl) (by kernel_rfl) (fun _ _ _ h => h) (Or.inl ⟨by kernel_rfl, ?_⟩) ?_
    rotate_left 1
    · (intro w; go_simp <;> with_reducible rfl)
    go_simp
    refine wpAny_take (i := 6) (v := ?_) rfl (by kernel_rfl) (by kernel_rfl) (by kernel_rfl) (fun _ _ _ h => h) (Or.inl ⟨by kernel_rfl, ?_⟩) ?_
    rotate_left 1
    · (intro w; go_simp <;> with_reducible rfl)
    go_simp
    refine wpAny_take (i := 7) (v := ?_) rfl (by kernel_rfl) (by kernel_rfl) (by kernel_rfl) (fun _ _ _ h => h) (Or.inl ⟨by kernel_rfl, ?_⟩) ?_
    rotate_left 1
    · (intro w; go_simp <;> with_reducible rfl)
    go_simp
    refine wpAny_take (i := 8) (v := ?_) rfl (by kernel_rfl) (by kernel_rfl) (by kernel_rfl) (fun _ _ _ h => h) (Or.inl ⟨by kernel_rfl, ?_⟩) ?_
    rotate_left 1
    · (intro w; go_simp <;> with_reducible rfl)
    go_simp
    refine wpAny_take (i := 9) (v := ?_) rfl (by kernel_rfl) (by kernel_rfl) (by kernel_rfl) (fun _ _ _ h => h) (Or.inl ⟨by kernel_rfl, ?_⟩) ?_
    rotate_left 1
    · (intro w; go_simp <;> with_reducible rfl)
    go_simp
    refine wpAny_take (i := 11) (v := ?_) rfl (by kernel_rfl) (by kernel_rfl) (by kernel_rfl) (fun _ _ _ h => h) (Or.inl ⟨by kernel_rfl, ?_⟩) ?_
    rotate_left 1
    · (intro w; go_simp <;> with_reducible rfl)
    go_simp
    refine wpAny_take (i := 12) (v := ?_) rfl (by kernel_rfl) (by kernel_rfl) (by kernel_rfl) (fun _ _ _ h => h) (Or.inl ⟨by kernel_rfl, ?_⟩) ?_
    rotate_left 1
    · (intro w; go_simp <;> with_reducible rfl)
    go_simp
    refine wpAny_take (i := 13) (v := ?_) rfl (by kernel_rfl) (by kernel_rfl) (by kernel_rfl) (fun _ _ _ h => h) (Or.inl ⟨by kernel_rfl, ?_⟩) ?_
    rotate_left 1
    · (intro w; go_simp <;> with_reducible rfl)
    go_simp
    refine wpAny_take (i := 14) (v := ?_) rfl (by kernel_rfl) (by kernel_rfl) (by kernel_rfl) (fun _ _ _ h => h) (Or.inl ⟨by kernel_rfl, ?_⟩) ?_
    rotate_left 1
    · (intro w; go_simp <;> with_reducible rfl)
    go_simp
    refine wpAny_ready (rs := [10, 15]) (by kernel_rfl) (by simp) ?_
    refine AllReady.cons rfl (fun K hK => ?_) ?_
    ·
      go_simp
      refine hK _ _ ?_; clear hK K
      refine wpAny_ready (rs := [15]) (by kernel_rfl) (by simp) ?_
      refine AllReady.cons rfl (fun K hK => ?_) ?_
      ·
        go_simp
        refine hK _ _ ?_; clear hK K
        refine wpAny_take (i := 16) (v := ?_) rfl (by kernel_rfl) (by kernel_rfl) (by kernel_rfl) (fun _ _ _ h => h) (Or.inl ⟨by kernel_rfl, ?_⟩) ?_
        rotate_left 1
        · (intro w; go_simp <;> with_reducible rfl)
        go_simp
        refine wpAny_ready (rs := [17]) (by kernel_rfl) (by simp) ?_
        refine AllReady.cons rfl (fun K hK => ?_) ?_
        ·
          go_simp
          refine hK _ _ ?_; clear hK K
          refine wpAny_take (i := 18) (v := ?_) rfl (by kernel_rfl) (by kernel_rfl) (by kernel_rfl) (fun _ _ _ h => h) (Or.inl ⟨by kernel_rfl, ?_⟩) ?_
          rotate_left 1
          · (intro w; go_simp <;> with_reducible rfl)
          go_simp
          refine wpAny_ready (rs := [19]) (by kernel_rfl) (by simp) ?_
          refine AllReady.cons rfl (fun K hK => ?_) ?_
          ·
            go_simp
            refine hK _ _ ?_; clear hK K
            refine wpAny_done (by kernel_rfl) ?_ _
            go_wp2_with fail
            go_meet
            first | exact hsw.out _ | trace_state
          exact AllReady.nil
        exact AllReady.nil
      exact AllReady.nil
    refine AllReady.cons rfl (fun K hK => ?_) ?_
    ·
      go_simp
      refine hK _ _ ?_; clear hK K
      refine wpAny_ready (rs := [10]) (by kernel_rfl) (by simp) ?_
      refine AllReady.cons rfl (fun K hK => ?_) ?_
      ·
        go_simp
        refine hK _ _ ?_; clear hK K
        refine wpAny_take (i := 16) (v := ?_) rfl (by kernel_rfl) (by kernel_rfl) (by kernel_rfl) (fun _ _ _ h => h) (Or.inl ⟨by kernel_rfl, ?_⟩) ?_
        rotate_left 1
        · (intro w; go_simp <;> with_reducible rfl)
        go_simp
        refine wpAny_ready (rs := [17]) (by kernel_rfl) (by simp) ?_
        refine AllReady.cons rfl (fun K hK => ?_) ?_
        ·
          go_simp
          refine hK _ _ ?_; clear hK K
          refine wpAny_take (i := 18) (v := ?_) rfl (by kernel_rfl) (by kernel_rfl) (by kernel_rfl) (fun _ _ _ h => h) (Or.inl ⟨by kernel_rfl, ?_⟩) ?_
          rotate_left 1
          · (intro w; go_simp <;> with_reducible rfl)
          go_simp
          refine wpAny_ready (rs := [19]) (by kernel_rfl) (by simp) ?_
          refine AllReady.cons rfl (fun K hK => ?_) ?_
          ·
            go_simp
            refine hK _ _ ?_; clear hK K
            refine wpAny_done (by kernel_rfl) ?_ _
            go_wp2_with fail
            go_meet
            first | exact hsw.out _ | trace_state
          exact AllReady.nil
        exact AllReady.nil
      exact AllReady.nil
    exact AllReady.nil
  case rest =>
  have HG1 := Lib.hid (HG.out.below HW.out)
  have H0 : Hid (LvTo B w0 w1 wc c c gs ∧ VcAt wc c (some ⟨ga, 0, none⟩) M (swL la lb M) ∧ VcAt wc c (some ⟨gd, 0, none⟩) M (swL lb la M) ∧ LtK gs gs 0 0 M (Cst la ∧ Cst lb) la lb) := by
    obtain ⟨r1, r2, hb⟩ := hcut.out
    have hT := LvTo.ofBelow HG1.out hb
    have hv : ∀ g xa xb, w1.heap.size ≤ g → RowV 25 1 wc g M M (numF .u32 (swL xa xb M)) → VcAt wc c (some ⟨g, 0, none⟩) M (swL xa xb M) := fun g xa xb hg hr => by
      have := VcAt.row (c := c) (l := swL xa xb M) hr (by rw [swL_len]; omega) (by rw [swL_len]; exact Nat.le_refl _) (fun ho => by have := HG1.out.at_.lt ho; omega) (fun _ _ => rfl)
      rwa [swL_len] at this
    exact ⟨hT, hv ga la lb HGA.out r1, hv gd lb la HGD.out r2, HG1.out.wf, Ex.refl _, Nat.le_refl _, HG1.out.wf.pos, fun _ => ⟨rfl, Nat.zero_lt_two⟩, fun vals => say_false HG1.out.wf⟩
  clear hcut hsw x0 x1 HRA3 HRD HW3 HW2
  go_wp2_with fail
  go_loopw [11, 55] (fun v i wr => ∃ (k e : Nat) (ck : GrC) (gk : Gs), v = .int .u32 (e : Int) ∧ i = .int .i64 (k : Int) ∧ k ≤ M ∧ Hid (LvTo B w0 w1 wr c ck gk ∧ VcAt wr ck (some ⟨ga, 0, none⟩) M (swL la lb M) ∧ VcAt wr ck (some ⟨gd, 0, none⟩) M (swL lb la M) ∧ LtK gs gk e k M (Cst la ∧ Cst lb) la lb)) (fun _ i _ => M - (intOf i).toNat)
  case atStart => exact ⟨0, 0, c, gs, rfl, rfl, Nat.zero_le _, H0⟩
  case round =>
    clear H0
    obtain ⟨k, e, ck, gk, rfl, rfl, hk, HO⟩ := hrel
    by_cases hlt : k < M
    · have tk : decide ((k : Int) < (M : Int)) = true := decide_eq_true (by omega)
      have tk2 : decide (k < M) = true := decide_eq_true hlt
      have tk3 : decide ((M : Int) ≤ (k : Int)) = false := decide_eq_false (by omega)
      obtain ⟨ho1, ho2, ho3, ho4⟩ := HO.out
      have hrd : ∀ g l W, VcAt W ck (some ⟨g, 0, none⟩) M l → W.cell? ⟨g, k, none⟩ = some (.int .u32 ((l.getD k 0 : Nat) : Int)) := fun g l W hv => by
        obtain ⟨bb, oo, ee, _, _, hc⟩ := hv.at_
        injection ee with ee
        injection ee with e1 e2
        subst e1; subst e2
        have := hc k hlt
        rwa [Nat.zero_add] at this
      have hbd : Below wr.heap.size wr wr.drew := (Below.refl _ _).drew
      have y0 : wr.cell? ⟨ga, k, none⟩ = some (.int .u32 (((swL la lb M).getD k 0 : Nat) : Int)) := hrd ga _ wr ho2
      have y1 : wr.cell? ⟨gd, k, none⟩ = some (.int .u32 (((swL lb la M).getD k 0 : Nat) : Int)) := hrd gd _ wr ho3
      have hinA : (swL la lb M).getD k 0 / 2 < gk.length ∧ (swL lb la M).getD k 0 / 2 < gk.length := by
        rw [swL_at _ _ hlt, swL_at _ _ hlt]
        have := ho4.ex.len
        refine ⟨?_, ?_⟩
        all_goals (split <;> first | exact Nat.lt_of_lt_of_le (HIA.out _).1 this | exact Nat.lt_of_lt_of_le (HIB.out _).1 this)
      have hcs : Cst la ∧ Cst lb → (swL la lb M).getD k 0 < 2 ∧ (swL lb la M).getD k 0 < 2 := fun q => by
        rw [swL_at _ _ hlt, swL_at _ _ hlt]
        refine ⟨?_, ?_⟩
        all_goals (split <;> first | exact (HIA.out _).2 q.1 | exact (HIB.out _).2 q.2)
      have hgl : gk.length ≤ 60256 := by have := ho4.len; have := HN.out; omega
      have HNT := Lib.hid (vnot_any (ho1.lv.below hbd) ((HM.out.to ho1).below hbd) ((swL la lb M).getD k 0) hinA.1 (by omega))
      have HMS : Hid (∀ w2 r1 g1 c1, Res gk g1 r1 0 ((swL la lb M).getD k 0 < 2) (fun vals => !sayE vals gk ((swL la lb M).getD k 0)) → LvTo B w0 wr.drew w2 ck c1 g1 → Calls Try.prog 38 #[.pointer (some ⟨b, 0, none⟩), .int .u32 (r1 : Int), .int .u32 (((swL lb la M).getD k 0 : Nat) : Int), .int .u32 (e : Int)] w2 (EdgeTo B w0 w2 c1 g1 8 (r1 < 2 ∧ (swL lb la M).getD k 0 < 2 ∧ e < 2) fun vals => maj (sayE vals g1 r1) (sayE vals g1 ((swL lb la M).getD k 0)) (sayE vals g1 e))) := fun w2 r1 g1 c1 hr hT =>
        vmost_any hT.lv (((HM.out.to ho1).below hbd).to hT) r1 ((swL lb la M).getD k 0) e hr.lt (Nat.lt_of_lt_of_le hinA.2 hr.ex.len) (Nat.lt_of_lt_of_le ho4.lt hr.ex.len) (by have := hr.len; omega)
      have HKP : Hid (∀ w2 c1 g1, LvTo B w0 wr.drew w2 ck c1 g1 → w2.cell? ⟨ga, k, none⟩ = some (.int .u32 (((swL la lb M).getD k 0 : Nat) : Int)) ∧ w2.cell? ⟨gd, k, none⟩ = some (.int .u32 (((swL lb la M).getD k 0 : Nat) : Int))) := fun w2 c1 g1 hT => by
        have q1 := (hT.gst ga (by obtain ⟨_, _, ee, hh, _⟩ := ho2.at_; injection ee with ee; injection ee with e1 _; rw [e1]; exact hh) (ho2.ap ga ((onB_some _ _).2 rfl))).1
        have q2 := (hT.gst gd (by obtain ⟨_, _, ee, hh, _⟩ := ho3.at_; injection ee with ee; injection ee with e1 _; rw [e1]; exact hh) (ho3.ap gd ((onB_some _ _).2 rfl))).1
        exact ⟨(World.cell?_of_block (a := ⟨ga, k, none⟩) q1).trans y0, (World.cell?_of_block (a := ⟨gd, k, none⟩) q2).trans y1⟩
      have HKQ : Hid (∀ w2 c1 g1 w3 c2 g2, LvTo B w0 wr.drew w2 ck c1 g1 → LvTo B w0 w2 w3 c1 c2 g2 → w3.cell? ⟨ga, k, none⟩ = some (.int .u32 (((swL la lb M).getD k 0 : Nat) : Int)) ∧ w3.cell? ⟨gd, k, none⟩ = some (.int .u32 (((swL lb la M).getD k 0 : Nat) : Int))) := fun w2 c1 g1 w3 c2 g2 h1 h2 => HKP.out w3 c2 g2 (h1.trans h2)
      have HFN : Hid (∀ w2 r1 g1 c1 w3 r2 g2 c2, Res gk g1 r1 0 ((swL la lb M).getD k 0 < 2) (fun vals => !sayE vals gk ((swL la lb M).getD k 0)) → LvTo B w0 wr.drew w2 ck c1 g1 → Res g1 g2 r2 8 (r1 < 2 ∧ (swL lb la M).getD k 0 < 2 ∧ e < 2) (fun vals => maj (sayE vals g1 r1) (sayE vals g1 ((swL lb la M).getD k 0)) (sayE vals g1 e)) → LvTo B w0 w2 w3 c1 c2 g2 →
          Hid (LvTo B w0 w1 w3 c c2 g2 ∧ VcAt w3 c2 (some ⟨ga, 0, none⟩) M (swL la lb M) ∧ VcAt w3 c2 (some ⟨gd, 0, none⟩) M (swL lb la M) ∧ LtK gs g2 r2 (k + 1) M (Cst la ∧ Cst lb) la lb)) := fun w2 r1 g1 c1 w3 r2 g2 c2 h1 h2 h3 h4 => by
        have hT := LvTo.pre hbd (h2.trans h4)
        exact ⟨ho1.trans hT, ho2.to hT, ho3.to hT, ho4.step hlt h1 h3 (fun _ => rfl) (fun q => (hcs q).1) (fun q hr => ⟨hr, (hcs q).2, (ho4.cst q).2⟩) (fun i => (HIA.out i).1) (fun i => (HIB.out i).1)⟩
      clear ho1 ho2 ho3 ho4 hrd hinA hcs hgl HO hbd
      generalize (swL la lb M).getD k 0 = x at *
      generalize (swL lb la M).getD k 0 = y at *
      go_upto_region 11 with (fail)
      go_region_held3 (fun W => W.cell? ⟨ga, k, none⟩ = some (.int .u32 (x : Int)) ∧ W.cell? ⟨gd, k, none⟩ = some (.int .u32 (y : Int)))
        (first | exact HKP.out _ _ _ (by assumption) | exact HKQ.out _ _ _ _ _ _ (by assumption) (by assumption) | exact ⟨y0, y1⟩)
        (first | (go_at_call 39; (with_reducible refine HNT.out.mono ?_); rintro e1 w2 ⟨r1, g1, c1, rfl, hr1, hT1⟩) | (go_at_call 38; (with_reducible refine (HMS.out _ _ _ _ (by assumption) (by assumption)).mono ?_); rintro e2 w3 ⟨r2, g2, c2, rfl, hr2, hT2⟩))
      all_goals
        have HN4 := HFN.out _ _ _ _ _ _ _ _ hr1 hT1 hr2 hT2
        clear hr1 hT1 hr2 hT2 HFN HKQ HKP HMS HNT y0 y1
        go_wp2_with fail
        go_roundw
        case rel => exact ⟨k + 1, _, _, _, rfl, by go_num, by omega, HN4⟩
        case measure => simp [intOf]; omega
    · have tk : decide ((k : Int) < (M : Int)) = false := decide_eq_false (by omega)
      have tk2 : decide (k < M) = false := decide_eq_false hlt
      obtain rfl : k = M := by omega
      obtain ⟨ho1, _, _, ho4⟩ := HO.out
      have HV := Lib.hid (vedge_any (HM.out.to ho1) (.int .u32 (e : Int)))
      have HE : Hid (Edge2To B w0 w c gs 256 (Cst la ∧ Cst lb) (fun vals => decide (valE vals gs la < valE vals gs lb)) (.returned (.tuple #[.int .u32 (e : Int), .int .i64 0])) wr) :=
        ⟨_, rfl, EdgeTo.pre HW.out ⟨e, gk, ck, rfl, ⟨ho4.wf, ho4.ex, ho4.lt, by have := ho4.len; omega, ho4.cst, fun vals => by
          rw [ho4.say, ← valE_at (vals := vals) (gs := gs) (show la.length ≤ k by omega), ← valE_at (vals := vals) (gs := gs) (show lb.length ≤ k by omega)]
          obtain ⟨j, rfl⟩ : ∃ j, k = j + 1 := ⟨k - 1, by omega⟩
          rw [Nat.add_sub_cancel, lt_val]⟩, ho1⟩⟩
      clear ho1 ho4 HO HM
      go_wp2_with fail
      refine HV.out.mono ?_
      rintro e w4 ⟨rfl, rfl⟩
      go_wp2_with fail
      go_ret2
      exact HE.out
end
end Go.Proofs.Ytelpoocgmflofaa
