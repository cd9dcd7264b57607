/- GateCones is true: the statement Rows.GateConesSaid, without a condition. -/
import Derived.Test.YtkdjbjclijbojaaGcns
import Derived.Test.YtkdjbjclijbojaaGliv
namespace Go.Proofs.Ytkdjbjclijbojaa.GCones
open Go.ChangeShapes Go.WideShapes Go.ChangeAt Go.RowKit GatM LitM

theorem own_knob : ownKnob Try.prog.godebug = none := by kernel_rfl
theorem laid_out : laidOutB Try.prog = true := by kernel_rfl
set_option maxHeartbeats 6400000 in
set_option maxRecDepth 100000 in
theorem walk (nn : Int) (A : Option Addr) (n c : Nat) (K : Nat → Int) (P : Nat → List Int) (x y : Int) (w : World) (hx : RdQ w w.heap.size A n K P) :
    Calls Try.prog 6 #[.int .i64 nn, .slice A n c, .agg #[.int .i64 x, .int .i64 y]] w fun e w' => e = .returned (.bool true) ∧ Below w.heap.size w w' := by
  obtain ⟨W0, hW0⟩ : ∃ W0, W0 = w.alloc (.cells #[.int .i64 x, .int .i64 y] 54) := ⟨_, rfl⟩
  have hB0 : Below w.heap.size w W0 := by rw [hW0]; exact (Below.refl _ _).alloc (Nat.le_refl _) _
  have HX := Lib.hid (hx.belo hB0)
  have HT : Hid (∀ W, Below W0.heap.size W0 W → W.cell? ⟨w.heap.size, 0, none⟩ = some (.int .i64 x) ∧ W.cell? ⟨w.heap.size, 1, none⟩ = some (.int .i64 y)) := fun W hb => by
    have hs : w.heap.size < W0.heap.size := by rw [hW0]; simp
    have e1 : W0.heap[w.heap.size]? = some (.cells #[.int .i64 x, .int .i64 y] 54 (0, 0)) := by rw [hW0]; exact blk_new w _
    refine ⟨?_, ?_⟩
    all_goals (rw [hb.cell (by exact hs), Lib.cell_of_heap e1]; rfl)
  clear hx
  go_enter Try.func6, Try.ntmps6
  go_wp2_with fail
  rw [← hW0]
  refine (galive_any W0).mono ?_
  rintro e w1 ⟨rfl, hb1⟩
  have HTW : Hid (∀ W, Below w1.heap.size w1 W → W.cell? ⟨w.heap.size, 0, none⟩ = some (.int .i64 x) ∧ W.cell? ⟨w.heap.size, 1, none⟩ = some (.int .i64 y)) := fun W hW => HT.out W (hb1.trans (hW.mono hb1.size))
  replace hb1 := And.intro (hB0.trans (hb1.mono hB0.size)) hb1
  obtain ⟨hbw, hb1⟩ := hb1
  clear HT hB0
  by_cases hv0 : nn < 0
  · have t1 : decide (nn < 0) = true := decide_eq_true hv0
    go_wp2_with fail
    go_ret
    exact ⟨rfl, hbw⟩
  have t1 : decide (nn < 0) = false := decide_eq_false hv0
  by_cases hv1 : 6 < nn
  · have t2 : decide (6 < nn) = true := decide_eq_true hv1
    go_wp2_with fail
    go_ret
    exact ⟨rfl, hbw⟩
  have t2 : decide (6 < nn) = false := decide_eq_false hv1
  by_cases hv2 : 40 < n
  · have t3 : decide (40 < n) = true := decide_eq_true hv2
    have t4 : decide (40 < (n : Int)) = true := decide_eq_true (by omega)
    go_wp2_with fail
    go_ret
    exact ⟨rfl, hbw⟩
  have t3 : decide (40 < n) = false := decide_eq_false hv2
  have t4 : decide (40 < (n : Int)) = false := decide_eq_false (by omega)
  obtain ⟨N, rfl⟩ : ∃ N : Nat, nn = (N : Int) := ⟨nn.toNat, by omega⟩
  have hN : N ≤ 6 := by omega
  have HBW : Hid (∀ W, Below w1.heap.size w1 W → Below w.heap.size w W) := fun W hW => hbw.trans (hW.mono hbw.size)
  have HXW : Hid (∀ W, Below w1.heap.size w1 W → RdQ W W.heap.size A n K P) := fun W hW => HX.out.belo (hb1.trans (hW.mono hb1.size))
  have HS := Lib.hid (gstart_any N hN w1)
  clear hb1 hbw HX
  go_wp2_with fail
  refine HS.out.mono ?_
  rintro e w2 ⟨bk, rfl, hst⟩
  have HM0 : Hid (MAt w1 bk (runS N K P 0) w2) := hst
  clear hst HS hW0 t1 t2 t3 t4 hv0 hv1
  go_wp2_with fail
  go_loopw [48] (fun iv wr => ∃ j : Nat, iv = .int .i64 (j : Int) ∧ j ≤ n ∧ Hid (∀ i, i < j → (P i).length ≤ 10) ∧ Hid (MAt w1 bk (runS N K P j) wr)) (fun iv _ => n - (intOf iv).toNat)
  case atStart => exact ⟨0, rfl, by omega, Lib.hid fun i hi => absurd hi (by omega), HM0⟩
  case round =>
    clear HM0
    obtain ⟨j, rfl, hj, HP, HM⟩ := hrel
    have HL : Hid (Below w1.heap.size w1 wr) := by
      obtain ⟨k, c, _, h⟩ := HM.out
      exact h.lv.be
    by_cases hlt : j < n
    case neg =>
      obtain rfl : j = n := by omega
      have tj : decide (j < j) = false := decide_eq_false (by omega)
      have tj2 : decide ((j : Int) < (j : Int)) = false := decide_eq_false (by omega)
      have HO := Lib.hid (okRun N hN K P j HP.out)
      have HI : Hid ((insL (runS N K P j).1).length = N) := Lib.hid (by rw [runIns N K P j, startIns])
      clear HXW
      generalize runS N K P j = s at *
      obtain ⟨k, c, hk, hm⟩ := HM.out
      subst hk
      have HMk := Lib.hid hm
      clear hm HM HP
      obtain ⟨gs, E, T⟩ := s
      replace HMk : Hid (Mkr w1.heap.size w1 wr k c gs E T) := HMk
      replace HO : Hid (OkS (gs, E, T) (N + 1 + 11 * j) (N + 2 + j)) := HO
      replace HI : Hid ((insL gs).length = N) := HI
      have hgl : gs.length ≤ 1000 := by have : gs.length ≤ _ := HO.out.gts; omega
      have hel : E.length ≤ 1000 := by have : E.length = _ := HO.out.len; omega
      have he2 : 2 ≤ E.length := by have : E.length = _ := HO.out.len; omega
      obtain ⟨qa, hqa⟩ : ∃ q : Nat, (E.length : Int) - 1 = (q : Int) := ⟨E.length - 1, by omega⟩
      have hqal : qa < E.length := by omega
      have tq : decide ((E.length : Int) ≤ (qa : Int)) = false := decide_eq_false (by omega)
      have tq2 : decide (E.length ≤ qa) = false := decide_eq_false (by omega)
      have ia := in_get HO.out.agr.inn hqal
      have HWf : Hid (Wf gs) := HO.out.wf
      obtain ⟨x0, x1, _⟩ := HMk.out.mk'.cells
      have hrd := HMk.out.mk'.er.rdn
      obtain ⟨b0, o0, hAt, hbk, hca⟩ := hrd.get hqal
      rw [hAt] at x1
      have HMS : Hid (∀ q, MS w1.heap.size w1 k c.bg E T gs (wr.drewN q)) := fun q => MS.below ⟨c, rfl, HMk.out⟩ (below_drewN (Below.refl _ _) q)
      generalize E.getD qa 0 = x2 at *
      obtain ⟨bg, hbg⟩ : ∃ bg, bg = c.bg := ⟨_, rfl⟩
      rw [← hbg] at HMS x0
      clear hrd HMk HO hAt hbg
      go_upto_region 15 with (fail)
      go_quiet (fail)
      rename_i nq
      have HM1 := Lib.hid (HMS.out nq)
      generalize wr.drewN nq = wa at *
      clear HMS hca x0 x1 hqa tq tq2 nq
      have HCN := Lib.hid (HM1.out.cone (by omega) x2 ia)
      have y0 := HM1.out.c0
      go_wp2_with fail
      refine HCN.out.mono ?_
      rintro e wb ⟨D, AD, cD, rfl, HD, HRD0, HBB⟩
      have HMB : Hid (∀ W, Below wb.heap.size wb W → MS w1.heap.size w1 k bg E T gs W) := fun W hW => (HM1.out.below HBB.out).below hW
      have HRD : Hid (∀ W, Below wb.heap.size wb W → RdN .i64 W W.heap.size AD D.length D) := fun W hW => (HRD0.out.below hW).more hW.size
      have HBX : Hid (∀ W, Below wb.heap.size wb W → Below w.heap.size w W ∧ W.cell? ⟨w.heap.size, 0, none⟩ = some (.int .i64 x) ∧ W.cell? ⟨w.heap.size, 1, none⟩ = some (.int .i64 y)) := fun W hW => by
        have h := (HMB.out W hW).be
        exact ⟨HBW.out W h, HTW.out W h⟩
      have hdl := cone_len HWf.out (all_one ia) HD.out
      clear y0 HM1 HCN HRD0 HBB HTW HBW HL
      have HLN := Lib.hid (HMB.out wb (Below.refl _ _)).len_
      have y0 := (HMB.out wb (Below.refl _ _)).c0
      go_wp2_with fail
      refine HLN.out.mono ?_
      rintro e w' ⟨rfl, rfl⟩
      obtain ⟨G, hG⟩ : ∃ G, G = gs.length := ⟨_, rfl⟩
      have hG1 : G ≤ 1000 := by omega
      obtain ⟨C, hC1, hC2, hmk0⟩ := make_sl (P := Try.prog) 30 4 Try.underlying30 info_gbool rfl (by decide) (by decide) G (by omega)
      have hmk := hmk0 wb
      have hmk2 := hmk0
      have hr1 : RowV 4 1 (wb.alloc (.cells C 4)) wb.heap.size G G (inF D 0) := RowV.made (by omega) hC1 fun j hj => by rw [hC2 j hj, Nat.mod_one, inF_zero]; rfl
      have HP0 : Hid (RowV 4 1 (wb.alloc (.cells C 4)) wb.heap.size G G (inF D 0) ∧ Below wb.heap.size wb (wb.alloc (.cells C 4))) := ⟨hr1, (Below.refl _ _).alloc (Nat.le_refl _) _⟩
      have HMK : Hid (∀ W : World, (Instr.makeSlice 30 (.int .i64 (G : Int)) (.int .i64 (G : Int))).run Try.prog W = .ok (.slice (some ⟨W.heap.size, 0, none⟩) G G) (W.alloc (.cells C 4))) := hmk0
      have HC1 := Lib.hid hC1
      have HC2 := Lib.hid hC2
      rw [← hG]
      have HG := Lib.hid hG
      clear hC1 hC2 hmk0 hmk2 hr1 HLN hG
      go_wp2_with fail
      obtain ⟨gi, hgi⟩ : ∃ gi, gi = wb.heap.size := ⟨_, rfl⟩
      rw [← hgi]
      replace HP0 : Hid (RowV 4 1 (wb.alloc (.cells C 4)) gi G G (inF D 0) ∧ Below wb.heap.size wb (wb.alloc (.cells C 4))) := by rw [hgi]; exact HP0
      have HGI := Lib.hid hgi
      clear hgi hmk y0
      go_loopw [92] (fun iv wq => ∃ t : Nat, iv = .int .i64 (t : Int) ∧ t ≤ D.length ∧ Hid (RowV 4 1 wq gi G G (inF D t) ∧ Below wb.heap.size wb wq)) (fun iv _ => D.length - (intOf iv).toNat)
      case atStart => exact ⟨0, rfl, Nat.zero_le _, HP0⟩
      case round =>
        clear HP0
        obtain ⟨kk, rfl, hk, hP⟩ := hrel
        have HMQ : Hid (MS w1.heap.size w1 k bg E T gs wr) := HMB.out _ hP.out.2
        have HLQ := Lib.hid HMQ.out.len_
        have y0 := HMQ.out.c0
        by_cases hlt : kk < D.length
        · have tk : decide ((kk : Int) < (D.length : Int)) = true := decide_eq_true (by omega)
          have tk2 : decide (kk < D.length) = true := decide_eq_true hlt
          have tk3 : decide ((D.length : Int) ≤ (kk : Int)) = false := decide_eq_false (by omega)
          obtain ⟨bD, oD, hAD, hbD, hcD⟩ := (HRD.out wr hP.out.2).at_ (by omega)
          have z0 := hcD kk hlt
          have hin := cone_in HWf.out (all_one ia) HD.out (ngetD hlt)
          have hd0 : D.getD kk 0 ≠ 0 := hin.1
          have hdG : D.getD kk 0 < G := by rw [HG.out]; exact hin.2
          have td : decide (((D.getD kk 0 : Nat) : Int) < 1) = false := decide_eq_false (by omega)
          have td2 : decide (D.getD kk 0 < 1) = false := decide_eq_false (by omega)
          have tG : decide ((G : Int) ≤ ((D.getD kk 0 : Nat) : Int)) = false := decide_eq_false (by omega)
          have tG2 : decide (G ≤ D.getD kk 0) = false := decide_eq_false (by omega)
          have tz : decide (((D.getD kk 0 : Nat) : Int) < 0) = false := decide_eq_false (by omega)
          have HN : Hid (RowV 4 1 (wr.setCell ⟨gi, D.getD kk 0, none⟩ (.bool true)) gi G G (inF D (kk + 1)) ∧ Below wb.heap.size wb (wr.setCell ⟨gi, D.getD kk 0, none⟩ (.bool true))) :=
            ⟨(hP.out.1.set (show D.getD kk 0 < G * 1 by omega) _).congr fun j _ => inF_step hlt j, hP.out.2.setCell (by rw [HGI.out]; exact Nat.le_refl _) _⟩
          have d0 : wr.cell? ⟨gi, D.getD kk 0, none⟩ = some (.bool (decide (D.getD kk 0 ∈ D.take kk))) := hP.out.1.cell (show D.getD kk 0 < G * 1 by omega)
          have d1 := hP.out.1.free (D.getD kk 0)
          have hrise : 0 < kk → D.getD (kk - 1) 0 < D.getD kk 0 := fun h0 => cone_rise HD.out.srt hlt h0
          have hps : 0 < kk → ∃ kp d' : Nat, (kk : Int) - 1 = (kp : Int) ∧ kp < D.length ∧ wr.cell? ⟨bD, oD + kp, none⟩ = some (.int .i64 (d' : Int)) ∧ d' < D.getD kk 0 := fun h0 => ⟨kk - 1, D.getD (kk - 1) 0, by omega, by omega, hcD _ (by omega), hrise h0⟩
          have HPS := Lib.hid hps
          have HLE : Hid (D.length ≤ 1000) := by show D.length ≤ 1000; omega
          rw [hAD]
          generalize decide (D.getD kk 0 ∈ D.take kk) = old at *
          generalize hd : D.getD kk 0 = d at *
          generalize hln : D.length = L at *
          clear hd hln hin hrise hps hcD hP hAD
          by_cases h0 : kk = 0
          · subst h0
            clear HPS
            rw [Nat.add_zero] at z0
            go_wp2_with fail
            refine HLQ.out.mono ?_
            rintro e w' ⟨rfl, rfl⟩
            rw [← HG.out]
            clear HLQ
            go_wp2_with fail
            go_roundw
            case rel => exact ⟨0 + 1, by go_num, by omega, HN⟩
            case measure => simp [intOf]; omega
          · obtain ⟨kp, d', hkp, hkl, z1, hdd⟩ := HPS.out (by omega)
            have tp : decide (0 < (kk : Int)) = true := decide_eq_true (by omega)
            have tp2 : decide (0 < kk) = true := decide_eq_true (by omega)
            have tl : decide ((L : Int) ≤ (kp : Int)) = false := decide_eq_false (by omega)
            have tl2 : decide (L ≤ kp) = false := decide_eq_false (by omega)
            have tv : decide ((d : Int) ≤ (d' : Int)) = false := decide_eq_false (by omega)
            have tv2 : decide (d ≤ d') = false := decide_eq_false (by omega)
            clear HPS
            go_wp2_with fail
            refine HLQ.out.mono ?_
            rintro e w' ⟨rfl, rfl⟩
            rw [← HG.out]
            clear HLQ
            go_wp2_with fail
            go_roundw
            case rel => exact ⟨kk + 1, by go_num, by omega, HN⟩
            case measure => simp [intOf]; omega
        · have tk : decide ((kk : Int) < (D.length : Int)) = false := decide_eq_false (by omega)
          have tk2 : decide (kk < D.length) = false := decide_eq_false hlt
          obtain rfl : kk = D.length := by omega
          generalize wr = wc at *
          have hbr := hP.out.2
          have hrl := hP.out.1.lt
          have HIN : Hid (∀ W, Below wc.heap.size wc W → RowV 4 1 W gi G G (fun j => .bool (decide (j ∈ D)))) := fun W hW => (hP.out.1.congr (fun j _ => (inF_full D j).symm)).keep hW hrl
          have HMR : Hid (∀ W, Below wc.heap.size wc W → MS w1.heap.size w1 k bg E T gs W ∧ Below wb.heap.size wb W) := fun W hW => ⟨HMB.out W (hbr.trans (hW.mono hbr.size)), hbr.trans (hW.mono hbr.size)⟩
          have hmk := HMK.out wc
          have hr1 : RowV 4 1 (wc.alloc (.cells C 4)) wc.heap.size G G (fun _ => .bool false) := RowV.made (by omega) HC1.out fun j hj => by rw [HC2.out j hj, Nat.mod_one]; rfl
          have hb1 : Below wc.heap.size wc (wc.alloc (.cells C 4)) := (Below.refl _ _).alloc (Nat.le_refl _) _
          have HR1 := Lib.hid hr1
          have HB1 := Lib.hid hb1
          have hiG : x2 / 2 < G := by rw [HG.out]; exact ia
          obtain ⟨g1, hg1⟩ : ∃ g1, g1 + 1 = G := ⟨G - 1, by omega⟩
          have HX2 : Hid ((x2 : Int) / 2 = ((x2 / 2 : Nat) : Int)) := by show (x2 : Int) / 2 = _; omega
          have hx32 : x2 < 4294967296 := by omega
          clear hP hr1 hb1 hbr hrl HMB HMQ hdl
          generalize hln : D.length = L at *
          clear hln
          go_wp2_with fail
          refine HLQ.out.mono ?_
          rintro e w' ⟨rfl, rfl⟩
          rw [← HG.out]
          clear HLQ
          go_upto_region 28 with (fail)
          obtain ⟨gn, hgn⟩ : ∃ gn, gn = wc.heap.size := ⟨_, rfl⟩
          obtain ⟨wn, hwn⟩ : ∃ wn, wn = wc.alloc (.cells C 4) := ⟨_, rfl⟩
          rw [← hwn, ← hgn]
          replace HR1 : Hid (RowV 4 1 wn gn G G (fun _ => .bool false)) := by rw [hwn, hgn]; exact HR1
          replace HB1 : Hid (Below wc.heap.size wc wn) := by rw [hwn]; exact HB1
          have HGN := Lib.hid hgn
          clear hwn hgn hmk
          have d0 := HR1.out.cell (show x2 / 2 < G * 1 by omega)
          have d1 := HR1.out.free (x2 / 2)
          have tG : decide ((G : Int) ≤ ((x2 / 2 : Nat) : Int)) = false := decide_eq_false (by omega)
          have tG2 : decide (G ≤ x2 / 2) = false := decide_eq_false (by omega)
          clear y0
          have y0 := (HMR.out wn HB1.out).1.c0
          have HP1 : Hid (RowV 4 1 (wn.setCell ⟨gn, x2 / 2, none⟩ (.bool true)) gn G G (fun j => .bool (ndB gs D (x2 / 2) g1 j)) ∧ Below wc.heap.size wc (wn.setCell ⟨gn, x2 / 2, none⟩ (.bool true))) := by
            refine ⟨(HR1.out.set (show x2 / 2 < G * 1 by omega) _).congr fun j _ => ?_, HB1.out.setCell (by rw [HGN.out]; exact Nat.le_refl _) _⟩
            have e1 : g1 = gs.length - 1 := by have := HG.out; omega
            rw [e1, nd_start HWf.out ia HD.out]
            unfold updV
            by_cases e : j = x2 / 2
            · rw [if_pos e, decide_eq_true e]
            · rw [if_neg e, decide_eq_false e]
          go_upto_region 29 with (fail)
          obtain ⟨wm, hwm⟩ : ∃ wm, wm = wn.setCell ⟨gn, x2 / 2, none⟩ (.bool true) := ⟨_, rfl⟩
          rw [← hwm]
          rw [← hwm] at HP1
          clear hwm d0 d1 y0 tG tG2
          have HL2 := Lib.hid (HMR.out wm HP1.out.2).1.len_
          have y0 := (HMR.out wm HP1.out.2).1.c0
          have hg2 : (G : Int) - 1 = (g1 : Int) := by omega
          go_wp2_with fail
          refine HL2.out.mono ?_
          rintro e w' ⟨rfl, rfl⟩
          rw [← HG.out]
          clear HL2 y0
          go_wp2_with fail
          go_loopw [17] (fun iv wq => ∃ m : Nat, iv = .int .i64 (m : Int) ∧ m < G ∧ Hid (RowV 4 1 wq gn G G (fun j => .bool (ndB gs D (x2 / 2) m j)) ∧ Below wc.heap.size wc wq)) (fun iv _ => (intOf iv).toNat)
          case atStart => exact ⟨g1, rfl, by omega, HP1⟩
          case round =>
            clear HP1 hg1 hg2
            obtain ⟨m, rfl, hm, hP⟩ := hrel
            by_cases h0 : m = 0
            · have tk : decide (0 < (m : Int)) = false := decide_eq_false (by omega)
              have tk2 : decide (0 < m) = false := decide_eq_false (by omega)
              generalize wr = wt at *
              have hbw := hP.out.2
              have hws := hbw.size
              have HQ : Hid (∀ W, Below wt.heap.size wt W → MS w1.heap.size w1 k bg E T gs W ∧ Below w.heap.size w W ∧ RowV 4 1 W gi G G (fun j => .bool (decide (j ∈ D)))) := fun W hW => by
                have hc := hbw.trans (hW.mono hws)
                obtain ⟨p1, p2⟩ := HMR.out W hc
                exact ⟨p1, (HBX.out W p2).1, HIN.out W hc⟩
              have HS : Hid (∀ W, Below wt.heap.size wt W → W.cell? ⟨w.heap.size, 0, none⟩ = some (.int .i64 x) ∧ W.cell? ⟨w.heap.size, 1, none⟩ = some (.int .i64 y)) := fun W hW => (HBX.out W (HMR.out W (hbw.trans (hW.mono hws))).2).2
              obtain ⟨r1, hr1⟩ : ∃ r : Nat, max 0 (min x 63) = (r : Int) := ⟨(max 0 (min x 63)).toNat, by omega⟩
              obtain ⟨r2, hr2⟩ : ∃ r : Nat, max 0 (min y 63) = (r : Int) := ⟨(max 0 (min y 63)).toNat, by omega⟩
              have HRW1 : Hid (∀ W, Below wt.heap.size wt W → Calls Try.prog 23 #[.int .i64 (r1 : Int)] W fun e w' => ∃ g cc, e = .returned (.slice (some ⟨g, 0, none⟩) 6 cc) ∧ Hid (RowV 4 1 w' g 6 cc (rowF r1) ∧ wt.heap.size ≤ g) ∧ Below wt.heap.size wt w') := fun W hW =>
                (trow_any r1 W).mono fun e w' ⟨g, cc, a, _, d, f, q⟩ => ⟨g, cc, a, ⟨q, Nat.le_trans hW.size f⟩, hW.trans (d.mono hW.size)⟩
              have HRW2 : Hid (∀ W g cc, Below wt.heap.size wt W → Hid (RowV 4 1 W g 6 cc (rowF r1) ∧ wt.heap.size ≤ g) → Calls Try.prog 23 #[.int .i64 (r2 : Int)] W fun e w' => ∃ g2 c2, e = .returned (.slice (some ⟨g2, 0, none⟩) 6 c2) ∧ Hid (RowV 4 1 w' g 6 cc (rowF r1) ∧ RowV 4 1 w' g2 6 c2 (rowF r2) ∧ g < g2 ∧ wt.heap.size ≤ g) ∧ Below wt.heap.size wt w') := fun W g cc hW hR =>
                (trow_any r2 W).mono fun e w' ⟨g2, c2, a, _, d, f, q⟩ => ⟨g2, c2, a, ⟨hR.out.1.keep d hR.out.1.lt, q, Nat.lt_of_lt_of_le hR.out.1.lt f, hR.out.2⟩, hW.trans (d.mono hW.size)⟩
              have HGW : Hid (gi < wt.heap.size) := (HQ.out wt (Below.refl _ _)).2.2.lt
              have hb0 : Below wt.heap.size wt wt.drew := (Below.refl _ _).drew
              obtain ⟨x0, x1⟩ := HS.out wt (Below.refl _ _)
              clear hP hbw hws HBX HMR HIN HRD HGI HGN HMK HC1 HC2
              go_upto_region 38 with (fail)
              go_region_held3 (fun W => Below wt.heap.size wt W ∧ W.cell? ⟨w.heap.size, 0, none⟩ = some (.int .i64 x) ∧ W.cell? ⟨w.heap.size, 1, none⟩ = some (.int .i64 y))
                (first | exact ⟨by assumption, HS.out _ (by assumption)⟩ | exact ⟨hb0, x0, x1⟩)
                (first | (go_at_call 23; with_reducible refine (HRW1.out _ (by assumption)).mono ?_; rintro e w2 ⟨gv, cv, rfl, hrv, hb2⟩) | (go_at_call 23; with_reducible refine (HRW2.out _ _ _ (by assumption) (by assumption)).mono ?_; rintro e w3 ⟨gw, cw, rfl, hrw, hb3⟩))
              all_goals
                have HB3 := Lib.hid hb3
                clear x0 x1 hb0 hb2 hrv HRW1 HRW2 HS hr1 hr2
                rename_i hHeld
                clear hHeld
                have HM3 := Lib.hid (HQ.out w3 HB3.out).1
                have HIN3 := Lib.hid (HM3.out.inputs (by rw [HI.out]; omega))
                have y0 := HM3.out.c0
                go_wp2_with fail
                refine HIN3.out.mono ?_
                rintro e w4 ⟨AI, cI, rfl, hri, hfr, hb4⟩
                have HP5 : Hid (RowV 4 1 w4 gw 6 cw (fun j => .bool (mixB gs D r1 r2 0 j)) ∧ RowV 4 1 w4 gv 6 cv (rowF r1) ∧ RdN .u32 w4 w4.heap.size AI N (insL gs) ∧ Below wt.heap.size wt w4) :=
                  ⟨(hrw.out.2.1.keep hb4.out hrw.out.2.1.lt).congr fun j hj => by rw [mix_zero, rowF_eq r2 (by omega)], hrw.out.1.keep hb4.out hrw.out.1.lt, by have := hri.out; rw [HI.out] at this; exact this, HB3.out.trans (hb4.out.mono HB3.out.size)⟩
                have HNA : Hid (¬ onB AI gw) := fun q => by
                  have h1 := hfr.out gw q
                  have h2 := hrw.out.2.1.lt
                  omega
                have HGV : Hid (gv < gw ∧ wt.heap.size ≤ gv) := hrw.out.2.2
                rw [HI.out]
                clear y0 hri hfr hb4 hrw HIN3 HM3 hb3 HB3
                go_wp2_with fail
                go_loopw [195] (fun iv wq => ∃ t : Nat, iv = .int .i64 (t : Int) ∧ t ≤ N ∧ Hid (RowV 4 1 wq gw 6 cw (fun j => .bool (mixB gs D r1 r2 t j)) ∧ RowV 4 1 wq gv 6 cv (rowF r1) ∧ RdN .u32 wq wq.heap.size AI N (insL gs) ∧ Below wt.heap.size wt wq)) (fun iv _ => N - (intOf iv).toNat)
                case atStart => exact ⟨0, rfl, by omega, HP5⟩
                case round =>
                  clear HP5
                  obtain ⟨t, rfl, ht, hP⟩ := hrel
                  by_cases hlt : t < N
                  · have tn : decide ((t : Int) < (N : Int)) = true := decide_eq_true (by omega)
                    have tn2 : decide (t < N) = true := decide_eq_true hlt
                    have tn3 : decide ((N : Int) ≤ (t : Int)) = false := decide_eq_false (by omega)
                    have t6 : decide (6 ≤ (t : Int)) = false := decide_eq_false (by omega)
                    have t62 : decide (6 ≤ t) = false := decide_eq_false (by omega)
                    obtain ⟨bI, oI, hAI, hbI, hcI⟩ := hP.out.2.2.1.get hlt
                    subst hAI
                    have het : (insL gs).getD t 0 / 2 < G := by rw [HG.out]; exact ins_lt (by rw [HI.out]; exact hlt)
                    have z0 : wr.cell? ⟨gi, (insL gs).getD t 0 / 2, none⟩ = some (.bool (decide ((insL gs).getD t 0 / 2 ∈ D))) := (HQ.out wr hP.out.2.2.2).2.2.cell (show _ < G * 1 by omega)
                    have z1 : wr.cell? ⟨gv, t, none⟩ = some (.bool ((rowV r1).getD t false)) := by rw [hP.out.2.1.cell (show t < 6 * 1 by omega), rowF_eq r1 (by omega)]
                    have z2 := hP.out.1.cell (show t < 6 * 1 by omega)
                    have z3 := hP.out.1.free t
                    have HT1 : Hid ((insL gs).getD t 0 / 2 ∈ D → Hid (RowV 4 1 (wr.setCell ⟨gw, t, none⟩ (.bool ((rowV r1).getD t false))) gw 6 cw (fun j => .bool (mixB gs D r1 r2 (t + 1) j)) ∧ RowV 4 1 (wr.setCell ⟨gw, t, none⟩ (.bool ((rowV r1).getD t false))) gv 6 cv (rowF r1) ∧ RdN .u32 (wr.setCell ⟨gw, t, none⟩ (.bool ((rowV r1).getD t false))) (wr.setCell ⟨gw, t, none⟩ (.bool ((rowV r1).getD t false))).heap.size (some ⟨bI, oI, none⟩) N (insL gs) ∧ Below wt.heap.size wt (wr.setCell ⟨gw, t, none⟩ (.bool ((rowV r1).getD t false))))) := fun hd =>
                      ⟨(hP.out.1.set (show t < 6 * 1 by omega) _).congr fun j _ => mix_step hd, hP.out.2.1.other (by have := HGV.out.1; show gw ≠ gv; omega) _, hP.out.2.2.1.put HNA.out _, hP.out.2.2.2.setCell (by have := HGV.out; show wt.heap.size ≤ gw; omega) _⟩
                    have HT2 : Hid (¬ (insL gs).getD t 0 / 2 ∈ D → Hid (RowV 4 1 wr gw 6 cw (fun j => .bool (mixB gs D r1 r2 (t + 1) j)) ∧ RowV 4 1 wr gv 6 cv (rowF r1) ∧ RdN .u32 wr wr.heap.size (some ⟨bI, oI, none⟩) N (insL gs) ∧ Below wt.heap.size wt wr)) := fun hd =>
                      ⟨hP.out.1.congr fun j _ => by rw [mix_skip hd], hP.out.2.1, hP.out.2.2.1, hP.out.2.2.2⟩
                    have tG : decide ((G : Int) ≤ (((insL gs).getD t 0 / 2 : Nat) : Int)) = false := decide_eq_false (by omega)
                    have tG2 : decide (G ≤ (insL gs).getD t 0 / 2) = false := decide_eq_false (by omega)
                    have x32 : (insL gs).getD t 0 < 4294967296 := by omega
                    generalize mixB gs D r1 r2 t t = old at *
                    generalize (rowV r1).getD t false = vb at *
                    by_cases hd : (insL gs).getD t 0 / 2 ∈ D
                    · rw [decide_eq_true hd] at z0
                      have HN := HT1.out hd
                      clear HT1 HT2 hd hP
                      generalize (insL gs).getD t 0 = xt at *
                      go_wp2_with fail
                      go_roundw
                      case rel => exact ⟨t + 1, by go_num, by omega, HN⟩
                      case measure => simp [intOf]; omega
                    · rw [decide_eq_false hd] at z0
                      have HN := HT2.out hd
                      clear HT1 HT2 hd hP
                      generalize (insL gs).getD t 0 = xt at *
                      go_wp2_with fail
                      go_roundw
                      case rel => exact ⟨t + 1, by go_num, by omega, HN⟩
                      case measure => simp [intOf]; omega
                  · have tn : decide ((t : Int) < (N : Int)) = false := decide_eq_false (by omega)
                    have tn2 : decide (t < N) = false := decide_eq_false hlt
                    have htN : t = (insL gs).length := by rw [HI.out]; omega
                    have HMT := Lib.hid (HQ.out wr hP.out.2.2.2).1
                    have HBT : Hid (Below wt.heap.size wt wr) := hP.out.2.2.2
                    have hv : RdO wr wr.heap.size (some ⟨gv, 0, none⟩) 6 (rowV r1) := rdo_row hP.out.2.1 rfl fun j hj => rowF_eq r1 hj
                    have HGWR : Hid (RowV 4 1 wr gw 6 cw (fun j => .bool (mixB gs D r1 r2 (insL gs).length j))) := by rw [← htN]; exact hP.out.1
                    have HSY : Hid (sayE (mixL gs D r1 r2) gs x2 = sayE (rowV r1) gs x2) := (mix_say HWf.out ia HD.out (by rw [HI.out]; omega) r1 r2).symm
                    have hh := HMT.out.eval (some ⟨gv, 0, none⟩) 6 cv (rowV r1) hv [x2] (all_one ia) (by omega) (by simp)
                    have HE1 : Hid (Calls Try.prog 11 #[.pointer (some ⟨bg, 0, none⟩), .slice (some ⟨gv, 0, none⟩) 6 cv, .slice (some ⟨wr.heap.size, 0, none⟩) 1 1] (wr.alloc (.cells #[.int .u32 (x2 : Int)] 25)) fun e w' => ∃ g, e = .returned (.tuple #[.slice (some ⟨g, 0, none⟩) 1 1, .int .i64 0]) ∧ Hid (w'.cell? ⟨g, 0, none⟩ = some (.bool (sayE (rowV r1) gs x2))) ∧ Hid (Below wr.heap.size wr w' ∧ g < w'.heap.size)) :=
                      hh.mono fun e w' ⟨g, a, b, c, d⟩ => ⟨g, a, b.out 0 (by simp), d.out, by obtain ⟨_, _, _, _, _, q⟩ := c.out; exact q⟩
                    have HE2 : Hid (∀ W, Below wr.heap.size wr W → Calls Try.prog 11 #[.pointer (some ⟨bg, 0, none⟩), .slice (some ⟨gw, 0, none⟩) 6 cw, .slice (some ⟨W.heap.size, 0, none⟩) 1 1] (W.alloc (.cells #[.int .u32 (x2 : Int)] 25)) fun e w' => ∃ g, e = .returned (.tuple #[.slice (some ⟨g, 0, none⟩) 1 1, .int .i64 0]) ∧ Hid (w'.cell? ⟨g, 0, none⟩ = some (.bool (sayE (rowV r1) gs x2))) ∧ Hid (Below W.heap.size W w')) := fun W hW => by
                      have hv2 : RdO W W.heap.size (some ⟨gw, 0, none⟩) 6 (mixL gs D r1 r2) := rdo_row (HGWR.out.keep hW HGWR.out.lt) (mixL_len ..) fun j hj => by rw [mixL_get r1 r2 hj]
                      refine ((HMT.out.below hW).eval (some ⟨gw, 0, none⟩) 6 cw (mixL gs D r1 r2) hv2 [x2] (all_one ia) (by omega) (by simp)).mono ?_
                      rintro e w' ⟨g, a, b, _, d⟩
                      have h0 : w'.cell? ⟨g, 0, none⟩ = some (.bool (sayE (mixL gs D r1 r2) gs x2)) := b.out 0 (by simp)
                      rw [HSY.out] at h0
                      exact ⟨g, a, h0, d.out⟩
                    have y0 := HMT.out.c0
                    clear hP hv hh htN HGV HNA
                    generalize sayE (rowV r1) gs x2 = sv at *
                    go_wp2_with fail
                    refine HE1.out.mono ?_
                    rintro e w5 ⟨g1, rfl, ho1, hb5⟩
                    clear y0 HE1
                    have y0 := (HMT.out.below hb5.out.1).c0
                    have HE3 := Lib.hid (HE2.out w5 hb5.out.1)
                    go_wp2_with fail
                    refine HE3.out.mono ?_
                    rintro e w6 ⟨g2, rfl, ho2, hb6⟩
                    clear y0 HE3 HE2
                    have o2 := ho2.out
                    have o1 : w6.cell? ⟨g1, 0, none⟩ = some (.bool sv) := by rw [hb6.out.cell (p := ⟨g1, 0, none⟩) hb5.out.2]; exact ho1.out
                    have HF : Hid (∀ q, Below w.heap.size w (w6.drewN q)) := fun q => by
                      have h5 := hb5.out.1.trans (hb6.out.mono hb5.out.1.size)
                      exact below_drewN (HQ.out w6 (HBT.out.trans (h5.mono HBT.out.size))).2.1 q
                    clear ho1 ho2 hb5 hb6 HMT HBT HGWR HSY HQ
                    go_upto_region 47 with (fail)
                    go_quiet (fail)
                    clear o1 o2
                    go_wp2_with fail
                    go_ret
                    exact ⟨by simp, HF.out _⟩
            have tk : decide (0 < (m : Int)) = true := decide_eq_true (by omega)
            have tk2 : decide (0 < m) = true := decide_eq_true (by omega)
            have HMQ := Lib.hid (HMR.out wr hP.out.2).1
            have HPT := Lib.hid (HMQ.out.parts (by omega) m (by have := HG.out; omega))
            have y0 := HMQ.out.c0
            obtain ⟨m', hm'⟩ : ∃ m', m = m' + 1 := ⟨m - 1, by omega⟩
            have HMM := Lib.hid hm'
            have hmi : (m : Int) - 1 = (m' : Int) := by omega
            have hm1 : m' < G := by omega
            have HND : Hid (decide (m ∈ D) = ndB gs D (x2 / 2) m m) := nd_eq HWf.out ia HD.out h0
            have hgm : m < gs.length := by have := HG.out; omega
            have HCH : Hid (getG gs m ≠ (0, 0) → (getG gs m).1 / 2 < m ∧ (getG gs m).2 / 2 < m) := fun hne => HWf.out.lt1 hgm hne
            have HAB : Hid (andB gs m = true ↔ getG gs m ≠ (0, 0)) := by show andB gs m = true ↔ _; unfold andB; exact decide_eq_true_iff
            clear hm' h0 hgm
            obtain ⟨pa, hpa⟩ : ∃ z, z = (getG gs m).1 := ⟨_, rfl⟩
            obtain ⟨pb, hpb⟩ : ∃ z, z = (getG gs m).2 := ⟨_, rfl⟩
            obtain ⟨an, han⟩ : ∃ z, z = andB gs m := ⟨_, rfl⟩
            obtain ⟨bm, hbm⟩ : ∃ z, z = decide (m ∈ D) := ⟨_, rfl⟩
            rw [← hpa, ← hpb, ← han] at HPT
            rw [← hpa, ← hpb] at HCH
            rw [← han] at HAB
            have HBM := Lib.hid hbm
            have HPA := Lib.hid hpa
            have HPB := Lib.hid hpb
            clear hpa hpb han hbm
            go_wp2_with fail
            refine HPT.out.mono ?_
            clear HPT y0
            rintro e wp ⟨rfl, hbp⟩
            have HBP := Lib.hid hbp
            have hrow := hP.out.1.keep hbp hP.out.1.lt
            have HR := Lib.hid hrow
            have HBC : Hid (Below wc.heap.size wc wp) := hP.out.2.trans (hbp.mono hP.out.2.size)
            have z0 : wp.cell? ⟨gi, m, none⟩ = some (.bool bm) := by rw [HBM.out]; exact (HIN.out wp HBC.out).cell (show m < G * 1 by omega)
            have z1 : wp.cell? ⟨gn, m, none⟩ = some (.bool bm) := by rw [HBM.out, HND.out]; exact hrow.cell (show m < G * 1 by omega)
            have tG : decide ((G : Int) ≤ (m : Int)) = false := decide_eq_false (by omega)
            have tG2 : decide (G ≤ m) = false := decide_eq_false (by omega)
            clear hbp hrow hP HMQ HBP
            go_upto_region 33 with (fail)
            go_quiet (fail)
            have HRq : Hid (RowV 4 1 (wp.drewN nq) gn G G (fun j => .bool (ndB gs D (x2 / 2) m j)) ∧ Below wc.heap.size wc (wp.drewN nq)) := ⟨HR.out.keep (below_drewN (Below.refl _ _) nq) HR.out.lt, below_drewN HBC.out nq⟩
            generalize wp.drewN nq = wp at *
            clear z0 z1 HR HBC
            by_cases hab : an = true ∧ bm = true
            · obtain ⟨rfl, rfl⟩ := hab
              have z0 : wp.cell? ⟨gi, m, none⟩ = some (.bool true) := by rw [HBM.out]; exact (HIN.out wp HRq.out.2).cell (show m < G * 1 by omega)
              have hne := HAB.out.1 rfl
              obtain ⟨hpam, hpbm⟩ := HCH.out hne
              have pa32 : pa < 4294967296 := by omega
              have pb32 : pb < 4294967296 := by omega
              have hpaG : pa / 2 < G := by omega
              have hpbG : pb / 2 < G := by omega
              have tA : decide ((G : Int) ≤ ((pa / 2 : Nat) : Int)) = false := decide_eq_false (by omega)
              have tA2 : decide (G ≤ pa / 2) = false := decide_eq_false (by omega)
              have tB : decide ((G : Int) ≤ ((pb / 2 : Nat) : Int)) = false := decide_eq_false (by omega)
              have tB2 : decide (G ≤ pb / 2) = false := decide_eq_false (by omega)
              have d0 := HRq.out.1.cell (show pa / 2 < G * 1 by omega)
              have d1 := HRq.out.1.free (pa / 2)
              obtain ⟨wv, hwv⟩ : ∃ wv, wv = wp.setCell ⟨gn, pa / 2, none⟩ (.bool true) := ⟨_, rfl⟩
              have hv := HRq.out.1.set (show pa / 2 < G * 1 by omega) (.bool true)
              have hvb : Below wc.heap.size wc wv := by rw [hwv]; exact HRq.out.2.setCell (by rw [HGN.out]; exact Nat.le_refl _) _
              rw [← hwv] at hv
              have HV := Lib.hid hv
              have HVB := Lib.hid hvb
              have HST : Hid (∀ j, Value.bool (ndB gs D (x2 / 2) m' j) = updV (updV (fun j => .bool (ndB gs D (x2 / 2) m j)) (pa / 2) (.bool true)) (pb / 2) (.bool true) j) := fun j => by
                have hmm := HMM.out
                have q1 : m' + 1 ∈ D := by rw [← hmm]; exact of_decide_eq_true HBM.out.symm
                have q2 : getG gs (m' + 1) ≠ (0, 0) := by rw [← hmm]; exact hne
                have := nd_step (t := x2 / 2) (j := j) q1 q2
                rw [← hmm, ← HPA.out, ← HPB.out] at this
                exact this
              have HWV := Lib.hid hwv
              clear hv hvb hne hwv HRq HND HCH HAB HBM HPA HPB
              go_upto_region 37 with (fail)
              rw [← HWV.out]
              clear d0 d1 z0 tA tA2
              have d0 := HV.out.cell (show pb / 2 < G * 1 by omega)
              have d1 := HV.out.free (pb / 2)
              have HE : Hid (RowV 4 1 (wv.setCell ⟨gn, pb / 2, none⟩ (.bool true)) gn G G (fun j => .bool (ndB gs D (x2 / 2) m' j)) ∧ Below wc.heap.size wc (wv.setCell ⟨gn, pb / 2, none⟩ (.bool true))) :=
                ⟨(HV.out.set (show pb / 2 < G * 1 by omega) _).congr fun j _ => HST.out j, HVB.out.setCell (by rw [HGN.out]; exact Nat.le_refl _) _⟩
              clear HWV HV HVB HST HMM
              go_wp2_with fail
              go_roundw
              case rel => exact ⟨m', by go_num, hm1, HE⟩
              case measure => simp [intOf]; omega
            · have HE : Hid (RowV 4 1 wp gn G G (fun j => .bool (ndB gs D (x2 / 2) m' j)) ∧ Below wc.heap.size wc wp) := by
                refine ⟨HRq.out.1.congr fun j _ => ?_, HRq.out.2⟩
                have hmm := HMM.out
                have := nd_skip (gs := gs) (D := D) (t := x2 / 2) (m := m') (j := j) fun ⟨q1, q2⟩ => hab ⟨by rw [← hmm] at q2; exact HAB.out.2 q2, by rw [HBM.out, hmm]; exact decide_eq_true q1⟩
                rw [this, hmm]
              have z0 : wp.cell? ⟨gi, m, none⟩ = some (.bool bm) := by rw [HBM.out]; exact (HIN.out wp HRq.out.2).cell (show m < G * 1 by omega)
              have hcs : an = false ∨ (an = true ∧ bm = false) := by
                cases an <;> cases bm <;> simp_all
              clear HRq HND HCH HAB HBM HPA HPB HMM hab
              rcases hcs with rfl | ⟨rfl, rfl⟩
              · go_wp2_with fail
                go_roundw
                case rel => exact ⟨m', by go_num, hm1, HE⟩
                case measure => simp [intOf]; omega
              · go_wp2_with fail
                go_roundw
                case rel => exact ⟨m', by go_num, hm1, HE⟩
                case measure => simp [intOf]; omega
    have tj : decide (j < n) = true := decide_eq_true hlt
    have tj2 : decide ((j : Int) < (n : Int)) = true := decide_eq_true (by omega)
    obtain ⟨bx, o, Aj, cj, hA, hbx, x0, x1, hrd, hlm⟩ := (HXW.out _ HL.out).at_ j hlt
    rw [hA]
    have HRD := Lib.hid hrd
    by_cases h10 : 10 < (P j).length
    · have tk : decide (10 < (P j).length) = true := decide_eq_true h10
      have tk2 : decide (10 < (((P j).length : Nat) : Int)) = true := decide_eq_true (by omega)
      have HBX := HBW.out _ HL.out
      have HBA : Hid (Below w.heap.size w (wr.alloc (.cells #[.int .i64 (K j), .slice Aj (P j).length cj] 44))) := HBX.trans ((Below.refl _ _).alloc HBX.size _)
      clear hrd HRD HM HP HL
      generalize (P j).length = m at *
      generalize K j = kk at *
      go_upto_region 11 with (fail)
      obtain ⟨ba, hba⟩ : ∃ ba, ba = wr.heap.size := ⟨_, rfl⟩
      obtain ⟨wa, hwa⟩ : ∃ wa, wa = wr.alloc (.cells #[.int .i64 kk, .slice Aj m cj] 44) := ⟨_, rfl⟩
      have HA1 : Hid (wa.cell? ⟨ba, 1, none⟩ = some (.slice Aj m cj)) := by rw [hwa, hba, Lib.cell_of_heap (blk_new wr _)]; rfl
      rw [← hwa, ← hba]
      rw [← hwa] at HBA
      have a1 := HA1.out
      clear hwa hba x0 x1 HA1
      go_wp2_with fail
      go_ret
      exact ⟨rfl, HBA.out⟩
    have tk : decide (10 < (P j).length) = false := decide_eq_false h10
    have tk2 : decide (10 < (((P j).length : Nat) : Int)) = false := decide_eq_false (by omega)
    have HO := Lib.hid (okRun N hN K P j HP.out)
    have HRN : Hid (runS N K P (j + 1) = stepS (runS N K P j) (K j) (P j)) := rfl
    have HMA : Hid (MAt w1 bk (runS N K P j) (wr.alloc (.cells #[.int .i64 (K j), .slice Aj (P j).length cj] 44))) := HM.out.below ((Below.refl _ _).alloc (Nat.le_refl _) _)
    have HCA : Hid (∀ wa, wa = wr.alloc (.cells #[.int .i64 (K j), .slice Aj (P j).length cj] 44) → Calls Try.prog 19 #[.pointer (some ⟨bk, 0, none⟩), .agg #[.int .i64 (K j), .slice Aj (P j).length cj]] wa fun e w' => e = .returned (.bool true) ∧ Hid (MAt w1 bk (runS N K P (j + 1)) w')) := fun wa hwa => by
      have hM := HMA.out
      rw [← hwa] at hM
      have hb : Below wr.heap.size wr wa := by rw [hwa]; exact (Below.refl _ _).alloc (Nat.le_refl _) _
      exact (hM.do_ HO.out (by omega) (by omega) (by omega) (K j) Aj (P j).length cj (P j) ((HRD.out.below hb).more hb.size) (by omega)).mono fun e w' ⟨a, b⟩ => ⟨a, b⟩
    have HP2 : Hid (∀ i, i < j + 1 → (P i).length ≤ 10) := fun i hi => by
      by_cases h : i < j
      · exact HP.out i h
      · obtain rfl : i = j := by omega
        omega
    clear hrd HRD HM HP HL HMA HO HRN
    obtain ⟨m, hm⟩ : ∃ m, m = (P j).length := ⟨_, rfl⟩
    obtain ⟨kk, hkk⟩ : ∃ kk, kk = K j := ⟨_, rfl⟩
    rw [← hm] at x1 tk tk2 HCA
    rw [← hkk] at x0 HCA
    have hm10 : m ≤ 10 := by omega
    clear hm hkk hlm h10
    go_upto_region 11 with (fail)
    obtain ⟨ba, hba⟩ : ∃ ba, ba = wr.heap.size := ⟨_, rfl⟩
    obtain ⟨wa, hwa⟩ : ∃ wa, wa = wr.alloc (.cells #[.int .i64 kk, .slice Aj m cj] 44) := ⟨_, rfl⟩
    have HA1 : Hid (wa.cell? ⟨ba, 0, none⟩ = some (.int .i64 kk) ∧ wa.cell? ⟨ba, 1, none⟩ = some (.slice Aj m cj)) := by
      refine ⟨?_, ?_⟩
      all_goals (rw [hwa, hba, Lib.cell_of_heap (blk_new wr _)]; rfl)
    have HCW := Lib.hid (HCA.out wa hwa)
    rw [← hwa, ← hba]
    obtain ⟨a0, a1⟩ := HA1.out
    clear hwa hba x0 x1 HA1 HCA
    go_wp2_with fail
    refine HCW.out.mono ?_
    rintro e w3 ⟨rfl, HM3⟩
    clear HCW
    go_wp2_with fail
    go_roundw
    case rel => exact ⟨j + 1, by go_num, by omega, HP2, HM3⟩
    case measure => simp [intOf]; omega

set_option maxHeartbeats 800000 in
set_option maxRecDepth 100000 in
theorem lifted (os : Os) (started : os.Started) (H : Type) (enc : TypeId × Value → H) :
    ReturnsInHanded {} Try.checked os 6 .any (Rows.gateConesSpec.pre6 enc Try.prog Try.f6 Rows.gateConesRow.domain false) (Rows.gateConesSpec.post enc Try.prog Try.f6 false true false false) := by
  refine returnsInHanded_of_change (C := Try.checked) own_knob started (by kernel_rfl) Try.func6
    (ChangeSpec.witness6 (enc := enc) (C := Try.checked) false ⟨#[], #[.int .i64 0, .slice none 0 0, .agg #[.int .i64 0, .int .i64 0]], []⟩ 8 (by kernel_rfl) (by kernel_rfl) (by kernel_rfl) (by kernel_rfl)) ?_
  intro W base args ds gs before hval0 hW _ _
  have hval : ∀ (j : Nat) t v, Try.f6.params[j]? = some t → args[j]? = some v → Value.okWide Try.prog W .any base t v := hval0
  have hW' := hW
  obtain ⟨p, q, hA0, hV, rfl, _, _⟩ := hW
  have hA : DataW.TrodAll enc Try.prog W 0 (fun _ => true) true Try.f6.params.toList args.toList ds p := hA0
  rw [Try.params6] at hA hval
  obtain ⟨v0, v1, v2, d0, d1, d2, p0, p1, p2, rfl, rfl, rfl, h0, h1, h2⟩ := trodAll_three hA
  obtain ⟨rfl, rfl⟩ := trodVars_none hV
  obtain ⟨a0, rfl, rfl, rfl, w0⟩ := open_int Try.underlying3 (hval 0 3 v0 rfl rfl) h0
  obtain ⟨A1, n1, c1, K1, P1, rfl, hR1, _⟩ := open_acts (hval 1 40 v1 rfl rfl) h1
  obtain ⟨x2, y2, rfl⟩ := open_pair (hval 2 54 v2 rfl rfl) h2
  clear hA0 hval0
  simp only [List.append_nil, List.nil_append] at hW'
  have hlt1 : ∀ y ∈ p1, y.block < W.heap.size := fun y hy => by simpa using hW'.lt y (by simp [hy])
  have hlt2 : ∀ y ∈ p2, y.block < W.heap.size := fun y hy => by simpa using hW'.lt y (by simp [hy])
  refine (walk a0 A1 n1 c1 K1 P1 x2 y2 W hR1).mono fun e W' ⟨he, hB⟩ => ?_
  subst he
  exact ⟨_, rfl, _, _, _, [], _, [], hW', trodAll_mk1 (shut_bool Try.underlying4 true), trodAll_mk3 (shut_int Try.underlying3 w0) (Below.trod laid_out (by kernel_rfl) (of_decide_eq_true (by kernel_rfl)) h1 hB hlt1) (Below.trod laid_out (by kernel_rfl) (of_decide_eq_true (by kernel_rfl)) h2 hB hlt2), rfl, hB.frame _, fun h => by cases h⟩

theorem proved : Rows.GateConesSaid :=
  OpenClaim.holds_of_wide 6 Try.f6 rfl rfl rfl rfl rfl rfl rfl ⟨rfl, rfl, rfl, rfl, rfl⟩ rfl rfl rfl rfl rfl (by kernel_rfl) Try.func6 (by kernel_rfl)
    (of_decide_eq_true (by kernel_rfl)) (by unfold Func.isWrapper; first | (rw [if_pos (by decide +kernel)]; kernel_rfl) | (rw [if_neg (by decide +kernel)]; exact ⟨rfl, rfl⟩))
    (fun os started H enc _ => lifted os started H enc)
end Go.Proofs.Ytkdjbjclijbojaa.GCones
namespace Go.Proofs.Ytkdjbjclijbojaa
theorem gateCones_holds : Rows.GateConesSaid := GCones.proved
#print axioms gateCones_holds
end Go.Proofs.Ytkdjbjclijbojaa
