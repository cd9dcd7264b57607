/- The contract of the plain answer's Read. -/
import Derived.Test.YtcfbnddoknpehaaGreatDoorPReadM
import Derived.Deep.DeepCutAuto
import Derived.Deep.CutBlock
import Derived.Deep.RegionHeld3
namespace Go.Proofs.YtcfbnddoknpehaaGreatDoor
open Go.RowKit LitM CnfP Words

set_option maxHeartbeats 6400000 in
set_option maxRecDepth 100000 in
theorem pread_any (s : List UInt8) (w : World) (hs : s.length ≤ 3000) :
    Calls Tryz.prog 15 #[.string ⟨s.toArray⟩] w (PReadP (wordsL s) w) := by
  obtain ⟨i0, hi, hz0, hz1, hz2⟩ := info_parts info_clause
  obtain ⟨l0, li, lz0, lz1, lz2⟩ := info_parts info_lit
  have HIL := Lib.hid li
  have HL0 := Lib.hid lz0
  have HL1 := Lib.hid lz1
  have HL2 := Lib.hid lz2
  have HII := Lib.hid hi
  have HI0 := Lib.hid hz0
  have HI1 := Lib.hid hz1
  have HI2 := Lib.hid hz2
  clear hi hz0 hz1 hz2 li lz0 lz1 lz2
  have hwl : (wordsL s).length ≤ s.length := by have := goL_count s []; simpa [wordsL] using this
  obtain ⟨ws, hws⟩ : ∃ ws, ws = wordsL s := ⟨_, rfl⟩
  rw [← hws] at hwl ⊢
  have hB0 : Below w.heap.size w (w.alloc (.cells #[.int .i64 0, .slice none 0 0] 24)) := (Below.refl _ _).alloc (Nat.le_refl _) _
  have HPW := Lib.hid (pwords_any s (w.alloc (.cells #[.int .i64 0, .slice none 0 0] 24)) (by omega))
  have HRB0 := Lib.hid (blkP w (.cells #[.int .i64 0, .slice none 0 0] 24))
  have HSZ0 : Hid ((w.alloc (.cells #[.int .i64 0, .slice none 0 0] 24)).heap.size = w.heap.size + 1) := by unfold Hid; simp
  have HB0 := Lib.hid hB0
  have HWS := Lib.hid hws
  clear hB0 hws
  go_enter Tryz.func15, Tryz.ntmps15
  go_wp2_with fail
  refine HPW.out.mono ?_
  rintro e w2 ⟨vv, rfl, hO, hB⟩
  rw [← HWS.out] at hO
  rw [HSZ0.out] at hO hB
  have HB2 : Hid (Below w.heap.size w w2) := HB0.out.trans (hB.mono (by omega))
  have hRB2 : w2.heap[w.heap.size]? = some (.cells #[.int .i64 0, .slice none 0 0] 24 (0, 0)) := (hB.block _ (by omega)).trans HRB0.out
  have hsz2 := hB.size
  rw [HSZ0.out] at hsz2
  have HRB2 := Lib.hid hRB2
  obtain ⟨A0, c0, rfl⟩ := hO.form
  have HO := Lib.hid hO
  clear hB hRB2 hO HPW HRB0
  by_cases hl4 : 4 ≤ ws.length
  case neg =>
    have HF := Lib.hid (form_short (ws := ws) (by omega))
    have t1 : decide (ws.length < 4) = true := decide_eq_true (by omega)
    have t2 : decide ((ws.length : Int) < 4) = true := decide_eq_true (by omega)
    have hb := HRB2.out
    have s0 : w2.cell? ⟨w.heap.size, 0, none⟩ = some (.int .i64 0) := by rw [Lib.cell_of_heap hb]; rfl
    have s1 : w2.cell? ⟨w.heap.size, 1, none⟩ = some (.slice none 0 0) := by rw [Lib.cell_of_heap hb]; rfl
    have sf := Lib.frozen_of_heap hb
    have hq := two_set hb (.int .i64 0) (.slice none 0 0)
    have p0 : ((w2.setCell ⟨w.heap.size, 0, none⟩ (.int .i64 0)).setCell ⟨w.heap.size, 1, none⟩ (.slice none 0 0)).cell? ⟨w.heap.size, 0, none⟩ = some (.int .i64 0) := by rw [Lib.cell_of_heap hq]; rfl
    have p1 : ((w2.setCell ⟨w.heap.size, 0, none⟩ (.int .i64 0)).setCell ⟨w.heap.size, 1, none⟩ (.slice none 0 0)).cell? ⟨w.heap.size, 1, none⟩ = some (.slice none 0 0) := by rw [Lib.cell_of_heap hq]; rfl
    have HBZ : Hid (Below w.heap.size w ((w2.setCell ⟨w.heap.size, 0, none⟩ (.int .i64 0)).setCell ⟨w.heap.size, 1, none⟩ (.slice none 0 0))) := (HB2.out.setCell (p := ⟨w.heap.size, 0, none⟩) (by simp) _).setCell (p := ⟨w.heap.size, 1, none⟩) (by simp) _
    clear hb hq
    go_wp2_with fail
    refine bodyPost_ret (v := .tuple #[.agg #[.int .i64 0, .slice none 0 0], .int .i64 22]) (by simp [results, Tryz.results15, go_sem, p0, p1]) rfl ?_
    exact ⟨HBZ.out, .inr ⟨HF.out, rfl⟩⟩
  obtain ⟨g, c, hv, hc4, hcm, hg, hW⟩ := HO.out.wds (by omega)
  injection hv with hv1 hv2 hv3
  subst hv1; subst hv3
  have HW := Lib.hid hW
  have HL4 := Lib.hid hl4
  obtain ⟨n2, hn2⟩ : ∃ n2, ws.length = n2 + 2 := ⟨ws.length - 2, by omega⟩
  have e0 := hW.2 0 (by omega)
  have e1 := hW.2 1 (by omega)
  clear hW HO hv2
  have t1 : decide (ws.length < 4) = false := decide_eq_false (by omega)
  have t2 : decide ((ws.length : Int) < 4) = false := decide_eq_false (by omega)
  have t3 : decide (0 < ws.length) = true := decide_eq_true (by omega)
  have t4 : decide (1 < ws.length) = true := decide_eq_true (by omega)
  have HN2 := Lib.hid hn2
  obtain ⟨hb, hhb⟩ : ∃ hb : Bool, (hb = false ∧ ws.getD 0 [] = pW ∧ ws.getD 1 [] = cnfW) ∨ (hb = true ∧ ¬ (ws.getD 0 [] = pW ∧ ws.getD 1 [] = cnfW)) := by
    by_cases h : ws.getD 0 [] = pW ∧ ws.getD 1 [] = cnfW
    · exact ⟨false, .inl ⟨rfl, h⟩⟩
    · exact ⟨true, .inr ⟨rfl, h⟩⟩
  have HHB := Lib.hid hhb
  clear hhb
  clear hn2
  go_upto_region 2 with (fail)
  go_cut [28] (fun t wx => t = .bool hb ∧ w2 = wx)
  case first =>
    have hb2 := HHB.out
    have hx0 : (ws.getD 0 [] == [112]) = decide (ws.getD 0 [] = pW) := by rw [Bool.eq_iff_iff]; simp [pW]
    have hx1 : (ws.getD 1 [] == [99, 110, 102]) = decide (ws.getD 1 [] = cnfW) := by rw [Bool.eq_iff_iff]; simp [cnfW]
    generalize ws.getD 0 [] = wd0 at *
    generalize ws.getD 1 [] = wd1 at *
    clear HHB
    by_cases h0 : wd0 = pW
    · have y0 : (wd0 == [112]) = true := by rw [hx0]; exact decide_eq_true h0
      have y0' : (wd0 != [112]) = false := by rw [bne, y0]; rfl
      by_cases h1 : wd1 = cnfW
      · have y1 : (wd1 == [99, 110, 102]) = true := by rw [hx1]; exact decide_eq_true h1
        have y1' : (wd1 != [99, 110, 102]) = false := by rw [bne, y1]; rfl
        obtain rfl : hb = false := by
          rcases hb2 with ⟨h, _⟩ | ⟨_, h⟩
          · exact h
          · exact absurd ⟨h0, h1⟩ h
        clear h0 h1 hb2 hx0 hx1
        go_wp2_with fail
        go_meet
        exact ⟨rfl, rfl⟩
      · have y1 : (wd1 == [99, 110, 102]) = false := by rw [hx1]; exact decide_eq_false h1
        have y1' : (wd1 != [99, 110, 102]) = true := by rw [bne, y1]; rfl
        obtain rfl : hb = true := by
          rcases hb2 with ⟨_, _, h⟩ | ⟨h, _⟩
          · exact absurd h h1
          · exact h
        clear h0 h1 hb2 hx0 hx1
        go_wp2_with fail
        go_meet
        exact ⟨rfl, rfl⟩
    · have y0 : (wd0 == [112]) = false := by rw [hx0]; exact decide_eq_false h0
      have y0' : (wd0 != [112]) = true := by rw [bne, y0]; rfl
      obtain rfl : hb = true := by
        rcases hb2 with ⟨_, h, _⟩ | ⟨h, _⟩
        · exact absurd h h0
        · exact h
      clear h0 hb2 hx0 hx1
      go_wp2_with fail
      go_meet
      exact ⟨rfl, rfl⟩
  case rest =>
  obtain ⟨rfl, rfl⟩ := hcut
  clear e0 e1 t1 t2 t3 t4
  cases hb
  case true =>
    have HF : Hid (formulaOf ws = none) := by
      rcases HHB.out with ⟨h, _⟩ | ⟨_, h⟩
      · cases h
      · exact form_head hl4 h
    have hb := HRB2.out
    have s0 : w2.cell? ⟨w.heap.size, 0, none⟩ = some (.int .i64 0) := by rw [Lib.cell_of_heap hb]; rfl
    have s1 : w2.cell? ⟨w.heap.size, 1, none⟩ = some (.slice none 0 0) := by rw [Lib.cell_of_heap hb]; rfl
    have sf := Lib.frozen_of_heap hb
    have hq := two_set hb (.int .i64 0) (.slice none 0 0)
    have p0 : ((w2.setCell ⟨w.heap.size, 0, none⟩ (.int .i64 0)).setCell ⟨w.heap.size, 1, none⟩ (.slice none 0 0)).cell? ⟨w.heap.size, 0, none⟩ = some (.int .i64 0) := by rw [Lib.cell_of_heap hq]; rfl
    have p1 : ((w2.setCell ⟨w.heap.size, 0, none⟩ (.int .i64 0)).setCell ⟨w.heap.size, 1, none⟩ (.slice none 0 0)).cell? ⟨w.heap.size, 1, none⟩ = some (.slice none 0 0) := by rw [Lib.cell_of_heap hq]; rfl
    have HBZ : Hid (Below w.heap.size w ((w2.setCell ⟨w.heap.size, 0, none⟩ (.int .i64 0)).setCell ⟨w.heap.size, 1, none⟩ (.slice none 0 0))) := (HB2.out.setCell (p := ⟨w.heap.size, 0, none⟩) (by simp) _).setCell (p := ⟨w.heap.size, 1, none⟩) (by simp) _
    clear hb hq
    go_wp2_with fail
    refine bodyPost_ret (v := .tuple #[.agg #[.int .i64 0, .slice none 0 0], .int .i64 22]) (by simp [results, Tryz.results15, go_sem, p0, p1]) rfl ?_
    exact ⟨HBZ.out, .inr ⟨HF.out, rfl⟩⟩
  have HHD : Hid (ws.getD 0 [] = pW ∧ ws.getD 1 [] = cnfW) := by
    rcases HHB.out with ⟨_, h⟩ | ⟨h, _⟩
    · exact h
    · cases h
  clear HHB
  go_upto_region 4 with (fail)
  go_cut [5] (fun p wx => p = .pointer (some ⟨w2.heap.size, 0, none⟩) ∧ Hid (FrmAt w2.heap.size 0 (.slice none 0 0) wx ∧ Below w2.heap.size w2 wx))
  case first =>
    have hb := blkP w2 (.cells #[.int .i64 0, .slice none 0 0] 24)
    have s0 : (w2.alloc (.cells #[.int .i64 0, .slice none 0 0] 24)).cell? ⟨w2.heap.size, 0, none⟩ = some (.int .i64 0) := by rw [Lib.cell_of_heap hb]; rfl
    have s1 : (w2.alloc (.cells #[.int .i64 0, .slice none 0 0] 24)).cell? ⟨w2.heap.size, 1, none⟩ = some (.slice none 0 0) := by rw [Lib.cell_of_heap hb]; rfl
    have sf := Lib.frozen_of_heap hb
    have HQ := Lib.hid (two_set hb (.int .i64 0) (.slice none 0 0))
    have HBZ : Hid (Below w2.heap.size w2 (((w2.alloc (.cells #[.int .i64 0, .slice none 0 0] 24)).setCell ⟨w2.heap.size, 0, none⟩ (.int .i64 0)).setCell ⟨w2.heap.size, 1, none⟩ (.slice none 0 0))) := (((Below.refl _ _).alloc (Nat.le_refl _) _).setCell (p := ⟨w2.heap.size, 0, none⟩) (by simp) _).setCell (p := ⟨w2.heap.size, 1, none⟩) (by simp) _
    have HB1 : Hid (Below w2.heap.size w2 (w2.alloc (.cells #[.int .i64 0, .slice none 0 0] 24))) := (Below.refl _ _).alloc (Nat.le_refl _) _
    have HQ1 := Lib.hid hb
    clear hb
    go_wp2_with fail
    go_meet
    first | exact ⟨rfl, HQ.out, HBZ.out⟩ | exact ⟨rfl, HQ1.out, HB1.out⟩
  case rest =>
  obtain ⟨rfl, hFB⟩ := hcut
  have hgf := HW.out.1
  have hfb1 := hFB.out.1.lt
  have HWc : Hid (WdsAt wc g ws) := HW.out.kept (b := w2.heap.size) (Kept.of hFB.out.2) (by omega)
  have HRc : Hid (wc.heap[w.heap.size]? = some (.cells #[.int .i64 0, .slice none 0 0] 24 (0, 0))) := (hFB.out.2.block _ (by omega)).trans HRB2.out
  have HBc : Hid (Below w.heap.size w wc) := HB2.out.trans (hFB.out.2.mono (by omega))
  have HFc := Lib.hid hFB.out.1
  clear hFB HW HRB2 HB2
  generalize w2.heap.size = fb at *
  unfold maxLen at hcm
  rw [HN2.out] at hl4 hc4 hwl ⊢
  have q2 : (2 == c0) = false := by rw [beq_eq_false_iff_ne]; omega
  have q2' : ¬ (2 = c0) := by omega
  go_wp2_with fail
  go_loopw [6, 7, 35] (fun mv cv iv wr => ∃ (k : Nat) (m v : Int) (F : List (List Int)) (cur : List Int) (u : Value) (A7 : Option Addr) (c7 : Nat) (wb : World), mv = .int .i64 m ∧ cv = .slice A7 cur.length c7 ∧ iv = .int .i64 k ∧ k ≤ n2 ∧ Hid (Own wr wb.heap.size (.slice A7 cur.length c7) cur) ∧
    Hid (OwnF wb wc.heap.size u F) ∧ Hid (FrmAt fb v u wb) ∧ Hid (Kept fb wc wb) ∧ Hid (Below wb.heap.size wb wr) ∧ Hid (RS ws k v m F cur) ∧ Hid (RB k v m F cur)) (fun _ _ iv _ => n2 - (RowKit.intOf iv).toNat)
  case atStart =>
    exact ⟨0, 0, 0, [], [], _, _, _, wc, rfl, rfl, rfl, by omega, World.ownsRow_made wc #[] 0 (Nat.le_refl _) (by unfold maxLen; omega) rfl, OwnF.nil _ _, HFc.out, Kept.refl _ _, (Below.refl _ _).alloc (Nat.le_refl _) _, .inl ⟨rfl, rfl, rfl⟩, rb_start⟩
  case round =>
    obtain ⟨k, m, v, F, cur, u, A7, c7, wb, rfl, rfl, rfl, hk, HOcb, HOFb, HFrb, HKb, HBb, HRS, HRB⟩ := hrel
    have hwb1 := HKb.out.size
    have hwb2 := HBb.out.size
    have HOc : Hid (Own wr wc.heap.size (.slice A7 cur.length c7) cur) := HOcb.out.base hwb1
    have HOF : Hid (OwnF wr wc.heap.size u F) := HOFb.out.kept (g := fb) (Kept.of HBb.out) hfb1
    have HFr : Hid (FrmAt fb v u wr) := HFrb.out.kept (g := fb + 1) (Kept.of HBb.out) (by omega)
    have HK : Hid (Kept fb wc wr) := HKb.out.trans (Kept.of HBb.out)
    have HRw : Hid (wr.heap[w.heap.size]? = some (.cells #[.int .i64 0, .slice none 0 0] 24 (0, 0))) := (HK.out.block _ (by omega) (by omega)).trans HRc.out
    have HBw : Hid (Below w.heap.size w wr) := HK.out.below HBc.out (by omega) (by omega)
    have hks := HK.out.size
    by_cases hlt : k < n2
    · have tk : decide (k < n2) = true := decide_eq_true hlt
      have tk' : decide ((k : Int) < (n2 : Int)) = true := decide_eq_true (by omega)
      have hcell := (HWc.out.kept HK.out (by omega)).2 (k + 2) (by rw [HN2.out]; omega)
      have hcell' : wr.cell? ⟨g, 2 + k, none⟩ = some (.string ⟨(ws.getD (k + 2) []).toArray⟩) := by rw [Nat.add_comm]; exact hcell
      obtain ⟨st, hst⟩ := stop_w HRS.out (by rw [HN2.out]; omega) HL4.out
      have HN := Lib.hid (pnum_any (ws.getD (k + 2) []) wr)
      obtain ⟨wd, hwd⟩ : ∃ wd, wd = ws.getD (k + 2) [] := ⟨_, rfl⟩
      rw [← hwd] at hst HN hcell hcell'
      have HWD := Lib.hid hwd
      have HST := Lib.hid hst
      have HPN : Hid (∀ e w', PNumPost (okB wd) (valZ wd) wr e w' → e = .returned (.tuple #[.int .i64 (if okB wd then valZ wd else 0), .bool (okB wd)]) ∧ wr = w') := fun e w' h => h
      clear hwd hst
      generalize okB wd = ok at *
      go_wp2_with fail
      refine HN.out.mono ?_
      intro e w' hp
      obtain ⟨rfl, rfl⟩ := HPN.out e w' hp
      clear hp hcell hcell' HN HPN
      generalize (if ok then valZ wd else 0) = n at *
      go_upto_region 11 with (fail)
      go_cut [58] (fun t wx => t = .bool st ∧ wr = wx)
      case first =>
        rcases HST.out with ⟨rfl, rfl, _⟩ | ⟨rfl, _, (⟨h1, rfl⟩ | ⟨h1, h2, rfl, _⟩ | ⟨h1, h2, rfl, _⟩ | ⟨h1, h2, rfl⟩)⟩
        · go_wp2_with fail
          go_meet
          exact ⟨rfl, rfl⟩
        · have d1 : decide (1 < k) = false := decide_eq_false (by omega)
          have d2 : decide (1 < (k : Int)) = false := decide_eq_false (by omega)
          go_wp2_with fail
          go_meet
          exact ⟨rfl, rfl⟩
        · have d1 : decide (1 < k) = true := decide_eq_true (by omega)
          have d2 : decide (1 < (k : Int)) = true := decide_eq_true (by omega)
          have d3 : decide (262144 < n) = true := decide_eq_true (by omega)
          go_wp2_with fail
          go_meet
          exact ⟨rfl, rfl⟩
        · have d1 : decide (1 < k) = true := decide_eq_true (by omega)
          have d2 : decide (1 < (k : Int)) = true := decide_eq_true (by omega)
          have d3 : decide (262144 < n) = false := decide_eq_false (by omega)
          have d4 : decide (n < -262144) = true := decide_eq_true (by omega)
          go_wp2_with fail
          go_meet
          exact ⟨rfl, rfl⟩
        · have d1 : decide (1 < k) = true := decide_eq_true (by omega)
          have d2 : decide (1 < (k : Int)) = true := decide_eq_true (by omega)
          have d3 : decide (262144 < n) = false := decide_eq_false (by omega)
          have d4 : decide (n < -262144) = false := decide_eq_false (by omega)
          go_wp2_with fail
          go_meet
          exact ⟨rfl, rfl⟩
      case rest =>
      obtain ⟨rfl, rfl⟩ := hcut
      cases st
      case true =>
        have HF : Hid (formulaOf ws = none) := by
          rcases HST.out with ⟨_, _, h⟩ | ⟨_, _, (⟨_, h⟩ | ⟨_, _, _, h⟩ | ⟨_, _, _, h⟩ | ⟨_, _, h⟩)⟩
          · exact h
          · cases h
          · exact h
          · exact h
          · cases h
        have hb := HRw.out
        have s0 : wr.cell? ⟨w.heap.size, 0, none⟩ = some (.int .i64 0) := by rw [Lib.cell_of_heap hb]; rfl
        have s1 : wr.cell? ⟨w.heap.size, 1, none⟩ = some (.slice none 0 0) := by rw [Lib.cell_of_heap hb]; rfl
        have sf := Lib.frozen_of_heap hb
        have hq := two_set hb (.int .i64 0) (.slice none 0 0)
        have p0 : ((wr.setCell ⟨w.heap.size, 0, none⟩ (.int .i64 0)).setCell ⟨w.heap.size, 1, none⟩ (.slice none 0 0)).cell? ⟨w.heap.size, 0, none⟩ = some (.int .i64 0) := by rw [Lib.cell_of_heap hq]; rfl
        have p1 : ((wr.setCell ⟨w.heap.size, 0, none⟩ (.int .i64 0)).setCell ⟨w.heap.size, 1, none⟩ (.slice none 0 0)).cell? ⟨w.heap.size, 1, none⟩ = some (.slice none 0 0) := by rw [Lib.cell_of_heap hq]; rfl
        have HBZ : Hid (Below w.heap.size w ((wr.setCell ⟨w.heap.size, 0, none⟩ (.int .i64 0)).setCell ⟨w.heap.size, 1, none⟩ (.slice none 0 0))) := (HBw.out.setCell (p := ⟨w.heap.size, 0, none⟩) (by simp) _).setCell (p := ⟨w.heap.size, 1, none⟩) (by simp) _
        clear hb hq
        go_wp2_with fail
        refine bodyPost_ret (v := .tuple #[.agg #[.int .i64 0, .slice none 0 0], .int .i64 22]) (by simp [results, Tryz.results15, go_sem, p0, p1]) rfl ?_
        exact ⟨HBZ.out, .inr ⟨HF.out, rfl⟩⟩
      have HNM : Hid (numOf wd = some n ∧ (2 ≤ k → ¬ (262144 < n ∨ n < -262144))) := by
        rcases HST.out with ⟨_, h, _⟩ | ⟨_, h0, (⟨h1, _⟩ | ⟨_, _, h, _⟩ | ⟨_, _, h, _⟩ | ⟨_, h, _⟩)⟩
        · cases h
        · exact ⟨h0, fun x => absurd x (by omega)⟩
        · cases h
        · cases h
        · exact ⟨h0, fun _ => h⟩
      have hnb := numOf_bd HNM.out.1
      rw [HWD.out] at HNM
      clear HST HWD
      by_cases k0 : k = 0
      · subst k0
        have f0 := HFr.out.c0
        have ff := HFr.out.f 0
        have HR1 := Lib.hid (rs_at0 HRS.out HNM.out.1)
        have HRB1 := Lib.hid (rb_vars HRB.out hnb)
        have HO1 : Hid (Own (wr.setCell ⟨fb, 0, none⟩ (.int .i64 n)) (wb.setCell ⟨fb, 0, none⟩ (.int .i64 n)).heap.size (.slice A7 cur.length c7) cur) := by
          rw [size_set]
          exact HOcb.out.kept (Kept.set (w := wr) (g := fb) (j := 0) (.int .i64 n)) (by omega)
        have HOF1 := Lib.hid (HOFb.out.kept (Kept.set (w := wb) (g := fb) (j := 0) (.int .i64 n)) hfb1)
        have HFr1 := Lib.hid (HFrb.out.set0 n)
        have HK1 := Lib.hid (HKb.out.trans (Kept.set (w := wb) (g := fb) (j := 0) (.int .i64 n)))
        have HB1 : Hid (Below (wb.setCell ⟨fb, 0, none⟩ (.int .i64 n)).heap.size (wb.setCell ⟨fb, 0, none⟩ (.int .i64 n)) (wr.setCell ⟨fb, 0, none⟩ (.int .i64 n))) := by
          rw [size_set]
          exact below_set_both HBb.out _ _
        clear HRS HRB HOc HOF HFr HK HNM
        go_wp2_with fail
        go_roundw
        case rel => exact ⟨1, m, n, F, cur, u, A7, c7, _, rfl, rfl, rfl, by omega, HO1.out, HOF1.out, HFr1.out, HK1.out, HB1.out, HR1.out, HRB1.out⟩
        case measure => simp [RowKit.intOf]; omega
      by_cases k1 : k = 1
      · subst k1
        have HR1 := Lib.hid (rs_at1 HRS.out HNM.out.1)
        have HRB1 := Lib.hid (rb_many HRB.out hnb)
        clear HRS HRB HNM k0
        go_wp2_with fail
        go_roundw
        case rel => exact ⟨2, n, v, F, cur, u, A7, c7, wb, rfl, rfl, rfl, by omega, HOcb.out, HOFb.out, HFrb.out, HKb.out, HBb.out, HR1.out, HRB1.out⟩
        case measure => simp [RowKit.intOf]; omega
      have y0 : (k == 0) = false := by rw [beq_eq_false_iff_ne]; exact k0
      have y0' : ((k : Int) == 0) = false := by rw [beq_eq_false_iff_ne]; omega
      have y1 : (k == 1) = false := by rw [beq_eq_false_iff_ne]; exact k1
      have y1' : ((k : Int) == 1) = false := by rw [beq_eq_false_iff_ne]; omega
      have k2 : 2 ≤ k := by omega
      have hfar := HNM.out.2 k2
      by_cases n0 : n = 0
      · subst n0
        have HR1 := Lib.hid (rs_zero HRS.out k2 (by rw [HN2.out]; omega) HNM.out.1)
        have HRB1 := Lib.hid (rb_zero HRB.out)
        have hcl := HRB.out.1
        obtain ⟨Au, cu, hu, _⟩ := HOF.out.form
        subst hu
        obtain ⟨vs, hvl, hrow, hel⟩ := HOF.out
        have hvk : vs.length ≤ 100000 := by omega
        have HVL := Lib.hid hvl
        have HEL := Lib.hid hel
        have HROW := Lib.hid hrow
        have hc1 := HFr.out.c1
        clear hvl hel hrow HRS HRB HNM hnb hfar HOcb HOFb HFrb HKb HBb
        go_wp2_with (at_builtin; refine wpList_append_own _ rfl _ _ 22 rfl wc.heap.size 46 i0 (.slice none 0 0) 1 24 Tryz.underlying22 HII.out HI0.out HI1.out HI2.out rfl (by decide) _ _ _ rfl (HROW.out.alloc _) ⟨wr.heap.size, 0, none⟩ 1 1 [.slice A7 cur.length c7] rfl rfl slice_cell slice_one (by unfold maxLen; omega) (by omega) (by simp; omega) ?_)
        intro v' w6 hown6 hgrow6 _
        have hrowlt := HROW.out.lt
        have hFr6 := (HFr.out.kept (Kept.of (g := fb + 1) ((Below.refl _ _).alloc (Nat.le_refl _) (.cells #[.slice A7 cur.length c7] 46))) (by omega)).grown hgrow6 (fun e => by have := (hrowlt fb e).1; omega)
        have hK6 : Kept fb wc w6 := (HK.out.trans (Kept.of ((Below.refl _ _).alloc (Nat.le_refl _) _))).grown hgrow6 (fun b e => (hrowlt b e).1)
        have hOw6 := (HOc.out.new (.cells #[.slice A7 cur.length c7] 46)).grown hgrow6 (own_apart HOc.out HROW.out)
        have hOF6 : OwnF w6 wc.heap.size v' (F ++ [cur]) := OwnF.snoc HVL.out (fun j hj => by
          obtain ⟨x, h1, h2⟩ := HEL.out j hj
          exact ⟨x, h1, (h2.new (.cells #[.slice A7 cur.length c7] 46)).grown hgrow6 (own_apart h2 HROW.out)⟩) hOw6 hown6
        obtain ⟨Av, cv, hv', _⟩ := hOF6.form
        rw [show (F ++ [cur]).length = F.length + 1 from by simp] at hv'
        subst hv'
        have hd1 := hFr6.c1
        have hdf := hFr6.f 1
        obtain ⟨W7, hW7⟩ : ∃ W7, W7 = w6.setCell ⟨fb, 1, none⟩ (.slice Av (F.length + 1) cv) := ⟨_, rfl⟩
        have HF6 : Hid (FrmAt fb v (.slice Av (F.length + 1) cv) W7) := by rw [hW7]; exact hFr6.set1 (.slice Av (F.length + 1) cv)
        have HK7 : Hid (Kept fb wc W7) := by rw [hW7]; exact hK6.trans (Kept.set (w := w6) (g := fb) (j := 1) _)
        have HO7 : Hid (OwnF W7 wc.heap.size (.slice Av (F.length + 1) cv) (F ++ [cur])) := by rw [hW7]; exact hOF6.kept (Kept.set (w := w6) (g := fb) (j := 1) (.slice Av (F.length + 1) cv)) hfb1
        have HW7 := Lib.hid hW7
        clear hown6 hgrow6 hFr6 hK6 hOw6 hOF6 HROW HEL hc1 hrowlt hW7 HOc HOF HFr HK
        go_upto_region 20 with (fail)
        rw [← HW7.out]
        go_wp2_with fail
        go_roundw
        case rel => exact ⟨k + 1, m, v, F ++ [cur], [], _, _, _, W7, rfl, rfl, by go_num, by omega, World.ownsRow_made W7 #[] 0 (Nat.le_refl _) (by unfold maxLen; omega) rfl, HO7.out, HF6.out, HK7.out, (Below.refl _ _).alloc (Nat.le_refl _) _, HR1.out, HRB1.out⟩
        case measure => simp [RowKit.intOf]; omega
      · have yn : (n == 0) = false := by rw [beq_eq_false_iff_ne]; exact n0
        have hw32 : IntKind.i32.wrap n = n := by rw [IntKind.wrap_i32]; omega
        have hcl := HRB.out.1
        have hcl2 : cur.length ≤ 100000 := by omega
        have HR1 := Lib.hid (rs_more HRS.out k2 (by rw [HN2.out]; omega) HNM.out.1 n0 hfar)
        have HRB1 := Lib.hid (rb_more HRB.out hfar)
        clear HRS HRB HNM hnb hfar n0 HOc HOF HFr HK
        go_wp2_with (at_builtin; refine wpList_append_own _ rfl _ _ 46 rfl wb.heap.size 50 l0 (.int .i32 0) 1 4 Tryz.underlying46 HIL.out HL0.out HL1.out HL2.out rfl (by decide) _ _ _ rfl (HOcb.out.alloc _) ⟨wr.heap.size, 0, none⟩ 1 1 [.int .i32 n] rfl rfl one_cell one_one (by unfold maxLen; omega) (by omega) (by simp; omega) ?_)
        intro v2 w6 hown2 hgrow2 _
        have hs2 := Own.snoc hown2
        obtain ⟨A8, c8, hv2, _⟩ := hs2.form
        subst hv2
        have HB6 : Hid (Below wb.heap.size wb w6) := below_grown (HBb.out.trans ((Below.refl _ _).alloc hwb2 _)) (by simp; omega) hgrow2 (fun k hk => (World.ownsRow.lt HOcb.out k hk).1)
        have HS2 := Lib.hid hs2
        clear hown2 hgrow2 hs2
        go_wp2_with fail
        go_roundw
        case rel => exact ⟨k + 1, m, v, F, cur ++ [n], u, A8, c8, wb, rfl, by first | rfl | simp, by go_num, by omega, HS2.out, HOFb.out, HFrb.out, HKb.out, HB6.out, HR1.out, HRB1.out⟩
        case measure => simp [RowKit.intOf]; omega
    · have tk : decide (k < n2) = false := decide_eq_false hlt
      have tk' : decide ((k : Int) < (n2 : Int)) = false := decide_eq_false (by omega)
      have hkn : k = n2 := by omega
      subst hkn
      have HE := Lib.hid (rs_end HRS.out (by rw [HN2.out]) HL4.out HHD.out)
      obtain ⟨hcl, _, _, hv0, hv1, hm0, hm1⟩ := HRB.out
      obtain ⟨Au, cu, hu, hRF⟩ := HOF.out.form
      subst hu
      have HRI := Lib.hid (rrightF_any v Au F.length cu F wr hRF (rb_ok HRB.out (by omega)) (by omega) (by omega))
      obtain ⟨bad, hbad⟩ : ∃ bad, (bad = true ∧ 0 < cur.length) ∨ (bad = true ∧ cur.length = 0 ∧ (F.length : Int) ≠ m) ∨ (cur.length = 0 ∧ (F.length : Int) = m ∧ rightF v F = !bad) := by
        by_cases h0 : cur.length = 0
        · by_cases h1 : (F.length : Int) = m
          · exact ⟨!rightF v F, .inr (.inr ⟨h0, h1, by simp⟩)⟩
          · exact ⟨true, .inr (.inl ⟨rfl, h0, h1⟩)⟩
        · exact ⟨true, .inl ⟨rfl, by omega⟩⟩
      have HBD := Lib.hid hbad
      clear hbad hRF HRS HRB HOcb HOFb HFrb HKb HBb hlt
      have HFL : Hid (∃ fl, fl = F.length) := ⟨_, rfl⟩
      generalize hcn : cur.length = cn at *
      have HCN := Lib.hid hcn
      clear hcn
      have c0 := HFr.out.c0
      have c1 := HFr.out.c1
      go_upto_region 22 with (fail)
      go_cut [99] (fun t wx => t = .bool bad ∧ Hid (Below wr.heap.size wr wx))
      case first =>
        rcases HBD.out with ⟨rfl, h0⟩ | ⟨rfl, h0, h1⟩ | ⟨h0, h1, h2⟩
        · have d1 : decide (0 < cn) = true := decide_eq_true h0
          have d2 : decide (0 < (cn : Int)) = true := decide_eq_true (by omega)
          go_wp2_with fail
          go_meet
          exact ⟨rfl, Below.refl _ _⟩
        · have d3 : ((F.length : Int) != m) = true := by rw [bne_iff_ne]; exact h1
          subst h0
          clear h1
          go_wp2_with fail
          go_meet
          exact ⟨rfl, Below.refl _ _⟩
        · have d3 : ((F.length : Int) != m) = false := by rw [bne, h1]; simp
          subst h0
          clear h1
          rw [h2] at HRI
          clear h2
          go_wp2_with fail
          refine HRI.out.mono ?_
          rintro e w6 ⟨rfl, hB6⟩
          have HB6 := Lib.hid hB6
          clear hB6
          go_wp2_with fail
          go_meet
          exact ⟨by simp, HB6.out⟩
      case rest =>
      obtain ⟨rfl, hB6⟩ := hcut
      clear c0 c1 HRI
      have HBx : Hid (Below w.heap.size w wc) := HBw.out.trans (hB6.out.mono (by omega))
      have HRx : Hid (wc.heap[w.heap.size]? = some (.cells #[.int .i64 0, .slice none 0 0] 24 (0, 0))) := (hB6.out.block _ (by omega)).trans HRw.out
      have hFx : FrmAt fb v (.slice Au F.length cu) wc := HFr.out.kept (g := fb + 1) (Kept.of hB6.out) (by omega)
      cases bad
      case true =>
        have HF : Hid (formulaOf ws = none) := by
          unfold Hid
          rw [HE.out, if_neg]
          rintro ⟨h1, h2, h3⟩
          rcases HBD.out with ⟨_, h⟩ | ⟨_, _, h⟩ | ⟨_, _, h⟩
          · rw [← HCN.out, h1] at h; simp at h
          · exact h h2
          · rw [h3] at h; cases h
        clear hFx
        have hb := HRx.out
        have s0 : wc.cell? ⟨w.heap.size, 0, none⟩ = some (.int .i64 0) := by rw [Lib.cell_of_heap hb]; rfl
        have s1 : wc.cell? ⟨w.heap.size, 1, none⟩ = some (.slice none 0 0) := by rw [Lib.cell_of_heap hb]; rfl
        have sf := Lib.frozen_of_heap hb
        have hq := two_set hb (.int .i64 0) (.slice none 0 0)
        have p0 : ((wc.setCell ⟨w.heap.size, 0, none⟩ (.int .i64 0)).setCell ⟨w.heap.size, 1, none⟩ (.slice none 0 0)).cell? ⟨w.heap.size, 0, none⟩ = some (.int .i64 0) := by rw [Lib.cell_of_heap hq]; rfl
        have p1 : ((wc.setCell ⟨w.heap.size, 0, none⟩ (.int .i64 0)).setCell ⟨w.heap.size, 1, none⟩ (.slice none 0 0)).cell? ⟨w.heap.size, 1, none⟩ = some (.slice none 0 0) := by rw [Lib.cell_of_heap hq]; rfl
        have HBZ : Hid (Below w.heap.size w ((wc.setCell ⟨w.heap.size, 0, none⟩ (.int .i64 0)).setCell ⟨w.heap.size, 1, none⟩ (.slice none 0 0))) := (HBx.out.setCell (p := ⟨w.heap.size, 0, none⟩) (by simp) _).setCell (p := ⟨w.heap.size, 1, none⟩) (by simp) _
        clear hb hq
        go_wp2_with fail
        refine bodyPost_ret (v := .tuple #[.agg #[.int .i64 0, .slice none 0 0], .int .i64 22]) (by simp [results, Tryz.results15, go_sem, p0, p1]) rfl ?_
        exact ⟨HBZ.out, .inr ⟨HF.out, rfl⟩⟩
      case false =>
        have HF : Hid (formulaOf ws = some (v, F)) := by
          unfold Hid
          rcases HBD.out with ⟨h, _⟩ | ⟨h, _⟩ | ⟨h1, h2, h3⟩
          · cases h
          · cases h
          · rw [HE.out, if_pos ⟨List.length_eq_zero_iff.1 (by rw [HCN.out]; exact h1), h2, h3⟩]
        have f0 := hFx.c0
        have f1 := hFx.c1
        have HO6 := HOF.out.kept (g := fb) (Kept.of hB6.out) hfb1
        have HO8 := Lib.hid ((HO6.kept (Kept.set (w := wc) (g := w.heap.size) (j := 0) (.int .i64 v)) (by omega)).kept (Kept.set (g := w.heap.size) (j := 1) (.slice Au F.length cu)) (by omega))
        have HRF : Hid (RdF ((wc.setCell ⟨w.heap.size, 0, none⟩ (.int .i64 v)).setCell ⟨w.heap.size, 1, none⟩ (.slice Au F.length cu)) ((wc.setCell ⟨w.heap.size, 0, none⟩ (.int .i64 v)).setCell ⟨w.heap.size, 1, none⟩ (.slice Au F.length cu)).heap.size Au F.length F) := by
          obtain ⟨A9, c9, h9, hR9⟩ := HO8.out.form
          injection h9 with h91 h92 h93
          subst h91
          exact hR9
        clear hFx HO6 HO8
        have hb := HRx.out
        have s0 : wc.cell? ⟨w.heap.size, 0, none⟩ = some (.int .i64 0) := by rw [Lib.cell_of_heap hb]; rfl
        have s1 : wc.cell? ⟨w.heap.size, 1, none⟩ = some (.slice none 0 0) := by rw [Lib.cell_of_heap hb]; rfl
        have sf := Lib.frozen_of_heap hb
        have hq := two_set hb (.int .i64 v) (.slice Au F.length cu)
        have p0 : ((wc.setCell ⟨w.heap.size, 0, none⟩ (.int .i64 v)).setCell ⟨w.heap.size, 1, none⟩ (.slice Au F.length cu)).cell? ⟨w.heap.size, 0, none⟩ = some (.int .i64 v) := by rw [Lib.cell_of_heap hq]; rfl
        have p1 : ((wc.setCell ⟨w.heap.size, 0, none⟩ (.int .i64 v)).setCell ⟨w.heap.size, 1, none⟩ (.slice Au F.length cu)).cell? ⟨w.heap.size, 1, none⟩ = some (.slice Au F.length cu) := by rw [Lib.cell_of_heap hq]; rfl
        have HBZ : Hid (Below w.heap.size w ((wc.setCell ⟨w.heap.size, 0, none⟩ (.int .i64 v)).setCell ⟨w.heap.size, 1, none⟩ (.slice Au F.length cu))) := (HBx.out.setCell (p := ⟨w.heap.size, 0, none⟩) (by simp) _).setCell (p := ⟨w.heap.size, 1, none⟩) (by simp) _
        clear hb hq
        go_wp2_with fail
        refine bodyPost_ret (v := .tuple #[.agg #[.int .i64 v, .slice Au F.length cu], .int .i64 0]) (by simp [results, Tryz.results15, go_sem, p0, p1]) rfl ?_
        exact ⟨HBZ.out, .inl ⟨v, F, Au, F.length, cu, HF.out, rfl, HRF.out⟩⟩
end Go.Proofs.YtcfbnddoknpehaaGreatDoor
