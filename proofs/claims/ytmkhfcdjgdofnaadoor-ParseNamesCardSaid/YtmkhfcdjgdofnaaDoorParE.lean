/- Package parse: values. -/
import Derived.Test.YtmkhfcdjgdofnaaDoorParD
import Derived.Deep.CutBlock
namespace Go.Proofs.YtmkhfcdjgdofnaaDoor
open Go.RowKit TreM WrdM ParM

theorem val_cases (n o : Nat) (t : Tok) (r : List Tok) (h : t.text ≠ [40]) : valueR (n + 1) o (t :: r) =
    if t.kind = 2 then .ok (.mk 1 t.num [] [] t.line t.col) r else if t.kind = 1 then .ok (.mk 3 0 t.text [] t.line t.col) r else if t.text = fal then .ok (.mk 2 0 [] [] t.line t.col) r
    else if t.text = tru then .ok (.mk 2 1 [] [] t.line t.col) r else .bad t.line t.col := by rw [valueR, if_neg h]
theorem tok_of {L : List Tok} {t : Tok} {r : List Tok} (h : EndsT L) (e : L = t :: r) : TokOk t := by subst e; exact h.1
theorem list_is (s p : List UInt8) : ((⟨s.toArray⟩ : ByteArray).toList == p) = decide (s = p) := by
  rw [Lib.toList_data, Bool.eq_iff_iff, beq_iff_eq, decide_eq_true_eq]

theorem kg_one {k : Nat} {w : World} (i : Nat) (v : Value) : Kg k w (w.setCell ⟨k, i, none⟩ v) := Kf.set (F := fun j => j = k) (p := ⟨k, i, none⟩) (Kf.refl _ w) (.inl rfl) _
theorem kg_two {k : Nat} {w : World} (i j : Nat) (u v : Value) : Kg k w ((w.setCell ⟨k, i, none⟩ u).setCell ⟨k, j, none⟩ v) := (kg_one i u).trans' (kg_one j v)

set_option maxHeartbeats 6400000 in
set_option maxRecDepth 100000 in
theorem val_any (n : Nat) (hE : ExprC n) : ValC (n + 1) := by
  intro g o L w hG hg h hn ho
  have hlt := h.lt
  obtain ⟨t, r, rfl⟩ := ends_cons h.ends
  rw [List.length_cons] at hn
  obtain ⟨wa, hwa⟩ : ∃ wa, wa = w.alloc (.cells z6 24) := ⟨_, rfl⟩
  have hba : Below w.heap.size w wa := by rw [hwa]; exact below_alloc w _
  have hna : wa.heap[w.heap.size]? = some (.cells z6 24 (0, 0)) := by rw [hwa]; exact blk_new w _
  have hza : wa.heap.size = w.heap.size + 1 := by rw [hwa]; simp
  have hra := h.below hba
  have hGa : PrG wa := hG.below hba (Nat.le_of_lt (Nat.lt_of_le_of_lt hg hlt))
  have HI := Lib.hid (is_any [40] wa hra)
  have HNA : Hid (∀ W, Kg g wa W → W.heap[w.heap.size]? = some (.cells z6 24 (0, 0)) ∧ w.heap.size + 1 ≤ W.heap.size) := fun W hW =>
    ⟨(hW.block _ (by omega) (by omega)).trans hna, by have := hW.size; omega⟩
  have HKA : Hid (Kg g w wa) := Kg.of_below hba
  have HL := Lib.hid hlt
  have HWA := Lib.hid hwa
  have HRA := Lib.hid hra
  have HTOK := Lib.hid (tok_of h.ends rfl)
  by_cases h40 : t.text = [40]
  · have HB := Lib.hid (brk_any n hE g o t r wa hGa hg hra (by omega) ho h40)
    rw [decide_eq_true h40] at HI
    obtain ⟨R, hRR⟩ : ∃ R, R = valueR (n + 1) o (t :: r) := ⟨_, rfl⟩
    rw [← hRR] at HB ⊢
    clear hwa hRR h hba hna hza hra hG hGa h40
    go_enter Tryd.func71, Tryd.ntmps71
    go_upto_region 1 with (fail)
    have hwa := HWA.out
    unfold z6 at hwa
    rw [← hwa]
    clear hwa HWA
    go_wp2_with fail
    refine HI.out.mono ?_
    rintro e w1 ⟨rfl, rfl⟩
    go_wp2_with fail
    refine HB.out.mono ?_
    intro e w2 hp
    clear HB HI
    rcases R with ⟨l, c⟩ | ⟨x, r3⟩
    · obtain ⟨rfl, hb⟩ := hp
      refine ⟨rfl, ?_⟩
      show PTo _ _ _ _ _ _ _
      exact ⟨rfl, (HKA.out.low HL.out).trans hb⟩
    obtain ⟨⟨v, rfl, hv⟩, hr3, hk3⟩ := hp
    obtain ⟨vo, vn, vs, va, vm, vk, vl, vc, rfl⟩ := exv_form hv.val
    have hq0 := (HNA.out w2 hk3).1
    have hzz := (HNA.out wa (Kf.refl _ _)).2
    have uf := Lib.frozen_of_heap hq0
    obtain ⟨p0, p1, p2, p3, p4, p5⟩ := cells6 hq0
    have hq := psix_set hq0 (.int .i64 vo) (.int .i64 vn) (.string vs) (.slice va vm vk) (.int .i64 vl) (.int .i64 vc)
    obtain ⟨q0, q1, q2, q3, q4, q5⟩ := cells6 hq
    have HV := Lib.hid hv
    have HR6 := Lib.hid hr3
    have HK6 : Hid (Kg g w w2) := HKA.out.trans' hk3
    clear hr3 hk3 hq0 hq hv
    go_wp2_with fail
    refine bodyPost_ret (v := .agg #[.int .i64 vo, .int .i64 vn, .string vs, .slice va vm vk, .int .i64 vl, .int .i64 vc]) (by simp [results, Tryd.results71, go_sem, q0, q1, q2, q3, q4, q5]) rfl ?_
    show PTo _ _ _ _ _ _ _
    exact ⟨REx.of HV.out (kf_six _ _ _ _ _ _ _ _) (by omega) (by omega), HR6.out.high (kf_six _ _ _ _ _ _ _ _) HL.out, HK6.out.of_high (kf_six _ _ _ _ _ _ _ _) (Nat.le_refl _)⟩
  -- no bracket
  have HRV := Lib.hid (val_cases n o t r h40)
  rw [decide_eq_false h40] at HI
  have HA := Lib.hid (ahead_any wa hra)
  have HF := Lib.hid (fail_any t)
  have HEN := Lib.hid h.ends
  have hl0 := HTOK.out.l0
  have hl1 := HTOK.out.l1
  have hc0 := HTOK.out.c0
  have hc1 := HTOK.out.c1
  have HXL : Hid (∀ (D : Nat → Prop) (W : World) (vo vn : Int) (s : List UInt8), 0 ≤ vo → vo ≤ 1000000 → 0 ≤ vn → vn ≤ 1000000 → s.length ≤ 32 → ExD D W (.mk vo vn s [] t.line t.col) (.agg #[.int .i64 vo, .int .i64 vn, .string ⟨s.toArray⟩, .slice none 0 0, .int .i64 t.line, .int .i64 t.col])) := fun D W vo vn s h1 h2 h3 h4 h5 =>
    ExD.leaf ⟨wf_in (by omega) (by omega), wf_in (by omega) (by omega), wf_in (by omega) (by omega), wf_in (by omega) (by omega)⟩ (by omega)
  have HE1 : Hid (t.text = fal ∨ t.text = tru ∨ t.kind = 1 ∨ t.kind = 2 → EndsT r) := fun hh => by
    rcases hh with hh | hh | hh | hh
    · exact ends_text h.ends hh (by decide)
    · exact ends_text h.ends hh (by decide)
    · exact ends_kind h.ends (by rw [hh]; decide)
    · exact ends_kind h.ends (by rw [hh]; decide)
  have hcf := list_is t.text fal
  have hct := list_is t.text tru
  have hk2 : (t.kind == 2) = decide (t.kind = 2) := by rw [Bool.eq_iff_iff, beq_iff_eq, decide_eq_true_eq]
  have hk1 : (t.kind == 1) = decide (t.kind = 1) := by rw [Bool.eq_iff_iff, beq_iff_eq, decide_eq_true_eq]
  unfold fal at hcf
  unfold tru at hct
  have HQ1 : Hid (∀ b : Bool, decide (t.kind = 2) = b → (b = true → t.kind = 2) ∧ (b = false → ¬ t.kind = 2)) := fun b e => ⟨fun h => of_decide_eq_true (e.trans h), fun h => of_decide_eq_false (e.trans h)⟩
  have HQ2 : Hid (∀ b : Bool, decide (t.kind = 1) = b → (b = true → t.kind = 1) ∧ (b = false → ¬ t.kind = 1)) := fun b e => ⟨fun h => of_decide_eq_true (e.trans h), fun h => of_decide_eq_false (e.trans h)⟩
  have HQ3 : Hid (∀ b : Bool, decide (t.text = [102, 97, 108, 115, 101]) = b → (b = true → t.text = fal) ∧ (b = false → ¬ t.text = fal)) := fun b e => ⟨fun h => of_decide_eq_true (e.trans h), fun h => of_decide_eq_false (e.trans h)⟩
  have HQ4 : Hid (∀ b : Bool, decide (t.text = [116, 114, 117, 101]) = b → (b = true → t.text = tru) ∧ (b = false → ¬ t.text = tru)) := fun b e => ⟨fun h => of_decide_eq_true (e.trans h), fun h => of_decide_eq_false (e.trans h)⟩
  obtain ⟨z1, hz1⟩ : ∃ b, b = decide (t.kind = 2) := ⟨_, rfl⟩
  obtain ⟨z2, hz2⟩ : ∃ b, b = decide (t.kind = 1) := ⟨_, rfl⟩
  obtain ⟨z3, hz3⟩ : ∃ b, b = decide (t.text = [102, 97, 108, 115, 101]) := ⟨_, rfl⟩
  obtain ⟨z4, hz4⟩ : ∃ b, b = decide (t.text = [116, 114, 117, 101]) := ⟨_, rfl⟩
  have HC1 := Lib.hid (HQ1.out z1 hz1.symm)
  have HC2 := Lib.hid (HQ2.out z2 hz2.symm)
  have HC3 := Lib.hid (HQ3.out z3 hz3.symm)
  have HC4 := Lib.hid (HQ4.out z4 hz4.symm)
  rw [← hz1] at hk2
  rw [← hz2] at hk1
  rw [← hz3] at hcf
  rw [← hz4] at hct
  obtain ⟨R, hRR⟩ : ∃ R, R = valueR (n + 1) o (t :: r) := ⟨_, rfl⟩
  rw [← hRR] at HRV ⊢
  have htc : (tokC t).toArray = #[.int .i64 t.kind, .string ⟨t.text.toArray⟩, .int .i64 t.num, .int .i64 t.line, .int .i64 t.col] := rfl
  rw [htc] at HA HF
  obtain ⟨sb, hsb⟩ : ∃ sb : ByteArray, sb = ⟨t.text.toArray⟩ := ⟨_, rfl⟩
  have HSB := Lib.hid hsb
  rw [← hsb] at HA HF hcf hct
  clear hwa hRR h hba hna hza hra hG hGa h40 htc hsb hz1 hz2 hz3 hz4 HQ1 HQ2 HQ3 HQ4
  go_enter Tryd.func71, Tryd.ntmps71
  go_upto_region 1 with (fail)
  have hwa := HWA.out
  unfold z6 at hwa
  rw [← hwa]
  clear hwa HWA
  go_wp2_with fail
  refine HI.out.mono ?_
  rintro e w1 ⟨rfl, rfl⟩
  go_wp2_with fail
  refine HA.out.mono ?_
  rintro e w1 ⟨rfl, hb1⟩
  have HB1 := Lib.hid hb1
  clear hb1 HA HI
  obtain ⟨wt, hwt⟩ : ∃ wt, wt = w1.alloc (.cells #[.int .i64 t.kind, .string sb, .int .i64 t.num, .int .i64 t.line, .int .i64 t.col] 71) := ⟨_, rfl⟩
  have hbt : Below w1.heap.size w1 wt := by rw [hwt]; exact below_alloc w1 _
  have hnt : wt.heap[w1.heap.size]? = some (.cells #[.int .i64 t.kind, .string sb, .int .i64 t.num, .int .i64 t.line, .int .i64 t.col] 71 (0, 0)) := by rw [hwt]; exact blk_new w1 _
  have hzt : wt.heap.size = w1.heap.size + 1 := by rw [hwt]; simp
  obtain ⟨s0, s1, s2, s3, s4⟩ := cells5 hnt
  have HWT := Lib.hid hwt
  clear hwt
  go_upto_region 4 with (fail)
  have hwt := HWT.out
  rw [← hwt]
  clear hwt HWT
  obtain ⟨wx, hwx⟩ : ∃ wx, wx = wt.alloc (.cells #[.int .i64 0, .int .i64 0, .string ⟨#[]⟩, .slice none 0 0, .int .i64 t.line, .int .i64 t.col] 24) := ⟨_, rfl⟩
  have hbx : Below wt.heap.size wt wx := by rw [hwx]; exact below_alloc wt _
  have hnx : wx.heap[wt.heap.size]? = some (.cells #[.int .i64 0, .int .i64 0, .string ⟨#[]⟩, .slice none 0 0, .int .i64 t.line, .int .i64 t.col] 24 (0, 0)) := by rw [hwx]; exact blk_new wt _
  have hzx : wx.heap.size = wt.heap.size + 1 := by rw [hwx]; simp
  have HWX := Lib.hid hwx
  have HBX : Hid (Below wa.heap.size wa wx) := HB1.out.trans ((hbt.trans (hbx.mono hbt.size)).mono HB1.out.size)
  have hntx := (hbx.block w1.heap.size (by omega)).trans hnt
  have HNX := Lib.hid hnx
  have HNT := Lib.hid hntx
  have HZT := Lib.hid hzt
  have HZX := Lib.hid hzx
  clear hwx hbt hnt hzt hbx hnx hzx hntx
  go_upto_block 0 with (fail)
  have hwx := HWX.out
  rw [← hwx]
  clear hwx HWX s0 s1 s2 s3 s4
  obtain ⟨s0, s1, s2, s3, s4⟩ := cells5 HNT.out
  obtain ⟨x0, x1, x2, x3, x4, x5⟩ := cells6 HNX.out
  have uf := Lib.frozen_of_heap HNX.out
  go_cut [] (fun wy => ∃ (X : Ex) (vo vn : Int) (vs : ByteArray), Hid (R = .ok X r ∧ EndsT r) ∧ Hid (wy.heap[wt.heap.size]? = some (.cells #[.int .i64 vo, .int .i64 vn, .string vs, .slice none 0 0, .int .i64 t.line, .int .i64 t.col] 24 (0, 0))) ∧ Hid (∀ (D : Nat → Prop) (W : World), ExD D W X (.agg #[.int .i64 vo, .int .i64 vn, .string vs, .slice none 0 0, .int .i64 t.line, .int .i64 t.col])) ∧ Hid (Kg wt.heap.size wx wy))
  case first =>
    rcases z1 with _ | _
    · rcases z2 with _ | _
      · rcases z3 with _ | _
        · rcases z4 with _ | _
          · have HR : Hid (R = .bad t.line t.col) := by unfold Hid; rw [HRV.out, if_neg (HC1.out.2 rfl), if_neg (HC2.out.2 rfl), if_neg (HC3.out.2 rfl), if_neg (HC4.out.2 rfl)]
            clear HC1 HC2 HC3 HC4
            go_wp2_with fail
            refine (HF.out _).mono ?_
            rintro e w3 ⟨rfl, hb⟩
            refine ⟨rfl, ?_⟩
            show PTo _ _ _ _ _ _ _
            rw [HR.out]
            exact ⟨rfl, (HKA.out.low HL.out).trans ((HBX.out.trans (hb.mono HBX.out.size)).mono (by have := (HNA.out wa (Kf.refl _ _)).2; have := HL.out; omega))⟩
          · have HR : Hid (R = .ok (.mk 2 1 [] [] t.line t.col) r ∧ EndsT r) := ⟨by rw [HRV.out, if_neg (HC1.out.2 rfl), if_neg (HC2.out.2 rfl), if_neg (HC3.out.2 rfl), if_pos (HC4.out.1 rfl)], HE1.out (.inr (.inl (HC4.out.1 rfl)))⟩
            clear HC1 HC2 HC3 HC4
            go_wp2_with fail
            go_meet
            exact ⟨_, 2, 1, ⟨#[]⟩, HR, by rw [Lib.heap_setCell_same (Lib.heap_setCell_same HNX.out _) _]; rfl, fun D W => HXL.out D W 2 1 [] (by omega) (by omega) (by omega) (by omega) (by simp), kg_two _ _ _ _⟩
        · have HR : Hid (R = .ok (.mk 2 0 [] [] t.line t.col) r ∧ EndsT r) := ⟨by rw [HRV.out, if_neg (HC1.out.2 rfl), if_neg (HC2.out.2 rfl), if_pos (HC3.out.1 rfl)], HE1.out (.inl (HC3.out.1 rfl))⟩
          clear HC1 HC2 HC3 HC4
          go_wp2_with fail
          go_meet
          exact ⟨_, 2, 0, ⟨#[]⟩, HR, by rw [Lib.heap_setCell_same HNX.out _]; rfl, fun D W => HXL.out D W 2 0 [] (by omega) (by omega) (by omega) (by omega) (by simp), kg_one _ _⟩
      · have HR : Hid (R = .ok (.mk 3 0 t.text [] t.line t.col) r ∧ EndsT r) := ⟨by rw [HRV.out, if_neg (HC1.out.2 rfl), if_pos (HC2.out.1 rfl)], HE1.out (.inr (.inr (.inl (HC2.out.1 rfl))))⟩
        have HXV : Hid (∀ (D : Nat → Prop) (W : World), ExD D W (.mk 3 0 t.text [] t.line t.col) (.agg #[.int .i64 3, .int .i64 0, .string sb, .slice none 0 0, .int .i64 t.line, .int .i64 t.col])) := fun D W => by rw [HSB.out]; exact HXL.out D W 3 0 t.text (by omega) (by omega) (by omega) (by omega) HTOK.out.text
        clear HC1 HC2 HC3 HC4
        go_wp2_with fail
        go_region
        all_goals go_wp2_with fail
        all_goals go_meet
        all_goals exact ⟨_, 3, 0, sb, HR, by
          show ((wx.setCell _ _).setCell _ _).heap[wt.heap.size]? = _
          rw [Lib.heap_setCell_same (Lib.heap_setCell_same HNX.out _) _]; rfl, HXV.out, (kg_two _ _ _ _).drew⟩
    · have HR : Hid (R = .ok (.mk 1 t.num [] [] t.line t.col) r ∧ EndsT r) := ⟨by rw [HRV.out, if_pos (HC1.out.1 rfl)], HE1.out (.inr (.inr (.inr (HC1.out.1 rfl))))⟩
      have HXV : Hid (∀ (D : Nat → Prop) (W : World), ExD D W (.mk 1 t.num [] [] t.line t.col) (.agg #[.int .i64 1, .int .i64 t.num, .string ⟨#[]⟩, .slice none 0 0, .int .i64 t.line, .int .i64 t.col])) := fun D W => HXL.out D W 1 t.num [] (by omega) (by omega) HTOK.out.n0 HTOK.out.n1 (by simp)
      clear HC1 HC2 HC3 HC4
      go_wp2_with fail
      go_region
      all_goals go_wp2_with fail
      all_goals go_meet
      all_goals exact ⟨_, 1, t.num, ⟨#[]⟩, HR, by
        show ((wx.setCell _ _).setCell _ _).heap[wt.heap.size]? = _
        rw [Lib.heap_setCell_same (Lib.heap_setCell_same HNX.out _) _]; rfl, HXV.out, (kg_two _ _ _ _).drew⟩
  case rest =>
    obtain ⟨X, vo, vn, vs, HR, HNY, HXD, HKY⟩ := hcut
    have hzt := HZT.out
    have hzx := HZX.out
    have hwa2 := (HNA.out wa (Kf.refl _ _)).2
    have hb1s := HB1.out.size
    have hlt2 := HL.out
    have hrc : Rdr wc g (t :: r) o := (HRA.out.below HBX.out).high HKY.out (by omega)
    have HT := Lib.hid (take_any wc hrc HR.out.2)
    have HKC : Hid (Kg g wa wc) := (Kg.of_below HBX.out).of_high HKY.out (by omega)
    have HHK : Hid (wx.heap.size ≤ wc.heap.size) := HKY.out.size
    have HEZ : Hid (wt.heap.size < wx.heap.size ∧ g < wt.heap.size ∧ wa.heap.size ≤ wt.heap.size ∧ w.heap.size < wa.heap.size) := ⟨by omega, by omega, by omega, by omega⟩
    clear hrc s0 s1 s2 s3 s4 x0 x1 x2 x3 x4 x5 uf hzt hzx hwa2 hb1s HC1 HC2 HC3 HC4 HE1 HXL HF hcf hct hk1 hk2
    go_wp2_with fail
    refine HT.out.mono ?_
    rintro e w3 ⟨rfl, hr3, hk3⟩
    obtain ⟨ez1, ez2, ez3, ez4⟩ := HEZ.out
    have hsz := HHK.out
    have hn3 := (hk3.block wt.heap.size (by omega) (by omega)).trans HNY.out
    obtain ⟨s0, s1, s2, s3, s4, s5⟩ := cells6 hn3
    have hka3 : Kg g wa w3 := HKC.out.trans' hk3
    have hq0 := (HNA.out w3 hka3).1
    have uf := Lib.frozen_of_heap hq0
    obtain ⟨p0, p1, p2, p3, p4, p5⟩ := cells6 hq0
    have hq := psix_set hq0 (.int .i64 vo) (.int .i64 vn) (.string vs) (.slice none 0 0) (.int .i64 t.line) (.int .i64 t.col)
    obtain ⟨q0, q1, q2, q3, q4, q5⟩ := cells6 hq
    have HR6 := Lib.hid hr3
    have HK6 : Hid (Kg g w w3) := HKA.out.trans' hka3
    clear hr3 hk3 hn3 hka3 hq0 hq HT ez1 ez2 ez3 ez4 hsz
    go_wp2_with fail
    refine bodyPost_ret (v := .agg #[.int .i64 vo, .int .i64 vn, .string vs, .slice none 0 0, .int .i64 t.line, .int .i64 t.col]) (by simp [results, Tryd.results71, go_sem, q0, q1, q2, q3, q4, q5]) rfl ?_
    show PTo _ _ _ _ _ _ _
    rw [HR.out.1]
    exact ⟨⟨_, rfl, HXD.out _ _⟩, HR6.out.high (kf_six _ _ _ _ _ _ _ _) HL.out, HK6.out.of_high (kf_six _ _ _ _ _ _ _ _) (Nat.le_refl _)⟩
end Go.Proofs.YtmkhfcdjgdofnaaDoor
