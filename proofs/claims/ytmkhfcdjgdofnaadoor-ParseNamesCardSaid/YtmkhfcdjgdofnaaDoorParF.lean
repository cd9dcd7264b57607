/- Package parse: signs ahead of values. -/
import Derived.Test.YtmkhfcdjgdofnaaDoorParE
namespace Go.Proofs.YtmkhfcdjgdofnaaDoor
open Go.RowKit TreM WrdM ParM

theorem signO_in (s : List UInt8) : ∀ (n : Nat) (a : Int), 1 ≤ a → signO s n a = 0 ∨ (a ≤ signO s n a ∧ signO s n a < a + n ∧ signE (signO s n a) = s)
  | 0, a, _ => .inl rfl
  | n + 1, a, ha => by
    rw [signO]
    by_cases h : signE a == s
    · rw [if_pos h]
      exact .inr ⟨by omega, by omega, by simpa using h⟩
    · rw [if_neg h]
      rcases signO_in s n (a + 1) (by omega) with h1 | ⟨h1, h2, h3⟩
      · exact .inl h1
      · exact .inr ⟨by omega, by omega, h3⟩
theorem signE_ne (j : Nat) (h5 : 5 ≤ j) (h : j < 31) : signE (j : Int) ≠ [] := by
  have : ∀ j : Nat, j < 31 → 5 ≤ j → signE (j : Int) ≠ [] := by decide
  exact this j h h5
theorem sign_text {s : List UInt8} {n : Nat} {a : Int} (ha : 5 ≤ a) (hn : a + n ≤ 31) (h : signO s n a ≠ 0) : s ≠ [] ∧ a ≤ signO s n a ∧ signO s n a < a + n := by
  rcases signO_in s n a (by omega) with h1 | ⟨h1, h2, h3⟩
  · exact absurd h1 h
  · refine ⟨fun e => ?_, h1, h2⟩
    obtain ⟨j, hj⟩ := Int.eq_ofNat_of_zero_le (show 0 ≤ signO s n a by omega)
    rw [hj] at h1 h2 h3
    exact signE_ne j (by omega) (by omega) (h3.trans e)

set_option maxHeartbeats 6400000 in
set_option maxRecDepth 100000 in
theorem pref_any (n : Nat) (hP : PrefC n) (hV : ValC n) : PrefC (n + 1) := by
  intro g o L w hG hg h hn ho
  have hlt := h.lt
  obtain ⟨t, r, rfl⟩ := ends_cons h.ends
  rw [List.length_cons] at hn
  obtain ⟨wa, hwa⟩ : ∃ wa, wa = w.alloc (.cells z6 24) := ⟨_, rfl⟩
  have hba : Below w.heap.size w wa := by rw [hwa]; exact below_alloc w _
  have hna : wa.heap[w.heap.size]? = some (.cells z6 24 (0, 0)) := by rw [hwa]; exact blk_new w _
  have hza : wa.heap.size = w.heap.size + 1 := by rw [hwa]; simp
  have hra := h.below hba
  have hGa : PrG wa := hG.below hba (Nat.le_of_lt (Nat.lt_of_le_of_lt hg hlt))
  have HA := Lib.hid (ahead_any wa hra)
  have HNA : Hid (∀ W, Kg g wa W → W.heap[w.heap.size]? = some (.cells z6 24 (0, 0)) ∧ w.heap.size + 1 ≤ W.heap.size) := fun W hW =>
    ⟨(hW.block _ (by omega) (by omega)).trans hna, by have := hW.size; omega⟩
  have HKA : Hid (Kg g w wa) := Kg.of_below hba
  have HL := Lib.hid hlt
  have HWA := Lib.hid hwa
  have HRA := Lib.hid hra
  have HTOK := Lib.hid (tok_of h.ends rfl)
  have HGG : Hid (∀ W, Kg g wa W → PrG W) := fun W hW => hGa.below (hW.low (by omega)) hg
  have HEN := Lib.hid h.ends
  have HSG : Hid (∀ W, PrG W → Calls Tryd.prog 46 #[.string ⟨t.text.toArray⟩, .int .i64 5, .int .i64 13] W fun e w' => e = .returned (.int .i64 (preO t.text)) ∧ W = w') := fun W hW => signed_any t.text 5 9 13 (by decide) (by decide) (by decide) (by decide) W hW
  have HRV : Hid (prefR (n + 1) o (t :: r) = if preO t.text = 0 then valueR n o (t :: r) else if 60 ≤ o then failR r else (prefR n (o + 1) r).bind fun x r2 => .ok (.mk (preO t.text) 0 [] [x] t.line t.col) r2) := by unfold Hid; rw [prefR]
  have HPO : Hid (preO t.text ≠ 0 → t.text ≠ [] ∧ 5 ≤ preO t.text ∧ preO t.text < 5 + (9 : Nat)) := fun hh => sign_text (by decide) (by decide) hh
  obtain ⟨R, hRR⟩ : ∃ R, R = prefR (n + 1) o (t :: r) := ⟨_, rfl⟩
  rw [← hRR] at HRV ⊢
  have htc : (tokC t).toArray = #[.int .i64 t.kind, .string ⟨t.text.toArray⟩, .int .i64 t.num, .int .i64 t.line, .int .i64 t.col] := rfl
  rw [htc] at HA
  obtain ⟨sb, hsb⟩ : ∃ sb : ByteArray, sb = ⟨t.text.toArray⟩ := ⟨_, rfl⟩
  rw [← hsb] at HA HSG
  have hb0 : (preO t.text == 0) = decide (preO t.text = 0) := by rw [Bool.eq_iff_iff, beq_iff_eq, decide_eq_true_eq]
  have HB0 : Hid ((decide (preO t.text = 0) = true → preO t.text = 0) ∧ (decide (preO t.text = 0) = false → ¬ preO t.text = 0)) := ⟨fun h => of_decide_eq_true h, fun h => of_decide_eq_false h⟩
  obtain ⟨p, hp⟩ : ∃ p, p = preO t.text := ⟨_, rfl⟩
  rw [← hp] at HSG HRV HPO hb0 HB0
  generalize decide (p = 0) = z at *
  clear hwa hRR h hba hna hza hra hG hGa htc hsb hp
  go_enter Tryd.func45, Tryd.ntmps45
  go_upto_region 1 with (fail)
  have hwa := HWA.out
  unfold z6 at hwa
  rw [← hwa]
  clear hwa HWA
  go_wp2_with fail
  refine HA.out.mono ?_
  rintro e w1 ⟨rfl, hb1⟩
  have HB1 := Lib.hid hb1
  clear hb1 HA
  obtain ⟨wt, hwt⟩ : ∃ wt, wt = w1.alloc (.cells #[.int .i64 t.kind, .string sb, .int .i64 t.num, .int .i64 t.line, .int .i64 t.col] 71) := ⟨_, rfl⟩
  have hbt : Below w1.heap.size w1 wt := by rw [hwt]; exact below_alloc w1 _
  have hnt : wt.heap[w1.heap.size]? = some (.cells #[.int .i64 t.kind, .string sb, .int .i64 t.num, .int .i64 t.line, .int .i64 t.col] 71 (0, 0)) := by rw [hwt]; exact blk_new w1 _
  have hzt : wt.heap.size = w1.heap.size + 1 := by rw [hwt]; simp
  obtain ⟨s0, s1, s2, s3, s4⟩ := cells5 hnt
  have HWT := Lib.hid hwt
  have HBT : Hid (Below wa.heap.size wa wt) := HB1.out.trans (hbt.mono HB1.out.size)
  have HNT := Lib.hid hnt
  have HZT := Lib.hid hzt
  have HKT : Hid (Kg g wa wt) := Kg.of_below HBT.out
  have HS1 := Lib.hid (HSG.out wt (HGG.out wt HKT.out))
  clear hwt hbt hnt hzt HSG
  go_upto_region 2 with (fail)
  have hwt := HWT.out
  rw [← hwt]
  clear hwt HWT
  go_wp2_with fail
  refine HS1.out.mono ?_
  rintro e w2 ⟨rfl, rfl⟩
  clear HS1
  rcases z with _ | _
  · have HPZ := Lib.hid (HB0.out.2 rfl)
    obtain ⟨htx, hp5, hp13⟩ := HPO.out HPZ.out
    have hER := ends_text HEN.out rfl htx
    have HT := Lib.hid (take_any wt (HRA.out.below HBT.out) hER)
    obtain ⟨t2, r2, hrr⟩ := ends_cons hER
    have HRR := Lib.hid hrr
    have HPP : Hid (5 ≤ p ∧ p < 14) := ⟨hp5, by omega⟩
    clear htx hp5 hp13 hER hrr HB0 HPO
    go_wp2_with fail
    refine HT.out.mono ?_
    rintro e w3 ⟨rfl, hr3, hk3⟩
    have hka3 : Kg g wa w3 := HKT.out.trans' hk3
    by_cases h60 : 60 ≤ o
    · have hr3' := hr3
      rw [HRR.out] at hr3'
      have HN := Lib.hid (enter_no w3 hr3' h60 (by omega))
      have HK3 := Lib.hid hka3
      have HF : Hid (R = .bad t2.line t2.col) := by unfold Hid; rw [HRV.out, if_neg HPZ.out, if_pos h60, HRR.out]; rfl
      clear hr3 hr3' hk3 hka3 HT
      go_wp2_with fail
      refine HN.out.mono ?_
      rintro e w4 ⟨rfl, hb⟩
      refine ⟨rfl, ?_⟩
      show PTo _ _ _ _ _ _ _
      rw [HF.out]
      exact ⟨rfl, ((HKA.out.trans' HK3.out).low HL.out).trans hb⟩
    have HN := Lib.hid (enter_yes w3 hr3 (by omega))
    have HR2 : Hid (R = (prefR n (o + 1) r).bind fun x r2 => .ok (.mk p 0 [] [x] t.line t.col) r2) := by unfold Hid; rw [HRV.out, if_neg HPZ.out, if_neg h60]
    have HK3 := Lib.hid hka3
    have HN3 : Hid (w3.heap[w1.heap.size]? = some (.cells #[.int .i64 t.kind, .string sb, .int .i64 t.num, .int .i64 t.line, .int .i64 t.col] 71 (0, 0)) ∧ w1.heap.size < w3.heap.size ∧ g < w1.heap.size) := by
      have := HZT.out; have := hk3.size; have := HB1.out.size; have := (HNA.out wa (Kf.refl _ _)).2; have := HL.out
      exact ⟨(hk3.block _ (by omega) (by omega)).trans HNT.out, by omega, by omega⟩
    clear hr3 hk3 hka3 HT HRR s0 s1 s2 s3 s4
    go_wp2_with fail
    refine HN.out.mono ?_
    rintro e w4 ⟨rfl, hr4, hk4⟩
    have hka4 : Kg g wa w4 := HK3.out.trans' hk4
    have HX := Lib.hid (hP g (o + 1) r w4 (HGG.out w4 hka4) hg hr4 (by omega) (by omega))
    have HK4 := Lib.hid hka4
    have HN4 : Hid (w4.heap[w1.heap.size]? = some (.cells #[.int .i64 t.kind, .string sb, .int .i64 t.num, .int .i64 t.line, .int .i64 t.col] 71 (0, 0)) ∧ w1.heap.size < w4.heap.size ∧ g < w1.heap.size) := by
      obtain ⟨h1, h2, h3⟩ := HN3.out
      have := hk4.size
      exact ⟨(hk4.block _ (by omega) (by omega)).trans h1, by omega, h3⟩
    clear hr4 hk4 hka4 HN HN3 HK3
    go_wp2_with fail
    refine HX.out.mono ?_
    intro e w5 hp
    clear HX
    rcases hER : prefR n (o + 1) r with ⟨l, c⟩ | ⟨x, r3⟩
    · rw [hER] at hp HR2
      obtain ⟨rfl, hb⟩ := hp
      refine ⟨rfl, ?_⟩
      show PTo _ _ _ _ _ _ _
      rw [HR2.out]
      exact ⟨rfl, ((HKA.out.trans' HK4.out).low HL.out).trans hb⟩
    rw [hER] at hp HR2
    obtain ⟨⟨v, rfl, hv⟩, hr5, hk5⟩ := hp
    obtain ⟨vo, vn, vs, va, vm, vk, vl, vc, rfl⟩ := exv_form hv.val
    obtain ⟨w6, hw6⟩ : ∃ w6, w6 = w5.alloc (.cells #[.int .i64 vo, .int .i64 vn, .string vs, .slice va vm vk, .int .i64 vl, .int .i64 vc] 24) := ⟨_, rfl⟩
    have hb6 : Below w5.heap.size w5 w6 := by rw [hw6]; exact below_alloc w5 _
    have hn6 : w6.heap[w5.heap.size]? = some (.cells #[.int .i64 vo, .int .i64 vn, .string vs, .slice va vm vk, .int .i64 vl, .int .i64 vc] 24 (0, 0)) := by rw [hw6]; exact blk_new w5 _
    have hz6 : w6.heap.size = w5.heap.size + 1 := by rw [hw6]; simp
    have HLV := Lib.hid (leave_any w6 (hr5.below hb6) (by omega))
    have HV6 := Lib.hid (hv.below hb6)
    have hka6 : Kg g w4 w6 := hk5.trans' (Kg.of_below hb6)
    have HK6 := Lib.hid hka6
    have HN6 := Lib.hid hn6
    have HZ6 := Lib.hid hz6
    have HS5 : Hid (g < w5.heap.size ∧ w4.heap.size ≤ w5.heap.size) := ⟨hr5.lt, hk5.size⟩
    have HW6 := Lib.hid hw6
    clear hr5 hk5 hv hb6 hn6 hz6 hka6 hw6 hER
    go_upto_region 8 with (fail)
    have hw6 := HW6.out
    rw [← hw6]
    clear hw6 HW6
    go_wp2_with fail
    refine HLV.out.mono ?_
    rintro e w7 ⟨rfl, hr7, hk7⟩
    obtain ⟨hs51, hs52⟩ := HS5.out
    have hz6 := HZ6.out
    have hn7 := (hk7.block w5.heap.size (by omega) (by omega)).trans HN6.out
    have hk47 : Kg g w4 w7 := HK6.out.trans' hk7
    obtain ⟨ht4, ht5, ht6⟩ := HN4.out
    have hnt7 := (hk47.block w1.heap.size (by omega) (by omega)).trans ht4
    obtain ⟨x0, x1, x2, x3, x4, x5⟩ := cells6 hn7
    obtain ⟨s0, s1, s2, s3, s4⟩ := cells5 hnt7
    have hka7 : Kg g wa w7 := HK4.out.trans' hk47
    have hq0 := (HNA.out w7 hka7).1
    have hnasz := (HNA.out w4 HK4.out).2
    have uf := Lib.frozen_of_heap hq0
    obtain ⟨p0, p1, p2, p3, p4, p5⟩ := cells6 hq0
    have HV7 : Hid (ExD (fun j => w4.heap.size ≤ j) w7 x (.agg #[.int .i64 vo, .int .i64 vn, .string vs, .slice va vm vk, .int .i64 vl, .int .i64 vc])) := HV6.out.keep (fun j hj hl => hk7.block j hl (by omega)) hk7.size
    have HQ0 := Lib.hid hq0
    have HR7 := Lib.hid hr7
    have HK7 := Lib.hid hka7
    have HSZ7 : Hid (w4.heap.size ≤ w7.heap.size ∧ w.heap.size < w4.heap.size) := ⟨hk47.size, by omega⟩
    have hs1 : w1.heap.size < w7.heap.size := by have := hk47.size; omega
    have hs5 : w5.heap.size < w7.heap.size := by have := hk7.size; omega
    have hs0 : w.heap.size < w7.heap.size := by have := hk47.size; omega
    clear hr7 hk7 hk47 hz6 hn7 hnt7 hka7 hq0 HLV hs51 hs52 ht4 ht5 ht6 hnasz
    go_wp2_with fail
    obtain ⟨w8, hw8⟩ : ∃ w8, w8 = ((((((w7.setCell ⟨w.heap.size, 0, none⟩ (.int .i64 p)).setCell ⟨w.heap.size, 1, none⟩ (.int .i64 0)).setCell ⟨w.heap.size, 2, none⟩ (.string ⟨#[]⟩)).setCell ⟨w.heap.size, 3, none⟩ (.slice (some ⟨w7.heap.size, 0, none⟩) 1 1)).setCell ⟨w.heap.size, 4, none⟩ (.int .i64 t.line)).setCell ⟨w.heap.size, 5, none⟩ (.int .i64 t.col)) := ⟨_, rfl⟩
    rw [← hw8]
    have hk8 : Kg w.heap.size w7 w8 := by rw [hw8]; exact kf_six _ _ _ _ _ _ _ _
    have hz8 : w8.heap.size = w7.heap.size := by rw [hw8]; simp [World.setCell]
    have hn8 : w8.heap[w.heap.size]? = some (.cells #[.int .i64 p, .int .i64 0, .string ⟨#[]⟩, .slice (some ⟨w7.heap.size, 0, none⟩) 1 1, .int .i64 t.line, .int .i64 t.col] 24 (0, 0)) := by rw [hw8]; exact psix_set HQ0.out _ _ _ _ _ _
    obtain ⟨w9, hw9⟩ : ∃ w9, w9 = w8.alloc (.cells #[.int .i64 vo, .int .i64 vn, .string vs, .slice va vm vk, .int .i64 vl, .int .i64 vc] 24) := ⟨_, rfl⟩
    rw [← hw9]
    have hb9 : Below w8.heap.size w8 w9 := by rw [hw9]; exact below_alloc w8 _
    have hn9 : w9.heap[w7.heap.size]? = some (.cells #[.int .i64 vo, .int .i64 vn, .string vs, .slice va vm vk, .int .i64 vl, .int .i64 vc] 24 (0, 0)) := by rw [hw9, ← hz8]; exact blk_new w8 _
    have hz9 : w9.heap.size = w7.heap.size + 1 := by rw [hw9, ← hz8]; simp
    have hm9 := (hb9.block w.heap.size (by omega)).trans hn8
    obtain ⟨q0, q1, q2, q3, q4, q5⟩ := cells6 hm9
    obtain ⟨hs74, hs40⟩ := HSZ7.out
    have hx9 : ExD (fun j => w4.heap.size ≤ j) w9 x (.agg #[.int .i64 vo, .int .i64 vn, .string vs, .slice va vm vk, .int .i64 vl, .int .i64 vc]) := (HV7.out.keep (fun j hj hl => hk8.block j hl (by omega)) hk8.size).below hb9
    have hnode : ExD (fun j => w.heap.size ≤ j) w9 (.mk p 0 [] [x] t.line t.col) (.agg #[.int .i64 p, .int .i64 0, .string ⟨#[]⟩, .slice (some ⟨w7.heap.size, 0, none⟩) 1 1, .int .i64 t.line, .int .i64 t.col]) := by
      have hp1 := HPP.out.1
      have hp2 := HPP.out.2
      have hl0 := HTOK.out.l0
      have hl1 := HTOK.out.l1
      have hc0 := HTOK.out.c0
      have hc1 := HTOK.out.c1
      refine ExD.node (ks := [x]) (cap := 1) ⟨wf_in (by omega) (by omega), wf_in (by omega) (by omega), wf_in (by omega) (by omega), wf_in (by omega) (by omega)⟩ (by omega) (by omega) (fun j k hj => ?_) (by simp) (by omega)
      have hj0 : j = 0 := by
        rcases Nat.lt_or_ge j 1 with h | h
        · omega
        · rw [List.getElem?_eq_none (by simpa using h)] at hj; cases hj
      subst hj0
      have hxk : x = k := by simpa using hj
      subst hxk
      refine ⟨[.int .i64 vo, .int .i64 vn, .string vs, .slice va vm vk, .int .i64 vl, .int .i64 vc], fun i v hv => ?_, hx9.mono fun j hj => by omega⟩
      rw [show 0 * 6 + i = i by omega, Lib.cell_of_heap hn9]
      simpa using hv
    have HRF : Hid (R = .ok (.mk p 0 [] [x] t.line t.col) r3) := by unfold Hid; rw [HR2.out]; rfl
    refine bodyPost_ret (v := .agg #[.int .i64 p, .int .i64 0, .string ⟨#[]⟩, .slice (some ⟨w7.heap.size, 0, none⟩) 1 1, .int .i64 t.line, .int .i64 t.col]) (by simp [results, Tryd.results45, go_sem, q0, q1, q2, q3, q4, q5]) rfl ?_
    show PTo _ _ _ _ _ _ _
    rw [HRF.out]
    exact ⟨⟨_, rfl, hnode⟩, (HR7.out.high hk8 HL.out).below hb9, ((HKA.out.trans' HK7.out).of_high hk8 (Nat.le_refl _)).trans' (Kg.of_below hb9)⟩
  · have HPZ := Lib.hid (HB0.out.1 rfl)
    have HVV := Lib.hid (hV g o (t :: r) wt (HGG.out wt HKT.out) hg (HRA.out.below HBT.out) (by rw [List.length_cons]; omega) ho)
    have HR2 : Hid (R = valueR n o (t :: r)) := by unfold Hid; rw [HRV.out, if_pos HPZ.out]
    rw [← HR2.out] at HVV
    have HSZ : Hid (wa.heap.size ≤ wt.heap.size) := HBT.out.size
    clear HB0 HPO s0 s1 s2 s3 s4
    go_wp2_with fail
    refine HVV.out.mono ?_
    intro e w2 hp
    clear HVV
    rcases hRc : R with ⟨l, c⟩ | ⟨x, r3⟩
    · rw [hRc] at hp
      obtain ⟨rfl, hb⟩ := hp
      refine ⟨rfl, ?_⟩
      show PTo _ _ _ _ _ _ _
      exact ⟨rfl, ((HKA.out.trans' HKT.out).low HL.out).trans hb⟩
    rw [hRc] at hp
    obtain ⟨⟨v, rfl, hv⟩, hr3, hk3⟩ := hp
    obtain ⟨vo, vn, vs, va, vm, vk, vl, vc, rfl⟩ := exv_form hv.val
    have hka : Kg g wa w2 := HKT.out.trans' hk3
    have hq0 := (HNA.out w2 hka).1
    have hzz := (HNA.out wa (Kf.refl _ _)).2
    have uf := Lib.frozen_of_heap hq0
    obtain ⟨p0, p1, p2, p3, p4, p5⟩ := cells6 hq0
    have hq := psix_set hq0 (.int .i64 vo) (.int .i64 vn) (.string vs) (.slice va vm vk) (.int .i64 vl) (.int .i64 vc)
    obtain ⟨q0, q1, q2, q3, q4, q5⟩ := cells6 hq
    have HV := Lib.hid hv
    have HR6 := Lib.hid hr3
    have HK6 : Hid (Kg g w w2) := HKA.out.trans' hka
    have HRC := Lib.hid hRc
    clear hr3 hk3 hq0 hq hv hka hRc
    go_wp2_with fail
    refine bodyPost_ret (v := .agg #[.int .i64 vo, .int .i64 vn, .string vs, .slice va vm vk, .int .i64 vl, .int .i64 vc]) (by simp [results, Tryd.results45, go_sem, q0, q1, q2, q3, q4, q5]) rfl ?_
    show PTo _ _ _ _ _ _ _
    try rw [HRC.out]
    have := HSZ.out
    exact ⟨REx.of HV.out (kf_six _ _ _ _ _ _ _ _) (by omega) (by omega), HR6.out.high (kf_six _ _ _ _ _ _ _ _) HL.out, HK6.out.of_high (kf_six _ _ _ _ _ _ _ _) (Nat.le_refl _)⟩
end Go.Proofs.YtmkhfcdjgdofnaaDoor
