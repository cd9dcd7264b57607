/- Package parse: whole expressions. -/
import Derived.Test.YtmkhfcdjgdofnaaDoorParH
namespace Go.Proofs.YtmkhfcdjgdofnaaDoor
open Go.RowKit TreM WrdM ParM

theorem parse_all : ∀ n : Nat, (∀ m, m ≤ n → ExprC m) ∧ (∀ m, m ≤ n → PrefC m) ∧ (∀ m, m ≤ n → ValC m)
  | 0 => by
    refine ⟨fun m hm g o least L w _ _ h hn _ _ _ => ?_, fun m hm g o L w _ _ h hn _ => ?_, fun m hm g o L w _ _ h hn _ => ?_⟩
    · exfalso; omega
    · exfalso; omega
    · exfalso
      obtain ⟨t, r, rfl⟩ := ends_cons h.ends
      rw [List.length_cons] at hn; omega
  | n + 1 => by
    obtain ⟨hE, hP, hV⟩ := parse_all n
    refine ⟨fun m hm => ?_, fun m hm => ?_, fun m hm => ?_⟩
    · rcases Nat.lt_or_ge n m with h | h
      · have : m = n + 1 := by omega
        subst this
        exact expr_any n (hP n (Nat.le_refl _)) hE
      · exact hE m h
    · rcases Nat.lt_or_ge n m with h | h
      · have : m = n + 1 := by omega
        subst this
        exact pref_any n (hP n (Nat.le_refl _)) (hV n (Nat.le_refl _))
      · exact hP m h
    · rcases Nat.lt_or_ge n m with h | h
      · have : m = n + 1 := by omega
        subst this
        exact val_any n (hE n (Nat.le_refl _))
      · exact hV m h
theorem wholeR_def (L : List Tok) : wholeR L = (exprR (fuel L) 0 0 L).bind fun x r => if rightB x then .ok x r else failR L := rfl

set_option maxHeartbeats 3200000 in
set_option maxRecDepth 100000 in
theorem whole_any (g : Nat) (L : List Tok) (w : World) (hG : PrG w) (hg : 3 ≤ g) (h : Rdr w g L 0) :
    Calls Tryd.prog 13 #[.pointer (some ⟨g, 0, none⟩)] w (PTo g 0 w (REx w.heap.size) (wholeR L)) := by
  have hlt := h.lt
  obtain ⟨t, r, rfl⟩ := ends_cons h.ends
  obtain ⟨wa, hwa⟩ : ∃ wa, wa = w.alloc (.cells z6 24) := ⟨_, rfl⟩
  have hba : Below w.heap.size w wa := by rw [hwa]; exact below_alloc w _
  have hna : wa.heap[w.heap.size]? = some (.cells z6 24 (0, 0)) := by rw [hwa]; exact blk_new w _
  have hza : wa.heap.size = w.heap.size + 1 := by rw [hwa]; simp
  have hra := h.below hba
  have hGa : PrG wa := hG.below hba (Nat.le_of_lt (Nat.lt_of_le_of_lt hg hlt))
  have HA := Lib.hid (ahead_any wa hra)
  have HNA : Hid (∀ W, Kg g wa W → W.heap[w.heap.size]? = some (.cells z6 24 (0, 0)) ∧ w.heap.size + 1 ≤ W.heap.size) := fun W hW =>
    ⟨(hW.block _ (by omega) (by omega)).trans hna, by have := hW.size; omega⟩
  have HKA : Hid (Kg g w wa) := Kg.of_below hba
  have HL := Lib.hid hlt
  have HWA := Lib.hid hwa
  have HRA := Lib.hid hra
  have HF := Lib.hid (fail_any t)
  have HGG : Hid (∀ W, Kg g wa W → PrG W) := fun W hW => hGa.below (hW.low (by omega)) hg
  have HEX : Hid (∀ W, Kg g wa W → Rdr W g (t :: r) 0 → Calls Tryd.prog 25 #[.pointer (some ⟨g, 0, none⟩), .int .i64 0] W (PTo g 0 W (REx W.heap.size) (exprR (fuel (t :: r)) 0 0 (t :: r)))) := fun W hW hr =>
    (parse_all (fuel (t :: r))).1 _ (Nat.le_refl _) g 0 0 (t :: r) W (HGG.out W hW) hg hr (by unfold fuel; omega) (by omega) (by omega) (by omega)
  have HRV : Hid (wholeR (t :: r) = (exprR (fuel (t :: r)) 0 0 (t :: r)).bind fun x r2 => if rightB x then .ok x r2 else .bad t.line t.col) := rfl
  obtain ⟨R, hRR⟩ : ∃ R, R = wholeR (t :: r) := ⟨_, rfl⟩
  rw [← hRR] at HRV ⊢
  have htc : (tokC t).toArray = #[.int .i64 t.kind, .string ⟨t.text.toArray⟩, .int .i64 t.num, .int .i64 t.line, .int .i64 t.col] := rfl
  rw [htc] at HA HF
  have HWZ : Hid (w.heap.size < wa.heap.size) := by unfold Hid; omega
  clear hwa hRR h hba hna hza hra hG hGa htc
  generalize (⟨t.text.toArray⟩ : ByteArray) = sb at *
  generalize exprR (fuel (t :: r)) 0 0 (t :: r) = E at *
  go_enter Tryd.func13, Tryd.ntmps13
  go_upto_region 1 with (fail)
  have hwa := HWA.out
  unfold z6 at hwa
  rw [← hwa]
  clear hwa HWA
  go_wp2_with fail
  refine HA.out.mono ?_
  rintro e w1 ⟨rfl, hb1⟩
  have HB1 := Lib.hid hb1
  clear hb1 HA
  obtain ⟨wt, hwt⟩ : ∃ wt, wt = w1.alloc (.cells #[.int .i64 t.kind, .string sb, .int .i64 t.num, .int .i64 t.line, .int .i64 t.col] 71) := ⟨_, rfl⟩
  have hbt : Below w1.heap.size w1 wt := by rw [hwt]; exact below_alloc w1 _
  have hnt : wt.heap[w1.heap.size]? = some (.cells #[.int .i64 t.kind, .string sb, .int .i64 t.num, .int .i64 t.line, .int .i64 t.col] 71 (0, 0)) := by rw [hwt]; exact blk_new w1 _
  have hzt : wt.heap.size = w1.heap.size + 1 := by rw [hwt]; simp
  have HWT := Lib.hid hwt
  have HBT : Hid (Below wa.heap.size wa wt) := HB1.out.trans (hbt.mono HB1.out.size)
  have HNT := Lib.hid hnt
  have HZT := Lib.hid hzt
  have HKT : Hid (Kg g wa wt) := Kg.of_below HBT.out
  have HE1 := Lib.hid (HEX.out wt HKT.out (HRA.out.below HBT.out))
  clear hwt hbt hnt hzt HEX HRA
  go_upto_region 2 with (fail)
  have hwt := HWT.out
  rw [← hwt]
  clear hwt HWT
  go_wp2_with fail
  refine HE1.out.mono ?_
  intro e w3 hp
  clear HE1
  rcases E with ⟨l, c⟩ | ⟨x, r2⟩
  · obtain ⟨rfl, hb⟩ := hp
    refine ⟨rfl, ?_⟩
    show PTo _ _ _ _ _ _ _
    rw [HRV.out]
    exact ⟨rfl, ((HKA.out.trans' HKT.out).low HL.out).trans hb⟩
  have HRV2 : Hid (R = if rightB x then .ok x r2 else .bad t.line t.col) := HRV.out
  obtain ⟨⟨v, rfl, hv⟩, hr3, hk3⟩ := hp
  obtain ⟨vo, vn, vs, va, vm, vk, vl, vc, rfl⟩ := exv_form hv.val
  obtain ⟨w4, hw4⟩ : ∃ w4, w4 = w3.alloc (.cells #[.int .i64 vo, .int .i64 vn, .string vs, .slice va vm vk, .int .i64 vl, .int .i64 vc] 24) := ⟨_, rfl⟩
  have hb4 : Below w3.heap.size w3 w4 := by rw [hw4]; exact below_alloc w3 _
  have hn4 : w4.heap[w3.heap.size]? = some (.cells #[.int .i64 vo, .int .i64 vn, .string vs, .slice va vm vk, .int .i64 vl, .int .i64 vc] 24 (0, 0)) := by rw [hw4]; exact blk_new w3 _
  have hz4 : w4.heap.size = w3.heap.size + 1 := by rw [hw4]; simp
  have hv4 := hv.below hb4
  have HRG := Lib.hid (right_any x _ w4 hv4.val)
  have HK4 : Hid (Kg g wt w4) := hk3.trans' (Kg.of_below hb4)
  have HR4 := Lib.hid (hr3.below hb4)
  have HV4 := Lib.hid hv4
  have HN4 := Lib.hid hn4
  have HZ4 := Lib.hid hz4
  have HW4 := Lib.hid hw4
  have HSZ3 : Hid (wt.heap.size ≤ w3.heap.size ∧ wa.heap.size ≤ wt.heap.size) := ⟨hk3.size, HBT.out.size⟩
  obtain ⟨x0, x1, x2, x3, x4, x5⟩ := cells6 hn4
  clear hr3 hk3 hv hb4 hn4 hz4 hv4 hw4 HRV
  go_upto_region 3 with (fail)
  have hw4 := HW4.out
  rw [← hw4]
  clear hw4 HW4
  go_wp2_with fail
  refine HRG.out.mono ?_
  rintro e w5 ⟨rfl, hb5⟩
  obtain ⟨hs31, hs32⟩ := HSZ3.out
  have hz4 := HZ4.out
  have hn5 := (hb5.block w3.heap.size (by omega)).trans HN4.out
  have hzt := HZT.out
  have hk45 : Kg g wt w5 := HK4.out.trans' (Kg.of_below hb5)
  have hnt5 := (hk45.block w1.heap.size (by omega) (by have := HB1.out.size; have := HWZ.out; have := HL.out; omega)).trans HNT.out
  clear x0 x1 x2 x3 x4 x5
  obtain ⟨x0, x1, x2, x3, x4, x5⟩ := cells6 hn5
  obtain ⟨s0, s1, s2, s3, s4⟩ := cells5 hnt5
  have HK5 : Hid (Kg g wa w5) := HKT.out.trans' hk45
  have HR5 := Lib.hid (HR4.out.below hb5)
  have HV5 := Lib.hid (HV4.out.below hb5)
  clear hb5 hz4 hn5 hzt hk45 hnt5 HRG
  rcases hq : rightB x with _ | _
  · have HRF : Hid (R = .bad t.line t.col) := by unfold Hid; rw [HRV2.out, hq]; rfl
    clear hq
    go_wp2_with fail
    refine (HF.out _).mono ?_
    rintro e w6 ⟨rfl, hb⟩
    refine ⟨rfl, ?_⟩
    show PTo _ _ _ _ _ _ _
    rw [HRF.out]
    exact ⟨rfl, ((HKA.out.trans' HK5.out).low HL.out).trans (hb.mono (Nat.le_of_lt HR5.out.lt))⟩
  · have HRF : Hid (R = .ok x r2) := by unfold Hid; rw [HRV2.out, hq]; rfl
    have hq0 := (HNA.out w5 HK5.out).1
    have uf := Lib.frozen_of_heap hq0
    obtain ⟨p0, p1, p2, p3, p4, p5⟩ := cells6 hq0
    have hqq := psix_set hq0 (.int .i64 vo) (.int .i64 vn) (.string vs) (.slice va vm vk) (.int .i64 vl) (.int .i64 vc)
    obtain ⟨q0, q1, q2, q3, q4, q5⟩ := cells6 hqq
    clear hq hq0 hqq hs31 hs32
    go_wp2_with fail
    refine bodyPost_ret (v := .agg #[.int .i64 vo, .int .i64 vn, .string vs, .slice va vm vk, .int .i64 vl, .int .i64 vc]) (by simp [results, Tryd.results13, go_sem, q0, q1, q2, q3, q4, q5]) rfl ?_
    show PTo _ _ _ _ _ _ _
    rw [HRF.out]
    have h1 := HSZ3.out.2
    have h2 := HWZ.out
    exact ⟨REx.of HV5.out (kf_six _ _ _ _ _ _ _ _) (by omega) (by omega), HR5.out.high (kf_six _ _ _ _ _ _ _ _) HL.out, (HKA.out.trans' HK5.out).of_high (kf_six _ _ _ _ _ _ _ _) (Nat.le_refl _)⟩
end Go.Proofs.YtmkhfcdjgdofnaaDoor
