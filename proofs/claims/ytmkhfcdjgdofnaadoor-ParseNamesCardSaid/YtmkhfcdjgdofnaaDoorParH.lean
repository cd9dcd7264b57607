/- Package parse: expressions. -/
import Derived.Test.YtmkhfcdjgdofnaaDoorParF
import Derived.Deep.RegionHeld3
import Derived.Deep.CutBlock
namespace Go.Proofs.YtmkhfcdjgdofnaaDoor
open Go.RowKit TreM WrdM ParM

theorem bnd_in (j : Nat) (h1 : 14 ≤ j) (h2 : j < 31) : 0 ≤ bnd (j : Int) ∧ bnd (j : Int) ≤ 7 := by
  have : ∀ j : Nat, j < 31 → 14 ≤ j → 0 ≤ bnd (j : Int) ∧ bnd (j : Int) ≤ 7 := by decide
  exact this j h2 h1
theorem lwi_in {b : Int} (h0 : 0 ≤ b) (h1 : b ≤ 7) : 0 ≤ lwi b ∧ lwi b ≤ 8 := by unfold lwi; split <;> omega
theorem mbe_in {b : Int} (h0 : 0 ≤ b) (h1 : b ≤ 7) : 0 ≤ mbe b ∧ mbe b ≤ 7 := by unfold mbe; split <;> omega

/-- The operand's box gets the op with both kids. -/
theorem node_two {w : World} {xb A B : Nat} {X Y : Ex} {xo xn yo yn xl xc yl yc : Int} {xs ys : ByteArray} {xa ya : Option Addr} {xm xk ym yk : Nat} {a0 a1 a2 a3 a4 a5 : Value} {T T2 : TypeId} (o l c : Int)
    (hx : w.heap[xb]? = some (.cells #[a0, a1, a2, a3, a4, a5] T (0, 0))) (hX : ExD (fun k => A ≤ k ∧ k ≠ xb) w X (.agg #[.int .i64 xo, .int .i64 xn, .string xs, .slice xa xm xk, .int .i64 xl, .int .i64 xc]))
    (hY : ExD (fun k => B ≤ k) w Y (.agg #[.int .i64 yo, .int .i64 yn, .string ys, .slice ya ym yk, .int .i64 yl, .int .i64 yc])) (hB : xb < B) (hA : A ≤ xb) (hN : ExN o 0 l c) :
    ∀ w9, w9 = (((((((w.setCell ⟨xb, 0, none⟩ (.int .i64 o)).setCell ⟨xb, 1, none⟩ (.int .i64 0)).setCell ⟨xb, 2, none⟩ (.string ⟨#[]⟩)).setCell ⟨xb, 3, none⟩ (.slice (some ⟨w.heap.size, 0, none⟩) 2 2)).setCell ⟨xb, 4, none⟩ (.int .i64 l)).setCell ⟨xb, 5, none⟩ (.int .i64 c)).alloc
      (.cells #[.int .i64 xo, .int .i64 xn, .string xs, .slice xa xm xk, .int .i64 xl, .int .i64 xc, .int .i64 yo, .int .i64 yn, .string ys, .slice ya ym yk, .int .i64 yl, .int .i64 yc] T2)) →
    w9.heap[xb]? = some (.cells #[.int .i64 o, .int .i64 0, .string ⟨#[]⟩, .slice (some ⟨w.heap.size, 0, none⟩) 2 2, .int .i64 l, .int .i64 c] T (0, 0)) ∧
      ExD (fun k => A ≤ k ∧ k ≠ xb) w9 (.mk o 0 [] [X, Y] l c) (.agg #[.int .i64 o, .int .i64 0, .string ⟨#[]⟩, .slice (some ⟨w.heap.size, 0, none⟩) 2 2, .int .i64 l, .int .i64 c]) ∧ Kg xb w w9 := by
  rintro w9 rfl
  have hlt := lt_of_heap hx
  have hk8 := kf_six xb w (.int .i64 o) (.int .i64 0) (.string ⟨#[]⟩) (.slice (some ⟨w.heap.size, 0, none⟩) 2 2) (.int .i64 l) (.int .i64 c)
  have hn8 := psix_set hx (.int .i64 o) (.int .i64 0) (.string ⟨#[]⟩) (.slice (some ⟨w.heap.size, 0, none⟩) 2 2) (.int .i64 l) (.int .i64 c)
  have hz8 : ((((((w.setCell ⟨xb, 0, none⟩ (.int .i64 o)).setCell ⟨xb, 1, none⟩ (.int .i64 0)).setCell ⟨xb, 2, none⟩ (.string ⟨#[]⟩)).setCell ⟨xb, 3, none⟩ (.slice (some ⟨w.heap.size, 0, none⟩) 2 2)).setCell ⟨xb, 4, none⟩ (.int .i64 l)).setCell ⟨xb, 5, none⟩ (.int .i64 c)).heap.size = w.heap.size := by simp [World.setCell]
  generalize ((((((w.setCell ⟨xb, 0, none⟩ (.int .i64 o)).setCell ⟨xb, 1, none⟩ (.int .i64 0)).setCell ⟨xb, 2, none⟩ (.string ⟨#[]⟩)).setCell ⟨xb, 3, none⟩ (.slice (some ⟨w.heap.size, 0, none⟩) 2 2)).setCell ⟨xb, 4, none⟩ (.int .i64 l)).setCell ⟨xb, 5, none⟩ (.int .i64 c)) = w8 at *
  obtain ⟨cs, hcs⟩ : ∃ cs : Array Value, cs = #[.int .i64 xo, .int .i64 xn, .string xs, .slice xa xm xk, .int .i64 xl, .int .i64 xc, .int .i64 yo, .int .i64 yn, .string ys, .slice ya ym yk, .int .i64 yl, .int .i64 yc] := ⟨_, rfl⟩
  rw [← hcs]
  have hb9 := below_alloc w8 (.cells cs T2)
  have hn9 := blk_new w8 (.cells cs T2)
  rw [hz8] at hn9
  have hz9 : (w8.alloc (.cells cs T2)).heap.size = w.heap.size + 1 := by simp [hz8]
  have hk9 : Kg xb w (w8.alloc (.cells cs T2)) := hk8.trans' (Kg.of_below hb9)
  refine ⟨(hb9.block xb (by omega)).trans hn8, ?_, hk9⟩
  have hX9 : ExD (fun k => A ≤ k ∧ k ≠ xb) (w8.alloc (.cells cs T2)) X _ := hX.keep (fun k hk hl => hk9.block k hl hk.2) hk9.size
  have hY9 : ExD (fun k => A ≤ k ∧ k ≠ xb) (w8.alloc (.cells cs T2)) Y _ := (hY.keep (fun k hk hl => hk9.block k hl (by omega)) hk9.size).mono fun k hk => ⟨by omega, by omega⟩
  refine ExD.node (ks := [X, Y]) (cap := 2) hN ⟨by omega, by omega⟩ (by omega) (fun j k hj => ?_) (by simp) (by omega)
  rcases j with _ | _ | j
  · have hxk : X = k := by simpa using hj
    subst hxk
    refine ⟨[.int .i64 xo, .int .i64 xn, .string xs, .slice xa xm xk, .int .i64 xl, .int .i64 xc], fun i v hv => ?_, hX9⟩
    rw [show 0 * 6 + i = i by omega, Lib.cell_of_heap hn9, hcs]
    have hi6 : i < 6 := by
      rcases Nat.lt_or_ge i 6 with h | h
      · exact h
      · rw [List.getElem?_eq_none (by simpa using h)] at hv; cases hv
    rcases i with _ | _ | _ | _ | _ | _ | i
    · exact hv
    · exact hv
    · exact hv
    · exact hv
    · exact hv
    · exact hv
    · omega
  · have hxk : Y = k := by simpa using hj
    subst hxk
    refine ⟨[.int .i64 yo, .int .i64 yn, .string ys, .slice ya ym yk, .int .i64 yl, .int .i64 yc], fun i v hv => ?_, hY9⟩
    rw [Lib.cell_of_heap hn9, hcs]
    have hi6 : i < 6 := by
      rcases Nat.lt_or_ge i 6 with h | h
      · exact h
      · rw [List.getElem?_eq_none (by simpa using h)] at hv; cases hv
    rcases i with _ | _ | _ | _ | _ | _ | i
    · exact hv
    · exact hv
    · exact hv
    · exact hv
    · exact hv
    · exact hv
    · omega
  · simp at hj

set_option maxHeartbeats 6400000 in
set_option maxRecDepth 100000 in
theorem expr_any (n : Nat) (hP : PrefC n) (hE : ∀ m, m ≤ n → ExprC m) : ExprC (n + 1) := by
  intro g o least L w hG hg h hn ho hle0 hle1
  have hlt := h.lt
  obtain ⟨wa, hwa⟩ : ∃ wa, wa = w.alloc (.cells z6 24) := ⟨_, rfl⟩
  have hba : Below w.heap.size w wa := by rw [hwa]; exact below_alloc w _
  have hna : wa.heap[w.heap.size]? = some (.cells z6 24 (0, 0)) := by rw [hwa]; exact blk_new w _
  have hza : wa.heap.size = w.heap.size + 1 := by rw [hwa]; simp
  have hra := h.below hba
  have hGa : PrG wa := hG.below hba (Nat.le_of_lt (Nat.lt_of_le_of_lt hg hlt))
  have HP := Lib.hid (hP g o L wa hGa hg hra (by omega) ho)
  have HNA : Hid (∀ W, Kg g wa W → W.heap[w.heap.size]? = some (.cells z6 24 (0, 0)) ∧ w.heap.size + 1 ≤ W.heap.size) := fun W hW =>
    ⟨(hW.block _ (by omega) (by omega)).trans hna, by have := hW.size; omega⟩
  have HKA : Hid (Kg g w wa) := Kg.of_below hba
  have HL := Lib.hid hlt
  have HWA := Lib.hid hwa
  have HGG : Hid (∀ W, Kg g wa W → PrG W) := fun W hW => hGa.below (hW.low (by omega)) hg
  have HRV : Hid (exprR (n + 1) o least L = (prefR n o L).bind fun x r => loopR n o least 7 x r) := by unfold Hid; rw [exprR]
  have HLEN : Hid (∀ x r, prefR n o L = .ok x r → r.length < L.length) := fun x r h => (len_all n).2.2.1 o L x r h
  obtain ⟨R, hRR⟩ : ∃ R, R = exprR (n + 1) o least L := ⟨_, rfl⟩
  rw [← hRR] at HRV ⊢
  have HWZ : Hid (w.heap.size < wa.heap.size) := by unfold Hid; omega
  clear hwa hRR h hba hna hza hra hG hGa
  go_enter Tryd.func25, Tryd.ntmps25
  go_upto_region 1 with (fail)
  have hwa := HWA.out
  unfold z6 at hwa
  rw [← hwa]
  clear hwa HWA
  go_wp2_with fail
  refine HP.out.mono ?_
  intro e w1 hp
  clear HP
  rcases hER : prefR n o L with ⟨l, c⟩ | ⟨x0, r0⟩
  · rw [hER] at hp HRV
    obtain ⟨rfl, hb⟩ := hp
    refine ⟨rfl, ?_⟩
    show PTo _ _ _ _ _ _ _
    rw [HRV.out]
    exact ⟨rfl, (HKA.out.low HL.out).trans hb⟩
  have hlen0 := HLEN.out x0 r0 hER
  rw [hER] at hp HRV
  obtain ⟨⟨v, rfl, hv⟩, hr1, hk1⟩ := hp
  obtain ⟨vo, vn, vs, va, vm, vk, vl, vc, rfl⟩ := exv_form hv.val
  obtain ⟨w2, hw2⟩ : ∃ w2, w2 = w1.alloc (.cells #[.int .i64 vo, .int .i64 vn, .string vs, .slice va vm vk, .int .i64 vl, .int .i64 vc] 24) := ⟨_, rfl⟩
  have hb2 : Below w1.heap.size w1 w2 := by rw [hw2]; exact below_alloc w1 _
  have hn2 : w2.heap[w1.heap.size]? = some (.cells #[.int .i64 vo, .int .i64 vn, .string vs, .slice va vm vk, .int .i64 vl, .int .i64 vc] 24 (0, 0)) := by rw [hw2]; exact blk_new w1 _
  obtain ⟨xb, hxb⟩ : ∃ xb, xb = w1.heap.size := ⟨_, rfl⟩
  have hx1 : wa.heap.size ≤ xb := by rw [hxb]; exact hk1.size
  have hx2 : g < xb := by have := HWZ.out; omega
  have HV2 : Hid (ExD (fun k => wa.heap.size ≤ k ∧ k ≠ xb) w2 x0 (.agg #[.int .i64 vo, .int .i64 vn, .string vs, .slice va vm vk, .int .i64 vl, .int .i64 vc])) := fun W h3 h4 => by
    refine hv W (fun k hk hl => ?_) (Nat.le_trans hb2.size h4)
    exact (h3 k ⟨hk, by omega⟩ (Nat.lt_of_lt_of_le hl hb2.size)).trans (hb2.block k hl)
  have HR2 := Lib.hid (hr1.below hb2)
  have HK2 : Hid (Kg g wa w2) := hk1.trans' (Kg.of_below hb2)
  have HN2 := Lib.hid hn2
  have HW2 := Lib.hid hw2
  rw [← hxb] at HN2
  have HXB := Lib.hid hxb
  clear hr1 hk1 hv hb2 hn2 hw2 hER hxb
  go_upto_block 0 with (fail)
  have hw2 := HW2.out
  rw [← hw2]
  have hxb := HXB.out
  rw [← hxb]
  clear hw2 HW2 hxb
  go_wp2_with fail
  go_loopg [6] r0.length (fun gg mo wr => ∃ (X : Ex) (L' : List Tok) (f : Nat) (m vo vn : Int) (vs : ByteArray) (va : Option Addr) (vm vk : Nat) (vl vc : Int), mo = .int .i64 m ∧ 0 ≤ m ∧ m ≤ 7 ∧ f ≤ n ∧ 3 * L'.length ≤ f ∧ L'.length ≤ gg ∧ Hid (R = loopR f o least m X L') ∧ Hid (Rdr wr g L' o) ∧ Hid (Kg g wa wr) ∧
    Hid (wr.heap[xb]? = some (.cells #[.int .i64 vo, .int .i64 vn, .string vs, .slice va vm vk, .int .i64 vl, .int .i64 vc] 24 (0, 0))) ∧ Hid (ExD (fun k => wa.heap.size ≤ k ∧ k ≠ xb) wr X (.agg #[.int .i64 vo, .int .i64 vn, .string vs, .slice va vm vk, .int .i64 vl, .int .i64 vc])))
  case atStart => exact ⟨x0, r0, n, 7, _, _, _, _, _, _, _, _, rfl, by omega, by omega, Nat.le_refl _, by omega, Nat.le_refl _, HRV.out, HR2.out, HK2.out, HN2.out, HV2.out⟩
  case round =>
    clear HV2 HR2 HK2 HN2 HRV HLEN
    obtain ⟨X, L', f, m, vo, vn, vs, va, vm, vk, vl, vc, rfl, hm0, hm7, hfn, hlf, hgg, HRV, HRW, HKW, HXC, HXD⟩ := hrel
    obtain ⟨t, r, hL⟩ := ends_cons HRW.out.ends
    subst hL
    rw [List.length_cons] at hlf hgg
    rcases f with _ | f
    · exfalso; omega
    have HA := Lib.hid (ahead_any wr HRW.out)
    have HTOK := Lib.hid (tok_of HRW.out.ends rfl)
    have HSG : Hid (∀ W, PrG W → Calls Tryd.prog 46 #[.string ⟨t.text.toArray⟩, .int .i64 14, .int .i64 30] W fun e w' => e = .returned (.int .i64 (binO t.text)) ∧ W = w') := fun W hW => signed_any t.text 14 17 30 (by decide) (by decide) (by decide) (by decide) W hW
    have HRL : Hid (loopR (f + 1) o least m X (t :: r) = if binO t.text = 0 ∨ bnd (binO t.text) < least ∨ m < bnd (binO t.text) then .ok X (t :: r) else (exprR f o (lwi (bnd (binO t.text))) r).bind fun y r2 => loopR f o least (mbe (bnd (binO t.text))) (.mk (binO t.text) 0 [] [X, y] t.line t.col) r2) := by unfold Hid; rw [loopR]
    have HPO : Hid (binO t.text ≠ 0 → t.text ≠ [] ∧ 14 ≤ binO t.text ∧ binO t.text < 14 + (17 : Nat)) := fun hh => sign_text (by decide) (by decide) hh
    have HRF : Hid (R = if binO t.text = 0 ∨ bnd (binO t.text) < least ∨ m < bnd (binO t.text) then .ok X (t :: r) else (exprR f o (lwi (bnd (binO t.text))) r).bind fun y r2 => loopR f o least (mbe (bnd (binO t.text))) (.mk (binO t.text) 0 [] [X, y] t.line t.col) r2) := HRV.out.trans HRL.out
    have htc : (tokC t).toArray = #[.int .i64 t.kind, .string ⟨t.text.toArray⟩, .int .i64 t.num, .int .i64 t.line, .int .i64 t.col] := rfl
    rw [htc] at HA
    obtain ⟨sb, hsb⟩ : ∃ sb : ByteArray, sb = ⟨t.text.toArray⟩ := ⟨_, rfl⟩
    rw [← hsb] at HA HSG
    have hp00 : binO t.text = 0 ∨ ∃ j : Nat, binO t.text = (j : Int) ∧ 14 ≤ j ∧ j < 31 ∧ t.text ≠ [] := by
      by_cases hz : binO t.text = 0
      · exact .inl hz
      · obtain ⟨h1, h2, h3⟩ := HPO.out hz
        obtain ⟨j, hj⟩ := Int.eq_ofNat_of_zero_le (show 0 ≤ binO t.text by omega)
        exact .inr ⟨j, hj, by omega, by omega, h1⟩
    obtain ⟨p, hpp⟩ : ∃ p, p = binO t.text := ⟨_, rfl⟩
    rw [← hpp] at HSG HRF hp00
    have HEN := Lib.hid HRW.out.ends
    clear HRL HRV HPO hsb hpp htc
    go_wp2_with fail
    refine HA.out.mono ?_
    rintro e w1r ⟨rfl, hb1⟩
    have HB1 := Lib.hid hb1
    clear hb1 HA
    obtain ⟨wt, hwt⟩ : ∃ wt, wt = w1r.alloc (.cells #[.int .i64 t.kind, .string sb, .int .i64 t.num, .int .i64 t.line, .int .i64 t.col] 71) := ⟨_, rfl⟩
    have hbt : Below w1r.heap.size w1r wt := by rw [hwt]; exact below_alloc w1r _
    have hnt : wt.heap[w1r.heap.size]? = some (.cells #[.int .i64 t.kind, .string sb, .int .i64 t.num, .int .i64 t.line, .int .i64 t.col] 71 (0, 0)) := by rw [hwt]; exact blk_new w1r _
    have hzt : wt.heap.size = w1r.heap.size + 1 := by rw [hwt]; simp
    obtain ⟨s0, s1, s2, s3, s4⟩ := cells5 hnt
    have HWT := Lib.hid hwt
    have HBT : Hid (Below wr.heap.size wr wt) := HB1.out.trans (hbt.mono HB1.out.size)
    have HNT := Lib.hid hnt
    have HZT := Lib.hid hzt
    have HKT : Hid (Kg g wa wt) := HKW.out.trans' (Kg.of_below HBT.out)
    have HS1 := Lib.hid (HSG.out wt (HGG.out wt HKT.out))
    have hxlt : xb < wr.heap.size := lt_of_heap HXC.out
    have HXT : Hid (wt.heap[xb]? = some (.cells #[.int .i64 vo, .int .i64 vn, .string vs, .slice va vm vk, .int .i64 vl, .int .i64 vc] 24 (0, 0))) := (HBT.out.block xb hxlt).trans HXC.out
    have HXDT := Lib.hid (HXD.out.below HBT.out)
    have HRT := Lib.hid (HRW.out.below HBT.out)
    have hxt : xb < wt.heap.size := lt_of_heap HXT.out
    clear hwt hbt hnt hzt HSG HXC HXD HRW HKW
    go_upto_region 4 with (fail)
    have hwt := HWT.out
    rw [← hwt]
    clear hwt HWT
    go_wp2_with fail
    refine HS1.out.mono ?_
    rintro e w2r ⟨rfl, rfl⟩
    clear HS1
    rcases hp00 with rfl | ⟨j, rfl, hj14, hj31, htxt⟩
    · have HRR : Hid (R = .ok X (t :: r)) := by unfold Hid; rw [HRF.out, if_pos (.inl rfl)]
      have hq0 := (HNA.out wt HKT.out).1
      have uf := Lib.frozen_of_heap hq0
      obtain ⟨p0, p1, p2, p3, p4, p5⟩ := cells6 hq0
      have hq := psix_set hq0 (.int .i64 vo) (.int .i64 vn) (.string vs) (.slice va vm vk) (.int .i64 vl) (.int .i64 vc)
      obtain ⟨q0, q1, q2, q3, q4, q5⟩ := cells6 hq
      obtain ⟨x0, x1, x2, x3, x4, x5⟩ := cells6 HXT.out
      clear hq0 hq
      go_wp2_with fail
      refine bodyPost_ret (v := .agg #[.int .i64 vo, .int .i64 vn, .string vs, .slice va vm vk, .int .i64 vl, .int .i64 vc]) (by simp [results, Tryd.results25, go_sem, q0, q1, q2, q3, q4, q5]) rfl ?_
      show PTo _ _ _ _ _ _ _
      rw [HRR.out]
      have hwz := HWZ.out
      have hk6 := kf_six w.heap.size wt (.int .i64 vo) (.int .i64 vn) (.string vs) (.slice va vm vk) (.int .i64 vl) (.int .i64 vc)
      exact ⟨⟨_, rfl, (HXDT.out.keep (fun k hk hl => hk6.block k hl (by have := hk.1; omega)) hk6.size).mono fun k hk => by have := hk.1; omega⟩, HRT.out.high hk6 HL.out, (HKA.out.trans' HKT.out).of_high hk6 (Nat.le_refl _)⟩
    have e0 : ((j : Int) == 0) = false := by rw [beq_eq_false_iff_ne]; omega
    obtain ⟨b, hbj⟩ : ∃ b, b = bnd (j : Int) := ⟨_, rfl⟩
    obtain ⟨hb0, hb7⟩ := bnd_in j hj14 hj31
    rw [← hbj] at hb0 hb7 HRF
    have hbc := (HGG.out wt HKT.out).bd j hj14 hj31
    rw [← hbj] at hbc
    have HBC : Hid (∀ W, Kg g wa W → W.cell? ⟨0, j, none⟩ = some (.int .i64 b)) := fun W hW => by rw [hbj]; exact (HGG.out W hW).bd j hj14 hj31
    clear hbj
    by_cases hbl : b < least
    · have t1 : decide (b < least) = true := decide_eq_true hbl
      have HRR : Hid (R = .ok X (t :: r)) := by unfold Hid; rw [HRF.out, if_pos (.inr (.inl hbl))]
      have hq0 := (HNA.out wt HKT.out).1
      have uf := Lib.frozen_of_heap hq0
      obtain ⟨p0, p1, p2, p3, p4, p5⟩ := cells6 hq0
      have hq := psix_set hq0 (.int .i64 vo) (.int .i64 vn) (.string vs) (.slice va vm vk) (.int .i64 vl) (.int .i64 vc)
      obtain ⟨q0, q1, q2, q3, q4, q5⟩ := cells6 hq
      obtain ⟨x0, x1, x2, x3, x4, x5⟩ := cells6 HXT.out
      clear hq0 hq
      go_wp2_with fail
      refine bodyPost_ret (v := .agg #[.int .i64 vo, .int .i64 vn, .string vs, .slice va vm vk, .int .i64 vl, .int .i64 vc]) (by simp [results, Tryd.results25, go_sem, q0, q1, q2, q3, q4, q5]) rfl ?_
      show PTo _ _ _ _ _ _ _
      rw [HRR.out]
      have hwz := HWZ.out
      have hk6 := kf_six w.heap.size wt (.int .i64 vo) (.int .i64 vn) (.string vs) (.slice va vm vk) (.int .i64 vl) (.int .i64 vc)
      exact ⟨⟨_, rfl, (HXDT.out.keep (fun k hk hl => hk6.block k hl (by have := hk.1; omega)) hk6.size).mono fun k hk => by have := hk.1; omega⟩, HRT.out.high hk6 HL.out, (HKA.out.trans' HKT.out).of_high hk6 (Nat.le_refl _)⟩
    have t1 : decide (b < least) = false := decide_eq_false hbl
    by_cases hbm : m < b
    · have t2 : decide (m < b) = true := decide_eq_true hbm
      have HRR : Hid (R = .ok X (t :: r)) := by unfold Hid; rw [HRF.out, if_pos (.inr (.inr hbm))]
      have hq0 := (HNA.out wt HKT.out).1
      have uf := Lib.frozen_of_heap hq0
      obtain ⟨p0, p1, p2, p3, p4, p5⟩ := cells6 hq0
      have hq := psix_set hq0 (.int .i64 vo) (.int .i64 vn) (.string vs) (.slice va vm vk) (.int .i64 vl) (.int .i64 vc)
      obtain ⟨q0, q1, q2, q3, q4, q5⟩ := cells6 hq
      obtain ⟨x0, x1, x2, x3, x4, x5⟩ := cells6 HXT.out
      clear hq0 hq
      go_wp2_with fail
      refine bodyPost_ret (v := .agg #[.int .i64 vo, .int .i64 vn, .string vs, .slice va vm vk, .int .i64 vl, .int .i64 vc]) (by simp [results, Tryd.results25, go_sem, q0, q1, q2, q3, q4, q5]) rfl ?_
      show PTo _ _ _ _ _ _ _
      rw [HRR.out]
      have hwz := HWZ.out
      have hk6 := kf_six w.heap.size wt (.int .i64 vo) (.int .i64 vn) (.string vs) (.slice va vm vk) (.int .i64 vl) (.int .i64 vc)
      exact ⟨⟨_, rfl, (HXDT.out.keep (fun k hk hl => hk6.block k hl (by have := hk.1; omega)) hk6.size).mono fun k hk => by have := hk.1; omega⟩, HRT.out.high hk6 HL.out, (HKA.out.trans' HKT.out).of_high hk6 (Nat.le_refl _)⟩
    have t2 : decide (m < b) = false := decide_eq_false hbm
    have HRF2 : Hid (R = (exprR f o (lwi b) r).bind fun y r2 => loopR f o least (mbe b) (.mk (j : Int) 0 [] [X, y] t.line t.col) r2) := by
      unfold Hid; rw [HRF.out, if_neg]; rintro (h | h | h) <;> omega
    have hER := ends_text HEN.out rfl htxt
    have HT := Lib.hid (take_any wt HRT.out hER)
    clear HRF hER HEN
    go_wp2_with fail
    refine HT.out.mono ?_
    rintro e w3 ⟨rfl, hr3, hk3⟩
    have HK3 : Hid (Kg g wa w3) := HKT.out.trans' hk3
    have htb : xb < w1r.heap.size ∧ w1r.heap.size < w3.heap.size := by
      have := HB1.out.size; have := HZT.out; have := hk3.size
      exact ⟨by omega, by omega⟩
    have HTB : Hid (w3.heap[w1r.heap.size]? = some (.cells #[.int .i64 t.kind, .string sb, .int .i64 t.num, .int .i64 t.line, .int .i64 t.col] 71 (0, 0))) := (hk3.block _ (by have := HZT.out; omega) (by omega)).trans HNT.out
    have HX3 : Hid (w3.heap[xb]? = some (.cells #[.int .i64 vo, .int .i64 vn, .string vs, .slice va vm vk, .int .i64 vl, .int .i64 vc] 24 (0, 0))) := (hk3.block xb hxt (by omega)).trans HXT.out
    have HXD3 : Hid (ExD (fun k => wa.heap.size ≤ k ∧ k ≠ xb) w3 X (.agg #[.int .i64 vo, .int .i64 vn, .string vs, .slice va vm vk, .int .i64 vl, .int .i64 vc])) := HXDT.out.keep (fun k hk hl => hk3.block k hl (by have := hk.1; have := HWZ.out; omega)) hk3.size
    have hlw := lwi_in hb0 hb7
    have HLW := Lib.hid fun W => least_any b hb0 (by omega) W
    have HMO := Lib.hid fun W => most_any b hb0 (by omega) W
    have HEC : Hid (∀ W, Below w3.heap.size w3 W → Calls Tryd.prog 25 #[.pointer (some ⟨g, 0, none⟩), .int .i64 (lwi b)] W (PTo g o W (REx W.heap.size) (exprR f o (lwi b) r))) := fun W hW =>
      hE f (by omega) g o (lwi b) r W (HGG.out W (HK3.out.trans' (Kg.of_below hW))) hg (hr3.below hW) (by omega) ho hlw.1 hlw.2
    have hxb3 : xb < w3.heap.size := by omega
    have HGE : Hid (g < w3.heap.size) := hr3.lt
    obtain ⟨x0, x1, x2, x3, x4, x5⟩ := cells6 HX3.out
    have HS : Hid (∀ W, Kf (fun k => k = g ∨ k = xb) w3 W → W.cell? ⟨w1r.heap.size, 3, none⟩ = some (.int .i64 t.line) ∧ W.cell? ⟨w1r.heap.size, 4, none⟩ = some (.int .i64 t.col) ∧ W.cell? ⟨0, j, none⟩ = some (.int .i64 b)) := fun W hW => by
      have h1 := (hW.block w1r.heap.size htb.2 (by omega)).trans HTB.out
      obtain ⟨_, _, _, a3, a4⟩ := cells5 h1
      refine ⟨a3, a4, ?_⟩
      rw [Kf.cell hW (p := ⟨0, j, none⟩) (show 0 < w3.heap.size by omega) (show ¬ (0 = g ∨ 0 = xb) by omega)]
      exact HBC.out w3 HK3.out
    clear hr3 hk3 HT s0 s1 s2 s3 s4 HXT HXDT HRT HNT hbc
    have hj0 : (0 : Int) ≤ (j : Int) := by omega
    have hj1 : (j : Int) < 31 := by omega
    have HXQ : Hid (∀ W, Kg g w3 W → W.heap[xb]? = some (.cells #[.int .i64 vo, .int .i64 vn, .string vs, .slice va vm vk, .int .i64 vl, .int .i64 vc] 24 (0, 0))) := fun W hW => (hW.block xb hxb3 (by omega)).trans HX3.out
    have HSG : Hid (∀ W, Kg g w3 W → W.cell? ⟨w1r.heap.size, 3, none⟩ = some (.int .i64 t.line) ∧ W.cell? ⟨w1r.heap.size, 4, none⟩ = some (.int .i64 t.col) ∧ W.cell? ⟨0, j, none⟩ = some (.int .i64 b)) := fun W hW => HS.out W (Kf.mono hW fun k hk => .inl (.inl hk))
    rcases hEE : exprR f o (lwi b) r with ⟨el, ec⟩ | ⟨y, r2⟩
    · rw [hEE] at HEC HRF2
      have HRB : Hid (R = .bad el ec) := HRF2.out
      have HBD : Hid (∀ W, Below w3.heap.size w3 W → Calls Tryd.prog 25 #[.pointer (some ⟨g, 0, none⟩), .int .i64 (lwi b)] W fun e wq => e = Thr el ec ∧ Hid (Below g w wq)) := fun W hW =>
        (HEC.out W hW).mono fun e wq ⟨h1, h2⟩ => ⟨h1, ((HKA.out.trans' HK3.out).low HL.out).trans ((hW.mono (Nat.le_of_lt HGE.out)).trans h2)⟩
      clear HEC HRF2 hEE
      go_upto_region 8 with (fail)
      refine wp_region_held_drew (S := fun W => W.cell? ⟨w1r.heap.size, 3, none⟩ = some (.int .i64 t.line) ∧ W.cell? ⟨w1r.heap.size, 4, none⟩ = some (.int .i64 t.col) ∧ W.cell? ⟨0, j, none⟩ = some (.int .i64 b)) (by kernel_rfl) (HSG.out _ (Kf.drew (Kf.refl _ _))) (fun hHeld => ?_)
      refine wpAnyH_take (i := 0) (v := ?_) rfl (by kernel_rfl) (by kernel_rfl) (by kernel_rfl) (fun _ _ _ h => h) (Or.inl ⟨by rfl, ?_⟩) (by assumption) ?_
      rotate_left 1
      · intro w hSw
        (try dsimp only at hSw)
        first | (go_simp; done) | (go_simp; with_reducible rfl)
      try simp only [Act.put]
      refine wpAnyH_take (i := 2) (v := ?_) rfl (by kernel_rfl) (by kernel_rfl) (by kernel_rfl) (fun _ _ _ h => h) (Or.inl ⟨by rfl, ?_⟩) (by assumption) ?_
      rotate_left 1
      · intro w hSw
        (try dsimp only at hSw)
        first | (go_simp; done) | (go_simp; with_reducible rfl)
      try simp only [Act.put]
      refine wpAnyH_take (i := 3) (v := ?_) rfl (by kernel_rfl) (by kernel_rfl) (by kernel_rfl) (fun _ _ _ h => h) (Or.inl ⟨by rfl, ?_⟩) (by assumption) ?_
      rotate_left 1
      · intro w hSw
        (try dsimp only at hSw)
        first | (go_simp; done) | (go_simp; with_reducible rfl)
      try simp only [Act.put]
      refine wpAnyH_take (i := 4) (v := ?_) rfl (by kernel_rfl) (by kernel_rfl) (by kernel_rfl) (fun _ _ _ h => h) (Or.inl ⟨by rfl, ?_⟩) (by assumption) ?_
      rotate_left 1
      · intro w hSw
        (try dsimp only at hSw)
        first | (go_simp; done) | (go_simp; with_reducible rfl)
      try simp only [Act.put]
      refine wpAnyH_take (i := 5) (v := ?_) rfl (by kernel_rfl) (by kernel_rfl) (by kernel_rfl) (fun _ _ _ h => h) (Or.inl ⟨by rfl, ?_⟩) (by assumption) ?_
      rotate_left 1
      · intro w hSw
        (try dsimp only at hSw)
        first | (go_simp; done) | (go_simp; with_reducible rfl)
      try simp only [Act.put]
      refine wpAnyH_take (i := 9) (v := ?_) rfl (by kernel_rfl) (by kernel_rfl) (by kernel_rfl) (fun _ _ _ h => h) (Or.inl ⟨by rfl, ?_⟩) (by assumption) ?_
      rotate_left 1
      · intro w hSw
        (try dsimp only at hSw)
        first | (go_simp; done) | (go_simp; with_reducible rfl)
      try simp only [Act.put]
      refine wpAnyH_take (i := 10) (v := ?_) rfl (by kernel_rfl) (by kernel_rfl) (by kernel_rfl) (fun _ _ _ h => h) (Or.inl ⟨by rfl, ?_⟩) (by assumption) ?_
      rotate_left 1
      · intro w hSw
        (try dsimp only at hSw)
        first | (go_simp; done) | (go_simp; with_reducible rfl)
      try simp only [Act.put]
      refine wpAnyH_take (i := 11) (v := ?_) rfl (by kernel_rfl) (by kernel_rfl) (by kernel_rfl) (fun _ _ _ h => h) (Or.inl ⟨by rfl, ?_⟩) (by assumption) ?_
      rotate_left 1
      · intro w hSw
        (try dsimp only at hSw)
        first | (go_simp; done) | (go_simp; with_reducible rfl)
      try simp only [Act.put]
      refine wpAnyH_take (i := 12) (v := ?_) rfl (by kernel_rfl) (by kernel_rfl) (by kernel_rfl) (fun _ _ _ h => h) (Or.inl ⟨by rfl, ?_⟩) (by assumption) ?_
      rotate_left 1
      · intro w hSw
        (try dsimp only at hSw)
        first | (go_simp; done) | (go_simp; with_reducible rfl)
      try simp only [Act.put]
      refine wpAnyH_ready (rs := [1, 6]) (by kernel_rfl) (by simp) ?_
      refine AllReadyH.cons rfl (fun K hK => ?_) ?_
      ·
        go_simp
        refine hK.out _ _ hHeld (fun hHeld => ?_)
        clear hK K
        refine wpAnyH_ready (rs := [6]) (by kernel_rfl) (by simp) ?_
        refine AllReadyH.cons rfl (fun K hK => ?_) ?_
        ·
          go_simp
          go_at_call 48
          refine (HLW.out _).mono ?_
          rintro e w6 ⟨rfl, rfl⟩
          refine hK.out _ _ hHeld (fun hHeld => ?_)
          clear hK K
          refine wpAnyH_ready (rs := [7]) (by kernel_rfl) (by simp) ?_
          refine AllReadyH.cons rfl (fun K hK => ?_) ?_
          ·
            go_simp
            go_at_call 25
            refine (HBD.out _ (Below.drew (Below.refl _ _))).mono ?_
            rintro e wq ⟨rfl, hbq⟩
            refine ⟨rfl, ?_⟩
            show PTo _ _ _ _ _ _ _
            rw [HRB.out]
            exact ⟨rfl, hbq.out⟩
          exact AllReadyH.nil
        exact AllReadyH.nil
      refine AllReadyH.cons rfl (fun K hK => ?_) ?_
      ·
        go_simp
        go_at_call 48
        refine (HLW.out _).mono ?_
        rintro e w6 ⟨rfl, rfl⟩
        refine hK.out _ _ hHeld (fun hHeld => ?_)
        clear hK K
        refine wpAnyH_ready (rs := [1, 7]) (by kernel_rfl) (by simp) ?_
        refine AllReadyH.cons rfl (fun K hK => ?_) ?_
        ·
          go_simp
          refine hK.out _ _ hHeld (fun hHeld => ?_)
          clear hK K
          refine wpAnyH_ready (rs := [7]) (by kernel_rfl) (by simp) ?_
          refine AllReadyH.cons rfl (fun K hK => ?_) ?_
          ·
            go_simp
            go_at_call 25
            refine (HBD.out _ (Below.drew (Below.refl _ _))).mono ?_
            rintro e wq ⟨rfl, hbq⟩
            refine ⟨rfl, ?_⟩
            show PTo _ _ _ _ _ _ _
            rw [HRB.out]
            exact ⟨rfl, hbq.out⟩
          exact AllReadyH.nil
        refine AllReadyH.cons rfl (fun K hK => ?_) ?_
        ·
          go_simp
          go_at_call 25
          refine (HBD.out _ (Below.drew (Below.refl _ _))).mono ?_
          rintro e wq ⟨rfl, hbq⟩
          refine ⟨rfl, ?_⟩
          show PTo _ _ _ _ _ _ _
          rw [HRB.out]
          exact ⟨rfl, hbq.out⟩
        exact AllReadyH.nil
      exact AllReadyH.nil
    · rw [hEE] at HEC HRF2
      have HRG : Hid (R = loopR f o least (mbe b) (.mk (j : Int) 0 [] [X, y] t.line t.col) r2) := HRF2.out
      have hr2l := (len_all f).1 o (lwi b) r y r2 hEE
      have HOK : Hid (∀ W, Below w3.heap.size w3 W → Calls Tryd.prog 25 #[.pointer (some ⟨g, 0, none⟩), .int .i64 (lwi b)] W fun e wq => ∃ (yo yn : Int) (ys : ByteArray) (ya : Option Addr) (ym yk : Nat) (yl yc : Int), e = .returned (.agg #[.int .i64 yo, .int .i64 yn, .string ys, .slice ya ym yk, .int .i64 yl, .int .i64 yc]) ∧
          Hid (ExD (fun k => w3.heap.size ≤ k) wq y (.agg #[.int .i64 yo, .int .i64 yn, .string ys, .slice ya ym yk, .int .i64 yl, .int .i64 yc])) ∧ Hid (Rdr wq g r2 o) ∧ Hid (Kg g w3 wq)) := fun W hW =>
        (HEC.out W hW).mono fun e wq ⟨⟨v, h1, h2⟩, h3, h4⟩ => by
          obtain ⟨yo, yn, ys, ya, ym, yk, yl, yc, rfl⟩ := exv_form h2.val
          exact ⟨yo, yn, ys, ya, ym, yk, yl, yc, h1, h2.mono fun k hk => Nat.le_trans hW.size hk, h3, (Kg.of_below hW).trans' h4⟩
      have HNN : Hid (ExN (j : Int) 0 t.line t.col) := by
        have h1 := HTOK.out.l0; have h2 := HTOK.out.l1; have h3 := HTOK.out.c0; have h4 := HTOK.out.c1
        exact ⟨wf_in (by omega) (by omega), wf_in (by omega) (by omega), wf_in (by omega) (by omega), wf_in (by omega) (by omega)⟩
      clear HEC HRF2 hEE
      go_upto_region 8 with (fail)
      go_cut [] (fun wz => ∃ nb : Nat, Hid (wz.heap[xb]? = some (.cells #[.int .i64 (j : Int), .int .i64 0, .string ⟨#[]⟩, .slice (some ⟨nb, 0, none⟩) 2 2, .int .i64 t.line, .int .i64 t.col] 24 (0, 0))) ∧ Hid (ExD (fun k => wa.heap.size ≤ k ∧ k ≠ xb) wz (.mk (j : Int) 0 [] [X, y] t.line t.col) (.agg #[.int .i64 (j : Int), .int .i64 0, .string ⟨#[]⟩, .slice (some ⟨nb, 0, none⟩) 2 2, .int .i64 t.line, .int .i64 t.col])) ∧ Hid (Rdr wz g r2 o) ∧ Hid (Kg g wa wz))
      case first =>
        refine wp_region_held_drew (S := fun W => W.cell? ⟨w1r.heap.size, 3, none⟩ = some (.int .i64 t.line) ∧ W.cell? ⟨w1r.heap.size, 4, none⟩ = some (.int .i64 t.col) ∧ W.cell? ⟨0, j, none⟩ = some (.int .i64 b)) (by kernel_rfl) (HSG.out _ (Kf.drew (Kf.refl _ _))) (fun hHeld => ?_)
        refine wpAnyH_take (i := 0) (v := ?_) rfl (by kernel_rfl) (by kernel_rfl) (by kernel_rfl) (fun _ _ _ h => h) (Or.inl ⟨by rfl, ?_⟩) (by assumption) ?_
        rotate_left 1
        · intro w hSw
          (try dsimp only at hSw)
          first | (go_simp; done) | (go_simp; with_reducible rfl)
        try simp only [Act.put]
        refine wpAnyH_take (i := 2) (v := ?_) rfl (by kernel_rfl) (by kernel_rfl) (by kernel_rfl) (fun _ _ _ h => h) (Or.inl ⟨by rfl, ?_⟩) (by assumption) ?_
        rotate_left 1
        · intro w hSw
          (try dsimp only at hSw)
          first | (go_simp; done) | (go_simp; with_reducible rfl)
        try simp only [Act.put]
        refine wpAnyH_take (i := 3) (v := ?_) rfl (by kernel_rfl) (by kernel_rfl) (by kernel_rfl) (fun _ _ _ h => h) (Or.inl ⟨by rfl, ?_⟩) (by assumption) ?_
        rotate_left 1
        · intro w hSw
          (try dsimp only at hSw)
          first | (go_simp; done) | (go_simp; with_reducible rfl)
        try simp only [Act.put]
        refine wpAnyH_take (i := 4) (v := ?_) rfl (by kernel_rfl) (by kernel_rfl) (by kernel_rfl) (fun _ _ _ h => h) (Or.inl ⟨by rfl, ?_⟩) (by assumption) ?_
        rotate_left 1
        · intro w hSw
          (try dsimp only at hSw)
          first | (go_simp; done) | (go_simp; with_reducible rfl)
        try simp only [Act.put]
        refine wpAnyH_take (i := 5) (v := ?_) rfl (by kernel_rfl) (by kernel_rfl) (by kernel_rfl) (fun _ _ _ h => h) (Or.inl ⟨by rfl, ?_⟩) (by assumption) ?_
        rotate_left 1
        · intro w hSw
          (try dsimp only at hSw)
          first | (go_simp; done) | (go_simp; with_reducible rfl)
        try simp only [Act.put]
        refine wpAnyH_take (i := 9) (v := ?_) rfl (by kernel_rfl) (by kernel_rfl) (by kernel_rfl) (fun _ _ _ h => h) (Or.inl ⟨by rfl, ?_⟩) (by assumption) ?_
        rotate_left 1
        · intro w hSw
          (try dsimp only at hSw)
          first | (go_simp; done) | (go_simp; with_reducible rfl)
        try simp only [Act.put]
        refine wpAnyH_take (i := 10) (v := ?_) rfl (by kernel_rfl) (by kernel_rfl) (by kernel_rfl) (fun _ _ _ h => h) (Or.inl ⟨by rfl, ?_⟩) (by assumption) ?_
        rotate_left 1
        · intro w hSw
          (try dsimp only at hSw)
          first | (go_simp; done) | (go_simp; with_reducible rfl)
        try simp only [Act.put]
        refine wpAnyH_take (i := 11) (v := ?_) rfl (by kernel_rfl) (by kernel_rfl) (by kernel_rfl) (fun _ _ _ h => h) (Or.inl ⟨by rfl, ?_⟩) (by assumption) ?_
        rotate_left 1
        · intro w hSw
          (try dsimp only at hSw)
          first | (go_simp; done) | (go_simp; with_reducible rfl)
        try simp only [Act.put]
        refine wpAnyH_take (i := 12) (v := ?_) rfl (by kernel_rfl) (by kernel_rfl) (by kernel_rfl) (fun _ _ _ h => h) (Or.inl ⟨by rfl, ?_⟩) (by assumption) ?_
        rotate_left 1
        · intro w hSw
          (try dsimp only at hSw)
          first | (go_simp; done) | (go_simp; with_reducible rfl)
        try simp only [Act.put]
        refine wpAnyH_ready (rs := [1, 6]) (by kernel_rfl) (by simp) ?_
        refine AllReadyH.cons rfl (fun K hK => ?_) ?_
        ·
          go_simp
          refine hK.out _ _ hHeld (fun hHeld => ?_)
          clear hK K
          refine wpAnyH_ready (rs := [6]) (by kernel_rfl) (by simp) ?_
          refine AllReadyH.cons rfl (fun K hK => ?_) ?_
          ·
            go_simp
            go_at_call 48
            refine (HLW.out _).mono ?_
            rintro e w6 ⟨rfl, rfl⟩
            refine hK.out _ _ hHeld (fun hHeld => ?_)
            clear hK K
            refine wpAnyH_ready (rs := [7]) (by kernel_rfl) (by simp) ?_
            refine AllReadyH.cons rfl (fun K hK => ?_) ?_
            ·
              go_simp
              go_at_call 25
              refine (HOK.out _ (Below.drew (Below.refl _ _))).mono ?_
              rintro e wq ⟨yo, yn, ys, ya, ym, yk, yl, yc, rfl, hdq, hrq, hkq⟩
              refine hK.out _ _ (HSG.out wq hkq.out) (fun hHeld => ?_)
              obtain ⟨y0, y1, y2, y3, y4, y5⟩ := cells6 (HXQ.out wq hkq.out)
              have uq := Lib.frozen_of_heap (HXQ.out wq hkq.out)
              have hszq : w3.heap.size ≤ wq.heap.size := hkq.out.size
              have hxq : xb < wq.heap.size := by omega
              clear hK K
              refine wpAnyH_ready (rs := [8]) (by kernel_rfl) (by simp) ?_
              refine AllReadyH.cons rfl (fun K hK => ?_) ?_
              ·
                go_simp
                refine hK.out _ _ (HSG.out _ (Kf.alloc hkq.out _)) (fun hHeld => ?_)
                clear hK K
                refine wpAnyH_take (i := 13) (v := ?_) rfl (by kernel_rfl) (by kernel_rfl) (by kernel_rfl) (fun _ _ _ h => h) (Or.inl ⟨by rfl, ?_⟩) (by assumption) ?_
                rotate_left 1
                · intro w hSw
                  (try dsimp only at hSw)
                  first | (go_simp; done) | (go_simp; with_reducible rfl)
                try simp only [Act.put]
                refine wpAnyH_ready (rs := [14]) (by kernel_rfl) (by simp) ?_
                refine AllReadyH.cons rfl (fun K hK => ?_) ?_
                ·
                  go_simp
                  refine hK.out _ _ (HS.out _ (Kf.alloc (Kf.trans (Kf.mono hkq.out fun k hk => .inl (.inl hk) : Kf (fun k => k = g ∨ k = xb) w3 wq) (kf_six xb wq _ _ _ _ _ _) (fun _ hx => .inl (.inr hx))) _)) (fun hHeld => ?_)
                  clear hK K
                  refine wpAnyH_done (by kernel_rfl) ?_ _
                  go_wp2_with fail
                  go_meet
                  obtain ⟨h1, h2, h3⟩ := node_two (j : Int) t.line t.col (HXQ.out wq hkq.out) (HXD3.out.keep (fun k hk hl => hkq.out.block k hl (by have := hk.1; have := HWZ.out; omega)) hkq.out.size) hdq.out (by omega) (by omega) HNN.out _ rfl
                  exact ⟨_, h1, h2, hrq.out.high h3 (by omega), (HK3.out.trans' hkq.out).of_high h3 (by omega)⟩
                exact AllReadyH.nil
              exact AllReadyH.nil
            exact AllReadyH.nil
          exact AllReadyH.nil
        refine AllReadyH.cons rfl (fun K hK => ?_) ?_
        ·
          go_simp
          go_at_call 48
          refine (HLW.out _).mono ?_
          rintro e w6 ⟨rfl, rfl⟩
          refine hK.out _ _ hHeld (fun hHeld => ?_)
          clear hK K
          refine wpAnyH_ready (rs := [1, 7]) (by kernel_rfl) (by simp) ?_
          refine AllReadyH.cons rfl (fun K hK => ?_) ?_
          ·
            go_simp
            refine hK.out _ _ hHeld (fun hHeld => ?_)
            clear hK K
            refine wpAnyH_ready (rs := [7]) (by kernel_rfl) (by simp) ?_
            refine AllReadyH.cons rfl (fun K hK => ?_) ?_
            ·
              go_simp
              go_at_call 25
              refine (HOK.out _ (Below.drew (Below.refl _ _))).mono ?_
              rintro e wq ⟨yo, yn, ys, ya, ym, yk, yl, yc, rfl, hdq, hrq, hkq⟩
              refine hK.out _ _ (HSG.out wq hkq.out) (fun hHeld => ?_)
              obtain ⟨y0, y1, y2, y3, y4, y5⟩ := cells6 (HXQ.out wq hkq.out)
              have uq := Lib.frozen_of_heap (HXQ.out wq hkq.out)
              have hszq : w3.heap.size ≤ wq.heap.size := hkq.out.size
              have hxq : xb < wq.heap.size := by omega
              clear hK K
              refine wpAnyH_ready (rs := [8]) (by kernel_rfl) (by simp) ?_
              refine AllReadyH.cons rfl (fun K hK => ?_) ?_
              ·
                go_simp
                refine hK.out _ _ (HSG.out _ (Kf.alloc hkq.out _)) (fun hHeld => ?_)
                clear hK K
                refine wpAnyH_take (i := 13) (v := ?_) rfl (by kernel_rfl) (by kernel_rfl) (by kernel_rfl) (fun _ _ _ h => h) (Or.inl ⟨by rfl, ?_⟩) (by assumption) ?_
                rotate_left 1
                · intro w hSw
                  (try dsimp only at hSw)
                  first | (go_simp; done) | (go_simp; with_reducible rfl)
                try simp only [Act.put]
                refine wpAnyH_ready (rs := [14]) (by kernel_rfl) (by simp) ?_
                refine AllReadyH.cons rfl (fun K hK => ?_) ?_
                ·
                  go_simp
                  refine hK.out _ _ (HS.out _ (Kf.alloc (Kf.trans (Kf.mono hkq.out fun k hk => .inl (.inl hk) : Kf (fun k => k = g ∨ k = xb) w3 wq) (kf_six xb wq _ _ _ _ _ _) (fun _ hx => .inl (.inr hx))) _)) (fun hHeld => ?_)
                  clear hK K
                  refine wpAnyH_done (by kernel_rfl) ?_ _
                  go_wp2_with fail
                  go_meet
                  obtain ⟨h1, h2, h3⟩ := node_two (j : Int) t.line t.col (HXQ.out wq hkq.out) (HXD3.out.keep (fun k hk hl => hkq.out.block k hl (by have := hk.1; have := HWZ.out; omega)) hkq.out.size) hdq.out (by omega) (by omega) HNN.out _ rfl
                  exact ⟨_, h1, h2, hrq.out.high h3 (by omega), (HK3.out.trans' hkq.out).of_high h3 (by omega)⟩
                exact AllReadyH.nil
              exact AllReadyH.nil
            exact AllReadyH.nil
          refine AllReadyH.cons rfl (fun K hK => ?_) ?_
          ·
            go_simp
            go_at_call 25
            refine (HOK.out _ (Below.drew (Below.refl _ _))).mono ?_
            rintro e wq ⟨yo, yn, ys, ya, ym, yk, yl, yc, rfl, hdq, hrq, hkq⟩
            refine hK.out _ _ (HSG.out wq hkq.out) (fun hHeld => ?_)
            obtain ⟨y0, y1, y2, y3, y4, y5⟩ := cells6 (HXQ.out wq hkq.out)
            have uq := Lib.frozen_of_heap (HXQ.out wq hkq.out)
            have hszq : w3.heap.size ≤ wq.heap.size := hkq.out.size
            have hxq : xb < wq.heap.size := by omega
            clear hK K
            refine wpAnyH_ready (rs := [1]) (by kernel_rfl) (by simp) ?_
            refine AllReadyH.cons rfl (fun K hK => ?_) ?_
            ·
              go_simp
              refine hK.out _ _ hHeld (fun hHeld => ?_)
              clear hK K
              refine wpAnyH_ready (rs := [8]) (by kernel_rfl) (by simp) ?_
              refine AllReadyH.cons rfl (fun K hK => ?_) ?_
              ·
                go_simp
                refine hK.out _ _ (HSG.out _ (Kf.alloc hkq.out _)) (fun hHeld => ?_)
                clear hK K
                refine wpAnyH_take (i := 13) (v := ?_) rfl (by kernel_rfl) (by kernel_rfl) (by kernel_rfl) (fun _ _ _ h => h) (Or.inl ⟨by rfl, ?_⟩) (by assumption) ?_
                rotate_left 1
                · intro w hSw
                  (try dsimp only at hSw)
                  first | (go_simp; done) | (go_simp; with_reducible rfl)
                try simp only [Act.put]
                refine wpAnyH_ready (rs := [14]) (by kernel_rfl) (by simp) ?_
                refine AllReadyH.cons rfl (fun K hK => ?_) ?_
                ·
                  go_simp
                  refine hK.out _ _ (HS.out _ (Kf.alloc (Kf.trans (Kf.mono hkq.out fun k hk => .inl (.inl hk) : Kf (fun k => k = g ∨ k = xb) w3 wq) (kf_six xb wq _ _ _ _ _ _) (fun _ hx => .inl (.inr hx))) _)) (fun hHeld => ?_)
                  clear hK K
                  refine wpAnyH_done (by kernel_rfl) ?_ _
                  go_wp2_with fail
                  go_meet
                  obtain ⟨h1, h2, h3⟩ := node_two (j : Int) t.line t.col (HXQ.out wq hkq.out) (HXD3.out.keep (fun k hk hl => hkq.out.block k hl (by have := hk.1; have := HWZ.out; omega)) hkq.out.size) hdq.out (by omega) (by omega) HNN.out _ rfl
                  exact ⟨_, h1, h2, hrq.out.high h3 (by omega), (HK3.out.trans' hkq.out).of_high h3 (by omega)⟩
                exact AllReadyH.nil
              exact AllReadyH.nil
            exact AllReadyH.nil
          exact AllReadyH.nil
        exact AllReadyH.nil
      case rest =>
        obtain ⟨nb, HZX, HZD, HZR, HZK⟩ := hcut
        have hbz := HBC.out wc HZK.out
        have hmb := mbe_in hb0 hb7
        have hr2n := hr2l
        clear x0 x1 x2 x3 x4 x5 hr2l
        rcases gk with _ | gk
        · exfalso; omega
        go_wp2_with (refine (HMO.out _).mono ?_; rintro e wq ⟨rfl, rfl⟩)
        go_roundg gk
        case rel => exact ⟨_, r2, f, mbe b, _, _, _, _, _, _, _, _, rfl, hmb.1, hmb.2, by omega, by omega, by omega, HRG.out, HZR.out, HZK.out, HZX.out, HZD.out⟩
        case measure => omega
end Go.Proofs.YtmkhfcdjgdofnaaDoor
