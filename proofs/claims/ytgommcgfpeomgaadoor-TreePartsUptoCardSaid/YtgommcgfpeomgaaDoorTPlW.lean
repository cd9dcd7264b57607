/- The walk of TreePlaces: where a thing stands doesn't count. -/
import Derived.Test.YtgommcgfpeomgaaDoorTreL
namespace Go.Proofs.YtgommcgfpeomgaaDoor.TPlaces
open Go.RowKit TreM WrdM

def exprS (X : Ex) : ByteArray := if writB X then ⟨(text X).toArray⟩ else ⟨#[]⟩
def exprE (X : Ex) : Int := if writB X then 0 else 141
theorem expr_two (X : Ex) (v : Value) (w : World) (hG : TrG w) (h : ExV w X v) (hw : wt X ≤ 2097160) :
    Calls Tryd.prog 6 #[v] w fun e w' => e = .returned (.tuple #[.string (exprS X), .int .i64 (exprE X)]) ∧ Below w.heap.size w w' := by
  refine (expr_any X v w hG h (fun hx => writ_len hx hw)).mono ?_
  rintro e w' ⟨rfl, hB⟩
  refine ⟨?_, hB⟩
  unfold exprS exprE
  split <;> rfl

abbrev cX (o n : Int) (sb : ByteArray) (A : Option Addr) (m cap : Nat) (l c : Int) : List Value := [.int .i64 o, .int .i64 n, .string sb, .slice A m cap, .int .i64 l, .int .i64 c]
abbrev cT (g : Nat) : List Value := [.int .i64 6, .int .i64 0, .string ⟨#[]⟩, .slice (some ⟨g, 0, none⟩) 1 1, .int .i64 0, .int .i64 0]
/-- x's box with other places. -/
theorem set_two {w1 w2 : World} {o n l c L C : Int} {sb : ByteArray} {A : Option Addr} {m cap : Nat} (h : w2 = ((w1.alloc (.cells (cX o n sb A m cap l c).toArray 27)).setCell ⟨w1.heap.size, 4, none⟩ (.int .i64 L)).setCell ⟨w1.heap.size, 5, none⟩ (.int .i64 C)) :
    Below w1.heap.size w1 w2 ∧ w2.heap.size = w1.heap.size + 1 ∧ w2.heap[w1.heap.size]? = some (.cells (cX o n sb A m cap L C).toArray 27) := by
  have hb : Below w1.heap.size w1 w2 := by
    rw [h]
    exact ((below_alloc w1 _).setCell (p := ⟨w1.heap.size, 4, none⟩) (Nat.le_refl _) _).setCell (p := ⟨w1.heap.size, 5, none⟩) (Nat.le_refl _) _
  refine ⟨hb, ?_, ?_⟩
  · rw [h]; simp
  · have e0 := blk_new w1 (.cells (cX o n sb A m cap l c).toArray 27)
    rw [h]
    unfold World.setCell
    simp only [Array.getElem?_modify, if_true, e0]
    rfl
theorem turned_eq (X : Ex) (l c : Int) (hT : writB (.mk 6 0 [] [X] l c) = true) : exprS (.mk 6 0 [] [X] l c) = ⟨([33] ++ inner X).toArray⟩ := by
  unfold exprS
  rw [if_pos hT, text_not]

set_option maxHeartbeats 6400000 in
set_option maxRecDepth 100000 in
theorem walk (X : Ex) (v : Value) (L C : Int) (w : World) (hG : TrG w) (hv : ExV w X v) (hL : -9223372036854775808 ≤ L ∧ L ≤ 9223372036854775807) (hC : -9223372036854775808 ≤ C ∧ C ≤ 9223372036854775807) (hwt : wt X ≤ 1048576) :
    Calls Tryd.prog 4 #[v, .int .i64 L, .int .i64 C] w fun e w' => e = .returned (.bool true) ∧ Below w.heap.size w w' := by
  cases X with
  | mk o n s ks l c =>
  obtain ⟨A, cap, rfl, hB, hK⟩ := hv.open
  have hwY : wt (.mk o n s ks L C) ≤ 2097160 := by rw [wt] at hwt ⊢; omega
  have hwT : wt (.mk 6 0 [] [.mk o n s ks l c] 0 0) ≤ 2097160 := by rw [wt, wtL, wtL]; simp only [List.length_nil]; omega
  have hsz : TreM.size (.mk o n s ks l c) ≤ 1048576 := Nat.le_trans (size_wt _) hwt
  have hszT : TreM.size (.mk 6 0 [] [.mk o n s ks l c] 0 0) = TreM.size (.mk o n s ks l c) + 1 := size_not _ _ _
  -- the values, in any later world
  have HX : Hid (∀ W, Below w.heap.size w W → ExV W (.mk o n s ks l c) (.agg (cX o n ⟨s.toArray⟩ A ks.length cap l c).toArray)) := fun W hW => hv.below hW
  have HY : Hid (∀ W, Below w.heap.size w W → ExV W (.mk o n s ks L C) (.agg (cX o n ⟨s.toArray⟩ A ks.length cap L C).toArray)) := fun W hW => exv_mk ⟨hB.o0, hB.o1, hB.n0, hB.n1, hB.s, hB.m, hB.cap⟩ hL hC (hK.below hW)
  have HT : Hid (∀ W g, Below w.heap.size w W → W.heap[g]? = some (.cells (cX o n ⟨s.toArray⟩ A ks.length cap l c).toArray 27) → ExV W (.mk 6 0 [] [.mk o n s ks l c] 0 0) (.agg (cT g).toArray)) := fun W g hW hg =>
    exv_mk (A := some ⟨g, 0, none⟩) (cap := 1) (ks := [.mk o n s ks l c]) (s := []) (exb0 (by decide) (by decide) (by decide) (Nat.le_refl 1) (by decide)) (by decide) (by decide) (kds_one hg (hv.below hW))
  have HG : Hid (∀ W, Below w.heap.size w W → TrG W) := fun W hW => hG.below hW hG.n
  have HEX : Hid (∀ W v, TrG W → ExV W (.mk o n s ks l c) v → Calls Tryd.prog 6 #[v] W fun e w' => e = .returned (.tuple #[.string (exprS (.mk o n s ks l c)), .int .i64 (exprE (.mk o n s ks l c))]) ∧ Below W.heap.size W w') := fun W v hg h => expr_two _ v W hg h (by omega)
  have hYe : exprS (.mk o n s ks L C) = exprS (.mk o n s ks l c) ∧ exprE (.mk o n s ks L C) = exprE (.mk o n s ks l c) := by
    unfold exprS exprE
    rw [writ_place o n s ks L C l c, text_place o n s ks L C l c]
    exact ⟨rfl, rfl⟩
  have HEY : Hid (∀ W v, TrG W → ExV W (.mk o n s ks L C) v → Calls Tryd.prog 6 #[v] W fun e w' => e = .returned (.tuple #[.string (exprS (.mk o n s ks l c)), .int .i64 (exprE (.mk o n s ks l c))]) ∧ Below W.heap.size W w') := fun W v hg h => by
    have := expr_two _ v W hg h hwY
    rw [hYe.1, hYe.2] at this
    exact this
  have HET : Hid (∀ W v, TrG W → ExV W (.mk 6 0 [] [.mk o n s ks l c] 0 0) v → Calls Tryd.prog 6 #[v] W fun e w' => e = .returned (.tuple #[.string (exprS (.mk 6 0 [] [.mk o n s ks l c] 0 0)), .int .i64 (exprE (.mk 6 0 [] [.mk o n s ks l c] 0 0))]) ∧ Below W.heap.size W w') := fun W v hg h => expr_two _ v W hg h hwT
  have HSame : Hid (∀ W u v, ExV W (.mk o n s ks l c) u → ExV W (.mk o n s ks L C) v → Calls Tryd.prog 11 #[u, v] W fun e w' => e = .returned (.bool true) ∧ Below W.heap.size W w') := fun W u v hu hv => by
    have := same_any _ _ u v W hu hv
    rw [same_place] at this
    exact this
  have HNot : Hid (∀ W u v, ExV W (.mk o n s ks l c) u → ExV W (.mk 6 0 [] [.mk o n s ks l c] 0 0) v → Calls Tryd.prog 11 #[u, v] W fun e w' => e = .returned (.bool false) ∧ Below W.heap.size W w') := fun W u v hu hv => by
    have := same_any _ _ u v W hu hv
    rw [same_not (by rw [hszT]; omega)] at this
    exact this
  have HSX : Hid (∀ W v, ExV W (.mk o n s ks l c) v → Calls Tryd.prog 12 #[v] W fun e w' => e = .returned (.int .i64 (TreM.size (.mk o n s ks l c) : Nat)) ∧ Below W.heap.size W w') := fun W v h => size_any _ v W h (by omega)
  have HST : Hid (∀ W v, ExV W (.mk 6 0 [] [.mk o n s ks l c] 0 0) v → Calls Tryd.prog 12 #[v] W fun e w' => e = .returned (.int .i64 ((TreM.size (.mk o n s ks l c) + 1 : Nat))) ∧ Below W.heap.size W w') := fun W v h => by
    have := size_any _ v W h (by rw [hszT]; omega)
    rw [hszT] at this
    exact this
  have hcase : (exprE (.mk o n s ks l c) = 141 ∧ exprE (.mk 6 0 [] [.mk o n s ks l c] 0 0) = 141) ∨ (exprE (.mk o n s ks l c) = 0 ∧ exprE (.mk 6 0 [] [.mk o n s ks l c] 0 0) = 141) ∨
      (exprE (.mk o n s ks l c) = 0 ∧ exprE (.mk 6 0 [] [.mk o n s ks l c] 0 0) = 0 ∧ (exprS (.mk o n s ks l c)).size ≤ 1000000000 ∧ exprS (.mk 6 0 [] [.mk o n s ks l c] 0 0) = ⟨([33] ++ inner (.mk o n s ks l c)).toArray⟩ ∧ exprS (.mk o n s ks l c) = ⟨(text (.mk o n s ks l c)).toArray⟩) := by
    rcases hT : writB (.mk 6 0 [] [.mk o n s ks l c] 0 0) with _ | _
    · have e1 : exprE (.mk 6 0 [] [.mk o n s ks l c] 0 0) = 141 := by unfold exprE; rw [hT]; rfl
      rcases hX : writB (.mk o n s ks l c) with _ | _
      · left; exact ⟨by unfold exprE; rw [hX]; rfl, e1⟩
      · right; left; exact ⟨by unfold exprE; rw [hX]; rfl, e1⟩
    · have hX := writ_not _ _ _ hT
      have e2 : exprS (.mk o n s ks l c) = ⟨(text (.mk o n s ks l c)).toArray⟩ := by unfold exprS; rw [hX]; rfl
      right; right
      refine ⟨by unfold exprE; rw [hX]; rfl, by unfold exprE; rw [hT]; rfl, ?_, turned_eq _ _ _ hT, e2⟩
      rw [e2, size_mk]
      have := text_len _ (writ_shape hX)
      omega
  have hin := inner_eq (.mk o n s ks l c)
  rw [show (Ex.mk o n s ks l c).kids = ks from rfl] at hin
  have HIN := Lib.hid hin
  have HCS := Lib.hid hcase
  have HKL : Hid ((ks.isEmpty = true ∧ ks.length = 0) ∨ (ks.isEmpty = false ∧ ((ks.length : Int) == 0) = false)) := by
    cases ks with
    | nil => left; exact ⟨rfl, rfl⟩
    | cons a r => right; exact ⟨rfl, by rw [beq_eq_false_iff_ne]; simp only [List.length_cons]; omega⟩
  have hcap := hB.cap
  have hmc := hB.m
  clear hin hcase hYe hszT hwT hwY hwt hK hB hG hv
  generalize Ex.mk 6 0 [] [.mk o n s ks l c] 0 0 = T at *
  generalize Ex.mk o n s ks L C = Y at *
  generalize Ex.mk o n s ks l c = X at *
  generalize exprS X = sX at *
  generalize exprE X = eX at *
  generalize exprS T = sT at *
  generalize exprE T = eT at *
  generalize (⟨s.toArray⟩ : ByteArray) = sb at *
  generalize ks.length = m at *
  generalize ks.isEmpty = em at *
  generalize TreM.size X = z at *
  -- the worlds
  obtain ⟨wa, hwa⟩ : ∃ wa, wa = w.alloc (.cells (cX o n sb A m cap l c).toArray 27) := ⟨_, rfl⟩
  have hza : wa.heap.size = w.heap.size + 1 := by rw [hwa, alloc_size]
  have hba : Below w.heap.size w wa := by rw [hwa]; exact below_alloc w _
  have hga : wa.heap[w.heap.size]? = some (.cells (cX o n sb A m cap l c).toArray 27) := by rw [hwa]; exact blk_new w _
  have HA := Lib.hid (alive_any wa (HG.out wa hba))
  have HBa := Lib.hid hba
  have HBX : Hid (∀ W, Below wa.heap.size wa W → W.heap[w.heap.size]? = some (.cells (cX o n sb A m cap l c).toArray 27)) := fun W hW => (hW.block _ (by omega)).trans hga
  have HW0 : Hid (∀ W, Below wa.heap.size wa W → Below w.heap.size w W) := fun W hW => hba.trans (hW.mono (by omega))
  have HZa := Lib.hid hza
  have HWA := Lib.hid hwa
  clear hwa hza hba hga
  go_enter Tryd.func4, Tryd.ntmps4
  go_wp2_with fail
  have hwa := HWA.out
  rw [← hwa]
  clear hwa HWA
  refine HA.out.mono ?_
  rintro e w1 ⟨rfl, hB1⟩
  have HB1 := Lib.hid hB1
  obtain ⟨c0, c1, c2, c3, c4, c5⟩ := cells6 (HBX.out w1 hB1)
  clear hB1 HA
  have hlt1 : w.heap.size < w1.heap.size := by have := HB1.out.size; have := HZa.out; omega
  obtain ⟨wb, hwb⟩ : ∃ wb, wb = w1.alloc (.cells (cX o n sb A m cap L C).toArray 27) := ⟨_, rfl⟩
  have hbb : Below w1.heap.size w1 wb := by rw [hwb]; exact below_alloc w1 _
  have hgb : wb.heap[w1.heap.size]? = some (.cells (cX o n sb A m cap L C).toArray 27) := by rw [hwb]; exact blk_new w1 _
  have hzb : wb.heap.size = w1.heap.size + 1 := by rw [hwb, alloc_size]
  have HBb : Hid (Below wa.heap.size wa wb) := HB1.out.trans (hbb.mono HB1.out.size)
  have HBY : Hid (∀ W, Below wb.heap.size wb W → W.heap[w1.heap.size]? = some (.cells (cX o n sb A m cap L C).toArray 27)) := fun W hW => (hW.block _ (by omega)).trans hgb
  have HZb := Lib.hid hzb
  have HWB := Lib.hid hwb
  have HE1 := Lib.hid (HEX.out wb _ (HG.out wb (HW0.out _ HBb.out)) (HX.out wb (HW0.out _ HBb.out)))
  clear hwb hbb hgb hzb
  go_wp2_with fail
  have hwb := HWB.out
  rw [← hwb]
  clear hwb HWB
  refine HE1.out.mono ?_
  rintro e w2 ⟨rfl, hB2⟩
  have HB2 := Lib.hid hB2
  have HB2a : Hid (Below wa.heap.size wa w2) := HBb.out.trans (hB2.mono HBb.out.size)
  obtain ⟨c0, c1, c2, c3, c4, c5⟩ := cells6 (HBX.out w2 HB2a.out)
  obtain ⟨d0, d1, d2, d3, d4, d5⟩ := cells6 (HBY.out w2 hB2)
  have HE2 := Lib.hid (HEY.out w2 _ (HG.out w2 (HW0.out _ HB2a.out)) (HY.out w2 (HW0.out _ HB2a.out)))
  clear hB2 HE1
  go_wp2_with fail
  refine HE2.out.mono ?_
  rintro e w3 ⟨rfl, hB3⟩
  have HB3 : Hid (Below wb.heap.size wb w3) := HB2.out.trans (hB3.mono HB2.out.size)
  have HB3a : Hid (Below wa.heap.size wa w3) := HB2a.out.trans (hB3.mono HB2a.out.size)
  obtain ⟨c0, c1, c2, c3, c4, c5⟩ := cells6 (HBX.out w3 HB3a.out)
  have hlt3 : w.heap.size < w3.heap.size := by have := HB3a.out.size; have := HZa.out; omega
  clear hB3 HE2 HB2 HB2a
  obtain ⟨wk, hwk⟩ : ∃ wk, wk = w3.alloc (.cells (cX o n sb A m cap l c).toArray 27) := ⟨_, rfl⟩
  have hbk : Below w3.heap.size w3 wk := by rw [hwk]; exact below_alloc w3 _
  have hgk : wk.heap[w3.heap.size]? = some (.cells (cX o n sb A m cap l c).toArray 27) := by rw [hwk]; exact blk_new w3 _
  have hzk : wk.heap.size = w3.heap.size + 1 := by rw [hwk, alloc_size]
  obtain ⟨wt, hwt⟩ : ∃ wt, wt = wk.alloc (.cells (cT w3.heap.size).toArray 27) := ⟨_, rfl⟩
  have hbt : Below wk.heap.size wk wt := by rw [hwt]; exact below_alloc wk _
  have hgt : wt.heap[wk.heap.size]? = some (.cells (cT w3.heap.size).toArray 27) := by rw [hwt]; exact blk_new wk _
  have hzt : wt.heap.size = wk.heap.size + 1 := by rw [hwt, alloc_size]
  have hBt : Below w3.heap.size w3 wt := hbk.trans (hbt.mono hbk.size)
  have HBt : Hid (Below wb.heap.size wb wt) := HB3.out.trans (hBt.mono HB3.out.size)
  have HBta : Hid (Below wa.heap.size wa wt) := HB3a.out.trans (hBt.mono HB3a.out.size)
  have HBT : Hid (∀ W, Below wt.heap.size wt W → W.heap[w3.heap.size + 1]? = some (.cells (cT w3.heap.size).toArray 27)) := fun W hW => by
    rw [← hzk]; exact (hW.block _ (by omega)).trans hgt
  have HBK : Hid (∀ W, Below wt.heap.size wt W → W.heap[w3.heap.size]? = some (.cells (cX o n sb A m cap l c).toArray 27)) := fun W hW => (hW.block _ (by omega)).trans ((hbt.block _ (by omega)).trans hgk)
  have HWT : Hid (wt = (w3.alloc (.cells (cX o n sb A m cap l c).toArray 27)).alloc (.cells (cT w3.heap.size).toArray 27)) := by unfold Hid; rw [hwt, hwk]
  have HE3 := Lib.hid (HET.out wt _ (HG.out wt (HW0.out _ HBta.out)) (HT.out wt w3.heap.size (HW0.out _ HBta.out) (HBK.out wt (Below.refl _ _))))
  clear hwk hbk hgk hzk hwt hbt hgt hzt hBt
  go_wp2_with fail
  have hwt := HWT.out
  rw [← hwt]
  clear hwt HWT wk
  refine HE3.out.mono ?_
  rintro e w4 ⟨rfl, hB4⟩
  have HB4 : Hid (Below wt.heap.size wt w4) := hB4
  have HB4b : Hid (Below wb.heap.size wb w4) := HBt.out.trans (hB4.mono HBt.out.size)
  have HB4a : Hid (Below wa.heap.size wa w4) := HBta.out.trans (hB4.mono HBta.out.size)
  obtain ⟨c0, c1, c2, c3, c4, c5⟩ := cells6 (HBX.out w4 HB4a.out)
  obtain ⟨d0, d1, d2, d3, d4, d5⟩ := cells6 (HBY.out w4 HB4b.out)
  obtain ⟨e0, e1, e2, e3, e4, e5⟩ := cells6 (HBT.out w4 HB4.out)
  have c0' := cell_regrown c0
  have c1' := cell_regrown c1
  have c2' := cell_regrown c2
  have c3' := cell_regrown c3
  have c4' := cell_regrown c4
  have c5' := cell_regrown c5
  have d0' := cell_regrown d0
  have d1' := cell_regrown d1
  have d2' := cell_regrown d2
  have d3' := cell_regrown d3
  have d4' := cell_regrown d4
  have d5' := cell_regrown d5
  have e0' := cell_regrown e0
  have e1' := cell_regrown e1
  have e2' := cell_regrown e2
  have e3' := cell_regrown e3
  have e4' := cell_regrown e4
  have e5' := cell_regrown e5
  have HR : Hid (∀ dq os, Below wt.heap.size wt (Go.Sort.grow (redrawn w4 dq) os) ∧ Below w.heap.size w (Go.Sort.grow (redrawn w4 dq) os)) := fun dq os => by
    have h1 := hB4.trans ((below_regrown w4 dq os).mono hB4.size)
    exact ⟨h1, HW0.out _ (HBta.out.trans (h1.mono HBta.out.size))⟩
  have Q1 : Hid (∀ dq os, Calls Tryd.prog 11 #[.agg (cX o n sb A m cap l c).toArray, .agg (cX o n sb A m cap L C).toArray] (Go.Sort.grow (redrawn w4 dq) os) fun e w' => e = .returned (.bool true) ∧ ∃ p : Regrown, w' = Go.Sort.grow (redrawn w4 p.d) p.os) := fun dq os =>
    Calls.regrown_of (HSame.out _ _ _ (HX.out _ (HR.out dq os).2) (HY.out _ (HR.out dq os).2))
  have Q2 : Hid (∀ dq os, Calls Tryd.prog 11 #[.agg (cX o n sb A m cap l c).toArray, .agg (cT w3.heap.size).toArray] (Go.Sort.grow (redrawn w4 dq) os) fun e w' => e = .returned (.bool false) ∧ ∃ p : Regrown, w' = Go.Sort.grow (redrawn w4 p.d) p.os) := fun dq os =>
    Calls.regrown_of (HNot.out _ _ _ (HX.out _ (HR.out dq os).2) (HT.out _ _ (HR.out dq os).2 (HBK.out _ (HR.out dq os).1)))
  have Q3 : Hid (∀ dq os, Calls Tryd.prog 12 #[.agg (cT w3.heap.size).toArray] (Go.Sort.grow (redrawn w4 dq) os) fun e w' => e = .returned (.int .i64 ((z + 1 : Nat))) ∧ ∃ p : Regrown, w' = Go.Sort.grow (redrawn w4 p.d) p.os) := fun dq os =>
    Calls.regrown_of (HST.out _ _ (HT.out _ _ (HR.out dq os).2 (HBK.out _ (HR.out dq os).1)))
  have Q4 : Hid (∀ dq os, Calls Tryd.prog 12 #[.agg (cX o n sb A m cap l c).toArray] (Go.Sort.grow (redrawn w4 dq) os) fun e w' => e = .returned (.int .i64 (z : Nat)) ∧ ∃ p : Regrown, w' = Go.Sort.grow (redrawn w4 p.d) p.os) := fun dq os =>
    Calls.regrown_of (HSX.out _ _ (HX.out _ (HR.out dq os).2))
  have HBX4 := Lib.hid (HBX.out w4 HB4a.out)
  have HC4 := Lib.hid HB4a.out
  clear hB4 HE3 HR c0 c1 c2 c3 c4 c5 d0 d1 d2 d3 d4 d5 e0 e1 e2 e3 e4 e5 HSame HNot HST HSX HEX HEY HET HB4 HB4b HB4a HBt HBta HB3 HB3a HBY HBT HBK HT HY HG
  have hwr : IntKind.i64.wrap ((z : Int) + 1) = (z : Int) + 1 := IntWalk.i64_in _ (by omega)
  have hwn : ((z : Int) + 1 != (z : Int) + 1) = false := by rw [bne_eq_false_iff_eq]
  go_upto_region 10 with (fail)
  refine wp_region_quiet_below (by kernel_rfl) (by kernel_rfl) (WQ.out ?_)
  refine quiet_take (by kernel_rfl) (fun K hK => ?_); go_simp; refine hK _ ?_; clear hK K
  refine quiet_take (by kernel_rfl) (fun K hK => ?_); go_simp; refine hK _ ?_; clear hK K
  refine quiet_take (by kernel_rfl) (fun K hK => ?_); go_simp; apply Exists.intro; refine ⟨fun _ => ?_, hK _ ?_⟩; (go_at_call 11; exact Q1.out _ _); clear hK K
  refine quiet_take (by kernel_rfl) (fun K hK => ?_); go_simp; refine hK _ ?_; clear hK K
  refine quiet_take (by kernel_rfl) (fun K hK => ?_); go_simp; refine hK _ ?_; clear hK K
  refine quiet_take (by kernel_rfl) (fun K hK => ?_); go_simp; refine hK _ ?_; clear hK K
  refine quiet_take (by kernel_rfl) (fun K hK => ?_); go_simp; refine hK _ ?_; clear hK K
  refine quiet_take (by kernel_rfl) (fun K hK => ?_); go_simp; refine hK _ ?_; clear hK K
  refine quiet_take (by kernel_rfl) (fun K hK => ?_); go_simp; refine hK _ ?_; clear hK K
  refine quiet_take (by kernel_rfl) (fun K hK => ?_); go_simp; refine hK _ ?_; clear hK K
  refine quiet_take (by kernel_rfl) (fun K hK => ?_); go_simp; refine hK _ ?_; clear hK K
  refine quiet_take (by kernel_rfl) (fun K hK => ?_); go_simp; refine hK _ ?_; clear hK K
  refine quiet_take (by kernel_rfl) (fun K hK => ?_); go_simp; refine hK _ ?_; clear hK K
  refine quiet_take (by kernel_rfl) (fun K hK => ?_); go_simp; refine hK _ ?_; clear hK K
  refine quiet_take (by kernel_rfl) (fun K hK => ?_); go_simp; refine hK _ ?_; clear hK K
  refine quiet_take (by kernel_rfl) (fun K hK => ?_); go_simp; refine hK _ ?_; clear hK K
  refine quiet_take (by kernel_rfl) (fun K hK => ?_); go_simp; refine hK _ ?_; clear hK K
  refine quiet_take (by kernel_rfl) (fun K hK => ?_); go_simp; apply Exists.intro; refine ⟨fun _ => ?_, hK _ ?_⟩; (go_at_call 11; exact Q2.out _ _); clear hK K
  refine quiet_take (by kernel_rfl) (fun K hK => ?_); go_simp; refine hK _ ?_; clear hK K
  refine quiet_take (by kernel_rfl) (fun K hK => ?_); go_simp; refine hK _ ?_; clear hK K
  refine quiet_take (by kernel_rfl) (fun K hK => ?_); go_simp; refine hK _ ?_; clear hK K
  refine quiet_take (by kernel_rfl) (fun K hK => ?_); go_simp; apply Exists.intro; refine ⟨fun _ => ?_, hK _ ?_⟩; (go_at_call 12; exact Q3.out _ _); clear hK K
  refine quiet_take (by kernel_rfl) (fun K hK => ?_); go_simp; refine hK _ ?_; clear hK K
  refine quiet_take (by kernel_rfl) (fun K hK => ?_); go_simp; apply Exists.intro; refine ⟨fun _ => ?_, hK _ ?_⟩; (go_at_call 12; exact Q4.out _ _); clear hK K
  refine quiet_take (by kernel_rfl) (fun K hK => ?_); go_simp; refine hK _ ?_; clear hK K
  refine quiet_take (by kernel_rfl) (fun K hK => ?_); go_simp; refine hK _ ?_; clear hK K
  refine quiet_take (by kernel_rfl) (fun K hK => ?_); go_simp; refine hK _ ?_; clear hK K
  refine ⟨wpQuiet_nil ?_⟩
  intro w5 hw'
  have hbw5 : Below w4.heap.size w4 w5 := by obtain ⟨⟨dq, osq⟩, hw''⟩ := hw'; rw [hw'']; exact below_regrown w4 dq osq
  clear hw'
  have hx5 := (HBX4.out)
  have HB5 : Hid (Below w.heap.size w w5) := (HW0.out _ HC4.out).trans (hbw5.mono (HW0.out _ HC4.out).size)
  have hlt4 : w.heap.size < w4.heap.size := (Array.getElem?_eq_some_iff.1 hx5).1
  obtain ⟨c0, c1, c2, c3, c4, c5⟩ := cells6 ((hbw5.block _ hlt4).trans hx5)
  clear hx5 hbw5 hlt4 c0' c1' c2' c3' c4' c5' d0' d1' d2' d3' d4' d5' e0' e1' e2' e3' e4' e5' Q1 Q2 Q3 Q4
  rcases HCS.out with ⟨rfl, rfl⟩ | ⟨rfl, rfl⟩ | ⟨rfl, rfl, hs1, hs2, hs3⟩
  · go_wp2_with fail
    go_ret
    exact ⟨rfl, HB5.out⟩
  · go_wp2_with fail
    go_ret
    exact ⟨rfl, HB5.out⟩
  · have hz1 : ¬ 9223372036854775807 < 2 + sX.size := by omega
    have hz2 : ¬ 9223372036854775807 < 2 + sX.size + 1 := by omega
    have hz3 : ¬ 9223372036854775807 < 1 + sX.size := by omega
    have hin := HIN.out
    rcases HKL.out with ⟨he, hm⟩ | ⟨he, hm⟩
    · rw [he] at hin
      have hu : (sT.toList == ((⟨#[33]⟩ : ByteArray) ++ sX).toList) = true := by
        rw [beq_iff_eq, hs2, hs3, app_mk, hin]; rfl
      have hne : (sT.toList == ((⟨#[33, 40]⟩ : ByteArray) ++ sX ++ ⟨#[41]⟩).toList) = false := by
        rw [beq_eq_false_iff_ne]
        intro e
        have := congrArg List.length e
        rw [hs2, hs3, app_mk, app_mk, Lib.toList_data, Lib.toList_data, hin] at this
        simp at this
      clear hs1 hs2 hs3 HIN HKL HCS hin he HBX4 HC4
      subst hm
      go_wp2_with fail
      go_ret
      exact ⟨rfl, HB5.out⟩
    · rw [he] at hin
      have hu : (sT.toList == ((⟨#[33, 40]⟩ : ByteArray) ++ sX ++ ⟨#[41]⟩).toList) = true := by
        rw [beq_iff_eq, hs2, hs3, app_mk, app_mk, hin]
        simp
      clear hs1 hs2 hs3 HIN HKL HCS hin he HBX4 HC4
      go_wp2_with fail
      go_ret
      exact ⟨rfl, HB5.out⟩
end Go.Proofs.YtgommcgfpeomgaaDoor.TPlaces
