/- The contract of the reader's formula: the walk. -/
import Derived.Test.YtcfbnddoknpehaaGreatDoorFormula
namespace Go.Proofs.YtcfbnddoknpehaaGreatDoor
open Go.RowKit Go.Shelf Go.Lib Words CnfP

theorem Kept.setNew {g b j : Nat} {a w : World} (h : Kept g a w) (hb : a.heap.size ≤ b) (v : Value) : Kept g a (w.setCell ⟨b, j, none⟩ v) :=
  ⟨h.os, h.tape, h.output, by have := (Kept.set (w := w) (g := b) (j := j) v).size; exact Nat.le_trans h.size this, fun k hk hkg => ((Kept.set (w := w) (g := b) (j := j) v).block k (Nat.lt_of_lt_of_le hk h.size) (by omega)).trans (h.block k hk hkg)⟩
theorem RdrAt.kept {g b : Nat} {L S : List UInt8} {w w' : World} (h : RdrAt g L S w) (hk : Kept b w w') (hne : g ≠ b) : RdrAt g L S w' := by
  have := h.lt
  unfold RdrAt at *
  rw [hk.block g this hne]; exact h
theorem FrmAt.grown {b : Nat} {v : Int} {u : Value} {w w' : World} {row : Option Nat} (h : FrmAt b v u w) (hg : w.grownBy w' row) (hr : row ≠ some b) : FrmAt b v u w' := by
  have := h.lt
  unfold FrmAt at *
  rw [hg.block b this (fun e => hr e.symm)]; exact h
theorem Own.new {w : World} {B : Nat} {v : Value} {xs : List Int} (h : Own w B v xs) (o : Obj) : Own (w.alloc o) B v xs := h.below ((Below.refl _ _).alloc (Nat.le_refl _) _)

/-- What formula answers. -/
def FormPost (g : Nat) (ws : List (List UInt8)) (w : World) (e : Ending) (w' : World) : Prop :=
  (∃ v cs A n c, formulaOf ws = some (v, cs) ∧ e = .returned (.agg #[.int .i64 v, .slice A n c]) ∧ OwnF w' w.heap.size (.slice A n c) cs ∧ Kept g w w') ∨ (formulaOf ws = none ∧ e = thrown ∧ Kept g w w')

set_option maxHeartbeats 12800000 in
set_option maxRecDepth 100000 in
theorem formula_any (g : Nat) (L S : List UInt8) (w : World) (h : RdrAt g L S w) (hl : LibAt w) (hg : 8 ≤ g) (hL : L.length < 4294967281) (hS : S.length < 4294967281) (hN : (left L S).length ≤ 4194304) :
    Calls Tryz.prog 30 #[.pointer (some ⟨g, 0, none⟩)] w (FormPost g (left L S) w) := by
  obtain ⟨i0, hi, hz0, hz1, hz2⟩ := info_parts info_clause
  have hB0 : Below w.heap.size w (w.alloc (.cells #[.int .i64 0, .slice none 0 0] 24)) := (Below.refl _ _).alloc (Nat.le_refl _) _
  have hg0 := h.lt
  have HLA0 : ∀ W, Kept g w W → LibAt W := fun W hk => hl.below (hk.below (Below.refl 8 w) hg (by omega)) (Nat.le_refl _)
  have HK0 := Lib.hid (Kept.of (g := g) hB0)
  have HW := Lib.hid (word_any g L S _ (h.below hB0) (HLA0 _ HK0.out) hg hL hS)
  obtain ⟨W0, hW0⟩ : ∃ W0, W0 = w.alloc (.cells #[.int .i64 0, .slice none 0 0] 24) := ⟨_, rfl⟩
  have HRB : Hid (FrmAt w.heap.size 0 (.slice none 0 0) W0) := by rw [hW0]; show (w.heap.push _)[w.heap.size]? = _; simp
  have hz0' : W0.heap.size = w.heap.size + 1 := by rw [hW0]; simp
  have HZ0 := Lib.hid hz0'
  have hzw : w.heap.size + 1 ≤ W0.heap.size := by omega
  rw [← hW0] at HK0
  have HLA : Hid (∀ W, Kept g W0 W → LibAt W) := fun W hk => HLA0 W (HK0.out.trans hk)
  have HW0 := Lib.hid hW0
  clear HLA0 hW0 hz0'
  have HNN := Lib.hid hN
  clear hB0 h hl hN
  by_cases hp1 : headW (left L S) = pW
  case neg =>
    have HF := Lib.hid (form_1 hp1)
    have hb1 : (headW (left L S) == [112]) = false := by rw [beq_eq_false_iff_ne]; exact hp1
    generalize headW (left L S) = wd at *
    clear hp1
    go_enter Tryz.func30, Tryz.ntmps30
    go_wp2_with fail
    refine HW.out.mono ?_
    rintro e w1 ⟨rfl, L1, S1, hR1, ht1, hL1, hS1, hk1⟩
    rw [← HW0.out] at hk1
    have HK1 := Lib.hid hk1
    clear hR1 ht1 hk1
    go_wp2_with fail
    refine (demand_no _).mono ?_
    rintro e w' ⟨rfl, rfl⟩
    exact ⟨rfl, .inr ⟨HF.out, rfl, HK0.out.trans <| HK1.out⟩⟩
  have HP1 := Lib.hid hp1
  have hb1 : (headW (left L S) == [112]) = true := by rw [beq_iff_eq]; exact hp1
  clear hp1
  generalize hws : left L S = ws at *
  generalize hwd1 : headW ws = wd1 at *
  have HWD1 := Lib.hid hwd1
  clear hwd1 hws
  go_enter Tryz.func30, Tryz.ntmps30
  go_wp2_with fail
  refine HW.out.mono ?_
  rintro e w1 ⟨rfl, L1, S1, hR1, ht1, hL1, hS1, hk1⟩
  rw [← HW0.out] at hk1
  have HT1 := Lib.hid ht1
  have HK1 := Lib.hid hk1
  have HW2 := Lib.hid (word_any g L1 S1 w1 hR1 (HLA.out _ hk1) hg hL1 hS1)
  clear hR1 hk1 ht1 hL1 hS1 HW
  go_wp2_with fail
  refine (demand_yes _).mono ?_
  rintro e w' ⟨rfl, rfl⟩
  go_wp2_with fail
  refine HW2.out.mono ?_
  rintro e w2 ⟨rfl, L2, S2, hR2, ht2, hL2, hS2, hk2⟩
  rw [HT1.out] at ht2 ⊢
  have HT2 := Lib.hid ht2
  have HK2 := Lib.hid (HK1.out.trans hk2)
  have HR2 := Lib.hid hR2
  have HLS2 := Lib.hid (And.intro hL2 hS2)
  clear hR2 hk2 ht2 hL2 hS2 HW2
  by_cases hp2 : headW ws.tail = cnfW
  case neg =>
    have HF := Lib.hid (form_2 hp2)
    have hb2 : (headW ws.tail == [99, 110, 102]) = false := by rw [beq_eq_false_iff_ne]; exact hp2
    generalize headW ws.tail = wd at *
    clear hp2
    go_wp2_with fail
    refine (demand_no _).mono ?_
    rintro e w' ⟨rfl, rfl⟩
    exact ⟨rfl, .inr ⟨HF.out, rfl, HK0.out.trans <| HK2.out⟩⟩
  have HP2 := Lib.hid hp2
  have hb2 : (headW ws.tail == [99, 110, 102]) = true := by rw [beq_iff_eq]; exact hp2
  clear hp2
  generalize hwd2 : headW ws.tail = wd2 at *
  have HWD2 := Lib.hid hwd2
  clear hwd2
  go_wp2_with fail
  refine (demand_yes _).mono ?_
  rintro e w' ⟨rfl, rfl⟩
  rcases hn3 : numOf (headW ws.tail.tail) with _ | v
  · have HF := Lib.hid (form_3 hn3)
    have hnn : numOf (headW (left L2 S2)) = none := by rw [HT2.out]; exact hn3
    have HN3 := Lib.hid (number_no g L2 S2 w2 HR2.out (HLA.out _ HK2.out) hg HLS2.out.1 HLS2.out.2 (head_len (by omega) HLS2.out.1 HLS2.out.2) hnn)
    clear hn3 hnn
    go_wp2_with fail
    refine HN3.out.mono ?_
    rintro e w3 ⟨rfl, hk3⟩
    exact ⟨rfl, .inr ⟨HF.out, rfl, HK0.out.trans <| HK2.out.trans hk3⟩⟩
  have HV := Lib.hid hn3
  obtain ⟨hv0, hv1⟩ := numOf_bd hn3
  have hnn : numOf (headW (left L2 S2)) = some v := by rw [HT2.out]; exact hn3
  have HN3 := Lib.hid (number_yes g L2 S2 v w2 HR2.out (HLA.out _ HK2.out) hg HLS2.out.1 HLS2.out.2 hnn)
  clear hn3 hnn
  go_wp2_with fail
  refine HN3.out.mono ?_
  rintro e w3 ⟨rfl, L3, S3, hR3, ht3, hL3, hS3, hk3⟩
  rw [HT2.out] at ht3
  have HT3 := Lib.hid ht3
  have hB3 : Below w3.heap.size w3 (w3.alloc (.cells #[.int .i64 v, .slice none 0 0] 24)) := (Below.refl _ _).alloc (Nat.le_refl _) _
  have HK3 := Lib.hid ((HK2.out.trans hk3).trans (Kept.of hB3))
  have HR3 := Lib.hid (hR3.below hB3)
  have HLS3 := Lib.hid (And.intro hL3 hS3)
  have hwb : W0.heap.size ≤ w3.heap.size := (HK2.out.trans hk3).size
  have HFB : Hid (FrmAt w3.heap.size v (.slice none 0 0) (w3.alloc (.cells #[.int .i64 v, .slice none 0 0] 24))) := by show (w3.heap.push _)[w3.heap.size]? = _; simp
  have hz3 : (w3.alloc (.cells #[.int .i64 v, .slice none 0 0] 24)).heap.size = w3.heap.size + 1 := by simp
  clear hR3 hk3 ht3 hL3 hS3 HN3 hB3
  go_wp2_with fail
  generalize w3.alloc (.cells #[.int .i64 v, .slice none 0 0] 24) = W3 at *
  generalize w3.heap.size = fb at *
  rcases hn4 : numOf (headW ws.tail.tail.tail) with _ | m
  · have HF := Lib.hid (form_4 hn4)
    have hnn : numOf (headW (left L3 S3)) = none := by rw [HT3.out]; exact hn4
    have HN4 := Lib.hid (number_no g L3 S3 W3 HR3.out (HLA.out _ HK3.out) hg HLS3.out.1 HLS3.out.2 (head_len (by omega) HLS3.out.1 HLS3.out.2) hnn)
    clear hn4 hnn
    refine HN4.out.mono ?_
    rintro e w4 ⟨rfl, hk4⟩
    exact ⟨rfl, .inr ⟨HF.out, rfl, HK0.out.trans <| HK3.out.trans hk4⟩⟩
  obtain ⟨hm0, hm1⟩ := numOf_bd hn4
  have HF := Lib.hid (form_5 (ws := ws) (by rw [HP1.out] at HWD1; exact HWD1.out) (by rw [HP2.out] at HWD2; exact HWD2.out) HV.out hn4)
  have hnn : numOf (headW (left L3 S3)) = some m := by rw [HT3.out]; exact hn4
  have HN4 := Lib.hid (number_yes g L3 S3 m W3 HR3.out (HLA.out _ HK3.out) hg HLS3.out.1 HLS3.out.2 hnn)
  clear hn4 hnn
  refine HN4.out.mono ?_
  rintro e w4 ⟨rfl, L4, S4, hR4, ht4, hL4, hS4, hk4⟩
  rw [HT3.out] at ht4
  have HT4 := Lib.hid ht4
  have HK4 := Lib.hid (HK3.out.trans hk4)
  have HR4 := Lib.hid hR4
  have HLS4 := Lib.hid (And.intro hL4 hS4)
  have HFB4 := Lib.hid (HFB.out.kept hk4 (by omega))
  have hz4 : fb < w4.heap.size := by have := hk4.size; omega
  have HN : Hid ((left L4 S4).length ≤ 4194304) := by
    have := HNN.out
    unfold Hid
    rw [ht4]
    simp only [List.length_tail]
    omega
  rw [← ht4] at HF
  clear hR4 hk4 ht4 hL4 hS4 HN4 hz3 HFB HR3 HLS3 HK3
  by_cases hm : 0 ≤ m ∧ m ≤ 1048576
  case neg =>
    have HB := Lib.hid (HF.out.trans (body_out hm))
    by_cases hma : 0 ≤ m
    · have hmb : decide (m ≤ 1048576) = false := by rw [decide_eq_false_iff_not]; exact fun e => hm ⟨hma, e⟩
      clear hm
      go_wp2_with fail
      refine (demand_no _).mono ?_
      rintro e w' ⟨rfl, rfl⟩
      exact ⟨rfl, .inr ⟨HB.out, rfl, HK0.out.trans <| HK4.out⟩⟩
    · clear hm
      go_wp2_with fail
      refine (demand_no _).mono ?_
      rintro e w' ⟨rfl, rfl⟩
      exact ⟨rfl, .inr ⟨HB.out, rfl, HK0.out.trans <| HK4.out⟩⟩
  obtain ⟨hma, hmb⟩ := hm
  obtain ⟨mm, rfl⟩ : ∃ mm : Nat, m = mm := ⟨m.toNat, by omega⟩
  have HTN : Hid ((mm : Int).toNat = mm) := Int.toNat_natCast mm
  go_wp2_with fail
  refine (demand_yes _).mono ?_
  rintro e w' ⟨rfl, rfl⟩
  go_wp2_with fail
  go_loopw [5, 6, 28] (fun rm _ iv wr => ∃ (k : Nat) (cs : List (List Int)) (L5 S5 : List UInt8) (u : Value), k ≤ mm ∧ iv = .int .i64 k ∧ rm = .int .i64 (4194304 - (total cs : Int)) ∧ total cs ≤ 4194304 ∧ Hid (cs.length = k) ∧ Hid (total cs + k + (left L5 S5).length ≤ 4194304) ∧ Hid (FrmAt fb v u wr) ∧ Hid (OwnF wr w4.heap.size u cs) ∧
    Hid (RdrAt g L5 S5 wr) ∧ Hid (Kept g W0 wr) ∧ Hid (L5.length < 4294967281 ∧ S5.length < 4294967281) ∧ Hid (Stood mm (left L4 S4) cs (mm - k) (left L5 S5)) ∧ Hid (w4.heap.size ≤ wr.heap.size)) (fun _ _ iv _ => mm - (RowKit.intOf iv).toNat)
  case atStart => exact ⟨0, [], L4, S4, _, Nat.zero_le _, rfl, rfl, by simp [total], rfl, by have := HN.out; simp [total, Hid]; omega, HFB4.out, OwnF.nil _ _, HR4.out, HK4.out, HLS4.out, stood_start _ _, Nat.le_refl _⟩
  case round =>
    obtain ⟨k, cs, L5, S5, u, hk, rfl, rfl, htot, HLn, HCnt, HFr, HO, HRd, HKp, HLS, HSt, HSz⟩ := hrel
    have hsz := HSz.out
    have hwr := HKp.out.size
    by_cases hlt : k < mm
    · have HSt2 : Hid (Stood mm (left L4 S4) cs ((mm - (k + 1)) + 1) (left L5 S5)) := by
        have : mm - (k + 1) + 1 = mm - k := by omega
        unfold Hid; rw [this]; exact HSt.out
      have HCL := Lib.hid (clause_any g L5 S5 (4194304 - (total cs : Int)) wr HRd.out (HLA.out _ HKp.out) hg HLS.out.1 HLS.out.2 (by omega) (by omega) (fun c r hc => by
        have a := clauseOf_count _ _ _ hc
        have b := HCnt.out
        omega))
      go_wp2_with fail
      refine HCL.out.mono ?_
      rintro e w5 (⟨c, r, vv, L6, S6, hc, rfl, hown, hR6, ht6, hL6, hS6, hk6⟩ | ⟨hc, rfl, hk6⟩)
      · obtain ⟨Ac, capc, rfl, _⟩ := hown.form
        have hcnt := clauseOf_count _ _ _ hc
        have hb := HCnt.out
        have hcl : total cs + c.length ≤ 4194304 := by omega
        have hk6s := hk6.size
        have HOWN := Lib.hid (hown.base hsz)
        have HSN := Lib.hid (stood_next HSt2.out hc)
        have HFr5 := Lib.hid (HFr.out.kept hk6 (by omega))
        have HO5 := Lib.hid (HO.out.kept hk6 (by omega))
        have HR6 := Lib.hid hR6
        have HT6 := Lib.hid ht6
        have HLS6 := Lib.hid (And.intro hL6 hS6)
        have HK6 := Lib.hid (HKp.out.trans hk6)
        have HCn := Lib.hid hcnt
        have hk20 : k ≤ 1048576 := by omega
        obtain ⟨vs, hvl, hrow, hel⟩ := HO5.out
        have hvk : vs.length ≤ 1048576 := by have := HLn.out; omega
        have HVL := Lib.hid hvl
        have HEL := Lib.hid hel
        have HROW := Lib.hid hrow
        have hc1 := HFr5.out.c1
        clear hc hown hR6 ht6 hL6 hS6 hk6 hcnt hb HCL hvl hel hrow HSt2 HSt HO5
        go_wp2_with (at_builtin; refine wpList_append_own _ rfl _ _ 22 rfl w4.heap.size 46 i0 (.slice none 0 0) 1 24 Tryz.underlying22 hi hz0 hz1 hz2 rfl (by decide) _ _ _ rfl (HROW.out.alloc _) ⟨w5.heap.size, 0, none⟩ 1 1 [.slice Ac c.length capc] rfl rfl slice_cell slice_one (by unfold maxLen; omega) (by omega) (by simp; omega) ?_)
        intro v' w6 hown6 hgrow6 _
        have hrowlt := HROW.out.lt
        have hFr6 := (HFr5.out.kept (Kept.of (g := g) ((Below.refl _ _).alloc (Nat.le_refl _) (.cells #[.slice Ac c.length capc] 46))) (by omega)).grown hgrow6 (fun e => by have := (hrowlt fb e).1; omega)
        have hRd6 := (HR6.out.below ((Below.refl _ _).alloc (Nat.le_refl _) (.cells #[.slice Ac c.length capc] 46))).grown hgrow6 (fun e => by have := (hrowlt g e).1; omega)
        have hK6' : Kept g W0 w6 := (HK6.out.trans (Kept.of ((Below.refl _ _).alloc (Nat.le_refl _) _))).grown hgrow6 (fun b e => by have := (hrowlt b e).1; omega)
        have hOw6 := (HOWN.out.new (.cells #[.slice Ac c.length capc] 46)).grown hgrow6 (own_apart HOWN.out HROW.out)
        have hOF6 : OwnF w6 w4.heap.size v' (cs ++ [c]) := OwnF.snoc HVL.out (fun j hj => by
          obtain ⟨x, h1, h2⟩ := HEL.out j hj
          exact ⟨x, h1, (h2.new (.cells #[.slice Ac c.length capc] 46)).grown hgrow6 (own_apart h2 HROW.out)⟩) hOw6 hown6
        obtain ⟨Av, cv, hv', _⟩ := hOF6.form
        rw [show (cs ++ [c]).length = cs.length + 1 from by simp] at hv'
        subst hv'
        have hs6 : w4.heap.size ≤ w6.heap.size := by have := hgrow6.size; simp at this; omega
        have hd1 := hFr6.c1
        have hdf := hFr6.f 1
        have HF6 := Lib.hid (hFr6.set1 (.slice Av (cs.length + 1) cv))
        have HR7 := Lib.hid (hRd6.kept (Kept.set (w := w6) (g := fb) (j := 1) (.slice Av (cs.length + 1) cv)) (by omega))
        have HK7 := Lib.hid (hK6'.setNew (b := fb) (j := 1) (by omega) (.slice Av (cs.length + 1) cv))
        have HO7 := Lib.hid (hOF6.kept (Kept.set (w := w6) (g := fb) (j := 1) (.slice Av (cs.length + 1) cv)) (by omega))
        have HS7 : Hid (w4.heap.size ≤ (w6.setCell ⟨fb, 1, none⟩ (.slice Av (cs.length + 1) cv)).heap.size) := Nat.le_trans hs6 (Kept.set (w := w6) (g := fb) (j := 1) (.slice Av (cs.length + 1) cv)).size
        clear hown6 hgrow6 hFr6 hRd6 hK6' hOw6 hOF6 hs6 HROW HEL hc1 hrowlt
        go_wp2_with fail
        go_roundw
        case rel =>
          refine ⟨k + 1, cs ++ [c], L6, S6, _, by omega, by go_num, ?_, ?_, ?_, ?_, HF6.out, HO7.out, HR7.out, HK7.out, HLS6.out, ?_, HS7.out⟩
          · rw [total_append, total_cons, total_nil]; go_num
          · rw [total_append, total_cons, total_nil]; omega
          · show (cs ++ [c]).length = k + 1
            rw [List.length_append, HLn.out]; rfl
          · show total (cs ++ [c]) + (k + 1) + (left L6 S6).length ≤ 4194304
            rw [total_append, total_cons, total_nil, HT6.out]
            have a := HCn.out
            have b := HCnt.out
            omega
          · rw [HT6.out]; exact HSN.out
        case measure => simp [RowKit.intOf]; omega
      · have HB := Lib.hid (HF.out.trans (body_none (by rw [HTN.out]; exact stood_stop HSt2.out hc)))
        exact ⟨rfl, .inr ⟨HB.out, rfl, HK0.out.trans <| HKp.out.trans hk6⟩⟩
    · have hkm : k = mm := by omega
      subst hkm
      have hst := HSt.out
      rw [Nat.sub_self] at hst
      have hse := stood_end hst
      have HWL := Lib.hid (word_any g L5 S5 wr HRd.out (HLA.out _ HKp.out) hg HLS.out.1 HLS.out.2)
      have HSE := Lib.hid hse
      clear hst hse
      rcases hrest : left L5 S5 with _ | ⟨x, t⟩
      · have hhd : headW (left L5 S5) = [] := by rw [hrest]; rfl
        rw [hhd] at HWL
        rw [hrest] at HSE
        clear hrest hhd
        obtain ⟨Au, cu, rfl, _⟩ := HO.out.form
        go_wp2_with fail
        refine HWL.out.mono ?_
        rintro e w5 ⟨rfl, L6, S6, hR6, ht6, hL6, hS6, hk6⟩
        have HFr5 := HFr.out.kept hk6 (by omega)
        have HO5 := HO.out.kept hk6 (by omega)
        obtain ⟨Au2, cu2, hu2, hRF5⟩ := HO5.form
        injection hu2 with hu21 hu22 hu23
        subst hu21; subst hu23
        have HK5 := Lib.hid (HKp.out.trans hk6)
        have hbd := clausesOf_bd _ _ _ _ HSE.out
        have hok : Ok32 cs := Ok32.of fun c hc => ⟨by have := mem_total cs c hc; omega, In32.of fun x hx => by have := hbd c hc x hx; omega⟩
        have hc0 := HFr5.c0
        have hc1 := HFr5.c1
        have hcl : cs.length ≤ 1048576 := by have := HLn.out; omega
        have hRI := rightF_any v Au cs.length cu cs w5 hRF5 hok (by omega) (by omega) (by omega)
        have HFr5 := Lib.hid HFr5
        have HOF5 := Lib.hid HO5
        clear hbd hok hR6 ht6 hL6 hS6 hk6 HO5 hRF5 HWL
        rcases hrt : rightF v cs with _ | _
        · have HB := Lib.hid (HF.out.trans (body_wrong (by rw [HTN.out]; exact HSE.out) hrt))
          rw [hrt] at hRI
          have HRI := Lib.hid hRI
          clear hrt hRI
          go_wp2_with fail
          refine (demand_yes _).mono ?_
          rintro e w' ⟨rfl, rfl⟩
          go_wp2_with fail
          refine HRI.out.mono ?_
          rintro e w6 ⟨rfl, hB6⟩
          go_wp2_with fail
          refine (demand_no _).mono ?_
          rintro e w' ⟨rfl, rfl⟩
          exact ⟨rfl, .inr ⟨HB.out, rfl, HK0.out.trans <| HK5.out.trans (Kept.of hB6)⟩⟩
        · have HB := Lib.hid (HF.out.trans (body_yes ⟨hma, hmb⟩ (by rw [HTN.out]; exact HSE.out) hrt))
          rw [hrt] at hRI
          have HRI := Lib.hid hRI
          clear hrt hRI
          go_wp2_with fail
          refine (demand_yes _).mono ?_
          rintro e w' ⟨rfl, rfl⟩
          go_wp2_with fail
          refine HRI.out.mono ?_
          rintro e w6 ⟨rfl, hB6⟩
          have hd0 : w6.cell? ⟨fb, 0, none⟩ = some (.int .i64 v) := by rw [hB6.cell (p := ⟨fb, 0, none⟩) HFr5.out.lt]; exact HFr5.out.c0
          have hd1 : w6.cell? ⟨fb, 1, none⟩ = some (.slice Au cs.length cu) := by rw [hB6.cell (p := ⟨fb, 1, none⟩) HFr5.out.lt]; exact HFr5.out.c1
          have HK6 := Lib.hid (HK5.out.trans (Kept.of hB6))
          have HO6 := Lib.hid (HOF5.out.kept (Kept.of (g := g) hB6) (by omega))
          clear hB6 hc0 hc1
          go_wp2_with fail
          refine (demand_yes _).mono ?_
          rintro e w' ⟨rfl, rfl⟩
          have hrb := HRB.out.kept HK6.out (by omega)
          have hr0 := hrb.c0
          have hr1 := hrb.c1
          have hrf0 := hrb.f 0
          have hrf1 := hrb.f 1
          clear hrb
          go_wp2_with fail
          have HK7 := Lib.hid (((HK0.out.trans HK6.out).setNew (b := w.heap.size) (j := 0) (Nat.le_refl _) (.int .i64 v)).setNew (b := w.heap.size) (j := 1) (Nat.le_refl _) (.slice Au cs.length cu))
          have HO8 := Lib.hid ((HO6.out.kept (Kept.set (w := w6) (g := w.heap.size) (j := 0) (.int .i64 v)) (by omega)).kept (Kept.set (g := w.heap.size) (j := 1) (.slice Au cs.length cu)) (by omega))
          have hwb4 : w.heap.size ≤ w4.heap.size := by omega
          exact bodyPost_ret (v := .agg #[.int .i64 v, .slice Au cs.length cu]) (by simp [results, Tryz.results30, go_sem, hr0, hr1]) rfl (.inl ⟨v, cs, Au, cs.length, cu, HB.out, rfl, HO8.out.base hwb4, HK7.out⟩)
      · have HB := Lib.hid (HF.out.trans (body_more (by rw [HTN.out, HSE.out, hrest])))
        have hne : x ≠ [] := left_words x (by rw [hrest]; simp)
        have hhd : headW (left L5 S5) = x := by rw [hrest]; rfl
        rw [hhd] at HWL
        have hxb : x.isEmpty = false := by rw [List.isEmpty_eq_false_iff]; exact hne
        clear hrest hhd hne
        go_wp2_with fail
        refine HWL.out.mono ?_
        rintro e w5 ⟨rfl, L6, S6, hR6, ht6, hL6, hS6, hk6⟩
        have HK5 := Lib.hid (HKp.out.trans hk6)
        clear hR6 ht6 hL6 hS6 hk6
        go_wp2_with fail
        refine (demand_no _).mono ?_
        rintro e w' ⟨rfl, rfl⟩
        exact ⟨rfl, .inr ⟨HB.out, rfl, HK0.out.trans <| HK5.out⟩⟩
end Go.Proofs.YtcfbnddoknpehaaGreatDoor
