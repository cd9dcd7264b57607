/- ProofResolves is true: the statement Rows.ProofResolvesSaid, without a condition. -/
import Derived.Test.YtmegplcepcacgaaGreatPrfS
import Derived.Test.YtmegplcepcacgaaGreatRows
import Derived.ProofKit
import Derived.OpenShut
import Derived.SizedLaws
import Derived.Deep.DeepCutAuto
import Derived.Deep.Slices
import Derived.Deep.Fields
import Derived.ChangeSame
namespace Go.Proofs.YtmegplcepcacgaaGreat.PResolves
open Go.ChangeShapes Go.WideShapes Go.ChangeAt Go.RowKit LitM TrailM EngM CnfP

theorem own_knob : ownKnob Tryz.prog.godebug = none := by kernel_rfl
theorem lits_one {xs : List Int} : ∀ u ∈ xs.map (Value.int .i32), u.oneCell' = true := by
  intro u hu
  obtain ⟨x, _, rfl⟩ := List.mem_map.1 hu
  rfl
theorem wpList_append_rd {w : World} {ops : Array Oper} {rest : List Oper} {o : Oper} {a : Act} {Q : Exit → Act → World → Prop} (hgd : o.guard = none) (s x : Operand)
    (ho : o.op = .call { callee := .builtin .append, args := #[s, x], argTypes := #[32, 32] })
    (base : Nat) (v : Value) (xs : List Int) (hs : a.eval s = v) (hown : Own w base v xs)
    (A : Option Addr) (m c B : Nat) (news : List Int) (hx : a.eval x = .slice A m c) (hA : A = none → m = 0 ∧ c = 0) (hR : Rd .i32 w B A m news)
    (hbytes : (xs.length + m) * 4 ≤ 140737488355328) (hbase : base ≤ w.heap.size)
    (h : ∀ v' w', Own w' base v' (xs ++ news) → Below base w w' → wpList Tryz.prog ops Q rest (a.put o.dst v') w') : wpList Tryz.prog ops Q (o :: rest) a w := by
  obtain ⟨i0, hi, hz0, hz1, hz2⟩ := info_parts info_lit
  rcases A with _ | ad
  · obtain ⟨rfl, rfl⟩ := hA rfl
    have hn : news = [] := List.length_eq_zero_iff.1 hR.len
    subst hn
    refine wpList_append_own_none hgd s x 32 ho base 28 i0 1 Tryz.underlying32 hi v xs.length (xs.map (Value.int .i32)) hs hown hx ?_
    exact h v w (by simpa using hown) (Below.refl _ _)
  · refine wpList_append_own w hgd s x 32 ho base 28 i0 (.int .i32 0) 1 4 Tryz.underlying32 hi hz0 hz1 hz2 rfl (by decide) v xs.length (xs.map (Value.int .i32)) hs hown ad m c (news.map (Value.int .i32)) hx (by simp [hR.len]) hR.news lits_one (by unfold maxLen; omega) hbytes hbase ?_
    intro v' w' hown' hgrow _
    refine h v' w' ?_ ((Below.refl _ _).grown hgrow hbase (fun j hj => (hown.lt j hj).1))
    unfold Own
    rw [List.length_append, List.map_append, hR.len]
    exact hown'
/-- What Resolve comes to. -/
def ResZ (xs ys : List Int) (v : Int) (zs : List Int) (ev : Int) : Prop := ev = 11 ∨ (ev = 0 ∧ allOne xs = true ∧ allOne ys = true ∧ LitM.one v = true ∧ IsClean (restL xs ys v) zs)
theorem res_any (A A2 : Option Addr) (n c n2 c2 : Nat) (xs ys : List Int) (v : Int) (w : World) (h : Rd .i32 w w.heap.size A n xs) (h2 : Rd .i32 w w.heap.size A2 n2 ys) (hn : n ≤ 10) (hn2 : n2 ≤ 10) (hv0 : -9223372036854775808 ≤ v) (hv1 : v ≤ 9223372036854775807) :
    Calls Tryz.prog 14 #[.slice A n c, .slice A2 n2 c2, .int .i64 v] w fun e w' => ∃ Az mz cz zs ev, e = .returned (.tuple #[.slice Az mz cz, .int .i64 ev]) ∧ Rd .i32 w' w'.heap.size Az mz zs ∧ In32 zs ∧ mz ≤ 100 ∧ ResZ xs ys v zs ev ∧ Below w.heap.size w w' := by
  have hl := h.len
  have hl2 := h2.len
  by_cases hno : RNo xs ys v
  · refine (rresolve_no A A2 n c n2 c2 xs ys v w w.heap.size (Nat.le_refl _) h h2 (by omega) (by omega) hv0 hv1 hno).mono fun e w' ⟨he, hw⟩ => ?_
    subst hw
    exact ⟨none, 0, 0, [], 11, he, rd_nil, In32.of (by simp), by omega, .inl rfl, Below.refl _ _⟩
  · unfold RNo at hno
    simp only [not_or, Bool.not_eq_false, Int.not_lt] at hno
    obtain ⟨o1, o2, o3, o4, o5, o6⟩ := hno
    refine (rresolve_yes A A2 n c n2 c2 xs ys v w h h2 (by omega) (by omega) o1 o2 o3 o4 o5 o6).mono fun e w' ⟨u, zs, he, hown, hc, hb⟩ => ?_
    obtain ⟨Az, cz, rfl, hrd⟩ := hown.form
    have hall : allOne zs = true := by rw [hc.all]; exact rest_all o1 o2
    have hlz : zs.length ≤ 20 := by
      refine Nat.le_trans (clean_le hc) ?_
      unfold restL
      rw [List.length_append]
      have := sans_len_all xs v
      have := sans_len_all ys (-v)
      omega
    exact ⟨Az, zs.length, cz, zs, 0, he, hrd, allOne_in32 hall, by omega, .inr ⟨rfl, o1, o2, (one_iff _).2 (.inl ⟨o3, o4⟩), hc⟩, hb⟩
theorem rf2 {xs ys : List Int} (h1 : xs.length ≤ 10) (h2 : ys.length ≤ 10) : rightF 12 [xs, ys] = (clauseB 12 xs && clauseB 12 ys) := by
  have ht : total [xs, ys] ≤ 4194304 := by unfold total; simp; omega
  unfold rightF
  rw [decide_eq_true ht]
  simp
theorem fit2 {xs ys gl : List Int} (h1 : xs.length ≤ 10) (h2 : ys.length ≤ 10) : fitB 12 [xs, ys] gl [] = (clauseB 12 xs && clauseB 12 ys && clauseB 12 gl) := by
  unfold fitB
  rw [rf2 h1 h2]
  simp
theorem clauseB_one {v : Int} {xs : List Int} (h : clauseB v xs = true) : allOne xs = true := List.all_eq_true.2 fun x hx => (clauseB_all h x hx).1
theorem clauseB_of {v : Int} {xs : List Int} (h : ∀ x ∈ xs, LitM.one x = true ∧ varZ x ≤ v) : clauseB v xs = true := by
  unfold clauseB
  rw [List.all_eq_true]
  intro x hx
  unfold litB
  rw [(h x hx).1, decide_eq_true (h x hx).2]; rfl
set_option maxHeartbeats 12800000 in
set_option maxRecDepth 100000 in
theorem walk (A A2 : Option Addr) (n c n2 c2 : Nat) (xs ys : List Int) (v : Int) (w : World) (h : Rd .i32 w w.heap.size A n xs) (h2 : Rd .i32 w w.heap.size A2 n2 ys) (h32 : In32 xs) (h322 : In32 ys) (hn : n ≤ 9223372036854775807) (hn2 : n2 ≤ 9223372036854775807) (hA : A = none → n = 0 ∧ c = 0)
    (hv0 : -9223372036854775808 ≤ v) (hv1 : v ≤ 9223372036854775807) :
    Calls Tryz.prog 6 #[.slice A n c, .slice A2 n2 c2, .int .i64 v] w fun e w' => e = .returned (.bool true) ∧ Below w.heap.size w w' := by
  have HPA := Lib.hid (palive_any w)
  by_cases hbig : 10 < n
  · have t1 : decide (10 < n) = true := decide_eq_true hbig
    have t1' : decide ((10 : Int) < (n : Int)) = true := decide_eq_true (by omega)
    clear h h2 hA
    go_enter Tryz.func6, Tryz.ntmps6
    go_wp2_with fail
    refine HPA.out.mono ?_
    rintro e w1 ⟨rfl, hb1⟩
    have HB := Lib.hid hb1
    clear hb1 HPA
    go_wp2_with fail
    go_ret
    exact ⟨rfl, HB.out⟩
  have t1 : decide (10 < n) = false := decide_eq_false hbig
  have t1' : decide ((10 : Int) < (n : Int)) = false := decide_eq_false (by omega)
  by_cases hbig2 : 10 < n2
  · have t2 : decide (10 < n2) = true := decide_eq_true hbig2
    have t2' : decide ((10 : Int) < (n2 : Int)) = true := decide_eq_true (by omega)
    clear h h2 hA
    go_enter Tryz.func6, Tryz.ntmps6
    go_wp2_with fail
    refine HPA.out.mono ?_
    rintro e w1 ⟨rfl, hb1⟩
    have HB := Lib.hid hb1
    clear hb1 HPA
    go_wp2_with fail
    go_ret
    exact ⟨rfl, HB.out⟩
  have t2 : decide (10 < n2) = false := decide_eq_false hbig2
  have t2' : decide ((10 : Int) < (n2 : Int)) = false := decide_eq_false (by omega)
  have hlx : xs.length ≤ 10 := by rw [h.len]; omega
  have hly : ys.length ≤ 10 := by rw [h2.len]; omega
  have hlen := h.len
  have HRd : Hid (∀ V, Below w.heap.size w V → Rd .i32 V V.heap.size A n xs ∧ Rd .i32 V V.heap.size A2 n2 ys) := fun V hV => ⟨(h.below hV).more hV.size, (h2.below hV).more hV.size⟩
  have HRes : Hid (∀ V, Below w.heap.size w V → Calls Tryz.prog 14 #[.slice A n c, .slice A2 n2 c2, .int .i64 v] V fun e w' => ∃ Az mz cz zs ev, e = .returned (.tuple #[.slice Az mz cz, .int .i64 ev]) ∧ Rd .i32 w' w'.heap.size Az mz zs ∧ In32 zs ∧ mz ≤ 100 ∧ ResZ xs ys v zs ev ∧ Below V.heap.size V w') := fun V hV => res_any A A2 n c n2 c2 xs ys v V (HRd.out V hV).1 (HRd.out V hV).2 (by omega) (by omega) hv0 hv1
  have HLX := Lib.hid hlx
  have HLY := Lib.hid hly
  have HLN := Lib.hid hlen
  have H32 := Lib.hid h32
  have H322 := Lib.hid h322
  have HA := Lib.hid hA
  have HN10 : Hid (n ≤ 10) := Nat.not_lt.1 hbig
  have HN20 : Hid (n2 ≤ 10) := Nat.not_lt.1 hbig2
  clear h h2 hA hlx hly h32 h322 hbig hbig2 hlen
  go_enter Tryz.func6, Tryz.ntmps6
  go_wp2_with fail
  refine HPA.out.mono ?_
  rintro e w1 ⟨rfl, hb1⟩
  have HR1 := Lib.hid (HRes.out w1 hb1)
  have HB1 := Lib.hid hb1
  clear hb1 HPA HRes
  go_wp2_with fail
  refine HR1.out.mono ?_
  rintro e w2 ⟨Az, mz, cz, zs, ev, rfl, hz, hz32, hmz, hres, hb2⟩
  have HB2 : Hid (Below w.heap.size w w2) := HB1.out.trans (hb2.mono HB1.out.size)
  have HRES := Lib.hid hres
  have HZ32 := Lib.hid hz32
  -- the formula
  obtain ⟨W, hW⟩ : ∃ W, W = (w2.alloc (.cells #[.slice A n c, .slice A2 n2 c2] 32)).alloc (.cells #[.int .i64 12, .slice (some ⟨w2.heap.size, 0, none⟩) 2 2] 27) := ⟨_, rfl⟩
  have hbW : Below w2.heap.size w2 W := by rw [hW]; exact ((Below.refl _ _).alloc (Nat.le_refl _) _).alloc (by simp) _
  have k0 : W.heap[w2.heap.size]? = some (.cells #[.slice A n c, .slice A2 n2 c2] 32 (0, 0)) := by rw [hW]; exact alloc_old (blk_new w2 _)
  have k1 : W.heap[w2.heap.size + 1]? = some (.cells #[.int .i64 12, .slice (some ⟨w2.heap.size, 0, none⟩) 2 2] 27 (0, 0)) := by
    rw [hW]
    have := blk_new (w2.alloc (.cells #[.slice A n c, .slice A2 n2 c2] 32)) (.cells #[.int .i64 12, .slice (some ⟨w2.heap.size, 0, none⟩) 2 2] 27)
    rw [World.size_alloc] at this
    exact this
  have HBW : Hid (Below w.heap.size w W) := HB2.out.trans (hbW.mono HB2.out.size)
  have hF : RdF W W.heap.size (some ⟨w2.heap.size, 0, none⟩) 2 [xs, ys] := rdf_two k0 (HRd.out W HBW.out).1 (HRd.out W HBW.out).2
  have hzW : Rd .i32 W W.heap.size Az mz zs := (hz.below hbW).more hbW.size
  have HV : Hid (∀ V, Below W.heap.size W V → RdF V V.heap.size (some ⟨w2.heap.size, 0, none⟩) 2 [xs, ys] ∧ Rd .i32 V V.heap.size Az mz zs ∧ V.cell? ⟨w2.heap.size + 1, 0, none⟩ = some (.int .i64 12) ∧ V.cell? ⟨w2.heap.size + 1, 1, none⟩ = some (.slice (some ⟨w2.heap.size, 0, none⟩) 2 2)) := fun V hV =>
    ⟨(hF.below hV).more hV.size, (hzW.below hV).more hV.size, (hV.cell (p := ⟨w2.heap.size + 1, 0, none⟩) (lt_of_heap k1)).trans (by rw [Lib.cell_of_heap k1]; rfl), (hV.cell (p := ⟨w2.heap.size + 1, 1, none⟩) (lt_of_heap k1)).trans (by rw [Lib.cell_of_heap k1]; rfl)⟩
  have HC32 : Hid (∀ c ∈ [xs, ys], In32 c) := fun c hc => by
    simp at hc
    rcases hc with rfl | rfl
    · exact H32.out
    · exact H322.out
  have HCL : Hid (∀ c ∈ [xs, ys], c.length * 4 ≤ 140737488351232) := fun c hc => by
    have := HLX.out
    have := HLY.out
    simp at hc
    rcases hc with rfl | rfl <;> omega
  have HFl : Hid (∀ V Ag m cm gl, Below W.heap.size W V → Rd .i32 V V.heap.size Ag m gl → In32 gl → m ≤ 10000 → Calls Tryz.prog 7 #[.agg #[.int .i64 12, .slice (some ⟨w2.heap.size, 0, none⟩) 2 2], .slice Ag m cm] V (FlsTo 12 [xs, ys] gl V)) := fun V Ag m cm gl hV hg hg32 hm =>
    pfollows_any (v := 12) (by omega) (by omega) (.inl (by omega)) (by omega) _ _ (HV.out V hV).1 HC32.out HCL.out Ag gl hg hg32 hm
  have HW := Lib.hid hW
  have s2 : (w2.alloc (.cells #[.slice A n c, .slice A2 n2 c2] 32)).heap.size = w2.heap.size + 1 := World.size_alloc _ _
  clear hW hb2 hz hz32 hres hbW k0 k1 hF hzW HR1 HB1
  go_upto_region 7 with (fail)
  rw [← HW.out]
  have HOwn0 : Hid (Own (W.alloc (.cells #[] 28)) W.heap.size (.slice (some ⟨W.heap.size, 0, none⟩) 0 0) []) := ⟨rfl, .inr ⟨W.heap.size, 0, #[], rfl, Nat.le_refl _, blk_new W _, Nat.le_refl _, by unfold maxLen; omega, rfl, rfl⟩⟩
  have hb3 : Below W.heap.size W (W.alloc (.cells #[] 28)) := (Below.refl _ _).alloc (Nat.le_refl _) _
  have HRx := Lib.hid (HRd.out _ (HBW.out.trans (hb3.mono HBW.out.size))).1
  have HB3 := Lib.hid hb3
  clear hb3
  go_wp2_with (at_builtin; refine wpList_append_rd rfl _ _ rfl W.heap.size _ [] rfl HOwn0.out A n c _ xs rfl HA.out HRx.out (by have := HN10.out; simp; omega) (by simp) ?_)
  intro v1 w4 hown1 hb4
  have hb4 : Below W.heap.size W w4 := HB3.out.trans hb4
  have hb5 : Below w4.heap.size w4 (w4.alloc (.cells #[.int .i32 11, .int .i32 (-12)] 28)) := (Below.refl _ _).alloc (Nat.le_refl _) _
  have HOwn1 : Hid (Own (w4.alloc (.cells #[.int .i32 11, .int .i32 (-12)] 28)) W.heap.size v1 xs) := (show Own w4 W.heap.size v1 xs from by simpa using hown1).below hb5
  have HR2 : Hid (Rd .i32 (w4.alloc (.cells #[.int .i32 11, .int .i32 (-12)] 28)) (w4.alloc (.cells #[.int .i32 11, .int .i32 (-12)] 28)).heap.size (some ⟨w4.heap.size, 0, none⟩) 2 [11, -12]) := rd_blk (blk_new w4 _) rfl rfl
  have HS4 : Hid (W.heap.size ≤ (w4.alloc (.cells #[.int .i32 11, .int .i32 (-12)] 28)).heap.size) := Nat.le_trans hb4.size hb5.size
  have HB4 : Hid (Below W.heap.size W (w4.alloc (.cells #[.int .i32 11, .int .i32 (-12)] 28))) := hb4.trans (hb5.mono hb4.size)
  clear hown1 hb4 hb5 HOwn0 HB3 HRx
  go_wp2_with (at_builtin; refine wpList_append_rd rfl _ _ rfl W.heap.size _ xs rfl HOwn1.out (some ⟨w4.heap.size, 0, none⟩) 2 2 _ [11, -12] rfl (fun e => by cases e) HR2.out (by rw [HLN.out]; have := HN10.out; omega) HS4.out ?_)
  intro v2 w5 hown2 hb5
  have hb5 : Below W.heap.size W w5 := HB4.out.trans hb5
  obtain ⟨Am, cm, rfl, hrm⟩ := hown2.form
  obtain ⟨_, hz5, f0, f1⟩ := HV.out w5 hb5
  have hml : (xs ++ [11, (-12 : Int)]).length ≤ 20 := by have := HLX.out; simp; omega
  have hm32 : In32 (xs ++ [11, (-12 : Int)]) := In32.of fun x hx => by
    rcases List.mem_append.1 hx with e | e
    · obtain ⟨j, rfl⟩ : ∃ j, xs.getD j 0 = x := by
        obtain ⟨j, hj, rfl⟩ := List.getElem_of_mem e
        exact ⟨j, getD_lt hj⟩
      exact H32.out j
    · simp at e
      omega
  obtain ⟨ms, hms⟩ : ∃ ms, ms = xs ++ [11, (-12 : Int)] := ⟨_, rfl⟩
  rw [← hms] at hrm hml hm32 ⊢
  have HMS := Lib.hid hms
  have HF1 := Lib.hid (HFl.out w5 Az mz cz zs hb5 hz5 HZ32.out (by omega))
  have HRM := Lib.hid hrm
  have HM32 := Lib.hid hm32
  have HML := Lib.hid hml
  have HB5 := Lib.hid hb5
  clear hown2 hb5 hz5 hrm hml hm32 hms HOwn1 HR2 HS4 HB4
  go_wp2_with fail
  refine HF1.out.mono ?_
  rintro e w6 ⟨x, rfl, hx1, hx2, hb6⟩
  obtain ⟨g, hg⟩ : ∃ g : Int, g = (if fitB 12 [xs, ys] zs [] = true then 0 else 91) := ⟨_, rfl⟩
  rw [← hg]
  have HG := Lib.hid hg
  have HX1 := Lib.hid hx1
  have HX2 := Lib.hid hx2
  have hb6' : Below W.heap.size W w6 := HB5.out.trans (hb6.mono HB5.out.size)
  have HF2 := Lib.hid (HFl.out w6 Am ms.length cm ms hb6' ((HRM.out.below hb6).more hb6.size) HM32.out (by have := HML.out; omega))
  have HB6 := Lib.hid hb6'
  obtain ⟨_, _, f2, f3⟩ := HV.out w6 hb6'
  clear hg hx1 hx2 hb6 hb6' f0 f1 HF1
  go_wp2_with fail
  refine HF2.out.mono ?_
  rintro e w7 ⟨y, rfl, _, hy2, hb7⟩
  obtain ⟨h, hh⟩ : ∃ h : Int, h = (if fitB 12 [xs, ys] ms [] = true then 0 else 91) := ⟨_, rfl⟩
  rw [← hh]
  have HHH := Lib.hid hh
  have HY2 := Lib.hid hy2
  have hb7' : Below W.heap.size W w7 := HB6.out.trans (hb7.mono HB6.out.size)
  obtain ⟨W8, hW8⟩ : ∃ W8, W8 = w7.alloc (.cells #[.slice A n c, .slice A2 n2 c2] 32) := ⟨_, rfl⟩
  have hb8 : Below W.heap.size W W8 := by rw [hW8]; exact hb7'.alloc hb7'.size _
  have hbw8 : Below w.heap.size w W8 := HBW.out.trans (hb8.mono HBW.out.size)
  have k8 : W8.heap[w7.heap.size]? = some (.cells #[.slice A n c, .slice A2 n2 c2] 32 (0, 0)) := by rw [hW8]; exact blk_new w7 _
  obtain ⟨hF8, _, _, _⟩ := HV.out W8 hb8
  have HFit : Hid (Calls Tryz.prog 15 #[.agg #[.int .i64 12, .slice (some ⟨w2.heap.size, 0, none⟩) 2 2], .slice (some ⟨w7.heap.size, 0, none⟩) 2 2] W8 fun e w' => e = .returned (.bool (clauseB 12 xs && clauseB 12 ys)) ∧ Below w.heap.size w w') := by
    have hly := HLY.out
    have hlx := HLX.out
    refine (fits_any (v := 12) (some ⟨w2.heap.size, 0, none⟩) (some ⟨w7.heap.size, 0, none⟩) 2 2 2 2 [xs, ys] [xs, ys] W8 hF8 (Ok32.of fun c hc => ⟨by have := HCL.out c hc; omega, HC32.out c hc⟩) (by omega) (by unfold total; simp; omega) (rdf_two k8 (HRd.out W8 hbw8).1 (HRd.out W8 hbw8).2) HC32.out (fun c hc => by simp at hc; rcases hc with rfl | rfl <;> omega) (by omega)).mono fun e w' ⟨he, hb⟩ => ⟨?_, hbw8.trans (hb.mono hbw8.size)⟩
    rw [he, rf2 hlx hly]
    simp only [List.all_cons, List.all_nil]
    cases clauseB 12 xs <;> cases clauseB 12 ys <;> rfl
  obtain ⟨_, _, f4, f5⟩ := HV.out w7 hb7'
  have HW8 := Lib.hid hW8
  have d8 : (w7.alloc (.cells #[.slice A n c, .slice A2 n2 c2] 32)).heap.size = w7.heap.size + 1 := World.size_alloc _ _
  clear hh hy2 hb7 hb7' hW8 hb8 hbw8 k8 hF8 f2 f3 HF2 d8
  cases hft : (clauseB 12 xs && clauseB 12 ys) with
  | false =>
    rw [hft] at HFit
    have hg : g = 91 := by
      rw [HG.out, fit2 HLX.out HLY.out, hft]; rfl
    subst hg
    clear hft HG HX2
    go_wp2_with fail
    rw [← HW8.out]
    refine HFit.out.mono ?_
    rintro e w9 ⟨rfl, hb9⟩
    have HB9 := Lib.hid hb9
    clear hb9 HFit
    go_wp2_with fail
    go_ret
    exact ⟨rfl, HB9.out⟩
  | true =>
    rw [hft] at HFit
    have hft2 : clauseB 12 xs = true ∧ clauseB 12 ys = true := by simpa using hft
    have hox := clauseB_one hft2.1
    have hoy := clauseB_one hft2.2
    have hfm : fitB 12 [xs, ys] ms [] = true := by
      rw [fit2 HLX.out HLY.out, hft, Bool.true_and, HMS.out]
      refine clauseB_of fun x hx => ?_
      rcases List.mem_append.1 hx with e | e
      · exact clauseB_all hft2.1 x e
      · simp at e
        rcases e with rfl | rfl <;> decide
    have hh : h = 0 := by rw [HHH.out, if_pos hfm]
    subst hh
    have HYY : Hid (y = true ↔ Rup (fun c => handM [xs, ys] (fun _ => 0) c ≠ 0) ms) := HY2.out hfm
    have HOX := Lib.hid hox
    have HOY := Lib.hid hoy
    have HFT := Lib.hid hft2
    have HFTT := Lib.hid hft
    have hcx := fun (V : World) (hV : Below w.heap.size w V) => rclean_yes A n c xs V (HRd.out V hV).1 (by have := HN10.out; omega) hox
    have hcy := fun (V : World) (hV : Below w.heap.size w V) => rclean_yes A2 n2 c2 ys V (HRd.out V hV).2 (by have := HN20.out; omega) hoy
    have HCX := Lib.hid hcx
    have HCY := Lib.hid hcy
    clear hft hft2 hox hoy hfm HHH HY2 hcx hcy
    go_wp2_with fail
    rw [← HW8.out]
    refine HFit.out.mono ?_
    rintro e w9 ⟨rfl, hb9⟩
    have HC1 := Lib.hid (HCX.out w9 hb9)
    have HB9 := Lib.hid hb9
    clear hb9 HFit HCX
    go_wp2_with fail
    refine HC1.out.mono ?_
    rintro e w10 ⟨u1, us, rfl, _, hus, hb10⟩
    have hb10' : Below w.heap.size w w10 := HB9.out.trans (hb10.mono HB9.out.size)
    have HC2 := Lib.hid (HCY.out w10 hb10')
    have HB10 := Lib.hid hb10'
    have HUS := Lib.hid hus
    clear hb10 hb10' HC1 hus HCY
    go_wp2_with fail
    refine HC2.out.mono ?_
    rintro e w11 ⟨u2, vs, rfl, _, hvs, hb11⟩
    have HB11 : Hid (Below w.heap.size w w11) := HB10.out.trans (hb11.mono HB10.out.size)
    have hK1 : handM [xs, ys] (fun _ => 0) us ≠ 0 := (two_m xs ys us).2 (.inl (clZ_eq HUS.out).symm)
    have hK2 : handM [xs, ys] (fun _ => 0) vs ≠ 0 := (two_m xs ys vs).2 (.inr (clZ_eq hvs).symm)
    have hYf : (y || bothB xs) = true := by
      cases hb : bothB xs with
      | true => simp
      | false =>
        have := HYY.out.2 (rup_weak HUS.out hK1 hb HOX.out (fun x hx => by rw [HMS.out]; exact List.mem_append_left _ hx))
        simp [this]
    have hXf : ev = 11 ∨ (ev = 0 ∧ g = 0 ∧ (x || bothB xs || bothB ys) = true) := by
      rcases HRES.out with e | ⟨e, _, _, ov, hcz⟩
      · exact .inl e
      · refine .inr ⟨e, ?_, ?_⟩
        · have hfz : fitB 12 [xs, ys] zs [] = true := by
            rw [fit2 HLX.out HLY.out, HFTT.out, Bool.true_and]
            refine clauseB_of fun l hl => ?_
            have hl := (hcz.2 l).1 hl
            unfold restL at hl
            rcases List.mem_append.1 hl with q | q
            · exact clauseB_all HFT.out.1 l (sans_mem.1 q).1
            · exact clauseB_all HFT.out.2 l (sans_mem.1 q).1
          rw [HG.out, if_pos hfz]
        · cases hb : bothB xs with
          | true => simp
          | false =>
            cases hb2 : bothB ys with
            | true => simp
            | false =>
              have hfz : fitB 12 [xs, ys] zs [] = true := by
                rw [fit2 HLX.out HLY.out, HFTT.out, Bool.true_and]
                refine clauseB_of fun l hl => ?_
                have hl := (hcz.2 l).1 hl
                unfold restL at hl
                rcases List.mem_append.1 hl with q | q
                · exact clauseB_all HFT.out.1 l (sans_mem.1 q).1
                · exact clauseB_all HFT.out.2 l (sans_mem.1 q).1
              have := (HX2.out hfz).2 (rup_rest HUS.out hvs hcz hK1 hK2 hb hb2 HOX.out HOY.out ov)
              simp [this]
    clear hvs hb11 HC2 hK1 hK2 HYY HX2 HX1 HG HRES HUS HOX HOY HFT HFTT HMS
    generalize bothB xs = ba at *
    generalize bothB ys = bb at *
    rcases hXf with rfl | ⟨rfl, rfl, hXf⟩
    · cases y <;> cases ba
      all_goals first
        | (exfalso; revert hYf; decide)
        | (clear hYf; go_wp2_with fail; go_ret; exact ⟨rfl, HB11.out⟩)
    · cases y <;> cases ba <;> cases x <;> cases bb
      all_goals first
        | (exfalso; revert hYf; decide)
        | (exfalso; revert hXf; decide)
        | (clear hYf hXf; go_wp2_with fail; go_ret; exact ⟨rfl, HB11.out⟩)
set_option maxHeartbeats 800000 in
set_option maxRecDepth 100000 in
theorem lifted (os : Os) (started : os.Started) (H : Type) (enc : TypeId × Value → H) :
    ReturnsInHanded {} Tryz.checked os 6 .any (Rows.proofResolvesSpec.pre6 enc Tryz.prog Tryz.f6 Rows.proofResolvesRow.domain false) (Rows.proofResolvesSpec.post enc Tryz.prog Tryz.f6 false true false false) := by
  refine returnsInHanded_of_change (C := Tryz.checked) own_knob started (by kernel_rfl) Tryz.func6
    (ChangeSpec.witness6 (enc := enc) (C := Tryz.checked) false ⟨#[], #[.slice none 0 0, .slice none 0 0, .int .i64 0], []⟩ 8 (by kernel_rfl) (by kernel_rfl) (by kernel_rfl) (by kernel_rfl)) ?_
  intro W base args ds gs before hval0 hW _ _
  have hval : ∀ (j : Nat) t v, Tryz.f6.params[j]? = some t → args[j]? = some v → Value.okWide Tryz.prog W .any base t v := hval0
  have hW' := hW
  obtain ⟨p, q, hA0, hV, rfl, _, _⟩ := hW
  have hA : DataW.TrodAll enc Tryz.prog W 0 (fun _ => true) true Tryz.f6.params.toList args.toList ds p := hA0
  rw [Tryz.params6] at hA hval
  obtain ⟨v0, v1, v2, d0, d1, d2, p0, p1, p2, rfl, rfl, rfl, h0, h1, h2⟩ := trodAll_three hA
  obtain ⟨rfl, rfl⟩ := trodVars_none hV
  obtain ⟨A0, n0, c0, xs0, rfl, hR0, h320, hn0, hnil0⟩ := open_lits (hval 0 32 v0 rfl rfl) h0
  obtain ⟨A1, n1, c1, xs1, rfl, hR1, h321, hn1, hnil1⟩ := open_lits (hval 1 32 v1 rfl rfl) h1
  obtain ⟨a2, rfl, rfl, rfl, w2⟩ := open_int Tryz.underlying3 (hval 2 3 v2 rfl rfl) h2
  clear hval0
  simp only [List.append_nil] at hW'
  have hlt0 : ∀ y ∈ p0, y.block < W.heap.size := fun y hy => by simpa using hW'.lt y (by simp [hy])
  have hlt1 : ∀ y ∈ p1, y.block < W.heap.size := fun y hy => by simpa using hW'.lt y (by simp [hy])
  refine (walk A0 A1 n0 c0 n1 c1 xs0 xs1 a2 W hR0 hR1 h320 h321 hn0 hn1 hnil0 (i64_of w2).1 (i64_of w2).2).mono fun e W' ⟨he, hB⟩ => ?_
  subst he
  exact ⟨_, rfl, _, _, _, [], _, [], hW', trodAll_mk1 (shut_bool Tryz.underlying4 true), trodAll_mk3 (Below.trod laid_out (by kernel_rfl) (of_decide_eq_true (by kernel_rfl)) h0 hB hlt0) (Below.trod laid_out (by kernel_rfl) (of_decide_eq_true (by kernel_rfl)) h1 hB hlt1) (shut_int Tryz.underlying3 w2), rfl, hB.frame _, fun h => by cases h⟩

theorem proved : Rows.ProofResolvesSaid :=
  OpenClaim.holds_of_wide 6 Tryz.f6 rfl rfl rfl rfl rfl rfl rfl ⟨rfl, rfl, rfl, rfl, rfl⟩ rfl rfl rfl rfl rfl (by kernel_rfl) Tryz.func6 (by kernel_rfl)
    (of_decide_eq_true (by kernel_rfl)) (by unfold Func.isWrapper; first | (rw [if_pos (by decide +kernel)]; kernel_rfl) | (rw [if_neg (by decide +kernel)]; exact ⟨rfl, rfl⟩))
    (fun os started H enc _ => lifted os started H enc)
end Go.Proofs.YtmegplcepcacgaaGreat.PResolves
namespace Go.Proofs.YtmegplcepcacgaaGreat
theorem proofResolves_holds : Rows.ProofResolvesSaid := PResolves.proved
#print axioms proofResolves_holds
end Go.Proofs.YtmegplcepcacgaaGreat
