/- VecConsts is true: the statement Rows.VecConstsSaid, without a condition. -/
import Derived.Test.YtelpoocgmflofaaVecW
namespace Go.Proofs.Ytelpoocgmflofaa.VConsts
open Go.ChangeShapes Go.WideShapes Go.ChangeAt Go.RowKit GatM VecM LitM

theorem own_knob : ownKnob Try.prog.godebug = none := by kernel_rfl
theorem laid_out : laidOutB Try.prog = true := by kernel_rfl
/-- A number's bits in any more. -/
theorem conL_wide (n : Int) {k m : Nat} (hn : -9223372036854775808 ≤ n ∧ n ≤ 9223372036854775807) (hk : k = widthZ n n) (h0 : 0 < k) (hm : k ≤ m) {gs : Gs} (hw : Wf gs) (vals : List Bool) {l : List Nat} (hl : l.length = m) (hat : ∀ i, i < m → l.getD i 0 = atL (conL n k) i) : valE vals gs l = n := by
  have e1 : valE vals gs l = nB (bitE vals gs (conL n k)) m := by
    rw [valE_of (f := bitE vals gs (conL n k)) (by omega) fun i hi => by rw [hat i (by omega)]; rfl, hl]
  rw [e1, valE_at (by rw [conL_len]; exact hm), conL_val hw vals n h0, (widthZ_self hn hk h0).2]
set_option maxHeartbeats 6400000 in
set_option maxRecDepth 100000 in
theorem walk (n m x y : Int) (hn : I64 n) (hm : I64 m) (hx : I64 x) (hy : I64 y) (w : World) :
    Calls Try.prog 4 #[.int .i64 n, .int .i64 m, .agg #[.int .i64 x, .int .i64 y]] w fun e w' => e = .returned (.bool true) ∧ Below w.heap.size w w' := by
  obtain ⟨W0, hW0⟩ : ∃ W0, W0 = w.alloc (.cells #[.int .i64 x, .int .i64 y] 37) := ⟨_, rfl⟩
  have hB0 : Below w.heap.size w W0 := by rw [hW0]; exact (Below.refl _ _).alloc (Nat.le_refl _) _
  have HT : Hid (∀ W, Below W0.heap.size W0 W → W.cell? ⟨w.heap.size, 0, none⟩ = some (.int .i64 x) ∧ W.cell? ⟨w.heap.size, 1, none⟩ = some (.int .i64 y)) := fun W hb => by
    have hs : w.heap.size < W0.heap.size := by rw [hW0]; simp
    have e1 : W0.heap[w.heap.size]? = some (.cells #[.int .i64 x, .int .i64 y] 37 (0, 0)) := by rw [hW0]; exact blk_new w _
    refine ⟨?_, ?_⟩
    all_goals (rw [hb.cell (by exact hs), Lib.cell_of_heap e1]; rfl)
  have HVW : Hid (∀ W, Calls Try.prog 18 #[.int .i64 x, .int .i64 y] W fun e w' => e = .returned (.int .i64 ((widthZ x y : Nat) : Int)) ∧ w' = W) := fun W => (vWidth_any x y hx hy W).mono fun e w' q => ⟨q.1, q.2.symm⟩
  have HRW : Hid (∀ W, Calls Try.prog 19 #[.int .i64 x, .int .i64 y] W fun e w' => e = .returned (.int .i64 ((widthZ x y : Nat) : Int)) ∧ w' = W) := fun W => (rwidth_any x y hx hy W).mono fun e w' q => ⟨q.1, q.2.symm⟩
  have HRN : Hid (∀ W, Calls Try.prog 19 #[.int .i64 n, .int .i64 n] W fun e w' => e = .returned (.int .i64 ((widthZ n n : Nat) : Int)) ∧ W = w') := fun W => rwidth_any n n hn hn W
  obtain ⟨k, hk⟩ : ∃ k, k = widthZ n n := ⟨_, rfl⟩
  have HCN : Hid (∀ W, Calls Try.prog 11 #[.int .i64 n] W (ConTo W n)) := fun W => vConst_any n hn W
  rw [← hk] at HRN
  generalize widthZ x y = xy at *
  have HN := Lib.hid hn
  have HK := Lib.hid hk
  obtain ⟨hm1, hm2⟩ := hm
  have HM := Lib.hid (And.intro hm1 hm2)
  have hk32 : k ≤ 32 := by rw [hk]; unfold widthZ; split <;> omega
  clear hn hx hy hk
  go_enter Try.func4, Try.ntmps4
  go_wp2_with fail
  rw [← hW0]
  refine (valive_any W0).mono ?_
  rintro e w1 ⟨rfl, hb1⟩
  obtain ⟨x0, x1⟩ := HT.out w1 hb1
  have HBW : Hid (Below w.heap.size w w1) := hB0.trans (hb1.mono hB0.size)
  clear hW0 hB0 hb1 HT
  go_upto_region 3 with (fail)
  go_quiet ((first | (go_at_call 18; exact Calls.quiet_of_same (HVW.out _)) | (go_at_call 19; exact Calls.quiet_of_same (HRW.out _))))
  obtain ⟨w2, hw2⟩ : ∃ w2, w2 = w1.drewN nq := ⟨_, rfl⟩
  rw [← hw2]
  have HB2 : Hid (Below w.heap.size w w2) := by rw [hw2]; exact below_drewN HBW.out nq
  clear hw2 x0 x1 HVW HRW HBW
  go_wp2_with fail
  refine (gnew_any w2).mono ?_
  intro e w3 hN
  obtain ⟨c, rfl, h3⟩ := LvG.new hN HB2.out HB2.out.size
  obtain ⟨bg, hbg⟩ : ∃ bg, bg = c.bg := ⟨_, rfl⟩
  rw [← hbg]
  have HBG := Lib.hid hbg
  have H3 := Lib.hid h3
  clear hN h3 hbg HB2
  by_cases hk0 : k = 0
  · have hc := HCN.out w3
    have HC : Hid (Calls Try.prog 11 #[.int .i64 n] w3 fun e w' => e = .returned (.tuple #[.slice none 0 0, .int .i64 111]) ∧ w3 = w') := hc.mono fun e w' q => by
      unfold ConTo at q
      rw [← HK.out, if_pos hk0] at q
      exact q
    have HBE := Lib.hid H3.out.be
    subst hk0
    clear hc HCN H3 HK
    go_wp2_with fail
    refine HC.out.mono ?_
    rintro e w' ⟨rfl, rfl⟩
    go_wp2_with fail
    refine (HRN.out _).mono ?_
    rintro e w' ⟨rfl, rfl⟩
    go_wp2_with fail
    go_ret
    exact ⟨rfl, HBE.out⟩
  have t0 : ((k : Int) == 0) = false := by rw [beq_eq_false_iff_ne]; omega
  have t00 : (k == 0) = false := by rw [beq_eq_false_iff_ne]; omega
  have HC := Lib.hid (vcon_yes H3.out n HN.out k HK.out (by omega))
  clear HCN
  go_wp2_with fail
  refine HC.out.mono ?_
  rintro e w4 ⟨g, rfl, hb4, hv4⟩
  have h4 := H3.out.below hb4
  have H4 := Lib.hid h4
  have HV4 := Lib.hid hv4
  have hnum := vNumber_any h4 (cn := k) (cv := 0) (V := none) hv4 (RdO.nil (w := w4)) (conL_in h4.wf _ _) hk32 (by decide)
  rw [conL_val h4.wf _ _ (by omega), (widthZ_self HN.out HK.out (by omega)).2, ← HBG.out] at hnum
  have HNUM := Lib.hid hnum
  clear hb4 hv4 h4 hnum HC H3
  go_wp2_with fail
  refine (HRN.out _).mono ?_
  rintro e w' ⟨rfl, rfl⟩
  go_wp2_with fail
  refine HNUM.out.mono ?_
  rintro e w5 ⟨rfl, hb5⟩
  have h5 := H4.out.below hb5
  have H5 := Lib.hid h5
  have HV5 := Lib.hid (HV4.out.below hb5)
  have HWD := Lib.hid (vWiden_any (cn := k) HV5.out (by omega) m ⟨hm1, hm2⟩)
  clear hb5 h5 HNUM H4 HV4 HRN
  by_cases hmk : (k : Int) ≤ m ∧ m ≤ 32
  · obtain ⟨hmk1, hmk2⟩ := hmk
    have t1 : decide (m < (k : Int)) = false := decide_eq_false (by omega)
    have t2 : decide (32 < m) = false := decide_eq_false (by omega)
    obtain ⟨j, rfl⟩ : ∃ j : Nat, m = (j : Int) := ⟨m.toNat, by omega⟩
    have HWY : Hid (Calls Try.prog 15 #[.slice (some ⟨g, 0, none⟩) k k, .int .i64 (j : Int)] w5 fun e w' => ∃ g2, e = .returned (.tuple #[.slice (some ⟨g2, 0, none⟩) j j, .int .i64 0]) ∧ Below w.heap.size w w' ∧ Hid (Calls Try.prog 20 #[.pointer (some ⟨bg, 0, none⟩), .slice none 0 0, .slice (some ⟨g2, 0, none⟩) j j] w' fun e w2 => e = .returned (.tuple #[.int .i64 n, .int .i64 0]) ∧ Below w.heap.size w w2)) := HWD.out.mono fun e w' q => by
      unfold Wid2To at q
      rw [if_pos ⟨by omega, by omega, by omega, by omega, by omega⟩] at q
      obtain ⟨v, rfl, g2, hv, hr, hb, hg2⟩ := q
      injection hv with hv
      subst hv
      rw [Int.toNat_natCast] at hr ⊢
      have h6 := H5.out.below hb
      refine ⟨g2, rfl, h6.be, ?_⟩
      obtain ⟨l, hl⟩ : ∃ l, l = (List.range j).map (atL (conL n k)) := ⟨_, rfl⟩
      have hll : l.length = j := by rw [hl]; simp
      have hat : ∀ i, i < j → l.getD i 0 = atL (conL n k) i := fun i hi => by
        rw [hl, List.getD, List.getElem?_map, List.getElem?_range hi]; rfl
      have hvc := VcAt.row (c := c) (l := l) hr (by omega) (by omega) (fun ho => by have := H5.out.at_.lt ho; omega) (fun i hi => by unfold numF; rw [hat i (by omega)])
      rw [hll] at hvc
      have hin : AllIn [(0, 0)] l := fun z hz => by
        rw [hl] at hz
        obtain ⟨i, _, rfl⟩ := List.mem_map.1 hz
        exact conL_in h6.wf n k _ (atL_mem (by rw [conL_len]; omega) i)
      have hnum := vNumber_any h6 (cn := j) (cv := 0) (V := none) hvc (RdO.nil (w := w')) hin (by omega) (by decide)
      rw [conL_wide n HN.out HK.out (by omega) (by omega) h6.wf [] hll hat, ← HBG.out] at hnum
      exact hnum.mono fun e w2 ⟨r1, r2⟩ => ⟨r1, h6.be.trans (r2.mono h6.hB)⟩
    clear HWD H5 HV5 HN HM
    go_wp2_with fail
    refine HWY.out.mono ?_
    rintro e w6 ⟨g2, rfl, hb6, HNM⟩
    clear hb6 HWY
    go_wp2_with fail
    refine HNM.out.mono ?_
    rintro e w7 ⟨rfl, hb7⟩
    have HB7 := Lib.hid hb7
    clear hb7 HNM
    go_wp2_with fail
    go_ret
    exact ⟨rfl, HB7.out⟩
  · have HWN : Hid (Calls Try.prog 15 #[.slice (some ⟨g, 0, none⟩) k k, .int .i64 m] w5 fun e w' => e = .returned (.tuple #[.slice none 0 0, .int .i64 111]) ∧ w5 = w') := HWD.out.mono fun e w' q => by
      unfold Wid2To at q
      rw [if_neg (fun r => hmk ⟨r.2.2.2.2, r.2.2.2.1⟩)] at q
      exact q
    have HBE := Lib.hid H5.out.be
    by_cases hm3 : m < (k : Int)
    · have t1 : decide (m < (k : Int)) = true := decide_eq_true hm3
      clear HWD H5 HV5 HN HM hmk
      go_wp2_with fail
      refine HWN.out.mono ?_
      rintro e w' ⟨rfl, rfl⟩
      go_wp2_with fail
      go_ret
      exact ⟨rfl, HBE.out⟩
    · have t1 : decide (m < (k : Int)) = false := decide_eq_false hm3
      have hm4 : 32 < m := by omega
      have t2 : decide (32 < m) = true := decide_eq_true hm4
      clear HWD H5 HV5 HN HM hmk
      go_wp2_with fail
      refine HWN.out.mono ?_
      rintro e w' ⟨rfl, rfl⟩
      go_wp2_with fail
      go_ret
      exact ⟨rfl, HBE.out⟩
set_option maxHeartbeats 800000 in
set_option maxRecDepth 100000 in
theorem lifted (os : Os) (started : os.Started) (H : Type) (enc : TypeId × Value → H) :
    ReturnsInHanded {} Try.checked os 4 .any (Rows.vecConstsSpec.pre6 enc Try.prog Try.f4 Rows.vecConstsRow.domain false) (Rows.vecConstsSpec.post enc Try.prog Try.f4 false true false false) := by
  refine returnsInHanded_of_change (C := Try.checked) own_knob started (by kernel_rfl) Try.func4
    (ChangeSpec.witness6 (enc := enc) (C := Try.checked) false ⟨#[], #[.int .i64 0, .int .i64 0, .agg #[.int .i64 0, .int .i64 0]], []⟩ 8 (by kernel_rfl) (by kernel_rfl) (by kernel_rfl) (by kernel_rfl)) ?_
  intro W base args ds gs before hval0 hW _ _
  have hval : ∀ (j : Nat) t v, Try.f4.params[j]? = some t → args[j]? = some v → Value.okWide Try.prog W .any base t v := hval0
  have hW' := hW
  obtain ⟨p, q, hA0, hV, rfl, _, _⟩ := hW
  have hA : DataW.TrodAll enc Try.prog W 0 (fun _ => true) true Try.f4.params.toList args.toList ds p := hA0
  rw [Try.params4] at hA hval
  obtain ⟨v0, v1, v2, d0, d1, d2, p0, p1, p2, rfl, rfl, rfl, h0, h1, h2⟩ := trodAll_three hA
  obtain ⟨rfl, rfl⟩ := trodVars_none hV
  obtain ⟨a0, rfl, rfl, rfl, w0⟩ := open_int Try.underlying2 (hval 0 2 v0 rfl rfl) h0
  obtain ⟨a1, rfl, rfl, rfl, w1⟩ := open_int Try.underlying3 (hval 1 3 v1 rfl rfl) h1
  obtain ⟨x2, y2, rfl, hx2, hy2⟩ := open_w2 (hval 2 37 v2 rfl rfl) h2
  clear hA0 hval0
  simp only [List.append_nil, List.nil_append] at hW'
  have hlt2 : ∀ y ∈ p2, y.block < W.heap.size := fun y hy => by simpa using hW'.lt y (by simp [hy])
  refine (walk a0 a1 x2 y2 (bounds_i64 w0) (bounds_i64 w1) hx2 hy2 W).mono fun e W' ⟨he, hB⟩ => ?_
  subst he
  exact ⟨_, rfl, _, _, _, [], _, [], hW', trodAll_mk1 (shut_bool Try.underlying4 true), trodAll_mk3 (shut_int Try.underlying2 w0) (shut_int Try.underlying3 w1) (Below.trod laid_out (by kernel_rfl) (of_decide_eq_true (by kernel_rfl)) h2 hB hlt2), rfl, hB.frame _, fun h => by cases h⟩

theorem proved : Rows.VecConstsSaid :=
  OpenClaim.holds_of_wide 4 Try.f4 rfl rfl rfl rfl rfl rfl rfl ⟨rfl, rfl, rfl, rfl, rfl⟩ rfl rfl rfl rfl rfl (by kernel_rfl) Try.func4 (by kernel_rfl)
    (of_decide_eq_true (by kernel_rfl)) (by unfold Func.isWrapper; first | (rw [if_pos (by decide +kernel)]; kernel_rfl) | (rw [if_neg (by decide +kernel)]; exact ⟨rfl, rfl⟩))
    (fun os started H enc _ => lifted os started H enc)
end Go.Proofs.Ytelpoocgmflofaa.VConsts
namespace Go.Proofs.Ytelpoocgmflofaa
theorem vecConsts_holds : Rows.VecConstsSaid := VConsts.proved
#print axioms vecConsts_holds
end Go.Proofs.Ytelpoocgmflofaa
