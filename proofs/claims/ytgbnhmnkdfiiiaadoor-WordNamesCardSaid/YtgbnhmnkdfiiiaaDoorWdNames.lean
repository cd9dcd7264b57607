/- WordNames is true: the statement Rows.WordNamesCardSaid, without a condition. -/
import Derived.Test.YtgbnhmnkdfiiiaaDoorWrdI
import Derived.Test.YtgbnhmnkdfiiiaaDoorWrdL
import Derived.Laws.IdiomStrings
namespace Go.Proofs.YtgbnhmnkdfiiiaaDoor.WNames
open Go.RowKit WrdM

theorem info_u8 : (Tryd.prog.info? 5).map (fun i => (i.zero, i.size, i.bytes)) = some (some (.int .u8 0), 1, 1) := by kernel_rfl
/-- Many bytes, all 0, as a string. -/
theorem zeros_run (n : Nat) (hn : n ≤ 100001) : ∃ C : Array Value, (∀ W : World, (Instr.makeSlice 28 (.int .i64 (n : Int)) (.int .i64 (n : Int))).run Tryd.prog W = .ok (.slice (some ⟨W.heap.size, 0, none⟩) n n) (W.alloc (.cells C 5))) ∧
    ∀ W : World, (convert 28 9 (.slice (some ⟨W.heap.size, 0, none⟩) n n)).run Tryd.prog (W.alloc (.cells C 5)) = .ok (.string ⟨(List.replicate n (0 : UInt8)).toArray⟩) (W.alloc (.cells C 5)) := by
  obtain ⟨C, h1, h2, h3⟩ := make_sl (P := Tryd.prog) 28 5 Tryd.underlying28 info_u8 rfl (by decide) (by decide) n hn
  refine ⟨C, h3, fun W => ?_⟩
  have hb := run_convert_bytes_back (P := Tryd.prog) (W.alloc (.cells C 5)) 28 9 5 ⟨W.heap.size, 0, none⟩ n (List.replicate n (0 : UInt8)) Tryd.underlying28 Tryd.underlying5 Tryd.underlying9 (fun j hj => by
    rw [List.length_replicate] at hj
    have ha : ((⟨W.heap.size, 0, none⟩ : Addr).add j) = ⟨W.heap.size, j, none⟩ := by unfold Addr.add; split <;> simp_all
    rw [ha, Lib.cell_of_heap (blk_new W _), h2 j (by omega), List.getElem_replicate]
    rw [Nat.mod_one]
    rfl)
  rw [List.length_replicate] at hb
  exact hb
theorem cut_a : cutL [97, 10, 32, 36] = .bad 131 2 2 := by kernel_rfl
theorem cut_b : cutL [49, 48, 48, 48, 48, 48, 49] = .bad 132 1 1 := by kernel_rfl
theorem cut_c (n : Nat) (hn : 65536 < n) : cutL (List.replicate n 0) = .bad 132 1 1 := by
  unfold cutL
  rw [List.length_replicate, if_pos hn]
/-- A fault in a box of the law's own. -/
theorem flt_box (w : World) (a b c : Value) {W : World} (hb : Below (w.heap.size + 1) (w.alloc (.cells #[a, b, c] 25)) W) :
    W.cell? ⟨w.heap.size, 0, none⟩ = some a ∧ W.cell? ⟨w.heap.size, 1, none⟩ = some b ∧ W.cell? ⟨w.heap.size, 2, none⟩ = some c :=
  cells3 ((hb.block w.heap.size (by omega)).trans (blk_new w _))
theorem size_alloc (w : World) (o : Obj) : (w.alloc o).heap.size = w.heap.size + 1 := by simp

set_option maxHeartbeats 3200000 in
set_option maxRecDepth 100000 in
theorem walk (w : World) (h : SgnAt w) (hw : 0 < w.heap.size) :
    Calls Tryd.prog 3 #[] w fun e w' => e = .returned (.bool true) ∧ Below w.heap.size w w' := by
  have HSG : Hid (∀ W, Below w.heap.size w W → SgnAt W ∧ 0 < W.heap.size) := fun W hb => ⟨h.below hb hw, Nat.lt_of_lt_of_le hw hb.size⟩
  have HC1 := cut_any [97, 10, 32, 36] w h hw (by decide)
  rw [cut_a] at HC1
  have HC1 := Lib.hid HC1
  obtain ⟨N, hN⟩ : ∃ N : Nat, N = 65537 := ⟨_, rfl⟩
  obtain ⟨C, hm, hc⟩ := zeros_run N (by omega)
  have HNC := Lib.hid (cut_c N (by omega))
  have HNL : Hid ((List.replicate N (0 : UInt8)).length ≤ 9223372036854775807) := by unfold Hid; rw [List.length_replicate]; omega
  have HM : Hid (∀ W : World, (Instr.makeSlice 28 (.int .i64 65537) (.int .i64 65537)).run Tryd.prog W = .ok (.slice (some ⟨W.heap.size, 0, none⟩) N N) (W.alloc (.cells C 5))) := fun W => by
    have := hm W
    rw [show (N : Int) = 65537 from by omega] at this
    exact this
  have HCV := Lib.hid hc
  generalize List.replicate N (0 : UInt8) = zs at *
  clear h hm hc hN
  go_enter Tryd.func3, Tryd.ntmps3
  go_wp2_with fail
  refine HC1.out.mono ?_
  rintro e w1 ⟨rfl, hB1⟩
  have hal1 := below_alloc w1 (.cells #[.int .i64 131, .int .i64 2, .int .i64 2] 25)
  have HB1 := Lib.hid (hB1.trans (hal1.mono hB1.size))
  have HF1 : Hid (∀ W, Below (w1.heap.size + 1) (w1.alloc (.cells #[.int .i64 131, .int .i64 2, .int .i64 2] 25)) W → W.cell? ⟨w1.heap.size, 0, none⟩ = some (.int .i64 131) ∧ W.cell? ⟨w1.heap.size, 1, none⟩ = some (.int .i64 2) ∧ W.cell? ⟨w1.heap.size, 2, none⟩ = some (.int .i64 2)) := fun W hb => flt_box w1 _ _ _ hb
  have HZ1 := Lib.hid (size_alloc w1 (.cells #[.int .i64 131, .int .i64 2, .int .i64 2] 25))
  have HL1 : Hid (w.heap.size ≤ w1.heap.size) := hB1.size
  obtain ⟨q1, q2⟩ := HSG.out _ HB1.out
  have hC2 := cut_any [49, 48, 48, 48, 48, 48, 49] _ q1 q2 (by decide)
  rw [cut_b] at hC2
  have HC2 := Lib.hid hC2
  clear HC1 hB1 hal1 q1 q2 hC2
  go_wp2_with fail
  generalize w1.alloc (.cells #[.int .i64 131, .int .i64 2, .int .i64 2] 25) = v1 at *
  refine HC2.out.mono ?_
  rintro e w2 ⟨rfl, hB2⟩
  have hal2 := below_alloc w2 (.cells #[.int .i64 132, .int .i64 1, .int .i64 1] 25)
  have hal3 := below_alloc (w2.alloc (.cells #[.int .i64 132, .int .i64 1, .int .i64 1] 25)) (.cells C 5)
  have HZ2 := Lib.hid (size_alloc w2 (.cells #[.int .i64 132, .int .i64 1, .int .i64 1] 25))
  have hx := hB2.trans (hal2.mono hB2.size)
  have hy := hx.trans (hal3.mono hx.size)
  have HV2 : Hid (Below v1.heap.size v1 ((w2.alloc (.cells #[.int .i64 132, .int .i64 1, .int .i64 1] 25)).alloc (.cells C 5))) := hy
  have HF2 : Hid (∀ W, Below (w2.heap.size + 1) (w2.alloc (.cells #[.int .i64 132, .int .i64 1, .int .i64 1] 25)) W → W.cell? ⟨w2.heap.size, 0, none⟩ = some (.int .i64 132) ∧ W.cell? ⟨w2.heap.size, 1, none⟩ = some (.int .i64 1) ∧ W.cell? ⟨w2.heap.size, 2, none⟩ = some (.int .i64 1)) := fun W hb => flt_box w2 _ _ _ hb
  have HL2 : Hid (v1.heap.size ≤ w2.heap.size) := hB2.size
  have HB2 := Lib.hid (HB1.out.trans (hy.mono HB1.out.size))
  obtain ⟨q1, q2⟩ := HSG.out _ HB2.out
  have hC3 := cut_any zs _ q1 q2 HNL.out
  rw [HNC.out] at hC3
  have HC3 := Lib.hid hC3
  have HA3 := Lib.hid hal3
  have hm := HM.out
  have hcv := HCV.out (w2.alloc (.cells #[.int .i64 132, .int .i64 1, .int .i64 1] 25))
  rw [HZ2.out] at hcv
  clear HC2 hB2 hal2 hal3 hx hy q1 q2 hC3
  go_wp2_with fail
  obtain ⟨v2, hv2⟩ : ∃ v2, v2 = (w2.alloc (.cells #[.int .i64 132, .int .i64 1, .int .i64 1] 25)).alloc (.cells C 5) := ⟨_, rfl⟩
  rw [← hv2] at HC3 HV2 HB2 ⊢
  have HV2F : Hid (Below (w2.heap.size + 1) (w2.alloc (.cells #[.int .i64 132, .int .i64 1, .int .i64 1] 25)) v2) := by
    unfold Hid
    have := HA3.out
    rw [← hv2, HZ2.out] at this
    exact this
  clear hv2 hm hcv HA3 HM HCV
  refine HC3.out.mono ?_
  rintro e w3 ⟨rfl, hB3⟩
  have hal4 := below_alloc w3 (.cells #[.int .i64 132, .int .i64 1, .int .i64 1] 25)
  have hx := hB3.trans (hal4.mono hB3.size)
  have HX3 := Lib.hid hx
  have HB3 := Lib.hid (HB2.out.trans (hx.mono HB2.out.size))
  have HF3 : Hid (∀ W, Below (w3.heap.size + 1) (w3.alloc (.cells #[.int .i64 132, .int .i64 1, .int .i64 1] 25)) W → W.cell? ⟨w3.heap.size, 0, none⟩ = some (.int .i64 132) ∧ W.cell? ⟨w3.heap.size, 1, none⟩ = some (.int .i64 1) ∧ W.cell? ⟨w3.heap.size, 2, none⟩ = some (.int .i64 1)) := fun W hb => flt_box w3 _ _ _ hb
  have HZ3 := Lib.hid (size_alloc w3 (.cells #[.int .i64 132, .int .i64 1, .int .i64 1] 25))
  have HL3 : Hid (v2.heap.size ≤ w3.heap.size) := hB3.size
  obtain ⟨q1, q2⟩ := HSG.out _ HB3.out
  have HAL := Lib.hid (alive_any _ q1 q2)
  clear HC3 hB3 hal4 hx q1 q2
  go_wp2_with fail
  generalize w3.alloc (.cells #[.int .i64 132, .int .i64 1, .int .i64 1] 25) = v3 at *
  refine HAL.out.mono ?_
  rintro e w4 ⟨rfl, hB4⟩
  have HB4 := Lib.hid (HB3.out.trans (hB4.mono HB3.out.size))
  have k2 : w2.heap.size + 1 ≤ v2.heap.size := by have := HV2F.out.size; rw [HZ2.out] at this; exact this
  have k3 : v1.heap.size ≤ v2.heap.size := HV2.out.size
  have k4 : v2.heap.size ≤ v3.heap.size := HX3.out.size
  have e1 := HZ1.out
  have e3 := HZ3.out
  obtain ⟨f0, f1, f2⟩ := HF1.out w4 ((HV2.out.mono (by omega)).trans ((HX3.out.mono (by omega)).trans (hB4.mono (by omega))))
  obtain ⟨g0, g1, g2⟩ := HF2.out w4 (HV2F.out.trans ((HX3.out.mono (by omega)).trans (hB4.mono (by omega))))
  obtain ⟨h0, h1, h2⟩ := HF3.out w4 (hB4.mono (by omega))
  clear HAL hB4 k2 k3 k4 e1 e3
  go_wp2_with fail
  go_ret
  exact ⟨rfl, HB4.out⟩
open Go.ChangeShapes Go.WideShapes Go.ChangeAt
open Go.ChangeMaps (open_string shut_string)
set_option maxHeartbeats 800000 in
set_option maxRecDepth 100000 in
theorem lifted (os : Os) (started : os.Started) (H : Type) (enc : TypeId × Value → H) :
    ReturnsInHanded {} Tryd.checked os 3 .any (fun w args => (Rows.wordNamesSpec.pre enc Tryd.prog Tryd.f3 Rows.wordNamesRow.domain false w args ∧ laidMetH Tryd.prog laidL w) ∧ sizedMet enc Tryd.prog Tryd.f3 (OpenSpec.ofChange Rows.wordNamesSpec) false w args)
      (Rows.wordNamesSpec.post enc Tryd.prog Tryd.f3 false true false false) := by
  refine returns_laid (C := Tryd.checked) (X := fun w _ => laidMetH Tryd.prog laidL w) (fun _ _ _ hh h => h.of_heap hh) own_knob started (by kernel_rfl) Tryd.func3
    (ChangeSpec.witness_shaped (enc := enc) (C := Tryd.checked) (os := os) (X := fun w _ => laidMetH Tryd.prog laidL w) false (World.laidAll Tryd.prog os laidL) #[] 8 (World.laidAll_os _ _ _)
      (laid_shaped os _) (by kernel_rfl) (by kernel_rfl) (by kernel_rfl) (laid_met os _)) ?_
  intro W base args ds gs before hval0 hW hL hsh
  obtain ⟨hl, hw0⟩ := sgn_of_laid hL
  have hW' := hW
  obtain ⟨p, q, hA0, hV, rfl, _, _⟩ := hW
  have hA : DataW.TrodAll enc Tryd.prog W 0 (fun _ => true) true Tryd.f3.params.toList args.toList ds p := hA0
  rw [Tryd.params3] at hA
  obtain ⟨hargs, rfl, rfl⟩ := trodAll_nil hA
  obtain rfl : args = #[] := by cases args; simp_all
  obtain ⟨rfl, rfl⟩ := trodVars_none hV
  clear hA0 hval0
  refine (walk W hl hw0).mono fun e W' ⟨he, hB⟩ => ?_
  subst he
  exact ⟨_, rfl, _, _, _, [], _, [], hW', trodAll_mk1 (shut_bool Tryd.underlying4 true), trodAll_mk0, rfl, hB.frame _, fun h => by cases h⟩

theorem proved : Rows.WordNamesSaid :=
  OpenClaim.holds_of_wide 3 Tryd.f3 rfl rfl rfl rfl rfl rfl rfl ⟨rfl, rfl, rfl, rfl, rfl⟩ rfl rfl rfl rfl rfl (by kernel_rfl) Tryd.func3 (by kernel_rfl)
    (of_decide_eq_true (by kernel_rfl)) (by unfold Func.isWrapper; first | (rw [if_pos (by decide +kernel)]; kernel_rfl) | (rw [if_neg (by decide +kernel)]; exact ⟨rfl, rfl⟩))
    (fun os started H enc _ => lifted os started H enc)
theorem card : Rows.WordNamesCardSaid :=
  Claim7.holds_tied_plain_at .later [] [.data] true (true, "0c4c65f6e5a9e42e8f069ce4ecee9168168e60ddb875715a0ab890b9b7a95d1e") false proved (fun _ h => by cases h) (by kernel_rfl) (fun _ h => by cases h) wordNames_row_tie rfl ⟨rfl, rfl⟩ (by kernel_rfl) rfl
    (fun f fn hf hfn => by
      obtain rfl : f = 3 := Option.some.inj ((show Tryd.prog.funcNamed "lariat/lariatlaw13.WordNames" = some 3 by kernel_rfl).symm.trans hf) |>.symm
      obtain rfl : fn = Tryd.f3 := (Option.some.inj (Tryd.func3.symm.trans hfn)).symm
      exact ⟨by kernel_rfl, fun j t ht => by
        rw [Tryd.params3] at ht
        simp at ht⟩)
    (by kernel_rfl)
end Go.Proofs.YtgbnhmnkdfiiiaaDoor.WNames
namespace Go.Proofs.YtgbnhmnkdfiiiaaDoor
theorem wordNames_holds : Rows.WordNamesCardSaid := WNames.card
#print axioms wordNames_holds
end Go.Proofs.YtgbnhmnkdfiiiaaDoor
