/- WordCuts is true of any text: the statement Rows.WordCutsCardSaid, without a condition. -/
import Derived.Test.YtgbnhmnkdfiiiaaDoorWrdV
import Derived.Test.YtgbnhmnkdfiiiaaDoorWrdR
import Derived.Test.YtgbnhmnkdfiiiaaDoorWrdL
import Derived.IntWalk
import Derived.Deep.QuietTactic
import Derived.BigQuiet
namespace Go.Proofs.YtgbnhmnkdfiiiaaDoor.WCuts
open Go.RowKit WrdM

theorem same_nil (w : World) : Calls Tryd.prog 11 #[.slice none 0 0, .slice none 0 0] w fun e w' => e = .returned (.bool true) ∧ Below w.heap.size w w' := by
  go_enter Tryd.func11, Tryd.ntmps11
  go_wp2_with fail
  go_loopw [5, 13] (fun _ i wr => i = .int .i64 0 ∧ wr = w) (fun _ _ _ => 0)
  case atStart => exact ⟨rfl, rfl⟩
  case round =>
    obtain ⟨rfl, rfl⟩ := hrel
    go_wp2_with fail
    go_ret
    exact ⟨rfl, Below.refl _ _⟩
set_option maxHeartbeats 1600000 in
set_option maxRecDepth 100000 in
theorem same_any {ga gb c d n : Nat} {ts : List WrdM.Tok} (w : World) (ha : RdT w ga ts) (hb : RdT w gb ts) (hn : n = ts.length) (_hc : n ≤ c) (_hd : n ≤ d) (_h4 : n ≤ 4001) (_hc2 : c ≤ 9223372036854775807) (_hd2 : d ≤ 9223372036854775807) :
    Calls Tryd.prog 11 #[.slice (some ⟨ga, 0, none⟩) n c, .slice (some ⟨gb, 0, none⟩) n d] w fun e w' => e = .returned (.bool true) ∧ Below w.heap.size w w' := by
  have H0 : Hid (RdT w ga ts ∧ RdT w gb ts ∧ Below w.heap.size w w) := ⟨ha, hb, Below.refl _ _⟩
  have HN := Lib.hid hn
  clear ha hb hn
  go_enter Tryd.func11, Tryd.ntmps11
  go_wp2_with fail
  go_loopw [5, 13] (fun _ i wr => ∃ k : Nat, k ≤ n ∧ i = .int .i64 k ∧ Hid (RdT wr ga ts ∧ RdT wr gb ts ∧ Below w.heap.size w wr)) (fun _ i _ => n - (intOf i).toNat)
  case atStart => exact ⟨0, Nat.zero_le _, rfl, H0⟩
  case round =>
    obtain ⟨k, hk, rfl, HR⟩ := hrel
    clear H0
    by_cases hlt : k < n
    · have v1 : decide ((k : Int) < (n : Int)) = true := decide_eq_true (by omega)
      have v2 : decide (k < n) = true := decide_eq_true hlt
      obtain ⟨⟨xk, xt, xn, xl, xc⟩, hx⟩ : ∃ x, ts[k]? = some x := ⟨ts[k]'(by rw [← HN.out]; exact hlt), List.getElem?_eq_getElem _⟩
      obtain ⟨a0, a1, a2, a3, a4⟩ := HR.out.1.2 k _ hx
      obtain ⟨b0, b1, b2, b3, b4⟩ := HR.out.2.1.2 k _ hx
      dsimp only at a0 a1 a2 a3 a4 b0 b1 b2 b3 b4
      generalize (⟨xt.toArray⟩ : ByteArray) = xb at *
      clear hx
      go_wp2_with fail
      go_quiet (fail)
      go_wp2_with fail
      go_roundw
      case rel => exact ⟨k + 1, by omega, by go_num, HR.out.1.drewN nq, HR.out.2.1.drewN nq, below_drewN HR.out.2.2 nq⟩
      case measure => simp [intOf]; omega
    · have v1 : decide ((k : Int) < (n : Int)) = false := decide_eq_false (by omega)
      have v2 : decide (k < n) = false := decide_eq_false hlt
      go_wp2_with fail
      go_ret
      exact ⟨rfl, HR.out.2.2⟩

set_option maxHeartbeats 3200000 in
set_option maxRecDepth 100000 in
theorem walk (s : List UInt8) (w : World) (h : SgnAt w) (hw : 0 < w.heap.size) (hs : s.length ≤ 9223372036854775807) :
    Calls Tryd.prog 4 #[.string ⟨s.toArray⟩] w fun e w' => e = .returned (.bool true) ∧ Below w.heap.size w w' := by
  have HAL := Lib.hid (alive_any w h hw)
  have HSG : Hid (∀ W, Below w.heap.size w W → SgnAt W ∧ 0 < W.heap.size) := fun W hb => ⟨h.below hb hw, Nat.lt_of_lt_of_le hw hb.size⟩
  obtain ⟨sb, hsb⟩ : ∃ sb : ByteArray, sb = ⟨s.toArray⟩ := ⟨_, rfl⟩
  have hn : sb.size = s.length := by rw [hsb, size_mk]
  have HSB := Lib.hid hsb
  rw [← hsb]
  clear hsb h
  by_cases hbig : 4000 < s.length
  · have t1 : decide ((4000 : Int) < (s.length : Int)) = true := decide_eq_true (by omega)
    have t2 : decide (4000 < s.length) = true := decide_eq_true hbig
    go_enter Tryd.func4, Tryd.ntmps4
    go_wp2_with fail
    refine HAL.out.mono ?_
    rintro e w1 ⟨rfl, hB1⟩
    have HB1 := Lib.hid hB1
    clear hB1
    go_wp2_with fail
    go_ret
    exact ⟨rfl, HB1.out⟩
  have t1 : decide ((4000 : Int) < (s.length : Int)) = false := decide_eq_false (by omega)
  have t2 : decide (4000 < s.length) = false := decide_eq_false hbig
  have hle : s.length ≤ 4000 := by omega
  go_enter Tryd.func4, Tryd.ntmps4
  go_wp2_with fail
  refine HAL.out.mono ?_
  rintro e w1 ⟨rfl, hB1⟩
  have HB1 := Lib.hid hB1
  obtain ⟨q1, q2⟩ := HSG.out _ hB1
  have HC := Lib.hid (cut_any s w1 q1 q2 hs)
  have HPC := Lib.hid (fun W => pcut_any s W hle)
  rw [← HSB.out] at HC HPC
  clear HAL hB1 q1 q2 hbig
  cases ho : cutL s with
  | bad er Le Ce =>
    rw [ho] at HC HPC
    clear ho
    go_wp2_with fail
    refine HC.out.mono ?_
    rintro e w2 ⟨rfl, hB2⟩
    have hal := below_alloc w2 (.cells #[.int .i64 er, .int .i64 Le, .int .i64 Ce] 25)
    have hx := hB2.trans (hal.mono hB2.size)
    have HB2 := Lib.hid (HB1.out.trans (hx.mono HB1.out.size))
    have HF2 : Hid (∀ W, Below (w2.heap.size + 1) (w2.alloc (.cells #[.int .i64 er, .int .i64 Le, .int .i64 Ce] 25)) W → W.cell? ⟨w2.heap.size, 0, none⟩ = some (.int .i64 er) ∧ W.cell? ⟨w2.heap.size, 1, none⟩ = some (.int .i64 Le) ∧ W.cell? ⟨w2.heap.size, 2, none⟩ = some (.int .i64 Ce)) := fun W hb => flt_box w2 _ _ _ hb
    have HZ2 := Lib.hid (size_alloc w2 (.cells #[.int .i64 er, .int .i64 Le, .int .i64 Ce] 25))
    clear HC hB2 hal hx
    go_wp2_with fail
    generalize w2.alloc (.cells #[.int .i64 er, .int .i64 Le, .int .i64 Ce] 25) = v2 at *
    refine (HPC.out _).mono ?_
    rintro e w3 ⟨rfl, hB3⟩
    have hal := below_alloc w3 (.cells #[.int .i64 er, .int .i64 Le, .int .i64 Ce] 25)
    have hx := hB3.trans (hal.mono hB3.size)
    have HX3 := Lib.hid hx
    have HB3 := Lib.hid (HB2.out.trans (hx.mono HB2.out.size))
    have HF3 : Hid (∀ W, Below (w3.heap.size + 1) (w3.alloc (.cells #[.int .i64 er, .int .i64 Le, .int .i64 Ce] 25)) W → W.cell? ⟨w3.heap.size, 0, none⟩ = some (.int .i64 er) ∧ W.cell? ⟨w3.heap.size, 1, none⟩ = some (.int .i64 Le) ∧ W.cell? ⟨w3.heap.size, 2, none⟩ = some (.int .i64 Ce)) := fun W hb => flt_box w3 _ _ _ hb
    have HZ3 := Lib.hid (size_alloc w3 (.cells #[.int .i64 er, .int .i64 Le, .int .i64 Ce] 25))
    have HSM := Lib.hid (same_nil (w3.alloc (.cells #[.int .i64 er, .int .i64 Le, .int .i64 Ce] 25)))
    clear hB3 hal hx
    go_wp2_with fail
    generalize w3.alloc (.cells #[.int .i64 er, .int .i64 Le, .int .i64 Ce] 25) = v3 at *
    refine HSM.out.mono ?_
    rintro e w4 ⟨rfl, hB4⟩
    have HB4 := Lib.hid (HB3.out.trans (hB4.mono HB3.out.size))
    have e2 := HZ2.out
    have e3 := HZ3.out
    have e4 := HX3.out.size
    obtain ⟨f0, f1, f2⟩ := HF2.out w4 ((HX3.out.mono (by omega)).trans (hB4.mono (by omega)))
    obtain ⟨g0, g1, g2⟩ := HF3.out w4 (hB4.mono (by omega))
    clear HSM hB4 e2 e3 e4
    go_wp2_with fail
    go_ret
    exact ⟨rfl, HB4.out⟩
  | ok ts =>
    obtain ⟨_, k2, k3, _⟩ := cut_again s ts hle ho
    rw [ho] at HC HPC
    clear ho
    go_wp2_with fail
    refine HC.out.mono ?_
    rintro e w2 ⟨A, c, rfl, hS, hN, hB2⟩
    obtain ⟨ga, rfl, hR, hc1, hc2⟩ := rdT_of hS k3
    have hal := below_alloc w2 (.cells #[.int .i64 0, .int .i64 0, .int .i64 0] 25)
    have hx := hB2.trans (hal.mono hB2.size)
    have HB2 := Lib.hid (HB1.out.trans (hx.mono HB1.out.size))
    have HRA := Lib.hid (hR.below hal hR.1)
    have HF2 : Hid (∀ W, Below (w2.heap.size + 1) (w2.alloc (.cells #[.int .i64 0, .int .i64 0, .int .i64 0] 25)) W → W.cell? ⟨w2.heap.size, 0, none⟩ = some (.int .i64 0) ∧ W.cell? ⟨w2.heap.size, 1, none⟩ = some (.int .i64 0) ∧ W.cell? ⟨w2.heap.size, 2, none⟩ = some (.int .i64 0)) := fun W hb => flt_box w2 _ _ _ hb
    have HZ2 := Lib.hid (size_alloc w2 (.cells #[.int .i64 0, .int .i64 0, .int .i64 0] 25))
    clear HC hB2 hal hx hR hS hN
    obtain ⟨n, hnl⟩ : ∃ n, n = ts.length := ⟨_, rfl⟩
    have HNL := Lib.hid hnl
    rw [← hnl] at hc1 k2 k3 ⊢
    clear hnl
    go_wp2_with fail
    generalize w2.alloc (.cells #[.int .i64 0, .int .i64 0, .int .i64 0] 25) = v2 at *
    refine (HPC.out _).mono ?_
    rintro e w3 ⟨B, d, rfl, hS, hN, hB3⟩
    obtain ⟨gb, rfl, hR, hd1, hd2⟩ := rdT_of hS (by rw [← HNL.out]; exact k3)
    have hal := below_alloc w3 (.cells #[.int .i64 0, .int .i64 0, .int .i64 0] 25)
    have hx := hB3.trans (hal.mono hB3.size)
    have HX3 := Lib.hid hx
    have HB3 := Lib.hid (HB2.out.trans (hx.mono HB2.out.size))
    have hRB := hR.below hal hR.1
    have hRA3 := HRA.out.below hx HRA.out.1
    have HF3 : Hid (∀ W, Below (w3.heap.size + 1) (w3.alloc (.cells #[.int .i64 0, .int .i64 0, .int .i64 0] 25)) W → W.cell? ⟨w3.heap.size, 0, none⟩ = some (.int .i64 0) ∧ W.cell? ⟨w3.heap.size, 1, none⟩ = some (.int .i64 0) ∧ W.cell? ⟨w3.heap.size, 2, none⟩ = some (.int .i64 0)) := fun W hb => flt_box w3 _ _ _ hb
    have HZ3 := Lib.hid (size_alloc w3 (.cells #[.int .i64 0, .int .i64 0, .int .i64 0] 25))
    rw [← HNL.out] at hd1 ⊢
    have HSM := Lib.hid (same_any _ hRA3 hRB HNL.out hc1 hd1 k2 hc2 hd2)
    clear hB3 hal hx hR hS hN hRB hRA3 HRA
    go_wp2_with fail
    generalize w3.alloc (.cells #[.int .i64 0, .int .i64 0, .int .i64 0] 25) = v3 at *
    refine HSM.out.mono ?_
    rintro e w4 ⟨rfl, hB4⟩
    have HB4 := Lib.hid (HB3.out.trans (hB4.mono HB3.out.size))
    have e2 := HZ2.out
    have e3 := HZ3.out
    have e4 := HX3.out.size
    obtain ⟨f0, f1, f2⟩ := HF2.out w4 ((HX3.out.mono (by omega)).trans (hB4.mono (by omega)))
    obtain ⟨g0, g1, g2⟩ := HF3.out w4 (hB4.mono (by omega))
    clear HSM hB4 e2 e3 e4
    go_wp2_with fail
    go_ret
    exact ⟨rfl, HB4.out⟩
open Go.ChangeShapes Go.WideShapes Go.ChangeAt
open Go.ChangeMaps (open_string shut_string)
set_option maxHeartbeats 800000 in
set_option maxRecDepth 100000 in
theorem lifted (os : Os) (started : os.Started) (H : Type) (enc : TypeId × Value → H) :
    ReturnsInHanded {} Tryd.checked os 4 .any (fun w args => (Rows.wordCutsSpec.pre enc Tryd.prog Tryd.f4 Rows.wordCutsRow.domain false w args ∧ laidMetH Tryd.prog laidL w) ∧ sizedMet enc Tryd.prog Tryd.f4 (OpenSpec.ofChange Rows.wordCutsSpec) false w args)
      (Rows.wordCutsSpec.post enc Tryd.prog Tryd.f4 false true false false) := by
  refine returns_laid (C := Tryd.checked) (X := fun w _ => laidMetH Tryd.prog laidL w) (fun _ _ _ hh h => h.of_heap hh) own_knob started (by kernel_rfl) Tryd.func4
    (ChangeSpec.witness_shaped (enc := enc) (C := Tryd.checked) (os := os) (X := fun w _ => laidMetH Tryd.prog laidL w) false (World.laidAll Tryd.prog os laidL) #[.string ⟨#[]⟩] 8 (World.laidAll_os _ _ _)
      (laid_shaped os _) (by kernel_rfl) (by kernel_rfl) (by kernel_rfl) (laid_met os _)) ?_
  intro W base args ds gs before hval0 hW hL hsh
  obtain ⟨hl, hw0⟩ := sgn_of_laid hL
  have hval : ∀ (j : Nat) t v, Tryd.f4.params[j]? = some t → args[j]? = some v → Value.okWide Tryd.prog W .any base t v := hval0
  have hW' := hW
  obtain ⟨p, q, hA0, hV, rfl, _, _⟩ := hW
  have hA : DataW.TrodAll enc Tryd.prog W 0 (fun _ => true) true Tryd.f4.params.toList args.toList ds p := hA0
  rw [Tryd.params4] at hA hval
  obtain ⟨v0, d0, rfl, rfl, h0⟩ := trodAll_one hA
  obtain ⟨rfl, rfl⟩ := trodVars_none hV
  obtain ⟨s0, rfl, rfl, rfl, hs0⟩ := open_string Tryd.underlying9 (hval 0 9 v0 rfl rfl) h0
  clear hA0 hval0
  simp only [List.append_nil] at hW'
  have hwalk := walk s0.data.toList W hl hw0 (by rw [← Lib.size_eq]; unfold maxLen at hs0; omega)
  rw [show (⟨s0.data.toList.toArray⟩ : ByteArray) = s0 from by cases s0; simp] at hwalk
  refine hwalk.mono fun e W' ⟨he, hB⟩ => ?_
  subst he
  exact ⟨_, rfl, _, _, _, [], [], [], hW', trodAll_mk1 (shut_bool Tryd.underlying4 true), trodAll_mk1 (shut_string Tryd.underlying9 hs0), rfl, hB.frame _, fun h => by cases h⟩

theorem proved : Rows.WordCutsSaid :=
  OpenClaim.holds_of_wide 4 Tryd.f4 rfl rfl rfl rfl rfl rfl rfl ⟨rfl, rfl, rfl, rfl, rfl⟩ rfl rfl rfl rfl rfl (by kernel_rfl) Tryd.func4 (by kernel_rfl)
    (of_decide_eq_true (by kernel_rfl)) (by unfold Func.isWrapper; first | (rw [if_pos (by decide +kernel)]; kernel_rfl) | (rw [if_neg (by decide +kernel)]; exact ⟨rfl, rfl⟩))
    (fun os started H enc _ => lifted os started H enc)
theorem card : Rows.WordCutsCardSaid :=
  Claim7.holds_tied_plain_at .later [] [.data] true (true, "0c4c65f6e5a9e42e8f069ce4ecee9168168e60ddb875715a0ab890b9b7a95d1e") false proved (fun _ h => by cases h) (by kernel_rfl) (fun _ h => by cases h) wordCuts_row_tie rfl ⟨rfl, rfl⟩ (by kernel_rfl) rfl
    (fun f fn hf hfn => by
      obtain rfl : f = 4 := Option.some.inj ((show Tryd.prog.funcNamed "lariat/lariatlaw13.WordCuts" = some 4 by kernel_rfl).symm.trans hf) |>.symm
      obtain rfl : fn = Tryd.f4 := (Option.some.inj (Tryd.func4.symm.trans hfn)).symm
      exact ⟨by kernel_rfl, fun j t ht => by
        rw [Tryd.params4] at ht
        have hm : t ∈ [9] := by simpa using Array.mem_of_getElem? ht
        have hall : ([9].all fun u => !Tryd.prog.wantsStandIn u) = true := by kernel_rfl
        exact (show Tryd.prog.wantsStandIn t = false by simpa using List.all_eq_true.1 hall t hm)⟩)
    (by kernel_rfl)
end Go.Proofs.YtgbnhmnkdfiiiaaDoor.WCuts
namespace Go.Proofs.YtgbnhmnkdfiiiaaDoor
theorem wordCuts_holds : Rows.WordCutsCardSaid := WCuts.card
#print axioms wordCuts_holds
end Go.Proofs.YtgbnhmnkdfiiiaaDoor
