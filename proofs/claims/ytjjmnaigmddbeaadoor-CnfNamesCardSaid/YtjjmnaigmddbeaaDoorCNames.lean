/- CnfNames is true: the statement Rows.CnfNamesCardSaid, without a condition. -/
import Derived.Test.YtjjmnaigmddbeaaDoorCard
import Derived.Test.YtjjmnaigmddbeaaDoorWriteN
namespace Go.Proofs.YtjjmnaigmddbeaaDoor.CNames
open Go.ChangeShapes Go.WideShapes Go.ChangeAt Go.RowKit LitM Words CnfP

set_option maxHeartbeats 6400000 in
set_option maxRecDepth 100000 in
theorem walk (w : World) (hl : LibAt w) (hw : 8 ≤ w.heap.size) : Calls Tryd.prog 3 #[] w fun e w' => e = .returned (.bool true) ∧ Below w.heap.size w w' := by
  have HLA : Hid (∀ W, Below w.heap.size w W → LibAt W) := fun W hb => hl.below hb hw
  have HH := Lib.hid (holdsF_any 1 none 0 0 [] none 0 0 [] w RdF.nil (Ok32.of fun c hc => by simp at hc) (by omega) (by omega) (by omega) RdB.nil (by omega))
  rw [show falseE 1 [] [] = 21 from by decide] at HH
  clear hl
  go_enter Tryd.func3, Tryd.ntmps3
  go_wp2_with fail
  refine HH.out.mono ?_
  rintro e w1 ⟨rfl, hB1⟩
  have HB1 := Lib.hid hB1
  have HW := Lib.hid (write_no (-1) none 0 0 [] w1 RdF.nil (Ok32.of fun c hc => by simp at hc) (by omega) (by omega) (by omega) (by decide))
  clear HH hB1
  go_wp2_with fail
  refine HW.out.mono ?_
  rintro e w2 ⟨rfl, hB2⟩
  have HB2 := Lib.hid (HB1.out.trans (hB2.mono HB1.out.size))
  clear HW hB2
  have HR := Lib.hid (read_any [] w2 (HLA.out _ HB2.out) (by have := HB2.out.size; omega) (by decide))
  go_wp2_with fail
  refine HR.out.mono ?_
  rintro e w3 ⟨hB3, (⟨v, cs, A, n, c, hf, rfl, hR⟩ | ⟨hf, rfl⟩)⟩
  case inl => rw [show formulaOf (wordsL []) = none from by decide] at hf; cases hf
  have HB3 := Lib.hid (HB2.out.trans (hB3.mono HB2.out.size))
  clear HR hB3
  have hal := below_alloc w3 (.cells #[.int .i64 0, .slice none 0 0] 27)
  have HB4 := Lib.hid (HB3.out.trans (hal.mono HB3.out.size))
  have HA := Lib.hid (alive_any (w3.alloc (.cells #[.int .i64 0, .slice none 0 0] 27)) (HLA.out _ HB4.out) (by have := HB4.out.size; omega))
  clear hal
  go_wp2_with fail
  refine HA.out.mono ?_
  rintro e w4 ⟨rfl, hB4⟩
  have HB5 := Lib.hid (HB4.out.trans (hB4.mono HB4.out.size))
  clear hB4
  go_wp2_with fail
  go_ret
  exact ⟨rfl, HB5.out⟩

set_option maxHeartbeats 800000 in
set_option maxRecDepth 100000 in
theorem lifted (os : Os) (started : os.Started) (H : Type) (enc : TypeId × Value → H) :
    ReturnsInHanded {} Tryd.checked os 3 .any (fun w args => (Rows.cnfNamesSpec.pre enc Tryd.prog Tryd.f3 Rows.cnfNamesRow.domain false w args ∧ laidMetH Tryd.prog laidL w) ∧ sizedMet enc Tryd.prog Tryd.f3 (OpenSpec.ofChange Rows.cnfNamesSpec) false w args)
      (Rows.cnfNamesSpec.post enc Tryd.prog Tryd.f3 false true false false) := by
  refine returns_laid (C := Tryd.checked) (X := fun w _ => laidMetH Tryd.prog laidL w) (fun _ _ _ hh h => h.of_heap hh) own_knob started (by kernel_rfl) Tryd.func3
    (ChangeSpec.witness_shaped (enc := enc) (C := Tryd.checked) (os := os) (X := fun w _ => laidMetH Tryd.prog laidL w) false (World.laidAll Tryd.prog os laidL) #[] 8 (World.laidAll_os _ _ _)
      (laid_shaped os _) (by kernel_rfl) (by kernel_rfl) (by kernel_rfl) (laid_met os _)) ?_
  intro W base args ds gs before hval0 hW hL hsh
  obtain ⟨hl, hw8⟩ := lib_of_laid hL hsh
  have hW' := hW
  obtain ⟨p, q, hA0, hV, rfl, _, _⟩ := hW
  have hA : DataW.TrodAll enc Tryd.prog W 0 (fun _ => true) true Tryd.f3.params.toList args.toList ds p := hA0
  rw [Tryd.params3] at hA
  obtain ⟨hargs, rfl, rfl⟩ := trodAll_nil hA
  obtain rfl : args = #[] := by cases args; simp_all
  obtain ⟨rfl, rfl⟩ := trodVars_none hV
  clear hA0 hval0
  refine (walk W hl hw8).mono fun e W' ⟨he, hB⟩ => ?_
  subst he
  exact ⟨_, rfl, _, _, _, [], _, [], hW', trodAll_mk1 (shut_bool Tryd.underlying4 true), trodAll_mk0, rfl, hB.frame _, fun h => by cases h⟩

theorem proved : Rows.CnfNamesSaid :=
  OpenClaim.holds_of_wide 3 Tryd.f3 rfl rfl rfl rfl rfl rfl rfl ⟨rfl, rfl, rfl, rfl, rfl⟩ rfl rfl rfl rfl rfl (by kernel_rfl) Tryd.func3 (by kernel_rfl)
    (of_decide_eq_true (by kernel_rfl)) (by unfold Func.isWrapper; first | (rw [if_pos (by decide +kernel)]; kernel_rfl) | (rw [if_neg (by decide +kernel)]; exact ⟨rfl, rfl⟩))
    (fun os started H enc _ => lifted os started H enc)
theorem card : Rows.CnfNamesCardSaid :=
  Claim7.holds_tied_plain_at .later [] [.data, .data, .data, .data, .sentinel, .sentinel, .pinned] true (true, "c9257edc46eb894c56e1d11969e57e524d13a8a921779d8e4cd7eb90b9739f40") true proved (fun _ h => by cases h) (by kernel_rfl) (fun _ h => by cases h) cnfNames_row_tie rfl ⟨rfl, rfl⟩ (by kernel_rfl) rfl
    (fun f fn hf hfn => by
      obtain rfl : f = 3 := Option.some.inj ((show Tryd.prog.funcNamed "lariat/lariatlaw02.CnfNames" = some 3 by kernel_rfl).symm.trans hf) |>.symm
      obtain rfl : fn = Tryd.f3 := (Option.some.inj (Tryd.func3.symm.trans hfn)).symm
      exact ⟨by kernel_rfl, fun j t ht => by
        rw [Tryd.params3] at ht
        simp at ht⟩)
    (by kernel_rfl)
end Go.Proofs.YtjjmnaigmddbeaaDoor.CNames
namespace Go.Proofs.YtjjmnaigmddbeaaDoor
theorem cnfNames_holds : Rows.CnfNamesCardSaid := CNames.card
#print axioms cnfNames_holds
end Go.Proofs.YtjjmnaigmddbeaaDoor
