/- LearnNames is true: the statement Rows.LearnNamesSaid, without a condition. -/
import Derived.Test.YtaalaekiblifpaaLrnN
import Derived.Test.YtaalaekiblifpaaRows
import Derived.ProofKit
import Derived.OpenShut
import Derived.SizedLaws
import Derived.Deep.DeepCutAuto
import Derived.Deep.Slices
import Derived.Deep.Fields
import Derived.ChangeSame
namespace Go.Proofs.Ytaalaekiblifpaa.LNames
open Go.ChangeShapes Go.WideShapes Go.ChangeAt Go.RowKit LitM TrailM EngM

theorem own_knob : ownKnob Try.prog.godebug = none := by kernel_rfl
theorem learn_no {B b : Nat} {w0 w : World} {S : Eng} (h : Solo B w0 w b S) (hD : DecI S) (hL : S.L = []) (id : Int) : Calls Try.prog 29 #[.pointer (some ⟨b, 0, none⟩), .int .i64 id] w fun e w' => e = .returned (.tuple #[.slice none 0 0, .int .i64 0, .int .i64 61]) ∧ Solo B w0 w' b S := by
  obtain ⟨q, hE, hI, r⟩ := _root_.id h
  exact (learn_any hE hI hD id).mono fun e w' ⟨hB, hl⟩ => by
    rcases hl with ⟨_, he⟩ | ⟨hc, _⟩
    · exact ⟨he, h.below hB⟩
    · exact absurd hc (cnf_none hL id)
set_option maxHeartbeats 3200000 in
set_option maxRecDepth 100000 in
theorem walk (w : World) : Calls Try.prog 5 #[] w fun e w' => e = .returned (.bool true) ∧ Below w.heap.size w w' := by
  have c1 : IsClean [1, 2] [1, 2] := ⟨by decide, fun x => Iff.rfl⟩
  have c2 : IsClean [] [] := ⟨by decide, fun x => Iff.rfl⟩
  go_enter Try.func5, Try.ntmps5
  go_wp2_with fail
  refine (enew_any 2 w (by omega)).mono ?_
  intro e w1 hm
  obtain ⟨b, rfl, h1⟩ := Solo.make hm (by decide) (Below.refl w.heap.size w) (Nat.le_refl _)
  rw [show (2 : Int).toNat = 2 from rfl] at h1
  clear hm
  have h1a := h1.below ((Below.refl _ _).alloc (Nat.le_refl _) (.cells #[.int .i32 1, .int .i32 2] 43))
  have HA := Lib.hid (h1a.addYes (by decide) (some ⟨w1.heap.size, 0, none⟩) 2 2 [1, 2] [1, 2] (rd_made w1 [1, 2]) (In32.of (by simp)) (by omega) (by decide) c1)
  rw [show ((newE 2).cs.length : Int) = 0 from rfl, show bothB [1, 2] = false from by decide] at HA
  clear h1 h1a
  go_wp2_with fail
  refine HA.out.mono ?_
  rintro e w2 ⟨rfl, h2⟩
  have HD : Hid (DecI (addF (newE 2) [1, 2] false)) := deci_add (deci_new 2) _ _
  have HL : Hid ((addF (newE 2) [1, 2] false).L = []) := rfl
  have HCS : Hid ((addF (newE 2) [1, 2] false).cs.length ≤ 20000) := Lib.hid (by decide)
  have HFN : Hid (fitsB (addF (newE 2) [1, 2] false).n [] = true) := Lib.hid (by decide)
  generalize addF (newE 2) [1, 2] false = F at *
  have HL0 := Lib.hid (learn_no h2 HD.out HL.out 0)
  clear h2 HA
  go_wp2_with fail
  refine HL0.out.mono ?_
  rintro e w3 ⟨rfl, h3⟩
  have HL1 := Lib.hid (learn_no h3 HD.out HL.out 1)
  clear h3 HL0
  go_wp2_with fail
  refine HL1.out.mono ?_
  rintro e w4 ⟨rfl, h4⟩
  have HB := Lib.hid (h4.addYes HCS.out none 0 0 [] [] Rd.nil (In32.of (by simp)) (by omega) HFN.out c2)
  clear h4 HL1
  go_wp2_with fail
  refine HB.out.mono ?_
  rintro e w5 ⟨rfl, h5⟩
  have HL2 := Lib.hid (learn_no h5 (deci_add HD.out _ _) HL.out 1)
  clear h5 HB
  go_wp2_with fail
  refine HL2.out.mono ?_
  rintro e w6 ⟨rfl, h6⟩
  have H6 := Lib.hid h6
  clear h6 HL2
  go_wp2_with fail
  refine (lalive_any w6).mono ?_
  rintro e w7 ⟨rfl, hB7⟩
  have HO := Lib.hid (H6.out.below hB7).out
  clear hB7
  go_wp2_with fail
  go_ret
  exact ⟨rfl, HO.out⟩

set_option maxHeartbeats 800000 in
set_option maxRecDepth 100000 in
theorem lifted (os : Os) (started : os.Started) (H : Type) (enc : TypeId × Value → H) :
    ReturnsInHanded {} Try.checked os 5 .any (Rows.learnNamesSpec.pre6 enc Try.prog Try.f5 Rows.learnNamesRow.domain false) (Rows.learnNamesSpec.post enc Try.prog Try.f5 false true false false) := by
  refine returnsInHanded_of_change (C := Try.checked) own_knob started (by kernel_rfl) Try.func5
    (ChangeSpec.witness6 (enc := enc) (C := Try.checked) false ⟨#[], #[], []⟩ 8 (by kernel_rfl) (by kernel_rfl) (by kernel_rfl) (by kernel_rfl)) ?_
  intro W base args ds gs before hval0 hW _ _
  have hW' := hW
  obtain ⟨p, q, hA0, hV, rfl, _, _⟩ := hW
  have hA : DataW.TrodAll enc Try.prog W 0 (fun _ => true) true Try.f5.params.toList args.toList ds p := hA0
  rw [Try.params5] at hA
  obtain ⟨hargs, rfl, rfl⟩ := trodAll_nil hA
  obtain rfl : args = #[] := by cases args; simp_all
  obtain ⟨rfl, rfl⟩ := trodVars_none hV
  clear hA0 hval0
  refine (walk W).mono fun e W' ⟨he, hB⟩ => ?_
  subst he
  exact ⟨_, rfl, _, _, _, [], _, [], hW', trodAll_mk1 (shut_bool Try.underlying4 true), trodAll_mk0, rfl, hB.frame _, fun h => by cases h⟩

theorem proved : Rows.LearnNamesSaid :=
  OpenClaim.holds_of_wide 5 Try.f5 rfl rfl rfl rfl rfl rfl rfl ⟨rfl, rfl, rfl, rfl, rfl⟩ rfl rfl rfl rfl rfl (by kernel_rfl) Try.func5 (by kernel_rfl)
    (of_decide_eq_true (by kernel_rfl)) (by unfold Func.isWrapper; first | (rw [if_pos (by decide +kernel)]; kernel_rfl) | (rw [if_neg (by decide +kernel)]; exact ⟨rfl, rfl⟩))
    (fun os started H enc _ => lifted os started H enc)
end Go.Proofs.Ytaalaekiblifpaa.LNames
namespace Go.Proofs.Ytaalaekiblifpaa
theorem learnNames_holds : Rows.LearnNamesSaid := LNames.proved
#print axioms learnNames_holds
end Go.Proofs.Ytaalaekiblifpaa
