/- TrailNames is true: the statement Rows.TrailNamesSaid, without a condition. -/
import Derived.Test.YtbllamlaabmbaaaTLaw
namespace Go.Proofs.Ytbllamlaabmbaaa.TNames
open Go.ChangeShapes Go.WideShapes Go.ChangeAt Go.RowKit LitM TrailM

set_option maxHeartbeats 3200000 in
set_option maxRecDepth 100000 in
theorem walk (w : World) : Calls Try.prog 3 #[] w fun e w' => e = .returned (.bool true) ∧ Below w.heap.size w w' := by
  go_enter Try.func3, Try.ntmps3
  go_wp2_with fail
  refine (tnew_any 1 w (by omega)).mono ?_
  intro e w1 hm
  obtain ⟨b, rfl, h1⟩ := LiveT.make hm (Below.refl w.heap.size w) (Nat.le_refl _)
  rw [show (1 : Int).toNat = 1 from rfl] at h1
  clear hm
  have H1 := Lib.hid (h1.set (by omega) 2 0 (by omega) (by omega))
  rw [show errZ 1 [] 2 = 41 from by decide, show setL 1 0 [] 2 0 = [] from by unfold setL; rw [if_neg (by decide)]] at H1
  clear h1
  go_wp2_with fail
  refine H1.out.mono ?_
  rintro e w2 ⟨rfl, h2⟩
  have H2 := Lib.hid (h2.set (by omega) (-1) 0 (by omega) (by omega))
  rw [show errZ 1 [] (-1) = 0 from by decide, show setL 1 0 [] (-1) 0 = [⟨-1, 0, 0⟩] from by unfold setL; rw [if_pos (by decide)]; rfl] at H2
  clear h2 H1
  go_wp2_with fail
  refine H2.out.mono ?_
  rintro e w3 ⟨rfl, h3⟩
  have H3 := Lib.hid (h3.decide (by omega) 1 (by omega) (by omega))
  rw [show errZ 1 [⟨-1, 0, 0⟩] 1 = 42 from by decide, show decL 1 0 [⟨-1, 0, 0⟩] 1 = [⟨-1, 0, 0⟩] from by unfold decL; rw [if_neg (by decide)], show decD 1 0 [⟨-1, 0, 0⟩] 1 = 0 from by unfold decD; rw [if_neg (by decide)]] at H3
  clear h3 H2
  go_wp2_with fail
  refine H3.out.mono ?_
  rintro e w4 ⟨rfl, h4⟩
  have H4 := Lib.hid (h4.back (by omega) 1)
  clear h4 H3
  go_wp2_with fail
  refine H4.out.mono ?_
  rintro e w5 ⟨A, m, c, rfl, _, _, _, h5⟩
  rw [show errB 0 1 = 41 from by decide]
  rw [show backD 0 1 = 0 from by decide] at h5
  have H5 := Lib.hid h5
  clear H4 h5
  go_wp2_with fail
  refine (talive_any _).mono ?_
  rintro e w6 ⟨rfl, hB⟩
  have h6 := H5.out.below hB
  have H6 := Lib.hid h6.depth
  rw [show ((0 : Nat) : Int) = 0 from rfl] at H6
  have HB := Lib.hid h6.out
  clear h6 H5 hB
  go_wp2_with fail
  refine H6.out.mono ?_
  rintro e w' ⟨rfl, rfl⟩
  go_wp2_with fail
  go_ret
  exact ⟨rfl, HB.out⟩

set_option maxHeartbeats 800000 in
set_option maxRecDepth 100000 in
theorem lifted (os : Os) (started : os.Started) (H : Type) (enc : TypeId × Value → H) :
    ReturnsInHanded {} Try.checked os 3 .any (Rows.trailNamesSpec.pre6 enc Try.prog Try.f3 Rows.trailNamesRow.domain false) (Rows.trailNamesSpec.post enc Try.prog Try.f3 false true false false) := by
  refine returnsInHanded_of_change (C := Try.checked) own_knob started (by kernel_rfl) Try.func3
    (ChangeSpec.witness6 (enc := enc) (C := Try.checked) false ⟨#[], #[], []⟩ 8 (by kernel_rfl) (by kernel_rfl) (by kernel_rfl) (by kernel_rfl)) ?_
  intro W base args ds gs before hval0 hW _ _
  have hW' := hW
  obtain ⟨p, q, hA0, hV, rfl, _, _⟩ := hW
  have hA : DataW.TrodAll enc Try.prog W 0 (fun _ => true) true Try.f3.params.toList args.toList ds p := hA0
  rw [Try.params3] at hA
  obtain ⟨hargs, rfl, rfl⟩ := trodAll_nil hA
  obtain rfl : args = #[] := by cases args; simp_all
  obtain ⟨rfl, rfl⟩ := trodVars_none hV
  clear hA0 hval0
  refine (walk W).mono fun e W' ⟨he, hB⟩ => ?_
  subst he
  exact ⟨_, rfl, _, _, _, [], _, [], hW', trodAll_mk1 (shut_bool Try.underlying4 true), trodAll_mk0, rfl, hB.frame _, fun h => by cases h⟩

theorem proved : Rows.TrailNamesSaid :=
  OpenClaim.holds_of_wide 3 Try.f3 rfl rfl rfl rfl rfl rfl rfl ⟨rfl, rfl, rfl, rfl, rfl⟩ rfl rfl rfl rfl rfl (by kernel_rfl) Try.func3 (by kernel_rfl)
    (of_decide_eq_true (by kernel_rfl)) (by unfold Func.isWrapper; first | (rw [if_pos (by decide +kernel)]; kernel_rfl) | (rw [if_neg (by decide +kernel)]; exact ⟨rfl, rfl⟩))
    (fun os started H enc _ => lifted os started H enc)
end Go.Proofs.Ytbllamlaabmbaaa.TNames
namespace Go.Proofs.Ytbllamlaabmbaaa
theorem trailNames_holds : Rows.TrailNamesSaid := TNames.proved
#print axioms trailNames_holds
end Go.Proofs.Ytbllamlaabmbaaa
