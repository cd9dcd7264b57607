/- RankNames is true: the statement Rows.RankNamesSaid, without a condition. -/
import Derived.Test.YtffpggdbmfidcaaRLaw
namespace Go.Proofs.Ytffpggdbmfidcaa.RNames
open Go.ChangeShapes Go.WideShapes Go.ChangeAt Go.RowKit HeapM

set_option maxHeartbeats 3200000 in
set_option maxRecDepth 100000 in
theorem walk (w : World) : Calls Try.prog 3 #[] w fun e w' => e = .returned (.bool true) ∧ Below w.heap.size w w' := by
  go_enter Try.func3, Try.ntmps3
  go_wp2_with fail
  refine (new_pos 1 w (by omega) (by omega)).mono ?_
  intro e w1 hm
  obtain ⟨b, rfl, h1⟩ := Live.make hm (Below.refl w.heap.size w) (Nat.le_refl _)
  have HL := Lib.hid h1
  clear hm h1
  go_wp2_with fail
  refine (alive_any _).mono ?_
  rintro e w2 ⟨rfl, hB⟩
  have h2 := HL.out.below hB
  have H1 := Lib.hid (h2.bumpno (by omega) 0 1 (by decide))
  have H2 := Lib.hid (h2.bumpno (by omega) 1 (-1) (by decide))
  have H3 := Lib.hid (h2.pushno (by omega) 2 (by decide))
  have HB := Lib.hid h2.out
  clear h2 HL hB
  go_wp2_with fail
  refine H1.out.mono ?_
  rintro e w' ⟨rfl, rfl⟩
  go_wp2_with fail
  refine H2.out.mono ?_
  rintro e w' ⟨rfl, rfl⟩
  go_wp2_with fail
  refine H3.out.mono ?_
  rintro e w' ⟨rfl, rfl⟩
  go_wp2_with fail
  refine (new_any (-1) _ (by omega)).mono ?_
  intro e w3 hm
  obtain ⟨b3, rfl, h3⟩ := Live.make hm HB.out (Nat.le_refl _)
  have HV := Lib.hid (h3.vars (by decide))
  rw [show ((((-1 : Int).toNat) : Nat) : Int) = 0 from rfl] at HV
  have HB3 := Lib.hid h3.out
  clear hm h3
  go_wp2_with fail
  refine HV.out.mono ?_
  rintro e w' ⟨rfl, rfl⟩
  go_wp2_with fail
  go_ret
  exact ⟨rfl, HB3.out⟩

set_option maxHeartbeats 800000 in
set_option maxRecDepth 100000 in
theorem lifted (os : Os) (started : os.Started) (H : Type) (enc : TypeId × Value → H) :
    ReturnsInHanded {} Try.checked os 3 .any (Rows.rankNamesSpec.pre6 enc Try.prog Try.f3 Rows.rankNamesRow.domain false) (Rows.rankNamesSpec.post enc Try.prog Try.f3 false true false false) := by
  refine returnsInHanded_of_change (C := Try.checked) own_knob started (by kernel_rfl) Try.func3
    (ChangeSpec.witness6 (enc := enc) (C := Try.checked) false ⟨#[], #[], []⟩ 8 (by kernel_rfl) (by kernel_rfl) (by kernel_rfl) (by kernel_rfl)) ?_
  intro W base args ds gs before hval0 hW _ _
  have hW' := hW
  obtain ⟨p, q, hA0, hV, rfl, _, _⟩ := hW
  have hA : DataW.TrodAll enc Try.prog W 0 (fun _ => true) true Try.f3.params.toList args.toList ds p := hA0
  rw [Try.params3] at hA
  obtain ⟨hargs, rfl, rfl⟩ := trodAll_nil hA
  obtain rfl : args = #[] := by cases args; simp_all
  obtain ⟨rfl, rfl⟩ := trodVars_none hV
  clear hA0 hval0
  refine (walk W).mono fun e W' ⟨he, hB⟩ => ?_
  subst he
  exact ⟨_, rfl, _, _, _, [], _, [], hW', trodAll_mk1 (shut_bool Try.underlying4 true), trodAll_mk0, rfl, hB.frame _, fun h => by cases h⟩

theorem proved : Rows.RankNamesSaid :=
  OpenClaim.holds_of_wide 3 Try.f3 rfl rfl rfl rfl rfl rfl rfl ⟨rfl, rfl, rfl, rfl, rfl⟩ rfl rfl rfl rfl rfl (by kernel_rfl) Try.func3 (by kernel_rfl)
    (of_decide_eq_true (by kernel_rfl)) (by unfold Func.isWrapper; first | (rw [if_pos (by decide +kernel)]; kernel_rfl) | (rw [if_neg (by decide +kernel)]; exact ⟨rfl, rfl⟩))
    (fun os started H enc _ => lifted os started H enc)
end Go.Proofs.Ytffpggdbmfidcaa.RNames
namespace Go.Proofs.Ytffpggdbmfidcaa
theorem rankNames_holds : Rows.RankNamesSaid := RNames.proved
#print axioms rankNames_holds
end Go.Proofs.Ytffpggdbmfidcaa
