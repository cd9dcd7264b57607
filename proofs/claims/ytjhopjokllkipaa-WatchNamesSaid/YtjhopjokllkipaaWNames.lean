/- WatchNames is true: the statement Rows.WatchNamesSaid, without a condition. -/
import Derived.Test.YtjhopjokllkipaaERmv
import Derived.Test.YtjhopjokllkipaaRows
import Derived.ProofKit
import Derived.OpenShut
import Derived.SizedLaws
import Derived.Deep.DeepCutAuto
import Derived.Deep.Slices
import Derived.Deep.Fields
import Derived.ChangeSame
namespace Go.Proofs.Ytjhopjokllkipaa.WNames
open Go.ChangeShapes Go.WideShapes Go.ChangeAt Go.RowKit LitM TrailM EngM

theorem own_knob : ownKnob Try.prog.godebug = none := by kernel_rfl
set_option maxHeartbeats 3200000 in
set_option maxRecDepth 100000 in
theorem walk (w : World) : Calls Try.prog 3 #[] w fun e w' => e = .returned (.bool true) ∧ Below w.heap.size w w' := by
  have c1 : IsClean [1] [1] := ⟨by decide, fun x => Iff.rfl⟩
  go_enter Try.func3, Try.ntmps3
  go_wp2_with fail
  refine (enew_any 2 w (by omega)).mono ?_
  intro e w1 hm
  obtain ⟨b, rfl, h1⟩ := Solo.make hm (by decide) (Below.refl w.heap.size w) (Nat.le_refl _)
  rw [show (2 : Int).toNat = 2 from rfl] at h1
  clear hm
  have h1a := h1.below ((Below.refl _ _).alloc (Nat.le_refl _) (.cells #[.int .i32 3] 27))
  have HA := Lib.hid (h1a.addNo (by decide) (some ⟨w1.heap.size, 0, none⟩) 1 1 [3] (rd_made w1 [3]) (In32.of (by simp)) (by omega) (by decide))
  clear h1 h1a
  go_wp2_with fail
  refine HA.out.mono ?_
  rintro e w2 ⟨rfl, h2⟩
  have h2a := h2.below ((Below.refl _ _).alloc (Nat.le_refl _) (.cells #[.int .i32 1, .int .i32 0] 27))
  have HB := Lib.hid (h2a.addNo (by decide) (some ⟨w2.heap.size, 0, none⟩) 2 2 [1, 0] (rd_made w2 [1, 0]) (In32.of (by simp)) (by omega) (by decide))
  clear h2 h2a HA
  go_wp2_with fail
  refine HB.out.mono ?_
  rintro e w3 ⟨rfl, h3⟩
  have h3a := h3.below ((Below.refl _ _).alloc (Nat.le_refl _) (.cells #[.int .i32 1] 27))
  have HC := Lib.hid (h3a.addYes (by decide) (some ⟨w3.heap.size, 0, none⟩) 1 1 [1] [1] (rd_made w3 [1]) (In32.of (by simp)) (by omega) (by decide) c1)
  rw [show ((newE 2).cs.length : Int) = 0 from rfl, show bothB [1] = false from by decide] at HC
  clear h3 h3a HB
  go_wp2_with fail
  refine HC.out.mono ?_
  rintro e w4 ⟨rfl, h4⟩
  have HP := Lib.hid (h4.prop (by decide))
  obtain ⟨P, hP⟩ : ∃ P, P = propF (addF (newE 2) [1] false) := ⟨_, rfl⟩
  rw [← hP] at HP
  have p2 : P.2 = -1 := by rw [hP]; decide
  have v2 : valZ P.1.L 1 = 1 := by rw [hP]; decide
  have r0 : remOk P.1 0 = false := by rw [hP]; decide
  have r1 : remOk P.1 1 = false := by rw [hP]; decide
  have d3 : eErr P.1 3 = 51 ∧ errZ P.1.n P.1.L 3 = 41 := by rw [hP]; decide
  have d1 : eErr P.1 (-1) = 42 ∧ errZ P.1.n P.1.L (-1) = 42 := by rw [hP]; decide
  have l0 : P.1.le.length = 0 := by rw [hP]; decide
  rw [p2] at HP
  have HV := Lib.hid (show _ ∧ _ ∧ _ ∧ _ ∧ _ ∧ _ from ⟨v2, r0, r1, d3, d1, l0⟩)
  clear h4 HC hP p2 v2 r0 r1 d3 d1 l0
  go_wp2_with fail
  refine HP.out.mono ?_
  rintro e w5 ⟨rfl, h5⟩
  have H5 := Lib.hid h5
  clear h5 HP
  go_wp2_with fail
  refine (walive_any w5).mono ?_
  rintro e w6 ⟨rfl, hB⟩
  have h6 := H5.out.below hB
  obtain ⟨bt, a0, aV, _⟩ := h6.asks
  have H6 := Lib.hid h6
  have HQV := Lib.hid (aV 1 (by omega) (by omega))
  rw [HV.out.1] at HQV
  clear h6 aV H5 hB
  go_wp2_with fail
  refine HQV.out.mono ?_
  rintro e w' ⟨rfl, rfl⟩
  have HR0 := Lib.hid (H6.out.remove 0)
  unfold remE at HR0
  rw [HV.out.2.1, if_neg (by simp), if_neg (by simp)] at HR0
  go_wp2_with fail
  refine HR0.out.mono ?_
  rintro e w7 ⟨rfl, h7⟩
  have HR1 := Lib.hid (h7.remove 1)
  unfold remE at HR1
  rw [HV.out.2.2.1, if_neg (by simp), if_neg (by simp)] at HR1
  clear h7 HR0 H6 HQV a0
  go_wp2_with fail
  refine HR1.out.mono ?_
  rintro e w8 ⟨rfl, h8⟩
  have HD3 := Lib.hid (h8.decide 3 (by omega) (by omega))
  unfold decE at HD3
  rw [HV.out.2.2.2.1.1, if_neg (by rw [HV.out.2.2.2.1.2]; decide)] at HD3
  clear h8 HR1
  go_wp2_with fail
  refine HD3.out.mono ?_
  rintro e w9 ⟨rfl, h9⟩
  have HD1 := Lib.hid (h9.decide (-1) (by omega) (by omega))
  unfold decE at HD1
  rw [HV.out.2.2.2.2.1.1, if_neg (by rw [HV.out.2.2.2.2.1.2]; decide)] at HD1
  clear h9 HD3
  go_wp2_with fail
  refine HD1.out.mono ?_
  rintro e wa ⟨rfl, ha⟩
  have HBk := Lib.hid (ha.backNo 1 (.inr (by rw [HV.out.2.2.2.2.2]; decide)))
  clear ha HD1
  go_wp2_with fail
  refine HBk.out.mono ?_
  rintro e wb ⟨rfl, hb⟩
  have HO := Lib.hid hb.out
  clear hb HBk
  go_wp2_with fail
  go_ret
  exact ⟨rfl, HO.out⟩

set_option maxHeartbeats 800000 in
set_option maxRecDepth 100000 in
theorem lifted (os : Os) (started : os.Started) (H : Type) (enc : TypeId × Value → H) :
    ReturnsInHanded {} Try.checked os 3 .any (Rows.watchNamesSpec.pre6 enc Try.prog Try.f3 Rows.watchNamesRow.domain false) (Rows.watchNamesSpec.post enc Try.prog Try.f3 false true false false) := by
  refine returnsInHanded_of_change (C := Try.checked) own_knob started (by kernel_rfl) Try.func3
    (ChangeSpec.witness6 (enc := enc) (C := Try.checked) false ⟨#[], #[], []⟩ 8 (by kernel_rfl) (by kernel_rfl) (by kernel_rfl) (by kernel_rfl)) ?_
  intro W base args ds gs before hval0 hW _ _
  have hW' := hW
  obtain ⟨p, q, hA0, hV, rfl, _, _⟩ := hW
  have hA : DataW.TrodAll enc Try.prog W 0 (fun _ => true) true Try.f3.params.toList args.toList ds p := hA0
  rw [Try.params3] at hA
  obtain ⟨hargs, rfl, rfl⟩ := trodAll_nil hA
  obtain rfl : args = #[] := by cases args; simp_all
  obtain ⟨rfl, rfl⟩ := trodVars_none hV
  clear hA0 hval0
  refine (walk W).mono fun e W' ⟨he, hB⟩ => ?_
  subst he
  exact ⟨_, rfl, _, _, _, [], _, [], hW', trodAll_mk1 (shut_bool Try.underlying4 true), trodAll_mk0, rfl, hB.frame _, fun h => by cases h⟩

theorem proved : Rows.WatchNamesSaid :=
  OpenClaim.holds_of_wide 3 Try.f3 rfl rfl rfl rfl rfl rfl rfl ⟨rfl, rfl, rfl, rfl, rfl⟩ rfl rfl rfl rfl rfl (by kernel_rfl) Try.func3 (by kernel_rfl)
    (of_decide_eq_true (by kernel_rfl)) (by unfold Func.isWrapper; first | (rw [if_pos (by decide +kernel)]; kernel_rfl) | (rw [if_neg (by decide +kernel)]; exact ⟨rfl, rfl⟩))
    (fun os started H enc _ => lifted os started H enc)
end Go.Proofs.Ytjhopjokllkipaa.WNames
namespace Go.Proofs.Ytjhopjokllkipaa
theorem watchNames_holds : Rows.WatchNamesSaid := WNames.proved
#print axioms watchNames_holds
end Go.Proofs.Ytjhopjokllkipaa
