/- LitNames is true: the statement Rows.LitNamesSaid, without a condition. -/
import Derived.Test.YtonkoeooflgjdaaLaw
namespace Go.Proofs.Ytonkoeooflgjdaa.Names
open Go.ChangeShapes Go.WideShapes Go.ChangeAt Go.RowKit LitM

theorem small32 {xs : List Int} (h : xs.all (fun x => decide (-2147483648 ≤ x ∧ x ≤ 2147483647)) = true) : In32 xs := In32.of fun x hx => by
  rw [List.all_eq_true] at h
  simpa using h x hx

set_option maxHeartbeats 6400000 in
set_option maxRecDepth 100000 in
theorem walk (w : World) : Calls Try.prog 3 #[] w fun e w' => e = .returned (.bool true) ∧ Below w.heap.size w w' := by
  go_enter Try.func3, Try.ntmps3
  go_wp2_with fail
  refine (clean_no _ 2 2 [1, 0] _ (Rd.new .i32 w 26 #[.int .i32 1, .int .i32 0] 2 [1, 0] rfl rfl) (small32 (by decide)) (by omega) (by decide)).mono ?_
  rintro e w' ⟨rfl, rfl⟩
  go_wp2_with fail
  refine (resolve_out none none 0 0 0 0 [] [] 1 _ 0 Rd.nil Rd.nil (by omega) (by omega) (by omega) (by omega) (by decide)).mono ?_
  rintro e w' ⟨rfl, rfl⟩
  have HB0 := Lib.hid (below_alloc w (.cells #[.int .i32 1, .int .i32 0] 26))
  generalize w.alloc (.cells #[.int .i32 1, .int .i32 0] 26) = wz at *
  go_wp2_with fail
  refine (alive_any _).mono ?_
  rintro e wa ⟨rfl, hB⟩
  have HB := Lib.hid (HB0.out.trans (hB.mono HB0.out.size))
  clear hB
  go_wp2_with fail
  refine (right_any none 0 0 [] _ Rd.nil (small32 (by decide)) (by omega)).mono ?_
  rintro e w' ⟨rfl, rfl⟩
  rw [show allOne [] = true from rfl]
  go_wp2_with fail
  refine (right_any _ 1 1 [0] _ (Rd.new .i32 wa 26 #[.int .i32 0] 1 [0] rfl rfl) (small32 (by decide)) (by omega)).mono ?_
  rintro e w' ⟨rfl, rfl⟩
  rw [show allOne [0] = false from by decide]
  have HB1 := Lib.hid (HB.out.trans ((below_alloc wa (.cells #[.int .i32 0] 26)).mono HB.out.size))
  generalize wa.alloc (.cells #[.int .i32 0] 26) = wb at *
  go_wp2_with fail
  refine (right_any _ 2 2 [262144, -262144] _ (Rd.new .i32 wb 26 #[.int .i32 262144, .int .i32 (-262144)] 2 [262144, -262144] rfl rfl) (small32 (by decide)) (by omega)).mono ?_
  rintro e w' ⟨rfl, rfl⟩
  rw [show allOne [262144, -262144] = true from by decide]
  have HB2 := Lib.hid (HB1.out.trans ((below_alloc wb (.cells #[.int .i32 262144, .int .i32 (-262144)] 26)).mono HB1.out.size))
  generalize wb.alloc (.cells #[.int .i32 262144, .int .i32 (-262144)] 26) = wc at *
  go_wp2_with fail
  refine (right_any _ 1 1 [262145] _ (Rd.new .i32 wc 26 #[.int .i32 262145] 1 [262145] rfl rfl) (small32 (by decide)) (by omega)).mono ?_
  rintro e w' ⟨rfl, rfl⟩
  rw [show allOne [262145] = false from by decide]
  have HB3 := Lib.hid (HB2.out.trans ((below_alloc wc (.cells #[.int .i32 262145] 26)).mono HB2.out.size))
  generalize wc.alloc (.cells #[.int .i32 262145] 26) = wd at *
  go_wp2_with fail
  refine (not_any (-2147483648) _ (by omega) (by omega)).mono ?_
  rintro e w' ⟨rfl, rfl⟩
  rw [show notZ (-2147483648) = 0 from by decide]
  go_wp2_with fail
  refine (at_any 1 _ (by omega) (by omega)).mono ?_
  rintro e w' ⟨rfl, rfl⟩
  rw [show atZ 1 = 0 from by decide]
  go_wp2_with fail
  refine (at_any 3 _ (by omega) (by omega)).mono ?_
  rintro e w' ⟨rfl, rfl⟩
  rw [show atZ 3 = -1 from by decide]
  go_wp2_with fail
  go_ret
  exact ⟨rfl, HB3.out⟩

set_option maxHeartbeats 800000 in
set_option maxRecDepth 100000 in
theorem lifted (os : Os) (started : os.Started) (H : Type) (enc : TypeId × Value → H) :
    ReturnsInHanded {} Try.checked os 3 .any (Rows.litNamesSpec.pre6 enc Try.prog Try.f3 Rows.litNamesRow.domain false) (Rows.litNamesSpec.post enc Try.prog Try.f3 false true false false) := by
  refine returnsInHanded_of_change (C := Try.checked) own_knob started (by kernel_rfl) Try.func3
    (ChangeSpec.witness6 (enc := enc) (C := Try.checked) false ⟨#[], #[], []⟩ 8 (by kernel_rfl) (by kernel_rfl) (by kernel_rfl) (by kernel_rfl)) ?_
  intro W base args ds gs before hval0 hW _ _
  have hW' := hW
  obtain ⟨p, q, hA0, hV, rfl, _, _⟩ := hW
  have hA : DataW.TrodAll enc Try.prog W 0 (fun _ => true) true Try.f3.params.toList args.toList ds p := hA0
  rw [Try.params3] at hA
  obtain ⟨hargs, rfl, rfl⟩ := trodAll_nil hA
  obtain rfl : args = #[] := by cases args; simp_all
  obtain ⟨rfl, rfl⟩ := trodVars_none hV
  clear hA0 hval0
  refine (walk W).mono fun e W' ⟨he, hB⟩ => ?_
  subst he
  exact ⟨_, rfl, _, _, _, [], _, [], hW', trodAll_mk1 (shut_bool Try.underlying4 true), trodAll_mk0, rfl, hB.frame _, fun h => by cases h⟩

theorem proved : Rows.LitNamesSaid :=
  OpenClaim.holds_of_wide 3 Try.f3 rfl rfl rfl rfl rfl rfl rfl ⟨rfl, rfl, rfl, rfl, rfl⟩ rfl rfl rfl rfl rfl (by kernel_rfl) Try.func3 (by kernel_rfl)
    (of_decide_eq_true (by kernel_rfl)) (by unfold Func.isWrapper; first | (rw [if_pos (by decide +kernel)]; kernel_rfl) | (rw [if_neg (by decide +kernel)]; exact ⟨rfl, rfl⟩))
    (fun os started H enc _ => lifted os started H enc)
end Go.Proofs.Ytonkoeooflgjdaa.Names
namespace Go.Proofs.Ytonkoeooflgjdaa
theorem litNames_holds : Rows.LitNamesSaid := Names.proved
#print axioms litNames_holds
end Go.Proofs.Ytonkoeooflgjdaa
