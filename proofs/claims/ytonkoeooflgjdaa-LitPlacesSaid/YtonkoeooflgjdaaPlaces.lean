/- LitPlaces is true of any two numbers: the statement Rows.LitPlacesSaid, without a condition. -/
import Derived.Test.YtonkoeooflgjdaaLaw
namespace Go.Proofs.Ytonkoeooflgjdaa.Places
open Go.ChangeShapes Go.WideShapes Go.ChangeAt Go.RowKit LitM

theorem place_bd (l : Int) : 0 ≤ placeZ l ∧ placeZ l ≤ 524289 := by
  by_cases h : LitM.one l = true
  · have hb := (one_iff l).1 h
    by_cases hn : l < 0
    · rw [placeZ_neg (by omega) (by omega)]; omega
    · rw [placeZ_pos (by omega) (by omega)]; omega
  · rw [placeZ_out (by simpa using h)]; omega
theorem not_bd (l : Int) : -262144 ≤ notZ l ∧ notZ l ≤ 262144 := by
  unfold notZ
  by_cases h : LitM.one l = true
  · have hb := (one_iff l).1 h
    rw [if_pos h]; omega
  · rw [if_neg h]; omega
theorem not_one {l : Int} (h : LitM.one l = true) : notZ l = -l := by unfold notZ; rw [if_pos h]
theorem one_not {l : Int} (h : LitM.one l = true) : LitM.one (-l) = true := by
  have hb := (one_iff l).1 h
  exact (one_iff _).2 (by omega)

structure Facts (a : Int) : Prop where
  f1 : (placeZ a / 2 == placeZ (notZ a) / 2) = true
  f2 : (placeZ a != placeZ (notZ a)) = true
  f3 : (atZ (placeZ a) == a) = true
  f4 : (notZ (notZ a) == a) = true
  f5 : (varZ a == placeZ a / 2) = true
theorem facts {a : Int} (h : LitM.one a = true) : Facts a := by
  have hb := (one_iff a).1 h
  have e1 := not_one h
  have e2 := not_one (one_not h)
  have hc : (a < 0 ∧ placeZ a = 2 * (-a) + 1 ∧ placeZ (-a) = 2 * (-a) ∧ varZ a = -a) ∨ (0 < a ∧ placeZ a = 2 * a ∧ placeZ (-a) = 2 * (- -a) + 1 ∧ varZ a = a) := by
    by_cases hn : a < 0
    · exact .inl ⟨hn, placeZ_neg (by omega) (by omega), placeZ_pos (by omega) (by omega), varZ_neg (by omega) (by omega)⟩
    · exact .inr ⟨by omega, placeZ_pos (by omega) (by omega), placeZ_neg (by omega) (by omega), varZ_pos (by omega) (by omega)⟩
  refine ⟨?_, ?_, ?_, ?_, ?_⟩
  · rw [beq_iff_eq, e1]; omega
  · rw [bne_iff_ne, e1]; omega
  · rw [beq_iff_eq]
    unfold atZ
    rw [if_pos (by omega)]
    by_cases hm : placeZ a % 2 = 1
    · rw [if_pos hm]; omega
    · rw [if_neg hm]; omega
  · rw [beq_iff_eq, e1, e2]; omega
  · rw [beq_iff_eq]; omega

set_option maxHeartbeats 6400000 in
set_option maxRecDepth 100000 in
theorem walk (a b : Int) (w0 : (Lit.int .i32 a).wf = true) (w1 : (Lit.int .i32 b).wf = true) (w : World) :
    Calls Try.prog 9 #[.int .i32 a, .int .i32 b] w fun e w' => e = .returned (.bool true) ∧ Below w.heap.size w w' := by
  obtain ⟨ha0, ha1⟩ := i32_of w0
  obtain ⟨hb0, hb1⟩ := i32_of w1
  obtain ⟨pa0, pa1⟩ := place_bd a
  obtain ⟨pn0, pn1⟩ := place_bd (notZ a)
  obtain ⟨na0, na1⟩ := not_bd a
  have h32 : Hid (In32 [a, b]) := In32.of fun x hx => by
    simp only [List.mem_cons, List.not_mem_nil, or_false] at hx
    rcases hx with rfl | rfl <;> omega
  clear w0 w1
  rcases hok : allOne [a, b] with _ | _
  · have HOK := Lib.hid hok; clear hok
    go_enter Try.func9, Try.ntmps9
    go_wp2_with (first
      | (go_at_call 12; refine (alive_any _).mono ?_; rintro e wa ⟨rfl, hB⟩; have HB := Lib.hid hB; clear hB)
      | (go_at_call 13; refine (right_any _ 2 2 [a, b] _ (Rd.new .i32 wa 26 #[.int .i32 a, .int .i32 b] 2 [a, b] rfl rfl) h32.out (by omega)).mono ?_; rintro e w' ⟨rfl, rfl⟩; rw [HOK.out]))
    go_ret
    exact ⟨rfl, HB.out.trans ((below_alloc wa _).mono HB.out.size)⟩
  · have hoo := hok
    rw [one_two, Bool.and_eq_true] at hoo
    obtain ⟨f1, f2, f3, f4, f5⟩ := facts hoo.1
    by_cases hab : a = b
    all_goals
      have hpb : (placeZ a == placeZ b) = (a == b) := by
        rw [Bool.eq_iff_iff, beq_iff_eq, beq_iff_eq]
        exact ⟨place_inj hoo.1 hoo.2, fun e => by rw [e]⟩
      first
        | (have hab1 : (a == b) = true := by rw [beq_iff_eq]; exact hab)
        | (have hab1 : (a == b) = false := by rw [beq_eq_false_iff_ne]; exact hab)
      rw [hab1] at hpb
      have HOK := Lib.hid hok
      clear hok hoo hab
      go_enter Try.func9, Try.ntmps9
      go_wp2_with (first
        | (go_at_call 12; refine (alive_any _).mono ?_; rintro e wa ⟨rfl, hB⟩; have HB := Lib.hid hB; clear hB)
        | (go_at_call 13; refine (right_any _ 2 2 [a, b] _ (Rd.new .i32 wa 26 #[.int .i32 a, .int .i32 b] 2 [a, b] rfl rfl) h32.out (by omega)).mono ?_; rintro e w' ⟨rfl, rfl⟩; rw [HOK.out])
        | (go_at_call 19; refine (place_any _ _ (by omega) (by omega)).mono ?_; rintro e w' ⟨rfl, rfl⟩)
        | (go_at_call 14; refine (not_any _ _ (by omega) (by omega)).mono ?_; rintro e w' ⟨rfl, rfl⟩)
        | (go_at_call 15; refine (at_any _ _ (by omega) (by omega)).mono ?_; rintro e w' ⟨rfl, rfl⟩)
        | (go_at_call 18; refine (var_any _ _ (by omega) (by omega)).mono ?_; rintro e w' ⟨rfl, rfl⟩))
      go_ret
      exact ⟨rfl, HB.out.trans ((below_alloc wa _).mono HB.out.size)⟩

set_option maxHeartbeats 800000 in
set_option maxRecDepth 100000 in
theorem lifted (os : Os) (started : os.Started) (H : Type) (enc : TypeId × Value → H) :
    ReturnsInHanded {} Try.checked os 9 .any (Rows.litPlacesSpec.pre6 enc Try.prog Try.f9 Rows.litPlacesRow.domain false) (Rows.litPlacesSpec.post enc Try.prog Try.f9 false true false false) := by
  refine returnsInHanded_of_change (C := Try.checked) own_knob started (by kernel_rfl) Try.func9
    (ChangeSpec.witness6 (enc := enc) (C := Try.checked) false ⟨#[], #[.int .i32 0, .int .i32 0], []⟩ 8 (by kernel_rfl) (by kernel_rfl) (by kernel_rfl) (by kernel_rfl)) ?_
  intro W base args ds gs before hval0 hW _ _
  have hval : ∀ (j : Nat) t v, Try.f9.params[j]? = some t → args[j]? = some v → Value.okWide Try.prog W .any base t v := hval0
  have hW' := hW
  obtain ⟨p, q, hA0, hV, rfl, _, _⟩ := hW
  have hA : DataW.TrodAll enc Try.prog W 0 (fun _ => true) true Try.f9.params.toList args.toList ds p := hA0
  rw [Try.params9] at hA hval
  obtain ⟨v0, v1, d0, d1, p0, p1, rfl, rfl, rfl, h0, h1⟩ := trodAll_two hA
  obtain ⟨rfl, rfl⟩ := trodVars_none hV
  obtain ⟨a0, rfl, rfl, rfl, w0⟩ := open_int Try.underlying26 (hval 0 26 v0 rfl rfl) h0
  obtain ⟨a1, rfl, rfl, rfl, w1⟩ := open_int Try.underlying26 (hval 1 26 v1 rfl rfl) h1
  clear hA0 hval0
  refine (walk a0 a1 w0 w1 W).mono fun e W' ⟨he, hB⟩ => ?_
  subst he
  exact ⟨_, rfl, _, _, _, [], _, [], hW', trodAll_mk1 (shut_bool Try.underlying4 true), trodAll_mk2 (shut_int Try.underlying26 w0) (shut_int Try.underlying26 w1), rfl, hB.frame _, fun h => by cases h⟩

theorem proved : Rows.LitPlacesSaid :=
  OpenClaim.holds_of_wide 9 Try.f9 rfl rfl rfl rfl rfl rfl rfl ⟨rfl, rfl, rfl, rfl, rfl⟩ rfl rfl rfl rfl rfl (by kernel_rfl) Try.func9 (by kernel_rfl)
    (of_decide_eq_true (by kernel_rfl)) (by unfold Func.isWrapper; first | (rw [if_pos (by decide +kernel)]; kernel_rfl) | (rw [if_neg (by decide +kernel)]; exact ⟨rfl, rfl⟩))
    (fun os started H enc _ => lifted os started H enc)
end Go.Proofs.Ytonkoeooflgjdaa.Places
namespace Go.Proofs.Ytonkoeooflgjdaa
theorem litPlaces_holds : Rows.LitPlacesSaid := Places.proved
#print axioms litPlaces_holds
end Go.Proofs.Ytonkoeooflgjdaa
