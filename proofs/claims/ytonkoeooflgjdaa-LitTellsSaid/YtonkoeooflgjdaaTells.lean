/- LitTells is true of every number and every place: the statement Rows.LitTellsSaid, without a condition. -/
import Derived.Test.YtonkoeooflgjdaaAlive
import Derived.ProofKit
import Derived.OpenShut
import Derived.SizedLaws
namespace Go.Proofs.Ytonkoeooflgjdaa.Tells
open Go.ChangeShapes Go.WideShapes Go.ChangeAt Go.RowKit LitM

theorem own : ownKnob Try.prog.godebug = none := by kernel_rfl

theorem at_one {p : Int} (h1 : 2 ≤ p) (h2 : p ≤ 524289) : LitM.one (atZ p) = true ∧ placeZ (atZ p) = p := by
  by_cases hm : p % 2 = 1
  · have e : atZ p = -(p / 2) := by unfold atZ; rw [if_pos (by omega), if_pos hm]
    rw [e]
    exact ⟨(one_iff _).2 (by omega), by rw [placeZ_neg (by omega) (by omega)]; omega⟩
  · have e : atZ p = p / 2 := by unfold atZ; rw [if_pos (by omega), if_neg hm]
    rw [e]
    exact ⟨(one_iff _).2 (by omega), by rw [placeZ_pos (by omega) (by omega)]; omega⟩
theorem at_out {p : Int} (h : ¬ (2 ≤ p ∧ p ≤ 524289)) : atZ p = 0 := by unfold atZ; rw [if_neg h]
theorem at_bd (p : Int) : -262144 ≤ atZ p ∧ atZ p ≤ 262144 := by
  by_cases h : 2 ≤ p ∧ p ≤ 524289
  · have := (one_iff _).1 (at_one h.1 h.2).1; omega
  · rw [at_out h]; omega
theorem one_list (l : Int) : allOne [l] = LitM.one l := by simp [allOne]

theorem i32_of {n : Int} (h : (Lit.int .i32 n).wf = true) : -2147483648 ≤ n ∧ n ≤ 2147483647 := by
  simpa [Lit.wf, IntKind.min, IntKind.max, IntKind.bits, IntKind.signed] using h
theorem i64_of {n : Int} (h : (Lit.int .i64 n).wf = true) : -9223372036854775808 ≤ n ∧ n ≤ 9223372036854775807 := by
  simpa [Lit.wf, IntKind.min, IntKind.max, IntKind.bits, IntKind.signed] using h

set_option maxHeartbeats 6400000 in
set_option maxRecDepth 100000 in
theorem walk (l p : Int) (w0 : (Lit.int .i32 l).wf = true) (w1 : (Lit.int .i64 p).wf = true) (w : World) :
    Calls Try.prog 4 #[.int .i32 l, .int .i64 p] w fun e w' => e = .returned (.bool true) ∧ Below w.heap.size w w' := by
  obtain ⟨hl0, hl1⟩ := i32_of w0
  obtain ⟨hp0, hp1⟩ := i64_of w1
  obtain ⟨hv0, hv1⟩ := varZ_bd l
  obtain ⟨ha0, ha1⟩ := at_bd p
  have h32 : Hid (In32 [l]) := In32.of fun x hx => by rw [List.mem_singleton] at hx; subst hx; exact ⟨hl0, hl1⟩
  clear w0 w1
  have hcase : (p < 2 ∧ (atZ p != 0) = false) ∨ (2 ≤ p ∧ p ≤ 524289 ∧ (atZ p != 0) = true ∧ (placeZ (atZ p) == p) = true) ∨ (2 ≤ p ∧ 524289 < p ∧ (atZ p != 0) = false ∧ decide (p ≤ 524289) = false) := by
    by_cases h1 : p < 2
    · exact .inl ⟨h1, by rw [at_out (by omega)]; rfl⟩
    · by_cases h2 : p ≤ 524289
      · obtain ⟨o1, o2⟩ := at_one (p := p) (by omega) h2
        have o3 := (one_iff _).1 o1
        exact .inr (.inl ⟨by omega, h2, by rw [bne_iff_ne]; omega, by rw [beq_iff_eq]; exact o2⟩)
      · exact .inr (.inr ⟨by omega, by omega, by rw [at_out (by omega)]; rfl, by rw [decide_eq_false_iff_not]; omega⟩)
  rcases hone : LitM.one l with _ | _
  · have hvb : (varZ l == 0) = true := by rw [varZ_out hone]; rfl
    have hpb : (placeZ l == 0) = true := by rw [placeZ_out hone]; rfl
    have hnb : (notZ l == 0) = true := by unfold notZ; rw [hone]; rfl
    have HONE := Lib.hid hone; clear hone
    rcases hcase with ⟨hp2, ha⟩ | ⟨hp2, hp3, ha, hab⟩ | ⟨hp2, hp3, ha, hpd⟩
    all_goals
      go_enter Try.func4, Try.ntmps4
      go_wp2_with (first
        | (go_at_call 12; refine (alive_any _).mono ?_; rintro e wa ⟨rfl, hB⟩; have HB := Lib.hid hB; clear hB)
        | (go_at_call 16; refine (rone_any l _).mono ?_; rintro e w' ⟨rfl, rfl⟩; rw [HONE.out])
        | (go_at_call 15; refine (at_any p _ hp0 hp1).mono ?_; rintro e w' ⟨rfl, rfl⟩)
        | (go_at_call 13; refine (right_any _ 1 1 [l] _ (Rd.new .i32 wa 26 #[.int .i32 l] 1 [l] rfl rfl) h32.out (by omega)).mono ?_; rintro e w' ⟨rfl, rfl⟩; rw [one_list, HONE.out])
        | (go_at_call 18; refine (var_any l _ hl0 hl1).mono ?_; rintro e w' ⟨rfl, rfl⟩)
        | (go_at_call 19; refine (place_any _ _ (by omega) (by omega)).mono ?_; rintro e w' ⟨rfl, rfl⟩)
        | (go_at_call 14; refine (not_any l _ hl0 hl1).mono ?_; rintro e w' ⟨rfl, rfl⟩))
      go_ret
      exact ⟨rfl, HB.out.trans ((below_alloc wa _).mono HB.out.size)⟩
  · have hb := (one_iff l).1 hone
    by_cases hneg : l < 0
    all_goals
      have hpb : (placeZ l == if l < 0 then 2 * varZ l + 1 else 2 * varZ l) = true := by
        rw [beq_iff_eq]
        first
          | (rw [if_pos hneg, placeZ_neg (by omega) (by omega), varZ_neg (by omega) (by omega)]; done)
          | (rw [if_neg hneg, placeZ_pos (by omega) (by omega), varZ_pos (by omega) (by omega)]; done)
      first | rw [if_pos hneg] at hpb | rw [if_neg hneg] at hpb
      have hnb : (notZ l == -l) = true := by unfold notZ; rw [hone]; simp
      have HONE := Lib.hid hone; clear hone
      rcases hcase with ⟨hp2, ha⟩ | ⟨hp2, hp3, ha, hab⟩ | ⟨hp2, hp3, ha, hpd⟩
      all_goals
        go_enter Try.func4, Try.ntmps4
        go_wp2_with (first
          | (go_at_call 12; refine (alive_any _).mono ?_; rintro e wa ⟨rfl, hB⟩; have HB := Lib.hid hB; clear hB)
          | (go_at_call 16; refine (rone_any l _).mono ?_; rintro e w' ⟨rfl, rfl⟩; rw [HONE.out])
          | (go_at_call 17; refine (rvar_any l _ hl0 hl1).mono ?_; rintro e w' ⟨rfl, rfl⟩)
          | (go_at_call 15; refine (at_any p _ hp0 hp1).mono ?_; rintro e w' ⟨rfl, rfl⟩)
          | (go_at_call 13; refine (right_any _ 1 1 [l] _ (Rd.new .i32 wa 26 #[.int .i32 l] 1 [l] rfl rfl) h32.out (by omega)).mono ?_; rintro e w' ⟨rfl, rfl⟩; rw [one_list, HONE.out])
          | (go_at_call 18; refine (var_any l _ hl0 hl1).mono ?_; rintro e w' ⟨rfl, rfl⟩)
          | (go_at_call 19; refine (place_any _ _ (by omega) (by omega)).mono ?_; rintro e w' ⟨rfl, rfl⟩)
          | (go_at_call 14; refine (not_any l _ hl0 hl1).mono ?_; rintro e w' ⟨rfl, rfl⟩))
        go_ret
        exact ⟨rfl, HB.out.trans ((below_alloc wa _).mono HB.out.size)⟩

set_option maxHeartbeats 800000 in
set_option maxRecDepth 100000 in
theorem lifted (os : Os) (started : os.Started) (H : Type) (enc : TypeId × Value → H) :
    ReturnsInHanded {} Try.checked os 4 .any (Rows.litTellsSpec.pre6 enc Try.prog Try.f4 Rows.litTellsRow.domain false) (Rows.litTellsSpec.post enc Try.prog Try.f4 false true false false) := by
  refine returnsInHanded_of_change (C := Try.checked) own started (by kernel_rfl) Try.func4
    (ChangeSpec.witness6 (enc := enc) (C := Try.checked) false ⟨#[], #[.int .i32 0, .int .i64 0], []⟩ 8 (by kernel_rfl) (by kernel_rfl) (by kernel_rfl) (by kernel_rfl)) ?_
  intro W base args ds gs before hval0 hW _ _
  have hval : ∀ (j : Nat) t v, Try.f4.params[j]? = some t → args[j]? = some v → Value.okWide Try.prog W .any base t v := hval0
  have hW' := hW
  obtain ⟨p, q, hA0, hV, rfl, _, _⟩ := hW
  have hA : DataW.TrodAll enc Try.prog W 0 (fun _ => true) true Try.f4.params.toList args.toList ds p := hA0
  rw [Try.params4] at hA hval
  obtain ⟨v0, v1, d0, d1, p0, p1, rfl, rfl, rfl, h0, h1⟩ := trodAll_two hA
  obtain ⟨rfl, rfl⟩ := trodVars_none hV
  obtain ⟨a0, rfl, rfl, rfl, w0⟩ := open_int Try.underlying26 (hval 0 26 v0 rfl rfl) h0
  obtain ⟨a1, rfl, rfl, rfl, w1⟩ := open_int Try.underlying3 (hval 1 3 v1 rfl rfl) h1
  clear hA0 hval0
  refine (walk a0 a1 w0 w1 W).mono fun e W' ⟨he, hB⟩ => ?_
  subst he
  exact ⟨_, rfl, _, _, _, [], _, [], hW', trodAll_mk1 (shut_bool Try.underlying4 true), trodAll_mk2 (shut_int Try.underlying26 w0) (shut_int Try.underlying3 w1), rfl, hB.frame _, fun h => by cases h⟩

theorem proved : Rows.LitTellsSaid :=
  OpenClaim.holds_of_wide 4 Try.f4 rfl rfl rfl rfl rfl rfl rfl ⟨rfl, rfl, rfl, rfl, rfl⟩ rfl rfl rfl rfl rfl (by kernel_rfl) Try.func4 (by kernel_rfl)
    (of_decide_eq_true (by kernel_rfl)) (by unfold Func.isWrapper; first | (rw [if_pos (by decide +kernel)]; kernel_rfl) | (rw [if_neg (by decide +kernel)]; exact ⟨rfl, rfl⟩))
    (fun os started H enc _ => lifted os started H enc)
end Go.Proofs.Ytonkoeooflgjdaa.Tells
namespace Go.Proofs.Ytonkoeooflgjdaa
theorem litTells_holds : Rows.LitTellsSaid := Tells.proved
#print axioms litTells_holds
end Go.Proofs.Ytonkoeooflgjdaa
