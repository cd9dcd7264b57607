/- PaceTells is true: the statement Rows.PaceTellsSaid, without a condition. -/
import Derived.Test.YtdbpdhdcebidgaaPacW
import Derived.Test.YtdbpdhdcebidgaaRows
namespace Go.Proofs.Ytdbpdhdcebidgaa.PTells
open Go.ChangeShapes Go.WideShapes Go.ChangeAt Go.RowKit PacM
set_option maxHeartbeats 3200000 in
set_option maxRecDepth 100000 in
theorem walk (i seed v : Int) (h0 : 0 ≤ seed) (h1 : seed ≤ 18446744073709551615) (w : World) : Calls Try.prog 4 #[.int .i64 i, .int .u64 seed, .int .i64 v] w fun e w' => e = .returned (.bool true) ∧ Below w.heap.size w w' := by
  have HA := Lib.hid (alive_any w)
  have HF := Lib.hid (fun W => first_any seed v W h0 h1)
  have HG := Lib.hid (fun W => rfirst_any seed v W h0 h1)
  generalize firstB seed v = fb at *
  go_enter Try.func4, Try.ntmps4
  go_wp2_with fail
  refine HA.out.mono ?_
  rintro e w1 ⟨rfl, hB⟩
  have HB := Lib.hid hB
  clear hB HA
  go_wp2_with fail
  refine (HF.out _).mono ?_
  rintro e w' ⟨rfl, rfl⟩
  go_wp2_with fail
  refine (HG.out _).mono ?_
  rintro e w' ⟨rfl, rfl⟩
  by_cases hmid : 5000 < i ∧ i ≤ 1048576
  · obtain ⟨q1, q2⟩ := hmid
    have t1 : decide (5000 < i) = true := decide_eq_true q1
    have t2 : decide (i ≤ 1048576) = true := decide_eq_true q2
    go_wp2_with fail
    go_ret
    exact ⟨rfl, HB.out⟩
  have HL := Lib.hid (luby_any i w1)
  have HR := Lib.hid (rluby_any i w1 (by omega))
  by_cases hin : 1 ≤ i ∧ i ≤ 1048576
  · rw [if_pos hin] at HL HR
    have q1 : i ≤ 5000 := by omega
    have t1 : decide (5000 < i) = false := decide_eq_false (by omega)
    generalize lub i.toNat = lz at *
    clear hmid
    go_wp2_with fail
    refine HL.out.mono ?_
    rintro e w' ⟨rfl, rfl⟩
    go_wp2_with fail
    refine HR.out.mono ?_
    rintro e w2 ⟨rfl, hB2⟩
    have HB2 : Hid (Below w.heap.size w w2) := HB.out.trans (hB2.mono HB.out.size)
    clear hB2
    go_wp2_with fail
    go_ret
    exact ⟨rfl, HB2.out⟩
  · rw [if_neg hin] at HL HR
    by_cases q1 : 5000 < i
    · have q2 : 1048576 < i := by omega
      have t1 : decide (5000 < i) = true := decide_eq_true q1
      have t2 : decide (i ≤ 1048576) = false := decide_eq_false (by omega)
      clear hmid hin
      go_wp2_with fail
      refine HL.out.mono ?_
      rintro e w' ⟨rfl, rfl⟩
      go_wp2_with fail
      refine HR.out.mono ?_
      rintro e w2 ⟨rfl, hB2⟩
      have HB2 : Hid (Below w.heap.size w w2) := HB.out.trans (hB2.mono HB.out.size)
      clear hB2
      go_wp2_with fail
      go_ret
      exact ⟨rfl, HB2.out⟩
    · have q2 : i < 1 := by omega
      have t1 : decide (5000 < i) = false := decide_eq_false q1
      clear hmid hin
      go_wp2_with fail
      refine HL.out.mono ?_
      rintro e w' ⟨rfl, rfl⟩
      go_wp2_with fail
      refine HR.out.mono ?_
      rintro e w2 ⟨rfl, hB2⟩
      have HB2 : Hid (Below w.heap.size w w2) := HB.out.trans (hB2.mono HB.out.size)
      clear hB2
      go_wp2_with fail
      go_ret
      exact ⟨rfl, HB2.out⟩
set_option maxHeartbeats 800000 in
set_option maxRecDepth 100000 in
theorem lifted (os : Os) (started : os.Started) (H : Type) (enc : TypeId × Value → H) :
    ReturnsInHanded {} Try.checked os 4 .any (Rows.paceTellsSpec.pre6 enc Try.prog Try.f4 Rows.paceTellsRow.domain false) (Rows.paceTellsSpec.post enc Try.prog Try.f4 false true false false) := by
  refine returnsInHanded_of_change (C := Try.checked) own_knob started (by kernel_rfl) Try.func4
    (ChangeSpec.witness6 (enc := enc) (C := Try.checked) false ⟨#[], #[.int .i64 0, .int .u64 0, .int .i64 0], []⟩ 8 (by kernel_rfl) (by kernel_rfl) (by kernel_rfl) (by kernel_rfl)) ?_
  intro W base args ds gs before hval0 hW _ _
  have hval : ∀ (j : Nat) t v, Try.f4.params[j]? = some t → args[j]? = some v → Value.okWide Try.prog W .any base t v := hval0
  have hW' := hW
  obtain ⟨p, q, hA0, hV, rfl, _, _⟩ := hW
  have hA : DataW.TrodAll enc Try.prog W 0 (fun _ => true) true Try.f4.params.toList args.toList ds p := hA0
  rw [Try.params4] at hA hval
  obtain ⟨v0, v1, v2, d0, d1, d2, p0, p1, p2, rfl, rfl, rfl, h0, h1, h2⟩ := trodAll_three hA
  obtain ⟨rfl, rfl⟩ := trodVars_none hV
  obtain ⟨a0, rfl, rfl, rfl, w0⟩ := open_int Try.underlying3 (hval 0 3 v0 rfl rfl) h0
  obtain ⟨a1, rfl, rfl, rfl, w1⟩ := open_int Try.underlying26 (hval 1 26 v1 rfl rfl) h1
  obtain ⟨a2, rfl, rfl, rfl, w2⟩ := open_int Try.underlying3 (hval 2 3 v2 rfl rfl) h2
  clear hA0 hval0
  simp only [List.append_nil] at hW'
  refine (walk a0 a1 a2 (u64_of w1).1 (u64_of w1).2 W).mono fun e W' ⟨he, hB⟩ => ?_
  subst he
  exact ⟨_, rfl, _, _, _, [], _, [], hW', trodAll_mk1 (shut_bool Try.underlying4 true), trodAll_mk3 (shut_int Try.underlying3 w0) (shut_int Try.underlying26 w1) (shut_int Try.underlying3 w2), rfl, hB.frame _, fun h => by cases h⟩

theorem proved : Rows.PaceTellsSaid :=
  OpenClaim.holds_of_wide 4 Try.f4 rfl rfl rfl rfl rfl rfl rfl ⟨rfl, rfl, rfl, rfl, rfl⟩ rfl rfl rfl rfl rfl (by kernel_rfl) Try.func4 (by kernel_rfl)
    (of_decide_eq_true (by kernel_rfl)) (by unfold Func.isWrapper; first | (rw [if_pos (by decide +kernel)]; kernel_rfl) | (rw [if_neg (by decide +kernel)]; exact ⟨rfl, rfl⟩))
    (fun os started H enc _ => lifted os started H enc)
end Go.Proofs.Ytdbpdhdcebidgaa.PTells
namespace Go.Proofs.Ytdbpdhdcebidgaa
theorem paceTells_holds : Rows.PaceTellsSaid := PTells.proved
#print axioms paceTells_holds
end Go.Proofs.Ytdbpdhdcebidgaa
