/- SatNames is true: the statement Rows.SatNamesSaid, without a condition. -/
import Derived.Test.YtfllhfhcmoemeaaGreatSAlv
import Derived.Test.YtfllhfhcmoemeaaGreatRows
import Derived.ProofKit
import Derived.OpenShut
import Derived.SizedLaws
import Derived.Deep.DeepCutAuto
import Derived.Deep.Slices
import Derived.Deep.Fields
import Derived.ChangeSame
namespace Go.Proofs.YtfllhfhcmoemeaaGreat.SNames
open Go.ChangeShapes Go.WideShapes Go.ChangeAt Go.RowKit LitM TrailM EngM

theorem own_knob : ownKnob Tryz.prog.godebug = none := by kernel_rfl
theorem n_1 : (propF (newE 0)).2 < 0 ∧ (propF (newE 0)).1.le = [] ∧ (propF (newE 0)).1.n = 0 ∧ (newE 0).cs.length ≤ 20000 := by decide +kernel
theorem n_2 : fitsB (newE 0).n [1] = false ∧ fitsB (newE 0).n [] = true := by decide +kernel
set_option maxHeartbeats 6400000 in
set_option maxRecDepth 100000 in
theorem walk (w : World) : Calls Tryz.prog 3 #[] w fun e w' => e = .returned (.bool true) ∧ Below w.heap.size w w' := by
  go_enter Tryz.func3, Tryz.ntmps3
  go_wp2_with fail
  refine (snew_any w 0 0 0 (by omega)).mono ?_
  rintro e w1 ⟨bs, bp, be, br, q, F, rfl, h1⟩
  have h1a := h1.below ((Below.refl w1.heap.size w1).alloc (Nat.le_refl _) (.cells #[.int .i32 1] 29))
  have HA := Lib.hid (sadd_no h1a (some ⟨w1.heap.size, 0, none⟩) 1 1 [1] (rd_news w1 [1] 1 rfl) (In32.of (by simp)) (by omega) n_2.1)
  have H1 := Lib.hid h1a
  clear h1 h1a
  go_wp2_with fail
  refine HA.out.mono ?_
  rintro e w2 ⟨rfl, hb2⟩
  have h2a := (H1.out.below hb2).below ((Below.refl w2.heap.size w2).alloc (Nat.le_refl _) (.cells #[.int .i32 1] 29))
  have HS := Lib.hid (ssolve_no (bud := -1) h2a [1] (A := some ⟨w2.heap.size, 0, none⟩) (n := 1) (cp := 1) (rd_news w2 [1] 1 rfl) (In32.of (by simp)) (by omega) n_2.1)
  have H2 := Lib.hid h2a
  clear hb2 h2a HA H1
  go_wp2_with fail
  refine HS.out.mono ?_
  rintro e w3 ⟨rfl, hb3⟩
  have h3 := H2.out.below hb3
  have HS1 : Hid (Calls Tryz.prog 10 #[.pointer (some ⟨bs, 0, none⟩), .int .i64 (-1), .slice none 0 0] w3 fun e w' => e = .returned (.tuple #[.int .i64 1, .int .i64 0]) ∧ YesTo w.heap.size w bs (solN 0 bp be br) (propF (newE 0)).1 [] w') :=
    ssolve_any h3 [] Rd.nil (In32.of (by simp)) (by omega) n_2.2 (onB_none bs) 1 _ (fun W W' hb h => h.below hb) (fun W bh bef h _ => run_yes h n_1.2.2.2 n_1.1 n_1.2.1 (fun v v1 v2 => by rw [n_1.2.2.1] at v2; omega))
  clear hb3 h3 H2 HS
  go_wp2_with fail
  refine HS1.out.mono ?_
  rintro e w4 ⟨rfl, g4, q4, F4, sc4, wt4, h4, _⟩
  have H4 := Lib.hid h4.eng.out
  clear h4 HS1
  go_wp2_with fail
  refine (salive_any w4).mono ?_
  rintro e w5 ⟨rfl, hb5⟩
  have HFIN : Hid (Below w.heap.size w w5) := H4.out.trans (hb5.mono H4.out.size)
  clear hb5 H4
  go_wp2_with fail
  go_ret
  exact ⟨rfl, HFIN.out⟩

set_option maxHeartbeats 800000 in
set_option maxRecDepth 100000 in
theorem lifted (os : Os) (started : os.Started) (H : Type) (enc : TypeId × Value → H) :
    ReturnsInHanded {} Tryz.checked os 3 .any (Rows.satNamesSpec.pre6 enc Tryz.prog Tryz.f3 Rows.satNamesRow.domain false) (Rows.satNamesSpec.post enc Tryz.prog Tryz.f3 false true false false) := by
  refine returnsInHanded_of_change (C := Tryz.checked) own_knob started (by kernel_rfl) Tryz.func3
    (ChangeSpec.witness6 (enc := enc) (C := Tryz.checked) false ⟨#[], #[], []⟩ 8 (by kernel_rfl) (by kernel_rfl) (by kernel_rfl) (by kernel_rfl)) ?_
  intro W base args ds gs before hval0 hW _ _
  have hW' := hW
  obtain ⟨p, q, hA0, hV, rfl, _, _⟩ := hW
  have hA : DataW.TrodAll enc Tryz.prog W 0 (fun _ => true) true Tryz.f3.params.toList args.toList ds p := hA0
  rw [Tryz.params3] at hA
  obtain ⟨hargs, rfl, rfl⟩ := trodAll_nil hA
  obtain rfl : args = #[] := by cases args; simp_all
  obtain ⟨rfl, rfl⟩ := trodVars_none hV
  clear hA0 hval0
  refine (walk W).mono fun e W' ⟨he, hB⟩ => ?_
  subst he
  exact ⟨_, rfl, _, _, _, [], _, [], hW', trodAll_mk1 (shut_bool Tryz.underlying4 true), trodAll_mk0, rfl, hB.frame _, fun h => by cases h⟩

theorem proved : Rows.SatNamesSaid :=
  OpenClaim.holds_of_wide 3 Tryz.f3 rfl rfl rfl rfl rfl rfl rfl ⟨rfl, rfl, rfl, rfl, rfl⟩ rfl rfl rfl rfl rfl (by kernel_rfl) Tryz.func3 (by kernel_rfl)
    (of_decide_eq_true (by kernel_rfl)) (by unfold Func.isWrapper; first | (rw [if_pos (by decide +kernel)]; kernel_rfl) | (rw [if_neg (by decide +kernel)]; exact ⟨rfl, rfl⟩))
    (fun os started H enc _ => lifted os started H enc)
end Go.Proofs.YtfllhfhcmoemeaaGreat.SNames
namespace Go.Proofs.YtfllhfhcmoemeaaGreat
theorem satNames_holds : Rows.SatNamesSaid := SNames.proved
#print axioms satNames_holds
end Go.Proofs.YtfllhfhcmoemeaaGreat
