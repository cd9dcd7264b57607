/- ProofNames is true: the statement Rows.ProofNamesSaid, without a condition. -/
import Derived.Test.YtkckodpfhlpkgaaGreatPNeed
import Derived.Test.YtkckodpfhlpkgaaGreatRows
import Derived.ProofKit
import Derived.OpenShut
import Derived.SizedLaws
import Derived.Deep.DeepCutAuto
import Derived.Deep.Slices
import Derived.Deep.Fields
import Derived.ChangeSame
namespace Go.Proofs.YtkckodpfhlpkgaaGreat.PrNames
open Go.ChangeShapes Go.WideShapes Go.ChangeAt Go.RowKit LitM TrailM EngM CnfP

theorem own_knob : ownKnob Tryz.prog.godebug = none := by kernel_rfl
theorem fls_no {v : Int} {cs : List (List Int)} {gl : List Int} {w w' : World} {e : Ending} (h : FlsTo v cs gl w e w') (hf : fitB v cs gl [] = false) : e = .returned (.tuple #[.bool false, .int .i64 91]) ∧ Below w.heap.size w w' := by
  obtain ⟨b, rfl, h1, _, h3⟩ := h
  rw [h1 hf, hf]
  exact ⟨rfl, h3⟩
theorem f_1 : fitB 0 [] [1] [] = false := by decide
theorem f_2 : fitB (-1) [] [] [] = false := by decide
theorem f_3 : fitB 1 [] [0] [] = false := by decide
theorem c_2 : chkV (-1) [] [] = 0 ∧ chkE (-1) [] [] = 91 := by unfold chkV chkE; rw [f_2]; simp
theorem rdf_none {w : World} {B : Nat} : RdF w B none 0 [] := ⟨rfl, fun h => absurd h (by omega)⟩
theorem fol_no {w w1 : World} (hb : Below w.heap.size w w1) : Calls Tryz.prog 8 #[.agg #[.int .i64 0, .slice none 0 0], .slice (some ⟨w1.heap.size, 0, none⟩) 1 1] (w1.alloc (.cells #[.int .i32 1] 34)) fun e w' => e = .returned (.tuple #[.bool false, .int .i64 91]) ∧ Below w.heap.size w w' := by
  have h2 : Below w.heap.size w (w1.alloc (.cells #[.int .i32 1] 34)) := hb.alloc hb.size _
  refine (pfollows_any (v := 0) (by omega) (by omega) (.inl (by omega)) (nf := 0) (cf := 0) (m := 1) (cm := 1) (by omega) none [] rdf_none (by simp) (by simp) (some ⟨w1.heap.size, 0, none⟩) [1] (rd_blk (blk_new w1 _) rfl rfl) (In32.of (by simp)) (by omega)).mono fun e w' ht => ?_
  obtain ⟨h3, h4⟩ := fls_no ht f_1
  exact ⟨h3, h2.trans (h4.mono h2.size)⟩
theorem prv_no {w w1 : World} (hb : Below w.heap.size w w1) : Calls Tryz.prog 9 #[.agg #[.int .i64 1, .slice none 0 0], .slice (some ⟨w1.heap.size, 0, none⟩) 1 1, .slice none 0 0] (w1.alloc (.cells #[.int .i32 0] 34)) fun e w' => e = .returned (.tuple #[.bool false, .int .i64 91]) ∧ Below w.heap.size w w' := by
  have h2 : Below w.heap.size w (w1.alloc (.cells #[.int .i32 0] 34)) := hb.alloc hb.size _
  refine (pproves_any (v := 1) (by omega) (by omega) (.inl (by omega)) (nf := 0) (cf := 0) (m := 1) (cm := 1) (cn := 0) (by omega) none [] rdf_none (by simp) (by simp) (some ⟨w1.heap.size, 0, none⟩) [0] (rd_blk (blk_new w1 _) rfl rfl) (In32.of (by simp)) (by omega) none).mono fun e w' ht => ?_
  obtain ⟨h3, h4⟩ := fls_no ht f_3
  exact ⟨h3, h2.trans (h4.mono h2.size)⟩
theorem chk_no {w w1 : World} (hb : Below w.heap.size w w1) : Calls Tryz.prog 7 #[.agg #[.int .i64 (-1), .slice none 0 0], .slice none 0 0] w1 fun e w' => e = .returned (.tuple #[.int .i64 0, .int .i64 91]) ∧ Below w.heap.size w w' := by
  refine (pcheck_any (v := -1) (by omega) (by omega) (.inl (by omega)) (nf := 0) (cf := 0) (N := 0) (cn := 0) (by omega) (by omega) none [] rdf_none (by simp) (by simp) none [] rds_nil (by simp) (by simp)).mono fun e w' ⟨h3, h4⟩ => ?_
  rw [c_2.1, c_2.2] at h3
  exact ⟨h3, hb.trans (h4.mono hb.size)⟩
theorem ned_no {w w1 : World} (hb : Below w.heap.size w w1) : Calls Tryz.prog 10 #[.agg #[.int .i64 1, .slice none 0 0], .slice (some ⟨w1.heap.size + 1, 0, none⟩) 1 1] ((w1.alloc (.cells #[.int .i32 1] 34)).alloc (.cells #[.bool false, .slice (some ⟨w1.heap.size, 0, none⟩) 1 1] 41)) fun e w' => e = .returned (.tuple #[.slice none 0 0, .int .i64 91]) ∧ Below w.heap.size w w' := by
  obtain ⟨V, hV⟩ : ∃ V, V = (w1.alloc (.cells #[.int .i32 1] 34)).alloc (.cells #[.bool false, .slice (some ⟨w1.heap.size, 0, none⟩) 1 1] 41) := ⟨_, rfl⟩
  have h1 : Below w.heap.size w V := by
    have := hb.size
    rw [hV]; exact (hb.alloc hb.size _).alloc (by simp; omega) _
  have k0 : V.heap[w1.heap.size]? = some (.cells #[.int .i32 1] 34 (0, 0)) := by rw [hV]; exact alloc_old (blk_new w1 _)
  have k1 : V.heap[w1.heap.size + 1]? = some (.cells #[.bool false, .slice (some ⟨w1.heap.size, 0, none⟩) 1 1] 41 (0, 0)) := by
    rw [hV]
    have := blk_new (w1.alloc (.cells #[.int .i32 1] 34)) (.cells #[.bool false, .slice (some ⟨w1.heap.size, 0, none⟩) 1 1] 41)
    rw [World.size_alloc] at this
    exact this
  have hr : RdS V V.heap.size (some ⟨w1.heap.size + 1, 0, none⟩) 1 [(false, [1])] := ⟨rfl, fun _ => ⟨w1.heap.size + 1, 0, rfl, lt_of_heap k1, fun j hj => by
    match j, hj with
    | 0, _ => exact ⟨some ⟨w1.heap.size, 0, none⟩, 1, 1, by rw [Lib.cell_of_heap k1]; rfl, by rw [Lib.cell_of_heap k1]; rfl, rd_blk k0 rfl rfl⟩⟩⟩
  rw [← hV]
  exact (pneed_no hr).mono fun e w' ⟨h3, h4⟩ => ⟨h3, h1.trans (h4.mono h1.size)⟩
set_option maxHeartbeats 6400000 in
set_option maxRecDepth 100000 in
theorem walk (w : World) : Calls Tryz.prog 4 #[] w fun e w' => e = .returned (.bool true) ∧ Below w.heap.size w w' := by
  have HF := Lib.hid (fol_no (Below.refl w.heap.size w))
  go_enter Tryz.func4, Tryz.ntmps4
  go_wp2_with fail
  refine HF.out.mono ?_
  rintro e w1 ⟨rfl, hb1⟩
  have HC := Lib.hid (chk_no hb1)
  clear hb1 HF
  go_wp2_with fail
  refine HC.out.mono ?_
  rintro e w2 ⟨rfl, hb2⟩
  have HP := Lib.hid (prv_no hb2)
  clear hb2 HC
  go_wp2_with fail
  refine HP.out.mono ?_
  rintro e w3 ⟨rfl, hb3⟩
  have HN := Lib.hid (ned_no hb3)
  clear hb3 HP
  go_wp2_with fail
  refine HN.out.mono ?_
  rintro e w4 ⟨rfl, hb4⟩
  have HB4 := Lib.hid hb4
  clear hb4 HN
  go_wp2_with fail
  refine (palive_any w4).mono ?_
  rintro e w5 ⟨rfl, hb5⟩
  have HFIN : Hid (Below w.heap.size w w5) := HB4.out.trans (hb5.mono HB4.out.size)
  clear hb5 HB4
  go_wp2_with fail
  go_ret
  exact ⟨rfl, HFIN.out⟩

set_option maxHeartbeats 800000 in
set_option maxRecDepth 100000 in
theorem lifted (os : Os) (started : os.Started) (H : Type) (enc : TypeId × Value → H) :
    ReturnsInHanded {} Tryz.checked os 4 .any (Rows.proofNamesSpec.pre6 enc Tryz.prog Tryz.f4 Rows.proofNamesRow.domain false) (Rows.proofNamesSpec.post enc Tryz.prog Tryz.f4 false true false false) := by
  refine returnsInHanded_of_change (C := Tryz.checked) own_knob started (by kernel_rfl) Tryz.func4
    (ChangeSpec.witness6 (enc := enc) (C := Tryz.checked) false ⟨#[], #[], []⟩ 8 (by kernel_rfl) (by kernel_rfl) (by kernel_rfl) (by kernel_rfl)) ?_
  intro W base args ds gs before hval0 hW _ _
  have hW' := hW
  obtain ⟨p, q, hA0, hV, rfl, _, _⟩ := hW
  have hA : DataW.TrodAll enc Tryz.prog W 0 (fun _ => true) true Tryz.f4.params.toList args.toList ds p := hA0
  rw [Tryz.params4] at hA
  obtain ⟨hargs, rfl, rfl⟩ := trodAll_nil hA
  obtain rfl : args = #[] := by cases args; simp_all
  obtain ⟨rfl, rfl⟩ := trodVars_none hV
  clear hA0 hval0
  refine (walk W).mono fun e W' ⟨he, hB⟩ => ?_
  subst he
  exact ⟨_, rfl, _, _, _, [], _, [], hW', trodAll_mk1 (shut_bool Tryz.underlying4 true), trodAll_mk0, rfl, hB.frame _, fun h => by cases h⟩

theorem proved : Rows.ProofNamesSaid :=
  OpenClaim.holds_of_wide 4 Tryz.f4 rfl rfl rfl rfl rfl rfl rfl ⟨rfl, rfl, rfl, rfl, rfl⟩ rfl rfl rfl rfl rfl (by kernel_rfl) Tryz.func4 (by kernel_rfl)
    (of_decide_eq_true (by kernel_rfl)) (by unfold Func.isWrapper; first | (rw [if_pos (by decide +kernel)]; kernel_rfl) | (rw [if_neg (by decide +kernel)]; exact ⟨rfl, rfl⟩))
    (fun os started H enc _ => lifted os started H enc)
end Go.Proofs.YtkckodpfhlpkgaaGreat.PrNames
namespace Go.Proofs.YtkckodpfhlpkgaaGreat
theorem proofNames_holds : Rows.ProofNamesSaid := PrNames.proved
#print axioms proofNames_holds
end Go.Proofs.YtkckodpfhlpkgaaGreat
