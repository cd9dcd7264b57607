/- KnitNames is true: the statement Rows.KnitNamesSaid, without a condition. -/
import Derived.Test.YtmiifhclcknhdaaKntL
import Derived.Test.YtmiifhclcknhdaaRows
import Derived.ProofKit
import Derived.OpenShut
import Derived.SizedLaws
import Derived.Deep.Slices
import Derived.Deep.Fields
import Derived.ChangeSame
namespace Go.Proofs.Ytmiifhclcknhdaa.KNames
open Go.ChangeShapes Go.WideShapes Go.ChangeAt Go.RowKit GatM KntM

theorem own_knob : ownKnob Try.prog.godebug = none := by kernel_rfl
set_option maxHeartbeats 6400000 in
set_option maxRecDepth 100000 in
theorem walk (w : World) : Calls Try.prog 3 #[] w fun e w' => e = .returned (.bool true) ∧ Below w.heap.size w w' := by
  go_enter Try.func3, Try.ntmps3
  go_wp2_with fail
  refine (gnew_any w).mono ?_
  intro e w1 hN
  obtain ⟨c1, rfl, h1⟩ := LvG.new hN (Below.refl w.heap.size w) (Nat.le_refl _)
  clear hN
  obtain ⟨b, hb⟩ : ∃ b, b = c1.bg := ⟨_, rfl⟩
  rw [← hb]
  have hi1 : Calls Try.prog 7 #[.pointer (some ⟨b, 0, none⟩)] w1 fun e w' => e = .returned (.tuple #[.int .u32 2, .int .i64 0]) ∧ ∃ c', LvG w.heap.size w w' c' [(0, 0), (0, 0)] ∧ c'.bg = b := by
    rw [hb]; exact (h1.input (by decide)).mono fun e w' ⟨p, c', q⟩ => ⟨p, c', q.lv, q.bg⟩
  have HI1 := Lib.hid hi1
  clear hi1 h1 hb
  go_wp2_with fail
  refine HI1.out.mono ?_
  rintro e w2 ⟨rfl, c2, h2, hb⟩
  have HL2 := Lib.hid h2
  have HB2 := Lib.hid hb
  clear h2 hb HI1
  go_wp2_with fail
  refine (knew_any b w2.heap.size _).mono ?_
  rintro e w7 ⟨rfl, hw7⟩
  obtain ⟨w6, hw6⟩ : ∃ w6, w6 = w2.alloc (.cells #[.int .i64 0, .slice none 0 0, .int .i64 0] 36) := ⟨_, rfl⟩
  have hw7' : w7 = w6.alloc (.cells #[.pointer (some ⟨c2.bg, 0, none⟩), .iface 31 (.pointer (some ⟨w2.heap.size, 0, none⟩)), .slice none 0 0, .int .i64 0, .slice none 0 0] 71) := by rw [hw6, HB2.out]; exact hw7
  obtain ⟨q, hqk, hqs, hK, _⟩ := KL.new HL2.out 0 hw6 hw7'
  have s6 : w6.heap.size = w2.heap.size + 1 := by rw [hw6]; simp
  have hqb : q.bk = w2.heap.size + 1 := by rw [hqk, s6]
  have HK := Lib.hid hK
  have HQ := Lib.hid hqb
  have HAL := Lib.hid (kalive_any w7)
  -- what is refused, in any later world
  have HR : Hid (∀ W, Below w7.heap.size w7 W →
      (Calls Try.prog 10 #[.pointer (some ⟨w2.heap.size + 1, 0, none⟩), .int .u32 2] W fun e w' => e = .returned (.tuple #[.int .i32 0, .int .i64 121]) ∧ Hid (Below w7.heap.size w7 w')) ∧
      (Calls Try.prog 10 #[.pointer (some ⟨w2.heap.size + 1, 0, none⟩), .int .u32 8] W fun e w' => e = .returned (.tuple #[.int .i32 0, .int .i64 121]) ∧ Hid (Below w7.heap.size w7 w')) ∧
      (Calls Try.prog 11 #[.pointer (some ⟨w2.heap.size + 1, 0, none⟩), .slice (some ⟨W.heap.size, 0, none⟩) 1 1] (W.alloc (.cells #[.int .u32 9] 25)) fun e w' => e = .returned (.int .i64 121) ∧ Hid (Below w7.heap.size w7 w')) ∧
      (Calls Try.prog 12 #[.pointer (some ⟨w2.heap.size + 1, 0, none⟩), .slice none 0 0, .int .u32 2] W fun e w' => e = .returned (.tuple #[.bool false, .bool false]) ∧ W = w') ∧ Below w.heap.size w W) := fun W hW => by
    have hk := HK.out.kn.below hW
    have ha : ∀ x : Nat, Below W.heap.size W (W.alloc (.cells #[.int .u32 (x : Int)] 25)) := fun x => (Below.refl _ _).alloc (Nat.le_refl _) _
    refine ⟨?_, ?_, ?_, ?_, HK.out.lv.be.trans (hW.mono HK.out.lv.hB)⟩
    · have h := kknow_full (hk.below (ha 2)) (by decide) (by decide) (some ⟨W.heap.size, 0, none⟩) 1 2 (rdn_made .u32 W 25 [2]) (by decide) (by decide)
      rw [HQ.out] at h
      exact (klit_no 2 _ (h.mono fun e w' ⟨a, b⟩ => ⟨a, b.mono (ha 2).size⟩)).mono fun e w' ⟨a, b⟩ => ⟨a, hW.trans (b.mono hW.size)⟩
    · have h := kknow_bad (hk.below (ha 8)) (some ⟨W.heap.size, 0, none⟩) 1 8 (rdn_made .u32 W 25 [8]) (by decide) (by decide)
      rw [HQ.out] at h
      exact (klit_no 8 _ (h.mono fun e w' ⟨a, b⟩ => ⟨a, b.mono (ha 8).size⟩)).mono fun e w' ⟨a, b⟩ => ⟨a, hW.trans (b.mono hW.size)⟩
    · have h := kknow_bad (hk.below (ha 9)) (some ⟨W.heap.size, 0, none⟩) 1 9 (rdn_made .u32 W 25 [9]) (by decide) (by decide)
      rw [HQ.out] at h
      exact (khold_no _ _ _ _ h).mono fun e w' ⟨a, b⟩ => ⟨a, (hW.trans ((ha 9).mono hW.size)).trans (b.mono (Nat.le_trans hW.size (ha 9).size))⟩
    · have h := kvalue_no hk (by decide) none 0 0 2 (by decide) (by decide)
      rw [HQ.out] at h
      exact h
  clear hK hqk hqs hw7 hw7' hw6 s6 hqb HL2 HB2 HK HQ
  go_wp2_with fail
  refine HAL.out.mono ?_
  rintro e w8 ⟨rfl, hb8⟩
  obtain ⟨r1, _, _, _, _⟩ := HR.out w8 hb8
  have H1 := Lib.hid r1
  clear hb8 r1 HAL
  go_wp2_with fail
  refine H1.out.mono ?_
  rintro e w9 ⟨rfl, hb9⟩
  obtain ⟨_, r2, _, _, _⟩ := HR.out w9 hb9.out
  have H2 := Lib.hid r2
  clear hb9 r2 H1
  go_wp2_with fail
  refine H2.out.mono ?_
  rintro e wa ⟨rfl, hba⟩
  obtain ⟨_, _, r3, _, _⟩ := HR.out wa hba.out
  have H3 := Lib.hid r3
  clear hba r3 H2
  go_wp2_with fail
  refine H3.out.mono ?_
  rintro e wb ⟨rfl, hbb⟩
  obtain ⟨_, _, _, r4, r5⟩ := HR.out wb hbb.out
  have H4 := Lib.hid r4
  have H5 := Lib.hid r5
  clear hbb r4 r5 H3 HR
  go_wp2_with fail
  refine H4.out.mono ?_
  rintro e w' ⟨rfl, rfl⟩
  go_wp2_with fail
  go_ret
  exact ⟨rfl, H5.out⟩

set_option maxHeartbeats 800000 in
set_option maxRecDepth 100000 in
theorem lifted (os : Os) (started : os.Started) (H : Type) (enc : TypeId × Value → H) :
    ReturnsInHanded {} Try.checked os 3 .any (Rows.knitNamesSpec.pre6 enc Try.prog Try.f3 Rows.knitNamesRow.domain false) (Rows.knitNamesSpec.post enc Try.prog Try.f3 false true false false) := by
  refine returnsInHanded_of_change (C := Try.checked) own_knob started (by kernel_rfl) Try.func3
    (ChangeSpec.witness6 (enc := enc) (C := Try.checked) false ⟨#[], #[], []⟩ 8 (by kernel_rfl) (by kernel_rfl) (by kernel_rfl) (by kernel_rfl)) ?_
  intro W base args ds gs before hval0 hW _ _
  have hW' := hW
  obtain ⟨p, q, hA0, hV, rfl, _, _⟩ := hW
  have hA : DataW.TrodAll enc Try.prog W 0 (fun _ => true) true Try.f3.params.toList args.toList ds p := hA0
  rw [Try.params3] at hA
  obtain ⟨hargs, rfl, rfl⟩ := trodAll_nil hA
  obtain rfl : args = #[] := by cases args; simp_all
  obtain ⟨rfl, rfl⟩ := trodVars_none hV
  clear hA0 hval0
  refine (walk W).mono fun e W' ⟨he, hB⟩ => ?_
  subst he
  exact ⟨_, rfl, _, _, _, [], _, [], hW', trodAll_mk1 (shut_bool Try.underlying4 true), trodAll_mk0, rfl, hB.frame _, fun h => by cases h⟩

theorem proved : Rows.KnitNamesSaid :=
  OpenClaim.holds_of_wide 3 Try.f3 rfl rfl rfl rfl rfl rfl rfl ⟨rfl, rfl, rfl, rfl, rfl⟩ rfl rfl rfl rfl rfl (by kernel_rfl) Try.func3 (by kernel_rfl)
    (of_decide_eq_true (by kernel_rfl)) (by unfold Func.isWrapper; first | (rw [if_pos (by decide +kernel)]; kernel_rfl) | (rw [if_neg (by decide +kernel)]; exact ⟨rfl, rfl⟩))
    (fun os started H enc _ => lifted os started H enc)
end Go.Proofs.Ytmiifhclcknhdaa.KNames
namespace Go.Proofs.Ytmiifhclcknhdaa
theorem knitNames_holds : Rows.KnitNamesSaid := KNames.proved
#print axioms knitNames_holds
end Go.Proofs.Ytmiifhclcknhdaa
