/- GateNames is true: the statement Rows.GateNamesSaid, without a condition. -/
import Derived.Test.YtkdjbjclijbojaaGliv
import Derived.Test.YtkdjbjclijbojaaRows
import Derived.ProofKit
import Derived.OpenShut
import Derived.SizedLaws
import Derived.Deep.Slices
import Derived.Deep.Fields
import Derived.ChangeSame
namespace Go.Proofs.Ytkdjbjclijbojaa.GNames
open Go.ChangeShapes Go.WideShapes Go.ChangeAt Go.RowKit GatM

theorem own_knob : ownKnob Try.prog.godebug = none := by kernel_rfl
set_option maxHeartbeats 3200000 in
set_option maxRecDepth 100000 in
theorem walk (w : World) : Calls Try.prog 3 #[] w fun e w' => e = .returned (.bool true) ∧ Below w.heap.size w w' := by
  go_enter Try.func3, Try.ntmps3
  go_wp2_with fail
  refine (gnew_any w).mono ?_
  intro e w1 hN
  obtain ⟨c, rfl, h1⟩ := LvG.new hN (Below.refl w.heap.size w) (Nat.le_refl _)
  clear hN
  have HR : Hid (∀ W, Below w1.heap.size w1 W →
      (Calls Try.prog 9 #[.pointer (some ⟨c.bg, 0, none⟩), .slice (some ⟨W.heap.size, 0, none⟩) 1 1] (W.alloc (.cells #[.int .u32 2] 25)) fun e w' => e = .returned (.tuple #[.int .u32 0, .int .i64 101]) ∧ Below w1.heap.size w1 w') ∧
      (Calls Try.prog 10 #[.pointer (some ⟨c.bg, 0, none⟩), .int .u32 99] W fun e w' => e = .returned (.tuple #[.int .u32 0, .int .i64 101]) ∧ Below w1.heap.size w1 w') ∧
      (Calls Try.prog 11 #[.pointer (some ⟨c.bg, 0, none⟩), .slice none 0 0, .slice (some ⟨W.heap.size, 0, none⟩) 1 1] (W.alloc (.cells #[.int .u32 2] 25)) fun e w' => e = .returned (.tuple #[.slice none 0 0, .int .i64 101]) ∧ Below w1.heap.size w1 w') ∧
      (Calls Try.prog 12 #[.pointer (some ⟨c.bg, 0, none⟩), .slice (some ⟨W.heap.size, 0, none⟩) 1 1] (W.alloc (.cells #[.int .u32 3] 25)) fun e w' => e = .returned (.tuple #[.slice none 0 0, .int .i64 101]) ∧ Below w1.heap.size w1 w') ∧
      (Calls Try.prog 13 #[.pointer (some ⟨c.bg, 0, none⟩), .int .u32 0, .int .u32 7] W fun e w' => e = .returned (.tuple #[.int .u32 0, .int .i64 101]) ∧ Below w1.heap.size w1 w') ∧
      (Calls Try.prog 14 #[.pointer (some ⟨c.bg, 0, none⟩), .int .u32 0, .int .u32 0, .int .u32 7] W fun e w' => e = .returned (.tuple #[.int .u32 0, .int .i64 101]) ∧ Below w1.heap.size w1 w')) := fun W hb => by
    have hW := h1.below hb
    have hal : ∀ o, Below W.heap.size W (W.alloc o) := fun o => (Below.refl _ _).alloc (Nat.le_refl _) _
    have up : ∀ {V w' : World}, Below w1.heap.size w1 V → Below V.heap.size V w' → Below w1.heap.size w1 w' := fun p q => p.trans (q.mono p.size)
    have h2 := (hW.below (hal (.cells #[.int .u32 2] 25))).at_
    have h3 := (hW.below (hal (.cells #[.int .u32 3] 25))).at_
    have s2 : Sml [2] := Sml.of (by simp)
    have s3 : Sml [3] := Sml.of (by simp)
    refine ⟨?_, ?_, ?_, ?_, ?_, ?_⟩
    · exact (gand_no h2 (some ⟨W.heap.size, 0, none⟩) 1 1 [2] (rdn_made .u32 W 25 [2]) s2 (by decide) (by decide)).mono fun e w' ⟨a, b⟩ => ⟨a, b ▸ up hb (hal _)⟩
    · refine (gnot_any hW.at_ 99 (by decide)).mono fun e w' ⟨a, b⟩ => ⟨?_, up hb b⟩
      rw [a, if_neg (by decide)]
    · exact (geval_no h2 none 0 0 (some ⟨W.heap.size, 0, none⟩) 1 1 [2] (rdn_made .u32 W 25 [2]) s2 (by decide) (by decide)).mono fun e w' ⟨a, b⟩ => ⟨a, b ▸ up hb (hal _)⟩
    · exact (gCone_no h3 (some ⟨W.heap.size, 0, none⟩) 1 1 [3] (rdn_made .u32 W 25 [3]) s3 (by decide) (by decide)).mono fun e w' ⟨a, b⟩ => ⟨a, b ▸ up hb (hal _)⟩
    · exact (gsame_no hW.at_ 0 7 (by decide) (by decide) (by decide)).mono fun e w' ⟨a, b⟩ => ⟨a, up hb b⟩
    · exact (gif_no hW.at_ 0 0 7 (by decide) (by decide) (by decide) (by decide)).mono fun e w' ⟨a, b⟩ => ⟨a, up hb b⟩
  have HAO : Hid (∀ W, Below w1.heap.size w1 W →
      (Calls Try.prog 9 #[.pointer (some ⟨c.bg, 0, none⟩), .slice none 0 0] W fun e w' => e = .returned (.tuple #[.int .u32 1, .int .i64 0]) ∧ ∃ c', LvG w.heap.size w w' c' [(0, 0)] ∧ c'.bg = c.bg)) := fun W hb =>
    ((h1.below hb).and none 0 0 [] .nil (fun k hk => absurd hk (onB_none k)) (fun x hx => by simp at hx) (by decide)).mono fun e w' ⟨a, c', q⟩ => ⟨a, c', q.lv, q.bg⟩
  have HB1 := Lib.hid h1.be
  have HS1 := Lib.hid h1.hB
  clear h1
  obtain ⟨p1, _⟩ := HR.out w1 (Below.refl _ _)
  have HP := Lib.hid p1
  clear p1
  go_wp2_with fail
  refine HP.out.mono ?_
  rintro e w2 ⟨rfl, hb2⟩
  obtain ⟨_, p1, _⟩ := HR.out w2 hb2
  have HP2 := Lib.hid p1
  clear p1 hb2 HP
  go_wp2_with fail
  refine HP2.out.mono ?_
  rintro e w3 ⟨rfl, hb3⟩
  obtain ⟨_, _, p1, _⟩ := HR.out w3 hb3
  have HP3 := Lib.hid p1
  clear p1 hb3 HP2
  go_wp2_with fail
  refine HP3.out.mono ?_
  rintro e w4 ⟨rfl, hb4⟩
  obtain ⟨_, _, _, p1, _⟩ := HR.out w4 hb4
  have HP4 := Lib.hid p1
  clear p1 hb4 HP3
  go_wp2_with fail
  refine HP4.out.mono ?_
  rintro e w5 ⟨rfl, hb5⟩
  obtain ⟨_, _, _, _, p1, _⟩ := HR.out w5 hb5
  have HP5 := Lib.hid p1
  clear p1 hb5 HP4
  go_wp2_with fail
  refine HP5.out.mono ?_
  rintro e w6 ⟨rfl, hb6⟩
  obtain ⟨_, _, _, _, _, p1⟩ := HR.out w6 hb6
  have HP6 := Lib.hid p1
  clear p1 hb6 HP5 HR
  go_wp2_with fail
  refine HP6.out.mono ?_
  rintro e w7 ⟨rfl, hb7⟩
  have HP7 := Lib.hid (HAO.out w7 hb7)
  clear hb7 HP6 HAO
  go_wp2_with fail
  refine HP7.out.mono ?_
  rintro e w8 ⟨rfl, c8, h8, hb8⟩
  have hor : Calls Try.prog 15 #[.pointer (some ⟨c.bg, 0, none⟩), .slice none 0 0] w8 fun e w' => e = .returned (.tuple #[.int .u32 0, .int .i64 0]) ∧ ∃ c', LvG w.heap.size w w' c' [(0, 0)] ∧ c'.bg = c.bg := by
    rw [← hb8]
    exact (h8.or none 0 0 [] .nil (fun x hx => by simp at hx) (by decide)).mono fun e w' ⟨a, c', q⟩ => ⟨a, c', q.lv, q.bg⟩
  have HP8 := Lib.hid hor
  clear hor h8 hb8 HP7
  go_wp2_with fail
  refine HP8.out.mono ?_
  rintro e w9 ⟨rfl, c9, h9, hb9⟩
  have H9 := Lib.hid h9
  have HB9 := Lib.hid hb9
  clear h9 hb9 HP8
  go_wp2_with fail
  refine (galive_any w9).mono ?_
  rintro e w10 ⟨rfl, hb10⟩
  have h10 := H9.out.below hb10
  have hl10 : Calls Try.prog 17 #[.pointer (some ⟨c.bg, 0, none⟩)] w10 fun e w' => e = .returned (.int .i64 1) ∧ w10 = w' := by rw [← HB9.out]; exact h10.len_
  have HL := Lib.hid hl10
  have HBE := Lib.hid h10.be
  clear hl10 h10 hb10 H9
  go_wp2_with fail
  refine HL.out.mono ?_
  rintro e w' ⟨rfl, rfl⟩
  go_wp2_with fail
  go_ret
  exact ⟨rfl, HBE.out⟩

set_option maxHeartbeats 800000 in
set_option maxRecDepth 100000 in
theorem lifted (os : Os) (started : os.Started) (H : Type) (enc : TypeId × Value → H) :
    ReturnsInHanded {} Try.checked os 3 .any (Rows.gateNamesSpec.pre6 enc Try.prog Try.f3 Rows.gateNamesRow.domain false) (Rows.gateNamesSpec.post enc Try.prog Try.f3 false true false false) := by
  refine returnsInHanded_of_change (C := Try.checked) own_knob started (by kernel_rfl) Try.func3
    (ChangeSpec.witness6 (enc := enc) (C := Try.checked) false ⟨#[], #[], []⟩ 8 (by kernel_rfl) (by kernel_rfl) (by kernel_rfl) (by kernel_rfl)) ?_
  intro W base args ds gs before hval0 hW _ _
  have hW' := hW
  obtain ⟨p, q, hA0, hV, rfl, _, _⟩ := hW
  have hA : DataW.TrodAll enc Try.prog W 0 (fun _ => true) true Try.f3.params.toList args.toList ds p := hA0
  rw [Try.params3] at hA
  obtain ⟨hargs, rfl, rfl⟩ := trodAll_nil hA
  obtain rfl : args = #[] := by cases args; simp_all
  obtain ⟨rfl, rfl⟩ := trodVars_none hV
  clear hA0 hval0
  refine (walk W).mono fun e W' ⟨he, hB⟩ => ?_
  subst he
  exact ⟨_, rfl, _, _, _, [], _, [], hW', trodAll_mk1 (shut_bool Try.underlying4 true), trodAll_mk0, rfl, hB.frame _, fun h => by cases h⟩

theorem proved : Rows.GateNamesSaid :=
  OpenClaim.holds_of_wide 3 Try.f3 rfl rfl rfl rfl rfl rfl rfl ⟨rfl, rfl, rfl, rfl, rfl⟩ rfl rfl rfl rfl rfl (by kernel_rfl) Try.func3 (by kernel_rfl)
    (of_decide_eq_true (by kernel_rfl)) (by unfold Func.isWrapper; first | (rw [if_pos (by decide +kernel)]; kernel_rfl) | (rw [if_neg (by decide +kernel)]; exact ⟨rfl, rfl⟩))
    (fun os started H enc _ => lifted os started H enc)
end Go.Proofs.Ytkdjbjclijbojaa.GNames
namespace Go.Proofs.Ytkdjbjclijbojaa
theorem gateNames_holds : Rows.GateNamesSaid := GNames.proved
#print axioms gateNames_holds
end Go.Proofs.Ytkdjbjclijbojaa
