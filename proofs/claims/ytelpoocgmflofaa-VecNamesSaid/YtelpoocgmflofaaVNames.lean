/- VecNames is true: the statement Rows.VecNamesSaid, without a condition. -/
import Derived.Test.YtelpoocgmflofaaVecV
import Derived.Test.YtelpoocgmflofaaRows
import Derived.ProofKit
import Derived.OpenShut
import Derived.SizedLaws
import Derived.Deep.Slices
import Derived.Deep.Fields
import Derived.ChangeSame
namespace Go.Proofs.Ytelpoocgmflofaa.VNames
open Go.ChangeShapes Go.WideShapes Go.ChangeAt Go.RowKit GatM VecM

theorem own_knob : ownKnob Try.prog.godebug = none := by kernel_rfl
theorem add_no {w : World} {p : Value} {A D : Option Addr} {n m cn cm : Nat} (hn : n ≤ 1000) (hm : m ≤ 1000) (wd : Nat) (hwd : wd = max n m + 1) (v : Int) (hv : (v == 0) = false) (hb : Calls Try.prog 33 #[p, .int .i64 (wd : Int), .slice (some ⟨w.heap.size, 0, none⟩) 2 2] (w.alloc (.cells #[.slice A n cn, .slice D m cm] 27)) fun e w' => e = .returned (.tuple #[.pointer none, .int .i64 v]) ∧ Below w.heap.size w w') :
    Calls Try.prog 12 #[p, .slice A n cn, .slice D m cm] w fun e w' => e = .returned (.tuple #[.slice none 0 0, .int .i64 v]) ∧ Below w.heap.size w w' := by
  obtain ⟨M, hM⟩ : ∃ M, M = max n m := ⟨_, rfl⟩
  have hMM : max (n : Int) (m : Int) = (M : Int) := by omega
  have hMb : M ≤ 1000 := by omega
  rw [hwd, ← hM, show ((M + 1 : Nat) : Int) = (M : Int) + 1 by omega] at hb
  have HB := Lib.hid hb
  clear hb hM hn hm hwd
  go_enter Try.func12, Try.ntmps12
  go_wp2_with fail
  refine HB.out.mono ?_
  rintro e w1 ⟨rfl, hb⟩
  have HB2 := Lib.hid hb
  clear hb HB
  go_wp2_with fail
  go_ret2
  exact ⟨rfl, HB2.out⟩
theorem less_no {w : World} {p : Value} {A D : Option Addr} {n m cn cm : Nat} (hn : n ≤ 1000) (hm : m ≤ 1000) (wd : Nat) (hwd : wd = max n m) (v : Int) (hv : (v == 0) = false) (hb : Calls Try.prog 33 #[p, .int .i64 (wd : Int), .slice (some ⟨w.heap.size, 0, none⟩) 2 2] (w.alloc (.cells #[.slice A n cn, .slice D m cm] 27)) fun e w' => e = .returned (.tuple #[.pointer none, .int .i64 v]) ∧ Below w.heap.size w w') :
    Calls Try.prog 14 #[p, .slice A n cn, .slice D m cm] w fun e w' => e = .returned (.tuple #[.int .u32 0, .int .i64 v]) ∧ Below w.heap.size w w' := by
  obtain ⟨M, hM⟩ : ∃ M, M = max n m := ⟨_, rfl⟩
  have hMM : max (n : Int) (m : Int) = (M : Int) := by omega
  have hMb : M ≤ 1000 := by omega
  rw [hwd, ← hM] at hb
  have HB := Lib.hid hb
  clear hb hM hn hm hwd
  go_enter Try.func14, Try.ntmps14
  go_wp2_with fail
  refine HB.out.mono ?_
  rintro e w1 ⟨rfl, hb⟩
  have HB2 := Lib.hid hb
  clear hb HB
  go_wp2_with fail
  go_ret2
  exact ⟨rfl, HB2.out⟩
/-- begin, of two numbers with something wrong. -/
theorem beg_no {w : World} {c : GrC} {gs mp : Gs} {ins : List Nat} (h : GrAt w c gs ins mp) {A D : Option Addr} {n m cn cm : Nat} {la lb : List Nat} (hla : RdN .u32 w w.heap.size A n la) (hlb : RdN .u32 w w.heap.size D m lb) (hsa : Sml la) (hsb : Sml lb) (hn : n ≤ 1000) (hm : m ≤ 1000) (wd : Nat) (v : Int) (hv : v ≠ 0)
    (h1 : fitN n → fitN m → fitN wd → AllIn gs la → AllIn gs lb → v = 0) (h2 : fitN n → fitN m → fitN wd → (¬ AllIn gs la ∨ ¬ AllIn gs lb) → v = 101) (h3 : ¬ fitN n ∨ ¬ fitN m ∨ ¬ fitN wd → v = 111) :
    Calls Try.prog 33 #[.pointer (some ⟨c.bg, 0, none⟩), .int .i64 (wd : Int), .slice (some ⟨w.heap.size, 0, none⟩) 2 2] (w.alloc (.cells #[.slice A n cn, .slice D m cm] 27)) fun e w' => e = .returned (.tuple #[.pointer none, .int .i64 v]) ∧ Below w.heap.size w w' := by
  have hb : Below w.heap.size w (w.alloc (.cells #[.slice A n cn, .slice D m cm] 27)) := (Below.refl _ _).alloc (Nat.le_refl _) _
  have c2 : ∀ {P : Nat → Prop}, P 0 → P 1 → ∀ j, j < 2 → P j := fun h0 h1 j hj => by
    rcases (show j = 0 ∨ j = 1 by omega) with e | e <;> subst e <;> assumption
  refine (vbegin_any (h.below hb) wd 2 w.heap.size (fun j => if j = 0 then A else D) (fun j => if j = 0 then n else m) (fun j => if j = 0 then cn else cm) (fun j => if j = 0 then la else lb) (by omega) (by simp) (c2 hn hm)
    (c2 (by rw [Lib.cell_of_heap (blk_new w _)]; rfl) (by rw [Lib.cell_of_heap (blk_new w _)]; rfl)) (c2 (hla.belo hb) (hlb.belo hb)) (c2 hsa hsb) v (fun q1 q2 q3 => h1 (q1 0 (by omega)) (q1 1 (by omega)) q2 (q3 0 (by omega)) (q3 1 (by omega))) (fun q1 q2 ⟨j, hj, i, hi, hbad⟩ => ?_) (fun hbad => ?_)).mono ?_
  · refine h2 (q1 0 (by omega)) (q1 1 (by omega)) q2 ?_
    rcases (show j = 0 ∨ j = 1 by omega) with e | e
    · subst e
      exact .inl fun q => hbad (q _ (nmem.2 ⟨i, by rw [hla.len]; exact hi, rfl⟩))
    · subst e
      exact .inr fun q => hbad (q _ (nmem.2 ⟨i, by rw [hlb.len]; exact hi, rfl⟩))
  · refine h3 ?_
    rcases hbad with ⟨j, hj, hbad⟩ | ⟨_, hbad⟩
    · rcases (show j = 0 ∨ j = 1 by omega) with e | e
      · subst e; exact .inl hbad
      · subst e; exact .inr (.inl hbad)
    · exact .inr (.inr hbad)
  · rintro e w' ⟨p, rfl, hb2, _, hy⟩
    rw [hy hv]
    exact ⟨rfl, hb.trans (hb2.mono hb.size)⟩
theorem wid40 : widthZ 1099511627776 1099511627776 = 0 := by decide +kernel
theorem wide_len : (List.replicate 32 0).length = 32 := rfl
set_option maxHeartbeats 3200000 in
set_option maxRecDepth 100000 in
theorem walk (w : World) : Calls Try.prog 3 #[] w fun e w' => e = .returned (.bool true) ∧ Below w.heap.size w w' := by
  go_enter Try.func3, Try.ntmps3
  go_wp2_with fail
  refine (gnew_any w).mono ?_
  intro e w1 hN
  obtain ⟨c, rfl, h1⟩ := LvG.new hN (Below.refl w.heap.size w) (Nat.le_refl _)
  obtain ⟨C, hC1, hC2, hmk⟩ := make_vec 32 (by omega)
  obtain ⟨bg, hbg⟩ : ∃ bg, bg = c.bg := ⟨_, rfl⟩
  rw [← hbg]
  -- the lists
  obtain ⟨b1, hb1⟩ : ∃ b1, b1 = w1.heap.size := ⟨_, rfl⟩
  obtain ⟨w2, hw2⟩ : ∃ w2, w2 = (w1.alloc (.cells #[.int .u32 1] 25)).alloc (.cells C 25) := ⟨_, rfl⟩
  have hba : Below w1.heap.size w1 (w1.alloc (.cells #[.int .u32 1] 25)) := (Below.refl _ _).alloc (Nat.le_refl _) _
  have hbb : Below (w1.alloc (.cells #[.int .u32 1] 25)).heap.size (w1.alloc (.cells #[.int .u32 1] 25)) w2 := by rw [hw2]; exact (Below.refl _ _).alloc (Nat.le_refl _) _
  have hone : VcAt w2 c (some ⟨b1, 0, none⟩) 1 [1] := by rw [hb1]; exact (VcAt.made h1 (l := [1]) (Nat.succ_pos _)).below hbb
  have hwide : VcAt w2 c (some ⟨b1 + 1, 0, none⟩) 32 (List.replicate 32 0) := by
    have hr : RowV 25 1 w2 (b1 + 1) 32 32 (numF .u32 (List.replicate 32 0)) := by
      have := RowV.made (T := 25) (k := 1) (w := w1.alloc (.cells #[.int .u32 1] 25)) (n := 32) (C := C) (f := numF .u32 (List.replicate 32 0)) (by omega) hC1 fun j hj => by
        rw [hC2 j hj]
        unfold numF
        rw [List.getD, List.getElem?_replicate]
        split <;> rfl
      rw [hb1, hw2]
      simpa using this
    exact VcAt.row (l := List.replicate 32 0) hr (by decide) (by decide) (fun ho => by have := h1.at_.lt ho; omega) (fun _ _ => rfl)
  have h2 := h1.below (hba.trans (hbb.mono hba.size))
  have hin1 : AllIn [(0, 0)] [1] := fun x hx => by rw [List.mem_singleton] at hx; rw [hx]; decide
  have hinw : AllIn [(0, 0)] (List.replicate 32 0) := fun x hx => by rw [(List.mem_replicate.1 hx).2]; decide
  have HX : Hid (∀ W, Below w2.heap.size w2 W → LvG w.heap.size w W c [(0, 0)] ∧ VcAt W c (some ⟨b1, 0, none⟩) 1 [1] ∧ VcAt W c (some ⟨b1 + 1, 0, none⟩) 32 (List.replicate 32 0)) := fun W hW => ⟨h2.below hW, hone.below hW, hwide.below hW⟩
  have HCON : Hid (∀ W, Calls Try.prog 11 #[.int .i64 1099511627776] W fun e w' => e = .returned (.tuple #[.slice none 0 0, .int .i64 111]) ∧ W = w') := fun W => (vConst_any 1099511627776 (by decide) W).mono fun e w' hc => by
    unfold ConTo at hc
    rw [wid40, if_pos rfl] at hc
    exact hc
  have HBG := Lib.hid hbg
  have s1 : Sml [1] := Sml.of (by simp)
  have s9 : Sml [9] := Sml.of (by simp)
  have sw : Sml (List.replicate 32 0) := Sml.of fun x hx => by rw [(List.mem_replicate.1 hx).2]; decide
  have HADD1 : Hid (∀ W, Below w2.heap.size w2 W → Calls Try.prog 12 #[.pointer (some ⟨bg, 0, none⟩), .slice none 0 0, .slice (some ⟨b1, 0, none⟩) 1 1] W fun e w' => e = .returned (.tuple #[.slice none 0 0, .int .i64 111]) ∧ Below W.heap.size W w') := fun W hW => by
    obtain ⟨q1, q2, q3⟩ := HX.out W hW
    rw [HBG.out]
    exact add_no (by decide) (by decide) 2 (by decide) 111 (by decide) (beg_no q1.at_ RdN.nil q2.rd (Sml.of (by simp)) s1 (by decide) (by decide) 2 111 (by decide) (fun q => absurd q (by decide)) (fun q => absurd q (by decide)) (fun _ => rfl))
  have HADD2 : Hid (∀ W, Below w2.heap.size w2 W → Calls Try.prog 12 #[.pointer (some ⟨bg, 0, none⟩), .slice (some ⟨b1 + 1, 0, none⟩) 32 32, .slice (some ⟨b1, 0, none⟩) 1 1] W fun e w' => e = .returned (.tuple #[.slice none 0 0, .int .i64 111]) ∧ Below W.heap.size W w') := fun W hW => by
    obtain ⟨q1, q2, q3⟩ := HX.out W hW
    rw [HBG.out]
    exact add_no (by decide) (by decide) 33 (by decide) 111 (by decide) (beg_no q1.at_ q3.rd q2.rd sw s1 (by decide) (by decide) 33 111 (by decide) (fun _ _ q => absurd q (by decide)) (fun _ _ q => absurd q (by decide)) (fun _ => rfl))
  have HLESS : Hid (∀ W, Below w2.heap.size w2 W → Calls Try.prog 14 #[.pointer (some ⟨bg, 0, none⟩), .slice (some ⟨b1, 0, none⟩) 1 1, .slice (some ⟨W.heap.size, 0, none⟩) 1 1] (W.alloc (.cells #[.int .u32 9] 25)) fun e w' => e = .returned (.tuple #[.int .u32 0, .int .i64 101]) ∧ Below W.heap.size W w') := fun W hW => by
    obtain ⟨q1, q2, q3⟩ := HX.out W hW
    rw [HBG.out]
    have hal : Below W.heap.size W (W.alloc (.cells #[.int .u32 9] 25)) := (Below.refl _ _).alloc (Nat.le_refl _) _
    have := less_no (p := .pointer (some ⟨c.bg, 0, none⟩)) (cn := 1) (cm := 1) (by decide) (by decide) 1 (by decide) 101 (by decide) (beg_no (q1.below hal).at_ (q2.below hal).rd (rdn_made .u32 W 25 [9]) s1 s9 (by decide) (by decide) 1 101 (by decide) (fun _ _ _ _ q => absurd (q 9 (List.mem_singleton.2 rfl)) (by decide)) (fun _ _ _ _ => rfl) (fun q => by rcases q with q | q | q <;> exact absurd (show fitN 1 from by decide) q))
    exact this.mono fun e w' ⟨r1, r2⟩ => ⟨r1, hal.trans (r2.mono hal.size)⟩
  have HINP : Hid (∀ W, Calls Try.prog 13 #[.pointer (some ⟨bg, 0, none⟩), .int .i64 33] W fun e w' => e = .returned (.tuple #[.slice none 0 0, .int .i64 111]) ∧ W = w') := fun W => vInput_no 33 (by decide) W
  have HWID : Hid (∀ W, Below w2.heap.size w2 W → Calls Try.prog 15 #[.slice (some ⟨b1 + 1, 0, none⟩) 32 32, .int .i64 31] W fun e w' => e = .returned (.tuple #[.slice none 0 0, .int .i64 111]) ∧ W = w') := fun W hW => (vWiden_any (HX.out W hW).2.2 (by decide) 31 (by decide)).mono fun e w' hc => by
    unfold Wid2To at hc
    rw [if_neg (by decide)] at hc
    exact hc
  have HEQ : Hid (∀ W, Below w2.heap.size w2 W → Calls Try.prog 16 #[.pointer (some ⟨bg, 0, none⟩), .slice (some ⟨b1 + 1, 0, none⟩) 32 32, .slice (some ⟨b1, 0, none⟩) 1 1] W fun e w' => ∃ r : Nat, e = .returned (.tuple #[.int .u32 (r : Int), .int .i64 0]) ∧ Hid (Below w.heap.size w w')) := fun W hW => by
    obtain ⟨q1, q2, q3⟩ := HX.out W hW
    rw [HBG.out]
    refine (vequal_any q1 q3 q2 hinw hin1 (by decide) (by decide) (by decide)).mono fun e w' hE => ?_
    obtain ⟨r, gs', c', rfl, _, hT⟩ := hE.out
    exact ⟨r, rfl, hT.lv.be⟩
  have HSZ : Hid (∀ W, Below w.heap.size w W → w.heap.size ≤ W.heap.size) := fun W hW => hW.size
  have hmk0 := hmk (w1.alloc (.cells #[.int .u32 1] 25))
  have hmk1 : (Instr.makeSlice 27 (.int .i64 32) (.int .i64 32)).run Try.prog (w1.alloc (.cells #[.int .u32 1] 25)) = .ok (.slice (some ⟨w1.heap.size + 1, 0, none⟩) 32 32) ((w1.alloc (.cells #[.int .u32 1] 25)).alloc (.cells C 25)) := by simpa using hmk0
  clear hmk hmk0 h1 h2 hN hba hbb hone hwide hin1 hinw s1 s9 sw hbg hC1 hC2
  go_upto_region 4 with (fail)
  rw [← hw2, ← hb1]
  have HR0 : Hid (Below w2.heap.size w2 w2) := Below.refl _ _
  clear hw2 hb1 hmk1
  go_wp2_with fail
  refine (HCON.out _).mono ?_
  rintro e w' ⟨rfl, rfl⟩
  go_wp2_with fail
  refine (HADD1.out _ HR0.out).mono ?_
  rintro e w3 ⟨rfl, hb⟩
  have HR1 : Hid (Below w2.heap.size w2 w3) := hb
  clear hb
  go_wp2_with fail
  refine (HADD2.out _ HR1.out).mono ?_
  rintro e w4 ⟨rfl, hb⟩
  have HR2 : Hid (Below w2.heap.size w2 w4) := HR1.out.trans (hb.mono HR1.out.size)
  clear hb
  go_wp2_with fail
  refine (HINP.out _).mono ?_
  rintro e w' ⟨rfl, rfl⟩
  go_wp2_with fail
  refine (HLESS.out _ HR2.out).mono ?_
  rintro e w5 ⟨rfl, hb⟩
  have HR3 : Hid (Below w2.heap.size w2 w5) := HR2.out.trans (hb.mono HR2.out.size)
  clear hb
  go_wp2_with fail
  refine (HWID.out _ HR3.out).mono ?_
  rintro e w' ⟨rfl, rfl⟩
  go_wp2_with fail
  refine (HEQ.out _ HR3.out).mono ?_
  rintro e w6 ⟨r, rfl, hb⟩
  clear HCON HADD1 HADD2 HINP HLESS HWID HEQ HX
  go_wp2_with fail
  refine (valive_any _).mono ?_
  rintro e w7 ⟨rfl, hb7⟩
  have HB7 : Hid (Below w.heap.size w w7) := hb.out.trans (hb7.mono hb.out.size)
  clear hb7 hb
  go_wp2_with fail
  go_ret
  exact ⟨rfl, HB7.out⟩
set_option maxHeartbeats 800000 in
set_option maxRecDepth 100000 in
theorem lifted (os : Os) (started : os.Started) (H : Type) (enc : TypeId × Value → H) :
    ReturnsInHanded {} Try.checked os 3 .any (Rows.vecNamesSpec.pre6 enc Try.prog Try.f3 Rows.vecNamesRow.domain false) (Rows.vecNamesSpec.post enc Try.prog Try.f3 false true false false) := by
  refine returnsInHanded_of_change (C := Try.checked) own_knob started (by kernel_rfl) Try.func3
    (ChangeSpec.witness6 (enc := enc) (C := Try.checked) false ⟨#[], #[], []⟩ 8 (by kernel_rfl) (by kernel_rfl) (by kernel_rfl) (by kernel_rfl)) ?_
  intro W base args ds gs before hval0 hW _ _
  have hW' := hW
  obtain ⟨p, q, hA0, hV, rfl, _, _⟩ := hW
  have hA : DataW.TrodAll enc Try.prog W 0 (fun _ => true) true Try.f3.params.toList args.toList ds p := hA0
  rw [Try.params3] at hA
  obtain ⟨hargs, rfl, rfl⟩ := trodAll_nil hA
  obtain rfl : args = #[] := by cases args; simp_all
  obtain ⟨rfl, rfl⟩ := trodVars_none hV
  clear hA0 hval0
  refine (walk W).mono fun e W' ⟨he, hB⟩ => ?_
  subst he
  exact ⟨_, rfl, _, _, _, [], _, [], hW', trodAll_mk1 (shut_bool Try.underlying4 true), trodAll_mk0, rfl, hB.frame _, fun h => by cases h⟩
theorem proved : Rows.VecNamesSaid :=
  OpenClaim.holds_of_wide 3 Try.f3 rfl rfl rfl rfl rfl rfl rfl ⟨rfl, rfl, rfl, rfl, rfl⟩ rfl rfl rfl rfl rfl (by kernel_rfl) Try.func3 (by kernel_rfl)
    (of_decide_eq_true (by kernel_rfl)) (by unfold Func.isWrapper; first | (rw [if_pos (by decide +kernel)]; kernel_rfl) | (rw [if_neg (by decide +kernel)]; exact ⟨rfl, rfl⟩))
    (fun os started H enc _ => lifted os started H enc)
end Go.Proofs.Ytelpoocgmflofaa.VNames
namespace Go.Proofs.Ytelpoocgmflofaa
theorem vecNames_holds : Rows.VecNamesSaid := VNames.proved
#print axioms vecNames_holds
end Go.Proofs.Ytelpoocgmflofaa
