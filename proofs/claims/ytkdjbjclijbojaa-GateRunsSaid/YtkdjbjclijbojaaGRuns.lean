/- GateRuns is true: the statement Rows.GateRunsSaid, without a condition. -/
import Derived.Test.YtkdjbjclijbojaaGrun
import Derived.Test.YtkdjbjclijbojaaGliv
namespace Go.Proofs.Ytkdjbjclijbojaa.GRuns
open Go.ChangeShapes Go.WideShapes Go.ChangeAt Go.RowKit GatM LitM

theorem own_knob : ownKnob Try.prog.godebug = none := by kernel_rfl
theorem laid_out : laidOutB Try.prog = true := by kernel_rfl
set_option maxHeartbeats 6400000 in
set_option maxRecDepth 100000 in
theorem walk (nn : Int) (A : Option Addr) (n c : Nat) (K : Nat → Int) (P : Nat → List Int)  (w : World) (hx : RdQ w w.heap.size A n K P) :
    Calls Try.prog 4 #[.int .i64 nn, .slice A n c] w fun e w' => e = .returned (.bool true) ∧ Below w.heap.size w w' := by
  have HX := Lib.hid hx
  clear hx
  go_enter Try.func4, Try.ntmps4
  go_wp2_with fail
  refine (galive_any w).mono ?_
  rintro e w1 ⟨rfl, hb1⟩
  by_cases hv0 : nn < 0
  · have t1 : decide (nn < 0) = true := decide_eq_true hv0
    go_wp2_with fail
    go_ret
    exact ⟨rfl, hb1⟩
  have t1 : decide (nn < 0) = false := decide_eq_false hv0
  by_cases hv1 : 6 < nn
  · have t2 : decide (6 < nn) = true := decide_eq_true hv1
    go_wp2_with fail
    go_ret
    exact ⟨rfl, hb1⟩
  have t2 : decide (6 < nn) = false := decide_eq_false hv1
  by_cases hv2 : 40 < n
  · have t3 : decide (40 < n) = true := decide_eq_true hv2
    have t4 : decide (40 < (n : Int)) = true := decide_eq_true (by omega)
    go_wp2_with fail
    go_ret
    exact ⟨rfl, hb1⟩
  have t3 : decide (40 < n) = false := decide_eq_false hv2
  have t4 : decide (40 < (n : Int)) = false := decide_eq_false (by omega)
  obtain ⟨N, rfl⟩ : ∃ N : Nat, nn = (N : Int) := ⟨nn.toNat, by omega⟩
  have hN : N ≤ 6 := by omega
  have HBW : Hid (∀ W, Below w1.heap.size w1 W → Below w.heap.size w W) := fun W hW => hb1.trans (hW.mono hb1.size)
  have HXW : Hid (∀ W, Below w1.heap.size w1 W → RdQ W W.heap.size A n K P) := fun W hW => HX.out.belo (HBW.out W hW)
  have HS := Lib.hid (gstart_any N hN w1)
  clear hb1 HX
  go_wp2_with fail
  refine HS.out.mono ?_
  rintro e w2 ⟨bk, rfl, hst⟩
  have HM0 : Hid (MAt w1 bk (runS N K P 0) w2) := hst
  clear hst HS t1 t2 t3 t4 hv0 hv1
  go_wp2_with fail
  go_loopw [27] (fun iv wr => ∃ j : Nat, iv = .int .i64 (j : Int) ∧ j ≤ n ∧ Hid (∀ i, i < j → (P i).length ≤ 10) ∧ Hid (MAt w1 bk (runS N K P j) wr)) (fun iv _ => n - (intOf iv).toNat)
  case atStart => exact ⟨0, rfl, by omega, Lib.hid fun i hi => absurd hi (by omega), HM0⟩
  case round =>
    clear HM0
    obtain ⟨j, rfl, hj, HP, HM⟩ := hrel
    have HL : Hid (Below w1.heap.size w1 wr) := by
      obtain ⟨k, c, _, h⟩ := HM.out
      exact h.lv.be
    by_cases hlt : j < n
    case neg =>
      obtain rfl : j = n := by omega
      have tj : decide (j < j) = false := decide_eq_false (by omega)
      have tj2 : decide ((j : Int) < (j : Int)) = false := decide_eq_false (by omega)
      have HO := Lib.hid (okRun N hN K P j HP.out)
      have HI : Hid ((insL (runS N K P j).1).length = N) := Lib.hid (by rw [runIns N K P j, startIns])
      clear HXW
      generalize runS N K P j = s at *
      obtain ⟨k, c, hk, hm⟩ := HM.out
      subst hk
      have HMk := Lib.hid hm
      clear hm HM HP
      have hgl : s.1.length ≤ 1000 := by have := HO.out.gts; omega
      have hel := HO.out.len
      have HRI := Lib.hid (gright_any HMk.out HO.out.agr (by omega) (by omega) (by omega))
      go_wp2_with fail
      refine HRI.out.mono ?_
      rintro e w4 ⟨rfl, hb4⟩
      have hm4 := HMk.out.below hb4
      have HIN := Lib.hid (ginputs_any hm4.lv.at_ (by rw [HI.out]; omega))
      obtain ⟨y0, _⟩ := hm4.mk'.cells
      have HB4 : Hid (Below w1.heap.size w1 w4) := hm4.lv.be
      clear hb4 HRI HMk hm4
      go_wp2_with fail
      refine HIN.out.mono ?_
      rintro e w5 ⟨Ai, ci, rfl, _, _, hb5⟩
      have HB5 : Hid (Below w1.heap.size w1 w5) := HB4.out.trans (hb5.mono HB4.out.size)
      have te : (((insL s.1).length : Int) == (N : Int)) = true := by rw [HI.out]; simp
      have te2 : ((insL s.1).length == N) = true := by rw [HI.out]; simp
      clear hb5 HIN y0
      go_wp2_with fail
      go_ret
      exact ⟨rfl, HBW.out _ HB5.out⟩
    have tj : decide (j < n) = true := decide_eq_true hlt
    have tj2 : decide ((j : Int) < (n : Int)) = true := decide_eq_true (by omega)
    obtain ⟨bx, o, Aj, cj, hA, hbx, x0, x1, hrd, hlm⟩ := (HXW.out _ HL.out).at_ j hlt
    rw [hA]
    have HRD := Lib.hid hrd
    by_cases h10 : 10 < (P j).length
    · have tk : decide (10 < (P j).length) = true := decide_eq_true h10
      have tk2 : decide (10 < (((P j).length : Nat) : Int)) = true := decide_eq_true (by omega)
      have HBX := HBW.out _ HL.out
      have HBA : Hid (Below w.heap.size w (wr.alloc (.cells #[.int .i64 (K j), .slice Aj (P j).length cj] 44))) := HBX.trans ((Below.refl _ _).alloc HBX.size _)
      clear hrd HRD HM HP HL
      generalize (P j).length = m at *
      generalize K j = kk at *
      go_upto_region 11 with (fail)
      obtain ⟨ba, hba⟩ : ∃ ba, ba = wr.heap.size := ⟨_, rfl⟩
      obtain ⟨wa, hwa⟩ : ∃ wa, wa = wr.alloc (.cells #[.int .i64 kk, .slice Aj m cj] 44) := ⟨_, rfl⟩
      have HA1 : Hid (wa.cell? ⟨ba, 1, none⟩ = some (.slice Aj m cj)) := by rw [hwa, hba, Lib.cell_of_heap (blk_new wr _)]; rfl
      rw [← hwa, ← hba]
      rw [← hwa] at HBA
      have a1 := HA1.out
      clear hwa hba x0 x1 HA1
      go_wp2_with fail
      go_ret
      exact ⟨rfl, HBA.out⟩
    have tk : decide (10 < (P j).length) = false := decide_eq_false h10
    have tk2 : decide (10 < (((P j).length : Nat) : Int)) = false := decide_eq_false (by omega)
    have HO := Lib.hid (okRun N hN K P j HP.out)
    have HRN : Hid (runS N K P (j + 1) = stepS (runS N K P j) (K j) (P j)) := rfl
    have HMA : Hid (MAt w1 bk (runS N K P j) (wr.alloc (.cells #[.int .i64 (K j), .slice Aj (P j).length cj] 44))) := HM.out.below ((Below.refl _ _).alloc (Nat.le_refl _) _)
    have HCA : Hid (∀ wa, wa = wr.alloc (.cells #[.int .i64 (K j), .slice Aj (P j).length cj] 44) → Calls Try.prog 19 #[.pointer (some ⟨bk, 0, none⟩), .agg #[.int .i64 (K j), .slice Aj (P j).length cj]] wa fun e w' => e = .returned (.bool true) ∧ Hid (MAt w1 bk (runS N K P (j + 1)) w')) := fun wa hwa => by
      have hM := HMA.out
      rw [← hwa] at hM
      have hb : Below wr.heap.size wr wa := by rw [hwa]; exact (Below.refl _ _).alloc (Nat.le_refl _) _
      exact (hM.do_ HO.out (by omega) (by omega) (by omega) (K j) Aj (P j).length cj (P j) ((HRD.out.below hb).more hb.size) (by omega)).mono fun e w' ⟨a, b⟩ => ⟨a, b⟩
    have HP2 : Hid (∀ i, i < j + 1 → (P i).length ≤ 10) := fun i hi => by
      by_cases h : i < j
      · exact HP.out i h
      · obtain rfl : i = j := by omega
        omega
    clear hrd HRD HM HP HL HMA HO HRN
    obtain ⟨m, hm⟩ : ∃ m, m = (P j).length := ⟨_, rfl⟩
    obtain ⟨kk, hkk⟩ : ∃ kk, kk = K j := ⟨_, rfl⟩
    rw [← hm] at x1 tk tk2 HCA
    rw [← hkk] at x0 HCA
    have hm10 : m ≤ 10 := by omega
    clear hm hkk hlm h10
    go_upto_region 11 with (fail)
    obtain ⟨ba, hba⟩ : ∃ ba, ba = wr.heap.size := ⟨_, rfl⟩
    obtain ⟨wa, hwa⟩ : ∃ wa, wa = wr.alloc (.cells #[.int .i64 kk, .slice Aj m cj] 44) := ⟨_, rfl⟩
    have HA1 : Hid (wa.cell? ⟨ba, 0, none⟩ = some (.int .i64 kk) ∧ wa.cell? ⟨ba, 1, none⟩ = some (.slice Aj m cj)) := by
      refine ⟨?_, ?_⟩
      all_goals (rw [hwa, hba, Lib.cell_of_heap (blk_new wr _)]; rfl)
    have HCW := Lib.hid (HCA.out wa hwa)
    rw [← hwa, ← hba]
    obtain ⟨a0, a1⟩ := HA1.out
    clear hwa hba x0 x1 HA1 HCA
    go_wp2_with fail
    refine HCW.out.mono ?_
    rintro e w3 ⟨rfl, HM3⟩
    clear HCW
    go_wp2_with fail
    go_roundw
    case rel => exact ⟨j + 1, by go_num, by omega, HP2, HM3⟩
    case measure => simp [intOf]; omega

set_option maxHeartbeats 800000 in
set_option maxRecDepth 100000 in
theorem lifted (os : Os) (started : os.Started) (H : Type) (enc : TypeId × Value → H) :
    ReturnsInHanded {} Try.checked os 4 .any (Rows.gateRunsSpec.pre6 enc Try.prog Try.f4 Rows.gateRunsRow.domain false) (Rows.gateRunsSpec.post enc Try.prog Try.f4 false true false false) := by
  refine returnsInHanded_of_change (C := Try.checked) own_knob started (by kernel_rfl) Try.func4
    (ChangeSpec.witness6 (enc := enc) (C := Try.checked) false ⟨#[], #[.int .i64 0, .slice none 0 0], []⟩ 8 (by kernel_rfl) (by kernel_rfl) (by kernel_rfl) (by kernel_rfl)) ?_
  intro W base args ds gs before hval0 hW _ _
  have hval : ∀ (j : Nat) t v, Try.f4.params[j]? = some t → args[j]? = some v → Value.okWide Try.prog W .any base t v := hval0
  have hW' := hW
  obtain ⟨p, q, hA0, hV, rfl, _, _⟩ := hW
  have hA : DataW.TrodAll enc Try.prog W 0 (fun _ => true) true Try.f4.params.toList args.toList ds p := hA0
  rw [Try.params4] at hA hval
  obtain ⟨v0, v1, d0, d1, p0, p1, rfl, rfl, rfl, h0, h1⟩ := trodAll_two hA
  obtain ⟨rfl, rfl⟩ := trodVars_none hV
  obtain ⟨a0, rfl, rfl, rfl, w0⟩ := open_int Try.underlying3 (hval 0 3 v0 rfl rfl) h0
  obtain ⟨A1, n1, c1, K1, P1, rfl, hR1, _⟩ := open_acts (hval 1 40 v1 rfl rfl) h1
  clear hA0 hval0
  simp only [List.append_nil, List.nil_append] at hW'
  have hlt1 : ∀ y ∈ p1, y.block < W.heap.size := fun y hy => by simpa using hW'.lt y (by simp [hy])
  refine (walk a0 A1 n1 c1 K1 P1 W hR1).mono fun e W' ⟨he, hB⟩ => ?_
  subst he
  exact ⟨_, rfl, _, _, _, [], _, [], hW', trodAll_mk1 (shut_bool Try.underlying4 true), trodAll_mk2 (shut_int Try.underlying3 w0) (Below.trod laid_out (by kernel_rfl) (of_decide_eq_true (by kernel_rfl)) h1 hB hlt1), rfl, hB.frame _, fun h => by cases h⟩

theorem proved : Rows.GateRunsSaid :=
  OpenClaim.holds_of_wide 4 Try.f4 rfl rfl rfl rfl rfl rfl rfl ⟨rfl, rfl, rfl, rfl, rfl⟩ rfl rfl rfl rfl rfl (by kernel_rfl) Try.func4 (by kernel_rfl)
    (of_decide_eq_true (by kernel_rfl)) (by unfold Func.isWrapper; first | (rw [if_pos (by decide +kernel)]; kernel_rfl) | (rw [if_neg (by decide +kernel)]; exact ⟨rfl, rfl⟩))
    (fun os started H enc _ => lifted os started H enc)
end Go.Proofs.Ytkdjbjclijbojaa.GRuns
namespace Go.Proofs.Ytkdjbjclijbojaa
theorem gateRuns_holds : Rows.GateRunsSaid := GRuns.proved
#print axioms gateRuns_holds
end Go.Proofs.Ytkdjbjclijbojaa
