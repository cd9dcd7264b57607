/- PaceGrows is true: the statement Rows.PaceGrowsSaid, without a condition. -/
import Derived.Test.YtdbpdhdcebidgaaPacW
import Derived.Test.YtdbpdhdcebidgaaRows
namespace Go.Proofs.Ytdbpdhdcebidgaa.PGrows
open Go.ChangeShapes Go.WideShapes Go.ChangeAt Go.RowKit PacM
set_option maxHeartbeats 3200000 in
set_option maxRecDepth 100000 in
theorem walk (sd u r cn : Int) (w : World) : Calls Try.prog 6 #[.agg #[.int .u64 sd, .int .i64 u, .int .i64 r], .int .i64 cn] w fun e w' => e = .returned (.bool true) ∧ Below w.heap.size w w' := by
  obtain ⟨W0, hW0⟩ : ∃ W0, W0 = w.alloc (.cells #[.int .u64 sd, .int .i64 u, .int .i64 r] 32) := ⟨_, rfl⟩
  have hs0 : W0.heap.size = w.heap.size + 1 := by rw [hW0]; simp
  have hB0 : Below w.heap.size w W0 := by rw [hW0]; exact (Below.refl _ _).alloc (Nat.le_refl _) _
  have hbox : W0.heap[w.heap.size]? = some (.cells #[.int .u64 sd, .int .i64 u, .int .i64 r] 32 (0, 0)) := by rw [hW0]; exact blk_new w _
  by_cases hc : cn < 0 ∨ 2000 < cn
  · have HA := Lib.hid (alive_any W0)
    have HB0 := Lib.hid hB0
    rcases hc with hc | hc
    · have t1 : decide (cn < 0) = true := decide_eq_true hc
      go_enter Try.func6, Try.ntmps6
      go_wp2_with fail
      rw [← hW0]
      clear hbox hB0 hW0
      refine HA.out.mono ?_
      rintro e w1 ⟨rfl, hB⟩
      have HB : Hid (Below w.heap.size w w1) := HB0.out.trans (hB.mono (by omega))
      clear hB
      go_wp2_with fail
      go_ret
      exact ⟨rfl, HB.out⟩
    · have t1 : decide (cn < 0) = false := decide_eq_false (by omega)
      have t2 : decide (2000 < cn) = true := decide_eq_true hc
      go_enter Try.func6, Try.ntmps6
      go_wp2_with fail
      rw [← hW0]
      clear hbox hB0 hW0
      refine HA.out.mono ?_
      rintro e w1 ⟨rfl, hB⟩
      have HB : Hid (Below w.heap.size w w1) := HB0.out.trans (hB.mono (by omega))
      clear hB
      go_wp2_with fail
      go_ret
      exact ⟨rfl, HB.out⟩
  obtain ⟨M, rfl⟩ := Int.eq_ofNat_of_zero_le (show 0 ≤ cn by omega)
  have hM : M ≤ 2000 := by omega
  have t1 : decide ((M : Int) < 0) = false := decide_eq_false (by omega)
  have t2 : decide (2000 < (M : Int)) = false := decide_eq_false (by omega)
  clear hc
  have HA := Lib.hid (alive_any W0)
  go_enter Try.func6, Try.ntmps6
  go_wp2_with fail
  rw [← hW0]
  refine HA.out.mono ?_
  rintro e w1 ⟨rfl, hB⟩
  have hs1 := hB.size
  have HB1 : Hid (Below w.heap.size w w1) := hB0.trans (hB.mono (by omega))
  have hb1 : w1.heap[w.heap.size]? = some (.cells #[.int .u64 sd, .int .i64 u, .int .i64 r] 32 (0, 0)) := by rw [hB.block _ (by omega)]; exact hbox
  have hlt1 : w.heap.size < w1.heap.size := by omega
  have k0 : w1.cell? ⟨w.heap.size, 0, none⟩ = some (.int .u64 sd) := by rw [Lib.cell_of_heap hb1]; rfl
  have k1 : w1.cell? ⟨w.heap.size, 1, none⟩ = some (.int .i64 u) := by rw [Lib.cell_of_heap hb1]; rfl
  have k2 : w1.cell? ⟨w.heap.size, 2, none⟩ = some (.int .i64 r) := by rw [Lib.cell_of_heap hb1]; rfl
  have HBX := Lib.hid hb1
  have HN := Lib.hid (new_any w1 sd u r)
  obtain ⟨hzu, hzr⟩ := (⟨winZ_bd u, winZ_bd r⟩ : _ ∧ _)
  have HWU : Hid (∀ V : World, Calls Try.prog 15 #[.int .i64 u] V fun e w' => e = .returned (.int .i64 (winZ u)) ∧ w' = V) := fun V => (rwithin_any u V).mono fun e w' ⟨h1, h2⟩ => ⟨h1, h2.symm⟩
  have HWR : Hid (∀ V : World, Calls Try.prog 15 #[.int .i64 r] V fun e w' => e = .returned (.int .i64 (winZ r)) ∧ w' = V) := fun V => (rwithin_any r V).mono fun e w' ⟨h1, h2⟩ => ⟨h1, h2.symm⟩
  generalize winZ u = zu at *
  generalize winZ r = zr at *
  obtain ⟨hzu1, hzu2⟩ := hzu
  obtain ⟨hzr1, hzr2⟩ := hzr
  clear hB hB0 hbox hW0 hs0 hs1 hb1 HA
  go_wp2_with fail
  refine HN.out.mono ?_
  rintro e w2 ⟨b, rfl, hp, hb, hB2⟩
  have HB2 : Hid (Below w.heap.size w w2) := HB1.out.trans (hB2.mono HB1.out.size)
  have HBX2 : Hid (w2.heap[w.heap.size]? = some (.cells #[.int .u64 sd, .int .i64 u, .int .i64 r] 32 (0, 0))) := by unfold Hid; rw [hB2.block _ hlt1]; exact HBX.out
  have HP2 := Lib.hid hp
  have hne : w.heap.size ≠ b := by omega
  have hbw : w.heap.size ≤ b := by omega
  clear hp hB2 HN HB1 HBX k0 k1 k2 hlt1
  have k1 : w2.cell? ⟨w.heap.size, 1, none⟩ = some (.int .i64 u) := by rw [Lib.cell_of_heap HBX2.out]; rfl
  go_wp2_with fail
  refine (HWU.out _).mono ?_
  rintro e w' ⟨rfl, rfl⟩
  clear k1 HBX2 HWU HWR
  go_wp2_with fail
  go_loopw [7, 8, 9] (fun sv bv kv wr => ∃ s n k B : Nat, sv = .int .i64 (s : Int) ∧ bv = .int .i64 (B : Int) ∧ kv = .int .i64 (k : Int) ∧ k ≤ M ∧ n ≤ k ∧ s + B = k ∧ Hid ((B : Int) = zu * (sumL n : Int)) ∧ Hid ((s : Int) + 1 ≤ zu * (lub (n + 1) : Int)) ∧ Hid (PaceAt wr b sd zu zr k s n) ∧ Hid (Below w.heap.size w wr)) (fun _ _ kv _ => M - (intOf kv).toNat)
  case atStart => exact ⟨0, 0, 0, 0, rfl, rfl, rfl, by omega, by omega, rfl, by unfold Hid; simp [sumL], by unfold Hid; rw [show lub (0 + 1) = 1 by decide +kernel]; omega, HP2, HB2⟩
  case round =>
    clear HP2 HB2
    obtain ⟨s, n, k, B, rfl, rfl, rfl, hk, hn, hsb, hBz, hsz, hP, hB⟩ := hrel
    have hlb := lub_bd (i := n + 1) (by omega) (by omega)
    have hsm := sum_bd n (by omega)
    have hprod : zu * (lub (n + 1) : Int) ≤ zu * (sumL n : Int) + zu := by
      have : zu * (lub (n + 1) : Int) ≤ zu * ((sumL n : Int) + 1) := Int.mul_le_mul_of_nonneg_left (by omega) (by omega)
      rw [Int.mul_add, Int.mul_one] at this
      exact this
    have hle : (s : Int) + 1 ≤ (B : Int) + zu := by
      have := hBz.out
      have := hsz.out
      omega
    by_cases hlt : k < M
    · have q1 : decide (k < M) = true := decide_eq_true hlt
      have q2 : decide ((k : Int) < (M : Int)) = true := decide_eq_true (by omega)
      have HC := Lib.hid (conflict_any hP.out ⟨hzu1, hzu2⟩ (by omega) (by omega) (by omega))
      rw [due_eq zu n s (by omega)] at HC
      by_cases hdu : zu * (lub (n + 1) : Int) ≤ (s : Int) + 1
      · rw [decide_eq_true hdu] at HC
        have heq : (s : Int) + 1 = zu * (lub (n + 1) : Int) := by have := hsz.out; omega
        have HM : Hid (((s : Int) + 1).tmod zu = 0) := by unfold Hid; rw [heq]; exact Int.mul_tmod_right _ _
        have HBn : Hid (((B + (s + 1) : Nat) : Int) = zu * (sumL (n + 1) : Int)) := by
          have e : ((sumL (n + 1) : Nat) : Int) = (sumL n : Int) + (lub (n + 1) : Int) := by rw [show sumL (n + 1) = sumL n + lub (n + 1) from rfl]; omega
          unfold Hid
          rw [e, Int.mul_add, ← heq, ← hBz.out]; omega
        have hl2 := lub_bd (i := n + 1 + 1) (by omega) (by omega)
        have HSn : Hid (((0 : Nat) : Int) + 1 ≤ zu * (lub (n + 1 + 1) : Int)) := by
          have : 1 * 1 ≤ zu * (lub (n + 1 + 1) : Int) := Int.mul_le_mul hzu1 (by omega) (by omega) (by omega)
          unfold Hid; omega
        clear hlb hsm hprod hl2 hBz hsz heq hdu
        go_wp2_with fail
        refine HC.out.mono ?_
        rintro e w3 ⟨rfl, hp3, hk3⟩
        have HP3 : Hid (PaceAt w3 b sd zu zr ((k + 1 : Nat) : Int) ((0 : Nat) : Int) ((n + 1 : Nat) : Int)) := hp3
        have HB3 : Hid (Below w.heap.size w w3) := hB.out.trans (hk3.below hB.out.size (fun i hi => by rw [hi]; exact hbw))
        have q3 : (((s : Int) + 1).tmod zu != 0) = false := by rw [HM.out]; rfl
        have q4 : decide ((B : Int) + zu < (s : Int) + 1) = false := decide_eq_false (by omega)
        have q5 := HM.out
        have hz0 : zu ≠ 0 := by omega
        clear hp3 hk3 HC hP hB HM
        go_wp2_with fail
        go_roundw
        case rel => exact ⟨0, n + 1, k + 1, B + (s + 1), rfl, by go_num, by go_num, by omega, by omega, by omega, HBn, HSn, HP3, HB3⟩
        case measure => simp [intOf]; omega
      · rw [decide_eq_false hdu] at HC
        have HSn : Hid (((s + 1 : Nat) : Int) + 1 ≤ zu * (lub (n + 1) : Int)) := by unfold Hid; omega
        clear hlb hsm hprod hsz hdu
        go_wp2_with fail
        refine HC.out.mono ?_
        rintro e w3 ⟨rfl, hp3, hk3⟩
        have HP3 : Hid (PaceAt w3 b sd zu zr ((k + 1 : Nat) : Int) ((s + 1 : Nat) : Int) (n : Int)) := hp3
        have HB3 : Hid (Below w.heap.size w w3) := hB.out.trans (hk3.below hB.out.size (fun i hi => by rw [hi]; exact hbw))
        clear hp3 hk3 HC hP hB
        go_wp2_with fail
        go_roundw
        case rel => exact ⟨s + 1, n, k + 1, B, by go_num, rfl, by go_num, by omega, by omega, by omega, hBz, HSn, HP3, HB3⟩
        case measure => simp [intOf]; omega
    have q1 : decide (k < M) = false := decide_eq_false hlt
    have q2 : decide ((k : Int) < (M : Int)) = false := decide_eq_false (by omega)
    obtain rfl : k = M := by omega
    have HCF := Lib.hid (conflicts_any hP.out)
    have hle2 : (s : Int) ≤ (B : Int) + zu := by omega
    clear hlb hsm hprod hBz hsz hle
    go_wp2_with fail
    refine HCF.out.mono ?_
    rintro e w' ⟨rfl, rfl⟩
    go_wp2_with fail
    go_ret
    exact ⟨rfl, hB.out⟩
set_option maxHeartbeats 800000 in
set_option maxRecDepth 100000 in
theorem lifted (os : Os) (started : os.Started) (H : Type) (enc : TypeId × Value → H) :
    ReturnsInHanded {} Try.checked os 6 .any (Rows.paceGrowsSpec.pre6 enc Try.prog Try.f6 Rows.paceGrowsRow.domain false) (Rows.paceGrowsSpec.post enc Try.prog Try.f6 false true false false) := by
  refine returnsInHanded_of_change (C := Try.checked) own_knob started (by kernel_rfl) Try.func6
    (ChangeSpec.witness6 (enc := enc) (C := Try.checked) false ⟨#[], #[.agg #[.int .u64 0, .int .i64 0, .int .i64 0], .int .i64 0], []⟩ 8 (by kernel_rfl) (by kernel_rfl) (by kernel_rfl) (by kernel_rfl)) ?_
  intro W base args ds gs before hval0 hW _ _
  have hval : ∀ (j : Nat) t v, Try.f6.params[j]? = some t → args[j]? = some v → Value.okWide Try.prog W .any base t v := hval0
  have hW' := hW
  obtain ⟨p, q, hA0, hV, rfl, _, _⟩ := hW
  have hA : DataW.TrodAll enc Try.prog W 0 (fun _ => true) true Try.f6.params.toList args.toList ds p := hA0
  rw [Try.params6] at hA hval
  obtain ⟨v0, v1, d0, d1, p0, p1, rfl, rfl, rfl, h0, h1⟩ := trodAll_two hA
  obtain ⟨rfl, rfl⟩ := trodVars_none hV
  obtain ⟨sd0, u0, r0, rfl⟩ := open_opts (hval 0 32 v0 rfl rfl) h0
  obtain ⟨a1, rfl, rfl, rfl, w1⟩ := open_int Try.underlying3 (hval 1 3 v1 rfl rfl) h1
  clear hA0 hval0
  simp only [List.append_nil] at hW'
  have hlt0 : ∀ y ∈ p0, y.block < W.heap.size := fun y hy => by simpa using hW'.lt y (by simp [hy])
  refine (walk sd0 u0 r0 a1 W).mono fun e W' ⟨he, hB⟩ => ?_
  subst he
  exact ⟨_, rfl, _, _, _, [], _, [], hW', trodAll_mk1 (shut_bool Try.underlying4 true), trodAll_mk2 (Below.trod laid_out (by kernel_rfl) (of_decide_eq_true (by kernel_rfl)) h0 hB hlt0) (shut_int Try.underlying3 w1), rfl, hB.frame _, fun h => by cases h⟩

theorem proved : Rows.PaceGrowsSaid :=
  OpenClaim.holds_of_wide 6 Try.f6 rfl rfl rfl rfl rfl rfl rfl ⟨rfl, rfl, rfl, rfl, rfl⟩ rfl rfl rfl rfl rfl (by kernel_rfl) Try.func6 (by kernel_rfl)
    (of_decide_eq_true (by kernel_rfl)) (by unfold Func.isWrapper; first | (rw [if_pos (by decide +kernel)]; kernel_rfl) | (rw [if_neg (by decide +kernel)]; exact ⟨rfl, rfl⟩))
    (fun os started H enc _ => lifted os started H enc)
end Go.Proofs.Ytdbpdhdcebidgaa.PGrows
namespace Go.Proofs.Ytdbpdhdcebidgaa
theorem paceGrows_holds : Rows.PaceGrowsSaid := PGrows.proved
#print axioms paceGrows_holds
end Go.Proofs.Ytdbpdhdcebidgaa
