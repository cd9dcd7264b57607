/- PaceRuns is true: the statement Rows.PaceRunsSaid, without a condition. -/
import Derived.Test.YtdbpdhdcebidgaaPacW
import Derived.Test.YtdbpdhdcebidgaaRows
namespace Go.Proofs.Ytdbpdhdcebidgaa.PRuns
open Go.ChangeShapes Go.WideShapes Go.ChangeAt Go.RowKit PacM
set_option maxHeartbeats 3200000 in
set_option maxRecDepth 100000 in
theorem walk (sd u r cn l : Int) (hl : -9223372036854775808 ≤ l ∧ l ≤ 9223372036854775807) (w : World) : Calls Try.prog 5 #[.agg #[.int .u64 sd, .int .i64 u, .int .i64 r], .int .i64 cn, .int .i64 l] w fun e w' => e = .returned (.bool true) ∧ Below w.heap.size w w' := by
  obtain ⟨W0, hW0⟩ : ∃ W0, W0 = w.alloc (.cells #[.int .u64 sd, .int .i64 u, .int .i64 r] 32) := ⟨_, rfl⟩
  have hs0 : W0.heap.size = w.heap.size + 1 := by rw [hW0]; simp
  have hB0 : Below w.heap.size w W0 := by rw [hW0]; exact (Below.refl _ _).alloc (Nat.le_refl _) _
  have hbox : W0.heap[w.heap.size]? = some (.cells #[.int .u64 sd, .int .i64 u, .int .i64 r] 32 (0, 0)) := by rw [hW0]; exact blk_new w _
  by_cases hc : cn < 0 ∨ 800 < cn
  · have HA := Lib.hid (alive_any W0)
    have HB0 := Lib.hid hB0
    rcases hc with hc | hc
    · have t1 : decide (cn < 0) = true := decide_eq_true hc
      go_enter Try.func5, Try.ntmps5
      go_wp2_with fail
      rw [← hW0]
      clear hbox hB0 hW0
      refine HA.out.mono ?_
      rintro e w1 ⟨rfl, hB⟩
      have HB : Hid (Below w.heap.size w w1) := HB0.out.trans (hB.mono (by omega))
      clear hB
      go_wp2_with fail
      go_ret
      exact ⟨rfl, HB.out⟩
    · have t1 : decide (cn < 0) = false := decide_eq_false (by omega)
      have t2 : decide (800 < cn) = true := decide_eq_true hc
      go_enter Try.func5, Try.ntmps5
      go_wp2_with fail
      rw [← hW0]
      clear hbox hB0 hW0
      refine HA.out.mono ?_
      rintro e w1 ⟨rfl, hB⟩
      have HB : Hid (Below w.heap.size w w1) := HB0.out.trans (hB.mono (by omega))
      clear hB
      go_wp2_with fail
      go_ret
      exact ⟨rfl, HB.out⟩
  obtain ⟨M, rfl⟩ := Int.eq_ofNat_of_zero_le (show 0 ≤ cn by omega)
  have hM : M ≤ 800 := by omega
  have t1 : decide ((M : Int) < 0) = false := decide_eq_false (by omega)
  have t2 : decide (800 < (M : Int)) = false := decide_eq_false (by omega)
  clear hc
  have HA := Lib.hid (alive_any W0)
  go_enter Try.func5, Try.ntmps5
  go_wp2_with fail
  rw [← hW0]
  refine HA.out.mono ?_
  rintro e w1 ⟨rfl, hB⟩
  have hs1 := hB.size
  have HB1 : Hid (Below w.heap.size w w1) := hB0.trans (hB.mono (by omega))
  have hb1 : w1.heap[w.heap.size]? = some (.cells #[.int .u64 sd, .int .i64 u, .int .i64 r] 32 (0, 0)) := by rw [hB.block _ (by omega)]; exact hbox
  have hlt1 : w.heap.size < w1.heap.size := by omega
  have k0 : w1.cell? ⟨w.heap.size, 0, none⟩ = some (.int .u64 sd) := by rw [Lib.cell_of_heap hb1]; rfl
  have k1 : w1.cell? ⟨w.heap.size, 1, none⟩ = some (.int .i64 u) := by rw [Lib.cell_of_heap hb1]; rfl
  have k2 : w1.cell? ⟨w.heap.size, 2, none⟩ = some (.int .i64 r) := by rw [Lib.cell_of_heap hb1]; rfl
  have HBX := Lib.hid hb1
  have HN := Lib.hid (new_any w1 sd u r)
  obtain ⟨hzu, hzr⟩ := (⟨winZ_bd u, winZ_bd r⟩ : _ ∧ _)
  have HWU : Hid (∀ V : World, Calls Try.prog 15 #[.int .i64 u] V fun e w' => e = .returned (.int .i64 (winZ u)) ∧ w' = V) := fun V => (rwithin_any u V).mono fun e w' ⟨h1, h2⟩ => ⟨h1, h2.symm⟩
  have HWR : Hid (∀ V : World, Calls Try.prog 15 #[.int .i64 r] V fun e w' => e = .returned (.int .i64 (winZ r)) ∧ w' = V) := fun V => (rwithin_any r V).mono fun e w' ⟨h1, h2⟩ => ⟨h1, h2.symm⟩
  generalize winZ u = zu at *
  generalize winZ r = zr at *
  obtain ⟨hzu1, hzu2⟩ := hzu
  obtain ⟨hzr1, hzr2⟩ := hzr
  clear hB hB0 hbox hW0 hs0 hs1 hb1 HA
  go_wp2_with fail
  refine HN.out.mono ?_
  rintro e w2 ⟨b, rfl, hp, hb, hB2⟩
  have HB2 : Hid (Below w.heap.size w w2) := HB1.out.trans (hB2.mono HB1.out.size)
  have HBX2 : Hid (w2.heap[w.heap.size]? = some (.cells #[.int .u64 sd, .int .i64 u, .int .i64 r] 32 (0, 0))) := by unfold Hid; rw [hB2.block _ hlt1]; exact HBX.out
  have HP2 := Lib.hid hp
  have hne : w.heap.size ≠ b := by omega
  have hbw : w.heap.size ≤ b := by omega
  clear hp hB2 HN HB1 HBX k0 k1 k2 hlt1
  have HRO := Lib.hid (row_any 900 w2 (by omega))
  go_wp2_with fail
  refine HRO.out.mono ?_
  rintro e w3 ⟨g, m, c, rfl, hm1, hm2, hg, hR, hB3⟩
  have HB3 : Hid (Below w.heap.size w w3) := HB2.out.trans (hB3.mono HB2.out.size)
  have hbw2 := HP2.out.lt
  have HP3 : Hid (PaceAt w3 b sd zu zr 0 0 0) := HP2.out.same (hB3.block _ hbw2)
  have HBX3 : Hid (w3.heap[w.heap.size]? = some (.cells #[.int .u64 sd, .int .i64 u, .int .i64 r] 32 (0, 0))) := by unfold Hid; rw [hB3.block _ (by omega)]; exact HBX2.out
  have HR3 := Lib.hid hR
  have hgb : g ≠ b := by omega
  have hbd := hR.bd
  obtain ⟨hbd1, hbd2⟩ := hbd
  clear hR hB3 HRO HP2 HB2 HBX2 hg hbw2
  go_wp2_with fail
  go_loopw [9, 10, 11] (fun sv nv kv wr => ∃ s n k : Nat, sv = .int .i64 (s : Int) ∧ nv = .int .i64 (n : Int) ∧ kv = .int .i64 ((k + 1 : Nat) : Int) ∧ k ≤ M ∧ n ≤ k ∧ s ≤ k ∧ Hid ((s : Int) + 1 ≤ zu * (lub (n + 1) : Int)) ∧ Hid (PaceAt wr b sd zu zr k s n) ∧ Hid (wr.heap[w.heap.size]? = some (.cells #[.int .u64 sd, .int .i64 u, .int .i64 r] 32 (0, 0))) ∧ Hid (RowV 3 1 wr g m c rowF) ∧ Hid (Below w.heap.size w wr)) (fun _ _ kv _ => M + 1 - (intOf kv).toNat)
  case atStart => exact ⟨0, 0, 0, rfl, rfl, rfl, by omega, by omega, by omega, by unfold Hid; rw [show lub (0 + 1) = 1 by decide +kernel]; omega, HP3, HBX3, HR3, HB3⟩
  case round =>
    clear HP3 HB3 HBX3 HR3
    obtain ⟨s, n, k, rfl, rfl, rfl, hk, hn, hs, hsz, hP, hX, hR, hB⟩ := hrel
    by_cases hlt : k < M
    case neg =>
      have q1 : decide (k + 1 ≤ M) = false := decide_eq_false (by omega)
      have q2 : decide (((k + 1 : Nat) : Int) ≤ (M : Int)) = false := decide_eq_false (by omega)
      go_wp2_with fail
      go_ret
      exact ⟨rfl, hB.out⟩
    have q1 : decide (k + 1 ≤ M) = true := decide_eq_true (by omega)
    have q2 : decide (((k + 1 : Nat) : Int) ≤ (M : Int)) = true := decide_eq_true (by omega)
    have hlb := lub_bd (i := n + 1) (by omega) (by omega)
    have hl2 := lub_bd (i := n + 1 + 1) (by omega) (by omega)
    have hcu : wr.cell? ⟨w.heap.size, 1, none⟩ = some (.int .i64 u) := by rw [Lib.cell_of_heap hX.out]; rfl
    have hcr : wr.cell? ⟨g, n, none⟩ = some (.int .i64 (lub (n + 1))) := hR.out.cell (show n < m * 1 by omega)
    have HSn : Hid (((0 : Nat) : Int) + 1 ≤ zu * (lub (n + 1 + 1) : Int)) := by
      have : 1 * 1 ≤ zu * (lub (n + 1 + 1) : Int) := Int.mul_le_mul hzu1 (by omega) (by omega) (by omega)
      unfold Hid; omega
    have HCO : Hid (∀ q, Calls Try.prog 16 #[.pointer (some ⟨b, 0, none⟩)] (wr.drewN q) fun e w' => e = .returned (.bool (decide (zu * (lub (n + 1) : Int) ≤ (s : Int) + 1))) ∧ PaceAt w' b sd zu zr (k + 1) (if decide (zu * (lub (n + 1) : Int) ≤ (s : Int) + 1) = true then 0 else (s : Int) + 1) (if decide (zu * (lub (n + 1) : Int) ≤ (s : Int) + 1) = true then (n : Int) + 1 else n) ∧ Kf (fun i => i = b) wr w') := fun q => by
      have h := conflict_any (w := wr.drewN q) (hP.out.same rfl) ⟨hzu1, hzu2⟩ (by omega) (by omega) (by omega)
      rw [due_eq zu n s (by omega)] at h
      exact h.mono fun e w' ⟨h1, h2, h3⟩ => ⟨h1, h2, ((Kf.refl _ wr).drewN q).trans h3 (fun _ h => .inl h)⟩
    have HSZ := hsz.out
    obtain ⟨hlb1, hlb2⟩ := hlb
    have hmul : 0 ≤ zu * (lub (n + 1) : Int) ∧ zu * (lub (n + 1) : Int) ≤ 1048576 * 1048576 := ⟨Int.mul_nonneg (by omega) (by omega), Int.mul_le_mul hzu2 (by omega) (by omega) (by omega)⟩
    have HSm : Hid (¬ zu * (lub (n + 1) : Int) ≤ (s : Int) + 1 → ((s + 1 : Nat) : Int) + 1 ≤ zu * (lub (n + 1) : Int)) := fun h => by omega
    obtain ⟨lz, hlz⟩ : ∃ lz, lz = lub (n + 1) := ⟨_, rfl⟩
    have hlz2 : Hid (lub (n + 1) = lz) := hlz.symm
    rw [← hlz] at hcr HCO hlb1 hlb2 hmul HSm HSZ
    have hw4 : wrap64 (zu * (lz : Int)) = zu * (lz : Int) := by
      generalize zu * (lz : Int) = z at *
      simp only [wrap64]; omega
    have hw5 : IntKind.i64.wrap (zu * (lz : Int)) = zu * (lz : Int) := by
      generalize zu * (lz : Int) = z at *
      rw [IntKind.wrap_i64]; omega
    have hn900 : n < m := by omega
    clear hl2 hlz hsz
    go_upto_region 12 with (fail)
    go_quiet (first | (go_at_call 15; exact Calls.quiet_of_same (HWU.out _)))
    have HCQ := Lib.hid (HCO.out nq)
    have hXq : (wr.drewN nq).heap[w.heap.size]? = some (.cells #[.int .u64 sd, .int .i64 u, .int .i64 r] 32 (0, 0)) := hX.out
    have HXQ := Lib.hid hXq
    have HRQ : Hid (RowV 3 1 (wr.drewN nq) g m c rowF) := hR.out.same rfl
    have HBQ : Hid (Below w.heap.size w (wr.drewN nq)) := below_drewN hB.out nq
    have HKQ : Hid (∀ w', Kf (fun i => i = b) wr w' → Kf (fun i => i = b) (wr.drewN nq) w') := fun w' h => ⟨h.os, h.tape, h.output, h.size, h.block⟩
    clear hXq HCO hX hR hB hP hcu hcr
    generalize wr.drewN nq = wq at *
    obtain ⟨z, hz⟩ : ∃ z, z = zu * (lz : Int) := ⟨_, rfl⟩
    have hlz3 : Hid (zu * (lub (n + 1) : Int) = z) := by unfold Hid; rw [hlz2.out, hz]
    rw [← hz] at HCQ HSm hw4 hw5 HSZ hmul ⊢
    clear hz hlz2
    by_cases hdu : z ≤ (s : Int) + 1
    · obtain rfl : z = (s : Int) + 1 := by omega
      rw [decide_eq_true hdu] at HCQ
      clear hdu HSm hw4 hw5 HSZ hmul
      go_wp2_with fail
      refine HCQ.out.mono ?_
      rintro e w3 ⟨rfl, hp3, hk3⟩
      have hk4 := HKQ.out _ hk3
      have HP4 : Hid (PaceAt w3 b sd zu zr ((k + 1 : Nat) : Int) ((0 : Nat) : Int) ((n + 1 : Nat) : Int)) := hp3
      have HB4 : Hid (Below w.heap.size w w3) := HBQ.out.trans (hk4.below HBQ.out.size (fun i hi => by rw [hi]; exact hbw))
      have HX4 : Hid (w3.heap[w.heap.size]? = some (.cells #[.int .u64 sd, .int .i64 u, .int .i64 r] 32 (0, 0))) := by unfold Hid; rw [hk4.block _ (lt_of_heap HXQ.out) hne]; exact HXQ.out
      have HR4 : Hid (RowV 3 1 w3 g m c rowF) := HRQ.out.same (hk4.block _ HRQ.out.lt hgb)
      have hcr2 : w3.cell? ⟨w.heap.size, 2, none⟩ = some (.int .i64 r) := by rw [Lib.cell_of_heap HX4.out]; rfl
      have HRE := Lib.hid (restarts_any HP4.out)
      have HCN := Lib.hid (conflicts_any HP4.out)
      have HFO := Lib.hid (forget_any HP4.out ⟨hzr1, hzr2⟩ (by omega) l hl)
      clear hp3 hk3 hk4 HCQ HBQ HXQ HRQ HKQ
      go_wp2_with fail
      refine HRE.out.mono ?_
      rintro e w' ⟨rfl, rfl⟩
      go_wp2_with fail
      refine HCN.out.mono ?_
      rintro e w' ⟨rfl, rfl⟩
      go_wp2_with fail
      refine (HWR.out _).mono ?_
      rintro e w' ⟨rfl, rfl⟩
      have HFZ : Hid (forgZ zr ((k + 1 : Nat) : Int) l = if zr + ((k + 1 : Nat) : Int) / 10 ≤ l then l / 2 else 0) := rfl
      generalize forgZ zr ((k + 1 : Nat) : Int) l = fz at *
      by_cases hfo : zr + ((k : Int) + 1) / 10 ≤ l
      · have HF2 : Hid (fz = l / 2) := by unfold Hid; rw [HFZ.out, if_pos (by omega)]
        have hl0 : 0 ≤ l := by omega
        have q4 : decide (zr + ((k : Int) + 1) / 10 ≤ l) = true := decide_eq_true hfo
        rw [HF2.out] at HFO
        clear HFZ HF2
        go_wp2_with fail
        refine HFO.out.mono ?_
        rintro e w4 ⟨rfl, q, rfl⟩
        go_wp2_with fail
        go_roundw
        case rel => exact ⟨0, n + 1, k + 1, by first | rfl | go_num, by first | rfl | go_num, by go_num, by omega, by omega, by omega, HSn, HP4.out.same rfl, HX4.out, HR4.out.same rfl, below_drewN HB4.out q⟩
        case measure => simp [intOf]; omega
      · have HF2 : Hid (fz = 0) := by unfold Hid; rw [HFZ.out, if_neg (by omega)]
        have q4 : decide (zr + ((k : Int) + 1) / 10 ≤ l) = false := decide_eq_false hfo
        rw [HF2.out] at HFO
        clear HFZ HF2
        go_wp2_with fail
        refine HFO.out.mono ?_
        rintro e w4 ⟨rfl, q, rfl⟩
        go_wp2_with fail
        go_roundw
        case rel => exact ⟨0, n + 1, k + 1, by first | rfl | go_num, by first | rfl | go_num, by go_num, by omega, by omega, by omega, HSn, HP4.out.same rfl, HX4.out, HR4.out.same rfl, below_drewN HB4.out q⟩
        case measure => simp [intOf]; omega
    · have q3 : ((s : Int) + 1 == z) = false := by rw [beq_eq_false_iff_ne]; omega
      have HSn2 := Lib.hid (HSm.out hdu)
      rw [decide_eq_false hdu] at HCQ
      clear HSm hw4 hw5 HSZ HSn
      go_wp2_with fail
      refine HCQ.out.mono ?_
      rintro e w3 ⟨rfl, hp3, hk3⟩
      have hk4 := HKQ.out _ hk3
      have HP4 : Hid (PaceAt w3 b sd zu zr ((k + 1 : Nat) : Int) ((s + 1 : Nat) : Int) (n : Int)) := hp3
      have HB4 : Hid (Below w.heap.size w w3) := HBQ.out.trans (hk4.below HBQ.out.size (fun i hi => by rw [hi]; exact hbw))
      have HX4 : Hid (w3.heap[w.heap.size]? = some (.cells #[.int .u64 sd, .int .i64 u, .int .i64 r] 32 (0, 0))) := by unfold Hid; rw [hk4.block _ (lt_of_heap HXQ.out) hne]; exact HXQ.out
      have HR4 : Hid (RowV 3 1 w3 g m c rowF) := HRQ.out.same (hk4.block _ HRQ.out.lt hgb)
      have hcr2 : w3.cell? ⟨w.heap.size, 2, none⟩ = some (.int .i64 r) := by rw [Lib.cell_of_heap HX4.out]; rfl
      have HRE := Lib.hid (restarts_any HP4.out)
      have HCN := Lib.hid (conflicts_any HP4.out)
      have HFO := Lib.hid (forget_any HP4.out ⟨hzr1, hzr2⟩ (by omega) l hl)
      clear hp3 hk3 hk4 HCQ HBQ HXQ HRQ HKQ
      go_wp2_with fail
      refine HRE.out.mono ?_
      rintro e w' ⟨rfl, rfl⟩
      go_wp2_with fail
      refine HCN.out.mono ?_
      rintro e w' ⟨rfl, rfl⟩
      go_wp2_with fail
      refine (HWR.out _).mono ?_
      rintro e w' ⟨rfl, rfl⟩
      have HFZ : Hid (forgZ zr ((k + 1 : Nat) : Int) l = if zr + ((k + 1 : Nat) : Int) / 10 ≤ l then l / 2 else 0) := rfl
      generalize forgZ zr ((k + 1 : Nat) : Int) l = fz at *
      by_cases hfo : zr + ((k : Int) + 1) / 10 ≤ l
      · have HF2 : Hid (fz = l / 2) := by unfold Hid; rw [HFZ.out, if_pos (by omega)]
        have hl0 : 0 ≤ l := by omega
        have q4 : decide (zr + ((k : Int) + 1) / 10 ≤ l) = true := decide_eq_true hfo
        rw [HF2.out] at HFO
        clear HFZ HF2
        go_wp2_with fail
        refine HFO.out.mono ?_
        rintro e w4 ⟨rfl, q, rfl⟩
        go_wp2_with fail
        go_roundw
        case rel => exact ⟨s + 1, n, k + 1, by first | rfl | go_num, by first | rfl | go_num, by go_num, by omega, by omega, by omega, by unfold Hid; rw [hlz3.out]; exact HSn2.out, HP4.out.same rfl, HX4.out, HR4.out.same rfl, below_drewN HB4.out q⟩
        case measure => simp [intOf]; omega
      · have HF2 : Hid (fz = 0) := by unfold Hid; rw [HFZ.out, if_neg (by omega)]
        have q4 : decide (zr + ((k : Int) + 1) / 10 ≤ l) = false := decide_eq_false hfo
        rw [HF2.out] at HFO
        clear HFZ HF2
        go_wp2_with fail
        refine HFO.out.mono ?_
        rintro e w4 ⟨rfl, q, rfl⟩
        go_wp2_with fail
        go_roundw
        case rel => exact ⟨s + 1, n, k + 1, by first | rfl | go_num, by first | rfl | go_num, by go_num, by omega, by omega, by omega, by unfold Hid; rw [hlz3.out]; exact HSn2.out, HP4.out.same rfl, HX4.out, HR4.out.same rfl, below_drewN HB4.out q⟩
        case measure => simp [intOf]; omega
set_option maxHeartbeats 800000 in
set_option maxRecDepth 100000 in
theorem lifted (os : Os) (started : os.Started) (H : Type) (enc : TypeId × Value → H) :
    ReturnsInHanded {} Try.checked os 5 .any (Rows.paceRunsSpec.pre6 enc Try.prog Try.f5 Rows.paceRunsRow.domain false) (Rows.paceRunsSpec.post enc Try.prog Try.f5 false true false false) := by
  refine returnsInHanded_of_change (C := Try.checked) own_knob started (by kernel_rfl) Try.func5
    (ChangeSpec.witness6 (enc := enc) (C := Try.checked) false ⟨#[], #[.agg #[.int .u64 0, .int .i64 0, .int .i64 0], .int .i64 0, .int .i64 0], []⟩ 8 (by kernel_rfl) (by kernel_rfl) (by kernel_rfl) (by kernel_rfl)) ?_
  intro W base args ds gs before hval0 hW _ _
  have hval : ∀ (j : Nat) t v, Try.f5.params[j]? = some t → args[j]? = some v → Value.okWide Try.prog W .any base t v := hval0
  have hW' := hW
  obtain ⟨p, q, hA0, hV, rfl, _, _⟩ := hW
  have hA : DataW.TrodAll enc Try.prog W 0 (fun _ => true) true Try.f5.params.toList args.toList ds p := hA0
  rw [Try.params5] at hA hval
  obtain ⟨v0, v1, v2, d0, d1, d2, p0, p1, p2, rfl, rfl, rfl, h0, h1, h2⟩ := trodAll_three hA
  obtain ⟨rfl, rfl⟩ := trodVars_none hV
  obtain ⟨sd0, u0, r0, rfl⟩ := open_opts (hval 0 32 v0 rfl rfl) h0
  obtain ⟨a1, rfl, rfl, rfl, w1⟩ := open_int Try.underlying3 (hval 1 3 v1 rfl rfl) h1
  obtain ⟨a2, rfl, rfl, rfl, w2⟩ := open_int Try.underlying3 (hval 2 3 v2 rfl rfl) h2
  clear hA0 hval0
  simp only [List.append_nil] at hW'
  have hlt0 : ∀ y ∈ p0, y.block < W.heap.size := fun y hy => by simpa using hW'.lt y (by simp [hy])
  refine (walk sd0 u0 r0 a1 a2 (i64_of w2) W).mono fun e W' ⟨he, hB⟩ => ?_
  subst he
  exact ⟨_, rfl, _, _, _, [], _, [], hW', trodAll_mk1 (shut_bool Try.underlying4 true), trodAll_mk3 (Below.trod laid_out (by kernel_rfl) (of_decide_eq_true (by kernel_rfl)) h0 hB hlt0) (shut_int Try.underlying3 w1) (shut_int Try.underlying3 w2), rfl, hB.frame _, fun h => by cases h⟩

theorem proved : Rows.PaceRunsSaid :=
  OpenClaim.holds_of_wide 5 Try.f5 rfl rfl rfl rfl rfl rfl rfl ⟨rfl, rfl, rfl, rfl, rfl⟩ rfl rfl rfl rfl rfl (by kernel_rfl) Try.func5 (by kernel_rfl)
    (of_decide_eq_true (by kernel_rfl)) (by unfold Func.isWrapper; first | (rw [if_pos (by decide +kernel)]; kernel_rfl) | (rw [if_neg (by decide +kernel)]; exact ⟨rfl, rfl⟩))
    (fun os started H enc _ => lifted os started H enc)
end Go.Proofs.Ytdbpdhdcebidgaa.PRuns
namespace Go.Proofs.Ytdbpdhdcebidgaa
theorem paceRuns_holds : Rows.PaceRunsSaid := PRuns.proved
#print axioms paceRuns_holds
end Go.Proofs.Ytdbpdhdcebidgaa
