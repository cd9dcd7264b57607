/- The library's partial insertion sort, at 32-bit numbers. -/
import Derived.Test.YtghclmbicdmboaaSrtP
namespace Go.Proofs.Ytghclmbicdmboaa
open Go.RowKit Go.Sort

section
variable {x : Array Int} {b i j : Nat}
theorem scan_so_step (h : i < b) (hl : ltInt x[i]! x[i - 1]! = false) : scanSorted ltInt x b i = scanSorted ltInt x b (i + 1) := by
  rw [scanSorted, if_pos (by rw [Bool.and_eq_true, hl]; exact ⟨decide_eq_true h, rfl⟩)]
theorem scan_so_halt (h : ¬ (i < b ∧ ltInt x[i]! x[i - 1]! = false)) : scanSorted ltInt x b i = i := by
  rw [scanSorted, if_neg]
  rw [Bool.and_eq_true, decide_eq_true_iff, Bool.not_eq_true']; exact h
theorem shd_step (h : 1 ≤ j) (hl : ltInt x[j]! x[j - 1]! = true) : shiftDown ltInt j x = shiftDown ltInt (j - 1) (swp x j (j - 1)) := by
  cases j with
  | zero => omega
  | succ k =>
    simp only [Nat.add_sub_cancel] at hl ⊢
    rw [shiftDown, hl]; rfl
theorem shd_halt (h : ¬ (1 ≤ j ∧ ltInt x[j]! x[j - 1]! = true)) : shiftDown ltInt j x = x := by
  cases j with
  | zero => rfl
  | succ k =>
    simp only [Nat.add_sub_cancel] at h
    rw [shiftDown, if_pos]
    rw [Bool.not_eq_true']
    cases hc : ltInt x[k + 1]! x[k]! with
    | false => rfl
    | true => exact absurd ⟨by omega, hc⟩ h
theorem shu_step (h : j < b) (hl : ltInt x[j]! x[j - 1]! = true) : shiftUp ltInt b j x = shiftUp ltInt b (j + 1) (swp x j (j - 1)) := by
  rw [shiftUp, if_pos h, hl]; rfl
theorem shu_halt (h : ¬ (j < b ∧ ltInt x[j]! x[j - 1]! = true)) : shiftUp ltInt b j x = x := by
  rw [shiftUp]
  split
  · rename_i hb
    rw [if_pos]
    rw [Bool.not_eq_true']
    cases hc : ltInt x[j]! x[j - 1]! with
    | false => rfl
    | true => exact absurd ⟨hb, hc⟩ h
  · rfl
end
theorem fixd_size (x : Array Int) (a i : Nat) : (fixDown ltInt a i x).size = x.size := by
  unfold fixDown
  split
  · generalize i - 1 = j
    induction j generalizing x with
    | zero => rfl
    | succ k ih => rw [shiftDown]; split; rfl; rw [ih, swp_size]
  · rfl
theorem shu_size (b : Nat) : ∀ (n j : Nat) (x : Array Int), b - j = n → (shiftUp ltInt b j x).size = x.size := by
  intro n
  induction n with
  | zero => intro j x h; rw [shiftUp, if_neg (by omega)]
  | succ n ih =>
    intro j x h
    rw [shiftUp, if_pos (by omega)]
    split
    · rfl
    · rw [ih _ _ (by omega), swp_size]
theorem fixu_size (x : Array Int) (b i : Nat) : (fixUp ltInt b i x).size = x.size := by
  unfold fixUp
  split
  · exact shu_size b _ _ _ rfl
  · rfl
/-- Where the rounds stand. -/
def PIr (w : World) (blk a b N : Nat) (d : Array Int) (v u : Value) (W : World) : Prop :=
  ∃ (i t : Nat) (x : Array Int), v = .int .i64 i ∧ u = .int .i64 t ∧ a < i ∧ i ≤ b ∧ t ≤ 5 ∧ x.size = N ∧ SW w W blk x ∧ partialIns ltInt a b (5 - t) i x = partialIns ltInt a b 5 (a + 1) d
/-- What it answers. -/
def PIPost (w : World) (blk : Nat) (r : Array Int × Bool) (e : Ending) (w' : World) : Prop := e = .returned (.bool r.2) ∧ SW w w' blk r.1
set_option maxHeartbeats 6400000 in
set_option maxRecDepth 100000 in
theorem pins_any (blk cap a b : Nat) (d : Array Int) (w : World) (hH : RowAt w blk d) (hab : a < b) (hb : b ≤ d.size) (hz : d.size ≤ 1000000) :
    Calls Try.prog 42 #[.slice (some ⟨blk, 0, none⟩) d.size cap, .int .i64 a, .int .i64 b] w (PIPost w blk (Sort.partialInsertionSort ltInt d a b)) := by
  have HH := Lib.hid hH
  have HS := Lib.hid (SW.start hH)
  clear hH
  obtain ⟨N, hN⟩ : ∃ N, N = d.size := ⟨_, rfl⟩
  rw [← hN] at hb hz ⊢
  have HN := Lib.hid hN
  clear hN
  go_enter Try.func42, Try.ntmps42
  obtain ⟨R, hR⟩ : ∃ R, R = Sort.partialInsertionSort ltInt d a b := ⟨_, rfl⟩
  rw [← hR]
  have HR : Hid (partialIns ltInt a b 5 (a + 1) d = R) := hR.symm
  clear hR
  go_wp2
  go_loopw [7, 8] (fun v u W => PIr w blk a b N d v u W) (fun _ u _ => 5 - (intOf u).toNat)
  case atStart => exact ⟨a + 1, 0, d, by go_num, rfl, by omega, by omega, by omega, HN.out.symm, HS.out, rfl⟩
  case round =>
    obtain ⟨i0, t, x, rfl, rfl, hai, hib, ht5, hx, hs, he⟩ := hrel
    have HX := Lib.hid hx
    have HSx := Lib.hid hs
    have HE0 : Hid (partialIns ltInt a b (5 - t) i0 x = R) := he.trans HR.out
    clear hx hs he
    by_cases hlt : t < 5
    · have tt : decide (t < 5) = true := decide_eq_true hlt
      have tt' : decide ((t : Int) < 5) = true := decide_eq_true (by omega)
      have HT : Hid (5 - t = (5 - (t + 1)) + 1) := by unfold Hid; omega
      have HSTEP : Hid (R = if scanSorted ltInt x b i0 = b then (x, true) else if b - a < 50 then (x, false) else
        partialIns ltInt a b (5 - (t + 1)) (scanSorted ltInt x b i0) (fixUp ltInt b (scanSorted ltInt x b i0) (fixDown ltInt a (scanSorted ltInt x b i0) (swp x (scanSorted ltInt x b i0) (scanSorted ltInt x b i0 - 1))))) := by
        unfold Hid; rw [← HE0.out, HT.out]; exact partialIns_succ a b _ i0 x
      go_upto_block 2 with (fail)
      go_cut [7] (fun v W => ∃ ii : Nat, v = .int .i64 ii ∧ a < ii ∧ ii ≤ b ∧ SW w W blk x ∧ ii = scanSorted ltInt x b i0)
      case first =>
        go_wp2
        go_loopw [7] (fun v W => ∃ ii : Nat, v = .int .i64 ii ∧ a < ii ∧ ii ≤ b ∧ SW w W blk x ∧ scanSorted ltInt x b ii = scanSorted ltInt x b i0) (fun v _ => b - (intOf v).toNat)
        case atStart => exact ⟨i0, rfl, hai, hib, HSx.out, rfl⟩
        case round =>
          obtain ⟨ii, rfl, hi1, hi2, hs, he⟩ := hrel
          have HSi := Lib.hid hs
          have HE := Lib.hid he
          clear hs he
          have hrow := HSi.out.row HH.out (by first | rfl | (rw [HX.out]; exact HN.out))
          obtain ⟨G, hG⟩ : ∃ G : Nat → Int, ∀ t, G t = x[t]! := ⟨fun t => x[t]!, fun _ => rfl⟩
          have hcw : ∀ t, t < N → wr.cell? ⟨blk, t, none⟩ = some (.int .i32 (G t)) := fun t ht => by rw [hG]; exact (hrow.get (by rw [HX.out]; omega)).1
          have hfw : ∀ t, t < N → wr.frozen? ⟨blk, t, none⟩ = false := fun t ht => (hrow.get (by rw [HX.out]; omega)).2
          have HG := Lib.hid hG
          clear hrow hG
          by_cases hij : ii < b
          · have hiN : ii < N := by omega
            have hiN1 : ii - 1 < N := by omega
            have hi11 : 1 ≤ ii := by omega
            go_wp2
            go_quiet (first | (go_at_call 31; refine Calls.quiet_of_same (lless_any _ _ _)))
            rcases hl : ltInt (G ii) (G (ii - 1)) with _ | _
            · go_wp2
              go_roundw
              case rel => exact ⟨ii + 1, by go_num, by omega, by omega, HSi.out.drewN _, by rw [← HE.out]; exact (scan_so_step hij (by rw [← HG.out, ← HG.out, hl])).symm⟩
              case measure => simp [intOf]; omega
            · go_wp2
              go_meet
              exact ⟨ii, rfl, hi1, hi2, HSi.out.drewN _, by rw [← HE.out]; exact (scan_so_halt (fun h => by have h2 := h.2; simp only [← HG.out] at h2; rw [hl] at h2; simp at h2)).symm⟩
          · have tij : decide (ii < b) = false := decide_eq_false hij
            have tij' : decide ((ii : Int) < (b : Int)) = false := decide_eq_false (by omega)
            go_wp2
            go_quiet (first | (go_at_call 31; refine Calls.quiet_of_same (lless_any _ _ _)))
            go_wp2
            go_meet
            exact ⟨ii, rfl, hi1, hi2, HSi.out.drewN _, by rw [← HE.out]; exact (scan_so_halt (fun h => hij h.1)).symm⟩
      case rest =>
      obtain ⟨i, rfl, hi1, hi2, hs2, he2⟩ := hcut
      have HSu := Lib.hid hs2
      rw [← he2] at HSTEP
      clear hs2 he2 HSx hai hib
      by_cases hib : i = b
      · have HF : Hid (R = (x, true)) := by unfold Hid; rw [HSTEP.out, if_pos hib]
        subst hib
        go_wp2
        go_ret
        rw [HF.out]
        exact ⟨rfl, HSu.out⟩
      have tib : (i == b) = false := by simpa using hib
      have tib' : ((i : Int) == (b : Int)) = false := by simp; omega
      have tibd : decide (i = b) = false := decide_eq_false hib
      have tibd' : decide ((i : Int) = (b : Int)) = false := decide_eq_false (by omega)
      obtain ⟨l, hl⟩ : ∃ l, l = b - a := ⟨_, rfl⟩
      have sl : IntKind.i64.wrap ((b : Int) - (a : Int)) = (l : Int) := by rw [IntKind.wrap_i64]; omega
      have sl' : (b : Int) - (a : Int) = (l : Int) := by omega
      by_cases h50 : l < 50
      · have t5 : decide (l < 50) = true := decide_eq_true h50
        have t5' : decide ((l : Int) < 50) = true := decide_eq_true (by omega)
        have HF : Hid (R = (x, false)) := by unfold Hid; rw [HSTEP.out, if_neg hib, if_pos (by omega)]
        clear hl
        go_wp2
        go_ret
        rw [HF.out]
        exact ⟨rfl, HSu.out⟩
      have t5 : decide (l < 50) = false := decide_eq_false h50
      have t5' : decide ((l : Int) < 50) = false := decide_eq_false (by omega)
      have HF : Hid (R = partialIns ltInt a b (5 - (t + 1)) i (fixUp ltInt b i (fixDown ltInt a i (swp x i (i - 1))))) := by unfold Hid; rw [HSTEP.out, if_neg hib, if_neg (by omega)]
      have hiN : i < N := by omega
      have hiN1 : i - 1 < N := by omega
      have hi11 : 1 ≤ i := by omega
      have hine : ¬ (i = i - 1) := by omega
      have hine2 : ¬ (i - 1 = i) := by omega
      clear hl HSTEP HE0
      go_upto_region 11 with (fail)
      go_cut [0] (fun t W => t = .slice (some ⟨blk, 0, none⟩) N cap ∧ SW w W blk (swp x i (i - 1)))
      case first =>
        have hrow := HSu.out.row HH.out (by first | rfl | (rw [HX.out]; exact HN.out))
        obtain ⟨G, hG⟩ : ∃ G : Nat → Int, ∀ t, G t = x[t]! := ⟨fun t => x[t]!, fun _ => rfl⟩
        have hcw : ∀ t, t < N → wc.cell? ⟨blk, t, none⟩ = some (.int .i32 (G t)) := fun t ht => by rw [hG]; exact (hrow.get (by rw [HX.out]; omega)).1
        have hfw : ∀ t, t < N → wc.frozen? ⟨blk, t, none⟩ = false := fun t ht => (hrow.get (by rw [HX.out]; omega)).2
        have HG := Lib.hid hG
        clear hrow hG
        go_wp2
        go_region
        all_goals go_wp2
        all_goals
          go_meet
          refine ⟨rfl, ?_⟩
          rw [HG.out, HG.out]
          exact (HSu.out.drewN 1).swap (by have := HX.out; omega) (by have := HX.out; omega)
      case rest =>
      obtain ⟨rfl, hsq⟩ := hcut
      have HS1 := Lib.hid hsq
      have HX1 : Hid ((swp x i (i - 1)).size = N) := by unfold Hid; rw [swp_size]; exact HX.out
      clear hsq
      generalize swp x i (i - 1) = y1 at *
      obtain ⟨l1, hl1⟩ : ∃ l1, l1 = i - a := ⟨_, rfl⟩
      have sl1 : IntKind.i64.wrap ((i : Int) - (a : Int)) = (l1 : Int) := by rw [IntKind.wrap_i64]; omega
      have sl1' : (i : Int) - (a : Int) = (l1 : Int) := by omega
      obtain ⟨k1, hk1⟩ : ∃ k1, k1 = decide (2 ≤ l1) := ⟨_, rfl⟩
      have tk1 : decide (2 ≤ l1) = k1 := hk1.symm
      have tk1' : decide ((2 : Int) ≤ (l1 : Int)) = k1 := by rw [hk1]; exact decide_eq_decide.mpr (by omega)
      have HK1 := Lib.hid hk1
      have HL1 := Lib.hid hl1
      clear hk1 hl1
      go_upto_if 61 with (fail)
      go_cut [0] (fun t W => t = .slice (some ⟨blk, 0, none⟩) N cap ∧ SW w W blk (fixDown ltInt a i y1))
      case first =>
        cases k1
        · have HFX : Hid (fixDown ltInt a i y1 = y1) := by
            unfold Hid fixDown; rw [if_neg]
            have := HK1.out.symm
            rw [decide_eq_false_iff_not, HL1.out] at this; omega
          go_wp2
          go_meet
          exact ⟨rfl, by rw [HFX.out]; exact HS1.out⟩
        · have HFX : Hid (fixDown ltInt a i y1 = shiftDown ltInt (i - 1) y1) := by
            unfold Hid fixDown; rw [if_pos]
            have := HK1.out.symm
            rw [decide_eq_true_iff, HL1.out] at this; omega
          go_wp2
          go_loopw [9] (fun v W => ∃ (j : Nat) (y : Array Int), v = .int .i64 j ∧ j < N ∧ y.size = N ∧ SW w W blk y ∧ shiftDown ltInt j y = shiftDown ltInt (i - 1) y1) (fun v _ => (intOf v).toNat)
          case atStart => exact ⟨i - 1, y1, by congr 1; omega, hiN1, HX1.out, HS1.out, rfl⟩
          case round =>
            obtain ⟨j, y, rfl, hjN, hy, hs, he⟩ := hrel
            have HY := Lib.hid hy
            have HSy := Lib.hid hs
            have HE := Lib.hid he
            clear hy hs he
            have hrow := HSy.out.row HH.out (by first | rfl | (rw [HY.out]; exact HN.out))
            obtain ⟨G, hG⟩ : ∃ G : Nat → Int, ∀ t, G t = y[t]! := ⟨fun t => y[t]!, fun _ => rfl⟩
            have hcw : ∀ t, t < N → wr.cell? ⟨blk, t, none⟩ = some (.int .i32 (G t)) := fun t ht => by rw [hG]; exact (hrow.get (by rw [HY.out]; omega)).1
            have hfw : ∀ t, t < N → wr.frozen? ⟨blk, t, none⟩ = false := fun t ht => (hrow.get (by rw [HY.out]; omega)).2
            have HG := Lib.hid hG
            clear hrow hG
            by_cases hj1 : 1 ≤ j
            · have hjN1 : j - 1 < N := by omega
              have tj : decide (1 ≤ j) = true := decide_eq_true hj1
              have tj' : decide ((1 : Int) ≤ (j : Int)) = true := decide_eq_true (by omega)
              have hjne : ¬ (j = j - 1) := by omega
              have hjne2 : ¬ (j - 1 = j) := by omega
              go_wp2
              go_quiet (first | (go_at_call 31; refine Calls.quiet_of_same (lless_any _ _ _)))
              rcases hl : ltInt (G j) (G (j - 1)) with _ | _
              · go_wp2
                go_meet
                exact ⟨rfl, by rw [HFX.out, ← HE.out, shd_halt (fun h => by have h2 := h.2; simp only [← HG.out] at h2; rw [hl] at h2; simp at h2)]; exact HSy.out.drewN _⟩
              · go_wp2
                go_region
                all_goals go_wp2
                all_goals
                  go_roundw
                  case rel =>
                    refine ⟨j - 1, swp y j (j - 1), by congr 1; omega, by omega, by rw [swp_size]; exact HY.out, ?_, ?_⟩
                    · rw [HG.out, HG.out]
                      exact (HSy.out.drewN _).swap (by rw [HY.out]; omega) (by rw [HY.out]; omega)
                    · rw [← HE.out]; exact (shd_step hj1 (by rw [← HG.out, ← HG.out]; exact hl)).symm
                  case measure => simp [intOf]; omega
            · have tj : decide (1 ≤ j) = false := decide_eq_false hj1
              have tj' : decide ((1 : Int) ≤ (j : Int)) = false := decide_eq_false (by omega)
              go_wp2
              go_meet
              exact ⟨rfl, by rw [HFX.out, ← HE.out, shd_halt (fun h => hj1 h.1)]; exact HSy.out⟩
      case rest =>
      obtain ⟨rfl, hsq⟩ := hcut
      have HS2 := Lib.hid hsq
      have HX2 : Hid ((fixDown ltInt a i y1).size = N) := by unfold Hid; rw [fixd_size]; exact HX1.out
      clear hsq HS1
      generalize fixDown ltInt a i y1 = y2 at *
      obtain ⟨l2, hl2⟩ : ∃ l2, l2 = b - i := ⟨_, rfl⟩
      have sl2 : IntKind.i64.wrap ((b : Int) - (i : Int)) = (l2 : Int) := by rw [IntKind.wrap_i64]; omega
      have sl2' : (b : Int) - (i : Int) = (l2 : Int) := by omega
      obtain ⟨k2, hk2⟩ : ∃ k2, k2 = decide (2 ≤ l2) := ⟨_, rfl⟩
      have tk2 : decide (2 ≤ l2) = k2 := hk2.symm
      have tk2' : decide ((2 : Int) ≤ (l2 : Int)) = k2 := by rw [hk2]; exact decide_eq_decide.mpr (by omega)
      have HK2 := Lib.hid hk2
      have HL2 := Lib.hid hl2
      clear hk2 hl2
      have HX3 : Hid ((fixUp ltInt b i y2).size = N) := by unfold Hid; rw [fixu_size]; exact HX2.out
      have HEND : Hid (∀ W, SW w W blk (fixUp ltInt b i y2) → PIr w blk a b N d (.int .i64 i) (.int .i64 ((t : Int) + 1)) W) := fun W h => ⟨i, t + 1, fixUp ltInt b i y2, rfl, by go_num, hi1, hi2, by omega, HX3.out, h, by rw [HR.out]; exact HF.out.symm⟩
      have st1 : IntKind.i64.wrap ((t : Int) + 1) = (t : Int) + 1 := by rw [IntKind.wrap_i64]; omega
      go_upto_if 98 with (fail)
      cases k2
      · have HFX : Hid (fixUp ltInt b i y2 = y2) := by
          unfold Hid fixUp; rw [if_neg]
          have := HK2.out.symm
          rw [decide_eq_false_iff_not, HL2.out] at this; omega
        go_wp2
        go_roundw
        case rel => refine HEND.out _ ?_; rw [HFX.out]; exact HS2.out
        case measure => simp [intOf]; omega
      · have HFX : Hid (fixUp ltInt b i y2 = shiftUp ltInt b (i + 1) y2) := by
          unfold Hid fixUp; rw [if_pos]
          have := HK2.out.symm
          rw [decide_eq_true_iff, HL2.out] at this; omega
        go_wp2
        go_loopw [10] (fun v W => ∃ (j : Nat) (y : Array Int), v = .int .i64 j ∧ 1 ≤ j ∧ j ≤ b + 1 ∧ y.size = N ∧ SW w W blk y ∧ shiftUp ltInt b j y = shiftUp ltInt b (i + 1) y2) (fun v _ => b + 1 - (intOf v).toNat)
        case atStart => exact ⟨i + 1, y2, by go_num, by omega, by omega, HX2.out, HS2.out, rfl⟩
        case round =>
          obtain ⟨j, y, rfl, hj1, hjb1, hy, hs, he⟩ := hrel
          have HY := Lib.hid hy
          have HSy := Lib.hid hs
          have HE := Lib.hid he
          clear hy hs he
          have hrow := HSy.out.row HH.out (by first | rfl | (rw [HY.out]; exact HN.out))
          obtain ⟨G, hG⟩ : ∃ G : Nat → Int, ∀ t, G t = y[t]! := ⟨fun t => y[t]!, fun _ => rfl⟩
          have hcw : ∀ t, t < N → wr.cell? ⟨blk, t, none⟩ = some (.int .i32 (G t)) := fun t ht => by rw [hG]; exact (hrow.get (by rw [HY.out]; omega)).1
          have hfw : ∀ t, t < N → wr.frozen? ⟨blk, t, none⟩ = false := fun t ht => (hrow.get (by rw [HY.out]; omega)).2
          have HG := Lib.hid hG
          clear hrow hG
          by_cases hjb : j < b
          · have hjN : j < N := by omega
            have hjN1 : j - 1 < N := by omega
            have tj : decide (j < b) = true := decide_eq_true hjb
            have tj' : decide ((j : Int) < (b : Int)) = true := decide_eq_true (by omega)
            have hjne : ¬ (j = j - 1) := by omega
            have hjne2 : ¬ (j - 1 = j) := by omega
            go_wp2
            go_quiet (first | (go_at_call 31; refine Calls.quiet_of_same (lless_any _ _ _)))
            rcases hl : ltInt (G j) (G (j - 1)) with _ | _
            · go_wp2
              go_roundw
              case rel => refine HEND.out _ ?_; rw [HFX.out, ← HE.out, shu_halt (fun h => by have h2 := h.2; simp only [← HG.out] at h2; rw [hl] at h2; simp at h2)]; exact HSy.out.drewN _
              case measure => simp [intOf]; omega
            · go_wp2
              go_region
              all_goals go_wp2
              all_goals
                go_roundw
                case rel =>
                  refine ⟨j + 1, swp y j (j - 1), by go_num, by omega, by omega, by rw [swp_size]; exact HY.out, ?_, ?_⟩
                  · rw [HG.out, HG.out]
                    exact (HSy.out.drewN _).swap (by rw [HY.out]; omega) (by rw [HY.out]; omega)
                  · rw [← HE.out]; exact (shu_step hjb (by rw [← HG.out, ← HG.out]; exact hl)).symm
                case measure => simp [intOf]; omega
          · have tj : decide (j < b) = false := decide_eq_false hjb
            have tj' : decide ((j : Int) < (b : Int)) = false := decide_eq_false (by omega)
            go_wp2
            go_roundw
            case rel => refine HEND.out _ ?_; rw [HFX.out, ← HE.out, shu_halt (fun h => hjb h.1)]; exact HSy.out
            case measure => simp [intOf]; omega
    · have tt : decide (t < 5) = false := decide_eq_false hlt
      have tt' : decide ((t : Int) < 5) = false := decide_eq_false (by omega)
      have HF : Hid (R = (x, false)) := by
        have h0 : 5 - t = 0 := by omega
        have := HE0.out
        rw [h0] at this
        exact this.symm
      go_wp2
      go_ret
      rw [HF.out]
      exact ⟨rfl, HSx.out⟩
end Go.Proofs.Ytghclmbicdmboaa
