/- The library's partitions, at 32-bit numbers. -/
import Derived.Test.YtghclmbicdmboaaSrtC
namespace Go.Proofs.Ytghclmbicdmboaa
open Go.RowKit Go.Sort

section
variable {p : Int → Bool} {x : Array Int} {i j : Nat}
theorem scan_up_step (h : i ≤ j) (hp : p x[i]! = true) : scanUp p x j i = scanUp p x j (i + 1) := by
  rw [scanUp, if_pos (by rw [Bool.and_eq_true]; exact ⟨decide_eq_true h, hp⟩)]
theorem scan_up_halt (h : ¬ (i ≤ j ∧ p x[i]! = true)) : scanUp p x j i = i := by
  rw [scanUp, if_neg]
  rw [Bool.and_eq_true, decide_eq_true_iff]; exact h
theorem scan_dn_step (h : i ≤ j) (h0 : 1 ≤ j) (hp : p x[j]! = true) : scanDown p x i j = scanDown p x i (j - 1) := by
  cases j with
  | zero => omega
  | succ k => rw [scanDown, if_pos (by rw [Bool.and_eq_true]; exact ⟨decide_eq_true h, hp⟩)]; rfl
theorem scan_dn_halt (h : ¬ (i ≤ j ∧ p x[j]! = true)) : scanDown p x i j = j := by
  cases j with
  | zero => rfl
  | succ k =>
    rw [scanDown, if_neg]
    rw [Bool.and_eq_true, decide_eq_true_iff]; exact h
end
/-- Where the partition into equals stands. -/
def PEq (w : World) (blk a b N : Nat) (d : Array Int) (v u : Value) (W : World) : Prop :=
  ∃ (i j : Nat) (x : Array Int), v = .int .i64 i ∧ u = .int .i64 j ∧ a < i ∧ i ≤ j + 2 ∧ j < N ∧ x.size = N ∧ SW w W blk x ∧ partEqLoop ltInt a i j x = partEqLoop ltInt a (a + 1) (b - 1) d
/-- What it answers. -/
def PEPost (w : World) (blk : Nat) (r : Nat × Array Int) (e : Ending) (w' : World) : Prop := e = .returned (.int .i64 (r.1 : Int)) ∧ SW w w' blk r.2
set_option maxHeartbeats 6400000 in
set_option maxRecDepth 100000 in
theorem parteq_any (blk cap a b pivot : Nat) (d : Array Int) (w : World) (hH : RowAt w blk d) (hap : a ≤ pivot) (hpb : pivot < b) (hb : b ≤ d.size) (hz : d.size ≤ 1000000) :
    Calls Try.prog 43 #[.slice (some ⟨blk, 0, none⟩) d.size cap, .int .i64 a, .int .i64 b, .int .i64 pivot] w (PEPost w blk (Sort.partitionEqual ltInt d a b pivot)) := by
  have HH := Lib.hid hH
  have HS := Lib.hid (SW.start hH)
  clear hH
  obtain ⟨N, hN⟩ : ∃ N, N = d.size := ⟨_, rfl⟩
  rw [← hN] at hb hz ⊢
  have HN := Lib.hid hN
  clear hN
  go_enter Try.func43, Try.ntmps43
  have HX0 : Hid (d.size = N) := HN.out.symm
  have HPE : Hid (Sort.partitionEqual ltInt d a b pivot = partEqLoop ltInt a (a + 1) (b - 1) (swp d a pivot)) := rfl
  rw [HPE.out]
  have haN : a < N := by omega
  have hpN : pivot < N := by omega
  go_upto_region 1 with (fail)
  go_cut [0] (fun t W => t = .slice (some ⟨blk, 0, none⟩) N cap ∧ SW w W blk (swp d a pivot))
  case first =>
    have hrow := HS.out.row HH.out (by first | rfl | (rw [HX0.out]; exact HN.out))
    obtain ⟨G, hG⟩ : ∃ G : Nat → Int, ∀ t, G t = d[t]! := ⟨fun t => d[t]!, fun _ => rfl⟩
    have hcw : ∀ t, t < N → w.cell? ⟨blk, t, none⟩ = some (.int .i32 (G t)) := fun t ht => by rw [hG]; exact (hrow.get (by rw [HX0.out]; omega)).1
    have hfw : ∀ t, t < N → w.frozen? ⟨blk, t, none⟩ = false := fun t ht => (hrow.get (by rw [HX0.out]; omega)).2
    have HG := Lib.hid hG
    clear hrow hG
    by_cases hij : a = pivot
    · first | subst hij | (have hij2 := hij.symm; subst hij2)
      go_wp2
      go_region
      all_goals go_wp2
      all_goals
        go_meet
        refine ⟨rfl, ?_⟩
        rw [HG.out]
        exact (HS.out.drewN 1).swap (by have := HX0.out; omega) (by have := HX0.out; omega)
    · have hji : ¬ (pivot = a) := fun h => hij h.symm
      go_wp2
      go_region
      all_goals go_wp2
      all_goals
        go_meet
        refine ⟨rfl, ?_⟩
        rw [HG.out, HG.out]
        exact (HS.out.drewN 1).swap (by have := HX0.out; omega) (by have := HX0.out; omega)
  case rest =>
  obtain ⟨rfl, hsq⟩ := hcut
  have HS1 := Lib.hid hsq
  have HX1 : Hid ((swp d a pivot).size = N) := by unfold Hid; rw [swp_size]; exact HX0.out
  clear hsq
  generalize swp d a pivot = d1 at *
  go_wp2
  go_loopw [9, 10] (fun v u W => PEq w blk a b N d1 v u W) (fun v u _ => (intOf u).toNat + 2 - (intOf v).toNat)
  case atStart => exact ⟨a + 1, b - 1, d1, by go_num, by congr 1; omega, by omega, by omega, by omega, HX1.out, HS1.out, rfl⟩
  case round =>
    obtain ⟨i, j, x, rfl, rfl, hai, hij2, hjN, hx, hs, he⟩ := hrel
    have HX := Lib.hid hx
    have HSx := Lib.hid hs
    have HL := Lib.hid he
    clear hx hs he HS1
    have HPL := Lib.hid (partEqLoop_eq ltInt a i j x)
    go_upto_block 2 with (fail)
    go_cut [9] (fun t W => ∃ ii : Nat, t = .int .i64 ii ∧ i ≤ ii ∧ ii ≤ j + 2 ∧ SW w W blk x ∧ ii = scanUp (fun y => !ltInt x[a]! y) x j i)
    case first =>
      go_wp2
      go_loopw [9] (fun v W => ∃ ii : Nat, v = .int .i64 ii ∧ i ≤ ii ∧ ii ≤ j + 2 ∧ SW w W blk x ∧ scanUp (fun y => !ltInt x[a]! y) x j ii = scanUp (fun y => !ltInt x[a]! y) x j i) (fun v _ => j + 2 - (intOf v).toNat)
      case atStart => exact ⟨i, rfl, Nat.le_refl _, by omega, HSx.out, rfl⟩
      case round =>
        obtain ⟨ii, rfl, hi1, hi2, hs, he⟩ := hrel
        have HSi := Lib.hid hs
        have HE := Lib.hid he
        clear hs he
        have hrow := HSi.out.row HH.out (by rw [HX.out]; exact HN.out)
        obtain ⟨G, hG⟩ : ∃ G : Nat → Int, ∀ t, G t = x[t]! := ⟨fun t => x[t]!, fun _ => rfl⟩
        have hcw : ∀ t, t < N → wr.cell? ⟨blk, t, none⟩ = some (.int .i32 (G t)) := fun t ht => by rw [hG]; exact (hrow.get (by rw [HX.out]; omega)).1
        have hfw : ∀ t, t < N → wr.frozen? ⟨blk, t, none⟩ = false := fun t ht => (hrow.get (by rw [HX.out]; omega)).2
        have HG := Lib.hid hG
        clear hrow hG
        by_cases hij : ii ≤ j
        · have hiN : ii < N := by omega
          go_wp2
          go_quiet (first | (go_at_call 31; refine Calls.quiet_of_same (lless_any _ _ _)))
          rcases hl : ltInt (G a) (G ii) with _ | _
          ·
            go_wp2
            go_roundw
            case rel => exact ⟨ii + 1, by go_num, by omega, by omega, HSi.out.drewN _, by rw [← HE.out]; exact (scan_up_step hij (by show (_ : Bool) = true; rw [← HG.out, ← HG.out, hl]; try rfl)).symm⟩
            case measure => simp [intOf]; omega
          ·
            go_wp2
            go_meet
            exact ⟨ii, rfl, hi1, hi2, HSi.out.drewN _, by rw [← HE.out]; exact (scan_up_halt (fun h => by have h2 : (_ : Bool) = true := h.2; simp only [← HG.out] at h2; rw [hl] at h2; simp at h2)).symm⟩
        · have tij : decide (ii ≤ j) = false := decide_eq_false hij
          have tij' : decide ((ii : Int) ≤ (j : Int)) = false := decide_eq_false (by omega)
          go_wp2
          go_quiet (first | (go_at_call 31; refine Calls.quiet_of_same (lless_any _ _ _)))
          go_wp2
          go_meet
          exact ⟨ii, rfl, hi1, hi2, HSi.out.drewN _, by rw [← HE.out]; exact (scan_up_halt (fun h => hij h.1)).symm⟩
    case rest =>
    obtain ⟨i2, rfl, hi21, hi22, hs2, he2⟩ := hcut
    have HSu := Lib.hid hs2
    have HU := Lib.hid he2
    clear hs2 he2
    go_upto_block 4 with (fail)
    go_cut [10] (fun t W => ∃ jj : Nat, t = .int .i64 jj ∧ jj ≤ j ∧ i2 ≤ jj + 2 ∧ SW w W blk x ∧ jj = scanDown (fun y => ltInt x[a]! y) x i2 j)
    case first =>
      go_wp2
      go_loopw [10] (fun v W => ∃ jj : Nat, v = .int .i64 jj ∧ jj ≤ j ∧ i2 ≤ jj + 2 ∧ SW w W blk x ∧ scanDown (fun y => ltInt x[a]! y) x i2 jj = scanDown (fun y => ltInt x[a]! y) x i2 j) (fun v _ => (intOf v).toNat)
      case atStart => exact ⟨j, rfl, Nat.le_refl _, by omega, HSu.out, rfl⟩
      case round =>
        obtain ⟨jj, rfl, hj1, hj2, hs, he⟩ := hrel
        have HSi := Lib.hid hs
        have HE := Lib.hid he
        clear hs he
        have hrow := HSi.out.row HH.out (by rw [HX.out]; exact HN.out)
        obtain ⟨G, hG⟩ : ∃ G : Nat → Int, ∀ t, G t = x[t]! := ⟨fun t => x[t]!, fun _ => rfl⟩
        have hcw : ∀ t, t < N → wr.cell? ⟨blk, t, none⟩ = some (.int .i32 (G t)) := fun t ht => by rw [hG]; exact (hrow.get (by rw [HX.out]; omega)).1
        have hfw : ∀ t, t < N → wr.frozen? ⟨blk, t, none⟩ = false := fun t ht => (hrow.get (by rw [HX.out]; omega)).2
        have HG := Lib.hid hG
        clear hrow hG
        by_cases hij : i2 ≤ jj
        · have hjN : jj < N := by omega
          have hj0 : 1 ≤ jj := by omega
          go_wp2
          go_quiet (first | (go_at_call 31; refine Calls.quiet_of_same (lless_any _ _ _)))
          rcases hl : ltInt (G a) (G jj) with _ | _
          ·
            go_wp2
            go_meet
            exact ⟨jj, rfl, hj1, hj2, HSi.out.drewN _, by rw [← HE.out]; exact (scan_dn_halt (fun h => by have h2 : (_ : Bool) = true := h.2; simp only [← HG.out] at h2; rw [hl] at h2; simp at h2)).symm⟩
          ·
            go_wp2
            go_roundw
            case rel => exact ⟨jj - 1, by congr 1; omega, by omega, by omega, HSi.out.drewN _, by rw [← HE.out]; exact (scan_dn_step hij hj0 (by show (_ : Bool) = true; rw [← HG.out, ← HG.out, hl]; try rfl)).symm⟩
            case measure => simp [intOf]; omega
        · have tij : decide (i2 ≤ jj) = false := decide_eq_false hij
          have tij' : decide ((i2 : Int) ≤ (jj : Int)) = false := decide_eq_false (by omega)
          go_wp2
          go_quiet (first | (go_at_call 31; refine Calls.quiet_of_same (lless_any _ _ _)))
          go_wp2
          go_meet
          exact ⟨jj, rfl, hj1, hj2, HSi.out.drewN _, by rw [← HE.out]; exact (scan_dn_halt (fun h => hij h.1)).symm⟩
    case rest =>
    obtain ⟨j2, rfl, hj21, hj22, hs2, he2⟩ := hcut
    have HSd := Lib.hid hs2
    have HD := Lib.hid he2
    clear hs2 he2
    have HPL2 : Hid (partEqLoop ltInt a i j x = if i2 > j2 then (i2, x) else partEqLoop ltInt a (i2 + 1) (j2 - 1) (swp x i2 j2)) := by
      unfold Hid; rw [HPL.out, ← HU.out, ← HD.out]
    by_cases hgt : j2 < i2
    · have tg : decide (j2 < i2) = true := decide_eq_true hgt
      have tg' : decide ((j2 : Int) < (i2 : Int)) = true := decide_eq_true (by omega)
      have HF : Hid (partEqLoop ltInt a (a + 1) (b - 1) d1 = (i2, x)) := by unfold Hid; rw [← HL.out, HPL2.out, if_pos hgt]
      clear hgt
      go_wp2
      go_ret
      rw [HF.out]
      exact ⟨rfl, HSd.out⟩
    · have tg : decide (j2 < i2) = false := decide_eq_false hgt
      have tg' : decide ((j2 : Int) < (i2 : Int)) = false := decide_eq_false (by omega)
      have HF : Hid (partEqLoop ltInt a (i2 + 1) (j2 - 1) (swp x i2 j2) = partEqLoop ltInt a (a + 1) (b - 1) d1) := by unfold Hid; rw [← HL.out, HPL2.out, if_neg hgt]
      have hi2N : i2 < N := by omega
      have hj2N : j2 < N := by omega
      have hj20 : 1 ≤ j2 := by omega
      have hle : i2 ≤ j2 := by omega
      clear hgt
      go_upto_region 8 with (fail)
      go_cut [0] (fun t W => t = .slice (some ⟨blk, 0, none⟩) N cap ∧ SW w W blk (swp x i2 j2))
      case first =>
        have hrow := HSd.out.row HH.out (by rw [HX.out]; exact HN.out)
        obtain ⟨G, hG⟩ : ∃ G : Nat → Int, ∀ t, G t = x[t]! := ⟨fun t => x[t]!, fun _ => rfl⟩
        have hcw : ∀ t, t < N → wc.cell? ⟨blk, t, none⟩ = some (.int .i32 (G t)) := fun t ht => by rw [hG]; exact (hrow.get (by rw [HX.out]; omega)).1
        have hfw : ∀ t, t < N → wc.frozen? ⟨blk, t, none⟩ = false := fun t ht => (hrow.get (by rw [HX.out]; omega)).2
        have HG := Lib.hid hG
        clear hrow hG
        by_cases hij : i2 = j2
        · first | subst hij | (have hij2 := hij.symm; subst hij2)
          go_wp2
          go_region
          all_goals go_wp2
          all_goals
            go_meet
            refine ⟨rfl, ?_⟩
            rw [HG.out]
            exact (HSd.out.drewN 1).swap (by have := HX.out; omega) (by have := HX.out; omega)
        · have hji : ¬ (j2 = i2) := fun h => hij h.symm
          go_wp2
          go_region
          all_goals go_wp2
          all_goals
            go_meet
            refine ⟨rfl, ?_⟩
            rw [HG.out, HG.out]
            exact (HSd.out.drewN 1).swap (by have := HX.out; omega) (by have := HX.out; omega)
      case rest =>
      obtain ⟨rfl, hsq⟩ := hcut
      have HSq := Lib.hid hsq
      clear hsq
      go_wp2
      go_roundw
      case rel => exact ⟨i2 + 1, j2 - 1, swp x i2 j2, by go_num, by congr 1; omega, by omega, by omega, by omega, by rw [swp_size]; exact HX.out, HSq.out, HF.out⟩
      case measure => simp [intOf]; omega
end Go.Proofs.Ytghclmbicdmboaa
