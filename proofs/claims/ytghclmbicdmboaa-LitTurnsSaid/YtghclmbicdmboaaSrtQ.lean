/- The library's partition, at 32-bit numbers. -/
import Derived.Test.YtghclmbicdmboaaSrtP
namespace Go.Proofs.Ytghclmbicdmboaa
open Go.RowKit Go.Sort

/-- Where the partition stands. -/
def PPt (w : World) (blk a N i0 j0 : Nat) (d : Array Int) (v u : Value) (W : World) : Prop :=
  ∃ (i j : Nat) (x : Array Int), v = .int .i64 i ∧ u = .int .i64 j ∧ a < i ∧ i ≤ j + 2 ∧ j < N ∧ x.size = N ∧ SW w W blk x ∧ partLoop ltInt a i j x = partLoop ltInt a i0 j0 d
/-- What it answers. -/
def PTPost (w : World) (blk : Nat) (r : Nat × Bool × Array Int) (e : Ending) (w' : World) : Prop := e = .returned (.tuple #[.int .i64 (r.1 : Int), .bool r.2.1]) ∧ SW w w' blk r.2.2
set_option maxHeartbeats 6400000 in
set_option maxRecDepth 100000 in
theorem part_any (blk cap a b pivot : Nat) (d : Array Int) (w : World) (hH : RowAt w blk d) (hap : a ≤ pivot) (hpb : pivot < b) (hb : b ≤ d.size) (hz : d.size ≤ 1000000) :
    Calls Try.prog 44 #[.slice (some ⟨blk, 0, none⟩) d.size cap, .int .i64 a, .int .i64 b, .int .i64 pivot] w (PTPost w blk (Sort.partition ltInt d a b pivot)) := by
  have HH := Lib.hid hH
  have HS := Lib.hid (SW.start hH)
  clear hH
  obtain ⟨N, hN⟩ : ∃ N, N = d.size := ⟨_, rfl⟩
  rw [← hN] at hb hz ⊢
  have HN := Lib.hid hN
  clear hN
  go_enter Try.func44, Try.ntmps44
  have HX0 : Hid (d.size = N) := HN.out.symm
  obtain ⟨R, hR⟩ : ∃ R, R = Sort.partition ltInt d a b pivot := ⟨_, rfl⟩
  rw [← hR]
  unfold Sort.partition at hR
  dsimp only at hR
  have HR := Lib.hid hR
  clear hR
  have haN : a < N := by omega
  have hpN : pivot < N := by omega
  go_upto_region 1 with (fail)
  go_cut [0] (fun t W => t = .slice (some ⟨blk, 0, none⟩) N cap ∧ SW w W blk (swp d a pivot))
  case first =>
    have hrow := HS.out.row HH.out (by first | rfl | (rw [HX0.out]; exact HN.out))
    obtain ⟨G, hG⟩ : ∃ G : Nat → Int, ∀ t, G t = d[t]! := ⟨fun t => d[t]!, fun _ => rfl⟩
    have hcw : ∀ t, t < N → w.cell? ⟨blk, t, none⟩ = some (.int .i32 (G t)) := fun t ht => by rw [hG]; exact (hrow.get (by rw [HX0.out]; omega)).1
    have hfw : ∀ t, t < N → w.frozen? ⟨blk, t, none⟩ = false := fun t ht => (hrow.get (by rw [HX0.out]; omega)).2
    have HG := Lib.hid hG
    clear hrow hG
    by_cases hij : a = pivot
    · first | subst hij | (have hij2 := hij.symm; subst hij2)
      go_wp2
      go_region
      all_goals go_wp2
      all_goals
        go_meet
        refine ⟨rfl, ?_⟩
        rw [HG.out]
        exact (HS.out.drewN 1).swap (by have := HX0.out; omega) (by have := HX0.out; omega)
    · have hji : ¬ (pivot = a) := fun h => hij h.symm
      go_wp2
      go_region
      all_goals go_wp2
      all_goals
        go_meet
        refine ⟨rfl, ?_⟩
        rw [HG.out, HG.out]
        exact (HS.out.drewN 1).swap (by have := HX0.out; omega) (by have := HX0.out; omega)
  case rest =>
  obtain ⟨rfl, hsq⟩ := hcut
  have HS1 := Lib.hid hsq
  clear hsq
  have HX1 : Hid ((swp d a pivot).size = N) := by unfold Hid; rw [swp_size]; exact HX0.out
  generalize swp d a pivot = d1 at *
  obtain ⟨i0, hi0⟩ : ∃ i0, i0 = a + 1 := ⟨_, rfl⟩
  obtain ⟨j0, hj0⟩ : ∃ j0, j0 = b - 1 := ⟨_, rfl⟩
  have si0 : IntKind.i64.wrap ((a : Int) + 1) = (i0 : Int) := by rw [IntKind.wrap_i64]; omega
  have sj0 : IntKind.i64.wrap ((b : Int) - 1) = (j0 : Int) := by rw [IntKind.wrap_i64]; omega
  have si0' : (a : Int) + 1 = (i0 : Int) := by omega
  have sj0' : (b : Int) - 1 = (j0 : Int) := by omega
  rw [← hi0, ← hj0] at HR
  have hai0 : a < i0 := by omega
  have hij0 : i0 ≤ j0 + 2 := by omega
  have hj0N : j0 < N := by omega
  clear hi0 hj0
  go_upto_region 2 with (fail)
  go_cut [10, 11] (fun t u W => t = .int .i64 i0 ∧ u = .int .i64 j0 ∧ wc = W)
  case first =>
    go_wp2
    go_meet
    exact ⟨rfl, rfl, rfl⟩
  case rest =>
  obtain ⟨rfl, rfl, rfl⟩ := hcut
  clear si0 sj0 si0' sj0'
  go_upto_block 0 with (fail)
  go_cut [10] (fun t W => ∃ ii : Nat, t = .int .i64 ii ∧ i0 ≤ ii ∧ ii ≤ j0 + 2 ∧ SW w W blk d1 ∧ ii = scanUp (fun y => ltInt y d1[a]!) d1 j0 i0)
  case first =>
    go_wp2
    go_loopw [10] (fun v W => ∃ ii : Nat, v = .int .i64 ii ∧ i0 ≤ ii ∧ ii ≤ j0 + 2 ∧ SW w W blk d1 ∧ scanUp (fun y => ltInt y d1[a]!) d1 j0 ii = scanUp (fun y => ltInt y d1[a]!) d1 j0 i0) (fun v _ => j0 + 2 - (intOf v).toNat)
    case atStart => exact ⟨i0, rfl, Nat.le_refl _, by omega, HS1.out, rfl⟩
    case round =>
      obtain ⟨ii, rfl, hi1, hi2, hs, he⟩ := hrel
      have HSi := Lib.hid hs
      have HE := Lib.hid he
      clear hs he
      have hrow := HSi.out.row HH.out (by first | rfl | (rw [HX1.out]; exact HN.out))
      obtain ⟨G, hG⟩ : ∃ G : Nat → Int, ∀ t, G t = d1[t]! := ⟨fun t => d1[t]!, fun _ => rfl⟩
      have hcw : ∀ t, t < N → wr.cell? ⟨blk, t, none⟩ = some (.int .i32 (G t)) := fun t ht => by rw [hG]; exact (hrow.get (by rw [HX1.out]; omega)).1
      have hfw : ∀ t, t < N → wr.frozen? ⟨blk, t, none⟩ = false := fun t ht => (hrow.get (by rw [HX1.out]; omega)).2
      have HG := Lib.hid hG
      clear hrow hG
      by_cases hij : ii ≤ j0
      · have hiN : ii < N := by omega
        go_wp2
        go_quiet (first | (go_at_call 31; refine Calls.quiet_of_same (lless_any _ _ _)))
        rcases hl : ltInt (G ii) (G a) with _ | _
        ·
          go_wp2
          go_meet
          exact ⟨ii, rfl, hi1, hi2, HSi.out.drewN _, by rw [← HE.out]; exact (scan_up_halt (fun h => by have h2 : (_ : Bool) = true := h.2; simp only [← HG.out] at h2; rw [hl] at h2; simp at h2)).symm⟩
        ·
          go_wp2
          go_roundw
          case rel => exact ⟨ii + 1, by go_num, by omega, by omega, HSi.out.drewN _, by rw [← HE.out]; exact (scan_up_step hij (by show (_ : Bool) = true; rw [← HG.out, ← HG.out, hl]; try rfl)).symm⟩
          case measure => simp [intOf]; omega
      · have tij : decide (ii ≤ j0) = false := decide_eq_false hij
        have tij' : decide ((ii : Int) ≤ (j0 : Int)) = false := decide_eq_false (by omega)
        go_wp2
        go_quiet (first | (go_at_call 31; refine Calls.quiet_of_same (lless_any _ _ _)))
        go_wp2
        go_meet
        exact ⟨ii, rfl, hi1, hi2, HSi.out.drewN _, by rw [← HE.out]; exact (scan_up_halt (fun h => hij h.1)).symm⟩
  case rest =>
  obtain ⟨i1, rfl, hi21, hi22, hs2, he2⟩ := hcut
  have HSu := Lib.hid hs2
  have HU := Lib.hid he2
  clear hs2 he2
  go_upto_block 2 with (fail)
  go_cut [11] (fun t W => ∃ jj : Nat, t = .int .i64 jj ∧ jj ≤ j0 ∧ i1 ≤ jj + 2 ∧ SW w W blk d1 ∧ jj = scanDown (fun y => !ltInt y d1[a]!) d1 i1 j0)
  case first =>
    go_wp2
    go_loopw [11] (fun v W => ∃ jj : Nat, v = .int .i64 jj ∧ jj ≤ j0 ∧ i1 ≤ jj + 2 ∧ SW w W blk d1 ∧ scanDown (fun y => !ltInt y d1[a]!) d1 i1 jj = scanDown (fun y => !ltInt y d1[a]!) d1 i1 j0) (fun v _ => (intOf v).toNat)
    case atStart => exact ⟨j0, rfl, Nat.le_refl _, by omega, HSu.out, rfl⟩
    case round =>
      obtain ⟨jj, rfl, hj1, hj2, hs, he⟩ := hrel
      have HSi := Lib.hid hs
      have HE := Lib.hid he
      clear hs he
      have hrow := HSi.out.row HH.out (by first | rfl | (rw [HX1.out]; exact HN.out))
      obtain ⟨G, hG⟩ : ∃ G : Nat → Int, ∀ t, G t = d1[t]! := ⟨fun t => d1[t]!, fun _ => rfl⟩
      have hcw : ∀ t, t < N → wr.cell? ⟨blk, t, none⟩ = some (.int .i32 (G t)) := fun t ht => by rw [hG]; exact (hrow.get (by rw [HX1.out]; omega)).1
      have hfw : ∀ t, t < N → wr.frozen? ⟨blk, t, none⟩ = false := fun t ht => (hrow.get (by rw [HX1.out]; omega)).2
      have HG := Lib.hid hG
      clear hrow hG
      by_cases hij : i1 ≤ jj
      · have hjjN : jj < N := by omega
        have hj0 : 1 ≤ jj := by omega
        go_wp2
        go_quiet (first | (go_at_call 31; refine Calls.quiet_of_same (lless_any _ _ _)))
        rcases hl : ltInt (G jj) (G a) with _ | _
        ·
          go_wp2
          go_roundw
          case rel => exact ⟨jj - 1, by congr 1; omega, by omega, by omega, HSi.out.drewN _, by rw [← HE.out]; exact (scan_dn_step hij hj0 (by show (_ : Bool) = true; rw [← HG.out, ← HG.out, hl]; try rfl)).symm⟩
          case measure => simp [intOf]; omega
        ·
          go_wp2
          go_meet
          exact ⟨jj, rfl, hj1, hj2, HSi.out.drewN _, by rw [← HE.out]; exact (scan_dn_halt (fun h => by have h2 : (_ : Bool) = true := h.2; simp only [← HG.out] at h2; rw [hl] at h2; simp at h2)).symm⟩
      · have tij : decide (i1 ≤ jj) = false := decide_eq_false hij
        have tij' : decide ((i1 : Int) ≤ (jj : Int)) = false := decide_eq_false (by omega)
        go_wp2
        go_quiet (first | (go_at_call 31; refine Calls.quiet_of_same (lless_any _ _ _)))
        go_wp2
        go_meet
        exact ⟨jj, rfl, hj1, hj2, HSi.out.drewN _, by rw [← HE.out]; exact (scan_dn_halt (fun h => hij h.1)).symm⟩
  case rest =>
  obtain ⟨j1, rfl, hj21, hj22, hs2, he2⟩ := hcut
  have HSd := Lib.hid hs2
  have HD := Lib.hid he2
  clear hs2 he2
  rw [← HU.out, ← HD.out] at HR
  by_cases hgt : j1 < i1
  · have tg : decide (j1 < i1) = true := decide_eq_true hgt
    have tg' : decide ((j1 : Int) < (i1 : Int)) = true := decide_eq_true (by omega)
    have HF : Hid (R = (j1, true, swp d1 j1 a)) := by unfold Hid; rw [HR.out, if_pos hgt]
    have hj1N : j1 < N := by omega
    clear hgt
    go_upto_region 8 with (fail)
    go_cut [0] (fun t W => t = .slice (some ⟨blk, 0, none⟩) N cap ∧ SW w W blk (swp d1 j1 a))
    case first =>
      have hrow := HSd.out.row HH.out (by first | rfl | (rw [HX1.out]; exact HN.out))
      obtain ⟨G, hG⟩ : ∃ G : Nat → Int, ∀ t, G t = d1[t]! := ⟨fun t => d1[t]!, fun _ => rfl⟩
      have hcw : ∀ t, t < N → wc.cell? ⟨blk, t, none⟩ = some (.int .i32 (G t)) := fun t ht => by rw [hG]; exact (hrow.get (by rw [HX1.out]; omega)).1
      have hfw : ∀ t, t < N → wc.frozen? ⟨blk, t, none⟩ = false := fun t ht => (hrow.get (by rw [HX1.out]; omega)).2
      have HG := Lib.hid hG
      clear hrow hG
      by_cases hij : j1 = a
      · first | subst hij | (have hij2 := hij.symm; subst hij2)
        go_wp2
        go_region
        all_goals go_wp2
        all_goals
          go_meet
          refine ⟨rfl, ?_⟩
          rw [HG.out]
          exact (HSd.out.drewN 1).swap (by have := HX1.out; omega) (by have := HX1.out; omega)
      · have hji : ¬ (a = j1) := fun h => hij h.symm
        go_wp2
        go_region
        all_goals go_wp2
        all_goals
          go_meet
          refine ⟨rfl, ?_⟩
          rw [HG.out, HG.out]
          exact (HSd.out.drewN 1).swap (by have := HX1.out; omega) (by have := HX1.out; omega)
    case rest =>
    obtain ⟨rfl, hsq⟩ := hcut
    have HSq := Lib.hid hsq
    clear hsq
    go_wp2
    go_ret2
    rw [HF.out]
    exact ⟨rfl, HSq.out⟩
  · have tg : decide (j1 < i1) = false := decide_eq_false hgt
    have tg' : decide ((j1 : Int) < (i1 : Int)) = false := decide_eq_false (by omega)
    have hi1N : i1 < N := by omega
    have hj1N : j1 < N := by omega
    have hj10 : 1 ≤ j1 := by omega
    have hle : i1 ≤ j1 := by omega
    have HF : Hid (R = ((partLoop ltInt a (i1 + 1) (j1 - 1) (swp d1 i1 j1)).1, false, swp (partLoop ltInt a (i1 + 1) (j1 - 1) (swp d1 i1 j1)).2 (partLoop ltInt a (i1 + 1) (j1 - 1) (swp d1 i1 j1)).1 a)) := by unfold Hid; rw [HR.out, if_neg hgt]
    clear hgt
    go_upto_region 10 with (fail)
    go_cut [0] (fun t W => t = .slice (some ⟨blk, 0, none⟩) N cap ∧ SW w W blk (swp d1 i1 j1))
    case first =>
      have hrow := HSd.out.row HH.out (by first | rfl | (rw [HX1.out]; exact HN.out))
      obtain ⟨G, hG⟩ : ∃ G : Nat → Int, ∀ t, G t = d1[t]! := ⟨fun t => d1[t]!, fun _ => rfl⟩
      have hcw : ∀ t, t < N → wc.cell? ⟨blk, t, none⟩ = some (.int .i32 (G t)) := fun t ht => by rw [hG]; exact (hrow.get (by rw [HX1.out]; omega)).1
      have hfw : ∀ t, t < N → wc.frozen? ⟨blk, t, none⟩ = false := fun t ht => (hrow.get (by rw [HX1.out]; omega)).2
      have HG := Lib.hid hG
      clear hrow hG
      by_cases hij : i1 = j1
      · first | subst hij | (have hij2 := hij.symm; subst hij2)
        go_wp2
        go_region
        all_goals go_wp2
        all_goals
          go_meet
          refine ⟨rfl, ?_⟩
          rw [HG.out]
          exact (HSd.out.drewN 1).swap (by have := HX1.out; omega) (by have := HX1.out; omega)
      · have hji : ¬ (j1 = i1) := fun h => hij h.symm
        go_wp2
        go_region
        all_goals go_wp2
        all_goals
          go_meet
          refine ⟨rfl, ?_⟩
          rw [HG.out, HG.out]
          exact (HSd.out.drewN 1).swap (by have := HX1.out; omega) (by have := HX1.out; omega)
    case rest =>
    obtain ⟨rfl, hsq⟩ := hcut
    have HSq := Lib.hid hsq
    clear hsq
    have HX2 : Hid ((swp d1 i1 j1).size = N) := by unfold Hid; rw [swp_size]; exact HX1.out
    generalize swp d1 i1 j1 = d2 at *
    clear HSd HSu HS1 HU HD
    obtain ⟨i2, hi2⟩ : ∃ i2, i2 = i1 + 1 := ⟨_, rfl⟩
    obtain ⟨j2, hj2⟩ : ∃ j2, j2 = j1 - 1 := ⟨_, rfl⟩
    have si2 : IntKind.i64.wrap ((i1 : Int) + 1) = (i2 : Int) := by rw [IntKind.wrap_i64]; omega
    have sj2 : IntKind.i64.wrap ((j1 : Int) - 1) = (j2 : Int) := by rw [IntKind.wrap_i64]; omega
    have si2' : (i1 : Int) + 1 = (i2 : Int) := by omega
    have sj2' : (j1 : Int) - 1 = (j2 : Int) := by omega
    rw [← hi2, ← hj2] at HF
    have hai2 : a < i2 := by omega
    have hij2 : i2 ≤ j2 + 2 := by omega
    have hj2N : j2 < N := by omega
    clear hi2 hj2
    go_upto_block 4 with (fail)
    go_cut [11] (fun t W => ∃ (jf : Nat) (y : Array Int), t = .int .i64 jf ∧ jf < N ∧ y.size = N ∧ SW w W blk y ∧ partLoop ltInt a i2 j2 d2 = (jf, y))
    case first =>
      go_wp2
      go_loopw [10, 11] (fun v u W => PPt w blk a N i2 j2 d2 v u W) (fun v u _ => (intOf u).toNat + 2 - (intOf v).toNat)
      case atStart => exact ⟨i2, j2, d2, rfl, rfl, hai2, hij2, hj2N, HX2.out, HSq.out, rfl⟩
      case round =>
        obtain ⟨i, j, x, rfl, rfl, hai, hijr, hjN, hx, hs, he⟩ := hrel
        have HX := Lib.hid hx
        have HSx := Lib.hid hs
        have HL := Lib.hid he
        clear hx hs he HSq
        have HPL := Lib.hid (partLoop_eq ltInt a i j x)
        go_upto_block 6 with (fail)
        go_cut [10] (fun t W => ∃ ii : Nat, t = .int .i64 ii ∧ i ≤ ii ∧ ii ≤ j + 2 ∧ SW w W blk x ∧ ii = scanUp (fun y => ltInt y x[a]!) x j i)
        case first =>
          go_wp2
          go_loopw [10] (fun v W => ∃ ii : Nat, v = .int .i64 ii ∧ i ≤ ii ∧ ii ≤ j + 2 ∧ SW w W blk x ∧ scanUp (fun y => ltInt y x[a]!) x j ii = scanUp (fun y => ltInt y x[a]!) x j i) (fun v _ => j + 2 - (intOf v).toNat)
          case atStart => exact ⟨i, rfl, Nat.le_refl _, by omega, HSx.out, rfl⟩
          case round =>
            obtain ⟨ii, rfl, hi1, hi2, hs, he⟩ := hrel
            have HSi := Lib.hid hs
            have HE := Lib.hid he
            clear hs he
            have hrow := HSi.out.row HH.out (by first | rfl | (rw [HX.out]; exact HN.out))
            obtain ⟨G, hG⟩ : ∃ G : Nat → Int, ∀ t, G t = x[t]! := ⟨fun t => x[t]!, fun _ => rfl⟩
            have hcw : ∀ t, t < N → wr.cell? ⟨blk, t, none⟩ = some (.int .i32 (G t)) := fun t ht => by rw [hG]; exact (hrow.get (by rw [HX.out]; omega)).1
            have hfw : ∀ t, t < N → wr.frozen? ⟨blk, t, none⟩ = false := fun t ht => (hrow.get (by rw [HX.out]; omega)).2
            have HG := Lib.hid hG
            clear hrow hG
            by_cases hij : ii ≤ j
            · have hiN : ii < N := by omega
              go_wp2
              go_quiet (first | (go_at_call 31; refine Calls.quiet_of_same (lless_any _ _ _)))
              rcases hl : ltInt (G ii) (G a) with _ | _
              ·
                go_wp2
                go_meet
                exact ⟨ii, rfl, hi1, hi2, HSi.out.drewN _, by rw [← HE.out]; exact (scan_up_halt (fun h => by have h2 : (_ : Bool) = true := h.2; simp only [← HG.out] at h2; rw [hl] at h2; simp at h2)).symm⟩
              ·
                go_wp2
                go_roundw
                case rel => exact ⟨ii + 1, by go_num, by omega, by omega, HSi.out.drewN _, by rw [← HE.out]; exact (scan_up_step hij (by show (_ : Bool) = true; rw [← HG.out, ← HG.out, hl]; try rfl)).symm⟩
                case measure => simp [intOf]; omega
            · have tij : decide (ii ≤ j) = false := decide_eq_false hij
              have tij' : decide ((ii : Int) ≤ (j : Int)) = false := decide_eq_false (by omega)
              go_wp2
              go_quiet (first | (go_at_call 31; refine Calls.quiet_of_same (lless_any _ _ _)))
              go_wp2
              go_meet
              exact ⟨ii, rfl, hi1, hi2, HSi.out.drewN _, by rw [← HE.out]; exact (scan_up_halt (fun h => hij h.1)).symm⟩
        case rest =>
        obtain ⟨i3, rfl, hi21, hi22, hs2, he2⟩ := hcut
        have HSu := Lib.hid hs2
        have HU := Lib.hid he2
        clear hs2 he2
        go_upto_block 8 with (fail)
        go_cut [11] (fun t W => ∃ jj : Nat, t = .int .i64 jj ∧ jj ≤ j ∧ i3 ≤ jj + 2 ∧ SW w W blk x ∧ jj = scanDown (fun y => !ltInt y x[a]!) x i3 j)
        case first =>
          go_wp2
          go_loopw [11] (fun v W => ∃ jj : Nat, v = .int .i64 jj ∧ jj ≤ j ∧ i3 ≤ jj + 2 ∧ SW w W blk x ∧ scanDown (fun y => !ltInt y x[a]!) x i3 jj = scanDown (fun y => !ltInt y x[a]!) x i3 j) (fun v _ => (intOf v).toNat)
          case atStart => exact ⟨j, rfl, Nat.le_refl _, by omega, HSu.out, rfl⟩
          case round =>
            obtain ⟨jj, rfl, hj1, hj2, hs, he⟩ := hrel
            have HSi := Lib.hid hs
            have HE := Lib.hid he
            clear hs he
            have hrow := HSi.out.row HH.out (by first | rfl | (rw [HX.out]; exact HN.out))
            obtain ⟨G, hG⟩ : ∃ G : Nat → Int, ∀ t, G t = x[t]! := ⟨fun t => x[t]!, fun _ => rfl⟩
            have hcw : ∀ t, t < N → wr.cell? ⟨blk, t, none⟩ = some (.int .i32 (G t)) := fun t ht => by rw [hG]; exact (hrow.get (by rw [HX.out]; omega)).1
            have hfw : ∀ t, t < N → wr.frozen? ⟨blk, t, none⟩ = false := fun t ht => (hrow.get (by rw [HX.out]; omega)).2
            have HG := Lib.hid hG
            clear hrow hG
            by_cases hij : i3 ≤ jj
            · have hjjN : jj < N := by omega
              have hj0 : 1 ≤ jj := by omega
              go_wp2
              go_quiet (first | (go_at_call 31; refine Calls.quiet_of_same (lless_any _ _ _)))
              rcases hl : ltInt (G jj) (G a) with _ | _
              ·
                go_wp2
                go_roundw
                case rel => exact ⟨jj - 1, by congr 1; omega, by omega, by omega, HSi.out.drewN _, by rw [← HE.out]; exact (scan_dn_step hij hj0 (by show (_ : Bool) = true; rw [← HG.out, ← HG.out, hl]; try rfl)).symm⟩
                case measure => simp [intOf]; omega
              ·
                go_wp2
                go_meet
                exact ⟨jj, rfl, hj1, hj2, HSi.out.drewN _, by rw [← HE.out]; exact (scan_dn_halt (fun h => by have h2 : (_ : Bool) = true := h.2; simp only [← HG.out] at h2; rw [hl] at h2; simp at h2)).symm⟩
            · have tij : decide (i3 ≤ jj) = false := decide_eq_false hij
              have tij' : decide ((i3 : Int) ≤ (jj : Int)) = false := decide_eq_false (by omega)
              go_wp2
              go_quiet (first | (go_at_call 31; refine Calls.quiet_of_same (lless_any _ _ _)))
              go_wp2
              go_meet
              exact ⟨jj, rfl, hj1, hj2, HSi.out.drewN _, by rw [← HE.out]; exact (scan_dn_halt (fun h => hij h.1)).symm⟩
        case rest =>
        obtain ⟨j3, rfl, hj21, hj22, hs2, he2⟩ := hcut
        have HSd := Lib.hid hs2
        have HD := Lib.hid he2
        clear hs2 he2
        have HPL2 : Hid (partLoop ltInt a i j x = if i3 > j3 then (j3, x) else partLoop ltInt a (i3 + 1) (j3 - 1) (swp x i3 j3)) := by
          unfold Hid; rw [HPL.out, ← HU.out, ← HD.out]
        by_cases hgt : j3 < i3
        · have tg : decide (j3 < i3) = true := decide_eq_true hgt
          have tg' : decide ((j3 : Int) < (i3 : Int)) = true := decide_eq_true (by omega)
          have HF2 : Hid (partLoop ltInt a i2 j2 d2 = (j3, x)) := by unfold Hid; rw [← HL.out, HPL2.out, if_pos hgt]
          clear hgt
          go_wp2
          go_meet
          exact ⟨j3, x, rfl, by omega, HX.out, HSd.out, HF2.out⟩
        · have tg : decide (j3 < i3) = false := decide_eq_false hgt
          have tg' : decide ((j3 : Int) < (i3 : Int)) = false := decide_eq_false (by omega)
          have HF2 : Hid (partLoop ltInt a (i3 + 1) (j3 - 1) (swp x i3 j3) = partLoop ltInt a i2 j2 d2) := by unfold Hid; rw [← HL.out, HPL2.out, if_neg hgt]
          have hi3N : i3 < N := by omega
          have hj3N : j3 < N := by omega
          have hj30 : 1 ≤ j3 := by omega
          have hle3 : i3 ≤ j3 := by omega
          clear hgt
          go_upto_region 18 with (fail)
          go_cut [0] (fun t W => t = .slice (some ⟨blk, 0, none⟩) N cap ∧ SW w W blk (swp x i3 j3))
          case first =>
            have hrow := HSd.out.row HH.out (by first | rfl | (rw [HX.out]; exact HN.out))
            obtain ⟨G, hG⟩ : ∃ G : Nat → Int, ∀ t, G t = x[t]! := ⟨fun t => x[t]!, fun _ => rfl⟩
            have hcw : ∀ t, t < N → wc.cell? ⟨blk, t, none⟩ = some (.int .i32 (G t)) := fun t ht => by rw [hG]; exact (hrow.get (by rw [HX.out]; omega)).1
            have hfw : ∀ t, t < N → wc.frozen? ⟨blk, t, none⟩ = false := fun t ht => (hrow.get (by rw [HX.out]; omega)).2
            have HG := Lib.hid hG
            clear hrow hG
            by_cases hij : i3 = j3
            · first | subst hij | (have hij2 := hij.symm; subst hij2)
              go_wp2
              go_region
              all_goals go_wp2
              all_goals
                go_meet
                refine ⟨rfl, ?_⟩
                rw [HG.out]
                exact (HSd.out.drewN 1).swap (by have := HX.out; omega) (by have := HX.out; omega)
            · have hji : ¬ (j3 = i3) := fun h => hij h.symm
              go_wp2
              go_region
              all_goals go_wp2
              all_goals
                go_meet
                refine ⟨rfl, ?_⟩
                rw [HG.out, HG.out]
                exact (HSd.out.drewN 1).swap (by have := HX.out; omega) (by have := HX.out; omega)
          case rest =>
          obtain ⟨rfl, hsq⟩ := hcut
          have HSq := Lib.hid hsq
          clear hsq
          go_wp2
          go_roundw
          case rel => exact ⟨i3 + 1, j3 - 1, swp x i3 j3, by go_num, by congr 1; omega, by omega, by omega, by omega, by rw [swp_size]; exact HX.out, HSq.out, HF2.out⟩
          case measure => simp [intOf]; omega
    case rest =>
    obtain ⟨jf, y, rfl, hjf, hy, hs, hpl⟩ := hcut
    have HXf := Lib.hid hy
    have HSf := Lib.hid hs
    have HF3 : Hid (R = (jf, false, swp y jf a)) := by unfold Hid; rw [HF.out, hpl]
    clear hy hs hpl HF
    go_upto_region 21 with (fail)
    go_cut [0] (fun t W => t = .slice (some ⟨blk, 0, none⟩) N cap ∧ SW w W blk (swp y jf a))
    case first =>
      have hrow := HSf.out.row HH.out (by first | rfl | (rw [HXf.out]; exact HN.out))
      obtain ⟨G, hG⟩ : ∃ G : Nat → Int, ∀ t, G t = y[t]! := ⟨fun t => y[t]!, fun _ => rfl⟩
      have hcw : ∀ t, t < N → wc.cell? ⟨blk, t, none⟩ = some (.int .i32 (G t)) := fun t ht => by rw [hG]; exact (hrow.get (by rw [HXf.out]; omega)).1
      have hfw : ∀ t, t < N → wc.frozen? ⟨blk, t, none⟩ = false := fun t ht => (hrow.get (by rw [HXf.out]; omega)).2
      have HG := Lib.hid hG
      clear hrow hG
      by_cases hij : jf = a
      · first | subst hij | (have hij2 := hij.symm; subst hij2)
        go_wp2
        go_region
        all_goals go_wp2
        all_goals
          go_meet
          refine ⟨rfl, ?_⟩
          rw [HG.out]
          exact (HSf.out.drewN 1).swap (by have := HXf.out; omega) (by have := HXf.out; omega)
      · have hji : ¬ (a = jf) := fun h => hij h.symm
        go_wp2
        go_region
        all_goals go_wp2
        all_goals
          go_meet
          refine ⟨rfl, ?_⟩
          rw [HG.out, HG.out]
          exact (HSf.out.drewN 1).swap (by have := HXf.out; omega) (by have := HXf.out; omega)
    case rest =>
    obtain ⟨rfl, hsq⟩ := hcut
    have HSz := Lib.hid hsq
    clear hsq
    go_wp2
    go_ret2
    rw [HF3.out]
    exact ⟨rfl, HSz.out⟩
end Go.Proofs.Ytghclmbicdmboaa
