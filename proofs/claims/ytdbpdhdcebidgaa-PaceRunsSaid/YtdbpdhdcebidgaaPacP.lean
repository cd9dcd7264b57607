/- The contracts of a Pace. -/
import Derived.Test.YtdbpdhdcebidgaaPacR
import Derived.Deep.RegionWith
import Derived.Deep.CutBlock
import Derived.Deep.QuietTactic
namespace Go.Proofs.Ytdbpdhdcebidgaa
open Go.RowKit PacM

/-- A Pace in memory. -/
def PaceAt (w : World) (b : Nat) (sd u r c s n : Int) : Prop :=
  w.heap[b]? = some (.cells #[.int .u64 sd, .int .i64 u, .int .i64 r, .int .i64 c, .int .i64 s, .int .i64 n] 47 (0, 0))
section
variable {w w' : World} {b : Nat} {sd u r c s n : Int}
theorem PaceAt.lt (h : PaceAt w b sd u r c s n) : b < w.heap.size := lt_of_heap h
theorem PaceAt.same (h : PaceAt w b sd u r c s n) (e : w'.heap[b]? = w.heap[b]?) : PaceAt w' b sd u r c s n := by
  unfold PaceAt; rw [e]; exact h
theorem PaceAt.c1 (h : PaceAt w b sd u r c s n) : w.cell? ⟨b, 1, none⟩ = some (.int .i64 u) := by rw [Lib.cell_of_heap h]; rfl
theorem PaceAt.c2 (h : PaceAt w b sd u r c s n) : w.cell? ⟨b, 2, none⟩ = some (.int .i64 r) := by rw [Lib.cell_of_heap h]; rfl
theorem PaceAt.c3 (h : PaceAt w b sd u r c s n) : w.cell? ⟨b, 3, none⟩ = some (.int .i64 c) := by rw [Lib.cell_of_heap h]; rfl
theorem PaceAt.c4 (h : PaceAt w b sd u r c s n) : w.cell? ⟨b, 4, none⟩ = some (.int .i64 s) := by rw [Lib.cell_of_heap h]; rfl
theorem PaceAt.c5 (h : PaceAt w b sd u r c s n) : w.cell? ⟨b, 5, none⟩ = some (.int .i64 n) := by rw [Lib.cell_of_heap h]; rfl
theorem PaceAt.free (h : PaceAt w b sd u r c s n) (i : Nat) : w.frozen? ⟨b, i, none⟩ = false := Lib.frozen_of_heap h i
theorem PaceAt.s3 (h : PaceAt w b sd u r c s n) (x : Int) : PaceAt (w.setCell ⟨b, 3, none⟩ (.int .i64 x)) b sd u r x s n := Lib.heap_setCell_same h _
theorem PaceAt.s4 (h : PaceAt w b sd u r c s n) (x : Int) : PaceAt (w.setCell ⟨b, 4, none⟩ (.int .i64 x)) b sd u r c x n := Lib.heap_setCell_same h _
theorem PaceAt.s5 (h : PaceAt w b sd u r c s n) (x : Int) : PaceAt (w.setCell ⟨b, 5, none⟩ (.int .i64 x)) b sd u r c s x := Lib.heap_setCell_same h _
end
/-- Does it begin anew? -/
def due (u n s : Int) : Bool := decide (u * (lub (min (max (n + 1) 1) 1048576).toNat : Int) ≤ s + 1)
set_option maxHeartbeats 3200000 in
set_option maxRecDepth 100000 in
theorem conflict_any {w : World} {b : Nat} {sd u r c s n : Int} (h : PaceAt w b sd u r c s n) (hu : 1 ≤ u ∧ u ≤ 1048576) (hc : 0 ≤ c ∧ c ≤ 100000) (hs : 0 ≤ s ∧ s ≤ 100000) (hn : 0 ≤ n ∧ n ≤ 100000) :
    Calls Try.prog 16 #[.pointer (some ⟨b, 0, none⟩)] w fun e w' => e = .returned (.bool (due u n s)) ∧ PaceAt w' b sd u r (c + 1) (if due u n s = true then 0 else s + 1) (if due u n s = true then n + 1 else n) ∧ Kf (fun k => k = b) w w' := by
  have hc3 := h.c3
  have hf3 := h.free 3
  have hw1 : wrap64 (c + 1) = c + 1 := by simp only [wrap64]; omega
  have hw2 : wrap64 (s + 1) = s + 1 := by simp only [wrap64]; omega
  have hw3 : wrap64 (n + 1) = n + 1 := by simp only [wrap64]; omega
  have HP1 := Lib.hid (h.s3 (c + 1))
  have HK1 : Hid (Kf (fun k => k = b) w (w.setCell ⟨b, 3, none⟩ (.int .i64 (c + 1)))) := (Kf.refl (fun k => k = b) w).set (p := ⟨b, 3, none⟩) (.inl rfl) _
  have hlb := lub_bd (i := (min (max (n + 1) 1) 1048576).toNat) (by omega) (by omega)
  have hmz : (min (max (n + 1) 1) 1048576).toNat ≤ 1048576 := by omega
  have HRW : Hid (∀ V : World, Calls Try.prog 23 #[.int .i64 (n + 1)] V fun e w' => e = .returned (.int .i64 ((min (max (n + 1) 1) 1048576).toNat : Nat)) ∧ w' = V) := fun V => (within_any (n + 1) V).mono fun e w' ⟨h1, h2⟩ => ⟨by rw [h1]; exact ret_int (by omega), h2.symm⟩
  have HRL : Hid (∀ V : World, Calls Try.prog 20 #[.int .i64 ((min (max (n + 1) 1) 1048576).toNat : Nat)] V fun e w' => e = .returned (.int .i64 (lub (min (max (n + 1) 1) 1048576).toNat)) ∧ w' = V) := fun V => (lub_any _ V (by omega) (by omega)).mono fun e w' ⟨h1, h2⟩ => ⟨h1, h2.symm⟩
  have HDU : Hid (due u n s = decide (u * (lub (min (max (n + 1) 1) 1048576).toNat : Int) ≤ s + 1)) := rfl
  generalize lub (min (max (n + 1) 1) 1048576).toNat = lz at *
  generalize (min (max (n + 1) 1) 1048576).toNat = mz at *
  generalize due u n s = du at *
  have hlz : lz ≤ 1048576 := by omega
  have hmul : 0 ≤ u * (lz : Int) ∧ u * (lz : Int) ≤ 1048576 * 1048576 := ⟨Int.mul_nonneg (by omega) (by omega), Int.mul_le_mul hu.2 (by omega) (by omega) (by omega)⟩
  have hw4 : wrap64 (u * (lz : Int)) = u * (lz : Int) := by
    generalize u * (lz : Int) = z at *
    simp only [wrap64]; omega
  clear h
  go_enter Try.func16, Try.ntmps16
  go_upto_region 2 with (fail)
  obtain ⟨w1, hw1⟩ : ∃ w1, w1 = w.setCell ⟨b, 3, none⟩ (.int .i64 (c + 1)) := ⟨_, rfl⟩
  rw [← hw1] at HP1 HK1 ⊢
  clear hw1 hc3 hf3
  have hc4 := HP1.out.c4
  have hf4 := HP1.out.free 4
  have HP2 := Lib.hid (HP1.out.s4 (s + 1))
  have HK2 : Hid (Kf (fun k => k = b) w (w1.setCell ⟨b, 4, none⟩ (.int .i64 (s + 1)))) := HK1.out.set (p := ⟨b, 4, none⟩) (.inl rfl) _
  clear HP1 HK1
  go_upto_region 3 with (fail)
  obtain ⟨w2, hw2⟩ : ∃ w2, w2 = w1.setCell ⟨b, 4, none⟩ (.int .i64 (s + 1)) := ⟨_, rfl⟩
  rw [← hw2] at HP2 HK2 ⊢
  clear hw2 hc4 hf4
  have HRW2 : Hid (∀ V : World, Calls Try.prog 23 #[.int .i64 (IntKind.i64.wrap (n + 1))] V fun e w' => e = .returned (.int .i64 (mz : Nat)) ∧ w' = V) := by
    have e : IntKind.i64.wrap (n + 1) = n + 1 := by rw [IntKind.wrap_i64]; omega
    rw [e]; exact HRW.out
  clear HRW
  have hc1 := HP2.out.c1
  have hc4 := HP2.out.c4
  have hc5 := HP2.out.c5
  have HP3 : Hid (∀ q, PaceAt (w2.drewN q) b sd u r (c + 1) (s + 1) n) := fun q => HP2.out.same rfl
  have HK3 : Hid (∀ q, Kf (fun k => k = b) w (w2.drewN q)) := fun q => HK2.out.drewN q
  clear HP2 HK2
  have hlt : (s + 1 < u * (lz : Int)) ↔ du = false := by rw [HDU.out, decide_eq_false_iff_not]; omega
  go_quiet (first | (go_at_call 23; exact Calls.quiet_of_same (HRW2.out _)) | (go_at_call 20; exact Calls.quiet_of_same (HRL.out _)))
  have hw5 : IntKind.i64.wrap (u * (lz : Int)) = u * (lz : Int) := by
    generalize u * (lz : Int) = z at *
    rw [IntKind.wrap_i64]; omega
  have HPq := Lib.hid (HP3.out nq)
  have HKq := Lib.hid (HK3.out nq)
  clear HP3 HK3 hc1 hc4 hc5 HRL HRW2 HDU hmul hlb
  generalize w2.drewN nq = w3 at *
  rw [hw5]
  clear hw5 hw4
  generalize u * (lz : Int) = z at *
  cases du with
  | false =>
    have hz : s + 1 < z := hlt.2 rfl
    have t1 : decide (s + 1 < z) = true := decide_eq_true hz
    clear hlt
    go_wp2_with fail
    go_ret
    exact ⟨rfl, HPq.out, HKq.out⟩
  | true =>
    have hz : z ≤ s + 1 := by
      rcases Int.lt_or_le (s + 1) z with h | h
      · have := hlt.1 h; cases this
      · exact h
    have t1 : decide (s + 1 < z) = false := decide_eq_false (by omega)
    clear hlt
    have hc5 := HPq.out.c5
    have hf5 := HPq.out.free 5
    have HP5 := Lib.hid (HPq.out.s5 (n + 1))
    have HK5 : Hid (Kf (fun k => k = b) w (w3.setCell ⟨b, 5, none⟩ (.int .i64 (n + 1)))) := HKq.out.set (p := ⟨b, 5, none⟩) (.inl rfl) _
    clear HPq HKq
    go_upto_region 6 with (fail)
    obtain ⟨w4, hw4'⟩ : ∃ w4, w4 = w3.setCell ⟨b, 5, none⟩ (.int .i64 (n + 1)) := ⟨_, rfl⟩
    rw [← hw4'] at HP5 HK5 ⊢
    clear hw4' hc5 hf5
    have hc4 := HP5.out.c4
    have hf4 := HP5.out.free 4
    have HP6 := Lib.hid (HP5.out.s4 0)
    have HK6 : Hid (Kf (fun k => k = b) w (w4.setCell ⟨b, 4, none⟩ (.int .i64 0))) := HK5.out.set (p := ⟨b, 4, none⟩) (.inl rfl) _
    clear HP5 HK5
    go_wp2_with fail
    go_ret
    exact ⟨rfl, HP6.out, HK6.out⟩
set_option maxHeartbeats 3200000 in
theorem restarts_any {w : World} {b : Nat} {sd u r c s n : Int} (h : PaceAt w b sd u r c s n) :
    Calls Try.prog 17 #[.pointer (some ⟨b, 0, none⟩)] w fun e w' => e = .returned (.int .i64 n) ∧ w' = w := by
  have hc5 := h.c5
  clear h
  go_enter Try.func17, Try.ntmps17
  go_wp2_with fail
  go_ret
  exact ⟨rfl, rfl⟩
set_option maxHeartbeats 3200000 in
theorem conflicts_any {w : World} {b : Nat} {sd u r c s n : Int} (h : PaceAt w b sd u r c s n) :
    Calls Try.prog 18 #[.pointer (some ⟨b, 0, none⟩)] w fun e w' => e = .returned (.int .i64 c) ∧ w' = w := by
  have hc5 := h.c3
  clear h
  go_enter Try.func18, Try.ntmps18
  go_wp2_with fail
  go_ret
  exact ⟨rfl, rfl⟩
/-- How many are forgotten. -/
def forgZ (r c l : Int) : Int := if r + c / 10 ≤ l then l / 2 else 0
set_option maxHeartbeats 3200000 in
theorem forget_any {w : World} {b : Nat} {sd u r c s n : Int} (h : PaceAt w b sd u r c s n) (hr : 1 ≤ r ∧ r ≤ 1048576) (hc : 0 ≤ c ∧ c ≤ 100000) (l : Int) (hl : -9223372036854775808 ≤ l ∧ l ≤ 9223372036854775807) :
    Calls Try.prog 19 #[.pointer (some ⟨b, 0, none⟩), .int .i64 l] w fun e w' => e = .returned (.int .i64 (forgZ r c l)) ∧ ∃ q, w' = w.drewN q := by
  have hc2 := h.c2
  have hc3 := h.c3
  clear h
  have hw6 : IntKind.i64.wrap (r + IntKind.i64.wrap (c.tdiv 10)) = r + c / 10 := by
    rw [Int.tdiv_eq_ediv_of_nonneg hc.1, IntKind.wrap_i64, IntKind.wrap_i64]; omega
  have HF : Hid (forgZ r c l = if r + c / 10 ≤ l then l / 2 else 0) := rfl
  have hz : 1 ≤ r + c / 10 := by omega
  generalize forgZ r c l = fz at *
  go_enter Try.func19, Try.ntmps19
  go_upto_region 1 with (fail)
  go_quiet (fail)
  clear hc2 hc3 hw6
  generalize r + c / 10 = z at *
  by_cases hlt : l < z
  · have t1 : decide (l < z) = true := decide_eq_true hlt
    have HF2 : Hid (fz = 0) := by unfold Hid; rw [HF.out, if_neg (by omega)]
    clear HF
    go_wp2_with fail
    go_ret
    exact ⟨ret_int HF2.out.symm, _, rfl⟩
  · have t1 : decide (l < z) = false := decide_eq_false hlt
    have HF2 : Hid (fz = l / 2) := by unfold Hid; rw [HF.out, if_pos (by omega)]
    have hl0 : 0 ≤ l := by omega
    clear HF
    go_wp2_with fail
    go_ret
    exact ⟨ret_int HF2.out.symm, _, rfl⟩
/-- As it counts. -/
def winZ (n : Int) : Int := min (max n 1) 1048576
theorem winZ_bd (n : Int) : 1 ≤ winZ n ∧ winZ n ≤ 1048576 := by unfold winZ; omega
set_option maxHeartbeats 3200000 in
set_option maxRecDepth 100000 in
theorem new_any (w : World) (sd u r : Int) :
    Calls Try.prog 13 #[.agg #[.int .u64 sd, .int .i64 u, .int .i64 r]] w fun e w' => ∃ b, e = .returned (.pointer (some ⟨b, 0, none⟩)) ∧ PaceAt w' b sd (winZ u) (winZ r) 0 0 0 ∧ w.heap.size ≤ b ∧ Below w.heap.size w w' := by
  have HU := Lib.hid (within_any u)
  have HRR := Lib.hid (within_any r)
  have eu : min (max u 1) 1048576 = winZ u := rfl
  have er : min (max r 1) 1048576 = winZ r := rfl
  rw [eu] at HU
  rw [er] at HRR
  clear eu er
  generalize winZ u = zu at *
  generalize winZ r = zr at *
  go_enter Try.func13, Try.ntmps13
  go_wp2_with fail
  refine (HU.out _).mono ?_
  rintro e w' ⟨rfl, rfl⟩
  go_wp2_with fail
  refine (HRR.out _).mono ?_
  rintro e w' ⟨rfl, rfl⟩
  go_wp2_with fail
  go_ret
  have hx : ∀ (V : World) (o : Obj), V.heap.size = w.heap.size + 1 → (V.alloc o).heap[w.heap.size + 1]? = some o := fun V o h => by rw [← h]; exact blk_new V o
  refine ⟨_, rfl, ?_, Nat.le_succ _, ?_⟩
  · unfold PaceAt
    refine hx _ _ ?_
    simp only [World.size_alloc]
  · refine Below.alloc ((Below.refl _ _).alloc (Nat.le_refl _) _) ?_ _
    simp only [World.size_alloc]; omega
theorem size_drew (w : World) (q : Nat) : (w.drewN q).heap.size = w.heap.size := rfl
theorem below_drewN {B : Nat} {a w : World} (h : Below B a w) (q : Nat) : Below B a (w.drewN q) := ⟨h.os, h.tape, h.output, h.size, h.block⟩
set_option maxHeartbeats 3200000 in
set_option maxRecDepth 100000 in
theorem alive_any (w : World) : Calls Try.prog 9 #[] w fun e w' => e = .returned (.bool true) ∧ Below w.heap.size w w' := by
  have H7 := Lib.hid (luby_any 7)
  have H8 := Lib.hid (luby_any 8)
  rw [if_pos (by omega), show lub (7 : Int).toNat = 4 by decide +kernel] at H7
  rw [if_pos (by omega), show lub (8 : Int).toNat = 1 by decide +kernel] at H8
  have HN := Lib.hid (fun W => new_any W 0 2 0)
  rw [show winZ 2 = 2 by decide, show winZ 0 = 1 by decide] at HN
  go_enter Try.func9, Try.ntmps9
  go_wp2_with fail
  refine (H7.out _).mono ?_
  rintro e w' ⟨rfl, rfl⟩
  go_wp2_with fail
  refine (H8.out _).mono ?_
  rintro e w' ⟨rfl, rfl⟩
  go_wp2_with fail
  refine (HN.out _).mono ?_
  rintro e w1 ⟨b, rfl, hp, hb, hB⟩
  have HC := Lib.hid (conflict_any hp (by omega) (by omega) (by omega) (by omega))
  rw [show due 2 0 0 = false by decide +kernel] at HC
  have HB := Lib.hid hB
  clear hp hB H7 H8 HN
  go_wp2_with fail
  refine HC.out.mono ?_
  rintro e w2 ⟨rfl, hp, hk⟩
  have HB2 : Hid (Below w.heap.size w w2) := HB.out.trans (hk.below HB.out.size (fun i hi => by rw [hi]; exact hb))
  have hp2 : PaceAt w2 b 0 2 1 1 1 0 := hp
  have HC2 := Lib.hid (conflict_any hp2 (by omega) (by omega) (by omega) (by omega))
  rw [show due 2 0 1 = true by decide +kernel] at HC2
  clear hp hp2 hk HC HB
  go_wp2_with fail
  refine HC2.out.mono ?_
  rintro e w3 ⟨rfl, hp, hk⟩
  have HB3 : Hid (Below w.heap.size w w3) := HB2.out.trans (hk.below HB2.out.size (fun i hi => by rw [hi]; exact hb))
  have hp3 : PaceAt w3 b 0 2 1 2 0 1 := hp
  have HE := Lib.hid (restarts_any hp3)
  have HF := Lib.hid (conflicts_any hp3)
  clear hp hp3 hk HC2 HB2
  go_wp2_with fail
  refine HE.out.mono ?_
  rintro e w' ⟨rfl, rfl⟩
  go_wp2_with fail
  refine HF.out.mono ?_
  rintro e w' ⟨rfl, rfl⟩
  go_wp2_with fail
  go_ret
  exact ⟨rfl, HB3.out⟩
end Go.Proofs.Ytdbpdhdcebidgaa
