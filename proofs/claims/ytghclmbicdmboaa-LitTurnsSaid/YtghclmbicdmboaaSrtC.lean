/- The library's choice of a pivot, at 32-bit numbers. -/
import Derived.Test.YtghclmbicdmboaaSrtH
import Derived.Lib.Builder
import Derived.Lib.BufferMore
namespace Go.Proofs.Ytghclmbicdmboaa
open Go.RowKit Go.Sort

/-- How many swaps there were, in a block of its own. -/
def SwAt (w : World) (sb s : Nat) : Prop := w.heap[sb]? = some (.cells #[.int .i64 (s : Int)] 3 (0, 0))
def OPost (w : World) (sb : Nat) (r : Nat × Nat × Nat) (e : Ending) (w' : World) : Prop := e = .returned (.tuple #[.int .i64 (r.1 : Int), .int .i64 (r.2.1 : Int)]) ∧ SwAt w' sb r.2.2 ∧ KeptR sb w w'
def MPost (w : World) (sb : Nat) (r : Nat × Nat) (e : Ending) (w' : World) : Prop := e = .returned (.int .i64 (r.1 : Int)) ∧ SwAt w' sb r.2 ∧ KeptR sb w w'
theorem SwAt.cell {w : World} {sb s : Nat} (h : SwAt w sb s) : w.cell? ⟨sb, 0, none⟩ = some (.int .i64 (s : Int)) ∧ w.frozen? ⟨sb, 0, none⟩ = false := by
  unfold SwAt at h
  exact ⟨by rw [Lib.cell_of_heap h]; rfl, Lib.frozen_of_heap h 0⟩
theorem order_bd {x : Array Int} {a b s N : Nat} (ha : a < N) (hb : b < N) : (order2 ltInt x a b s).1 < N ∧ (order2 ltInt x a b s).2.1 < N ∧ (order2 ltInt x a b s).2.2 ≤ s + 1 := by
  unfold order2
  split
  · exact ⟨hb, ha, Nat.le_refl _⟩
  · exact ⟨ha, hb, Nat.le_succ s⟩
theorem median_bd {x : Array Int} {a b c s N : Nat} (ha : a < N) (hb : b < N) (hc : c < N) : (median ltInt x a b c s).1 < N ∧ (median ltInt x a b c s).2 ≤ s + 3 := by
  have h1 := order_bd (x := x) (s := s) ha hb
  have h2 := order_bd (x := x) (s := (order2 ltInt x a b s).2.2) h1.2.1 hc
  have h3 := order_bd (x := x) (s := (order2 ltInt x (order2 ltInt x a b s).2.1 c (order2 ltInt x a b s).2.2).2.2) h1.1 h2.1
  exact ⟨h3.2.1, by show _ ≤ _; unfold median; dsimp only; omega⟩
set_option maxHeartbeats 1600000 in
set_option maxRecDepth 100000 in
theorem order2_any (blk cap sb a b s : Nat) (d : Array Int) (w : World) (hH : RowAt w blk d) (hS : SwAt w sb s) (ha : a < d.size) (hb : b < d.size) (hs : s ≤ 1000) (_ : d.size ≤ 1000000) :
    Calls Try.prog 65 #[.slice (some ⟨blk, 0, none⟩) d.size cap, .int .i64 a, .int .i64 b, .pointer (some ⟨sb, 0, none⟩)] w (OPost w sb (Sort.order2 ltInt d a b s)) := by
  obtain ⟨c1, c2⟩ := hS.cell
  have HSW := Lib.hid hS
  obtain ⟨G, hG⟩ : ∃ G : Nat → Int, ∀ t, G t = d[t]! := ⟨fun t => d[t]!, fun _ => rfl⟩
  have hcw : ∀ t, t < d.size → w.cell? ⟨blk, t, none⟩ = some (.int .i32 (G t)) := fun t ht => by rw [hG]; exact (hH.get ht).1
  have HG := Lib.hid hG
  generalize d.size = N at *
  clear hG hH hS
  go_enter Try.func65, Try.ntmps65
  go_wp2
  go_quiet (first | (go_at_call 31; refine Calls.quiet_of_same (lless_any _ _ _)))
  rcases hl : ltInt (G b) (G a) with _ | _
  · have HO : Hid (Sort.order2 ltInt d a b s = (a, b, s)) := by unfold Hid Sort.order2; rw [if_neg]; rw [← HG.out, ← HG.out, hl]; simp
    clear hl
    go_wp2
    go_ret2
    rw [HO.out]
    exact ⟨rfl, HSW.out, (KeptR.refl _ _).drewN _⟩
  · have HO : Hid (Sort.order2 ltInt d a b s = (b, a, s + 1)) := by unfold Hid Sort.order2; rw [if_pos]; rw [← HG.out, ← HG.out, hl]
    clear hl
    go_wp2
    go_ret2
    rw [HO.out]
    refine ⟨rfl, ?_, ((KeptR.refl _ _).drewN _).set _ _⟩
    exact Lib.heap_setCell_same (w := w.drewN nq) (show (w.drewN nq).heap[sb]? = _ from HSW.out) (.int .i64 ((s : Int) + 1))
set_option maxHeartbeats 1600000 in
set_option maxRecDepth 100000 in
theorem median_any (blk cap sb a b c s : Nat) (d : Array Int) (w : World) (hH : RowAt w blk d) (hS : SwAt w sb s) (hne : blk ≠ sb) (ha : a < d.size) (hb : b < d.size) (hc : c < d.size) (hs : s ≤ 100) (hz : d.size ≤ 1000000) :
    Calls Try.prog 61 #[.slice (some ⟨blk, 0, none⟩) d.size cap, .int .i64 a, .int .i64 b, .int .i64 c, .pointer (some ⟨sb, 0, none⟩)] w (MPost w sb (Sort.median ltInt d a b c s)) := by
  have HM : Hid (Sort.median ltInt d a b c s = ((order2 ltInt d (order2 ltInt d a b s).1 (order2 ltInt d (order2 ltInt d a b s).2.1 c (order2 ltInt d a b s).2.2).1 (order2 ltInt d (order2 ltInt d a b s).2.1 c (order2 ltInt d a b s).2.2).2.2).2.1,
      (order2 ltInt d (order2 ltInt d a b s).1 (order2 ltInt d (order2 ltInt d a b s).2.1 c (order2 ltInt d a b s).2.2).1 (order2 ltInt d (order2 ltInt d a b s).2.1 c (order2 ltInt d a b s).2.2).2.2).2.2)) := rfl
  have HH := Lib.hid hH
  have h1 := order_bd (x := d) (s := s) ha hb
  have HC1 := Lib.hid (order2_any blk cap sb a b s d w hH hS ha hb (by omega) hz)
  clear hH hS
  go_enter Try.func61, Try.ntmps61
  go_wp2_with fail
  refine HC1.out.mono ?_
  rintro e w1 ⟨rfl, hs1, hk1⟩
  have HK1 := Lib.hid hk1
  obtain ⟨h11, h12, h13⟩ := h1
  have h2 := order_bd (x := d) (s := (order2 ltInt d a b s).2.2) h12 hc
  have HC2 := Lib.hid (order2_any blk cap sb (order2 ltInt d a b s).2.1 c (order2 ltInt d a b s).2.2 d w1 (HH.out.kept hk1 hne) hs1 h12 hc (by omega) hz)
  generalize order2 ltInt d a b s = r1 at *
  obtain ⟨a1, b1, s1⟩ := r1
  simp only at *
  clear hs1 hk1 HC1
  go_wp2_with fail
  refine HC2.out.mono ?_
  rintro e w2 ⟨rfl, hs2, hk2⟩
  have HK2 := Lib.hid (HK1.out.trans hk2)
  obtain ⟨h21, h22, h23⟩ := h2
  have HC3 := Lib.hid (order2_any blk cap sb a1 (order2 ltInt d b1 c s1).1 (order2 ltInt d b1 c s1).2.2 d w2 (HH.out.kept HK2.out hne) hs2 h11 h21 (by omega) hz)
  generalize order2 ltInt d b1 c s1 = r2 at *
  obtain ⟨b2, c2, s2⟩ := r2
  simp only at *
  clear hs2 hk2 HC2
  go_wp2_with fail
  refine HC3.out.mono ?_
  rintro e w3 ⟨rfl, hs3, hk3⟩
  have HK3 := Lib.hid (HK2.out.trans hk3)
  have HS3 := Lib.hid hs3
  generalize order2 ltInt d a1 b2 s2 = r3 at *
  obtain ⟨a3, b3, s3⟩ := r3
  simp only at *
  clear hs3 hk3 HC3
  go_wp2_with fail
  go_ret
  rw [HM.out]
  exact ⟨rfl, HS3.out, HK3.out⟩
set_option maxHeartbeats 1600000 in
set_option maxRecDepth 100000 in
theorem medadj_any (blk cap sb a s : Nat) (d : Array Int) (w : World) (hH : RowAt w blk d) (hS : SwAt w sb s) (hne : blk ≠ sb) (h0 : 1 ≤ a) (ha : a + 1 < d.size) (hs : s ≤ 100) (hz : d.size ≤ 1000000) :
    Calls Try.prog 60 #[.slice (some ⟨blk, 0, none⟩) d.size cap, .int .i64 a, .pointer (some ⟨sb, 0, none⟩)] w (MPost w sb (Sort.medianAdjacent ltInt d a s)) := by
  obtain ⟨l, hl⟩ : ∃ l, l = a - 1 := ⟨_, rfl⟩
  obtain ⟨r, hr⟩ : ∃ r, r = a + 1 := ⟨_, rfl⟩
  have HM : Hid (Sort.medianAdjacent ltInt d a s = Sort.median ltInt d l a r s) := by unfold Hid Sort.medianAdjacent; rw [hl, hr]
  have HC := Lib.hid (median_any blk cap sb l a r s d w hH hS hne (by omega) (by omega) (by omega) hs hz)
  have s1 : IntKind.i64.wrap ((a : Int) - 1) = (l : Int) := by rw [IntKind.wrap_i64]; omega
  have s2 : IntKind.i64.wrap ((a : Int) + 1) = (r : Int) := by rw [IntKind.wrap_i64]; omega
  have s1' : (a : Int) - 1 = (l : Int) := by omega
  have s2' : (a : Int) + 1 = (r : Int) := by omega
  have hz' : d.size ≤ 1000000 := hz
  rw [HM.out]
  clear hH hS hl hr
  go_enter Try.func60, Try.ntmps60
  go_wp2_with fail
  refine HC.out.mono ?_
  rintro e w1 ⟨rfl, hs1, hk1⟩
  have HS1 := Lib.hid hs1
  have HK1 := Lib.hid hk1
  clear hs1 hk1 HC
  go_wp2_with fail
  go_ret
  exact ⟨rfl, HS1.out, HK1.out⟩
def hintZ : Hint → Int
  | .unknown => 0
  | .increasing => 1
  | .decreasing => 2
/-- The median that is chosen, and the swaps. -/
def cpR (x : Array Int) (i j k l : Nat) : Nat × Nat :=
  if 50 ≤ l then Sort.median ltInt x (medianAdjacent ltInt x i 0).1 (medianAdjacent ltInt x j (medianAdjacent ltInt x i 0).2).1 (medianAdjacent ltInt x k (medianAdjacent ltInt x j (medianAdjacent ltInt x i 0).2).2).1 (medianAdjacent ltInt x k (medianAdjacent ltInt x j (medianAdjacent ltInt x i 0).2).2).2
  else Sort.median ltInt x i j k 0
def cpH (s : Nat) : Hint := if s = 0 then .increasing else if s = 12 then .decreasing else .unknown
theorem cp_eq {x : Array Int} {a b l : Nat} (h : l = b - a) (h8 : 8 ≤ l) : choosePivot ltInt x a b = ((cpR x (a + l / 4 * 1) (a + l / 4 * 2) (a + l / 4 * 3) l).1, cpH (cpR x (a + l / 4 * 1) (a + l / 4 * 2) (a + l / 4 * 3) l).2) := by
  unfold choosePivot cpR cpH
  rw [← h]
  dsimp only
  rw [if_pos h8]
theorem medadj_bd {x : Array Int} {a s N : Nat} (h0 : 1 ≤ a) (ha : a + 1 < N) : (medianAdjacent ltInt x a s).1 < N ∧ (medianAdjacent ltInt x a s).2 ≤ s + 3 := by
  unfold medianAdjacent
  exact median_bd (by omega) (by omega) (by omega)
/-- What the choice answers. -/
def CPost (w : World) (blk : Nat) (d : Array Int) (c : Nat × Hint) (e : Ending) (w' : World) : Prop := e = .returned (.tuple #[.int .i64 (c.1 : Int), .int .i64 (hintZ c.2)]) ∧ SW w w' blk d
set_option maxHeartbeats 3200000 in
set_option maxRecDepth 100000 in
theorem choose_any (blk cap a b : Nat) (d : Array Int) (w : World) (hH : RowAt w blk d) (hbw : blk < w.heap.size) (hab : a + 13 ≤ b) (hb : b ≤ d.size) (hz : d.size ≤ 1000000) :
    Calls Try.prog 40 #[.slice (some ⟨blk, 0, none⟩) d.size cap, .int .i64 a, .int .i64 b] w (CPost w blk d (Sort.choosePivot ltInt d a b)) := by
  obtain ⟨l, hl⟩ : ∃ l, l = b - a := ⟨_, rfl⟩
  obtain ⟨i, hi⟩ : ∃ i, i = a + l / 4 * 1 := ⟨_, rfl⟩
  obtain ⟨j, hj⟩ : ∃ j, j = a + l / 4 * 2 := ⟨_, rfl⟩
  obtain ⟨k, hk⟩ : ∃ k, k = a + l / 4 * 3 := ⟨_, rfl⟩
  have HCP : Hid (Sort.choosePivot ltInt d a b = ((cpR d i j k l).1, cpH (cpR d i j k l).2)) := by unfold Hid; rw [hi, hj, hk]; exact cp_eq hl (by omega)
  have e1 : (b : Int) - (a : Int) = (l : Int) := by omega
  have q1 : (a : Int) + (l : Int) / 4 = (i : Int) := by omega
  have q1' : (a : Int) + (l : Int) / 4 * 1 = (i : Int) := by omega
  have q2 : (a : Int) + (l : Int) / 4 * 2 = (j : Int) := by omega
  have q3 : (a : Int) + (l : Int) / 4 * 3 = (k : Int) := by omega
  have hl8 : 13 ≤ l := by omega
  have hlz : l ≤ d.size := by omega
  have bi : 1 ≤ i ∧ i + 1 < d.size := by omega
  have bj : 1 ≤ j ∧ j + 1 < d.size := by omega
  have bk : 1 ≤ k ∧ k + 1 < d.size := by omega
  have haz : a ≤ 1000000 := by omega
  have hbz : b ≤ 1000000 := by omega
  have HH := Lib.hid hH
  have HBI := Lib.hid bi
  have HBJ := Lib.hid bj
  have HBK := Lib.hid bk
  have HQ := Lib.hid (show (a : Int) + (l : Int) / 4 = (i : Int) ∧ (a : Int) + (l : Int) / 4 * 2 = (j : Int) ∧ (a : Int) + (l : Int) / 4 * 3 = (k : Int) ∧ (b : Int) - (a : Int) = (l : Int) from ⟨q1, q2, q3, e1⟩)
  have hne : blk ≠ w.heap.size := by omega
  clear hH hl hi hj hk bi bj bk q1 q1' q2 q3
  obtain ⟨R, hR⟩ : ∃ R, R = cpR d i j k l := ⟨_, rfl⟩
  rw [HCP.out, ← hR]
  have HR := Lib.hid hR
  clear hR
  go_enter Try.func40, Try.ntmps40
  go_upto_region 1 with (fail)
  go_cut [8] (fun t W => t = .int .i64 l ∧ w = W)
  case first =>
    go_wp2
    go_meet
    first | exact ⟨rfl, rfl⟩ | exact ⟨by rw [e1], rfl⟩
  case rest =>
  obtain ⟨rfl, rfl⟩ := hcut
  clear e1
  have HA : Hid (SwAt (w.alloc (.cells #[.int .i64 0] 3)) w.heap.size 0 ∧ KeptR w.heap.size w (w.alloc (.cells #[.int .i64 0] 3))) := ⟨by show (w.heap.push _)[w.heap.size]? = _; simp, (KeptR.refl _ _).alloc _⟩
  go_upto_if 32 with (fail)
  rw [HQ.out.2.1, HQ.out.2.2.1, HQ.out.1]
  generalize w.alloc (.cells #[.int .i64 0] 3) = w1 at *
  obtain ⟨sb, hsb⟩ : ∃ sb, sb = w.heap.size := ⟨_, rfl⟩
  rw [← hsb]
  rw [← hsb] at HA hne
  have HSB := Lib.hid hsb
  clear hsb
  go_cut [11] (fun J W => J = .int .i64 (R.1 : Int) ∧ SwAt W sb R.2 ∧ KeptR sb w W)
  case first =>
    have g8 : decide (8 ≤ l) = true := decide_eq_true (by omega)
    have g8' : decide (8 ≤ (l : Int)) = true := decide_eq_true (by omega)
    by_cases h50 : 50 ≤ l
    · have g50 : decide (50 ≤ l) = true := decide_eq_true h50
      have g50' : decide (50 ≤ (l : Int)) = true := decide_eq_true (by omega)
      have HRE : Hid (R = Sort.median ltInt d (medianAdjacent ltInt d i 0).1 (medianAdjacent ltInt d j (medianAdjacent ltInt d i 0).2).1 (medianAdjacent ltInt d k (medianAdjacent ltInt d j (medianAdjacent ltInt d i 0).2).2).1 (medianAdjacent ltInt d k (medianAdjacent ltInt d j (medianAdjacent ltInt d i 0).2).2).2) := by
        unfold Hid; rw [HR.out]; unfold cpR; rw [if_pos h50]
      have HC1 := Lib.hid (medadj_any blk cap sb i 0 d w1 (HH.out.kept HA.out.2 hne) HA.out.1 hne HBI.out.1 HBI.out.2 (by omega) hz)
      have hb1 := medadj_bd (x := d) (s := 0) HBI.out.1 HBI.out.2
      clear h50 HR
      go_wp2_with fail
      refine HC1.out.mono ?_
      rintro e w2 ⟨rfl, hs2, hk2⟩
      have HK2 := Lib.hid (HA.out.2.trans hk2)
      have HC2 := Lib.hid (medadj_any blk cap sb j (medianAdjacent ltInt d i 0).2 d w2 (HH.out.kept HK2.out hne) hs2 hne HBJ.out.1 HBJ.out.2 (by omega) hz)
      have hb2 := medadj_bd (x := d) (s := (medianAdjacent ltInt d i 0).2) HBJ.out.1 HBJ.out.2
      generalize medianAdjacent ltInt d i 0 = r1 at *
      obtain ⟨m1, s1⟩ := r1
      simp only at *
      clear hs2 hk2 HC1
      go_wp2_with fail
      refine HC2.out.mono ?_
      rintro e w3 ⟨rfl, hs3, hk3⟩
      have HK3 := Lib.hid (HK2.out.trans hk3)
      have HC3 := Lib.hid (medadj_any blk cap sb k (medianAdjacent ltInt d j s1).2 d w3 (HH.out.kept HK3.out hne) hs3 hne HBK.out.1 HBK.out.2 (by omega) hz)
      have hb3 := medadj_bd (x := d) (s := (medianAdjacent ltInt d j s1).2) HBK.out.1 HBK.out.2
      generalize medianAdjacent ltInt d j s1 = r2 at *
      obtain ⟨m2, s2⟩ := r2
      simp only at *
      clear hs3 hk3 HC2
      go_wp2_with fail
      refine HC3.out.mono ?_
      rintro e w4 ⟨rfl, hs4, hk4⟩
      have HK4 := Lib.hid (HK3.out.trans hk4)
      have HC4 := Lib.hid (median_any blk cap sb m1 m2 (medianAdjacent ltInt d k s2).1 (medianAdjacent ltInt d k s2).2 d w4 (HH.out.kept HK4.out hne) hs4 hne hb1.1 hb2.1 hb3.1 (by omega) hz)
      generalize medianAdjacent ltInt d k s2 = r3 at *
      obtain ⟨m3, s3⟩ := r3
      simp only at *
      rw [← HRE.out] at HC4
      clear hs4 hk4 HC3 HRE
      go_wp2_with fail
      refine HC4.out.mono ?_
      rintro e w5 ⟨rfl, hs5, hk5⟩
      have HS5 := Lib.hid hs5
      have HK5 := Lib.hid (HK4.out.trans hk5)
      clear hs5 hk5 HC4
      go_wp2_with fail
      go_meet
      exact ⟨rfl, HS5.out, HK5.out⟩
    · have g50 : decide (50 ≤ l) = false := decide_eq_false h50
      have g50' : decide (50 ≤ (l : Int)) = false := decide_eq_false (by omega)
      have HRE : Hid (R = Sort.median ltInt d i j k 0) := by unfold Hid; rw [HR.out]; unfold cpR; rw [if_neg h50]
      have hi1 := HBI.out.2
      have hj1 := HBJ.out.2
      have hk1 := HBK.out.2
      have HC4 := Lib.hid (median_any blk cap sb i j k 0 d w1 (HH.out.kept HA.out.2 hne) HA.out.1 hne (by omega) (by omega) (by omega) (by omega) hz)
      rw [← HRE.out] at HC4
      clear h50 HR HRE hi1 hj1 hk1
      go_wp2_with fail
      refine HC4.out.mono ?_
      rintro e w5 ⟨rfl, hs5, hk5⟩
      have HS5 := Lib.hid hs5
      have HK5 := Lib.hid (HA.out.2.trans hk5)
      clear hs5 hk5 HC4
      go_wp2_with fail
      go_meet
      exact ⟨rfl, HS5.out, HK5.out⟩
  case rest =>
  obtain ⟨rfl, hs5, hk5⟩ := hcut
  have HSW : Hid (SW w wc blk d) := by
    refine ⟨⟨hk5.os, hk5.tape, hk5.output, hk5.size, fun q hq _ => hk5.block q hq (by rw [HSB.out]; omega)⟩, HH.out.kept hk5 hne⟩
  obtain ⟨c1, c2⟩ := hs5.cell
  clear hs5 hk5 HR HA
  obtain ⟨m, s⟩ := R
  simp only at *
  by_cases h0 : s = 0
  · subst h0
    go_wp2
    go_ret2
    exact ⟨rfl, HSW.out⟩
  · have y0 : ((s : Int) == 0) = false := by rw [beq_eq_false_iff_ne]; omega
    have y0' : (s == 0) = false := by rw [beq_eq_false_iff_ne]; exact h0
    by_cases h12 : s = 12
    · subst h12
      go_wp2
      go_ret2
      exact ⟨rfl, HSW.out⟩
    · have y1 : ((s : Int) == 12) = false := by rw [beq_eq_false_iff_ne]; omega
      have y1' : (s == 12) = false := by rw [beq_eq_false_iff_ne]; exact h12
      have HHT : Hid (cpH s = .unknown) := by unfold Hid cpH; rw [if_neg h0, if_neg h12]
      clear h0 h12
      go_wp2
      go_ret2
      exact ⟨by rw [HHT.out]; rfl, HSW.out⟩
end Go.Proofs.Ytghclmbicdmboaa
