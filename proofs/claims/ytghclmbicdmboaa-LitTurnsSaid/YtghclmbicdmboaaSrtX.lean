/- The library's breaking of patterns, at 32-bit numbers: three swaps within. -/
import Derived.Test.YtghclmbicdmboaaSrtC
import Derived.Test.YtghclmbicdmboaaShelf
import Derived.Shelf.SlSortCmp.Xorshift
namespace Go.Proofs.Ytghclmbicdmboaa
open Go.Shelf Go.RowKit Go.Lib Go.Sort

/-- The number that comes next, in a block of its own. -/
def RnAt (w : World) (rb X : Nat) : Prop := w.heap[rb]? = some (.cells #[.int .u64 (X : Int)] 73 (0, 0))
theorem RnAt.cell {w : World} {rb X : Nat} (h : RnAt w rb X) : w.cell? ⟨rb, 0, none⟩ = some (.int .u64 (X : Int)) ∧ w.frozen? ⟨rb, 0, none⟩ = false := by
  unfold RnAt at h
  exact ⟨by rw [Lib.cell_of_heap h]; rfl, Lib.frozen_of_heap h 0⟩
theorem next_any (rb X : Nat) (hX : X < 18446744073709551616) (w : World) (h : RnAt w rb X) :
    Calls Try.prog 59 #[.pointer (some ⟨rb, 0, none⟩)] w fun e w' => ∃ Y : Nat, Y < 18446744073709551616 ∧ e = .returned (.int .u64 (Y : Int)) ∧ RnAt w' rb Y ∧ KeptR rb w w' := by
  have c := AnyF.xorshift_Next Try.nextL rb 0 X hX w h.cell.1 h.cell.2
  refine c.mono ?_
  rintro e w' ⟨rfl, rfl⟩
  refine ⟨xorNextN X, xorNextN_lt X hX, rfl, ?_, ((KeptR.refl _ _).set _ _).drewN _⟩
  exact Lib.heap_setCell_same (w := w) (show w.heap[rb]? = _ from h) (.int .u64 ((xorNextN X : Nat) : Int))
theorem SW.beside {w W W' : World} {b rb : Nat} {d : Array Int} (hs : SW w W b d) (hk : KeptR rb W W') (hne : b ≠ rb) (hnew : w.heap.size ≤ rb) : SW w W' b d :=
  ⟨⟨hk.os.trans hs.1.os, hk.tape.trans hs.1.tape, hk.output.trans hs.1.output, Nat.le_trans hs.1.size hk.size, fun k hlt hg => (hk.block k (Nat.lt_of_lt_of_le hlt hs.1.size) (by omega)).trans (hs.1.block k hlt hg)⟩, hs.2.kept hk hne⟩
theorem RnAt.swap {w : World} {rb X b : Nat} (h : RnAt w rb X) (hne : b ≠ rb) (i j : Nat) (v u : Value) (q : Nat) : RnAt (((w.drewN q).setCell ⟨b, i, none⟩ v).setCell ⟨b, j, none⟩ u) rb X := by
  unfold RnAt at h ⊢
  rw [← h]
  simp [World.setCell, Array.getElem?_modify, hne]
/-- What it answers. -/
def BPost (w : World) (blk a b : Nat) (d : Array Int) (e : Ending) (w' : World) : Prop := e = .returned (.tuple #[]) ∧ ∃ x, PermIn a b d x ∧ SW w w' blk x
set_option maxHeartbeats 6400000 in
set_option maxRecDepth 100000 in
theorem brk_any (blk cap a b : Nat) (d : Array Int) (w : World) (hH : RowAt w blk d) (hbw : blk < w.heap.size) (hab : a + 13 ≤ b) (hb : b ≤ d.size) (hz : d.size ≤ 1000000) :
    Calls Try.prog 39 #[.slice (some ⟨blk, 0, none⟩) d.size cap, .int .i64 a, .int .i64 b] w (BPost w blk a b d) := by
  have HH := Lib.hid hH
  have HS := Lib.hid (SW.start hH)
  clear hH
  obtain ⟨N, hN⟩ : ∃ N, N = d.size := ⟨_, rfl⟩
  rw [← hN] at hb hz ⊢
  have HN := Lib.hid hN
  clear hN
  obtain ⟨l, hl⟩ : ∃ l, l = b - a := ⟨_, rfl⟩
  have e1 : (b : Int) - (a : Int) = (l : Int) := by omega
  have hl8 : 13 ≤ l := by omega
  have hlz : l ≤ N := by omega
  have haz : a ≤ 1000000 := by omega
  have hbz : b ≤ 1000000 := by omega
  obtain ⟨M, hM⟩ : ∃ M : Nat, M = 1 <<< bitsLen l := ⟨_, rfl⟩
  have hM1 : 1 ≤ M ∧ M ≤ 2 * l := by
    rw [hM, Nat.one_shiftLeft]
    exact ⟨Nat.two_pow_pos _, two_pow_bitsLen_le (by omega)⟩
  obtain ⟨M1, hM2⟩ : ∃ M1 : Nat, M1 = M - 1 := ⟨_, rfl⟩
  have HNP : Hid (∀ W, Calls Try.prog 58 #[.int .i64 (l : Int)] W fun e w' => e = .returned (.int .u64 (M : Int)) ∧ w' = W) := fun W => by
    have c := AnyF.nextPowerOfTwo Try.npotL l (by omega) W
    rw [← hM] at c
    exact c
  obtain ⟨i0, hi0⟩ : ∃ i0, i0 = a + l / 4 * 2 - 1 := ⟨_, rfl⟩
  have hai0 : a ≤ i0 := by omega
  have hi0b : i0 + 2 < b := by omega
  have q0 : (a : Int) + (l : Int) / 4 * 2 - 1 = (i0 : Int) := by omega
  have q2 : (a : Int) + (l : Int) / 4 * 2 + 1 = (i0 : Int) + 2 := by omega
  have HQ0 := Lib.hid q0
  have HQ2 := Lib.hid q2
  have sM : (M : Int) - 1 = (M1 : Int) := by omega
  have sM' : IntKind.u64.wrap ((M : Int) - 1) = (M1 : Int) := by rw [IntKind.wrap_u64]; omega
  have hM1l : M1 < 2 * l := by omega
  have hMz : M ≤ 2000000 := by omega
  have hM1z : M1 < 2000000 := by omega
  clear hM hM1 hM2 hi0 q0 q2
  go_enter Try.func39, Try.ntmps39
  go_upto_region 1 with (fail)
  rw [← hl]
  have HL := Lib.hid e1
  clear e1 hl
  have g8 : decide (8 ≤ l) = true := decide_eq_true (by omega)
  have g8' : decide (8 ≤ (l : Int)) = true := decide_eq_true (by omega)
  have HA : Hid (RnAt (w.alloc (.cells #[.int .u64 (l : Int)] 73)) w.heap.size l ∧ KeptR w.heap.size w (w.alloc (.cells #[.int .u64 (l : Int)] 73))) := ⟨by show (w.heap.push _)[w.heap.size]? = _; simp, (KeptR.refl _ _).alloc _⟩
  have hne : blk ≠ w.heap.size := by omega
  go_wp2_with fail
  refine (HNP.out _).mono ?_
  rintro e w' ⟨rfl, rfl⟩
  generalize w.alloc (.cells #[.int .u64 (l : Int)] 73) = w1 at *
  obtain ⟨rb, hrb⟩ : ∃ rb, rb = w.heap.size := ⟨_, rfl⟩
  rw [← hrb]
  rw [← hrb] at HA hne
  have HRB := Lib.hid hrb
  clear hrb
  have HS1 := Lib.hid (HS.out.beside HA.out.2 hne (by rw [HRB.out]; exact Nat.le_refl _))
  have HR0 := Lib.hid HA.out.1
  clear HNP HA HS
  go_upto_block 0 with (fail)
  rw [HQ0.out]
  go_wp2
  go_loopw [9] (fun v W => ∃ (q X : Nat) (x : Array Int), v = .int .i64 q ∧ i0 ≤ q ∧ q ≤ i0 + 3 ∧ X < 18446744073709551616 ∧ x.size = N ∧ PermIn a b d x ∧ SW w W blk x ∧ RnAt W rb X) (fun v _ => i0 + 3 - (intOf v).toNat)
  case atStart => exact ⟨i0, l, d, rfl, Nat.le_refl _, by omega, by omega, HN.out.symm, permIn_refl d a b, HS1.out, HR0.out⟩
  case round =>
    obtain ⟨q, X, x, rfl, hq1, hq2, hX, hx, hp, hs, hr⟩ := hrel
    have HX := Lib.hid hx
    have HSx := Lib.hid hs
    have HP := Lib.hid hp
    have HNX := Lib.hid (next_any rb X hX wr hr)
    clear hX hx hp hs hr
    by_cases hlt : q ≤ i0 + 2
    · have ti : decide (q ≤ i0 + 2) = true := decide_eq_true hlt
      have ti' : decide ((q : Int) ≤ (i0 : Int) + 2) = true := decide_eq_true (by omega)
      have ti2 : decide ((q : Int) ≤ (a : Int) + (l : Int) / 4 * 2 + 1) = true := by rw [HQ2.out]; exact ti'
      go_wp2_with fail
      refine HNX.out.mono ?_
      rintro e w2 ⟨Y, hY, rfl, hr2, hk2⟩
      have HS2 := Lib.hid (HSx.out.beside hk2 hne (by rw [HRB.out]; exact Nat.le_refl _))
      have HR2 := Lib.hid hr2
      have HY := Lib.hid hY
      obtain ⟨O, hO⟩ : ∃ O : Nat, O = Y &&& M1 := ⟨_, rfl⟩
      have hOM : O ≤ M1 := by rw [hO]; exact Nat.and_le_right
      have eA : bits .and .u64 (Y : Int) (M1 : Int) = (O : Int) := by rw [bits_and_u64_nat _ _ hY (by omega), hO]
      have sO : IntKind.i64.wrap (O : Int) = (O : Int) := by rw [IntKind.wrap_i64]; omega
      have hOz : O < 2 * l := by omega
      obtain ⟨k, hk⟩ : ∃ k, k = decide (l ≤ O) := ⟨_, rfl⟩
      have tk : decide (l ≤ O) = k := hk.symm
      have tk' : decide ((l : Int) ≤ (O : Int)) = k := by rw [hk]; exact decide_eq_decide.mpr (by omega)
      have HK := Lib.hid hk
      clear hr2 hk2 hY hO HNX hk
      go_upto_if 43 with (fail)
      go_cut [10] (fun t W => ∃ o : Nat, t = .int .i64 o ∧ o < l ∧ w2 = W)
      case first =>
        cases k
        · have h1 : O < l := by have := HK.out.symm; rw [decide_eq_false_iff_not] at this; omega
          go_wp2
          go_meet
          exact ⟨O, rfl, h1, rfl⟩
        · have h1 : l ≤ O := by have := HK.out.symm; rw [decide_eq_true_iff] at this; exact this
          go_wp2
          go_meet
          exact ⟨O - l, by congr 1; omega, by omega, rfl⟩
      case rest =>
      obtain ⟨o, rfl, hol, rfl⟩ := hcut
      obtain ⟨f, hf⟩ : ∃ f : Nat, f = a + o := ⟨_, rfl⟩
      have sf : IntKind.i64.wrap ((a : Int) + (o : Int)) = (f : Int) := by rw [IntKind.wrap_i64]; omega
      have sf' : (a : Int) + (o : Int) = (f : Int) := by omega
      have haf : a ≤ f := by omega
      have hfb : f < b := by rw [hf]; have := HL.out; omega
      have hqN : q < N := by omega
      have hfN : f < N := by omega
      have hqb : q < b := by omega
      have haq : a ≤ q := by omega
      clear hf eA sO HK tk tk'
      by_cases hij : q = f
      · subst hij
        have hrow := HS2.out.row HH.out (by first | rfl | (rw [HX.out]; exact HN.out))
        obtain ⟨G, hG⟩ : ∃ G : Nat → Int, ∀ t, G t = x[t]! := ⟨fun t => x[t]!, fun _ => rfl⟩
        have hcw : ∀ t, t < N → w2.cell? ⟨blk, t, none⟩ = some (.int .i32 (G t)) := fun t ht => by rw [hG]; exact (hrow.get (by rw [HX.out]; omega)).1
        have hfw : ∀ t, t < N → w2.frozen? ⟨blk, t, none⟩ = false := fun t ht => (hrow.get (by rw [HX.out]; omega)).2
        have HG := Lib.hid hG
        clear hrow hG
        go_wp2
        go_region
        all_goals go_wp2
        all_goals
          go_roundw
          case rel =>
            refine ⟨q + 1, Y, swp x q q, by go_num, by omega, by omega, HY.out, by rw [swp_size]; exact HX.out, permIn_trans _ _ _ a b HP.out (swp_permIn x a b q q haq hqb haq hqb (by rw [HX.out]; exact hb)), ?_, ?_⟩
            · rw [HG.out]
              exact (HS2.out.drewN _).swap (by have := HX.out; omega) (by have := HX.out; omega)
            · exact HR2.out.swap hne _ _ _ _ _
          case measure => simp [intOf]; omega
      · have hji : ¬ (f = q) := fun h => hij h.symm
        have hrow := HS2.out.row HH.out (by first | rfl | (rw [HX.out]; exact HN.out))
        obtain ⟨G, hG⟩ : ∃ G : Nat → Int, ∀ t, G t = x[t]! := ⟨fun t => x[t]!, fun _ => rfl⟩
        have hcw : ∀ t, t < N → w2.cell? ⟨blk, t, none⟩ = some (.int .i32 (G t)) := fun t ht => by rw [hG]; exact (hrow.get (by rw [HX.out]; omega)).1
        have hfw : ∀ t, t < N → w2.frozen? ⟨blk, t, none⟩ = false := fun t ht => (hrow.get (by rw [HX.out]; omega)).2
        have HG := Lib.hid hG
        clear hrow hG
        go_wp2
        go_region
        all_goals go_wp2
        all_goals
          go_roundw
          case rel =>
            refine ⟨q + 1, Y, swp x q f, by go_num, by omega, by omega, HY.out, by rw [swp_size]; exact HX.out, permIn_trans _ _ _ a b HP.out (swp_permIn x a b q f haq hqb haf hfb (by rw [HX.out]; exact hb)), ?_, ?_⟩
            · rw [HG.out, HG.out]
              exact (HS2.out.drewN _).swap (by have := HX.out; omega) (by have := HX.out; omega)
            · exact HR2.out.swap hne _ _ _ _ _
          case measure => simp [intOf]; omega
    · have ti : decide (q ≤ i0 + 2) = false := decide_eq_false hlt
      have ti' : decide ((q : Int) ≤ (i0 : Int) + 2) = false := decide_eq_false (by omega)
      have ti2 : decide ((q : Int) ≤ (a : Int) + (l : Int) / 4 * 2 + 1) = false := by rw [HQ2.out]; exact ti'
      go_wp2
      go_end0
      exact ⟨rfl, x, HP.out, HSx.out⟩
end Go.Proofs.Ytghclmbicdmboaa
