/- The library's pattern-defeating quicksort, at 32-bit numbers: a sorted permutation. -/
import Derived.Test.YtghclmbicdmboaaSrtX
import Derived.Test.YtghclmbicdmboaaSrtQ
import Derived.Test.YtghclmbicdmboaaSrtI
namespace Go.Proofs.Ytghclmbicdmboaa
open Go.RowKit Go.Sort

/-- What a sort of a part answers. -/
def QPost (w : World) (blk a b : Nat) (d : Array Int) (e : Ending) (w' : World) : Prop := e = .returned (.tuple #[]) ∧ ∃ x, PermIn a b d x ∧ SortedIn ltInt a b x ∧ SW w w' blk x
/-- Where the rounds stand: a part is left, and whatever sorted permutation of it comes back, the whole is one. -/
structure PS (w W : World) (blk a b p q N : Nat) (d x : Array Int) : Prop where
  size : x.size = N
  sw : SW w W blk x
  low : Go.Sort.Below ltInt p q x
  close : ∀ R, PermIn p q x R → SortedIn ltInt p q R → PermIn a b d R ∧ SortedIn ltInt a b R
section
variable {w W W' : World} {blk a b p q N : Nat} {d x y : Array Int}
theorem PS.perm (h : PS w W blk a b p q N d x) (hb : q ≤ N) (hp : PermIn p q x y) (hs : SW W W' blk y) : PS w W' blk a b p q N d y :=
  ⟨hp.1.trans h.size, h.sw.trans hs (hp.1), h.low.permA permIn_all (by rw [h.size]; exact hb) hp, fun R hR hsR => h.close R (permIn_trans _ _ _ p q hp hR) hsR⟩
theorem PS.done (h : PS w W blk a b p q N d x) (hp : PermIn p q x y) (ho : SortedIn ltInt p q y) (hs : SW W W' blk y) : QPost w blk a b d (.returned (.tuple #[])) W' :=
  ⟨rfl, y, (h.close y hp ho).1, (h.close y hp ho).2, h.sw.trans hs hp.1⟩
theorem PS.row (h : PS w W blk a b p q N d x) : RowAt W blk x := h.sw.2
theorem PS.at (h : PS w W blk a b p q N d x) (hs : SW W W' blk x) : PS w W' blk a b p q N d x := ⟨h.size, h.sw.trans hs rfl, h.low, h.close⟩
theorem PS.drewN (h : PS w W blk a b p q N d x) (k : Nat) : PS w (W.drewN k) blk a b p q N d x := ⟨h.size, h.sw.drewN k, h.low, h.close⟩
end
theorem ps_in {w W : World} {b : Nat} {x : Array Int} (h : SW w W b x) (hb : b < w.heap.size) : b < W.heap.size := Nat.lt_of_lt_of_le hb h.1.size
set_option maxHeartbeats 12800000 in
set_option maxRecDepth 100000 in
theorem pdq_any (blk cap : Nat) : ∀ (n a b limit : Nat) (d : Array Int) (w : World), b - a = n → RowAt w blk d → blk < w.heap.size → a ≤ b → b ≤ d.size → d.size ≤ 1000000 → Go.Sort.Below ltInt a b d → limit ≤ 64 →
    Calls Try.prog 29 #[.slice (some ⟨blk, 0, none⟩) d.size cap, .int .i64 a, .int .i64 b, .int .i64 limit] w (QPost w blk a b d) := by
  intro n
  induction n using Nat.strongRecOn with
  | ind n ih =>
  intro a b limit d w hn hH hbw hab hb hz hB hlim
  have HS : Hid (PS w w blk a b a b d.size d d) := ⟨rfl, SW.start hH, hB, fun R hR hs => ⟨hR, hs⟩⟩
  clear hH hB
  obtain ⟨N, hN⟩ : ∃ N, N = d.size := ⟨_, rfl⟩
  rw [← hN] at hb hz HS ⊢
  have IH : Hid (∀ (p q lm : Nat) (x : Array Int) (W : World), q - p < n → x.size = N → RowAt W blk x → blk < W.heap.size → p ≤ q → q ≤ N → Go.Sort.Below ltInt p q x → lm ≤ 64 →
      Calls Try.prog 29 #[.slice (some ⟨blk, 0, none⟩) N cap, .int .i64 p, .int .i64 q, .int .i64 lm] W (QPost W blk p q x)) := by
    intro p q lm x W h1 h2 h3 h4 h5 h6 h7 h8
    have c := ih (q - p) h1 p q lm x W rfl h3 h4 h5 (by rw [h2]; exact h6) (by rw [h2]; exact hz) h7 h8
    rw [h2] at c
    exact c
  clear ih hN
  go_enter Try.func29, Try.ntmps29
  go_wp2
  go_loopw [1, 2, 3, 8, 9] (fun va vb vl vw vp W => ∃ (p q lm : Nat) (wb wp : Bool) (x : Array Int), va = .int .i64 p ∧ vb = .int .i64 q ∧ vl = .int .i64 lm ∧ vw = .bool wb ∧ vp = .bool wp ∧ a ≤ p ∧ p ≤ q ∧ q ≤ b ∧ lm ≤ 64 ∧ PS w W blk a b p q N d x) (fun va vb _ _ _ _ => (intOf vb).toNat - (intOf va).toNat)
  case atStart => exact ⟨a, b, limit, true, true, d, rfl, rfl, rfl, rfl, rfl, Nat.le_refl _, hab, Nat.le_refl _, hlim, HS.out⟩
  case round =>
    obtain ⟨p, q, lm, wb, wp, x, rfl, rfl, rfl, rfl, rfl, hap, hpq, hqb, hlm, hps⟩ := hrel
    have HP := Lib.hid hps
    have HX : Hid (x.size = N) := hps.size
    have HBW : Hid (blk < wr.heap.size) := ps_in hps.sw hbw
    clear hps HS
    obtain ⟨l, hl⟩ : ∃ l, l = q - p := ⟨_, rfl⟩
    have hqN : q ≤ N := by omega
    have hlN : l ≤ N := by omega
    go_upto_region 2 with (fail)
    go_cut [10] (fun t W => t = .int .i64 l ∧ wr = W)
    case first =>
      go_wp2
      go_meet
      exact ⟨by congr 1; omega, rfl⟩
    case rest =>
    obtain ⟨rfl, rfl⟩ := hcut
    by_cases h12 : l ≤ 12
    · have t12 : decide (l ≤ 12) = true := decide_eq_true h12
      have t12' : decide ((l : Int) ≤ 12) = true := decide_eq_true (by omega)
      have c := insort_any blk cap p q x wr HP.out.row hpq (by rw [HX.out]; exact hqN) (by rw [HX.out]; exact hz)
      rw [HX.out] at c
      have HC := Lib.hid c
      clear c
      go_wp2_with fail
      refine HC.out.mono ?_
      rintro e w2 ⟨rfl, hs2⟩
      have HS2 := Lib.hid hs2
      clear hs2 HC
      go_wp2
      refine bodyPost_ret (results_none rfl _ _ _) rfl ?_
      have h := insertionSort_holds (lt := ltInt) swo_ltInt x p q hpq (by rw [HX.out]; exact hqN)
      exact HP.out.done h.1 h.2 HS2.out
    have t12 : decide (l ≤ 12) = false := decide_eq_false h12
    have t12' : decide ((l : Int) ≤ 12) = false := decide_eq_false (by omega)
    by_cases h0 : lm = 0
    · subst h0
      have c := heap_any blk cap p q x wr HP.out.row (by omega) (by rw [HX.out]; exact hqN) (by rw [HX.out]; exact hz)
      rw [HX.out] at c
      have HC := Lib.hid c
      clear c
      go_wp2_with fail
      refine HC.out.mono ?_
      rintro e w2 ⟨rfl, hs2⟩
      have HS2 := Lib.hid hs2
      clear hs2 HC
      go_wp2
      refine bodyPost_ret (results_none rfl _ _ _) rfl ?_
      have h := heapSort_holds (lt := ltInt) swo_ltInt x p q hpq (by rw [HX.out]; exact hqN)
      exact HP.out.done h.1 h.2 HS2.out
    have y0 : ((lm : Int) == 0) = false := by rw [beq_eq_false_iff_ne]; omega
    have y0' : (lm == 0) = false := by rw [beq_eq_false_iff_ne]; exact h0
    have hpl : p + 13 ≤ q := by omega
    have HLQ := Lib.hid hl
    clear hl
    go_upto_if 35 with (fail)
    go_cut [3] (fun t W => ∃ (k : Nat) (y : Array Int), t = .int .i64 k ∧ k ≤ 64 ∧ PS w W blk a b p q N d y)
    case first =>
      cases wb
      · have c := brk_any blk cap p q x wr HP.out.row HBW.out hpl (by rw [HX.out]; exact hqN) (by rw [HX.out]; exact hz)
        rw [HX.out] at c
        have HC := Lib.hid c
        clear c
        go_wp2_with fail
        refine HC.out.mono ?_
        rintro e w2 ⟨rfl, y, hy, hs2⟩
        have HP2 := Lib.hid (HP.out.perm hqN hy hs2)
        clear hy hs2 HC
        go_wp2
        go_meet
        exact ⟨lm - 1, y, by congr 1; omega, by omega, HP2.out⟩
      · go_wp2
        go_meet
        exact ⟨lm, x, rfl, hlm, HP.out⟩
    case rest =>
    obtain ⟨k, y, rfl, hk, hps⟩ := hcut
    have HP1 := Lib.hid hps
    have HX1 : Hid (y.size = N) := hps.size
    have HBW1 : Hid (blk < wc.heap.size) := ps_in hps.sw hbw
    clear hps HP HX HBW
    clear x
    have c := choose_any blk cap p q y wc HP1.out.row HBW1.out hpl (by rw [HX1.out]; exact hqN) (by rw [HX1.out]; exact hz)
    rw [HX1.out] at c
    have hcb := choosePivot_holds ltInt y p q (by omega)
    obtain ⟨C, hC⟩ : ∃ C, C = Sort.choosePivot ltInt y p q := ⟨_, rfl⟩
    rw [← hC] at c hcb
    obtain ⟨pv, hint⟩ := C
    simp only at hcb
    obtain ⟨hz2, hhz⟩ : ∃ z, z = hintZ hint := ⟨_, rfl⟩
    have HC : Hid (Calls Try.prog 40 #[.slice (some ⟨blk, 0, none⟩) N cap, .int .i64 p, .int .i64 q] wc (fun e w' => e = .returned (.tuple #[.int .i64 (pv : Int), .int .i64 hz2]) ∧ SW wc w' blk y)) := by
      rw [hhz]; exact c
    clear c hC hhz hint
    go_wp2_with fail
    refine HC.out.mono ?_
    rintro e w2 ⟨rfl, hs2⟩
    have HP2 := Lib.hid (HP1.out.at hs2)
    clear hs2 HC HP1
    obtain ⟨hpv1, hpv2⟩ := hcb
    obtain ⟨k2, hk2⟩ : ∃ b : Bool, b = (hz2 == 2) := ⟨_, rfl⟩
    have tk2 : (hz2 == 2) = k2 := hk2.symm
    clear hk2
    go_upto_if 50 with (fail)
    go_cut [11, 12] (fun t u W => ∃ (m : Nat) (z : Int) (x : Array Int), t = .int .i64 m ∧ u = .int .i64 z ∧ p ≤ m ∧ m < q ∧ PS w W blk a b p q N d x)
    case first =>
      cases k2
      · go_wp2
        go_meet
        exact ⟨pv, hz2, y, rfl, rfl, hpv1, hpv2, HP2.out⟩
      · have c := reverse_any blk cap p q y w2 HP2.out.row (by omega) (by rw [HX1.out]; exact hqN) (by rw [HX1.out]; exact hz)
        rw [HX1.out] at c
        have HC := Lib.hid c
        clear c
        go_wp2_with fail
        refine HC.out.mono ?_
        rintro e w3 ⟨rfl, hs3⟩
        have h := reverseRange_holds (α := Int) y p q hpq (by rw [HX1.out]; exact hqN)
        have HP3 := Lib.hid (HP2.out.perm hqN h hs3)
        clear hs3 HC h
        go_wp2
        go_meet
        exact ⟨(q - 1) - (pv - p), 1, Sort.reverseRange y p q, by congr 1; omega, rfl, by omega, by omega, HP3.out⟩
    case rest =>
    obtain ⟨m, z, x, rfl, rfl, hm1, hm2, hps⟩ := hcut
    have HP3 := Lib.hid hps
    have HX3 : Hid (x.size = N) := hps.size
    clear hps HP2 HX1 HBW1 hpv1 hpv2 tk2 k2
    clear y
    obtain ⟨k3, hk3⟩ : ∃ b : Bool, b = (z == 1) := ⟨_, rfl⟩
    have tk3 : (z == 1) = k3 := hk3.symm
    clear hk3
    go_upto_region 15 with (fail)
    go_cut [68] (fun t W => ∃ k : Bool, t = .bool k ∧ wc = W)
    case first =>
      cases wb
      · go_wp2
        go_meet
        exact ⟨_, rfl, rfl⟩
      · cases wp
        · go_wp2
          go_meet
          exact ⟨_, rfl, rfl⟩
        · go_wp2
          go_meet
          exact ⟨_, rfl, rfl⟩
    case rest =>
    obtain ⟨k4, rfl, rfl⟩ := hcut
    clear tk3 k3
    go_upto_if 68 with (fail)
    go_cut [0] (fun t W => t = .slice (some ⟨blk, 0, none⟩) N cap ∧ ∃ x, PS w W blk a b p q N d x)
    case first =>
      cases k4
      · go_wp2
        go_meet
        exact ⟨rfl, x, HP3.out⟩
      · have c := pins_any blk cap p q x wc HP3.out.row (by omega) (by rw [HX3.out]; exact hqN) (by rw [HX3.out]; exact hz)
        rw [HX3.out] at c
        have HL : Hid (PermIn p q x (partialInsertionSort ltInt x p q).1 ∧ ((partialInsertionSort ltInt x p q).2 = true → SortedIn ltInt p q (partialInsertionSort ltInt x p q).1)) :=
          partialInsertionSort_holds swo_ltInt x p q (by omega) (by rw [HX3.out]; exact hqN) HP3.out.low
        generalize partialInsertionSort ltInt x p q = r at c HL
        obtain ⟨y, kr⟩ := r
        simp only at HL
        have HC := Lib.hid c
        clear c
        go_wp2_with fail
        refine HC.out.mono ?_
        rintro e w4 ⟨rfl, hs4⟩
        have HS4 := Lib.hid hs4
        clear hs4 HC
        cases kr
        · go_wp2
          go_meet
          exact ⟨rfl, y, HP3.out.perm hqN HL.out.1 HS4.out⟩
        · go_wp2
          refine bodyPost_ret (results_none rfl _ _ _) rfl ?_
          exact HP3.out.done HL.out.1 (HL.out.2 (by first | rfl | trivial)) HS4.out
    case rest =>
    obtain ⟨rfl, y, hps⟩ := hcut
    have HP4 := Lib.hid hps
    have HX4 : Hid (y.size = N) := hps.size
    clear hps HP3 HX3
    clear x
    have hmN : m < N := by omega
    go_upto_region 17 with (fail)
    go_cut [87] (fun t W => ∃ k : Bool, t = .bool k ∧ PS w W blk a b p q N d y ∧ (k = true → 0 < p ∧ ltInt y[p - 1]! y[m]! = false))
    case first =>
      have hrow := HP4.out.row
      obtain ⟨G, hG⟩ : ∃ G : Nat → Int, ∀ t, G t = y[t]! := ⟨fun t => y[t]!, fun _ => rfl⟩
      have hcw : ∀ t, t < N → wc.cell? ⟨blk, t, none⟩ = some (.int .i32 (G t)) := fun t ht => by rw [hG]; exact (hrow.get (by rw [HX4.out]; omega)).1
      have hfw : ∀ t, t < N → wc.frozen? ⟨blk, t, none⟩ = false := fun t ht => (hrow.get (by rw [HX4.out]; omega)).2
      have HG := Lib.hid hG
      clear hrow hG
      by_cases hp0 : 0 < p
      · have tp : decide (0 < p) = true := decide_eq_true hp0
        have tp' : decide ((0 : Int) < (p : Int)) = true := decide_eq_true (by omega)
        have hp1 : 1 ≤ p := hp0
        have hpN : p - 1 < N := by omega
        go_wp2
        go_quiet (first | (go_at_call 31; refine Calls.quiet_of_same (lless_any _ _ _)))
        go_wp2
        go_meet
        refine ⟨_, rfl, HP4.out.drewN _, fun h => ⟨hp0, ?_⟩⟩
        rw [← HG.out, ← HG.out]
        simpa using h
      · have tp : decide (0 < p) = false := decide_eq_false hp0
        have tp' : decide ((0 : Int) < (p : Int)) = false := decide_eq_false (by omega)
        go_wp2
        go_quiet (first | (go_at_call 31; refine Calls.quiet_of_same (lless_any _ _ _)))
        go_wp2
        go_meet
        exact ⟨false, rfl, HP4.out.drewN _, fun h => by cases h⟩
    case rest =>
    obtain ⟨k5, rfl, hps, hk5⟩ := hcut
    have HP5 := Lib.hid hps
    have HBW5 : Hid (blk < wc.heap.size) := ps_in hps.sw hbw
    have HK5 := Lib.hid hk5
    clear hps hk5 HP4
    cases k5
    · have c := part_any blk cap p q m y wc HP5.out.row hm1 hm2 (by rw [HX4.out]; exact hqN) (by rw [HX4.out]; exact hz)
      rw [HX4.out] at c
      obtain ⟨r, hr⟩ : ∃ r, r = Sort.partition ltInt y p q m := ⟨_, rfl⟩
      rw [← hr] at c
      obtain ⟨mid, ap, x⟩ := r
      have hround := round_part (lt := ltInt) swo_ltInt (partition_holds ltInt) hm1 hm2 (by rw [HX4.out]; exact hqN) HP5.out.low hr.symm
      have HC := Lib.hid c
      have HRD := Lib.hid hround
      obtain ⟨hmid1, hmid2, hx, _⟩ := hround
      have HX6 : Hid (x.size = N) := hx.trans HX4.out
      clear c hr hx
      go_wp2_with fail
      refine HC.out.mono ?_
      rintro e w6 ⟨rfl, hs6⟩
      have HS6 := Lib.hid hs6
      have HBW6 : Hid (blk < w6.heap.size) := ps_in hs6 HBW5.out
      clear hs6 HC
      obtain ⟨l1, hl1⟩ : ∃ l1, l1 = mid - p := ⟨_, rfl⟩
      obtain ⟨l2, hl2⟩ : ∃ l2, l2 = q - mid := ⟨_, rfl⟩
      have hmidN : mid < N := by omega
      go_upto_region 22 with (fail)
      go_cut [16, 17] (fun t u W => t = .int .i64 l1 ∧ u = .int .i64 l2 ∧ w6 = W)
      case first =>
        go_wp2
        go_meet
        exact ⟨by congr 1; omega, by congr 1; omega, rfl⟩
      case rest =>
      obtain ⟨rfl, rfl, rfl⟩ := hcut
      have hm1z : mid + 1 ≤ q := by omega
      have hn1 : mid - p < n := by omega
      have hn2 : q - (mid + 1) < n := by omega
      have hl1z : l1 ≤ N := by omega
      have hl2z : l2 ≤ N := by omega
      clear hl1 hl2
      by_cases hlt : l1 < l2
      · have tl : decide (l1 < l2) = true := decide_eq_true hlt
        have tl' : decide ((l1 : Int) < (l2 : Int)) = true := decide_eq_true (by omega)
        have HC := Lib.hid (IH.out p mid k x w6 hn1 HX6.out HS6.out.2 HBW6.out hmid1 (by omega) HRD.out.2.2.2.1 hk)
        go_wp2_with fail
        refine HC.out.mono ?_
        rintro e w7 ⟨rfl, L, hL, hsL, hs7⟩
        have HS7 := Lib.hid hs7
        have HLP := Lib.hid hL
        have HLS := Lib.hid hsL
        clear hs7 hL hsL HC
        go_wp2
        go_roundw
        case rel =>
          obtain ⟨hlow, hclose⟩ := HRD.out.2.2.2.2.2.1 L HLP.out HLS.out
          refine ⟨mid + 1, q, k, _, ap, L, by go_num, rfl, rfl, rfl, rfl, by omega, hm1z, hqb, hk, ⟨HLP.out.1.trans HX6.out, (HP5.out.sw.trans HS6.out (by rw [HX6.out, HX4.out])).trans HS7.out HLP.out.1, hlow, fun R hR hsR => ?_⟩⟩
          obtain ⟨h1, h2⟩ := hclose R hR hsR
          exact HP5.out.close R h1 h2
        case measure => simp [intOf]; omega
      · have tl : decide (l1 < l2) = false := decide_eq_false hlt
        have tl' : decide ((l1 : Int) < (l2 : Int)) = false := decide_eq_false (by omega)
        have HC := Lib.hid (IH.out (mid + 1) q k x w6 hn2 HX6.out HS6.out.2 HBW6.out hm1z hqN HRD.out.2.2.2.2.1 hk)
        go_wp2_with fail
        refine HC.out.mono ?_
        rintro e w7 ⟨rfl, L, hL, hsL, hs7⟩
        have HS7 := Lib.hid hs7
        have HLP := Lib.hid hL
        have HLS := Lib.hid hsL
        clear hs7 hL hsL HC
        go_wp2
        go_roundw
        case rel =>
          obtain ⟨hlow, hclose⟩ := HRD.out.2.2.2.2.2.2 L HLP.out HLS.out
          refine ⟨p, mid, k, _, ap, L, rfl, rfl, rfl, rfl, rfl, hap, hmid1, by omega, hk, ⟨HLP.out.1.trans HX6.out, (HP5.out.sw.trans HS6.out (by rw [HX6.out, HX4.out])).trans HS7.out HLP.out.1, hlow, fun R hR hsR => ?_⟩⟩
          obtain ⟨h1, h2⟩ := hclose R hR hsR
          exact HP5.out.close R h1 h2
        case measure => simp [intOf]; omega
    · have c := parteq_any blk cap p q m y wc HP5.out.row hm1 hm2 (by rw [HX4.out]; exact hqN) (by rw [HX4.out]; exact hz)
      rw [HX4.out] at c
      obtain ⟨r, hr⟩ : ∃ r, r = Sort.partitionEqual ltInt y p q m := ⟨_, rfl⟩
      rw [← hr] at c
      obtain ⟨mid, x⟩ := r
      obtain ⟨hp0, hnl⟩ := HK5.out (by first | rfl | trivial)
      have hround := round_eq (lt := ltInt) swo_ltInt (partitionEqual_holds ltInt) hp0 hm1 hm2 (by rw [HX4.out]; exact hqN) HP5.out.low hnl hr.symm
      have HC := Lib.hid c
      obtain ⟨hmid1, hmid2, hx, hlow, hclose⟩ := hround
      have HX6 : Hid (x.size = N) := hx.trans HX4.out
      have HLOW := Lib.hid hlow
      have HCLOSE := Lib.hid hclose
      clear c hr hx hnl hlow hclose
      go_wp2_with fail
      refine HC.out.mono ?_
      rintro e w6 ⟨rfl, hs6⟩
      have HS6 := Lib.hid hs6
      clear hs6 HC
      go_wp2
      go_roundw
      case rel =>
        refine ⟨mid, q, k, wb, wp, x, rfl, rfl, rfl, rfl, rfl, by omega, hmid2, hqb, hk, ⟨HX6.out, HP5.out.sw.trans HS6.out (by rw [HX6.out, HX4.out]), HLOW.out, fun R hR hsR => ?_⟩⟩
        obtain ⟨h1, h2⟩ := HCLOSE.out R hR hsR
        exact HP5.out.close R h1 h2
      case measure => simp [intOf]; omega
end Go.Proofs.Ytghclmbicdmboaa
