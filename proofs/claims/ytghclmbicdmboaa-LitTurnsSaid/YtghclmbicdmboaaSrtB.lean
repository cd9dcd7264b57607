/- The library's reversal and heap sort, at 32-bit numbers. -/
import Derived.Test.YtghclmbicdmboaaSrtA
import Derived.Deep.CutBlock
import Derived.Deep.DeepCutAuto
namespace Go.Proofs.Ytghclmbicdmboaa
open Go.RowKit Go.Sort

theorem rev_step {i j : Nat} {x : Array Int} (h : i < j) : reverseLoop i j x = reverseLoop (i + 1) (j - 1) (swp x i j) := by rw [reverseLoop, if_pos h]
theorem rev_halt {i j : Nat} {x : Array Int} (h : ¬ i < j) : reverseLoop i j x = x := by rw [reverseLoop, if_neg h]
/-- Where the reversal stands. -/
def RevR (w : World) (blk a b N : Nat) (d : Array Int) (v u : Value) (W : World) : Prop :=
  ∃ (i j : Nat) (x : Array Int), v = .int .i64 i ∧ u = .int .i64 j ∧ i ≤ N ∧ j < N ∧ x.size = N ∧ SW w W blk x ∧ reverseLoop i j x = reverseLoop a (b - 1) d
set_option maxHeartbeats 1600000 in
set_option maxRecDepth 100000 in
theorem reverse_any (blk cap a b : Nat) (d : Array Int) (w : World) (hH : RowAt w blk d) (hab : a < b) (hb : b ≤ d.size) (hz : d.size ≤ 1000000) :
    Calls Try.prog 41 #[.slice (some ⟨blk, 0, none⟩) d.size cap, .int .i64 a, .int .i64 b] w (SPost w blk (Sort.reverseRange d a b)) := by
  have HH := Lib.hid hH
  have HS := Lib.hid (SW.start hH)
  clear hH
  obtain ⟨N, hN⟩ : ∃ N, N = d.size := ⟨_, rfl⟩
  rw [← hN] at hb hz ⊢
  have HN := Lib.hid hN
  clear hN
  go_enter Try.func41, Try.ntmps41
  go_wp2
  go_loopw [6, 7] (fun v u W => RevR w blk a b N d v u W) (fun _ u _ => (intOf u).toNat)
  case atStart => exact ⟨a, b - 1, d, rfl, by congr 1; omega, by omega, by omega, HN.out.symm, HS.out, rfl⟩
  case round =>
    obtain ⟨i, j, x, rfl, rfl, hi, hj, hx, hs, hr⟩ := hrel
    have HX := Lib.hid hx
    have HSx := Lib.hid hs
    have HR := Lib.hid hr
    clear hx hs hr
    by_cases hlt : i < j
    · have ti : decide (i < j) = true := decide_eq_true hlt
      have ti' : decide ((i : Int) < (j : Int)) = true := decide_eq_true (by omega)
      have hiN : i < N := by omega
      have hrow := HSx.out.row HH.out (by rw [HX.out]; exact HN.out)
      obtain ⟨G, hG⟩ : ∃ G : Nat → Int, ∀ t, G t = x[t]! := ⟨fun t => x[t]!, fun _ => rfl⟩
      have hcw : ∀ t, t < N → wr.cell? ⟨blk, t, none⟩ = some (.int .i32 (G t)) := fun t ht => by rw [hG]; exact (hrow.get (by rw [HX.out]; omega)).1
      have hfw : ∀ t, t < N → wr.frozen? ⟨blk, t, none⟩ = false := fun t ht => (hrow.get (by rw [HX.out]; omega)).2
      have HG := Lib.hid hG
      clear hrow hG
      go_wp2
      go_region
      all_goals go_wp2
      all_goals
        go_roundw
        case rel =>
          refine ⟨i + 1, j - 1, swp x i j, by go_num, by congr 1; omega, by omega, by omega, by rw [swp_size]; exact HX.out, ?_, by rw [← HR.out, rev_step hlt]⟩
          rw [HG.out, HG.out]
          exact (HSx.out.drewN 1).swap (by rw [HX.out]; omega) (by rw [HX.out]; omega)
        case measure => simp [intOf]; omega
    · have ti : decide (i < j) = false := decide_eq_false hlt
      have ti' : decide ((i : Int) < (j : Int)) = false := decide_eq_false (by omega)
      go_wp2
      go_end0
      exact ⟨rfl, by unfold Sort.reverseRange; rw [← HR.out, rev_halt hlt]; exact HSx.out⟩

/-- Which child of r is the greater one. -/
def kidB (hi first r : Nat) (x : Array Int) : Bool := decide (2 * r + 2 < hi) && ltInt x[first + (2 * r + 1)]! x[first + (2 * r + 1) + 1]!
theorem sift_end {hi first r : Nat} {x : Array Int} (h : ¬ 2 * r + 1 < hi) : siftDown ltInt hi first r x = x := by rw [siftDown, dif_pos (by omega)]
theorem sift_hi {hi first r : Nat} {x : Array Int} (hk : kidB hi first r x = true) :
    siftDown ltInt hi first r x = if ltInt x[first + r]! x[first + (2 * r + 2)]! = true then siftDown ltInt hi first (2 * r + 2) (swp x (first + r) (first + (2 * r + 2))) else x := by
  unfold kidB at hk
  have h2 : 2 * r + 2 < hi := by rw [Bool.and_eq_true, decide_eq_true_iff] at hk; exact hk.1
  rw [siftDown, dif_neg (by omega), if_pos hk, dif_pos h2]
  cases ltInt x[first + r]! x[first + (2 * r + 2)]! <;> simp
theorem sift_lo {hi first r : Nat} {x : Array Int} (h : 2 * r + 1 < hi) (hk : kidB hi first r x = false) :
    siftDown ltInt hi first r x = if ltInt x[first + r]! x[first + (2 * r + 1)]! = true then siftDown ltInt hi first (2 * r + 1) (swp x (first + r) (first + (2 * r + 1))) else x := by
  unfold kidB at hk
  rw [siftDown, dif_neg (by omega), if_neg (by rw [show (decide (2 * r + 1 + 1 < hi) && ltInt x[first + (2 * r + 1)]! x[first + (2 * r + 1) + 1]!) = false from hk]; simp)]
  cases ltInt x[first + r]! x[first + (2 * r + 1)]! <;> simp
/-- Where the sifting stands. -/
def SifR (w : World) (blk hi first lo N : Nat) (d : Array Int) (v : Value) (W : World) : Prop :=
  ∃ (r : Nat) (x : Array Int), v = .int .i64 r ∧ r ≤ 1000000 ∧ x.size = N ∧ SW w W blk x ∧ siftDown ltInt hi first r x = siftDown ltInt hi first lo d
set_option maxHeartbeats 3200000 in
set_option maxRecDepth 100000 in
theorem sift_any (blk cap lo hi first : Nat) (d : Array Int) (w : World) (hH : RowAt w blk d) (hlo : lo ≤ 1000000) (hb : first + hi ≤ d.size) (hz : d.size ≤ 1000000) :
    Calls Try.prog 57 #[.slice (some ⟨blk, 0, none⟩) d.size cap, .int .i64 lo, .int .i64 hi, .int .i64 first] w (SPost w blk (Sort.siftDown ltInt hi first lo d)) := by
  have HH := Lib.hid hH
  have HS := Lib.hid (SW.start hH)
  clear hH
  obtain ⟨N, hN⟩ : ∃ N, N = d.size := ⟨_, rfl⟩
  rw [← hN] at hb hz ⊢
  have HN := Lib.hid hN
  clear hN
  go_enter Try.func57, Try.ntmps57
  go_wp2
  go_loopw [8] (fun v W => SifR w blk hi first lo N d v W) (fun v _ => hi - (intOf v).toNat)
  case atStart => exact ⟨lo, d, rfl, by omega, HN.out.symm, HS.out, rfl⟩
  case round =>
    obtain ⟨r, x, rfl, hr, hx, hs, he⟩ := hrel
    have HX := Lib.hid hx
    have HSx := Lib.hid hs
    have HE := Lib.hid he
    clear hx hs he
    by_cases h1 : 2 * r + 1 < hi
    case neg =>
      have t1 : decide (hi ≤ 2 * r + 1) = true := decide_eq_true (by omega)
      have t1' : decide ((hi : Int) ≤ 2 * (r : Int) + 1) = true := decide_eq_true (by omega)
      go_wp2
      go_end0
      exact ⟨rfl, by rw [← HE.out, sift_end h1]; exact HSx.out⟩
    have t1 : decide (hi ≤ 2 * r + 1) = false := decide_eq_false (by omega)
    have t1' : decide ((hi : Int) ≤ 2 * (r : Int) + 1) = false := decide_eq_false (by omega)
    obtain ⟨kb, hkb⟩ : ∃ kb, kb = kidB hi first r x := ⟨_, rfl⟩
    have HKB := Lib.hid hkb
    clear hkb
    go_upto_region 3 with (fail)
    obtain ⟨q, hq⟩ : ∃ q, q = 2 * r + 1 := ⟨_, rfl⟩
    obtain ⟨q1, hq1⟩ : ∃ q1, q1 = q + 1 := ⟨_, rfl⟩
    obtain ⟨f1, hf1⟩ : ∃ f1, f1 = first + q := ⟨_, rfl⟩
    obtain ⟨f2, hf2⟩ : ∃ f2, f2 = f1 + 1 := ⟨_, rfl⟩
    rw [show 2 * (r : Int) + 1 = (q : Int) from by omega]
    have s1 : IntKind.i64.wrap ((q : Int) + 1) = (q1 : Int) := by rw [IntKind.wrap_i64]; omega
    have HKQ : Hid (kb = (decide (q1 < hi) && ltInt x[f1]! x[f2]!)) := by
      have := HKB.out
      unfold kidB at this
      unfold Hid
      rw [this, hq1, hf2, hf1, hq]
    have hqh : q < hi := by omega
    have hbf : f1 < N := by omega
    have HQ := Lib.hid (show q = 2 * r + 1 ∧ q1 = q + 1 ∧ f1 = first + q ∧ f2 = f1 + 1 from ⟨hq, hq1, hf1, hf2⟩)
    have s2 : IntKind.i64.wrap ((first : Int) + (q : Int)) = (f1 : Int) := by rw [IntKind.wrap_i64]; omega
    have s3 : IntKind.i64.wrap ((f1 : Int) + 1) = (f2 : Int) := by rw [IntKind.wrap_i64]; omega
    have hbf2 : q1 < hi → f2 < N := fun h => by omega
    have HB2 := Lib.hid hbf2
    clear hq hq1 hf1 hf2 hbf2 t1 t1'
    go_cut [36] (fun t W => t = .bool kb ∧ SW w W blk x)
    case first =>
      have hrow := HSx.out.row HH.out (by rw [HX.out]; exact HN.out)
      obtain ⟨G, hG⟩ : ∃ G : Nat → Int, ∀ t, G t = x[t]! := ⟨fun t => x[t]!, fun _ => rfl⟩
      have hcw : ∀ t, t < N → wr.cell? ⟨blk, t, none⟩ = some (.int .i32 (G t)) := fun t ht => by rw [hG]; exact (hrow.get (by rw [HX.out]; omega)).1
      have hfw : ∀ t, t < N → wr.frozen? ⟨blk, t, none⟩ = false := fun t ht => (hrow.get (by rw [HX.out]; omega)).2
      have HG := Lib.hid hG
      clear hrow hG
      by_cases h2 : q1 < hi
      · have hk : kb = ltInt (G f1) (G f2) := by rw [HKQ.out, HG.out, HG.out, decide_eq_true h2]; rfl
        have HK := Lib.hid hk
        have d1 : decide (q1 < hi) = true := decide_eq_true h2
        have b2 : f2 < N := HB2.out h2
        clear hk
        go_quiet (first | (go_at_call 31; refine Calls.quiet_of_same (lless_any _ _ _)))
        go_wp2
        go_meet
        exact ⟨by rw [HK.out], HSx.out.drewN _⟩
      · have hk : kb = false := by rw [HKQ.out, decide_eq_false h2]; rfl
        have d1 : decide (q1 < hi) = false := decide_eq_false h2
        subst hk
        go_quiet (first | (go_at_call 31; refine Calls.quiet_of_same (lless_any _ _ _)))
        go_wp2
        go_meet
        exact ⟨rfl, HSx.out.drewN _⟩
    case rest =>
    obtain ⟨rfl, hs2⟩ := hcut
    have HS2 := Lib.hid hs2
    clear hs2 HSx s2 s3 HKQ HB2
    have HC : Hid (∃ c : Nat, c < hi ∧ r < c ∧ c = (if kb then q1 else q) ∧ (siftDown ltInt hi first r x = if ltInt x[first + r]! x[first + c]! = true then siftDown ltInt hi first c (swp x (first + r) (first + c)) else x)) := by
      obtain ⟨e1, e2, _, _⟩ := HQ.out
      have hk := HKB.out
      cases kb
      · exact ⟨q, hqh, by omega, rfl, by rw [e1]; exact sift_lo h1 hk.symm⟩
      · refine ⟨q1, ?_, by omega, rfl, by rw [e2, e1]; exact sift_hi hk.symm⟩
        unfold kidB at hk
        have hk := hk.symm
        rw [Bool.and_eq_true, decide_eq_true_iff] at hk
        omega
    obtain ⟨c, hch, hcr, hcv, hT⟩ := HC.out
    have HT := Lib.hid hT
    clear hT HC HKB HQ hqh hbf
    obtain ⟨fr, hfr⟩ : ∃ fr, fr = first + r := ⟨_, rfl⟩
    obtain ⟨fc, hfc⟩ : ∃ fc, fc = first + c := ⟨_, rfl⟩
    have b1 : fr < N := by omega
    have b2 : fc < N := by omega
    have hc6 : c ≤ 1000000 := by omega
    have s2 : IntKind.i64.wrap ((first : Int) + (r : Int)) = (fr : Int) := by rw [IntKind.wrap_i64]; omega
    have s3 : IntKind.i64.wrap ((first : Int) + (c : Int)) = (fc : Int) := by rw [IntKind.wrap_i64]; omega
    have s2' : (first : Int) + (r : Int) = (fr : Int) := by omega
    have s3' : (first : Int) + (c : Int) = (fc : Int) := by omega
    rw [← hfr, ← hfc] at HT
    clear hfr hfc
    go_upto_if 36 with (fail)
    go_cut [9] (fun t W => t = .int .i64 c ∧ wc = W)
    case first =>
      cases kb
      · simp only [Bool.false_eq_true, if_false] at hcv
        subst hcv
        go_wp2
        go_meet
        exact ⟨rfl, rfl⟩
      · simp only [if_true] at hcv
        subst hcv
        go_wp2
        go_meet
        exact ⟨rfl, rfl⟩
    case rest =>
    obtain ⟨rfl, rfl⟩ := hcut
    clear hcv s1
    have hrow := HS2.out.row HH.out (by rw [HX.out]; exact HN.out)
    obtain ⟨G, hG⟩ : ∃ G : Nat → Int, ∀ t, G t = x[t]! := ⟨fun t => x[t]!, fun _ => rfl⟩
    have hcw : ∀ t, t < N → wc.cell? ⟨blk, t, none⟩ = some (.int .i32 (G t)) := fun t ht => by rw [hG]; exact (hrow.get (by rw [HX.out]; omega)).1
    have hfw : ∀ t, t < N → wc.frozen? ⟨blk, t, none⟩ = false := fun t ht => (hrow.get (by rw [HX.out]; omega)).2
    have HG := Lib.hid hG
    clear hrow hG
    go_wp2
    go_quiet (first | (go_at_call 31; refine Calls.quiet_of_same (lless_any _ _ _)))
    rcases hl : ltInt (G fr) (G fc) with _ | _
    · have HL : Hid (siftDown ltInt hi first r x = x) := by
        unfold Hid
        rw [HT.out, if_neg]
        rw [← HG.out, ← HG.out, hl]; simp
      clear hl
      go_wp2
      refine bodyPost_ret (results_none rfl _ _ _) rfl ?_
      exact ⟨rfl, by rw [← HE.out, HL.out]; exact HS2.out.drewN _⟩
    · have HL : Hid (siftDown ltInt hi first r x = siftDown ltInt hi first c (swp x fr fc)) := by
        unfold Hid
        rw [HT.out, if_pos]
        rw [← HG.out, ← HG.out, hl]
      clear hl
      go_wp2
      go_region
      all_goals go_wp2
      all_goals
        go_roundw
        case rel =>
          refine ⟨c, swp x fr fc, rfl, hc6, by rw [swp_size]; exact HX.out, ?_, by rw [← HE.out, HL.out]⟩
          rw [HG.out, HG.out]
          exact (HS2.out.drewN _).swap (by rw [HX.out]; omega) (by rw [HX.out]; omega)
        case measure => simp [intOf]; omega
end Go.Proofs.Ytghclmbicdmboaa
