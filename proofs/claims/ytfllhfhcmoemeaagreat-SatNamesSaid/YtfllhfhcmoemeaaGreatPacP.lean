/- The contracts of Luby, First and their plain answers. The contract of the plain answer's Row. The contracts of a Pace. -/
import Derived.Test.YtfllhfhcmoemeaaGreatPacM
import Derived.Test.YtfllhfhcmoemeaaGreatShelf
import Derived.Shelf.Spec.BitsCarry
import Derived.Deep.RegionWith
import Derived.Deep.CutBlock
import Derived.Deep.QuietTactic
namespace Go.Proofs.YtfllhfhcmoemeaaGreat
open Go.RowKit PacM

theorem pret_int {k : IntKind} {a b : Int} (h : a = b) : Ending.returned (.int k a) = .returned (.int k b) := by rw [h]
theorem pret_bool {a b : Bool} (h : a = b) : Ending.returned (.bool a) = .returned (.bool b) := by rw [h]
theorem len64_any (x : Nat) (w : World) (h1 : x ≤ 1048576) : Calls Tryz.prog 153 #[.int .u64 (x : Int)] w fun e w' => e = .returned (.int .i64 (Lib.bitLen x)) ∧ w = w' := by
  have h := Any.bits_Len64 Tryz.lays129 (x : Int) w (by omega) (by omega)
  rw [Int.toNat_natCast] at h
  exact h.mono fun e w' ⟨h1, h2⟩ => ⟨h1, h2.symm⟩
theorem plen_any (x : Nat) (w : World) (h1 : x ≤ 1048576) : Calls Tryz.prog 120 #[.int .u64 (x : Int)] w fun e w' => e = .returned (.int .i64 (Lib.bitLen x)) ∧ w = w' := by
  have H := Lib.hid (len64_any x w h1)
  go_enter Tryz.func120, Tryz.ntmps120
  go_wp2_with fail
  refine H.out.mono ?_
  rintro e w' ⟨rfl, rfl⟩
  go_wp2_with fail
  go_ret
  exact ⟨rfl, rfl⟩
set_option maxHeartbeats 1600000 in
set_option maxRecDepth 100000 in
theorem lub_any (i : Nat) (w : World) (h0 : 1 ≤ i) (h1 : i ≤ 1048576) : Calls Tryz.prog 104 #[.int .i64 (i : Int)] w fun e w' => e = .returned (.int .i64 (lub i)) ∧ w = w' := by
  go_enter Tryz.func104, Tryz.ntmps104
  go_wp2_with fail
  go_loopw [0] (fun v wr => ∃ j : Nat, v = .int .i64 (j : Int) ∧ 1 ≤ j ∧ j ≤ i ∧ Hid (lub j = lub i) ∧ w = wr) (fun v _ => (intOf v).toNat)
  case atStart => exact ⟨i, rfl, h0, Nat.le_refl _, rfl, rfl⟩
  case round =>
    obtain ⟨j, rfl, hj0, hj1, hl, rfl⟩ := hrel
    obtain ⟨k, hk, hb, hp1, hp2⟩ := bit_len hj0 (by omega)
    have HL := Lib.hid (plen_any j w (by omega))
    rw [hb] at HL
    have su : IntKind.u64.wrap (j : Int) = (j : Int) := by rw [IntKind.wrap_u64]; omega
    have hpk : (2 : Nat) ^ k ≤ 1048576 := Nat.le_trans (Nat.pow_le_pow_right (by omega) hk) (by decide)
    have HP : Hid (wrap64 ((2 : Int) ^ k) = ((2 ^ k : Nat) : Int)) := by
      unfold Hid
      rw [show (2 : Int) ^ k = ((2 ^ k : Nat) : Int) by simp]
      generalize 2 ^ k = p at *
      simp only [wrap64]
      omega
    have HT := Lib.hid (lub_top (k := k) (by omega))
    have HD := Lib.hid (fun h => lub_down (k := k) (i := j) (by omega) hp1 h)
    have hp3 : 1 ≤ 2 ^ k := two_pos k
    have e2 : 2 ^ (k + 1) = 2 * 2 ^ k := by rw [Nat.pow_succ]; omega
    rw [e2] at hp2 HT HD
    clear e2 hb
    generalize hpe : 2 ^ k = p at *
    go_wp2_with fail
    refine HL.out.mono ?_
    rintro e w' ⟨rfl, rfl⟩
    go_wp2_with fail
    · rename_i ht
      rw [HP.out] at ht
      have hj : j = 2 * p - 1 := by
        have := of_decide_eq_true ht
        simp only [wrap64] at this
        omega
      go_ret
      refine ⟨?_, rfl⟩
      have e : lub i = p := by rw [← hl.out, hj, HT.out]
      rw [e, ← HP.out]; rfl
    · rename_i ht
      rw [HP.out] at ht ⊢
      have hj : j ≠ 2 * p - 1 := by
        intro e
        apply ne_of_beq_false ht
        simp only [wrap64]
        omega
      have := HD.out (by omega)
      have e : wrap64 ((j : Int) - wrap64 ((p : Int) - 1)) = ((j - (p - 1) : Nat) : Int) := by simp only [wrap64]; omega
      rw [e]
      refine ⟨⟨j - (p - 1), rfl, by omega, by omega, by unfold Hid; rw [← this]; exact hl.out, trivial⟩, ?_⟩
      simp only [intOf]
      omega
set_option maxHeartbeats 1600000 in
theorem within_any (n : Int) (w : World) : Calls Tryz.prog 38 #[.int .i64 n] w fun e w' => e = .returned (.int .i64 (min (max n 1) 1048576)) ∧ w = w' := by
  go_enter Tryz.func38, Tryz.ntmps38
  go_wp2_with fail
  go_ret
  exact ⟨rfl, rfl⟩
theorem wrap_pos (x : Int) : 0 ≤ IntKind.u64.wrap x := by rw [IntKind.wrap_u64]; exact Int.emod_nonneg _ (by decide)
theorem mul_u (x y : Int) : IntKind.u64.wrap (IntKind.u64.wrap x * y) = IntKind.u64.wrap (x * y) := by
  simp only [IntKind.wrap_u64]
  rw [Int.mul_emod, Int.emod_emod, ← Int.mul_emod]
theorem add_u (x y : Int) : IntKind.u64.wrap (IntKind.u64.wrap x + IntKind.u64.wrap y) = IntKind.u64.wrap (x + y) := by
  simp only [IntKind.wrap_u64]
  rw [← Int.add_emod]
/-- With which value a variable is tried first. -/
def firstB (seed v : Int) : Bool := decide (seed ≠ 0 ∧ 9223372036854775808 ≤ (seed * 6364136223846793005 + v * 1442695040888963407) % 18446744073709551616)
set_option maxHeartbeats 1600000 in
theorem first_any (seed v : Int) (w : World) (h0 : 0 ≤ seed) (h1 : seed ≤ 18446744073709551615) : Calls Tryz.prog 37 #[.int .u64 seed, .int .i64 v] w fun e w' => e = .returned (.bool (firstB seed v)) ∧ w = w' := by
  by_cases hs : seed = 0
  · subst hs
    go_enter Tryz.func37, Tryz.ntmps37
    go_wp2_with fail
    go_ret
    exact ⟨rfl, rfl⟩
  have ts : (seed == 0) = false := by simpa using hs
  go_enter Tryz.func37, Tryz.ntmps37
  go_wp2_with fail
  go_ret
  refine ⟨pret_bool ?_, rfl⟩
  unfold firstB
  rw [mul_u, add_u]
  generalize seed * 6364136223846793005 + v * 1442695040888963407 = X
  rw [IntKind.wrap_u64, Bool.eq_iff_iff, beq_iff_eq, decide_eq_true_iff]
  constructor
  · intro h; exact ⟨hs, by omega⟩
  · rintro ⟨_, h⟩; omega
end Go.Proofs.YtfllhfhcmoemeaaGreat
namespace Go.Proofs.YtfllhfhcmoemeaaGreat
open Go.RowKit PacM

theorem pinfo_tint : (Tryz.prog.info? 3).map (fun i => (i.zero, i.size, i.bytes)) = some (some (.int .i64 0), 1, 8) := by kernel_rfl
/-- The numbers as cells. -/
def rowF : Nat → Value := fun j => .int .i64 (lub (j + 1))
theorem rowF_one (n : Nat) : ∀ u ∈ cellsV rowF n, u.oneCell' = true := fun u hu => by
  unfold cellsV at hu
  obtain ⟨j, _, rfl⟩ := List.mem_map.1 hu
  rfl
theorem src_row {w : World} {g n c : Nat} {f : Nat → Value} (h : RowV 3 1 w g n c f) : ∀ j u, (cellsV f n)[j]? = some u → w.cell? ((⟨g, 0, none⟩ : Addr).add j) = some u := fun j u hu => by
  have hj : j < n := by
    have := (List.getElem?_eq_some_iff.1 hu).1
    simpa [cellsV] using this
  have h2 := h.cell (show j < n * 1 by omega)
  rw [cellsV_get f hj] at hu
  injection hu with hu
  rw [← hu, ← h2]
  congr 1
  simp [Addr.add]
  omega
def lenOf : Value → Nat
  | .slice _ n _ => n
  | _ => 0
def RowTo (many : Nat) (w : World) (v : Value) (wr : World) : Prop :=
  ∃ g n c k : Nat, v = .slice (some ⟨g, 0, none⟩) n c ∧ k ≤ 12 ∧ Hid (n = 2 ^ (k + 1) - 1) ∧ 1 ≤ n ∧ n ≤ 2 * many + 1 ∧ w.heap.size ≤ g ∧ Hid (RowV 3 1 wr g n c rowF) ∧ Hid (Below w.heap.size w wr)
end Go.Proofs.YtfllhfhcmoemeaaGreat
namespace Go.Proofs.YtfllhfhcmoemeaaGreat
open Go.RowKit PacM

/-- A Pace in memory. -/
def PaceAt (w : World) (b : Nat) (sd u r c s n : Int) : Prop :=
  w.heap[b]? = some (.cells #[.int .u64 sd, .int .i64 u, .int .i64 r, .int .i64 c, .int .i64 s, .int .i64 n] 84 (0, 0))
section
variable {w w' : World} {b : Nat} {sd u r c s n : Int}
theorem PaceAt.lt (h : PaceAt w b sd u r c s n) : b < w.heap.size := lt_of_heap h
theorem PaceAt.same (h : PaceAt w b sd u r c s n) (e : w'.heap[b]? = w.heap[b]?) : PaceAt w' b sd u r c s n := by
  unfold PaceAt; rw [e]; exact h
theorem PaceAt.c1 (h : PaceAt w b sd u r c s n) : w.cell? ⟨b, 1, none⟩ = some (.int .i64 u) := by rw [Lib.cell_of_heap h]; rfl
theorem PaceAt.c2 (h : PaceAt w b sd u r c s n) : w.cell? ⟨b, 2, none⟩ = some (.int .i64 r) := by rw [Lib.cell_of_heap h]; rfl
theorem PaceAt.c3 (h : PaceAt w b sd u r c s n) : w.cell? ⟨b, 3, none⟩ = some (.int .i64 c) := by rw [Lib.cell_of_heap h]; rfl
theorem PaceAt.c4 (h : PaceAt w b sd u r c s n) : w.cell? ⟨b, 4, none⟩ = some (.int .i64 s) := by rw [Lib.cell_of_heap h]; rfl
theorem PaceAt.c5 (h : PaceAt w b sd u r c s n) : w.cell? ⟨b, 5, none⟩ = some (.int .i64 n) := by rw [Lib.cell_of_heap h]; rfl
theorem PaceAt.free (h : PaceAt w b sd u r c s n) (i : Nat) : w.frozen? ⟨b, i, none⟩ = false := Lib.frozen_of_heap h i
theorem PaceAt.s3 (h : PaceAt w b sd u r c s n) (x : Int) : PaceAt (w.setCell ⟨b, 3, none⟩ (.int .i64 x)) b sd u r x s n := Lib.heap_setCell_same h _
theorem PaceAt.s4 (h : PaceAt w b sd u r c s n) (x : Int) : PaceAt (w.setCell ⟨b, 4, none⟩ (.int .i64 x)) b sd u r c x n := Lib.heap_setCell_same h _
theorem PaceAt.s5 (h : PaceAt w b sd u r c s n) (x : Int) : PaceAt (w.setCell ⟨b, 5, none⟩ (.int .i64 x)) b sd u r c s x := Lib.heap_setCell_same h _
end
/-- Does it begin anew? -/
def due (u n s : Int) : Bool := decide (u * (lub (min (max (n + 1) 1) 1048576).toNat : Int) ≤ s + 1)
set_option maxHeartbeats 3200000 in
set_option maxRecDepth 100000 in
theorem conflict_any {w : World} {b : Nat} {sd u r c s n : Int} (h : PaceAt w b sd u r c s n) (hu : 1 ≤ u ∧ u ≤ 1048576) (hc : 0 ≤ c ∧ c ≤ 100000) (hs : 0 ≤ s ∧ s ≤ 100000) (hn : 0 ≤ n ∧ n ≤ 100000) :
    Calls Tryz.prog 73 #[.pointer (some ⟨b, 0, none⟩)] w fun e w' => e = .returned (.bool (due u n s)) ∧ PaceAt w' b sd u r (c + 1) (if due u n s = true then 0 else s + 1) (if due u n s = true then n + 1 else n) ∧ Kf (fun k => k = b) w w' := by
  have hc3 := h.c3
  have hf3 := h.free 3
  have hw1 : wrap64 (c + 1) = c + 1 := by simp only [wrap64]; omega
  have hw2 : wrap64 (s + 1) = s + 1 := by simp only [wrap64]; omega
  have hw3 : wrap64 (n + 1) = n + 1 := by simp only [wrap64]; omega
  have HP1 := Lib.hid (h.s3 (c + 1))
  have HK1 : Hid (Kf (fun k => k = b) w (w.setCell ⟨b, 3, none⟩ (.int .i64 (c + 1)))) := (Kf.refl (fun k => k = b) w).set (p := ⟨b, 3, none⟩) (.inl rfl) _
  have hlb := lub_bd (i := (min (max (n + 1) 1) 1048576).toNat) (by omega) (by omega)
  have hmz : (min (max (n + 1) 1) 1048576).toNat ≤ 1048576 := by omega
  have HRW : Hid (∀ V : World, Calls Tryz.prog 38 #[.int .i64 (n + 1)] V fun e w' => e = .returned (.int .i64 ((min (max (n + 1) 1) 1048576).toNat : Nat)) ∧ w' = V) := fun V => (within_any (n + 1) V).mono fun e w' ⟨h1, h2⟩ => ⟨by rw [h1]; exact pret_int (by omega), h2.symm⟩
  have HRL : Hid (∀ V : World, Calls Tryz.prog 104 #[.int .i64 ((min (max (n + 1) 1) 1048576).toNat : Nat)] V fun e w' => e = .returned (.int .i64 (lub (min (max (n + 1) 1) 1048576).toNat)) ∧ w' = V) := fun V => (lub_any _ V (by omega) (by omega)).mono fun e w' ⟨h1, h2⟩ => ⟨h1, h2.symm⟩
  have HDU : Hid (due u n s = decide (u * (lub (min (max (n + 1) 1) 1048576).toNat : Int) ≤ s + 1)) := rfl
  generalize lub (min (max (n + 1) 1) 1048576).toNat = lz at *
  generalize (min (max (n + 1) 1) 1048576).toNat = mz at *
  generalize due u n s = du at *
  have hlz : lz ≤ 1048576 := by omega
  have hmul : 0 ≤ u * (lz : Int) ∧ u * (lz : Int) ≤ 1048576 * 1048576 := ⟨Int.mul_nonneg (by omega) (by omega), Int.mul_le_mul hu.2 (by omega) (by omega) (by omega)⟩
  have hw4 : wrap64 (u * (lz : Int)) = u * (lz : Int) := by
    generalize u * (lz : Int) = z at *
    simp only [wrap64]; omega
  clear h
  go_enter Tryz.func73, Tryz.ntmps73
  go_upto_region 2 with (fail)
  obtain ⟨w1, hw1⟩ : ∃ w1, w1 = w.setCell ⟨b, 3, none⟩ (.int .i64 (c + 1)) := ⟨_, rfl⟩
  rw [← hw1] at HP1 HK1 ⊢
  clear hw1 hc3 hf3
  have hc4 := HP1.out.c4
  have hf4 := HP1.out.free 4
  have HP2 := Lib.hid (HP1.out.s4 (s + 1))
  have HK2 : Hid (Kf (fun k => k = b) w (w1.setCell ⟨b, 4, none⟩ (.int .i64 (s + 1)))) := HK1.out.set (p := ⟨b, 4, none⟩) (.inl rfl) _
  clear HP1 HK1
  go_upto_region 3 with (fail)
  obtain ⟨w2, hw2⟩ : ∃ w2, w2 = w1.setCell ⟨b, 4, none⟩ (.int .i64 (s + 1)) := ⟨_, rfl⟩
  rw [← hw2] at HP2 HK2 ⊢
  clear hw2 hc4 hf4
  have HRW2 : Hid (∀ V : World, Calls Tryz.prog 38 #[.int .i64 (IntKind.i64.wrap (n + 1))] V fun e w' => e = .returned (.int .i64 (mz : Nat)) ∧ w' = V) := by
    have e : IntKind.i64.wrap (n + 1) = n + 1 := by rw [IntKind.wrap_i64]; omega
    rw [e]; exact HRW.out
  clear HRW
  have hc1 := HP2.out.c1
  have hc4 := HP2.out.c4
  have hc5 := HP2.out.c5
  have HP3 : Hid (∀ q, PaceAt (w2.drewN q) b sd u r (c + 1) (s + 1) n) := fun q => HP2.out.same rfl
  have HK3 : Hid (∀ q, Kf (fun k => k = b) w (w2.drewN q)) := fun q => HK2.out.drewN q
  clear HP2 HK2
  have hlt : (s + 1 < u * (lz : Int)) ↔ du = false := by rw [HDU.out, decide_eq_false_iff_not]; omega
  go_quiet (first | (go_at_call 38; exact Calls.quiet_of_same (HRW2.out _)) | (go_at_call 104; exact Calls.quiet_of_same (HRL.out _)))
  have hw5 : IntKind.i64.wrap (u * (lz : Int)) = u * (lz : Int) := by
    generalize u * (lz : Int) = z at *
    rw [IntKind.wrap_i64]; omega
  have HPq := Lib.hid (HP3.out nq)
  have HKq := Lib.hid (HK3.out nq)
  clear HP3 HK3 hc1 hc4 hc5 HRL HRW2 HDU hmul hlb
  generalize w2.drewN nq = w3 at *
  rw [hw5]
  clear hw5 hw4
  generalize u * (lz : Int) = z at *
  cases du with
  | false =>
    have hz : s + 1 < z := hlt.2 rfl
    have t1 : decide (s + 1 < z) = true := decide_eq_true hz
    clear hlt
    go_wp2_with fail
    go_ret
    exact ⟨rfl, HPq.out, HKq.out⟩
  | true =>
    have hz : z ≤ s + 1 := by
      rcases Int.lt_or_le (s + 1) z with h | h
      · have := hlt.1 h; cases this
      · exact h
    have t1 : decide (s + 1 < z) = false := decide_eq_false (by omega)
    clear hlt
    have hc5 := HPq.out.c5
    have hf5 := HPq.out.free 5
    have HP5 := Lib.hid (HPq.out.s5 (n + 1))
    have HK5 : Hid (Kf (fun k => k = b) w (w3.setCell ⟨b, 5, none⟩ (.int .i64 (n + 1)))) := HKq.out.set (p := ⟨b, 5, none⟩) (.inl rfl) _
    clear HPq HKq
    go_upto_region 6 with (fail)
    obtain ⟨w4, hw4'⟩ : ∃ w4, w4 = w3.setCell ⟨b, 5, none⟩ (.int .i64 (n + 1)) := ⟨_, rfl⟩
    rw [← hw4'] at HP5 HK5 ⊢
    clear hw4' hc5 hf5
    have hc4 := HP5.out.c4
    have hf4 := HP5.out.free 4
    have HP6 := Lib.hid (HP5.out.s4 0)
    have HK6 : Hid (Kf (fun k => k = b) w (w4.setCell ⟨b, 4, none⟩ (.int .i64 0))) := HK5.out.set (p := ⟨b, 4, none⟩) (.inl rfl) _
    clear HP5 HK5
    go_wp2_with fail
    go_ret
    exact ⟨rfl, HP6.out, HK6.out⟩
set_option maxHeartbeats 3200000 in
theorem conflicts_any {w : World} {b : Nat} {sd u r c s n : Int} (h : PaceAt w b sd u r c s n) :
    Calls Tryz.prog 49 #[.pointer (some ⟨b, 0, none⟩)] w fun e w' => e = .returned (.int .i64 c) ∧ w' = w := by
  have hc5 := h.c3
  clear h
  go_enter Tryz.func49, Tryz.ntmps49
  go_wp2_with fail
  go_ret
  exact ⟨rfl, rfl⟩
/-- How many are forgotten. -/
def forgZ (r c l : Int) : Int := if r + c / 10 ≤ l then l / 2 else 0
set_option maxHeartbeats 3200000 in
theorem forget_any {w : World} {b : Nat} {sd u r c s n : Int} (h : PaceAt w b sd u r c s n) (hr : 1 ≤ r ∧ r ≤ 1048576) (hc : 0 ≤ c ∧ c ≤ 100000) (l : Int) (hl : -9223372036854775808 ≤ l ∧ l ≤ 9223372036854775807) :
    Calls Tryz.prog 134 #[.pointer (some ⟨b, 0, none⟩), .int .i64 l] w fun e w' => e = .returned (.int .i64 (forgZ r c l)) ∧ ∃ q, w' = w.drewN q := by
  have hc2 := h.c2
  have hc3 := h.c3
  clear h
  have hw6 : IntKind.i64.wrap (r + IntKind.i64.wrap (c.tdiv 10)) = r + c / 10 := by
    rw [Int.tdiv_eq_ediv_of_nonneg hc.1, IntKind.wrap_i64, IntKind.wrap_i64]; omega
  have HF : Hid (forgZ r c l = if r + c / 10 ≤ l then l / 2 else 0) := rfl
  have hz : 1 ≤ r + c / 10 := by omega
  generalize forgZ r c l = fz at *
  go_enter Tryz.func134, Tryz.ntmps134
  go_upto_region 1 with (fail)
  go_quiet (fail)
  clear hc2 hc3 hw6
  generalize r + c / 10 = z at *
  by_cases hlt : l < z
  · have t1 : decide (l < z) = true := decide_eq_true hlt
    have HF2 : Hid (fz = 0) := by unfold Hid; rw [HF.out, if_neg (by omega)]
    clear HF
    go_wp2_with fail
    go_ret
    exact ⟨pret_int HF2.out.symm, _, rfl⟩
  · have t1 : decide (l < z) = false := decide_eq_false hlt
    have HF2 : Hid (fz = l / 2) := by unfold Hid; rw [HF.out, if_pos (by omega)]
    have hl0 : 0 ≤ l := by omega
    clear HF
    go_wp2_with fail
    go_ret
    exact ⟨pret_int HF2.out.symm, _, rfl⟩
/-- As it counts. -/
def winZ (n : Int) : Int := min (max n 1) 1048576
theorem winZ_bd (n : Int) : 1 ≤ winZ n ∧ winZ n ≤ 1048576 := by unfold winZ; omega
set_option maxHeartbeats 3200000 in
set_option maxRecDepth 100000 in
theorem pnew_any (w : World) (sd u r : Int) :
    Calls Tryz.prog 19 #[.agg #[.int .u64 sd, .int .i64 u, .int .i64 r]] w fun e w' => ∃ b, e = .returned (.pointer (some ⟨b, 0, none⟩)) ∧ PaceAt w' b sd (winZ u) (winZ r) 0 0 0 ∧ w.heap.size ≤ b ∧ Below w.heap.size w w' := by
  have HU := Lib.hid (within_any u)
  have HRR := Lib.hid (within_any r)
  have eu : min (max u 1) 1048576 = winZ u := rfl
  have er : min (max r 1) 1048576 = winZ r := rfl
  rw [eu] at HU
  rw [er] at HRR
  clear eu er
  generalize winZ u = zu at *
  generalize winZ r = zr at *
  go_enter Tryz.func19, Tryz.ntmps19
  go_wp2_with fail
  refine (HU.out _).mono ?_
  rintro e w' ⟨rfl, rfl⟩
  go_wp2_with fail
  refine (HRR.out _).mono ?_
  rintro e w' ⟨rfl, rfl⟩
  go_wp2_with fail
  go_ret
  have hx : ∀ (V : World) (o : Obj), V.heap.size = w.heap.size + 1 → (V.alloc o).heap[w.heap.size + 1]? = some o := fun V o h => by rw [← h]; exact blk_new V o
  refine ⟨_, rfl, ?_, Nat.le_succ _, ?_⟩
  · unfold PaceAt
    refine hx _ _ ?_
    simp only [World.size_alloc]
  · refine Below.alloc ((Below.refl _ _).alloc (Nat.le_refl _) _) ?_ _
    simp only [World.size_alloc]; omega
theorem size_drew (w : World) (q : Nat) : (w.drewN q).heap.size = w.heap.size := rfl
theorem pbelow_drewN {B : Nat} {a w : World} (h : Below B a w) (q : Nat) : Below B a (w.drewN q) := ⟨h.os, h.tape, h.output, h.size, h.block⟩
end Go.Proofs.YtfllhfhcmoemeaaGreat
