/- Number; the plain answers' power, Width, Cut, Bits. -/
import Derived.Test.YtelpoocgmflofaaVecJ
namespace Go.Proofs.Ytelpoocgmflofaa
open Go.RowKit GatM VecM

/-- What Number has summed up behind k of n bits. -/
def numK (f : Nat → Bool) (n k : Nat) : Int := if k = n then nB f n else uN f k
theorem numK_bd (f : Nat → Bool) {n k : Nat} (hn : 0 < n) (hk : k ≤ n) (h : n ≤ 32) : -4294967296 ≤ numK f n k ∧ numK f n k ≤ 4294967296 := by
  have hp : ∀ j, j ≤ 32 → pw j ≤ 4294967296 := fun j hj => by
    have h1 : pw (j + (32 - j)) = 4294967296 := by rw [show j + (32 - j) = 32 by omega]; decide
    rw [pw_add] at h1
    have h2 := pw_pos j
    have h3 := pw_pos (32 - j)
    have := Int.mul_le_mul_of_nonneg_left (show 1 ≤ pw (32 - j) by omega) (Int.le_of_lt h2)
    omega
  unfold numK
  split
  · obtain ⟨j, rfl⟩ : ∃ j, n = j + 1 := ⟨n - 1, by omega⟩
    have := nB_bd f j
    have := hp j (by omega)
    omega
  · have := uN_bd f k
    have := hp k (by omega)
    omega
section
variable {B : Nat} {w0 w : World} {c : GrC} {gs : Gs}
set_option maxHeartbeats 3200000 in
set_option maxRecDepth 100000 in
theorem vNumber_any (h : LvG B w0 w c gs) {A V : Option Addr} {n cn nv cv : Nat} {l : List Nat} {bs : List Bool} (hl : VcAt w c A n l) (hv : RdO w w.heap.size V nv bs) (hin : AllIn gs l) (hn : n ≤ 32) (hg : gs.length ≤ 80000) :
    Calls Try.prog 20 #[.pointer (some ⟨c.bg, 0, none⟩), .slice V nv cv, .slice A n cn] w fun e w' => e = .returned (.tuple #[.int .i64 (valE bs gs l), .int .i64 0]) ∧ Below w.heap.size w w' := by
  have hp := hl.pos
  have hll := hl.len
  have HF := Lib.hid (vfitsZ_any (n : Int) w)
  rw [decide_eq_true (show (1 ≤ (n : Int) ∧ (n : Int) ≤ 32) by omega)] at HF
  have hev := h.eval (by omega) V nv cv bs hv A n cn l hl.rd hin (by omega)
  have HEV := Lib.hid hev
  obtain ⟨F, hF⟩ : ∃ F : Nat → Bool, F = fun i => sayE bs gs (l.getD i 0) := ⟨_, rfl⟩
  have HV : Hid (valE bs gs l = nB F n) := by
    unfold Hid
    rw [hF, valE_of (by omega) fun i _ => rfl, hll]
  have HE : Hid (∀ e w', EvalTo bs gs l w e w' → ∃ g, e = .returned (.tuple #[.slice (some ⟨g, 0, none⟩) n n, .int .i64 0]) ∧ Below w.heap.size w w' ∧ Hid (∀ j, j < n → w'.cell? ⟨g, j, none⟩ = some (.bool (F j)))) := fun e w' ⟨g, q1, q2, q3, q4⟩ => by
    rw [hll] at q1 q2
    exact ⟨g, q1, q4, fun j hj => by rw [q2.cell (show j < n * 1 by omega), hF]⟩
  rw [HV.out]
  clear h hl hv hin hg hF hev hll HV
  go_enter Try.func20, Try.ntmps20
  go_wp2_with fail
  refine HF.out.mono ?_
  rintro e w' ⟨rfl, rfl⟩
  go_wp2_with fail
  refine HEV.out.mono ?_
  intro e w1 hE
  obtain ⟨g, rfl, hb, HC⟩ := HE.out e w1 hE
  have HB := Lib.hid hb
  clear hb hE HE HEV HF
  go_wp2_with fail
  go_loopw [10, 30] (fun v i wr => ∃ k : Nat, v = .int .i64 (numK F n k) ∧ i = .int .i64 (k : Int) ∧ k ≤ n ∧ w1 = wr) (fun _ i _ => n - (intOf i).toNat)
  case atStart => exact ⟨0, by unfold numK; rw [if_neg (by omega)]; rfl, rfl, Nat.zero_le _, rfl⟩
  case round =>
    obtain ⟨k, rfl, rfl, hk, rfl⟩ := hrel
    by_cases hlt : k < n
    · have tk : decide ((k : Int) < (n : Int)) = true := decide_eq_true (by omega)
      have tk2 : decide (k < n) = true := decide_eq_true hlt
      have tk3 : decide ((n : Int) ≤ (k : Int)) = false := decide_eq_false (by omega)
      have x0 := HC.out k hlt
      have hbd := numK_bd F hp (show k ≤ n by omega) hn
      have hbd2 := numK_bd F hp (show k + 1 ≤ n by omega) hn
      have HP : Hid (pw k = 2 ^ k) := rfl
      have HS : Hid (numK F n (k + 1) = numK F n k + (if F k then (if k + 1 = n then - pw k else pw k) else 0)) := by
        unfold Hid
        have e1 : numK F n k = uN F k := by unfold numK; rw [if_neg (by omega)]
        rw [e1]
        unfold numK
        by_cases e : k + 1 = n
        · rw [if_pos e, ← e, nB_one, if_pos rfl]
          split <;> omega
        · rw [if_neg e, if_neg e, uN_succ]
      have hpk : 0 < pw k := pw_pos k
      have hpk2 : pw k ≤ 2147483648 := by
        have h1 : pw (k + (31 - k)) = 2147483648 := by rw [show k + (31 - k) = 31 by omega]; decide
        rw [pw_add] at h1
        have h3 := pw_pos (31 - k)
        have := Int.mul_le_mul_of_nonneg_left (show 1 ≤ pw (31 - k) by omega) (Int.le_of_lt hpk)
        omega
      have hq : (2 : Int) ^ k = pw k := rfl
      have hwk : IntKind.i64.wrap (pw k) = pw k := IntWalk.i64_in _ (by omega)
      obtain ⟨s2, hs2⟩ : ∃ s2, s2 = numK F n (k + 1) := ⟨_, rfl⟩
      rw [← hs2] at HS hbd2
      have HK2 := Lib.hid hs2
      clear hs2
      generalize numK F n k = s at *
      generalize pw k = p at *
      by_cases hf : F k = true
      · rw [hf] at x0 HS
        by_cases hl : k + 1 = n
        · have tl : ((k : Int) == (n : Int) - 1) = true := by rw [beq_iff_eq]; omega
          obtain rfl : s2 = s - p := by have := HS.out; rw [if_pos rfl, if_pos hl] at this; omega
          clear HS hl hf HP
          go_wp2_with fail
          go_roundw
          case rel => exact ⟨k + 1, by rw [HK2.out], by go_num, by omega, trivial⟩
          case measure => simp [intOf]; omega
        · have tl : ((k : Int) == (n : Int) - 1) = false := by rw [beq_eq_false_iff_ne]; omega
          obtain rfl : s2 = s + p := by have := HS.out; rw [if_pos rfl, if_neg hl] at this; omega
          clear HS hl hf HP
          go_wp2_with fail
          go_roundw
          case rel => exact ⟨k + 1, by rw [HK2.out], by go_num, by omega, trivial⟩
          case measure => simp [intOf]; omega
      · have hf : F k = false := by cases hq : F k
                                    · rfl
                                    · exact absurd hq hf
        rw [hf] at x0 HS
        obtain rfl : s2 = s := by have := HS.out; simp at this; exact this
        clear HS hf HP
        go_wp2_with fail
        go_roundw
        case rel => exact ⟨k + 1, by rw [HK2.out], by go_num, by omega, trivial⟩
        case measure => simp [intOf]; omega
    · have tk : decide ((k : Int) < (n : Int)) = false := decide_eq_false (by omega)
      have tk2 : decide (k < n) = false := decide_eq_false hlt
      obtain rfl : k = n := by omega
      have HK2 : Hid (numK F k k = nB F k) := by unfold Hid numK; rw [if_pos rfl]
      rw [HK2.out]
      go_wp2_with fail
      go_ret2
      exact ⟨rfl, HB.out⟩
end

/-! ### The plain answers -/
theorem rpower_any (n : Nat) (hn : n ≤ 60) (w : World) : Calls Try.prog 45 #[.int .i64 (n : Int)] w fun e w' => e = .returned (.int .i64 (pw n)) ∧ w = w' := by
  go_enter Try.func45, Try.ntmps45
  go_wp2_with fail
  go_loopw [0, 3] (fun i v wr => ∃ k j : Nat, i = .int .i64 (j : Int) ∧ v = .int .i64 (pw k) ∧ Hid (k + j = n) ∧ w = wr) (fun i _ _ => (intOf i).toNat)
  case atStart => exact ⟨0, n, rfl, rfl, Nat.zero_add n, rfl⟩
  case round =>
    obtain ⟨k, j, rfl, rfl, hkj, rfl⟩ := hrel
    by_cases hj : 0 < j
    · have t1 : decide ((0 : Int) < (j : Int)) = true := decide_eq_true (by omega)
      have t2 : decide (0 < j) = true := decide_eq_true hj
      have hb : 0 < pw k ∧ pw k ≤ 1152921504606846976 := by
        have h1 : pw (k + (60 - k)) = 1152921504606846976 := by
          rw [show k + (60 - k) = 60 by have := hkj.out; omega]; decide
        rw [pw_add] at h1
        have h2 := pw_pos k
        have h3 := pw_pos (60 - k)
        have := Int.mul_le_mul_of_nonneg_left (show 1 ≤ pw (60 - k) by omega) (Int.le_of_lt h2)
        omega
      have HS := Lib.hid (pw_succ k)
      have hj60 : j ≤ 60 := by have := hkj.out; omega
      generalize pw k = p at *
      go_wp2_with fail
      go_roundw
      case rel => exact ⟨k + 1, j - 1, by go_num, by rw [HS.out], Lib.hid (by have := hkj.out; omega), trivial⟩
      case measure => simp [intOf]; omega
    · have t1 : decide ((0 : Int) < (j : Int)) = false := decide_eq_false (by omega)
      have t2 : decide (0 < j) = false := decide_eq_false hj
      obtain rfl : k = n := by have := hkj.out; omega
      go_wp2_with fail
      go_ret
      exact ⟨rfl, rfl⟩
theorem tmod_pw (n : Int) (k : Nat) : - pw k < n.tmod (pw k) ∧ n.tmod (pw k) < pw k ∧ n % pw k = if n.tmod (pw k) < 0 then n.tmod (pw k) + pw k else n.tmod (pw k) := by
  have hp := pw_pos k
  generalize pw k = p at *
  have h1 := Int.emod_nonneg n (Int.ne_of_gt hp)
  have h2 := Int.emod_lt_of_pos n hp
  have h3 := @Int.tmod_eq_emod n p
  have h4 : (p.natAbs : Int) = p := by omega
  by_cases hd : 0 ≤ n ∨ p ∣ n
  · rw [if_pos hd] at h3
    have h3 : n.tmod p = n % p := by omega
    rw [h3, if_neg (by omega)]
    omega
  · rw [if_neg hd, h4] at h3
    have h0 : n % p ≠ 0 := fun q => hd (.inr (Int.dvd_of_emod_eq_zero q))
    rw [h3, if_pos (by omega)]
    omega
theorem pw32 {k : Nat} (h : k ≤ 32) : pw k ≤ 4294967296 := by
  have h1 : pw (k + (32 - k)) = 4294967296 := by rw [show k + (32 - k) = 32 by omega]; decide
  rw [pw_add] at h1
  have h2 := pw_pos k
  have h3 := pw_pos (32 - k)
  have := Int.mul_le_mul_of_nonneg_left (show 1 ≤ pw (32 - k) by omega) (Int.le_of_lt h2)
  omega
set_option maxHeartbeats 1600000 in
theorem rcut_any (n : Int) (m : Nat) (hm : 1 ≤ m ∧ m ≤ 32) (w : World) : Calls Try.prog 22 #[.int .i64 n, .int .i64 (m : Int)] w fun e w' => e = .returned (.int .i64 (cutZ n m)) ∧ w = w' := by
  have HP := Lib.hid (rpower_any m (by omega) w)
  have hp1 := rpower_any (m - 1) (by omega) w
  rw [show ((m - 1 : Nat) : Int) = (m : Int) - 1 by omega] at hp1
  have HP1 := Lib.hid hp1
  obtain ⟨h1, h2, h3⟩ := tmod_pw n m
  have hb := pw32 hm.2
  have hpos := pw_pos m
  have hpos1 := pw_pos (m - 1)
  have hC : cutZ n m = if pw (m - 1) ≤ n % pw m then n % pw m - pw m else n % pw m := rfl
  have hne : (pw m == 0) = false := by rw [beq_eq_false_iff_ne]; omega
  have hb1 := pw32 (show m - 1 ≤ 32 by omega)
  rw [hC]
  obtain ⟨hm1, hm2⟩ := hm
  clear hC hp1
  generalize pw (m - 1) = q at *
  generalize pw m = p at *
  obtain ⟨r, hr⟩ : ∃ r, r = n % p := ⟨_, rfl⟩
  rw [← hr] at h3 ⊢
  have HR := Lib.hid h3
  clear hr h3
  obtain ⟨t, ht⟩ : ∃ t, t = n.tmod p := ⟨_, rfl⟩
  rw [← ht] at h1 h2 HR
  have htt : n.tmod p = t := ht.symm
  clear ht
  have hw : IntKind.i64.wrap t = t := IntWalk.i64_in _ (by omega)
  by_cases ht0 : t < 0
  · have t1 : decide (t < 0) = true := decide_eq_true ht0
    obtain rfl : r = t + p := by have := HR.out; rw [if_pos ht0] at this; exact this
    have hw2 : IntKind.i64.wrap (t + p) = t + p := IntWalk.i64_in _ (by omega)
    clear HR
    by_cases hq : q ≤ t + p
    · have t2 : decide (q ≤ t + p) = true := decide_eq_true hq
      rw [if_pos hq]
      go_enter Try.func22, Try.ntmps22
      go_wp2_with fail
      refine HP.out.mono ?_
      rintro e w' ⟨rfl, rfl⟩
      go_wp2_with fail
      refine HP.out.mono ?_
      rintro e w' ⟨rfl, rfl⟩
      go_wp2_with fail
      refine HP1.out.mono ?_
      rintro e w' ⟨rfl, rfl⟩
      go_wp2_with fail
      refine HP.out.mono ?_
      rintro e w' ⟨rfl, rfl⟩
      go_wp2_with fail
      go_ret
      exact ⟨by rw [Int.add_sub_cancel]; rfl, rfl⟩
    · have t2 : decide (q ≤ t + p) = false := decide_eq_false hq
      rw [if_neg hq]
      go_enter Try.func22, Try.ntmps22
      go_wp2_with fail
      refine HP.out.mono ?_
      rintro e w' ⟨rfl, rfl⟩
      go_wp2_with fail
      refine HP.out.mono ?_
      rintro e w' ⟨rfl, rfl⟩
      go_wp2_with fail
      refine HP1.out.mono ?_
      rintro e w' ⟨rfl, rfl⟩
      go_wp2_with fail
      go_ret
      exact ⟨rfl, rfl⟩
  · have t1 : decide (t < 0) = false := decide_eq_false ht0
    obtain rfl : r = t := by have := HR.out; rw [if_neg ht0] at this; exact this
    clear HR
    by_cases hq : q ≤ r
    · have t2 : decide (q ≤ r) = true := decide_eq_true hq
      rw [if_pos hq]
      go_enter Try.func22, Try.ntmps22
      go_wp2_with fail
      refine HP.out.mono ?_
      rintro e w' ⟨rfl, rfl⟩
      go_wp2_with fail
      refine HP1.out.mono ?_
      rintro e w' ⟨rfl, rfl⟩
      go_wp2_with fail
      refine HP.out.mono ?_
      rintro e w' ⟨rfl, rfl⟩
      go_wp2_with fail
      go_ret
      exact ⟨rfl, rfl⟩
    · have t2 : decide (q ≤ r) = false := decide_eq_false hq
      rw [if_neg hq]
      go_enter Try.func22, Try.ntmps22
      go_wp2_with fail
      refine HP.out.mono ?_
      rintro e w' ⟨rfl, rfl⟩
      go_wp2_with fail
      refine HP1.out.mono ?_
      rintro e w' ⟨rfl, rfl⟩
      go_wp2_with fail
      go_ret
      exact ⟨rfl, rfl⟩
set_option maxHeartbeats 1600000 in
theorem rwidth_any (a b : Int) (ha : -9223372036854775808 ≤ a ∧ a ≤ 9223372036854775807) (hb : -9223372036854775808 ≤ b ∧ b ≤ 9223372036854775807) (w : World) : Calls Try.prog 19 #[.int .i64 a, .int .i64 b] w fun e w' => e = .returned (.int .i64 ((widthZ a b : Nat) : Int)) ∧ w = w' := by
  have HW : Hid (widthZ a b = if b < a ∨ 32 < max (widZ a) (widZ b) then 0 else max (widZ a) (widZ b)) := rfl
  have HA : Hid (∀ k, k ≤ 64 → (widZ a ≤ k + 1 ↔ - pw k ≤ a ∧ a ≤ pw k - 1)) := fun k hk => wid_le ha.1 ha.2 hk
  have HB : Hid (∀ k, k ≤ 64 → (widZ b ≤ k + 1 ↔ - pw k ≤ b ∧ b ≤ pw k - 1)) := fun k hk => wid_le hb.1 hb.2 hk
  have HPA : Hid (1 ≤ max (widZ a) (widZ b)) := by have := wid_pos a; show 1 ≤ _; omega
  by_cases hab : b < a
  · have t1 : decide (b < a) = true := decide_eq_true hab
    rw [HW.out, if_pos (.inl hab)]
    go_enter Try.func19, Try.ntmps19
    go_wp2_with fail
    go_ret
    exact ⟨rfl, rfl⟩
  have t1 : decide (b < a) = false := decide_eq_false hab
  have HAB := Lib.hid hab
  obtain ⟨ha1, ha2⟩ := ha
  obtain ⟨hb1, hb2⟩ := hb
  go_enter Try.func19, Try.ntmps19
  go_wp2_with fail
  go_loopw [5] (fun i wr => ∃ k : Nat, i = .int .i64 (k : Int) ∧ 1 ≤ k ∧ k ≤ 33 ∧ Hid (k ≤ max (widZ a) (widZ b)) ∧ w = wr) (fun i _ => 33 - (intOf i).toNat)
  case atStart => exact ⟨1, rfl, by omega, by omega, HPA, rfl⟩
  case round =>
    obtain ⟨k, rfl, hk1, hk2, hmx, rfl⟩ := hrel
    by_cases hlt : k ≤ 32
    · have tk : decide ((k : Int) ≤ 32) = true := decide_eq_true (by omega)
      have tk2 : decide (k ≤ 32) = true := decide_eq_true hlt
      have hp1 := rpower_any (k - 1) (by omega) w
      rw [show ((k - 1 : Nat) : Int) = (k : Int) - 1 by omega] at hp1
      have HP1 := Lib.hid hp1
      have hpb := pw32 (show k - 1 ≤ 32 by omega)
      have hpp := pw_pos (k - 1)
      have hA := HA.out (k - 1) (by omega)
      have hB := HB.out (k - 1) (by omega)
      rw [show k - 1 + 1 = k by omega] at hA hB
      have HIF : Hid (- pw (k - 1) ≤ a ∧ b ≤ pw (k - 1) - 1 ↔ max (widZ a) (widZ b) ≤ k) := by
        show _ ↔ _
        rw [show max (widZ a) (widZ b) ≤ k ↔ widZ a ≤ k ∧ widZ b ≤ k by omega, hA, hB]
        have := HAB.out
        omega
      clear hA hB hp1
      generalize pw (k - 1) = p at *
      by_cases h1 : - p ≤ a
      · have t2 : decide (- p ≤ a) = true := decide_eq_true h1
        by_cases h2 : b ≤ p - 1
        · have t3 : decide (b ≤ p - 1) = true := decide_eq_true h2
          have HE : Hid (widthZ a b = k) := by
            have := HIF.out.1 ⟨h1, h2⟩
            have := hmx.out
            have := HAB.out
            unfold Hid
            rw [HW.out, if_neg (by omega)]
            omega
          clear HIF hmx
          go_wp2_with fail
          refine HP1.out.mono ?_
          rintro e w' ⟨rfl, rfl⟩
          go_wp2_with fail
          refine HP1.out.mono ?_
          rintro e w' ⟨rfl, rfl⟩
          go_wp2_with fail
          go_ret
          exact ⟨by rw [HE.out]; rfl, rfl⟩
        · have t3 : decide (b ≤ p - 1) = false := decide_eq_false h2
          have HN : Hid (k + 1 ≤ max (widZ a) (widZ b)) := by
            show _ ≤ _
            have : ¬ max (widZ a) (widZ b) ≤ k := fun q => h2 (HIF.out.2 q).2
            omega
          clear HIF hmx
          go_wp2_with fail
          refine HP1.out.mono ?_
          rintro e w' ⟨rfl, rfl⟩
          go_wp2_with fail
          refine HP1.out.mono ?_
          rintro e w' ⟨rfl, rfl⟩
          go_wp2_with fail
          go_roundw
          case rel => exact ⟨k + 1, by go_num, by omega, by omega, HN, trivial⟩
          case measure => simp [intOf]; omega
      · have t2 : decide (- p ≤ a) = false := decide_eq_false h1
        have HN : Hid (k + 1 ≤ max (widZ a) (widZ b)) := by
          show _ ≤ _
          have : ¬ max (widZ a) (widZ b) ≤ k := fun q => h1 (HIF.out.2 q).1
          omega
        clear HIF hmx
        go_wp2_with fail
        refine HP1.out.mono ?_
        rintro e w' ⟨rfl, rfl⟩
        go_wp2_with fail
        go_roundw
        case rel => exact ⟨k + 1, by go_num, by omega, by omega, HN, trivial⟩
        case measure => simp [intOf]; omega
    · have tk : decide ((k : Int) ≤ 32) = false := decide_eq_false (by omega)
      have tk2 : decide (k ≤ 32) = false := decide_eq_false hlt
      have HE : Hid (widthZ a b = 0) := by
        have := hmx.out
        unfold Hid
        rw [HW.out, if_pos (by omega)]
      clear hmx
      go_wp2_with fail
      go_ret
      exact ⟨by rw [HE.out]; rfl, rfl⟩
end Go.Proofs.Ytelpoocgmflofaa
