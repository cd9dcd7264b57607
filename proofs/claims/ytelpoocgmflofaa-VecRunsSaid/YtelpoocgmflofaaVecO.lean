/- The plain answer's Bits; INPUTS say their values; vecAlive is true. -/
import Derived.Test.YtelpoocgmflofaaVecK
import Derived.Test.YtelpoocgmflofaaVecL
namespace Go.Proofs.Ytelpoocgmflofaa
open Go.RowKit GatM VecM

/-- What Bits answers. -/
def BitsTo (w : World) (n : Int) (m : Nat) (e : Ending) (w' : World) : Prop :=
  ∃ g cp, e = .returned (.slice (some ⟨g, 0, none⟩) m cp) ∧ RowV 4 1 w' g m cp (fun j => .bool (bitZ n j)) ∧ Below w.heap.size w w' ∧ w.heap.size ≤ g
set_option maxHeartbeats 3200000 in
set_option maxRecDepth 100000 in
theorem rbits_any (n : Int) (m : Nat) (hm : 1 ≤ m ∧ m ≤ 32) (w : World) : Calls Try.prog 23 #[.int .i64 n, .int .i64 (m : Int)] w (BitsTo w n m) := by
  have HP := Lib.hid fun W => rpower_any m (by omega) W
  obtain ⟨h1, h2, h3⟩ := tmod_pw n m
  have hb := pw32 hm.2
  have hpos := pw_pos m
  have hr0 := Int.emod_nonneg n (Int.ne_of_gt hpos)
  have hr1 := Int.emod_lt_of_pos n hpos
  have hne : (pw m == 0) = false := by rw [beq_eq_false_iff_ne]; omega
  have HBT : Hid (∀ k, k < m → decide (n % pw m / pw k % 2 = 1) = bitZ n k) := fun k hk => bit_mod n m hk
  generalize pw m = p at *
  obtain ⟨r, hr⟩ : ∃ r, r = n % p := ⟨_, rfl⟩
  rw [← hr] at h3 hr0 hr1 HBT
  have HR := Lib.hid h3
  clear hr h3
  obtain ⟨t, ht⟩ : ∃ t, t = n.tmod p := ⟨_, rfl⟩
  rw [← ht] at h1 h2 HR
  have htt : n.tmod p = t := ht.symm
  clear ht
  have hw : IntKind.i64.wrap t = t := IntWalk.i64_in _ (by omega)
  obtain ⟨hm1, hm2⟩ := hm
  have HA0 : Hid (RowV 4 1 (w.alloc (.cells #[] 4)) w.heap.size 0 0 (fun j => .bool (bitZ n j)) ∧ Below w.heap.size w (w.alloc (.cells #[] 4)) ∧ w.heap.size ≤ w.heap.size) := ⟨RowV.made (by omega) rfl (fun j hj => by omega), (Below.refl _ _).alloc (Nat.le_refl _) _, Nat.le_refl _⟩
  go_enter Try.func23, Try.ntmps23
  go_upto_region 2 with (fail)
  obtain ⟨w1, hw1⟩ : ∃ w1, w1 = w.alloc (.cells #[] 4) := ⟨_, rfl⟩
  rw [← hw1] at HA0 ⊢
  clear hw1
  go_wp2_with fail
  refine (HP.out _).mono ?_
  rintro e w' ⟨rfl, rfl⟩
  go_upto_if 14 with (fail)
  go_cut [6] (fun v wx => v = .int .i64 r ∧ wx = w1)
  case first =>
    by_cases ht0 : t < 0
    · have t1 : decide (t < 0) = true := decide_eq_true ht0
      obtain rfl : r = t + p := by have := HR.out; rw [if_pos ht0] at this; exact this
      have hw2 : IntKind.i64.wrap (t + p) = t + p := IntWalk.i64_in _ (by omega)
      clear HR
      go_wp2_with fail
      refine (HP.out _).mono ?_
      rintro e w' ⟨rfl, rfl⟩
      go_wp2_with fail
      go_meet
      exact ⟨rfl, rfl⟩
    · have t1 : decide (t < 0) = false := decide_eq_false ht0
      obtain rfl : r = t := by have := HR.out; rw [if_neg ht0] at this; exact this
      clear HR
      go_wp2_with fail
      go_meet
      exact ⟨rfl, rfl⟩
  case rest =>
  obtain ⟨rfl, rfl⟩ := hcut
  clear htt hw h1 h2 HR HP
  go_wp2_with fail
  go_loopw [5, 6, 7] (fun u v i wr => ∃ (k g cp : Nat), u = .slice (some ⟨g, 0, none⟩) k cp ∧ v = .int .i64 (r / pw k) ∧ i = .int .i64 (k : Int) ∧ k ≤ m ∧ Hid (RowV 4 1 wr g k cp (fun j => .bool (bitZ n j)) ∧ Below w.heap.size w wr ∧ w.heap.size ≤ g)) (fun _ _ i _ => m - (intOf i).toNat)
  case atStart => exact ⟨0, w.heap.size, 0, rfl, by rw [pw_zero, Int.ediv_one], rfl, Nat.zero_le _, HA0⟩
  case round =>
    clear HA0
    obtain ⟨k, g, cp, rfl, rfl, rfl, hk, HO⟩ := hrel
    by_cases hlt : k < m
    · have tk : decide ((k : Int) < (m : Int)) = true := decide_eq_true (by omega)
      have tk2 : decide (k < m) = true := decide_eq_true hlt
      have hx0 : 0 ≤ r / pw k := Int.ediv_nonneg hr0 (Int.le_of_lt (pw_pos k))
      have hx1 : r / pw k ≤ r := Int.ediv_le_self _ hr0
      have hbt : (r / pw k % 2 == 1) = bitZ n k := by rw [← HBT.out k hlt, Bool.eq_iff_iff, beq_iff_eq, decide_eq_true_iff]
      have HD : Hid (r / pw (k + 1) = r / pw k / 2) := by
        unfold Hid
        rw [pw_succ, Int.mul_comm, Int.ediv_ediv_of_nonneg (Int.le_of_lt (pw_pos k))]
      have hq : (r / pw k).tdiv 2 = r / pw k / 2 := Int.tdiv_eq_ediv_of_nonneg hx0
      generalize r / pw k = x at *
      have hw2 : IntKind.i64.wrap (x / 2) = x / 2 := IntWalk.i64_in _ (by omega)
      have hw3 : IntKind.i64.wrap (x.tdiv 2) = x / 2 := by rw [hq]; exact hw2
      obtain ⟨bt, hbt2⟩ : ∃ bt, bt = bitZ n k := ⟨_, rfl⟩
      rw [← hbt2] at hbt
      have HBK := Lib.hid hbt2
      have HSL : Hid (SlV 4 1 (wr.alloc (.cells #[.bool bt] 4)) (some ⟨g, 0, none⟩) k cp (fun j => .bool (bitZ n j))) := .inr ⟨g, rfl, HO.out.1.alloc _⟩
      have HFN : Hid (∀ w4 g4 c4, RowV 4 1 w4 g4 (k + 1) c4 (appV (fun j => .bool (bitZ n j)) k [.bool bt]) → (onB (some ⟨g, 0, none⟩) g4 ∨ (wr.alloc (.cells #[.bool bt] 4)).heap.size ≤ g4) → Kf (fun j => onB (some ⟨g, 0, none⟩) j) (wr.alloc (.cells #[.bool bt] 4)) w4 →
          Hid (RowV 4 1 w4 g4 (k + 1) c4 (fun j => .bool (bitZ n j)) ∧ Below w.heap.size w w4 ∧ w.heap.size ≤ g4)) := fun w4 g4 c4 q1 q2 q3 => by
        have hb1 : Below w.heap.size w (wr.alloc (.cells #[.bool bt] 4)) := HO.out.2.1.alloc HO.out.2.1.size _
        refine ⟨q1.congr fun j hj => ?_, hb1.trans (q3.below hb1.size fun x hx => ?_), ?_⟩
        · unfold appV
          by_cases e : j < k
          · rw [if_pos e]
          · rw [if_neg e, show j - k = 0 by omega, show j = k by omega, HBK.out]; rfl
        · rw [onB_some] at hx
          have hx : x = g := hx
          rw [hx]; exact HO.out.2.2
        · rcases q2 with e | e
          · rw [onB_some] at e
            have e : g4 = g := e
            rw [e]; exact HO.out.2.2
          · exact Nat.le_trans hb1.size e
      clear HO hbt2 hq
      go_upto_region 8 with (fail)
      go_wp2_with (at_builtin; refine wpList_append_sl _ rfl _ _ 45 4 rfl Try.underlying45 info_gbool rfl (by decide) (by decide) (some ⟨g, 0, none⟩) k cp (fun j => .bool (bitZ n j)) rfl HSL.out (by omega) ⟨wr.heap.size, 0, none⟩ 1 1 [.bool bt] rfl rfl (box_news wr 4 _) (by simp [Value.oneCell']) (by omega) (by omega) ?_)
      intro g4 c4 w4 hr4 hg4 hk4
      have HN4 := HFN.out w4 g4 c4 (by simpa using hr4) (by simpa using hg4) (hk4 _ fun j hj => hj)
      clear hr4 hg4 hk4 HFN HSL
      go_wp2_with fail
      go_roundw
      case rel => exact ⟨k + 1, g4, c4, rfl, by rw [HD.out], by go_num, by omega, HN4⟩
      case measure => simp [intOf]; omega
    · have tk : decide ((k : Int) < (m : Int)) = false := decide_eq_false (by omega)
      have tk2 : decide (k < m) = false := decide_eq_false hlt
      obtain rfl : k = m := by omega
      have HE : Hid (BitsTo w n k (.returned (.slice (some ⟨g, 0, none⟩) k cp)) wr) := ⟨_, _, rfl, HO.out.1, HO.out.2.1, HO.out.2.2⟩
      clear HO
      go_wp2_with fail
      go_ret
      exact HE.out
end Go.Proofs.Ytelpoocgmflofaa
