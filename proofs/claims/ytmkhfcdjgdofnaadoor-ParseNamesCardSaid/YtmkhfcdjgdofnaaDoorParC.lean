/- Package parse: signs; how expressions are read (plain facts). -/
import Derived.Test.YtmkhfcdjgdofnaaDoorParB
import Derived.IntWalk
namespace Go.Proofs.YtmkhfcdjgdofnaaDoor
open Go.RowKit TreM WrdM ParM

theorem rsgn_eq (j : Nat) (hj : j < 31) : sgL.getD j [] = signE (j : Int) := by
  have h : ∀ j : Nat, j < 31 → sgL.getD j [] = signE (j : Int) := by decide
  exact h j hj
theorem rsign_any (o : Int) (w : World) (h : PrG w) : Calls Tryd.prog 74 #[.int .i64 o] w fun e w' => e = .returned (.string ⟨(signE o).toArray⟩) ∧ w = w' := by
  by_cases h1 : o < 0
  · have t1 : decide (o < 0) = true := decide_eq_true h1
    have hE : signE o = [] := by unfold signE; rw [if_neg (by omega)]
    rw [hE]
    go_enter Tryd.func74, Tryd.ntmps74
    go_wp2
    go_ret
    exact ⟨rfl, rfl⟩
  have t1 : decide (o < 0) = false := decide_eq_false h1
  by_cases h2 : 31 ≤ o
  · have t2 : decide ((31 : Int) ≤ o) = true := decide_eq_true h2
    have hE : signE o = [] := by unfold signE; rw [if_neg (by omega)]
    rw [hE]
    go_enter Tryd.func74, Tryd.ntmps74
    go_wp2
    go_ret
    exact ⟨rfl, rfl⟩
  have t2 : decide ((31 : Int) ≤ o) = false := decide_eq_false h2
  obtain ⟨j, rfl⟩ := Int.eq_ofNat_of_zero_le (show 0 ≤ o by omega)
  have hc := h.sg j (by omega)
  rw [rsgn_eq j (by omega)] at hc
  have hj : j < 31 := by omega
  generalize (⟨(signE (j : Int)).toArray⟩ : ByteArray) = sb at *
  go_enter Tryd.func74, Tryd.ntmps74
  go_wp2
  go_ret
  exact ⟨rfl, rfl⟩
set_option maxHeartbeats 1600000 in
theorem signed_any (s : List UInt8) (a : Int) (n : Nat) (b : Int) (hb : b = a + n - 1) (ha : 0 ≤ a) (ha2 : a ≤ 1000) (hn : n ≤ 1000) (w : World) (h : PrG w) :
    Calls Tryd.prog 46 #[.string ⟨s.toArray⟩, .int .i64 a, .int .i64 b] w fun e w' => e = .returned (.int .i64 (signO s n a)) ∧ w = w' := by
  have HS := Lib.hid fun o => rsign_any o w h
  have HC : Hid (∀ x : List UInt8, ((⟨x.toArray⟩ : ByteArray).toList == (⟨s.toArray⟩ : ByteArray).toList) = (x == s)) := fun x => by rw [Lib.toList_data, Lib.toList_data]
  have HR : Hid (∀ k, k < n → signO s (n - k) (a + k) = if signE (a + k) == s then a + k else signO s (n - (k + 1)) (a + (k + 1 : Nat))) := fun k hk => by
    obtain ⟨m, hm⟩ : ∃ m, n - k = m + 1 := ⟨n - k - 1, by omega⟩
    rw [hm, show n - (k + 1) = m by omega, signO, show a + ((k + 1 : Nat) : Int) = a + k + 1 by omega]
  have HZ : Hid (∀ x, signO s 0 x = 0) := fun _ => rfl
  obtain ⟨S, hS⟩ : ∃ S, S = signO s n a := ⟨_, rfl⟩
  have HSS := Lib.hid hS
  rw [← hS]
  have HB := Lib.hid hb
  clear h hS hb
  generalize (⟨s.toArray⟩ : ByteArray) = sb at *
  go_enter Tryd.func46, Tryd.ntmps46
  go_wp2_with fail
  go_loopw [7] (fun op wr => ∃ k : Nat, k ≤ n ∧ op = .int .i64 (a + k) ∧ wr = w ∧ Hid (S = signO s (n - k) (a + k))) (fun op _ => n - (intOf op - a).toNat)
  case atStart => exact ⟨0, Nat.zero_le _, by simp, rfl, by unfold Hid; rw [HSS.out]; simp⟩
  case round =>
    obtain ⟨k, hk, rfl, rfl, HK⟩ := hrel
    by_cases hlt : k < n
    · have t1 : decide (a + (k : Int) ≤ b) = true := decide_eq_true (by have := HB.out; omega)
      have HSG := Lib.hid (HS.out (a + k))
      have hcmp := HC.out (signE (a + k))
      have hnx := HR.out k hlt
      obtain ⟨z, hz⟩ : ∃ z : ByteArray, z = ⟨(signE (a + k)).toArray⟩ := ⟨_, rfl⟩
      rw [← hz] at HSG hcmp
      obtain ⟨q, hq⟩ : ∃ q, q = (signE (a + k) == s) := ⟨_, rfl⟩
      rw [← hq] at hcmp hnx
      have HNX := Lib.hid hnx
      clear hz hq hnx
      rcases q with _ | _
      · go_wp2_with (refine HSG.out.mono ?_; rintro e w1 ⟨rfl, rfl⟩)
        go_roundw
        case rel => exact ⟨k + 1, by omega, by go_num, trivial, by unfold Hid; rw [HK.out, HNX.out]; simp⟩
        case measure => simp [intOf]; omega
      · go_wp2_with (refine HSG.out.mono ?_; rintro e w1 ⟨rfl, rfl⟩)
        go_ret
        exact ⟨by rw [HK.out, HNX.out]; simp, rfl⟩
    · have t1 : decide (a + (k : Int) ≤ b) = false := decide_eq_false (by have := HB.out; omega)
      have hkn : n - k = 0 := by omega
      have HV : Hid (S = 0) := by unfold Hid; rw [HK.out, hkn, HZ.out]
      clear HK hkn
      go_wp2_with fail
      go_ret
      exact ⟨by rw [HV.out]; rfl, rfl⟩
theorem least_any (b : Int) (h0 : 0 ≤ b) (h1 : b ≤ 100) (w : World) : Calls Tryd.prog 48 #[.int .i64 b] w fun e w' => e = .returned (.int .i64 (lwi b)) ∧ w = w' := by
  unfold lwi
  by_cases e1 : b = 1
  · subst e1
    go_enter Tryd.func48, Tryd.ntmps48
    go_wp2
    go_ret
    exact ⟨rfl, rfl⟩
  have t1 : (b == 1) = false := by rw [beq_eq_false_iff_ne]; exact e1
  by_cases e2 : b = 4
  · subst e2
    go_enter Tryd.func48, Tryd.ntmps48
    go_wp2
    go_ret
    exact ⟨rfl, rfl⟩
  have t2 : (b == 4) = false := by rw [beq_eq_false_iff_ne]; exact e2
  rw [if_neg (by omega)]
  clear e1 e2
  go_enter Tryd.func48, Tryd.ntmps48
  go_wp2
  go_ret
  exact ⟨rfl, rfl⟩
theorem most_any (b : Int) (h0 : 0 ≤ b) (h1 : b ≤ 100) (w : World) : Calls Tryd.prog 49 #[.int .i64 b] w fun e w' => e = .returned (.int .i64 (mbe b)) ∧ w = w' := by
  unfold mbe
  by_cases e1 : b = 5
  · subst e1
    go_enter Tryd.func49, Tryd.ntmps49
    go_wp2
    go_ret
    exact ⟨rfl, rfl⟩
  have t1 : (b == 5) = false := by rw [beq_eq_false_iff_ne]; exact e1
  rw [if_neg e1]
  clear e1
  go_enter Tryd.func49, Tryd.ntmps49
  go_wp2
  go_ret
  exact ⟨rfl, rfl⟩
end Go.Proofs.YtmkhfcdjgdofnaaDoor
