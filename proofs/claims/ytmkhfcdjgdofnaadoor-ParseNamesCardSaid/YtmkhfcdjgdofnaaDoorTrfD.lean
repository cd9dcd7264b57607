/- The contract of the plain answer's Decimal. -/
import Derived.Test.YtmkhfcdjgdofnaaDoorTrfA
import Derived.Lib.ItoaNum
import Derived.WalkLawsBesides
import Derived.Lib.AppendStr
import Derived.IntWalk
import Derived.Laws.Concat
import Derived.Laws.Strings2
import Derived.Laws.DeepStrings4
namespace Go.Proofs.YtmkhfcdjgdofnaaDoor
open Go.RowKit TreM WrdM

theorem digit_piece {n : Nat} (h : n < 10) : (⟨#[48, 49, 50, 51, 52, 53, 54, 55, 56, 57]⟩ : ByteArray).extract n (n + 1) = ⟨#[UInt8.ofNat (48 + n)]⟩ := by
  rcases (show n = 0 ∨ n = 1 ∨ n = 2 ∨ n = 3 ∨ n = 4 ∨ n = 5 ∨ n = 6 ∨ n = 7 ∨ n = 8 ∨ n = 9 by omega) with e | e | e | e | e | e | e | e | e | e <;> subst e <;> rfl
theorem join_str (a b : List UInt8) : (⟨a.toArray⟩ : ByteArray) ++ (⟨b.toArray⟩ : ByteArray) = ⟨(a ++ b).toArray⟩ := by
  apply ByteArray.ext
  simp

theorem add_str (a b : ByteArray) (h : a.size + b.size ≤ 9223372036854775807) (w : World) : (Op.stringOp .add a b).run Tryd.prog w = .ok (.string (a ++ b)) w := run_string_add_sum w a b h
theorem pdigits_len {u : Nat} (h : u ≤ 999999999) : (Lib.decDigits u).length ≤ 9 := by
  rw [Lib.decDigits_length]
  rcases Nat.lt_or_ge u 10 with h' | h'
  · rw [Lib.nDigits_small h']; omega
  · have := Lib.decDigits_length u
    have key : ∀ (k u : Nat), 1 ≤ k → u < 10 ^ k → Lib.nDigits u ≤ k := by
      intro k
      induction k with
      | zero => intro u h; omega
      | succ k ih =>
        intro u _ hu
        by_cases h10 : u < 10
        · rw [Lib.nDigits_small h10]; omega
        · rw [Lib.nDigits_big h10]
          rcases Nat.eq_zero_or_pos k with e | e
          · subst e; simp at hu; omega
          · have := ih (u / 10) e (by rw [Nat.pow_succ] at hu; omega)
            omega
    exact key 9 u (by omega) (by omega)

set_option maxHeartbeats 1600000 in
set_option maxRecDepth 100000 in
theorem dec_small (n : Nat) (w : World) (h : n < 10) : Calls Tryd.prog 38 #[.int .i64 n] w fun e w' => e = .returned (.string ⟨(Lib.decDigits n).toArray⟩) ∧ ∃ q, w' = w.drewN q := by
  have HD := Lib.hid (Lib.decDigits_one h)
  have HP := Lib.hid (digit_piece h)
  have t1 : decide (n < 10) = true := decide_eq_true h
  have t0 : decide ((n : Int) < 0) = false := decide_eq_false (by omega)
  have t2 : decide ((n : Int) < 10) = true := decide_eq_true (by omega)
  go_enter Tryd.func38, Tryd.ntmps38
  go_wp2
  go_ret
  exact ⟨by rw [HD.out]; simp [HP.out], 0, rfl⟩

set_option maxHeartbeats 1600000 in
set_option maxRecDepth 100000 in
theorem dec_nat (n : Nat) : ∀ (w : World), n ≤ 999999999 → Calls Tryd.prog 38 #[.int .i64 n] w fun e w' => e = .returned (.string ⟨(Lib.decDigits n).toArray⟩) ∧ ∃ q, w' = w.drewN q := by
  induction n using Nat.strongRecOn with
  | ind n ih =>
    intro w hn
    by_cases hs : n < 10
    · exact dec_small n w hs
    · obtain ⟨d, hdd⟩ : ∃ d, n % 10 = d := ⟨_, rfl⟩
      have hd : Lib.decDigits n = Lib.decDigits (n / 10) ++ [UInt8.ofNat (48 + d)] := by rw [Lib.decDigits, dif_neg hs, hdd]
      have HD := Lib.hid hd
      have hd10 : d < 10 := by omega
      have HP := Lib.hid (digit_piece hd10)
      have hi := fun W => ih (n / 10) (by omega) W (by omega)
      rw [show ((n / 10 : Nat) : Int) = (n : Int) / 10 from by omega] at hi
      have HI := Lib.hid hi
      have t2 : decide (n < 10) = false := decide_eq_false hs
      have hn1 : 10 ≤ n := by omega
      have w0 : (n : Int).tmod 10 = (d : Int) := by rw [Int.tmod_eq_emod_of_nonneg (by omega)]; omega
      have w1 : IntKind.i64.wrap ((n : Int) / 10) = (n : Int) / 10 := IntWalk.i64_in _ (by omega)
      have w3 : IntKind.i64.wrap ((d : Int) + 1) = (d : Int) + 1 := IntWalk.i64_in _ (by omega)
      have p0 : 0 ≤ (d : Int) + 1 := by omega
      have p1 : (d : Int) ≤ (d : Int) + 1 := by omega
      have p2 : (d : Int) + 1 ≤ 10 := by omega
      have p3 : ((d : Int) + 1).toNat = d + 1 := by omega
      have p4 : d + 1 ≤ 10 := by omega
      have ha := fun W => add_str ⟨(Lib.decDigits (n / 10)).toArray⟩ ((⟨#[48, 49, 50, 51, 52, 53, 54, 55, 56, 57]⟩ : ByteArray).extract d (d + 1)) (by
        rw [HP.out, size_mk]
        have := pdigits_len (u := n / 10) (by omega)
        show _ + 1 ≤ _
        omega) W
      clear hd hi ih hs hdd
      go_enter Tryd.func38, Tryd.ntmps38
      go_wp2_with fail
      go_quiet ((go_at_call 38; exact Calls.quiet_of (HI.out _)))
      go_wp2_with fail
      go_ret
      exact ⟨by rw [HD.out, HP.out]; exact congrArg (fun x => Ending.returned (.string x)) (join_str _ [_]), _, rfl⟩

theorem add_lists (x y z : List UInt8) (a b : Array UInt8) (ha : a = x.toArray) (hb : b = y.toArray) (hz : z = x ++ y) (h : x.length + y.length ≤ 9223372036854775807) (w : World) : (Op.stringOp .add ⟨a⟩ ⟨b⟩).run Tryd.prog w = .ok (.string ⟨z.toArray⟩) w := by
  subst ha; subst hb; subst hz
  rw [run_string_add_sum w _ _ (by rw [size_mk, size_mk]; exact h), join_str]

set_option maxHeartbeats 1600000 in
set_option maxRecDepth 100000 in
theorem dec_any (n : Int) (w : World) (h0 : -999999999 ≤ n) (h1 : n ≤ 999999999) : Calls Tryd.prog 38 #[.int .i64 n] w fun e w' => e = .returned (.string ⟨(Lib.itoa n).toArray⟩) ∧ ∃ q, w' = w.drewN q := by
  by_cases hn : n < 0
  · obtain ⟨m, rfl⟩ : ∃ m : Nat, n = -(m : Int) := ⟨n.natAbs, by omega⟩
    have he : Lib.itoa (-(m : Int)) = 45 :: Lib.decDigits m := by
      unfold Lib.itoa
      rw [if_pos hn, show (-(m : Int)).natAbs = m from by omega]
    have HD := Lib.hid (dec_nat m w (by omega))
    have hl := pdigits_len (u := m) (by omega)
    have ha := fun W => add_lists [45] (Lib.decDigits m) (45 :: Lib.decDigits m) #[45] (Lib.decDigits m).toArray rfl rfl rfl (by simp; omega) W
    have e1 : -(-(m : Int)) = (m : Int) := by omega
    rw [he]
    have hm : m ≤ 999999999 := by omega
    clear he hl
    generalize Lib.decDigits m = D at *
    go_enter Tryd.func38, Tryd.ntmps38
    go_wp2_with fail
    refine HD.out.mono ?_
    rintro e w' ⟨rfl, q, rfl⟩
    go_wp2_with fail
    go_ret
    exact ⟨rfl, q, rfl⟩
  · obtain ⟨m, rfl⟩ := Int.eq_ofNat_of_zero_le (show 0 ≤ n by omega)
    have he : Lib.itoa (m : Int) = Lib.decDigits m := by
      unfold Lib.itoa
      rw [if_neg hn, show ((m : Int)).toNat = m from by omega]
    rw [he]
    exact dec_nat m w (by omega)
end Go.Proofs.YtmkhfcdjgdofnaaDoor
