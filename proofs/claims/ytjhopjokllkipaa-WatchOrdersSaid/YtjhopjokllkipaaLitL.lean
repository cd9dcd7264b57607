/- Contracts of the plain answers' Right, Has. -/
import Derived.Test.YtjhopjokllkipaaLitB
import Derived.Test.YtjhopjokllkipaaRight
import Derived.Test.YtjhopjokllkipaaRsame
namespace Go.Proofs.Ytjhopjokllkipaa
open Go.RowKit LitM

set_option maxHeartbeats 400000 in
theorem rright_any (A : Option Addr) (n c : Nat) (xs : List Int) (w : World) (h : Rd .i32 w w.heap.size A n xs) (hn : n ≤ 9223372036854775807) :
    Calls Try.prog 47 #[.slice A n c] w fun e w' => e = .returned (.bool (allOne xs)) ∧ w = w' := by
  have hl := h.len
  have HL := Lib.hid hl; clear hl
  go_enter Try.func47, Try.ntmps47
  go_wp2
  go_loop [7] (fun i => ∃ k : Nat, k ≤ n ∧ i = .int .i64 k ∧ ∀ j, j < k → LitM.one (xs.getD j 0) = true) (fun i => n - (intOf i).toNat)
  case atStart => exact ⟨0, Nat.zero_le _, rfl, fun j hj => absurd hj (by omega)⟩
  case round =>
    obtain ⟨k, hk, rfl, hall⟩ := hrel
    have HA := Lib.hid hall; clear hall
    by_cases hlt : k < n
    · obtain ⟨b, o, rfl, hb, hc⟩ := h.get hlt
      rcases hone : LitM.one (xs.getD k 0) with _ | _
      · have EV := Lib.hid (allOne_no (xs := xs) (j := k) (by rw [HL.out]; exact hlt) hone)
        generalize xs.getD k 0 = x at *
        go_wp2_with (go_at_call 45; refine (rone_any _ _).mono ?_; rintro e w' ⟨rfl, rfl⟩)
        go_ret
        exact ⟨ret_bool (by rw [EV.out]), rfl⟩
      · have HO : Hid (LitM.one (xs.getD k 0) = true) := hone
        generalize hxk : xs.getD k 0 = x at *
        have HX := Lib.hid hxk; clear hxk
        go_wp2_with (go_at_call 45; refine (rone_any _ _).mono ?_; rintro e w' ⟨rfl, rfl⟩)
        go_round
        case rel =>
          refine ⟨k + 1, by omega, by go_num, fun j hj => ?_⟩
          by_cases e : j = k
          · rw [e, HX.out]; exact HO.out
          · exact HA.out j (by omega)
        case measure => simp [intOf]; omega
    · have EV : Hid (allOne xs = true) := (allOne_iff xs).2 fun j hj => HA.out j (by rw [HL.out] at hj; omega)
      go_wp2
      go_ret
      exact ⟨ret_bool (by rw [EV.out]), rfl⟩

set_option maxHeartbeats 400000 in
theorem rhas_any (A : Option Addr) (n c : Nat) (xs : List Int) (x : Int) (w : World) (B : Nat) (h : Rd .i32 w B A n xs) (hn : n ≤ 9223372036854775807) :
    Calls Try.prog 48 #[.slice A n c, .int .i32 x] w fun e w' => e = .returned (.bool (hasB xs x)) ∧ w = w' := by
  have hl := h.len
  have HL := Lib.hid hl; clear hl
  go_enter Try.func48, Try.ntmps48
  go_wp2
  go_loop [9] (fun i => ∃ k : Nat, k ≤ n ∧ i = .int .i64 k ∧ ∀ j, j < k → x ≠ xs.getD j 0) (fun i => n - (intOf i).toNat)
  case atStart => exact ⟨0, Nat.zero_le _, rfl, fun j hj => absurd hj (by omega)⟩
  case round =>
    obtain ⟨k, hk, rfl, hall⟩ := hrel
    have HA := Lib.hid hall; clear hall
    by_cases hlt : k < n
    · obtain ⟨b, o, rfl, hb, hc⟩ := h.get hlt
      by_cases hx : x = xs.getD k 0
      · have EV := Lib.hid (hasB_at (xs := xs) (j := k) (by rw [HL.out]; exact hlt) hx)
        have hv : (x == xs.getD k 0) = true := by rw [beq_iff_eq]; exact hx
        clear hx
        generalize xs.getD k 0 = y at *
        go_wp2
        go_ret
        exact ⟨ret_bool (by rw [EV.out]), rfl⟩
      · have hv : (x == xs.getD k 0) = false := by rw [beq_eq_false_iff_ne]; exact hx
        have HO := Lib.hid hx; clear hx
        generalize hxk : xs.getD k 0 = y at *
        have HX := Lib.hid hxk; clear hxk
        go_wp2
        go_round
        case rel =>
          refine ⟨k + 1, by omega, by go_num, fun j hj => ?_⟩
          by_cases e : j = k
          · rw [e, HX.out]; exact HO.out
          · exact HA.out j (by omega)
        case measure => simp [intOf]; omega
    · have EV := Lib.hid (hasB_no (xs := xs) (x := x) fun j hj => HA.out j (by rw [HL.out] at hj; omega))
      go_wp2
      go_ret
      exact ⟨ret_bool (by rw [EV.out]), rfl⟩
end Go.Proofs.Ytjhopjokllkipaa
