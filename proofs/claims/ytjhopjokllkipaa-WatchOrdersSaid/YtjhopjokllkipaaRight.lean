/- The contract of lit.Right. -/
import Derived.Test.YtjhopjokllkipaaVar
import Derived.Test.YtjhopjokllkipaaRd
namespace Go.Proofs.Ytjhopjokllkipaa
open Go.RowKit LitM

set_option maxHeartbeats 400000 in
theorem right_any (A : Option Addr) (n c : Nat) (xs : List Int) (w : World) (h : Rd .i32 w w.heap.size A n xs) (hr : In32 xs) (hn : n ≤ 9223372036854775807) :
    Calls Try.prog 54 #[.slice A n c] w fun e w' => e = .returned (.bool (allOne xs)) ∧ w = w' := by
  have hl := h.len
  have HL := Lib.hid hl; clear hl
  go_enter Try.func54, Try.ntmps54
  go_wp2
  go_loop [7] (fun i => ∃ k : Nat, k ≤ n ∧ i = .int .i64 k ∧ ∀ j, j < k → one (xs.getD j 0) = true) (fun i => n - (intOf i).toNat)
  case atStart => exact ⟨0, Nat.zero_le _, rfl, fun j hj => absurd hj (by omega)⟩
  case round =>
    obtain ⟨k, hk, rfl, hall⟩ := hrel
    have HA := Lib.hid hall; clear hall
    by_cases hlt : k < n
    · obtain ⟨b, o, rfl, hb, hc⟩ := h.get hlt
      have hx := hr k
      rcases hone : one (xs.getD k 0) with _ | _
      · have EV := Lib.hid (allOne_no (xs := xs) (j := k) (by rw [HL.out]; exact hlt) hone)
        have hv : (varZ (xs.getD k 0) == 0) = true := by rw [varZ_out hone]; rfl
        clear hone
        generalize xs.getD k 0 = x at *
        go_wp2_with (go_at_call 38; refine (var_any _ _ (by omega) (by omega)).mono ?_; rintro e w' ⟨rfl, rfl⟩)
        go_ret
        exact ⟨ret_bool (by rw [EV.out]), rfl⟩
      · have hv : (varZ (xs.getD k 0) == 0) = false := by
          have : varZ (xs.getD k 0) ≠ 0 := fun e => by rw [(varZ_zero _).1 e] at hone; cases hone
          simpa using this
        have HO := Lib.hid hone; clear hone
        generalize hxk : xs.getD k 0 = x at *
        have HX := Lib.hid hxk; clear hxk
        go_wp2_with (go_at_call 38; refine (var_any _ _ (by omega) (by omega)).mono ?_; rintro e w' ⟨rfl, rfl⟩)
        go_round
        case rel =>
          refine ⟨k + 1, by omega, by go_num, fun j hj => ?_⟩
          by_cases e : j = k
          · rw [e, HX.out]; exact HO.out
          · exact HA.out j (by omega)
        case measure => simp [intOf]; omega
    · have EV : Hid (allOne xs = true) := (allOne_iff xs).2 fun j hj => HA.out j (by rw [HL.out] at hj; omega)
      go_wp2
      go_ret
      exact ⟨ret_bool (by rw [EV.out]), rfl⟩
end Go.Proofs.Ytjhopjokllkipaa
