/- The contract of the plain answer's Same. -/
import Derived.Test.YtjhopjokllkipaaVar
import Derived.Test.YtjhopjokllkipaaRd
namespace Go.Proofs.Ytjhopjokllkipaa
open Go.RowKit LitM

set_option maxHeartbeats 400000 in
theorem same_any (A A2 : Option Addr) (n c n2 c2 : Nat) (xs ys : List Int) (w : World) (B : Nat) (h : Rd .i32 w B A n xs) (h2 : Rd .i32 w B A2 n2 ys) (hn : n ≤ 9223372036854775807) (hn2 : n2 ≤ 9223372036854775807) :
    Calls Try.prog 20 #[.slice A n c, .slice A2 n2 c2] w fun e w' => e = .returned (.bool (sameB xs ys)) ∧ ∃ q, w' = w.drewN q := by
  have hl := h.len
  have hl2 := h2.len
  by_cases hne : n = n2
  case neg =>
    have EV := Lib.hid (sameB_len (xs := xs) (ys := ys) (by rw [hl, hl2]; exact hne))
    have hv : ((n : Int) != (n2 : Int)) = true := by rw [bne_iff_ne]; omega
    clear hl hl2 hne
    go_enter Try.func20, Try.ntmps20
    go_wp2
    go_ret
    exact ⟨ret_bool (by rw [EV.out]), 0, rfl⟩
  subst hne
  have HL := Lib.hid hl; clear hl
  have HL2 := Lib.hid hl2; clear hl2
  go_enter Try.func20, Try.ntmps20
  go_wp2
  go_loopw [13] (fun i wr => ∃ k q : Nat, k ≤ n ∧ i = .int .i64 k ∧ wr = w.drewN q ∧ ∀ j, j < k → xs.getD j 0 = ys.getD j 0) (fun i _ => n - (intOf i).toNat)
  case atStart => exact ⟨0, 0, Nat.zero_le _, rfl, rfl, fun j hj => absurd hj (by omega)⟩
  case round =>
    obtain ⟨k, q, hk, rfl, rfl, hall⟩ := hrel
    have HA := Lib.hid hall; clear hall
    by_cases hlt : k < n
    · obtain ⟨b, o, rfl, hb, hc⟩ := h.get hlt
      obtain ⟨b2, o2, rfl, hb2, hc2⟩ := h2.get hlt
      by_cases hx : xs.getD k 0 = ys.getD k 0
      · have hv : (xs.getD k 0 != ys.getD k 0) = false := by rw [hx]; simp
        have HO := Lib.hid hx; clear hx
        generalize hxk : xs.getD k 0 = x at *
        have HX := Lib.hid hxk; clear hxk
        generalize hyk : ys.getD k 0 = y at *
        have HY := Lib.hid hyk; clear hyk
        go_wp2
        go_quiet (fail)
        go_wp2
        all_goals
          go_roundw
          case rel =>
            refine ⟨k + 1, _, by omega, by go_num, rfl, fun j hj => ?_⟩
            by_cases e : j = k
            · rw [e, HX.out, HY.out]; exact HO.out
            · exact HA.out j (by omega)
          case measure => simp [intOf]; omega
      · have hv : (xs.getD k 0 != ys.getD k 0) = true := by rw [bne_iff_ne]; exact hx
        have EV := Lib.hid (sameB_at (xs := xs) (ys := ys) hx); clear hx
        generalize hxk : xs.getD k 0 = x at *
        have HX := Lib.hid hxk; clear hxk
        generalize hyk : ys.getD k 0 = y at *
        have HY := Lib.hid hyk; clear hyk
        go_wp2
        go_quiet (fail)
        go_wp2
        all_goals (go_ret; exact ⟨ret_bool (by rw [EV.out]), _, World.drewN_drewN _ _ _⟩)
    · have EV := Lib.hid (sameB_yes (xs := xs) (ys := ys) (by rw [HL.out, HL2.out]) fun j hj => HA.out j (by rw [HL.out] at hj; omega))
      go_wp2
      go_ret
      exact ⟨ret_bool (by rw [EV.out]), _, rfl⟩
end Go.Proofs.Ytjhopjokllkipaa
