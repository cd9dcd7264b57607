/- The contract of cnf.Right. -/
import Derived.Test.YtcfbnddoknpehaaGreatDoorRightF
namespace Go.Proofs.YtcfbnddoknpehaaGreatDoor
open Go.RowKit LitM CnfP

/-- The block of a formula that a call has boxed. -/
def boxF (w : World) (v : Int) (A : Option Addr) (n c : Nat) : World := w.alloc (.cells #[.int .i64 v, .slice A n c] 24)
theorem boxF_size (w : World) (v : Int) (A : Option Addr) (n c : Nat) : (boxF w v A n c).heap.size = w.heap.size + 1 := by simp [boxF]
theorem boxF_below (w : World) (v : Int) (A : Option Addr) (n c : Nat) : Below w.heap.size w (boxF w v A n c) := (Below.refl _ _).alloc (Nat.le_refl _) _
theorem boxF_0 {w wr : World} {v : Int} {A : Option Addr} {n c : Nat} (h : Below (boxF w v A n c).heap.size (boxF w v A n c) wr) : wr.cell? ⟨w.heap.size, 0, none⟩ = some (.int .i64 v) := by
  rw [h.cell (p := ⟨w.heap.size, 0, none⟩) (by simp [boxF])]; simp [boxF]
theorem boxF_1 {w wr : World} {v : Int} {A : Option Addr} {n c : Nat} (h : Below (boxF w v A n c).heap.size (boxF w v A n c) wr) : wr.cell? ⟨w.heap.size, 1, none⟩ = some (.slice A n c) := by
  rw [h.cell (p := ⟨w.heap.size, 1, none⟩) (by simp [boxF])]; simp [boxF]

set_option maxHeartbeats 1600000 in
theorem rightF_any (v : Int) (A : Option Addr) (n c : Nat) (cs : List (List Int)) (w : World) (h : RdF w w.heap.size A n cs) (hr : Ok32 cs) (hn : n ≤ 9223372036854775807) (hv0 : -9223372036854775808 ≤ v) (hv1 : v ≤ 9223372036854775807) :
    Calls Tryz.prog 12 #[.agg #[.int .i64 v, .slice A n c]] w fun e w' => e = .returned (.bool (rightF v cs)) ∧ Below w.heap.size w w' := by
  have HL := Lib.hid h.len
  by_cases hout : v < 0 ∨ 262144 < v ∨ 1048576 < n
  · have EV := Lib.hid (right_out (v := v) (cs := cs) (by rw [HL.out]; exact hout))
    by_cases h1 : v < 0
    · clear hout
      go_enter Tryz.func12, Tryz.ntmps12
      go_wp2
      go_ret
      exact ⟨ret_bool (by rw [EV.out]), (Below.refl _ _).alloc (Nat.le_refl _) _⟩
    · by_cases h2 : 262144 < v
      · clear hout
        go_enter Tryz.func12, Tryz.ntmps12
        go_wp2
        go_ret
        exact ⟨ret_bool (by rw [EV.out]), (Below.refl _ _).alloc (Nat.le_refl _) _⟩
      · have h3 : 1048576 < n := by omega
        clear hout
        go_enter Tryz.func12, Tryz.ntmps12
        go_wp2
        go_ret
        exact ⟨ret_bool (by rw [EV.out]), (Below.refl _ _).alloc (Nat.le_refl _) _⟩
  · have h1 : 0 ≤ v := by omega
    have h2 : v ≤ 262144 := by omega
    have h3 : n ≤ 1048576 := by omega
    clear hout
    have hB0 := boxF_below w v A n c
    have HB0 := Lib.hid hB0
    have HR := Lib.hid ((h.below hB0).more (B' := (boxF w v A n c).heap.size) hB0.size)
    have HZ := Lib.hid (roomZ_zero cs)
    clear hB0 h
    go_enter Tryz.func12, Tryz.ntmps12
    go_wp2
    go_loopw [3, 5, 23] (fun room _ i wr => ∃ k : Nat, k ≤ n ∧ i = .int .i64 k ∧ room = .int .i64 (roomZ cs k) ∧ 0 ≤ roomZ cs k ∧ roomZ cs k ≤ 4194304 ∧ Hid (∀ j, j < k → clauseB v (cs.getD j []) = true) ∧ Hid (Below (boxF w v A n c).heap.size (boxF w v A n c) wr)) (fun _ _ i _ => n - (intOf i).toNat)
    case atStart => exact ⟨0, Nat.zero_le _, rfl, by rw [HZ.out], by rw [HZ.out]; omega, by rw [HZ.out]; omega, fun j hj => absurd hj (by omega), Below.refl _ _⟩
    case round =>
      obtain ⟨k, hk, rfl, rfl, hz0, hz1, HA, HW⟩ := hrel
      have hc0 := boxF_0 HW.out
      have hc1 := boxF_1 HW.out
      have hsz := HW.out.size
      by_cases hlt : k < n
      · have hlk : k < cs.length := by rw [HL.out]; exact hlt
        obtain ⟨b, o, Aj, nj, cj, rfl, hb, hc, hRj⟩ := (HR.out.below HW.out).get hlt
        have hok := hr k
        have hlen := hRj.len
        have hsucc := roomZ_succ hlk
        have hnj : nj ≤ 35184372088832 := by omega
        have hsuc2 : roomZ cs (k + 1) = roomZ cs k - (nj : Int) := by rw [hsucc, hlen]
        by_cases hneg : roomZ cs k - (nj : Int) < 0
        · have EV := Lib.hid (right_big (v := v) (cs := cs) (k := k + 1) (by rw [hsuc2]; exact hneg))
          have HBW := Lib.hid (HB0.out.trans (HW.out.mono HB0.out.size))
          clear hok hlen hsucc hsuc2 hRj hlk
          generalize roomZ cs k = rk at *
          go_wp2
          go_ret
          exact ⟨ret_bool (by rw [EV.out]), HBW.out⟩
        · have hwn := within_any Aj nj cj _ v wr (hRj.more hsz) hok.2 (by omega)
          rcases hcl : clauseB v (cs.getD k []) with _ | _
          · have EV := Lib.hid (right_bad (v := v) hlk hcl)
            rw [hcl] at hwn
            have HWN := Lib.hid hwn
            have HBW := Lib.hid (HB0.out.trans (HW.out.mono HB0.out.size))
            clear hok hlen hsucc hsuc2 hRj hlk hwn hcl
            generalize roomZ cs k = rk at *
            go_wp2_with fail
            refine HWN.out.mono ?_
            rintro e w' ⟨rfl, hBx⟩
            have HBx := Lib.hid (HBW.out.trans (hBx.mono HBW.out.size))
            clear hBx
            go_wp2_with fail
            go_ret
            exact ⟨ret_bool (by rw [EV.out]), HBx.out⟩
          · have HCL := Lib.hid hcl
            have HS := Lib.hid hsuc2
            rw [hcl] at hwn
            have HWN := Lib.hid hwn
            clear hok hlen hsucc hsuc2 hRj hlk hwn hcl
            have hrk : 0 ≤ roomZ cs k - (nj : Int) := by omega
            generalize roomZ cs k = rk at *
            go_wp2_with fail
            refine HWN.out.mono ?_
            rintro e w' ⟨rfl, hBx⟩
            have HBx := Lib.hid (HW.out.trans (hBx.mono hsz))
            clear hBx
            go_wp2_with fail
            go_roundw
            case rel =>
              refine ⟨k + 1, by omega, by go_num, by rw [HS.out], by rw [HS.out]; omega, by rw [HS.out]; omega, fun j hj => ?_, HBx.out⟩
              by_cases e : j = k
              · rw [e]; exact HCL.out
              · exact HA.out j (by omega)
            case measure => simp [intOf]; omega
      · have hkn : k = cs.length := by rw [HL.out]; omega
        have EV := Lib.hid (right_yes (cs := cs) h1 h2 (by rw [HL.out]; exact h3) (by rw [← hkn]; omega) (fun j hj => HA.out j (by omega)))
        clear hkn
        go_wp2
        go_ret
        exact ⟨ret_bool (by rw [EV.out]), HB0.out.trans (HW.out.mono HB0.out.size)⟩
end Go.Proofs.YtcfbnddoknpehaaGreatDoor
