/- The contract of the plain answer's Same at formulas. -/
import Derived.Test.YtcfbnddoknpehaaGreatDoorSameP
namespace Go.Proofs.YtcfbnddoknpehaaGreatDoor
open Go.RowKit LitM CnfP

set_option maxHeartbeats 1600000 in
theorem rsameF_any (v : Int) (A : Option Addr) (n c : Nat) (cs : List (List Int)) (u : Int) (A2 : Option Addr) (n2 c2 : Nat) (ds : List (List Int)) (w : World) (h : RdF w w.heap.size A n cs) (h2 : RdF w w.heap.size A2 n2 ds) (hr : Ok32 cs) (hr2 : Ok32 ds) (hn : n ≤ 9223372036854775807) (hn2 : n2 ≤ 9223372036854775807) :
    Calls Tryz.prog 16 #[.agg #[.int .i64 v, .slice A n c], .agg #[.int .i64 u, .slice A2 n2 c2]] w fun e w' => e = .returned (.bool (sameF v cs u ds)) ∧ Below w.heap.size w w' := by
  have hB0 : Below w.heap.size w ((w.alloc (.cells #[.int .i64 v, .slice A n c] 24)).alloc (.cells #[.int .i64 u, .slice A2 n2 c2] 24)) := ((Below.refl _ _).alloc (Nat.le_refl _) _).alloc (by simp) _
  have HB0 := Lib.hid hB0
  have hl := h.len
  have hl2 := h2.len
  by_cases he : v = u
  case neg =>
    have hvb : (v != u) = true := by rw [bne_iff_ne]; exact he
    have EV : Hid (sameF v cs u ds = false) := by unfold Hid sameF; simp [he]
    clear he hB0 h h2 hl hl2
    go_enter Tryz.func16, Tryz.ntmps16
    go_wp2_with fail
    go_ret
    exact ⟨ret_bool (by rw [EV.out]), HB0.out⟩
  subst he
  have hvb : (v != v) = false := by simp
  have ES : Hid (sameF v cs v ds = sameC cs ds) := by unfold Hid sameF; simp
  by_cases hne : n = n2
  case neg =>
    have hvn : ((n : Int) != (n2 : Int)) = true := by rw [bne_iff_ne]; omega
    have EV : Hid (sameF v cs v ds = false) := by unfold Hid; rw [ES.out]; exact sameC_len (by rw [hl, hl2]; exact hne)
    clear hne hB0 h h2 hl hl2
    go_enter Tryz.func16, Tryz.ntmps16
    go_wp2_with fail
    go_ret
    exact ⟨ret_bool (by rw [EV.out]), HB0.out⟩
  subst hne
  have hvn : ((n : Int) != (n : Int)) = false := by simp
  have HL := Lib.hid hl
  have HL2 := Lib.hid hl2
  have HR := Lib.hid (h.below hB0)
  have HR2 := Lib.hid (h2.below hB0)
  have hcl : ∀ q, (((w.alloc (.cells #[.int .i64 v, .slice A n c] 24)).alloc (.cells #[.int .i64 v, .slice A2 n c2] 24)).drewN q).cell? ⟨w.heap.size, 1, none⟩ = some (.slice A n c) ∧
      (((w.alloc (.cells #[.int .i64 v, .slice A n c] 24)).alloc (.cells #[.int .i64 v, .slice A2 n c2] 24)).drewN q).cell? ⟨w.heap.size + 1, 1, none⟩ = some (.slice A2 n c2) := fun q => by
    show ((w.alloc _).alloc _).cell? _ = _ ∧ ((w.alloc _).alloc _).cell? _ = _
    simp
  have HCL := Lib.hid hcl
  clear hl hl2 h h2 hcl hB0
  go_enter Tryz.func16, Tryz.ntmps16
  go_wp2
  generalize hW0 : (w.alloc (.cells #[.int .i64 v, .slice A n c] 24)).alloc (.cells #[.int .i64 v, .slice A2 n c2] 24) = W0 at *
  clear hW0
  go_loopw [5, 23] (fun _ i wr => ∃ k q : Nat, k ≤ n ∧ i = .int .i64 k ∧ Hid (wr = W0.drewN q) ∧ Hid (∀ j, j < k → sameB (cs.getD j []) (ds.getD j []) = true)) (fun _ i _ => n - (intOf i).toNat)
  case atStart => exact ⟨0, 0, Nat.zero_le _, rfl, rfl, fun j hj => absurd hj (by omega)⟩
  case round =>
    obtain ⟨k, q, hk, rfl, HW, HA⟩ := hrel
    by_cases hlt : k < n
    · have hRw : RdF wr w.heap.size A n cs := by rw [HW.out]; exact HR.out.drewN q
      have hRw2 : RdF wr w.heap.size A2 n ds := by rw [HW.out]; exact HR2.out.drewN q
      have hcl : wr.cell? ⟨w.heap.size, 1, none⟩ = some (.slice A n c) ∧ wr.cell? ⟨w.heap.size + 1, 1, none⟩ = some (.slice A2 n c2) := by rw [HW.out]; exact HCL.out q
      obtain ⟨hc1, hc2⟩ := hcl
      obtain ⟨b, o, Aj, nj, cj, rfl, hb, hc, hRj⟩ := hRw.get hlt
      obtain ⟨b2, o2, Aj2, nj2, cj2, rfl, hb2, hc2', hRj2⟩ := hRw2.get hlt
      have hcon := fun W (hW : ∃ q, W = wr.drewN q) => same_any Aj Aj2 nj cj nj2 cj2 _ _ W w.heap.size (by obtain ⟨q, rfl⟩ := hW; exact hRj.keep fun _ _ => rfl) (by obtain ⟨q, rfl⟩ := hW; exact hRj2.keep fun _ _ => rfl) (by have := (hr k).1; have := hRj.len; omega) (by have := (hr2 k).1; have := hRj2.len; omega)
      rcases hx : sameB (cs.getD k []) (ds.getD k []) with _ | _
      · have EV : Hid (sameF v cs v ds = false) := by unfold Hid; rw [ES.out]; exact sameC_at hx
        rw [hx] at hcon
        have HC := Lib.hid hcon
        clear hcon hRj hRj2 hx hRw hRw2
        go_wp2
        go_quiet ((go_at_call 33; exact Calls.quiet_of (HC.out _ ⟨_, rfl⟩)))
        go_wp2
        all_goals (go_ret; exact ⟨ret_bool (by rw [EV.out]), by rw [HW.out]; exact below_drewN (below_drewN HB0.out _) _⟩)
      · have HX := Lib.hid hx
        rw [hx] at hcon
        have HC := Lib.hid hcon
        clear hcon hRj hRj2 hx hRw hRw2
        go_wp2
        go_quiet ((go_at_call 33; exact Calls.quiet_of (HC.out _ ⟨_, rfl⟩)))
        go_wp2
        all_goals
          go_roundw
          case rel =>
            refine ⟨k + 1, _, by omega, by go_num, (show Hid _ from by rw [HW.out]; exact World.drewN_drewN _ _ _), fun j hj => ?_⟩
            by_cases e : j = k
            · rw [e]; exact HX.out
            · exact HA.out j (by omega)
          case measure => simp [intOf]; omega
    · have EV : Hid (sameF v cs v ds = true) := by unfold Hid; rw [ES.out]; exact sameC_yes (by rw [HL.out, HL2.out]) fun j hj => HA.out j (by rw [HL.out] at hj; omega)
      go_wp2
      go_ret
      exact ⟨ret_bool (by rw [EV.out]), by rw [HW.out]; exact below_drewN HB0.out _⟩
end Go.Proofs.YtcfbnddoknpehaaGreatDoor
