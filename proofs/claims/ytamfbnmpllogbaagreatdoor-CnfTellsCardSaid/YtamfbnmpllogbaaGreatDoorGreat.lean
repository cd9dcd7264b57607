/- The contract of great: is a formula too great to be looked at? And what the rows of formulas open: a formula, a clause, values. -/
import Derived.Test.YtamfbnmpllogbaaGreatDoorRightG
import Derived.Test.YtamfbnmpllogbaaGreatDoorHoldsM
namespace Go.Proofs.YtamfbnmpllogbaaGreatDoor
open Go.RowKit LitM CnfP

def greatB (cs : List (List Int)) : Bool := decide (100 < cs.length) || cs.any (fun c => decide (50 < c.length))
theorem great_len {cs : List (List Int)} (h : 100 < cs.length) : greatB cs = true := by simp [greatB, h]
theorem great_at {cs : List (List Int)} {j : Nat} (hj : j < cs.length) (h : 50 < (cs.getD j []).length) : greatB cs = true := by
  rw [getF_lt hj] at h
  unfold greatB
  rw [Bool.or_eq_true, List.any_eq_true]
  exact .inr ⟨_, List.getElem_mem hj, by simpa using h⟩
theorem great_no {cs : List (List Int)} (h : cs.length ≤ 100) (h2 : ∀ j, j < cs.length → ¬ 50 < (cs.getD j []).length) : greatB cs = false := by
  unfold greatB
  rw [Bool.or_eq_false_iff, List.any_eq_false]
  refine ⟨by simp; omega, fun c hc => ?_⟩
  obtain ⟨j, hj, rfl⟩ := List.mem_iff_getElem.1 hc
  have := h2 j hj
  rw [getF_lt hj] at this
  simpa using this
theorem great_out {cs : List (List Int)} (h : greatB cs = false) : cs.length ≤ 100 ∧ ∀ c ∈ cs, c.length ≤ 50 := by
  unfold greatB at h
  rw [Bool.or_eq_false_iff, List.any_eq_false] at h
  refine ⟨by simpa using h.1, fun c hc => ?_⟩
  have := h.2 c hc
  simpa using this
/-- A formula that is not too great, of numbers of 32 bits. -/
theorem great_ok {cs : List (List Int)} (h : greatB cs = false) (h2 : ∀ c ∈ cs, In32 c) : Ok32 cs := Ok32.of fun c hc => ⟨by have := (great_out h).2 c hc; omega, h2 c hc⟩
theorem great_total : ∀ (cs : List (List Int)), (∀ c ∈ cs, c.length ≤ 50) → total cs ≤ 50 * cs.length
  | [], _ => by simp [total]
  | c :: cs, h => by
    have ih := great_total cs (fun x hx => h x (by simp [hx]))
    have := h c (by simp)
    rw [total_cons, List.length_cons]
    omega

set_option maxHeartbeats 800000 in
theorem great_any (v : Int) (A : Option Addr) (n c : Nat) (cs : List (List Int)) (w : World) (h : RdF w w.heap.size A n cs) (hr : ∀ j, (cs.getD j []).length ≤ 9223372036854775807) (hn : n ≤ 9223372036854775807) :
    Calls Tryz.prog 6 #[.agg #[.int .i64 v, .slice A n c]] w fun e w' => e = .returned (.bool (greatB cs)) ∧ Below w.heap.size w w' := by
  have HL := Lib.hid h.len
  by_cases hbig : 100 < n
  · have EV := Lib.hid (great_len (cs := cs) (by rw [HL.out]; exact hbig))
    go_enter Tryz.func6, Tryz.ntmps6
    go_wp2
    go_ret
    exact ⟨ret_bool (by rw [EV.out]), (Below.refl _ _).alloc (Nat.le_refl _) _⟩
  · have h1 : n ≤ 100 := by omega
    clear hbig
    have hB0 := boxF_below w v A n c
    have HB0 := Lib.hid hB0
    have HR := Lib.hid ((h.below hB0).more (B' := (boxF w v A n c).heap.size) hB0.size)
    clear hB0 h
    go_enter Tryz.func6, Tryz.ntmps6
    go_wp2
    go_loop [4, 12] (fun _ i => ∃ k : Nat, k ≤ n ∧ i = .int .i64 k ∧ Hid (∀ j, j < k → ¬ 50 < (cs.getD j []).length)) (fun _ i => n - (intOf i).toNat)
    case atStart => exact ⟨0, Nat.zero_le _, rfl, fun j hj => absurd hj (by omega)⟩
    case round =>
      obtain ⟨k, hk, rfl, HA⟩ := hrel
      by_cases hlt : k < n
      · have hlk : k < cs.length := by rw [HL.out]; exact hlt
        obtain ⟨b, o, Aj, nj, cj, rfl, hb, hc, hRj⟩ := HR.out.get hlt
        unfold boxF at hc
        have hok := hr k
        have hlen := hRj.len
        by_cases h50 : 50 < nj
        · have EV := Lib.hid (great_at hlk (by rw [hlen]; exact h50))
          clear hlk
          go_wp2
          go_ret
          exact ⟨ret_bool (by rw [EV.out]), HB0.out⟩
        · have HK : Hid (¬ 50 < (cs.getD k []).length) := by rw [hlen]; exact h50
          clear hlk
          go_wp2
          go_round
          case rel =>
            refine ⟨k + 1, by omega, by go_num, fun j hj => ?_⟩
            by_cases e : j = k
            · rw [e]; exact HK.out
            · exact HA.out j (by omega)
          case measure => simp [intOf]; omega
      · have EV : Hid (greatB cs = false) := great_no (by rw [HL.out]; exact h1) fun j hj => HA.out j (by rw [HL.out] at hj; omega)
        go_wp2
        go_ret
        exact ⟨ret_bool (by rw [EV.out]), HB0.out⟩
end Go.Proofs.YtamfbnmpllogbaaGreatDoor
