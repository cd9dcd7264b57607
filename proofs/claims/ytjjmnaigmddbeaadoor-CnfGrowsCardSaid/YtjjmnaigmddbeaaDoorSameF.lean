/- The contracts of slices.EqualFunc at clauses, cnf.Same, and the plain answer's Same. -/
import Derived.Test.YtjjmnaigmddbeaaDoorEqualL
import Derived.Test.YtjjmnaigmddbeaaDoorRsame
import Derived.Test.YtjjmnaigmddbeaaDoorRdF
import Derived.Test.YtjjmnaigmddbeaaDoorFindL
namespace Go.Proofs.YtjjmnaigmddbeaaDoor
open Go.RowKit LitM CnfP

def sameC (cs ds : List (List Int)) : Bool := decide (cs = ds)
theorem sameC_len {cs ds : List (List Int)} (h : cs.length ≠ ds.length) : sameC cs ds = false := by
  unfold sameC; rw [decide_eq_false_iff_not]; intro e; exact h (by rw [e])
theorem sameC_at {cs ds : List (List Int)} {j : Nat} (h : sameB (cs.getD j []) (ds.getD j []) = false) : sameC cs ds = false := by
  unfold sameC; rw [decide_eq_false_iff_not]; intro e
  rw [e] at h
  unfold sameB at h
  simp at h
theorem sameC_yes {cs ds : List (List Int)} (hl : cs.length = ds.length) (h : ∀ j, j < cs.length → sameB (cs.getD j []) (ds.getD j []) = true) : sameC cs ds = true := by
  unfold sameC
  rw [decide_eq_true_iff]
  apply List.ext_getElem hl
  intro i h1 h2
  have := h i h1
  rw [getF_lt h1, getF_lt h2, sameB_iff] at this
  exact this
def sameF (v : Int) (cs : List (List Int)) (u : Int) (ds : List (List Int)) : Bool := decide (v = u) && sameC cs ds

theorem eg_equalL : ∀ args w, (callFunc 23 args).run Tryd.prog w = .ok (.enter 23 args) w := enters_of Tryd.func23 (by kernel_rfl) rfl
theorem RdF.drewN {w : World} {B n : Nat} {A : Option Addr} {cs : List (List Int)} (h : RdF w B A n cs) (q : Nat) : RdF (w.drewN q) B A n cs := h.keep fun _ _ => rfl

set_option maxHeartbeats 1600000 in
theorem equalF_any (A : Option Addr) (n c : Nat) (cs : List (List Int)) (A2 : Option Addr) (n2 c2 : Nat) (ds : List (List Int)) (w : World) (B : Nat) (h : RdF w B A n cs) (h2 : RdF w B A2 n2 ds) (hr : Ok32 cs) (hr2 : Ok32 ds) (hn : n ≤ 9223372036854775807) (hn2 : n2 ≤ 9223372036854775807) :
    Calls Tryd.prog 22 #[.slice A n c, .slice A2 n2 c2, .func (.func 23) #[] #[]] w fun e w' => e = .returned (.bool (sameC cs ds)) ∧ ∃ q, w' = w.drewN q := by
  have hl := h.len
  have hl2 := h2.len
  have eg := eg_equalL
  by_cases hne : n = n2
  case neg =>
    have EV := Lib.hid (sameC_len (cs := cs) (ds := ds) (by rw [hl, hl2]; exact hne))
    have hv : ((n : Int) != (n2 : Int)) = true := by rw [bne_iff_ne]; omega
    clear hl hl2 hne
    go_enter Tryd.func22, Tryd.ntmps22
    go_wp2
    go_ret
    exact ⟨ret_bool (by rw [EV.out]), 0, rfl⟩
  subst hne
  have HL := Lib.hid hl
  have HL2 := Lib.hid hl2
  have HR := Lib.hid h
  have HR2 := Lib.hid h2
  clear hl hl2 h h2
  go_enter Tryd.func22, Tryd.ntmps22
  go_wp2
  go_loopw [7, 8, 9, 17] (fun _ _ _ i wr => ∃ k q : Nat, k ≤ n ∧ i = .int .i64 k ∧ Hid (wr = w.drewN q) ∧ Hid (∀ j, j < k → sameB (cs.getD j []) (ds.getD j []) = true)) (fun _ _ _ i _ => n - (intOf i).toNat)
  case atStart => exact ⟨0, 0, Nat.zero_le _, rfl, rfl, fun j hj => absurd hj (by omega)⟩
  case round =>
    obtain ⟨k, q, hk, rfl, HW, HA⟩ := hrel
    by_cases hlt : k < n
    · have hRw : RdF wr B A n cs := by rw [HW.out]; exact HR.out.drewN q
      have hRw2 : RdF wr B A2 n ds := by rw [HW.out]; exact HR2.out.drewN q
      obtain ⟨b, o, Aj, nj, cj, rfl, hb, hc, hRj⟩ := hRw.get hlt
      obtain ⟨b2, o2, Aj2, nj2, cj2, rfl, hb2, hc2, hRj2⟩ := hRw2.get hlt
      have hcon := equalL_any Aj Aj2 nj cj nj2 cj2 _ _ wr B hRj hRj2 (by have := (hr k).1; have := hRj.len; omega) (by have := (hr2 k).1; have := hRj2.len; omega)
      rcases hx : sameB (cs.getD k []) (ds.getD k []) with _ | _
      · have EV := Lib.hid (sameC_at hx)
        rw [hx] at hcon
        have HC := Lib.hid hcon
        clear hcon hRj hRj2 hx hRw hRw2
        go_wp2_with (go_at_fn 23; refine HC.out.mono ?_; rintro e w' ⟨rfl, q', rfl⟩)
        go_ret
        exact ⟨ret_bool (by rw [EV.out]), _, by rw [HW.out]; exact World.drewN_drewN _ _ _⟩
      · have HX := Lib.hid hx
        rw [hx] at hcon
        have HC := Lib.hid hcon
        clear hcon hRj hRj2 hx hRw hRw2
        go_wp2_with (go_at_fn 23; refine HC.out.mono ?_; rintro e w' ⟨rfl, q', rfl⟩)
        go_roundw
        case rel =>
          refine ⟨k + 1, _, by omega, by go_num, (show Hid _ from by rw [HW.out]; exact World.drewN_drewN _ _ _), fun j hj => ?_⟩
          by_cases e : j = k
          · rw [e]; exact HX.out
          · exact HA.out j (by omega)
        case measure => simp [intOf]; omega
    · have EV := Lib.hid (sameC_yes (cs := cs) (ds := ds) (by rw [HL.out, HL2.out]) fun j hj => HA.out j (by rw [HL.out] at hj; omega))
      go_wp2
      go_ret
      exact ⟨ret_bool (by rw [EV.out]), _, HW.out⟩

set_option maxHeartbeats 800000 in
theorem sameF_any (v : Int) (A : Option Addr) (n c : Nat) (cs : List (List Int)) (u : Int) (A2 : Option Addr) (n2 c2 : Nat) (ds : List (List Int)) (w : World) (h : RdF w w.heap.size A n cs) (h2 : RdF w w.heap.size A2 n2 ds) (hr : Ok32 cs) (hr2 : Ok32 ds) (hn : n ≤ 9223372036854775807) (hn2 : n2 ≤ 9223372036854775807) :
    Calls Tryd.prog 12 #[.agg #[.int .i64 v, .slice A n c], .agg #[.int .i64 u, .slice A2 n2 c2]] w fun e w' => e = .returned (.bool (sameF v cs u ds)) ∧ Below w.heap.size w w' := by
  have hB0 : Below w.heap.size w ((w.alloc (.cells #[.int .i64 v, .slice A n c] 27)).alloc (.cells #[.int .i64 u, .slice A2 n2 c2] 27)) := ((Below.refl _ _).alloc (Nat.le_refl _) _).alloc (by simp) _
  have HB0 := Lib.hid hB0
  by_cases he : v = u
  · subst he
    have hvb : (v == v) = true := by simp
    have hcon := equalF_any A n c cs A2 n2 c2 ds _ _ (h.below hB0) (h2.below hB0) hr hr2 hn hn2
    have EV : Hid (sameF v cs v ds = sameC cs ds) := by unfold Hid sameF; simp
    generalize sameC cs ds = r at *
    have HC := Lib.hid hcon
    clear hcon hB0 h h2
    go_enter Tryd.func12, Tryd.ntmps12
    go_wp2_with fail
    refine HC.out.mono ?_
    rintro e w' ⟨rfl, q, rfl⟩
    go_wp2_with fail
    go_ret
    exact ⟨ret_bool (by rw [EV.out]), below_drewN HB0.out q⟩
  · have hvb : (v == u) = false := by rw [beq_eq_false_iff_ne]; exact he
    have EV : Hid (sameF v cs u ds = false) := by unfold Hid sameF; simp [he]
    clear he hB0 h h2
    go_enter Tryd.func12, Tryd.ntmps12
    go_wp2_with fail
    go_ret
    exact ⟨ret_bool (by rw [EV.out]), HB0.out⟩
end Go.Proofs.YtjjmnaigmddbeaaDoor
