/- The plain answer of layer 14: Kids, Has, Same. -/
import Derived.Test.YtmkhfcdjgdofnaaDoorParG
import Derived.Test.YtmkhfcdjgdofnaaDoorTreI
namespace Go.Proofs.YtmkhfcdjgdofnaaDoor
open Go.RowKit TreM WrdM

theorem pkids_any (o : Int) (w : World) : Calls Tryd.prog 59 #[.int .i64 o] w fun e w' => e = .returned (.int .i64 (kidsN o)) ∧ w = w' := by
  have hE : kidsN o = if 1 ≤ o ∧ o ≤ 4 then 0 else if 5 ≤ o ∧ o ≤ 13 then 1 else if 14 ≤ o ∧ o ≤ 30 then 2 else -1 := rfl
  rw [hE]
  clear hE
  rcases h1 : decide ((1 : Int) ≤ o) with _ | _ <;> rcases h2 : decide (o ≤ 4) with _ | _ <;> rcases h3 : decide ((5 : Int) ≤ o) with _ | _ <;> rcases h4 : decide (o ≤ 13) with _ | _ <;> rcases h5 : decide ((14 : Int) ≤ o) with _ | _ <;> rcases h6 : decide (o ≤ 30) with _ | _
  all_goals
    have g1 := h1
    have g2 := h2
    have g3 := h3
    have g4 := h4
    have g5 := h5
    have g6 := h6
    simp only [decide_eq_true_eq, decide_eq_false_iff_not] at g1 g2 g3 g4 g5 g6
    first
      | (exfalso; omega)
      | (first
          | rw [if_pos (by omega)]
          | rw [if_neg (by omega), if_pos (by omega)]
          | rw [if_neg (by omega), if_neg (by omega), if_pos (by omega)]
          | rw [if_neg (by omega), if_neg (by omega), if_neg (by omega)]
         clear g1 g2 g3 g4 g5 g6
         go_enter Tryd.func59, Tryd.ntmps59
         go_wp2
         go_ret
         exact ⟨rfl, rfl⟩)
set_option maxHeartbeats 1600000 in
theorem phas_any (q : Int) : ∀ X : Ex, ∀ (v : Value) (w : World), ExV w X v → Calls Tryd.prog 18 #[v, .int .i64 q] w fun e w' => e = .returned (.bool (hasOp q X)) ∧ Below w.heap.size w w' := by
  apply Ex.ind (P := fun X => ∀ (v : Value) (w : World), ExV w X v → Calls Tryd.prog 18 #[v, .int .i64 q] w fun e w' => e = .returned (.bool (hasOp q X)) ∧ Below w.heap.size w w')
  intro o n s ks l c ih v w h
  obtain ⟨A, cap, rfl, hB, hK⟩ := h.open
  have hba := below_alloc w (.cells #[.int .i64 o, .int .i64 n, .string ⟨s.toArray⟩, .slice A ks.length cap, .int .i64 l, .int .i64 c] 24)
  have HBA := Lib.hid hba
  have HK : Hid (KdsAt (w.alloc (.cells #[.int .i64 o, .int .i64 n, .string ⟨s.toArray⟩, .slice A ks.length cap, .int .i64 l, .int .i64 c] 24)) A ks) := hK.below hba
  obtain ⟨m, hm⟩ : ∃ m, m = ks.length := ⟨_, rfl⟩
  have hcap := hB.cap
  have hmc := hB.m
  have HM := Lib.hid hm
  have HI := Lib.hid ih
  have HE : Hid (hasOp q (.mk o n s ks l c) = (decide (o = q) || ks.any (hasOp q))) := by unfold Hid; rw [hasOp, hasL_any]
  rw [← hm] at hmc HK HBA ⊢
  generalize hasOp q (.mk o n s ks l c) = R at *
  generalize (⟨s.toArray⟩ : ByteArray) = sb at *
  clear hm hK ih hB h hba
  by_cases hq : o = q
  · have tq : (o == q) = true := by rw [beq_iff_eq]; exact hq
    have hR : R = true := by rw [HE.out, decide_eq_true hq, Bool.true_or]
    subst hR
    clear hq
    go_enter Tryd.func18, Tryd.ntmps18
    go_wp2
    go_ret
    exact ⟨rfl, HBA.out⟩
  have tq : (o == q) = false := by rw [beq_eq_false_iff_ne]; exact hq
  have HR : Hid (R = ks.any (hasOp q)) := by unfold Hid; rw [HE.out, decide_eq_false hq, Bool.false_or]
  clear hq HE
  go_enter Tryd.func18, Tryd.ntmps18
  go_wp2
  generalize w.alloc (.cells #[.int .i64 o, .int .i64 n, .string sb, .slice A m cap, .int .i64 l, .int .i64 c] 24) = wa at *
  go_loopw [6, 14] (fun _ i wr => ∃ k : Nat, k ≤ m ∧ i = .int .i64 k ∧ Hid (Below wa.heap.size wa wr) ∧ Hid (∀ j x, j < k → ks[j]? = some x → hasOp q x = false)) (fun _ i _ => m - (intOf i).toNat)
  case atStart => exact ⟨0, Nat.zero_le _, rfl, Below.refl _ _, fun j x hj => absurd hj (by omega)⟩
  case round =>
    obtain ⟨k, hk, rfl, HW, HA⟩ := hrel
    by_cases hlt : k < m
    · have t1 : decide ((k : Int) < (m : Int)) = true := decide_eq_true (by omega)
      have t2 : decide (k < m) = true := decide_eq_true hlt
      obtain ⟨x, hx⟩ := get_ex (ks := ks) (k := k) (by rw [← HM.out]; exact hlt)
      rcases HK.out with hK | ⟨b', p', rfl, hb', hk'⟩
      · exfalso; rw [hK] at hx; simp at hx
      have hb2 : b' < wr.heap.size := Nat.lt_of_lt_of_le hb' HW.out.size
      obtain ⟨vo, vn, vs, va, vm, vk, vl, vc, c0, c1, c2, c3, c4, c5, hv⟩ := kid_val ((hk' k x hx).below HW.out hb')
      have hal := below_alloc wr (.cells #[.int .i64 vo, .int .i64 vn, .string vs, .slice va vm vk, .int .i64 vl, .int .i64 vc] 24)
      have HC := HI.out x (List.mem_of_getElem? hx) _ _ (hv.below hal)
      have HBW := Lib.hid (HW.out.trans (hal.mono HW.out.size))
      have HX := Lib.hid hx
      clear hx hk' hv hal
      rcases hr : hasOp q x with _ | _
      · rw [hr] at HC
        have HC := Lib.hid HC
        have HRx := Lib.hid hr
        clear hr
        go_wp2_with (refine HC.out.mono ?_; rintro e w' ⟨rfl, hB2⟩)
        go_roundw
        case rel =>
          refine ⟨k + 1, by omega, by go_num, HBW.out.trans (hB2.mono HBW.out.size), fun j y hj hy => ?_⟩
          by_cases e : j = k
          · subst e
            have := HX.out.symm.trans hy
            injection this with this
            rw [← this]; exact HRx.out
          · exact HA.out j y (by omega) hy
        case measure => simp [intOf]; omega
      · rw [hr] at HC
        have HC := Lib.hid HC
        have HRx := Lib.hid hr
        clear hr
        go_wp2_with (refine HC.out.mono ?_; rintro e w' ⟨rfl, hB2⟩)
        go_ret
        exact ⟨ret_bool (by rw [HR.out, List.any_eq_true.2 ⟨x, List.mem_of_getElem? HX.out, HRx.out⟩]), HBA.out.trans ((HBW.out.trans (hB2.mono HBW.out.size)).mono HBA.out.size)⟩
    · have t1 : decide ((k : Int) < (m : Int)) = false := decide_eq_false (by omega)
      have t2 : decide (k < m) = false := decide_eq_false hlt
      go_wp2
      go_ret
      exact ⟨ret_bool (by rw [HR.out, any_take fun j x hj hx => HA.out j x (by have := HM.out; omega) hx]), HBA.out.trans (HW.out.mono HBA.out.size)⟩
end Go.Proofs.YtmkhfcdjgdofnaaDoor
