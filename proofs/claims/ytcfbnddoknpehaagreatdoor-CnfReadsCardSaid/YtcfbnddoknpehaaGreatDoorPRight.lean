/- The contract of the plain answer's Right at formulas. -/
import Derived.Test.YtcfbnddoknpehaaGreatDoorRightG
import Derived.Test.YtcfbnddoknpehaaGreatDoorRone
import Derived.BigQuiet
import Derived.Deep.QuietTactic
namespace Go.Proofs.YtcfbnddoknpehaaGreatDoor
open Go.RowKit LitM CnfP

theorem rone_q (l : Int) (w : World) : Calls Tryz.prog 27 #[.int .i32 l] w fun e w' => e = .returned (.bool (one l)) ∧ w' = w :=
  (rone_any l w).mono fun _ _ ⟨he, hw⟩ => ⟨he, hw.symm⟩
theorem rvar_q (l : Int) (w : World) (h0 : -2147483648 ≤ l) (h1 : l ≤ 2147483647) : Calls Tryz.prog 28 #[.int .i32 l] w fun e w' => e = .returned (.int .i64 (varZ l)) ∧ w' = w :=
  (rvar_any l w h0 h1).mono fun _ _ ⟨he, hw⟩ => ⟨he, hw.symm⟩
theorem litB_bad {v : Int} {c : List Int} {j : Nat} (hj : j < c.length) (h : litB v (c.getD j 0) = false) : clauseB v c = false := by
  rw [← Bool.not_eq_true]
  intro ha
  unfold clauseB at ha
  rw [List.all_eq_true] at ha
  rw [getD_lt hj] at h
  rw [ha _ (List.getElem_mem hj)] at h
  cases h
theorem litB_all {v : Int} {c : List Int} (h : ∀ j, j < c.length → litB v (c.getD j 0) = true) : clauseB v c = true := by
  unfold clauseB
  rw [List.all_eq_true]
  intro x hx
  obtain ⟨i, hi, rfl⟩ := List.getElem_of_mem hx
  have := h i hi
  rwa [getD_lt hi] at this
theorem total_succ {cs : List (List Int)} {k : Nat} (h : k < cs.length) : total (cs.take (k + 1)) = total (cs.take k) + (cs.getD k []).length := by
  rw [take_snocF h, total_append]; simp [total]

/-- The outer loop's relation, the inner one's. -/
def PR1 (w : World) (v : Int) (A : Option Addr) (n c : Nat) (cs : List (List Int)) (a i : Value) (wr : World) : Prop :=
  ∃ k q : Nat, i = .int .i64 (k : Int) ∧ a = .int .i64 (total (cs.take k) : Nat) ∧ k ≤ n ∧ (∀ j, j < k → clauseB v (cs.getD j []) = true) ∧ wr = (boxF w v A n c).drewN q
def PR2 (w : World) (v : Int) (A : Option Addr) (n c : Nat) (xs : List Int) (m : Nat) (i : Value) (wr : World) : Prop :=
  ∃ k q : Nat, i = .int .i64 (k : Int) ∧ k ≤ m ∧ (∀ j, j < k → litB v (xs.getD j 0) = true) ∧ wr = (boxF w v A n c).drewN q

set_option maxHeartbeats 6400000 in
set_option maxRecDepth 100000 in
theorem rrightF_any (v : Int) (A : Option Addr) (n c : Nat) (cs : List (List Int)) (w : World) (h : RdF w w.heap.size A n cs) (hr : Ok32 cs) (hn : n ≤ 100000) (ht : total cs ≤ 100000) :
    Calls Tryz.prog 13 #[.agg #[.int .i64 v, .slice A n c]] w fun e w' => e = .returned (.bool (rightF v cs)) ∧ Below w.heap.size w w' := by
  have HL := Lib.hid h.len
  have hb0 := boxF_below w v A n c
  have HB0 := Lib.hid hb0
  by_cases h1 : v < 0
  · have EV := Lib.hid (right_out (v := v) (cs := cs) (.inl h1))
    clear h hb0
    go_enter Tryz.func13, Tryz.ntmps13
    go_wp2
    go_ret
    exact ⟨ret_bool (by rw [EV.out]), HB0.out⟩
  by_cases h2 : 262144 < v
  · have EV := Lib.hid (right_out (v := v) (cs := cs) (.inr (.inl h2)))
    clear h hb0
    go_enter Tryz.func13, Tryz.ntmps13
    go_wp2
    go_ret
    exact ⟨ret_bool (by rw [EV.out]), HB0.out⟩
  have HR := Lib.hid (h.below hb0)
  have t1 : decide (1048576 < n) = false := decide_eq_false (by omega)
  have t2 : decide ((1048576 : Int) < (n : Int)) = false := decide_eq_false (by omega)
  have HS : Hid (PR1 w v A n c cs (.int .i64 0) (.int .i64 0) (boxF w v A n c)) := ⟨0, 0, rfl, by simp [total], Nat.zero_le _, fun j hj => by omega, rfl⟩
  have HC : Hid (∀ q, ((boxF w v A n c).drewN q).cell? ⟨w.heap.size, 0, none⟩ = some (.int .i64 v) ∧ ((boxF w v A n c).drewN q).cell? ⟨w.heap.size, 1, none⟩ = some (.slice A n c)) := fun q => ⟨by show (boxF w v A n c).cell? _ = _; simp [boxF], by show (boxF w v A n c).cell? _ = _; simp [boxF]⟩
  clear h hb0
  go_enter Tryz.func13, Tryz.ntmps13
  go_wp2_with fail
  go_loopw [3, 25] (fun a i wr => PR1 w v A n c cs a i wr) (fun _ i _ => n - (intOf i).toNat)
  case atStart => exact HS.out
  case round =>
    clear HS
    obtain ⟨k, q, rfl, rfl, hk, hall, rfl⟩ := hrel
    have HALL := Lib.hid hall
    clear hall
    by_cases hlt : k < n
    · have hRw : RdF ((boxF w v A n c).drewN q) w.heap.size A n cs := HR.out.keep fun _ _ => rfl
      obtain ⟨b, o, Aj, nj, cj, rfl, hb, hc, hRj⟩ := hRw.get hlt
      have hkl : k < cs.length := by rw [HL.out]; exact hlt
      have hlen := hRj.len
      have htk := total_take cs (k + 1)
      rw [total_succ hkl, hlen] at htk
      have HT := Lib.hid (total_succ hkl)
      have HLJ := Lib.hid hlen
      have HRJ := Lib.hid hRj
      have htk0 : total (cs.take k) ≤ 100000 := by omega
      have hnj : nj ≤ 100000 := by omega
      have HS2 : Hid (PR2 w v (some ⟨b, o, none⟩) n c (cs.getD k []) nj (.int .i64 0) ((boxF w v (some ⟨b, o, none⟩) n c).drewN q)) := ⟨0, q, rfl, Nat.zero_le _, fun j hj => by omega, rfl⟩
      have HOK := Lib.hid (hr k).2
      clear hRw hRj hlen htk hr
      generalize hxs : cs.getD k [] = xs at *
      have HXS := Lib.hid hxs
      clear hxs
      generalize hT0 : total (cs.take k) = T0 at *
      have HT0 := Lib.hid hT0
      clear hT0
      generalize hW : (boxF w v (some ⟨b, o, none⟩) n c).drewN q = Wq at hc HS2 HRJ ⊢
      have HW := Lib.hid hW
      clear hW
      go_wp2_with fail
      obtain ⟨wo, rfl⟩ : ∃ wo : World, wo = Wq := ⟨_, rfl⟩
      go_loopw [35] (fun i wr => PR2 w v (some ⟨b, o, none⟩) n c xs nj i wr) (fun i _ => nj - (intOf i).toNat)
      case atStart => exact HS2.out
      case round =>
        clear HS2 hc
        obtain ⟨i, q2, rfl, hi, hal2, hwr⟩ := hrel
        have HAL2 := Lib.hid hal2
        clear hal2
        by_cases hlt2 : i < nj
        · obtain ⟨b2, o2, rfl, hb2, hc2⟩ := HRJ.out.get hlt2
          have hc3 : wr.cell? ⟨b2, o2 + i, none⟩ = some (.int .i32 (xs.getD i 0)) := by
            rw [← HW.out] at hc2; rw [hwr]; exact hc2
          obtain ⟨hx0, hx1⟩ := HOK.out i
          obtain ⟨f0, f1⟩ := HC.out q2
          rw [← hwr] at f0
          have HWR := Lib.hid hwr
          have HB1 : Hid (∀ d, Below w.heap.size w (wr.drewN d)) := fun d => by rw [HWR.out]; exact below_drewN (below_drewN HB0.out _) _
          have HLB : Hid (litB v (xs.getD i 0) = (one (xs.getD i 0) && decide (varZ (xs.getD i 0) ≤ v))) := rfl
          have hvb := varZ_bd (xs.getD i 0)
          obtain ⟨hvb0, hvb1⟩ := hvb
          have HO1 := Lib.hid (fun W => rone_q (xs.getD i 0) W)
          have HV1 := Lib.hid (fun W => rvar_q (xs.getD i 0) W hx0 hx1)
          have HBD := Lib.hid (fun h => litB_bad (v := v) (c := xs) (j := i) (by rw [HLJ.out]; exact hlt2) h)
          have HRB := Lib.hid (fun h => right_bad (v := v) (cs := cs) (k := k) hkl (by rw [HXS.out]; exact h))
          clear hc2 f1 hwr
          generalize hW0 : boxF w v (some ⟨b, o, none⟩) n c = W0 at *
          have HW0 := Lib.hid hW0
          clear hW0
          generalize hx : xs.getD i 0 = x at *
          have HX := Lib.hid hx
          clear hx
          generalize one x = b1 at *
          generalize varZ x = z at *
          rcases b1
          · have HE : Hid (rightF v cs = false) := HRB.out (HBD.out (by rw [HLB.out]; rfl))
            clear HRB HBD
            go_wp2_with fail
            go_quiet ((first | (go_at_call 27; exact Calls.quiet_of_same (HO1.out _)) | (go_at_call 28; exact Calls.quiet_of_same (HV1.out _))))
            go_wp2_with fail
            go_ret
            exact ⟨ret_bool (by rw [HE.out]), HB1.out _⟩
          · by_cases hzv : v < z
            · have HE : Hid (rightF v cs = false) := HRB.out (HBD.out (by rw [HLB.out]; simp; omega))
              have tz : decide (v < z) = true := decide_eq_true hzv
              clear HRB HBD
              go_wp2_with fail
              go_quiet ((first | (go_at_call 27; exact Calls.quiet_of_same (HO1.out _)) | (go_at_call 28; exact Calls.quiet_of_same (HV1.out _))))
              go_wp2_with fail
              go_ret
              exact ⟨ret_bool (by rw [HE.out]), HB1.out _⟩
            · have tz : decide (v < z) = false := decide_eq_false hzv
              have HR2 : Hid (∀ d, PR2 w v (some ⟨b, o, none⟩) n c xs nj (.int .i64 ((i : Int) + 1)) (wr.drewN d)) := fun d =>
                ⟨i + 1, q2 + d, by rw [show ((i + 1 : Nat) : Int) = (i : Int) + 1 from by omega], hlt2, fun j hj => by
                  by_cases e : j = i
                  · rw [e, HX.out, HLB.out]; simp; omega
                  · exact HAL2.out j (by omega), by rw [HWR.out, HW0.out]; exact World.drewN_drewN _ _ _⟩
              clear HRB HBD
              go_wp2_with fail
              go_quiet ((first | (go_at_call 27; exact Calls.quiet_of_same (HO1.out _)) | (go_at_call 28; exact Calls.quiet_of_same (HV1.out _))))
              go_wp2_with fail
              go_roundw
              case rel => exact HR2.out _
              case measure => simp [intOf]; omega
        · have ti : decide (i < nj) = false := decide_eq_false hlt2
          have HE : Hid (PR1 w v (some ⟨b, o, none⟩) n c cs (.int .i64 ((T0 : Int) + (nj : Int))) (.int .i64 ((k : Int) + 1)) wr) :=
            ⟨k + 1, q2, by rw [show ((k + 1 : Nat) : Int) = (k : Int) + 1 from by omega], by rw [HT.out, HLJ.out]; push_cast; rfl, hlt, fun j hj => by
              by_cases e : j = k
              · rw [e, HXS.out]; exact litB_all fun x hx => HAL2.out x (by rw [HLJ.out] at hx; omega)
              · exact HALL.out j (by omega), hwr⟩
          clear HT HAL2 hwr
          go_wp2_with fail
          go_roundw
          case rel => exact HE.out
          case measure => simp [intOf]; omega
    · have tk : decide (k < n) = false := decide_eq_false hlt
      have hkn : k = n := by omega
      subst hkn
      have htt := total_take cs k
      have HE : Hid (rightF v cs = true) := right_yes (by omega) (by omega) (by rw [HL.out]; omega) (by unfold roomZ; rw [List.take_length]; omega) fun j hj => HALL.out j (by rw [HL.out] at hj; exact hj)
      have tt : decide (total (cs.take k) ≤ 4194304) = true := decide_eq_true (by omega)
      have tt2 : decide ((total (cs.take k) : Int) ≤ 4194304) = true := decide_eq_true (by omega)
      generalize total (cs.take k) = T0 at *
      go_wp2_with fail
      go_ret
      exact ⟨ret_bool (by rw [HE.out]), below_drewN HB0.out _⟩
end Go.Proofs.YtcfbnddoknpehaaGreatDoor
