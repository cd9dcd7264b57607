/- The plain answer of layer 14: Same. -/
import Derived.Test.YtnlepdkbcjjkdaaGreatDoorTrfA
namespace Go.Proofs.YtnlepdkbcjjkdaaGreatDoor
open Go.RowKit TreM WrdM

set_option maxHeartbeats 3200000 in
set_option maxRecDepth 100000 in
theorem psame_any : ∀ X : Ex, ∀ (Y : Ex) (v u : Value) (w : World), ExV w X v → ExV w Y u → Calls Tryz.prog 35 #[v, u] w fun e w' => e = .returned (.bool (same X Y)) ∧ Below w.heap.size w w' := by
  apply Ex.ind (P := fun X => ∀ (Y : Ex) (v u : Value) (w : World), ExV w X v → ExV w Y u → Calls Tryz.prog 35 #[v, u] w fun e w' => e = .returned (.bool (same X Y)) ∧ Below w.heap.size w w')
  intro o n s ks l c ih Y v u w h h2
  cases Y with
  | mk o2 n2 s2 ks2 l2 cy =>
  obtain ⟨A, cap, rfl, hB, hK⟩ := h.open
  obtain ⟨A2, cap2, rfl, hB2, hK2⟩ := h2.open
  obtain ⟨wa, hwa⟩ : ∃ wa, wa = (w.alloc (.cells #[.int .i64 o, .int .i64 n, .string ⟨s.toArray⟩, .slice A ks.length cap, .int .i64 l, .int .i64 c] 40)).alloc (.cells #[.int .i64 o2, .int .i64 n2, .string ⟨s2.toArray⟩, .slice A2 ks2.length cap2, .int .i64 l2, .int .i64 cy] 40) := ⟨_, rfl⟩
  have hba : Below w.heap.size w wa := by rw [hwa]; exact two_alloc w _ _
  have hza : wa.heap.size = w.heap.size + 2 := by rw [hwa, alloc_size, alloc_size]
  have hg1 : wa.heap[w.heap.size]? = some (.cells #[.int .i64 o, .int .i64 n, .string ⟨s.toArray⟩, .slice A ks.length cap, .int .i64 l, .int .i64 c] 40) := by
    rw [hwa, Lib.alloc_old _ _ _ (by simp)]; exact blk_new w _
  have hg2 : wa.heap[w.heap.size + 1]? = some (.cells #[.int .i64 o2, .int .i64 n2, .string ⟨s2.toArray⟩, .slice A2 ks2.length cap2, .int .i64 l2, .int .i64 cy] 40) := by
    rw [hwa]
    have := blk_new (w.alloc (.cells #[.int .i64 o, .int .i64 n, .string ⟨s.toArray⟩, .slice A ks.length cap, .int .i64 l, .int .i64 c] 40)) (.cells #[.int .i64 o2, .int .i64 n2, .string ⟨s2.toArray⟩, .slice A2 ks2.length cap2, .int .i64 l2, .int .i64 cy] 40)
    rwa [alloc_size] at this
  have HK1 : Hid (KdsAt wa A ks) := hK.below hba
  have HK2 : Hid (KdsAt wa A2 ks2) := hK2.below hba
  have HC : Hid (∀ W, Below wa.heap.size wa W → W.cell? ⟨w.heap.size, 3, none⟩ = some (.slice A ks.length cap) ∧ W.cell? ⟨w.heap.size + 1, 3, none⟩ = some (.slice A2 ks2.length cap2)) := fun W hW =>
    ⟨heap_cell ((hW.block _ (by omega)).trans hg1) 3 rfl, heap_cell ((hW.block _ (by omega)).trans hg2) 3 rfl⟩
  have hE : same (.mk o n s ks l c) (.mk o2 n2 s2 ks2 l2 cy) = (decide (o = o2) && (decide (n = n2) && (s == s2 && sameL ks ks2))) := by rw [same]; rfl
  have hst := str_beq s s2
  have HI := Lib.hid ih
  have hmc := hB.m
  have hcap := hB.cap
  have hmc2 := hB2.m
  have hcap2 := hB2.cap
  have HLN : Hid (sameL ks ks2 = true → ks.length = ks2.length) := sameL_len ks ks2
  have HSI : Hid (ks.length = ks2.length → (sameL ks ks2 = true ↔ ∀ (j : Nat) (x y : Ex), ks[j]? = some x → ks2[j]? = some y → same x y = true)) := sameL_iff ks ks2
  have HG1 : Hid (∀ k, k < ks.length → ∃ x, ks[k]? = some x) := fun k hk => get_ex hk
  have HG2 : Hid (∀ k, k < ks2.length → ∃ x, ks2[k]? = some x) := fun k hk => get_ex hk
  have HJ : Hid (∀ (j : Nat) (x : Ex), ks[j]? = some x → j < ks.length) := fun j x hx => by
    rcases Nat.lt_or_ge j ks.length with h' | h'
    · exact h'
    · rw [List.getElem?_eq_none h'] at hx; cases hx
  have HBA := Lib.hid hba
  have HWA := Lib.hid hwa
  rw [hE]
  clear h h2 hE ih hB hB2 hK hK2 hwa hba hza hg1 hg2
  generalize sameL ks ks2 = R at *
  generalize ks.length = m at *
  generalize ks2.length = m2 at *
  generalize (⟨s.toArray⟩ : ByteArray) = sb at *
  generalize (⟨s2.toArray⟩ : ByteArray) = sb2 at *
  generalize (s == s2) = bs at *
  have e1 : (o != o2) = !decide (o = o2) := by rw [bne]; congr 1
  have e2 : (n != n2) = !decide (n = n2) := by rw [bne]; congr 1
  have e3 : (sb.toList != sb2.toList) = !bs := by rw [bne, hst]
  generalize decide (o = o2) = z1 at *
  generalize decide (n = n2) = z2 at *
  go_enter Tryz.func35, Tryz.ntmps35
  cases z1
  · go_wp2_with fail
    go_ret
    exact ⟨ret_bool (by simp), by have hwa := HWA.out; rw [← hwa]; exact HBA.out⟩
  cases z2
  · go_wp2_with fail
    go_ret
    exact ⟨ret_bool (by simp), by have hwa := HWA.out; rw [← hwa]; exact HBA.out⟩
  cases bs
  · go_wp2_with fail
    go_ret
    exact ⟨ret_bool (by simp), by have hwa := HWA.out; rw [← hwa]; exact HBA.out⟩
  by_cases hl : m = m2
  case neg =>
    have e4 : ((m : Int) != (m2 : Int)) = true := by rw [bne_iff_ne]; omega
    have e5 : (m != m2) = true := by rw [bne_iff_ne]; exact hl
    have hR : R = false := by rw [Bool.eq_false_iff]; intro e; exact hl (HLN.out e)
    have HR := Lib.hid hR
    clear hR
    go_wp2_with fail
    go_ret
    exact ⟨ret_bool (by rw [HR.out]; simp), by have hwa := HWA.out; rw [← hwa]; exact HBA.out⟩
  subst hl
  have HS : Hid (R = true ↔ ∀ (j : Nat) (x y : Ex), ks[j]? = some x → ks2[j]? = some y → same x y = true) := HSI.out rfl
  clear HSI HLN
  have e4 : ((m : Int) != (m : Int)) = false := by rw [bne_eq_false_iff_eq]
  go_wp2_with fail
  have hwa := HWA.out
  rw [← hwa]
  clear hwa HWA
  go_loopw [5, 37] (fun _ i wr => ∃ k : Nat, k ≤ m ∧ i = .int .i64 k ∧ Hid (Below wa.heap.size wa wr) ∧ Hid (∀ j x y, j < k → ks[j]? = some x → ks2[j]? = some y → same x y = true)) (fun _ i _ => m - (intOf i).toNat)
  case atStart => exact ⟨0, Nat.zero_le _, rfl, Below.refl _ _, fun j x y hj => absurd hj (by omega)⟩
  case round =>
    obtain ⟨k, hk, rfl, HW, HA⟩ := hrel
    by_cases hlt : k < m
    · have t1 : decide ((k : Int) < (m : Int)) = true := decide_eq_true (by omega)
      have t2 : decide (k < m) = true := decide_eq_true hlt
      obtain ⟨x, hx⟩ := HG1.out k hlt
      obtain ⟨y, hy⟩ := HG2.out k hlt
      rcases HK1.out with hK | ⟨b', p', rfl, hb', hk'⟩
      · exfalso; rw [hK] at hx; simp at hx
      rcases HK2.out with hK | ⟨b2, p2, rfl, hb2, hk2⟩
      · exfalso; rw [hK] at hy; simp at hy
      obtain ⟨vo, vn, vs, va, vm, vk, vl, vc, c0, c1, c2, c3, c4, c5, hv⟩ := kid_val ((hk' k x hx).below HW.out hb')
      obtain ⟨uo, un, us, ua, um, uk, ul, uc, d0, d1, d2, d3, d4, d5, hu⟩ := kid_val ((hk2 k y hy).below HW.out hb2)
      obtain ⟨s1, s2⟩ := HC.out wr HW.out
      have HQ : Hid (∀ dq os, Calls Tryz.prog 35 #[.agg #[.int .i64 vo, .int .i64 vn, .string vs, .slice va vm vk, .int .i64 vl, .int .i64 vc], .agg #[.int .i64 uo, .int .i64 un, .string us, .slice ua um uk, .int .i64 ul, .int .i64 uc]] (Go.Sort.grow (redrawn wr dq) os) fun e w' => e = .returned (.bool (same x y)) ∧ ∃ p : Regrown, w' = Go.Sort.grow (redrawn wr p.d) p.os) := fun dq os =>
        Calls.regrown_of (HI.out x (List.mem_of_getElem? hx) y _ _ _ (hv.below (below_regrown wr dq os)) (hu.below (below_regrown wr dq os)))
      have s1' := cell_regrown s1
      have s2' := cell_regrown s2
      have c0' := cell_regrown c0
      have c1' := cell_regrown c1
      have c2' := cell_regrown c2
      have c3' := cell_regrown c3
      have c4' := cell_regrown c4
      have c5' := cell_regrown c5
      have d0' := cell_regrown d0
      have d1' := cell_regrown d1
      have d2' := cell_regrown d2
      have d3' := cell_regrown d3
      have d4' := cell_regrown d4
      have d5' := cell_regrown d5
      have HX := Lib.hid hx
      have HYY := Lib.hid hy
      clear hx hk' hv hy hk2 hu s1 s2 c0 c1 c2 c3 c4 c5 d0 d1 d2 d3 d4 d5
      rcases hr : same x y with _ | _
      · rw [hr] at HQ
        have HRx := Lib.hid hr
        clear hr
        go_upto_region 6 with (fail)
        refine wp_region_quiet_below (by kernel_rfl) (by kernel_rfl) (WQ.out ?_)
        refine quiet_take (by kernel_rfl) (fun K hK => ?_); go_simp; refine hK _ ?_; clear hK K
        refine quiet_take (by kernel_rfl) (fun K hK => ?_); go_simp; refine hK _ ?_; clear hK K
        refine quiet_take (by kernel_rfl) (fun K hK => ?_); go_simp; refine hK _ ?_; clear hK K
        refine quiet_take (by kernel_rfl) (fun K hK => ?_); go_simp; refine hK _ ?_; clear hK K
        refine quiet_take (by kernel_rfl) (fun K hK => ?_); go_simp; refine hK _ ?_; clear hK K
        refine quiet_take (by kernel_rfl) (fun K hK => ?_); go_simp; refine hK _ ?_; clear hK K
        refine quiet_take (by kernel_rfl) (fun K hK => ?_); go_simp; refine hK _ ?_; clear hK K
        refine quiet_take (by kernel_rfl) (fun K hK => ?_); go_simp; refine hK _ ?_; clear hK K
        refine quiet_take (by kernel_rfl) (fun K hK => ?_); go_simp; refine hK _ ?_; clear hK K
        refine quiet_take (by kernel_rfl) (fun K hK => ?_); go_simp; refine hK _ ?_; clear hK K
        refine quiet_take (by kernel_rfl) (fun K hK => ?_); go_simp; apply Exists.intro; refine ⟨fun _ => ?_, hK _ ?_⟩; (go_at_call 35; exact HQ.out _ _); clear hK K
        refine quiet_take (by kernel_rfl) (fun K hK => ?_); go_simp; refine hK _ ?_; clear hK K
        refine ⟨wpQuiet_nil ?_⟩
        intro w7 hw'
        have hbw7 : Below wr.heap.size wr w7 := by obtain ⟨⟨dq, osq⟩, hw''⟩ := hw'; rw [hw'']; exact below_regrown wr dq osq
        clear hw'
        go_wp2_with fail
        go_ret
        refine ⟨ret_bool ?_, HBA.out.trans ((HW.out.trans (hbw7.mono HW.out.size)).mono HBA.out.size)⟩
        have hf : R = false := by
          rw [Bool.eq_false_iff]
          intro e
          have := HS.out.1 e k x y HX.out HYY.out
          rw [HRx.out] at this
          cases this
        rw [hf]; simp
      · rw [hr] at HQ
        have HRx := Lib.hid hr
        clear hr
        go_upto_region 6 with (fail)
        refine wp_region_quiet_below (by kernel_rfl) (by kernel_rfl) (WQ.out ?_)
        refine quiet_take (by kernel_rfl) (fun K hK => ?_); go_simp; refine hK _ ?_; clear hK K
        refine quiet_take (by kernel_rfl) (fun K hK => ?_); go_simp; refine hK _ ?_; clear hK K
        refine quiet_take (by kernel_rfl) (fun K hK => ?_); go_simp; refine hK _ ?_; clear hK K
        refine quiet_take (by kernel_rfl) (fun K hK => ?_); go_simp; refine hK _ ?_; clear hK K
        refine quiet_take (by kernel_rfl) (fun K hK => ?_); go_simp; refine hK _ ?_; clear hK K
        refine quiet_take (by kernel_rfl) (fun K hK => ?_); go_simp; refine hK _ ?_; clear hK K
        refine quiet_take (by kernel_rfl) (fun K hK => ?_); go_simp; refine hK _ ?_; clear hK K
        refine quiet_take (by kernel_rfl) (fun K hK => ?_); go_simp; refine hK _ ?_; clear hK K
        refine quiet_take (by kernel_rfl) (fun K hK => ?_); go_simp; refine hK _ ?_; clear hK K
        refine quiet_take (by kernel_rfl) (fun K hK => ?_); go_simp; refine hK _ ?_; clear hK K
        refine quiet_take (by kernel_rfl) (fun K hK => ?_); go_simp; apply Exists.intro; refine ⟨fun _ => ?_, hK _ ?_⟩; (go_at_call 35; exact HQ.out _ _); clear hK K
        refine quiet_take (by kernel_rfl) (fun K hK => ?_); go_simp; refine hK _ ?_; clear hK K
        refine ⟨wpQuiet_nil ?_⟩
        intro w7 hw'
        have hbw7 : Below wr.heap.size wr w7 := by obtain ⟨⟨dq, osq⟩, hw''⟩ := hw'; rw [hw'']; exact below_regrown wr dq osq
        clear hw'
        go_wp2_with fail
        go_roundw
        case rel =>
          refine ⟨k + 1, by omega, by go_num, HW.out.trans (hbw7.mono HW.out.size), fun j x' y' hj hx' hy' => ?_⟩
          by_cases e : j = k
          · subst e
            have e1 := HX.out.symm.trans hx'
            injection e1 with e1
            have e2 := HYY.out.symm.trans hy'
            injection e2 with e2
            rw [← e1, ← e2]; exact HRx.out
          · exact HA.out j x' y' (by omega) hx' hy'
        case measure => simp [intOf]; omega
    · have t1 : decide ((k : Int) < (m : Int)) = false := decide_eq_false (by omega)
      have t2 : decide (k < m) = false := decide_eq_false hlt
      go_wp2
      go_ret
      refine ⟨ret_bool ?_, HBA.out.trans (HW.out.mono HBA.out.size)⟩
      have ht : R = true := HS.out.2 fun j x y hx hy => HA.out j x y (by have := HJ.out j x hx; omega) hx hy
      rw [ht]; simp
end Go.Proofs.YtnlepdkbcjjkdaaGreatDoor
