/- The plain answer of layer 14: shape, Right, Writable. -/
import Derived.Test.YtmkhfcdjgdofnaaDoorTrfP
namespace Go.Proofs.YtmkhfcdjgdofnaaDoor
open Go.RowKit TreM WrdM

/-- What the plain answer asks of Num and Name. -/
def fitP (o n : Int) (s : List UInt8) : Bool := if o = 1 then decide (0 ≤ n) && decide (n ≤ 1000000) else if o = 2 then decide (n = 0) || decide (n = 1) else if o = 3 then decide (n = 0) && nameB s else if o = 4 then true else decide (n = 0)
theorem ownP_eq (o n : Int) (s : List UInt8) (m : Nat) : ownB o n s m = (decide (kidsN o = (m : Int)) && ((decide (o = 3) || s.isEmpty) && fitP o n s)) := rfl
set_option maxHeartbeats 3200000 in
set_option maxRecDepth 100000 in
theorem pshape_any : ∀ X : Ex, ∀ (v : Value) (w : World), ExV w X v → Calls Tryd.prog 40 #[v] w fun e w' => e = .returned (.bool (TreM.shape X)) ∧ Below w.heap.size w w' := by
  apply Ex.ind (P := fun X => ∀ (v : Value) (w : World), ExV w X v → Calls Tryd.prog 40 #[v] w fun e w' => e = .returned (.bool (TreM.shape X)) ∧ Below w.heap.size w w')
  intro o n s ks l c ih v w h
  obtain ⟨A, cap, rfl, hB, hK⟩ := h.open
  obtain ⟨wa, hwa⟩ : ∃ wa, wa = w.alloc (.cells #[.int .i64 o, .int .i64 n, .string ⟨s.toArray⟩, .slice A ks.length cap, .int .i64 l, .int .i64 c] 24) := ⟨_, rfl⟩
  have hba : Below w.heap.size w wa := by rw [hwa]; exact below_alloc w _
  have hga : wa.heap[w.heap.size]? = some (.cells #[.int .i64 o, .int .i64 n, .string ⟨s.toArray⟩, .slice A ks.length cap, .int .i64 l, .int .i64 c] 24) := by rw [hwa]; exact blk_new w _
  have hlt : w.heap.size < wa.heap.size := by rw [hwa]; simp
  have HK : Hid (KdsAt wa A ks) := hK.below hba
  have HC : Hid (∀ W, Below wa.heap.size wa W → W.heap[w.heap.size]? = some (.cells #[.int .i64 o, .int .i64 n, .string ⟨s.toArray⟩, .slice A ks.length cap, .int .i64 l, .int .i64 c] 24)) := fun W hW => (hW.block _ hlt).trans hga
  have HPN : Hid (∀ W, Calls Tryd.prog 60 #[.string ⟨s.toArray⟩] W fun e w' => e = .returned (.bool (nameB s)) ∧ Below W.heap.size W w') := fun W => pname_any s W hB.s
  have hsh : TreM.shape (.mk o n s ks l c) = (ownB o n s ks.length && shapeL ks) := by rw [TreM.shape]
  rw [ownP_eq] at hsh
  have HSH := Lib.hid hsh
  have HSL : Hid (shapeL ks = true ↔ ∀ k ∈ ks, TreM.shape k = true) := shapeL_mem ks
  have HI := Lib.hid ih
  have he := empty_list s
  have HFT : Hid (fitP o n s = if o = 1 then decide (0 ≤ n) && decide (n ≤ 1000000) else if o = 2 then decide (n = 0) || decide (n = 1) else if o = 3 then decide (n = 0) && nameB s else if o = 4 then true else decide (n = 0)) := rfl
  have hmc := hB.m
  have hcap := hB.cap
  have hkn := kidsN_le o
  have hkn0 : -1 ≤ kidsN o := by unfold kidsN; repeat' split <;> omega
  obtain ⟨m, hm⟩ : ∃ m, m = ks.length := ⟨_, rfl⟩
  have HM := Lib.hid hm
  rw [← hm] at hmc HC HSH hga hwa ⊢
  have HBA := Lib.hid hba
  obtain ⟨c0, c1, c2, c3, c4, c5⟩ := cells6 hga
  have HWA := Lib.hid hwa
  clear hm hK ih hB h hba hga hwa hsh hlt
  generalize TreM.shape (.mk o n s ks l c) = R at *
  generalize nameB s = N at *
  generalize fitP o n s = ft at *
  generalize s.isEmpty = em at *
  generalize (⟨s.toArray⟩ : ByteArray) = sb at *
  have HK0 : Hid (∀ d os, Calls Tryd.prog 59 #[.int .i64 o] (Go.Sort.grow (redrawn wa d) os) fun e w' => e = .returned (.int .i64 (kidsN o)) ∧ ∃ p : Regrown, w' = Go.Sort.grow (redrawn wa p.d) p.os) := fun d os =>
    Calls.regrown_of ((pkids_any o _).mono fun e w' ⟨h1, h2⟩ => ⟨h1, below_same h2⟩)
  have d0 := cell_regrown c0
  have d3 := cell_regrown c3
  go_enter Tryd.func40, Tryd.ntmps40
  go_upto_region 1 with (fail)
  have hwa := HWA.out
  rw [← hwa]
  clear hwa HWA
  refine wp_region_quiet_below (by kernel_rfl) (by kernel_rfl) ?_
  repeat (quiet_step ((go_at_call 59; exact HK0.out _ _)))
  refine wpQuiet_nil ?_
  intro w1 hw'
  have hb1 : Below wa.heap.size wa w1 := by obtain ⟨⟨dq, osq⟩, hw''⟩ := hw'; rw [hw'']; exact below_regrown wa dq osq
  have HB1 := Lib.hid hb1
  clear hw' d0 d3 HK0 c0 c1 c2 c3 c4 c5
  obtain ⟨c0, c1, c2, c3, c4, c5⟩ := cells6 (HC.out w1 hb1)
  clear hb1
  by_cases hkm : kidsN o = (m : Int)
  case neg =>
    have e1 : (kidsN o != (m : Int)) = true := by rw [bne_iff_ne]; exact hkm
    have HR : Hid (R = false) := by unfold Hid; rw [HSH.out, decide_eq_false hkm]; simp
    generalize kidsN o = kn at *
    go_wp2_with fail
    go_ret
    exact ⟨ret_bool HR.out.symm, HBA.out.trans (HB1.out.mono HBA.out.size)⟩
  have e1 : (kidsN o != (m : Int)) = false := by rw [bne_eq_false_iff_eq]; exact hkm
  have HR : Hid (R = (((decide (o = 3) || em) && ft) && shapeL ks)) := by unfold Hid; rw [HSH.out, decide_eq_true hkm]; simp
  clear hkm HSH
  generalize kidsN o = kn at *
  go_wp2_with fail
  go_loopw [4, 15] (fun _ i wr => ∃ k : Nat, k ≤ m ∧ i = .int .i64 k ∧ Hid (Below wa.heap.size wa wr) ∧ Hid (∀ j x, j < k → ks[j]? = some x → TreM.shape x = true)) (fun _ i _ => m - (intOf i).toNat)
  case atStart => exact ⟨0, Nat.zero_le _, rfl, HB1.out, fun j x hj => absurd hj (by omega)⟩
  case round =>
    clear c0 c1 c2 c3 c4 c5
    obtain ⟨k, hk, rfl, HW, HA⟩ := hrel
    by_cases hlt : k < m
    · have t1 : decide ((k : Int) < (m : Int)) = true := decide_eq_true (by omega)
      have t2 : decide (k < m) = true := decide_eq_true hlt
      obtain ⟨x, hx⟩ := get_ex (ks := ks) (k := k) (by rw [← HM.out]; exact hlt)
      rcases HK.out with hK | ⟨b', p', rfl, hb', hk'⟩
      · exfalso; rw [hK] at hx; simp at hx
      have hb2 : b' < wr.heap.size := Nat.lt_of_lt_of_le hb' HW.out.size
      obtain ⟨vo, vn, vs, va, vm, vk, vl, vc, c0, c1, c2, c3, c4, c5, hv⟩ := kid_val ((hk' k x hx).below HW.out hb')
      have hal := below_alloc wr (.cells #[.int .i64 vo, .int .i64 vn, .string vs, .slice va vm vk, .int .i64 vl, .int .i64 vc] 24)
      have HCx := HI.out x (List.mem_of_getElem? hx) _ _ (hv.below hal)
      have HBW := Lib.hid (HW.out.trans (hal.mono HW.out.size))
      have HX := Lib.hid hx
      clear hx hk' hv hal
      rcases hr : TreM.shape x with _ | _
      · rw [hr] at HCx
        have HCx := Lib.hid HCx
        have HRx := Lib.hid hr
        have HF : Hid (R = false) := by
          unfold Hid
          rw [HR.out]
          have : shapeL ks = false := by
            rw [Bool.eq_false_iff]
            intro e
            have := HSL.out.1 e x (List.mem_of_getElem? HX.out)
            rw [hr] at this
            cases this
          rw [this]; simp
        clear hr
        go_wp2_with (refine HCx.out.mono ?_; rintro e w' ⟨rfl, hB2⟩)
        go_ret
        exact ⟨ret_bool HF.out.symm, HBA.out.trans ((HBW.out.trans (hB2.mono HBW.out.size)).mono HBA.out.size)⟩
      · rw [hr] at HCx
        have HCx := Lib.hid HCx
        have HRx := Lib.hid hr
        clear hr
        go_wp2_with (refine HCx.out.mono ?_; rintro e w' ⟨rfl, hB2⟩)
        go_roundw
        case rel =>
          rw [e1]
          refine ⟨_, _, _, _, _, _, _, _, _, _, ?_, rfl⟩
          refine ⟨k + 1, by omega, by go_num, HBW.out.trans (hB2.mono HBW.out.size), fun j y hj hy => ?_⟩
          by_cases e : j = k
          · subst e
            have := HX.out.symm.trans hy
            injection this with this
            rw [← this]; exact HRx.out
          · exact HA.out j y (by omega) hy
        case measure => simp [intOf]; omega
    · have t1 : decide ((k : Int) < (m : Int)) = false := decide_eq_false (by omega)
      have t2 : decide (k < m) = false := decide_eq_false hlt
      have hall : shapeL ks = true := HSL.out.2 fun y hy => by
        obtain ⟨j, hj⟩ := List.getElem?_of_mem hy
        exact HA.out j y (by
          have := HM.out
          rcases Nat.lt_or_ge j ks.length with h' | h'
          · omega
          · rw [List.getElem?_eq_none h'] at hj; cases hj) hj
      have HR2 : Hid (R = ((decide (o = 3) || em) && ft)) := by unfold Hid; rw [HR.out, hall, Bool.and_true]
      have HEnd : Hid (Below w.heap.size w wr) := HBA.out.trans (HW.out.mono HBA.out.size)
      obtain ⟨c0, c1, c2, c3, c4, c5⟩ := cells6 (HC.out wr HW.out)
      have HPw := Lib.hid (HPN.out wr)
      have e0 : (n == 0) = decide (n = 0) := by rw [Bool.eq_iff_iff]; simp
      have e11 : (n == 1) = decide (n = 1) := by rw [Bool.eq_iff_iff]; simp
      clear hall HR HSL HA HK HI HM HW HPN
      by_cases h3 : o = 3
      · subst h3
        have hft := HFT.out
        rw [if_neg (by decide), if_neg (by decide), if_pos rfl] at hft
        have HR3 : Hid (R = (decide (n = 0) && N)) := by unfold Hid; rw [HR2.out, hft]; simp
        clear hft HFT HR2
        generalize decide (n = 0) = z0 at *
        rcases z0 with _ | _
        · go_wp2_with fail
          go_ret
          exact ⟨ret_bool HR3.out.symm, HEnd.out⟩
        · go_wp2_with (refine HPw.out.mono ?_; rintro e w' ⟨rfl, hB2⟩)
          go_ret
          exact ⟨ret_bool HR3.out.symm, HEnd.out.trans (hB2.mono HEnd.out.size)⟩
      have u3 : (o != 3) = true := by rw [bne_iff_ne]; exact h3
      have u3' : (o == 3) = false := by rw [beq_eq_false_iff_ne]; exact h3
      rcases em with _ | _
      · have hne : (sb.toList != []) = true := by rw [bne, he]; rfl
        have HR3 : Hid (R = false) := by unfold Hid; rw [HR2.out, decide_eq_false h3]; simp
        go_wp2_with fail
        go_ret
        exact ⟨ret_bool HR3.out.symm, HEnd.out⟩
      have hne : (sb.toList != []) = false := by rw [bne, he]; rfl
      have HR3 : Hid (R = ft) := by unfold Hid; rw [HR2.out]; simp
      clear HR2
      by_cases h1 : o = 1
      · subst h1
        have hft := HFT.out
        rw [if_pos rfl] at hft
        have HR4 : Hid (R = (decide (0 ≤ n) && decide (n ≤ 1000000))) := by unfold Hid; rw [HR3.out, hft]
        clear hft HFT HR3
        rcases hz : decide (0 ≤ n) with _ | _
        · have HR5 : Hid (R = false) := by unfold Hid; rw [HR4.out, hz]; rfl
          clear HR4
          go_wp2_with fail
          go_ret
          exact ⟨ret_bool HR5.out.symm, HEnd.out⟩
        · have HR5 : Hid (R = decide (n ≤ 1000000)) := by unfold Hid; rw [HR4.out, hz]; rfl
          clear HR4
          go_wp2_with fail
          go_ret
          exact ⟨ret_bool HR5.out.symm, HEnd.out⟩
      have u1 : (o == 1) = false := by rw [beq_eq_false_iff_ne]; exact h1
      by_cases h2 : o = 2
      · subst h2
        have hft := HFT.out
        rw [if_neg (by decide), if_pos rfl] at hft
        rw [hft] at HR3
        clear hft HFT
        generalize decide (n = 0) = z0 at *
        generalize decide (n = 1) = z1 at *
        rcases z0 with _ | _
        · go_wp2_with fail
          go_ret
          exact ⟨ret_bool HR3.out.symm, HEnd.out⟩
        · go_wp2_with fail
          go_ret
          exact ⟨ret_bool (by rw [HR3.out]; simp), HEnd.out⟩
      have u2 : (o == 2) = false := by rw [beq_eq_false_iff_ne]; exact h2
      by_cases h4 : o = 4
      · subst h4
        have hft := HFT.out
        rw [if_neg (by decide), if_neg (by decide), if_neg (by decide), if_pos rfl] at hft
        rw [hft] at HR3
        clear hft HFT
        go_wp2_with fail
        go_ret
        exact ⟨ret_bool HR3.out.symm, HEnd.out⟩
      have u4 : (o == 4) = false := by rw [beq_eq_false_iff_ne]; exact h4
      have hft := HFT.out
      rw [if_neg h1, if_neg h2, if_neg h3, if_neg h4] at hft
      rw [hft] at HR3
      clear hft HFT
      go_wp2_with fail
      go_ret
      exact ⟨ret_bool (by rw [HR3.out]), HEnd.out⟩
end Go.Proofs.YtmkhfcdjgdofnaaDoor
