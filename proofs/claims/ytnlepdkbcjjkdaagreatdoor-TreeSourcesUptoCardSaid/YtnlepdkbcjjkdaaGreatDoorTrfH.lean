/- The plain answer of layer 14: decl. -/
import Derived.Test.YtnlepdkbcjjkdaaGreatDoorTrfG
import Derived.Test.YtnlepdkbcjjkdaaGreatDoorTevO
import Derived.Test.YtnlepdkbcjjkdaaGreatDoorTevT
namespace Go.Proofs.YtnlepdkbcjjkdaaGreatDoor
open Go.RowKit TreM WrdM

theorem sum_mem {α : Type} (f : α → Nat) : ∀ (xs : List α) (x : α), x ∈ xs → f x ≤ (xs.map f).sum
  | [], x, h => by cases h
  | y :: ys, x, h => by
    rw [List.map_cons, List.sum_cons]
    rcases List.mem_cons.1 h with rfl | h
    · omega
    · have := sum_mem f ys x h; omega

set_option maxHeartbeats 1600000 in
set_option maxRecDepth 100000 in
theorem pdecl_any (d : Dcl) (cs : List Value) (w : World) (h : DclC w d cs) (hw : wtD d ≤ 1048576) : Calls Tryz.prog 26 #[.agg cs.toArray] w fun x w' => x = .returned (lineV (declB d) (declT d)) ∧ Below w.heap.size w w' := by
  obtain ⟨v, l, c, rfl, hn, ht, hlo, hhi, A, cap, rfl, hmc, hcap, hA⟩ := h
  obtain ⟨nm, ty, lo, hi, bs⟩ := d
  dsimp only at hn ht hlo hhi hmc hA
  unfold wtD at hw
  dsimp only at hw
  have hT : declT ⟨nm, ty, lo, hi, bs⟩ = [118, 97, 114, 32] ++ nm ++ [32, 58, 32] ++ (if ty.isEmpty then Lib.itoa lo ++ [46, 46] ++ Lib.itoa hi else ty) ++ bs.flatMap (fun x => [32, 61, 32] ++ text x) ++ [59, 10] := rfl
  have hE : declB ⟨nm, ty, lo, hi, bs⟩ = ((if ty.isEmpty then smallB lo && smallB hi else decide (lo = 0) && (decide (hi = 0) && (ty == boolT || nameB ty))) && (decide (bs.length ≤ 1) && (nameB nm && bs.all writB))) := rfl
  obtain ⟨F, hF⟩ : ∃ F : Ex → List UInt8, F = fun x => [32, 61, 32] ++ text x := ⟨_, rfl⟩
  have HF0 : Hid (∀ x, F x = [32, 61, 32] ++ text x) := fun x => by rw [hF]
  rw [hT, hE, ← hF]
  clear hF
  dsimp only
  obtain ⟨wa, hwa⟩ : ∃ wa, wa = w.alloc (.cells (cD ⟨nm.toArray⟩ ⟨ty.toArray⟩ lo hi (.slice A bs.length cap) l c).toArray 52) := ⟨_, rfl⟩
  have hba : Below w.heap.size w wa := by rw [hwa]; exact below_alloc w _
  have hga : wa.heap[w.heap.size]? = some (.cells (cD ⟨nm.toArray⟩ ⟨ty.toArray⟩ lo hi (.slice A bs.length cap) l c).toArray 52) := by rw [hwa]; exact blk_new w _
  have hlt : w.heap.size < wa.heap.size := by rw [hwa]; simp
  have HN : Hid (∀ W, Calls Tryz.prog 27 #[.string ⟨nm.toArray⟩] W fun e w' => e = .returned (.bool (nameB nm)) ∧ Below W.heap.size W w') := fun W => pname_any nm W hn
  have HNT : Hid (∀ W, Calls Tryz.prog 27 #[.string ⟨ty.toArray⟩] W fun e w' => e = .returned (.bool (nameB ty)) ∧ Below W.heap.size W w') := fun W => pname_any ty W ht
  have HSL : Hid (∀ W, Calls Tryz.prog 58 #[.int .i64 lo] W fun e w' => e = .returned (.bool (smallB lo)) ∧ Below W.heap.size W w') := fun W => psmall_any lo W
  have HSH : Hid (∀ W, Calls Tryz.prog 58 #[.int .i64 hi] W fun e w' => e = .returned (.bool (smallB hi)) ∧ Below W.heap.size W w') := fun W => psmall_any hi W
  have HDL : Hid (smallB lo = true → ∀ W dq os, Calls Tryz.prog 59 #[.int .i64 lo] (Go.Sort.grow (redrawn W dq) os) fun e w' => e = .returned (.string ⟨(Lib.itoa lo).toArray⟩) ∧ ∃ p : Regrown, w' = Go.Sort.grow (redrawn W p.d) p.os) := fun hs W dq os => by
    unfold smallB at hs
    simp only [Bool.and_eq_true, decide_eq_true_eq] at hs
    exact Calls.regrown_of ((dec_any lo _ (by omega) (by omega)).mono fun e w' ⟨h1, q, h2⟩ => ⟨h1, by rw [h2]; exact ⟨rfl, rfl, rfl, Nat.le_refl _, fun _ _ => rfl⟩⟩)
  have HDH : Hid (smallB hi = true → ∀ W dq os, Calls Tryz.prog 59 #[.int .i64 hi] (Go.Sort.grow (redrawn W dq) os) fun e w' => e = .returned (.string ⟨(Lib.itoa hi).toArray⟩) ∧ ∃ p : Regrown, w' = Go.Sort.grow (redrawn W p.d) p.os) := fun hs W dq os => by
    unfold smallB at hs
    simp only [Bool.and_eq_true, decide_eq_true_eq] at hs
    exact Calls.regrown_of ((dec_any hi _ (by omega) (by omega)).mono fun e w' ⟨h1, q, h2⟩ => ⟨h1, by rw [h2]; exact ⟨rfl, rfl, rfl, Nat.le_refl _, fun _ _ => rfl⟩⟩)
  have HC : Hid (∀ W, Below wa.heap.size wa W → W.heap[w.heap.size]? = some (.cells (cD ⟨nm.toArray⟩ ⟨ty.toArray⟩ lo hi (.slice A bs.length cap) l c).toArray 52)) := fun W hW => (hW.block _ hlt).trans hga
  have HK : Hid (KdsAt wa A bs) := sl_kds (hA.below hba fun x _ cs h => ExC.below hba x cs h)
  have hsum : ∀ x ∈ bs, wt x ≤ (bs.map wt).sum := fun x hx => sum_mem wt bs x hx
  have HWX : Hid (∀ x ∈ bs, size x ≤ 4611686018427387904 ∧ (writB x = true → (text x).length ≤ 140737488355328)) := fun x hx => by
    have h1 := hsum x hx
    have h2 := size_wt x
    exact ⟨by omega, fun hw => writ_len hw (by omega)⟩
  have hil := Lib.itoa_length_le lo hlo.1 hlo.2
  have hih := Lib.itoa_length_le hi hhi.1 hhi.2
  obtain ⟨P, hP⟩ : ∃ P, P = [118, 97, 114, 32] ++ nm := ⟨_, rfl⟩
  obtain ⟨P2, hP2⟩ : ∃ P2, P2 = P ++ [32, 58, 32] := ⟨_, rfl⟩
  obtain ⟨mid, hmid⟩ : ∃ mid, mid = (if ty.isEmpty then Lib.itoa lo ++ [46, 46] ++ Lib.itoa hi else ty) := ⟨_, rfl⟩
  obtain ⟨P3, hP3⟩ : ∃ P3, P3 = P2 ++ mid := ⟨_, rfl⟩
  have hlP : P.length = nm.length + 4 := by rw [hP]; simp
  have hlP2 : P2.length = nm.length + 7 := by rw [hP2]; simp; omega
  have hlm : mid.length ≤ ty.length + 44 := by
    rw [hmid]
    split
    · simp only [List.length_append, List.length_cons, List.length_nil]; omega
    · omega
  have hlP3 : P3.length = P2.length + mid.length := by rw [hP3]; simp
  have ha1 := fun W => add_lists [118, 97, 114, 32] nm P #[118, 97, 114, 32] nm.toArray rfl rfl hP (by simp; omega) W
  have ha2 := fun W => add_lists P [32, 58, 32] P2 P.toArray #[32, 58, 32] rfl rfl hP2 (by simp; omega) W
  have hPP : [118, 97, 114, 32] ++ nm ++ [32, 58, 32] ++ (if ty.isEmpty then Lib.itoa lo ++ [46, 46] ++ Lib.itoa hi else ty) = P3 := by rw [hP3, hP2, hP, hmid]
  rw [hPP]
  have hb1 := fun W => add_lists P2 ty (P2 ++ ty) P2.toArray ty.toArray rfl rfl rfl (by omega) W
  have HMT : Hid (ty.isEmpty = false → P2 ++ ty = P3) := fun e => by rw [hP3, hmid, if_neg (by rw [e]; decide)]
  obtain ⟨D1, hD1⟩ : ∃ D1, D1 = Lib.itoa lo ++ [46, 46] := ⟨_, rfl⟩
  obtain ⟨D2, hD2⟩ : ∃ D2, D2 = D1 ++ Lib.itoa hi := ⟨_, rfl⟩
  have hlD1 : D1.length = (Lib.itoa lo).length + 2 := by rw [hD1]; simp
  have hlD2 : D2.length = D1.length + (Lib.itoa hi).length := by rw [hD2]; simp
  have hd1 := fun W => add_lists (Lib.itoa lo) [46, 46] D1 (Lib.itoa lo).toArray #[46, 46] rfl rfl hD1 (by simp; omega) W
  have hd2 := fun W => add_lists D1 (Lib.itoa hi) D2 D1.toArray (Lib.itoa hi).toArray rfl rfl hD2 (by omega) W
  have hd3 := fun W => add_lists P2 D2 (P2 ++ D2) P2.toArray D2.toArray rfl rfl rfl (by omega) W
  have HMR : Hid (ty.isEmpty = true → P2 ++ D2 = P3) := fun e => by rw [hP3, hmid, if_pos e, hD2, hD1]
  have h1 := empty_list ty
  have h2 := bool_list ty
  have h2' : ((⟨ty.toArray⟩ : ByteArray).toList != [98, 111, 111, 108]) = !(ty == boolT) := by rw [bne, h2]
  have HBA := Lib.hid hba
  have HWA := Lib.hid hwa
  have HGE : Hid (∀ k, k < bs.length → ∃ x, bs[k]? = some x) := fun k hk => get_el hk
  have HJ : Hid (∀ k x, bs[k]? = some x → (bs.take (k + 1)).flatMap F = (bs.take k).flatMap F ++ F x) := fun k x hx => flatMap_take _ _ k x hx
  have HJL : Hid (bs.all writB = true → ∀ k, k ≤ 1 → ((bs.take k).flatMap F).length ≤ 140737488355331) := fun hall k hk => by
    rcases bs with _ | ⟨x, r⟩
    · simp
    · have h1 := (HWX.out x (by simp)).2 (List.all_eq_true.1 hall x (by simp))
      rcases Nat.lt_or_ge k 1 with h | h
      · have : k = 0 := by omega
        subst this
        simp
      · have : k = 1 := by omega
        subst this
        have h3 : ((x :: r).take 1).flatMap F = F x := by simp
        rw [h3, HF0.out x, List.length_append]
        simp only [List.length_cons, List.length_nil]
        omega
  have hP3l : P3.length ≤ 4611686018427387904 := by omega
  obtain ⟨c0, c1, c2, c3, c4, c5, c6⟩ := cells7 hga
  clear hA hE hT hba hga hwa hlt hP hP2 hP3 hmid hPP hlP hlP2 hlm hlP3 hD1 hD2 hlD1 hlD2 hil hih hn ht hlo hhi hsum hw
  obtain ⟨m, hm⟩ : ∃ m, m = bs.length := ⟨_, rfl⟩
  have HM := Lib.hid hm
  rw [← hm] at hmc HC HGE HWA c4 ⊢
  clear hm
  generalize Lib.itoa lo = Lo at *
  generalize Lib.itoa hi = Hi at *
  generalize smallB lo = s1 at *
  generalize smallB hi = s2 at *
  generalize nameB ty = NT at *
  generalize nameB nm = N at *
  generalize ty.isEmpty = em at *
  generalize (ty == boolT) = bt at *
  generalize nm.toArray = nb at *
  generalize ty.toArray = tb at *
  obtain ⟨T, hTT⟩ : ∃ T : Bool, T = (if em = true then s1 && s2 else decide (lo = 0) && (decide (hi = 0) && (bt || NT))) := ⟨_, rfl⟩
  rw [← hTT]
  have HTT := Lib.hid hTT
  clear hTT
  go_enter Tryz.func26, Tryz.ntmps26
  go_upto_region 1 with (fail)
  have hwa := HWA.out
  unfold cD at hwa
  rw [← hwa]
  clear hwa HWA
  go_upto_if 13 with (fail)
  go_cut [4] (fun v wx => v = .string ⟨P3.toArray⟩ ∧ T = true ∧ Hid (Below wa.heap.size wa wx))
  case first =>
    rcases em with _ | _
    · have HE : Hid (T = (decide (lo = 0) && (decide (hi = 0) && (bt || NT)))) := by unfold Hid; rw [HTT.out, if_neg (by decide)]
      have HMT2 := Lib.hid (HMT.out rfl)
      rw [show P2 ++ ty = P3 from HMT2.out] at hb1
      clear HTT HMT HMR HMT2 HSL HSH HDL HDH hd1 hd2 hd3 ha1 ha2 HN
      have e1 : (lo != 0) = !decide (lo = 0) := by rw [bne]; congr 1
      have e2 : (hi != 0) = !decide (hi = 0) := by rw [bne]; congr 1
      generalize decide (lo = 0) = z1 at *
      generalize decide (hi = 0) = z2 at *
      rcases z1 with _ | _
      · go_wp2_with fail
        go_ret2
        exact ⟨by rw [HE.out]; rfl, HBA.out⟩
      rcases z2 with _ | _
      · go_wp2_with fail
        go_ret2
        exact ⟨by rw [HE.out]; rfl, HBA.out⟩
      rcases bt with _ | _
      · go_wp2_with fail
        refine (HNT.out _).mono ?_
        rintro x w1 ⟨rfl, hB1⟩
        have HB1 := Lib.hid hB1
        obtain ⟨c0, c1, c2, c3, c4, c5, c6⟩ := cells7 (HC.out w1 hB1)
        clear hB1 HNT
        rcases NT with _ | _
        · go_wp2_with fail
          go_ret2
          exact ⟨by rw [HE.out]; rfl, HBA.out.trans (HB1.out.mono HBA.out.size)⟩
        · go_wp2_with fail
          go_meet
          exact ⟨rfl, by rw [HE.out]; rfl, HB1.out⟩
      · go_wp2_with fail
        go_meet
        exact ⟨rfl, by rw [HE.out]; rfl, Below.refl _ _⟩
    · have HE : Hid (T = (s1 && s2)) := by unfold Hid; rw [HTT.out, if_pos rfl]
      have HMR2 := Lib.hid (HMR.out rfl)
      rw [show P2 ++ D2 = P3 from HMR2.out] at hd3
      clear HTT HMT HMR HMR2 ha1 ha2 HN hb1 HNT
      go_wp2_with fail
      refine (HSL.out _).mono ?_
      rintro x w1 ⟨rfl, hB1⟩
      have HB1 := Lib.hid hB1
      obtain ⟨c0, c1, c2, c3, c4, c5, c6⟩ := cells7 (HC.out w1 hB1)
      clear hB1 HSL
      rcases s1 with _ | _
      · go_wp2_with fail
        go_ret2
        exact ⟨by rw [HE.out]; rfl, HBA.out.trans (HB1.out.mono HBA.out.size)⟩
      go_wp2_with fail
      refine (HSH.out _).mono ?_
      rintro x w2 ⟨rfl, hB2⟩
      have HB2 := Lib.hid (HB1.out.trans (hB2.mono HB1.out.size))
      clear c0 c1 c2 c3 c4 c5 c6
      obtain ⟨c0, c1, c2, c3, c4, c5, c6⟩ := cells7 (HC.out w2 HB2.out)
      clear hB2 HSH
      rcases s2 with _ | _
      · go_wp2_with fail
        go_ret2
        exact ⟨by rw [HE.out]; rfl, HBA.out.trans (HB2.out.mono HBA.out.size)⟩
      have HDL2 := Lib.hid (HDL.out (by trivial) w2)
      have HDH2 := Lib.hid (HDH.out (by trivial) w2)
      clear HDL HDH
      have c2' := cell_regrown c2
      have c3' := cell_regrown c3
      go_upto_region 5 with (fail)
      refine wp_region_quiet_below (by kernel_rfl) (by kernel_rfl) (WQ.out ?_)
      refine quiet_take (by kernel_rfl) (fun K hK => ?_); go_simp; refine hK _ ?_; clear hK K
      refine quiet_take (by kernel_rfl) (fun K hK => ?_); go_simp; refine hK _ ?_; clear hK K
      refine quiet_take (by kernel_rfl) (fun K hK => ?_); go_simp; refine hK _ ?_; clear hK K
      refine quiet_take (by kernel_rfl) (fun K hK => ?_); go_simp; apply Exists.intro; refine ⟨fun _ => ?_, hK _ ?_⟩; (go_at_call 59; exact HDL2.out _ _); clear hK K
      refine quiet_take (by kernel_rfl) (fun K hK => ?_); go_simp; refine hK _ ?_; clear hK K
      refine quiet_take (by kernel_rfl) (fun K hK => ?_); go_simp; refine hK _ ?_; clear hK K
      refine quiet_take (by kernel_rfl) (fun K hK => ?_); go_simp; refine hK _ ?_; clear hK K
      refine quiet_take (by kernel_rfl) (fun K hK => ?_); go_simp; apply Exists.intro; refine ⟨fun _ => ?_, hK _ ?_⟩; (go_at_call 59; exact HDH2.out _ _); clear hK K
      refine quiet_take (by kernel_rfl) (fun K hK => ?_); go_simp; refine hK _ ?_; clear hK K
      refine quiet_take (by kernel_rfl) (fun K hK => ?_); go_simp; refine hK _ ?_; clear hK K
      refine quiet_take (by kernel_rfl) (fun K hK => ?_); go_simp; refine hK _ ?_; clear hK K
      refine ⟨wpQuiet_nil ?_⟩
      intro w7 hw'
      have hbw7 : Below w2.heap.size w2 w7 := by obtain ⟨⟨dq, osq⟩, hw''⟩ := hw'; rw [hw'']; exact below_regrown w2 dq osq
      clear hw'
      go_wp2_with fail
      go_meet
      exact ⟨rfl, by rw [HE.out]; rfl, HB2.out.trans (hbw7.mono HB2.out.size)⟩
  case rest =>
    obtain ⟨rfl, rfl, HW0⟩ := hcut
    clear c0 c1 c2 c3 c4 c5 c6 HTT HMT HMR hb1 hd1 hd2 hd3 ha1 ha2 HNT HSL HSH HDL HDH h1 h2 h2'
    obtain ⟨c0, c1, c2, c3, c4, c5, c6⟩ := cells7 (HC.out wc HW0.out)
    by_cases hm1 : 1 < m
    · have t1 : decide ((1 : Int) < (m : Int)) = true := decide_eq_true (by omega)
      have t1' : decide (1 < m) = true := decide_eq_true hm1
      have H3 : Hid (decide (m ≤ 1) = false) := decide_eq_false (by omega)
      go_wp2_with fail
      go_ret2
      exact ⟨by rw [H3.out]; rfl, HBA.out.trans (HW0.out.mono HBA.out.size)⟩
    have t1 : decide ((1 : Int) < (m : Int)) = false := decide_eq_false (by omega)
    have t1' : decide (1 < m) = false := decide_eq_false hm1
    have H3 : Hid (decide (m ≤ 1) = true) := decide_eq_true (by omega)
    go_wp2_with fail
    refine (HN.out _).mono ?_
    rintro x w1 ⟨rfl, hB1⟩
    have HB1 := Lib.hid (HW0.out.trans (hB1.mono HW0.out.size))
    clear c0 c1 c2 c3 c4 c5 c6
    obtain ⟨c0, c1, c2, c3, c4, c5, c6⟩ := cells7 (HC.out w1 HB1.out)
    clear hB1 HN
    rcases N with _ | _
    · go_wp2_with fail
      go_ret2
      exact ⟨by rw [H3.out]; rfl, HBA.out.trans (HB1.out.mono HBA.out.size)⟩
    go_wp2_with fail
    go_loopw [4, 70] (fun out i wr => ∃ k : Nat, k ≤ m ∧ out = .string ⟨(P3 ++ (bs.take k).flatMap F).toArray⟩ ∧ i = .int .i64 k ∧ Hid (Below wa.heap.size wa wr) ∧ Hid (∀ j x, j < k → bs[j]? = some x → writB x = true)) (fun _ i _ => m - (intOf i).toNat)
    case atStart => exact ⟨0, Nat.zero_le _, by simp, rfl, HB1.out, fun j x hj => absurd hj (by omega)⟩
    case round =>
      clear c0 c1 c2 c3 c4 c5 c6
      obtain ⟨k, hk, rfl, rfl, HW, HA⟩ := hrel
      by_cases hlt : k < m
      · have HK0 : Hid (k = 0) := by unfold Hid; omega
        obtain ⟨x, hx⟩ := HGE.out k hlt
        rcases HK.out with hK | ⟨b', p', rfl, hb', hk'⟩
        · exfalso; rw [hK] at hx; simp at hx
        obtain ⟨vo, vn, vs, va, vm, vk, vl, vc, c0, c1, c2, c3, c4, c5, hv⟩ := kid_val ((hk' k x hx).below HW.out hb')
        obtain ⟨wx, hwx⟩ : ∃ wx, wx = wr.alloc (.cells #[.int .i64 vo, .int .i64 vn, .string vs, .slice va vm vk, .int .i64 vl, .int .i64 vc] 40) := ⟨_, rfl⟩
        have hal : Below wr.heap.size wr wx := by rw [hwx]; exact below_alloc wr _
        have hgx : wx.heap[wr.heap.size]? = some (.cells #[.int .i64 vo, .int .i64 vn, .string vs, .slice va vm vk, .int .i64 vl, .int .i64 vc] 40) := by rw [hwx]; exact blk_new wr _
        have hltx : wr.heap.size < wx.heap.size := by rw [hwx]; simp
        have HCX : Hid (∀ W, Below wx.heap.size wx W → W.heap[wr.heap.size]? = some (.cells #[.int .i64 vo, .int .i64 vn, .string vs, .slice va vm vk, .int .i64 vl, .int .i64 vc] 40)) := fun W hW => (hW.block _ hltx).trans hgx
        have hmem := List.mem_of_getElem? hx
        have HWR := Lib.hid (pwritable_any x _ wx (hv.below hal) (HWX.out x hmem).1)
        have HTX : Hid (writB x = true → ∀ W, Below wx.heap.size wx W → Calls Tryz.prog 61 #[.agg #[.int .i64 vo, .int .i64 vn, .string vs, .slice va vm vk, .int .i64 vl, .int .i64 vc]] W fun e w' => e = .returned (.string ⟨(text x).toArray⟩) ∧ Below W.heap.size W w') := fun hwr W hW =>
          ptext_any x (writ_shape hwr) (by have := (HWX.out x hmem).2 hwr; omega) _ W (hv.below (hal.trans (hW.mono hal.size)))
        have hj := HJ.out k x hx
        have HBW := Lib.hid (HW.out.trans (hal.mono HW.out.size))
        have HX := Lib.hid hx
        have HXL : Hid (writB x = true → (text x).length ≤ 140737488355328) := (HWX.out x hmem).2
        have t2 : decide ((k : Int) < (m : Int)) = true := decide_eq_true (by omega)
        have t3 : decide (k < m) = true := decide_eq_true hlt
        have hq0 : (P3 ++ (bs.take k).flatMap F).length = P3.length := by rw [HK0.out]; simp
        obtain ⟨Q, hQ⟩ : ∃ Q, Q = P3 ++ (bs.take k).flatMap F := ⟨_, rfl⟩
        rw [← hQ] at hq0 ⊢
        have HQ := Lib.hid hQ
        have HJ1 := Lib.hid hj
        have HWXE := Lib.hid hwx
        obtain ⟨s0, s1, s2, s3, s4, s5⟩ := cells6 hgx
        clear hQ hj hmem hx hk' hv hal hgx hltx hwx HWX HC
        rcases hr : writB x with _ | _
        · rw [hr] at HWR
          have HWR := Lib.hid HWR.out
          have HF : Hid (bs.all writB = false) := by
            unfold Hid
            rw [Bool.eq_false_iff]
            intro e
            have := List.all_eq_true.1 e x (List.mem_of_getElem? HX.out)
            rw [hr] at this
            cases this
          clear hr HTX HXL
          go_upto_region 14 with (fail)
          have hwx := HWXE.out
          rw [← hwx]
          clear hwx HWXE
          go_wp2_with (refine HWR.out.mono ?_; rintro e w' ⟨rfl, hB2⟩)
          go_ret2
          exact ⟨by rw [HF.out, Bool.and_false, Bool.and_false, Bool.and_false]; rfl, HBA.out.trans ((HBW.out.trans (hB2.mono HBW.out.size)).mono HBA.out.size)⟩
        · rw [hr] at HWR
          have HWR := Lib.hid HWR.out
          have HTX := Lib.hid (HTX.out hr)
          have hxl := HXL.out hr
          have HRx := Lib.hid hr
          clear hr HXL
          obtain ⟨Q1, hQ1⟩ : ∃ Q1, Q1 = [32, 61, 32] ++ text x := ⟨_, rfl⟩
          obtain ⟨Q2, hQ2⟩ : ∃ Q2, Q2 = Q ++ Q1 := ⟨_, rfl⟩
          have hq1 : Q1.length = (text x).length + 3 := by rw [hQ1, List.length_append]; simp only [List.length_cons, List.length_nil]; omega
          have hb1 := fun W => add_lists [32, 61, 32] (text x) Q1 #[32, 61, 32] (text x).toArray rfl rfl hQ1 (by simp; omega) W
          have hb2 := fun W => add_lists Q Q1 Q2 Q.toArray Q1.toArray rfl rfl hQ2 (by omega) W
          have HE2 : Hid (Q2 = P3 ++ (bs.take (k + 1)).flatMap F) := by unfold Hid; rw [HJ1.out, hQ2, hQ1, HQ.out, HF0.out x]; simp
          clear hQ1 hQ2 hq1 hq0 HJ1 HQ HF0 HJ HJL
          generalize text x = tx at *
          go_upto_region 14 with (fail)
          have hwx := HWXE.out
          rw [← hwx]
          clear hwx HWXE
          go_wp2_with fail
          refine HWR.out.mono ?_
          rintro e w2 ⟨rfl, hB2⟩
          have HTW := Lib.hid (HTX.out w2 hB2)
          have HB2 := Lib.hid hB2
          clear c0 c1 c2 c3 c4 c5 s0 s1 s2 s3 s4 s5
          obtain ⟨c0, c1, c2, c3, c4, c5⟩ := cells6 (HCX.out w2 hB2)
          clear hB2 HTX HWR
          go_wp2_with (refine HTW.out.mono ?_; rintro e w3 ⟨rfl, hB3⟩)
          go_roundw
          case rel =>
            refine ⟨k + 1, by omega, by rw [← HE2.out], by go_num, HBW.out.trans ((HB2.out.trans (hB3.mono HB2.out.size)).mono HBW.out.size), fun j y hj hy => ?_⟩
            have e : j = k := by have := HK0.out; omega
            subst e
            have := HX.out.symm.trans hy
            injection this with this
            rw [← this]; exact HRx.out
          case measure => simp [intOf]; omega
      · have t2 : decide ((k : Int) < (m : Int)) = false := decide_eq_false (by omega)
        have t3 : decide (k < m) = false := decide_eq_false hlt
        have hall : bs.all writB = true := List.all_eq_true.2 fun y hy => by
          obtain ⟨j, hj⟩ := List.getElem?_of_mem hy
          exact HA.out j y (by
            have := HM.out
            rcases Nat.lt_or_ge j bs.length with h' | h'
            · omega
            · rw [List.getElem?_eq_none h'] at hj; cases hj) hj
        have hkv : bs.take k = bs := List.take_of_length_le (by have := HM.out; omega)
        have hjl := HJL.out hall k (by omega)
        rw [hkv] at hjl ⊢
        obtain ⟨Q, hQ⟩ : ∃ Q, Q = P3 ++ bs.flatMap F := ⟨_, rfl⟩
        obtain ⟨Q2, hQ2⟩ : ∃ Q2, Q2 = Q ++ [59, 10] := ⟨_, rfl⟩
        have hq : Q.length = P3.length + (bs.flatMap F).length := by rw [hQ]; simp
        have hb1 := fun W => add_lists Q [59, 10] Q2 Q.toArray #[59, 10] rfl rfl hQ2 (by simp; omega) W
        have HE2 : Hid (P3 ++ bs.flatMap F ++ [59, 10] = Q2) := by unfold Hid; rw [hQ2, hQ]
        have HAll := Lib.hid hall
        rw [← hQ]
        clear hall hkv hjl hQ hQ2 hq HA HJ HJL HC
        go_wp2_with fail
        go_ret2
        exact ⟨by rw [HE2.out, HAll.out, H3.out]; rfl, HBA.out.trans (HW.out.mono HBA.out.size)⟩
end Go.Proofs.YtnlepdkbcjjkdaaGreatDoor
