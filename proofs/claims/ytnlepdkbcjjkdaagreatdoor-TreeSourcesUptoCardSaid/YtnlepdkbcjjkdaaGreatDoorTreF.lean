/- Package tree: Same. -/
import Derived.Test.YtnlepdkbcjjkdaaGreatDoorTreE
namespace Go.Proofs.YtnlepdkbcjjkdaaGreatDoor
open Go.RowKit TreM WrdM

theorem sameL_len : ∀ (ks ys : List Ex), sameL ks ys = true → ks.length = ys.length
  | [], [], _ => rfl
  | [], _ :: _, h => by simp [sameL] at h
  | _ :: _, [], h => by simp [sameL] at h
  | k :: ks, y :: ys, h => by
    simp only [sameL, Bool.and_eq_true] at h
    simp [sameL_len ks ys h.2]
theorem sameL_iff : ∀ (ks ys : List Ex), ks.length = ys.length → (sameL ks ys = true ↔ ∀ (j : Nat) (x y : Ex), ks[j]? = some x → ys[j]? = some y → same x y = true)
  | [], [], _ => by simp [sameL]
  | [], _ :: _, h => by simp at h
  | _ :: _, [], h => by simp at h
  | k :: ks, y :: ys, h => by
    have ih := sameL_iff ks ys (by simpa using h)
    simp only [sameL, Bool.and_eq_true]
    constructor
    · rintro ⟨a, b⟩ j x z hx hz
      cases j with
      | zero =>
        simp at hx hz
        rw [← hx, ← hz]; exact a
      | succ j => exact ih.1 b j x z (by simpa using hx) (by simpa using hz)
    · intro hh
      exact ⟨hh 0 k y rfl rfl, ih.2 fun j x z hx hz => hh (j + 1) x z (by simpa using hx) (by simpa using hz)⟩

set_option maxHeartbeats 1600000 in
theorem equalE_any (f : Nat) (lb : Array Value) (eg : ∀ args w, (callFunc f args).run Tryz.prog w = .ok (.enter f args) w) (ks ys : List Ex) (A B : Option Addr) (cap dap : Nat) (w : World) (hK : KdsAt w A ks) (hmc : ks.length ≤ cap) (hcap : cap ≤ 9223372036854775807) (hY : KdsAt w B ys) (_hyc : ys.length ≤ dap) (_hdap : dap ≤ 9223372036854775807)
    (hp : ∀ k ∈ ks, ∀ y v u W, Below w.heap.size w W → ExV W k v → ExV W y u → Calls Tryz.prog f (#[v, u] ++ lb) W fun e w' => e = .returned (.bool (same k y)) ∧ Below W.heap.size W w') :
    Calls Tryz.prog 66 #[.slice A ks.length cap, .slice B ys.length dap, .func (.func f) #[] lb] w fun e w' => e = .returned (.bool (sameL ks ys)) ∧ Below w.heap.size w w' := by
  by_cases hl : ks.length = ys.length
  case neg =>
    have hE : sameL ks ys = false := by rw [Bool.eq_false_iff]; intro e; exact hl (sameL_len ks ys e)
    have t1 : ((ks.length : Int) != (ys.length : Int)) = true := by rw [bne_iff_ne]; omega
    have t2 : (ks.length != ys.length) = true := by rw [bne_iff_ne]; omega
    rw [hE]
    clear hE hK hY hp hl
    generalize ks.length = m at *
    generalize ys.length = m2 at *
    go_enter Tryz.func66, Tryz.ntmps66
    go_wp2
    go_ret
    exact ⟨rfl, Below.refl _ _⟩
  rw [← hl] at _hyc ⊢
  obtain ⟨m, hm⟩ : ∃ m, m = ks.length := ⟨_, rfl⟩
  have HM := Lib.hid hm
  have HL := Lib.hid hl
  have HK := Lib.hid hK
  have HY := Lib.hid hY
  have HP := Lib.hid hp
  have HS := Lib.hid (sameL_iff ks ys hl)
  rw [← hm] at hmc _hyc ⊢
  clear hm hK hp hl hY
  generalize sameL ks ys = R at *
  have t0 : ((m : Int) != (m : Int)) = false := by rw [bne_eq_false_iff_eq]
  go_enter Tryz.func66, Tryz.ntmps66
  go_wp2
  go_loopw [7, 8, 9, 17] (fun _ _ _ i wr => ∃ k : Nat, k ≤ m ∧ i = .int .i64 k ∧ Hid (Below w.heap.size w wr) ∧ Hid (∀ j x y, j < k → ks[j]? = some x → ys[j]? = some y → same x y = true)) (fun _ _ _ i _ => m - (intOf i).toNat)
  case atStart => exact ⟨0, Nat.zero_le _, rfl, Below.refl _ _, fun j x y hj => absurd hj (by omega)⟩
  case round =>
    obtain ⟨k, hk, rfl, HW, HA⟩ := hrel
    by_cases hlt : k < m
    · have t1 : decide ((k : Int) < (m : Int)) = true := decide_eq_true (by omega)
      have t2 : decide (k < m) = true := decide_eq_true hlt
      obtain ⟨x, hx⟩ := get_ex (ks := ks) (k := k) (by rw [← HM.out]; exact hlt)
      obtain ⟨y, hy⟩ := get_ex (ks := ys) (k := k) (by rw [← HL.out, ← HM.out]; exact hlt)
      rcases HK.out with hK | ⟨b', p', rfl, hb', hk'⟩
      · exfalso; rw [hK] at hx; simp at hx
      rcases HY.out with hK | ⟨b2, p2, rfl, hb2, hk2⟩
      · exfalso; rw [hK] at hy; simp at hy
      have hb3 : b' < wr.heap.size := Nat.lt_of_lt_of_le hb' HW.out.size
      have hb4 : b2 < wr.heap.size := Nat.lt_of_lt_of_le hb2 HW.out.size
      obtain ⟨vo, vn, vs, va, vm, vk, vl, vc, c0, c1, c2, c3, c4, c5, hv⟩ := kid_val ((hk' k x hx).below HW.out hb')
      obtain ⟨uo, un, us, ua, um, uk, ul, uc, d0, d1, d2, d3, d4, d5, hu⟩ := kid_val ((hk2 k y hy).below HW.out hb2)
      have HC : Hid (∀ W, Below wr.heap.size wr W → Calls Tryz.prog f (#[.agg #[.int .i64 vo, .int .i64 vn, .string vs, .slice va vm vk, .int .i64 vl, .int .i64 vc], .agg #[.int .i64 uo, .int .i64 un, .string us, .slice ua um uk, .int .i64 ul, .int .i64 uc]] ++ lb) W fun e w' => e = .returned (.bool (same x y)) ∧ Below W.heap.size W w') := fun W hW =>
        HP.out x (List.mem_of_getElem? hx) y _ _ W (HW.out.trans (hW.mono HW.out.size)) (hv.below hW) (hu.below hW)
      have HBA : Hid (Below wr.heap.size wr ((wr.alloc (.cells #[.int .i64 vo, .int .i64 vn, .string vs, .slice va vm vk, .int .i64 vl, .int .i64 vc] 40)).alloc (.cells #[.int .i64 uo, .int .i64 un, .string us, .slice ua um uk, .int .i64 ul, .int .i64 uc] 40))) := (below_alloc wr _).alloc (by simp) _
      have HC2 := Lib.hid (HC.out _ HBA.out)
      have HX := Lib.hid hx
      have HYY := Lib.hid hy
      clear hx hk' hv hy hk2 hu HC
      rcases hr : same x y with _ | _
      · rw [hr] at HC2
        have HRx := Lib.hid hr
        clear hr
        go_wp2_with (go_at_fn f; refine HC2.out.mono ?_; rintro e w' ⟨rfl, hB2⟩)
        go_ret
        refine ⟨ret_bool ?_, HW.out.trans ((HBA.out.trans (hB2.mono HBA.out.size)).mono HW.out.size)⟩
        rw [eq_comm, Bool.eq_false_iff]
        intro e
        have := HS.out.1 e k x y HX.out HYY.out
        rw [HRx.out] at this
        cases this
      · rw [hr] at HC2
        have HRx := Lib.hid hr
        clear hr
        go_wp2_with (go_at_fn f; refine HC2.out.mono ?_; rintro e w' ⟨rfl, hB2⟩)
        go_roundw
        case rel =>
          refine ⟨k + 1, by omega, by go_num, HW.out.trans ((HBA.out.trans (hB2.mono HBA.out.size)).mono HW.out.size), fun j x' y' hj hx' hy' => ?_⟩
          by_cases e : j = k
          · subst e
            have e1 := HX.out.symm.trans hx'
            injection e1 with e1
            have e2 := HYY.out.symm.trans hy'
            injection e2 with e2
            rw [← e1, ← e2]; exact HRx.out
          · exact HA.out j x' y' (by omega) hx' hy'
        case measure => simp [intOf]; omega
    · have t1 : decide ((k : Int) < (m : Int)) = false := decide_eq_false (by omega)
      have t2 : decide (k < m) = false := decide_eq_false hlt
      go_wp2
      go_ret
      refine ⟨ret_bool ?_, HW.out⟩
      rw [eq_comm]
      exact HS.out.2 fun j x y hx hy => HA.out j x y (by
        have := HM.out
        rcases Nat.lt_or_ge j ks.length with h' | h'
        · omega
        · rw [List.getElem?_eq_none h'] at hx; cases hx) hx hy
theorem eg_same : ∀ args w, (callFunc 67 args).run Tryz.prog w = .ok (.enter 67 args) w := enters_of Tryz.func67 (by kernel_rfl) rfl
theorem str_beq (s t : List UInt8) : ((⟨s.toArray⟩ : ByteArray).toList == (⟨t.toArray⟩ : ByteArray).toList) = (s == t) := by
  rw [Lib.toList_data, Lib.toList_data]

set_option maxHeartbeats 1600000 in
theorem same_any : ∀ X : Ex, ∀ (Y : Ex) (v u : Value) (w : World), ExV w X v → ExV w Y u → Calls Tryz.prog 67 #[v, u] w fun e w' => e = .returned (.bool (same X Y)) ∧ Below w.heap.size w w' := by
  apply Ex.ind (P := fun X => ∀ (Y : Ex) (v u : Value) (w : World), ExV w X v → ExV w Y u → Calls Tryz.prog 67 #[v, u] w fun e w' => e = .returned (.bool (same X Y)) ∧ Below w.heap.size w w')
  intro o n s ks l c ih Y v u w h h2
  cases Y with
  | mk o2 n2 s2 ks2 l2 c2 =>
  obtain ⟨A, cap, rfl, hB, hK⟩ := h.open
  obtain ⟨A2, cap2, rfl, hB2, hK2⟩ := h2.open
  have HBA : Hid (Below w.heap.size w ((w.alloc (.cells #[.int .i64 o, .int .i64 n, .string ⟨s.toArray⟩, .slice A ks.length cap, .int .i64 l, .int .i64 c] 40)).alloc (.cells #[.int .i64 o2, .int .i64 n2, .string ⟨s2.toArray⟩, .slice A2 ks2.length cap2, .int .i64 l2, .int .i64 c2] 40))) := (below_alloc w _).alloc (by simp) _
  have HC := Lib.hid (equalE_any 67 #[] eg_same ks ks2 A A2 cap cap2 _ (hK.below HBA.out) hB.m hB.cap (hK2.below HBA.out) hB2.m hB2.cap (fun k hk y v u W _ hv hu => ih k hk y v u W hv hu))
  have hE : same (.mk o n s ks l c) (.mk o2 n2 s2 ks2 l2 c2) = (decide (o = o2) && (decide (n = n2) && (s == s2 && sameL ks ks2))) := by rw [same]; rfl
  have hst := str_beq s s2
  rw [hE]
  clear h h2 hE ih hB hB2 hK hK2
  generalize sameL ks ks2 = R at *
  generalize ks.length = m at *
  generalize ks2.length = m2 at *
  generalize (⟨s.toArray⟩ : ByteArray) = sb at *
  generalize (⟨s2.toArray⟩ : ByteArray) = sb2 at *
  generalize (s == s2) = bs at *
  by_cases h1 : o = o2
  case neg =>
    have t1 : (o == o2) = false := by rw [beq_eq_false_iff_ne]; exact h1
    rw [decide_eq_false h1, Bool.false_and]
    clear h1 HC
    go_enter Tryz.func67, Tryz.ntmps67
    go_wp2
    go_ret
    exact ⟨rfl, HBA.out⟩
  have t1 : (o == o2) = true := by rw [beq_iff_eq]; exact h1
  rw [decide_eq_true h1, Bool.true_and]
  by_cases h3 : n = n2
  case neg =>
    have t3 : (n == n2) = false := by rw [beq_eq_false_iff_ne]; exact h3
    rw [decide_eq_false h3, Bool.false_and]
    clear h1 h3 HC
    go_enter Tryz.func67, Tryz.ntmps67
    go_wp2
    go_ret
    exact ⟨rfl, HBA.out⟩
  have t3 : (n == n2) = true := by rw [beq_iff_eq]; exact h3
  rw [decide_eq_true h3, Bool.true_and]
  clear h1 h3
  cases bs
  · clear HC
    rw [Bool.false_and]
    go_enter Tryz.func67, Tryz.ntmps67
    go_wp2
    go_ret
    exact ⟨rfl, HBA.out⟩
  · rw [Bool.true_and]
    go_enter Tryz.func67, Tryz.ntmps67
    go_wp2_with (refine HC.out.mono ?_; rintro e w' ⟨rfl, hB2⟩)
    go_ret
    exact ⟨rfl, HBA.out.trans (hB2.mono HBA.out.size)⟩
end Go.Proofs.YtnlepdkbcjjkdaaGreatDoor
