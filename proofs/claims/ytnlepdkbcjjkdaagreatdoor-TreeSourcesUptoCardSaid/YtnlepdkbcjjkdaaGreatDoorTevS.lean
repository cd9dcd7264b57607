/- Package tree: the library's EqualFunc at each type of element. -/
import Derived.Test.YtnlepdkbcjjkdaaGreatDoorTevJ
namespace Go.Proofs.YtnlepdkbcjjkdaaGreatDoor
open Go.RowKit TreM WrdM

/-- Are two lists the same, by r? -/
def eqL {α : Type} (r : α → α → Bool) : List α → List α → Bool
  | [], [] => true
  | x :: xs, y :: ys => r x y && eqL r xs ys
  | _, _ => false
theorem eqL_len {α : Type} (r : α → α → Bool) : ∀ (ks ys : List α), eqL r ks ys = true → ks.length = ys.length
  | [], [], _ => rfl
  | [], _ :: _, h => by simp [eqL] at h
  | _ :: _, [], h => by simp [eqL] at h
  | k :: ks, y :: ys, h => by
    simp only [eqL, Bool.and_eq_true] at h
    simp [eqL_len r ks ys h.2]
theorem eqL_iff {α : Type} (r : α → α → Bool) : ∀ (ks ys : List α), ks.length = ys.length → (eqL r ks ys = true ↔ ∀ (j : Nat) (x y : α), ks[j]? = some x → ys[j]? = some y → r x y = true)
  | [], [], _ => by simp [eqL]
  | [], _ :: _, h => by simp at h
  | _ :: _, [], h => by simp at h
  | k :: ks, y :: ys, h => by
    have ih := eqL_iff r ks ys (by simpa using h)
    simp only [eqL, Bool.and_eq_true]
    constructor
    · rintro ⟨a, b⟩ j x z hx hz
      cases j with
      | zero =>
        simp at hx hz
        rw [← hx, ← hz]; exact a
      | succ j => exact ih.1 b j x z (by simpa using hx) (by simpa using hz)
    · intro hh
      exact ⟨hh 0 k y rfl rfl, ih.2 fun j x z hx hz => hh (j + 1) x z (by simpa using hx) (by simpa using hz)⟩
theorem eqL_refl {α : Type} (r : α → α → Bool) : ∀ ks : List α, (∀ k ∈ ks, r k k = true) → eqL r ks ks = true
  | [], _ => rfl
  | k :: ks, h => by rw [eqL, h k (by simp), eqL_refl r ks fun x hx => h x (by simp [hx])]; rfl

set_option maxHeartbeats 1600000 in
set_option maxRecDepth 100000 in
theorem equalEnum_any {α : Type} (f : Nat) (lb : Array Value) (eg : ∀ args w, (callFunc f args).run Tryz.prog w = .ok (.enter f args) w) (r : α → α → Bool) (R : α → List Value → Prop) (hform : ∀ x cs, R x cs → ∃ (qnb : ByteArray) (qA : Option Addr) (qm qcap : Nat) (qln : Int) (qcn : Int), cs = [.string qnb, .slice qA qm qcap, .int .i64 qln, .int .i64 qcn]) (ks ys : List α) (A B : Option Addr) (cap dap : Nat) (w : World) (hK : SlAt w R 4 A ks) (hmc : ks.length ≤ cap) (hcap : cap ≤ 9223372036854775807) (hY : SlAt w R 4 B ys) (_hyc : ys.length ≤ dap) (_hdap : dap ≤ 9223372036854775807)
    (hp : ∀ k ∈ ks, ∀ y ∈ ys, ∀ cs ds W, Below w.heap.size w W → R k cs → R y ds → Calls Tryz.prog f (#[.agg cs.toArray, .agg ds.toArray] ++ lb) W fun e w' => e = .returned (.bool (r k y)) ∧ Below W.heap.size W w') :
    Calls Tryz.prog 29 #[.slice A ks.length cap, .slice B ys.length dap, .func (.func f) #[] lb] w fun e w' => e = .returned (.bool (eqL r ks ys)) ∧ Below w.heap.size w w' := by
  by_cases hl : ks.length = ys.length
  case neg =>
    have hE : eqL r ks ys = false := by rw [Bool.eq_false_iff]; intro e; exact hl (eqL_len r ks ys e)
    have t1 : ((ks.length : Int) != (ys.length : Int)) = true := by rw [bne_iff_ne]; omega
    have t2 : (ks.length != ys.length) = true := by rw [bne_iff_ne]; omega
    rw [hE]
    clear hE hK hY hp hl
    generalize ks.length = m at *
    generalize ys.length = m2 at *
    go_enter Tryz.func29, Tryz.ntmps29
    go_wp2
    go_ret
    exact ⟨rfl, Below.refl _ _⟩
  rw [← hl] at _hyc ⊢
  obtain ⟨m, hm⟩ : ∃ m, m = ks.length := ⟨_, rfl⟩
  have HM := Lib.hid hm
  have HL := Lib.hid hl
  have HK := Lib.hid hK
  have HY := Lib.hid hY
  have HP := Lib.hid hp
  have HF := Lib.hid hform
  have HS := Lib.hid (eqL_iff r ks ys hl)
  rw [← hm] at hmc _hyc ⊢
  clear hm hK hp hl hY hform
  generalize eqL r ks ys = Q at *
  have t0 : ((m : Int) != (m : Int)) = false := by rw [bne_eq_false_iff_eq]
  go_enter Tryz.func29, Tryz.ntmps29
  go_wp2
  go_loopw [7, 8, 9, 17] (fun _ _ _ i wr => ∃ k : Nat, k ≤ m ∧ i = .int .i64 k ∧ Hid (Below w.heap.size w wr) ∧ Hid (∀ j x y, j < k → ks[j]? = some x → ys[j]? = some y → r x y = true)) (fun _ _ _ i _ => m - (intOf i).toNat)
  case atStart => exact ⟨0, Nat.zero_le _, rfl, Below.refl _ _, fun j x y hj => absurd hj (by omega)⟩
  case round =>
    obtain ⟨k, hk, rfl, HW, HA⟩ := hrel
    by_cases hlt : k < m
    · have t1 : decide ((k : Int) < (m : Int)) = true := decide_eq_true (by omega)
      have t2 : decide (k < m) = true := decide_eq_true hlt
      obtain ⟨x, hx⟩ := get_el (ks := ks) (k := k) (by rw [← HM.out]; exact hlt)
      obtain ⟨y, hy⟩ := get_el (ks := ys) (k := k) (by rw [← HL.out, ← HM.out]; exact hlt)
      rcases HK.out with hK | ⟨b', p', rfl, hb', hk'⟩
      · exfalso; rw [hK] at hx; simp at hx
      rcases HY.out with hK | ⟨b2, p2, rfl, hb2, hk2⟩
      · exfalso; rw [hK] at hy; simp at hy
      have hb3 : b' < wr.heap.size := Nat.lt_of_lt_of_le hb' HW.out.size
      have hb4 : b2 < wr.heap.size := Nat.lt_of_lt_of_le hb2 HW.out.size
      obtain ⟨cs, _, hc, hR⟩ := hk' k x hx
      obtain ⟨ds, _, hd, hR2⟩ := hk2 k y hy
      obtain ⟨vnb, vA, vm, vcap, vln, vcn, rfl⟩ := HF.out x cs hR
      obtain ⟨unb, uA, um, ucap, uln, ucn, rfl⟩ := HF.out y ds hR2
      have c0 : wr.cell? ⟨b', p' + k * 4, none⟩ = some (.string vnb) := by rw [HW.out.cell (p := ⟨b', p' + k * 4, none⟩) hb']; simpa using hc 0 _ rfl
      have c1 : wr.cell? ⟨b', p' + k * 4 + 1, none⟩ = some (.slice vA vm vcap) := by rw [HW.out.cell (p := ⟨b', p' + k * 4 + 1, none⟩) hb']; simpa using hc 1 _ rfl
      have c2 : wr.cell? ⟨b', p' + k * 4 + 2, none⟩ = some (.int .i64 vln) := by rw [HW.out.cell (p := ⟨b', p' + k * 4 + 2, none⟩) hb']; simpa using hc 2 _ rfl
      have c3 : wr.cell? ⟨b', p' + k * 4 + 3, none⟩ = some (.int .i64 vcn) := by rw [HW.out.cell (p := ⟨b', p' + k * 4 + 3, none⟩) hb']; simpa using hc 3 _ rfl
      have d0 : wr.cell? ⟨b2, p2 + k * 4, none⟩ = some (.string unb) := by rw [HW.out.cell (p := ⟨b2, p2 + k * 4, none⟩) hb2]; simpa using hd 0 _ rfl
      have d1 : wr.cell? ⟨b2, p2 + k * 4 + 1, none⟩ = some (.slice uA um ucap) := by rw [HW.out.cell (p := ⟨b2, p2 + k * 4 + 1, none⟩) hb2]; simpa using hd 1 _ rfl
      have d2 : wr.cell? ⟨b2, p2 + k * 4 + 2, none⟩ = some (.int .i64 uln) := by rw [HW.out.cell (p := ⟨b2, p2 + k * 4 + 2, none⟩) hb2]; simpa using hd 2 _ rfl
      have d3 : wr.cell? ⟨b2, p2 + k * 4 + 3, none⟩ = some (.int .i64 ucn) := by rw [HW.out.cell (p := ⟨b2, p2 + k * 4 + 3, none⟩) hb2]; simpa using hd 3 _ rfl
      have HBA : Hid (Below wr.heap.size wr ((wr.alloc (.cells #[.string vnb, .slice vA vm vcap, .int .i64 vln, .int .i64 vcn] 48)).alloc (.cells #[.string unb, .slice uA um ucap, .int .i64 uln, .int .i64 ucn] 48))) := (below_alloc wr _).alloc (by simp) _
      have HC2 := Lib.hid (HP.out x (List.mem_of_getElem? hx) y (List.mem_of_getElem? hy) _ _ _ (HW.out.trans (HBA.out.mono HW.out.size)) hR hR2)
      have HX := Lib.hid hx
      have HYY := Lib.hid hy
      clear hx hk' hy hk2 hc hd hR hR2
      rcases hr : r x y with _ | _
      · rw [hr] at HC2
        have HRx := Lib.hid hr
        clear hr
        go_wp2_with (go_at_fn f; refine HC2.out.mono ?_; rintro e w' ⟨rfl, hB2⟩)
        go_ret
        refine ⟨ret_bool ?_, HW.out.trans ((HBA.out.trans (hB2.mono HBA.out.size)).mono HW.out.size)⟩
        rw [eq_comm, Bool.eq_false_iff]
        intro e
        have := HS.out.1 e k x y HX.out HYY.out
        rw [HRx.out] at this
        cases this
      · rw [hr] at HC2
        have HRx := Lib.hid hr
        clear hr
        go_wp2_with (go_at_fn f; refine HC2.out.mono ?_; rintro e w' ⟨rfl, hB2⟩)
        go_roundw
        case rel =>
          refine ⟨k + 1, by omega, by go_num, HW.out.trans ((HBA.out.trans (hB2.mono HBA.out.size)).mono HW.out.size), fun j x' y' hj hx' hy' => ?_⟩
          by_cases e : j = k
          · subst e
            have e1 := HX.out.symm.trans hx'
            injection e1 with e1
            have e2 := HYY.out.symm.trans hy'
            injection e2 with e2
            rw [← e1, ← e2]; exact HRx.out
          · exact HA.out j x' y' (by omega) hx' hy'
        case measure => simp [intOf]; omega
    · have t1 : decide ((k : Int) < (m : Int)) = false := decide_eq_false (by omega)
      have t2 : decide (k < m) = false := decide_eq_false hlt
      go_wp2
      go_ret
      refine ⟨ret_bool ?_, HW.out⟩
      rw [eq_comm]
      exact HS.out.2 fun j x y hx hy => HA.out j x y (by
        have := HM.out
        rcases Nat.lt_or_ge j ks.length with h' | h'
        · omega
        · rw [List.getElem?_eq_none h'] at hx; cases hx) hx hy

set_option maxHeartbeats 1600000 in
set_option maxRecDepth 100000 in
theorem equalDecl_any {α : Type} (f : Nat) (lb : Array Value) (eg : ∀ args w, (callFunc f args).run Tryz.prog w = .ok (.enter f args) w) (r : α → α → Bool) (R : α → List Value → Prop) (hform : ∀ x cs, R x cs → ∃ (qnb : ByteArray) (qtb : ByteArray) (qlo : Int) (qhi : Int) (qA : Option Addr) (qm qcap : Nat) (qln : Int) (qcn : Int), cs = [.string qnb, .string qtb, .int .i64 qlo, .int .i64 qhi, .slice qA qm qcap, .int .i64 qln, .int .i64 qcn]) (ks ys : List α) (A B : Option Addr) (cap dap : Nat) (w : World) (hK : SlAt w R 7 A ks) (hmc : ks.length ≤ cap) (hcap : cap ≤ 9223372036854775807) (hY : SlAt w R 7 B ys) (_hyc : ys.length ≤ dap) (_hdap : dap ≤ 9223372036854775807)
    (hp : ∀ k ∈ ks, ∀ y ∈ ys, ∀ cs ds W, Below w.heap.size w W → R k cs → R y ds → Calls Tryz.prog f (#[.agg cs.toArray, .agg ds.toArray] ++ lb) W fun e w' => e = .returned (.bool (r k y)) ∧ Below W.heap.size W w') :
    Calls Tryz.prog 31 #[.slice A ks.length cap, .slice B ys.length dap, .func (.func f) #[] lb] w fun e w' => e = .returned (.bool (eqL r ks ys)) ∧ Below w.heap.size w w' := by
  by_cases hl : ks.length = ys.length
  case neg =>
    have hE : eqL r ks ys = false := by rw [Bool.eq_false_iff]; intro e; exact hl (eqL_len r ks ys e)
    have t1 : ((ks.length : Int) != (ys.length : Int)) = true := by rw [bne_iff_ne]; omega
    have t2 : (ks.length != ys.length) = true := by rw [bne_iff_ne]; omega
    rw [hE]
    clear hE hK hY hp hl
    generalize ks.length = m at *
    generalize ys.length = m2 at *
    go_enter Tryz.func31, Tryz.ntmps31
    go_wp2
    go_ret
    exact ⟨rfl, Below.refl _ _⟩
  rw [← hl] at _hyc ⊢
  obtain ⟨m, hm⟩ : ∃ m, m = ks.length := ⟨_, rfl⟩
  have HM := Lib.hid hm
  have HL := Lib.hid hl
  have HK := Lib.hid hK
  have HY := Lib.hid hY
  have HP := Lib.hid hp
  have HF := Lib.hid hform
  have HS := Lib.hid (eqL_iff r ks ys hl)
  rw [← hm] at hmc _hyc ⊢
  clear hm hK hp hl hY hform
  generalize eqL r ks ys = Q at *
  have t0 : ((m : Int) != (m : Int)) = false := by rw [bne_eq_false_iff_eq]
  go_enter Tryz.func31, Tryz.ntmps31
  go_wp2
  go_loopw [7, 8, 9, 17] (fun _ _ _ i wr => ∃ k : Nat, k ≤ m ∧ i = .int .i64 k ∧ Hid (Below w.heap.size w wr) ∧ Hid (∀ j x y, j < k → ks[j]? = some x → ys[j]? = some y → r x y = true)) (fun _ _ _ i _ => m - (intOf i).toNat)
  case atStart => exact ⟨0, Nat.zero_le _, rfl, Below.refl _ _, fun j x y hj => absurd hj (by omega)⟩
  case round =>
    obtain ⟨k, hk, rfl, HW, HA⟩ := hrel
    by_cases hlt : k < m
    · have t1 : decide ((k : Int) < (m : Int)) = true := decide_eq_true (by omega)
      have t2 : decide (k < m) = true := decide_eq_true hlt
      obtain ⟨x, hx⟩ := get_el (ks := ks) (k := k) (by rw [← HM.out]; exact hlt)
      obtain ⟨y, hy⟩ := get_el (ks := ys) (k := k) (by rw [← HL.out, ← HM.out]; exact hlt)
      rcases HK.out with hK | ⟨b', p', rfl, hb', hk'⟩
      · exfalso; rw [hK] at hx; simp at hx
      rcases HY.out with hK | ⟨b2, p2, rfl, hb2, hk2⟩
      · exfalso; rw [hK] at hy; simp at hy
      have hb3 : b' < wr.heap.size := Nat.lt_of_lt_of_le hb' HW.out.size
      have hb4 : b2 < wr.heap.size := Nat.lt_of_lt_of_le hb2 HW.out.size
      obtain ⟨cs, _, hc, hR⟩ := hk' k x hx
      obtain ⟨ds, _, hd, hR2⟩ := hk2 k y hy
      obtain ⟨vnb, vtb, vlo, vhi, vA, vm, vcap, vln, vcn, rfl⟩ := HF.out x cs hR
      obtain ⟨unb, utb, ulo, uhi, uA, um, ucap, uln, ucn, rfl⟩ := HF.out y ds hR2
      have c0 : wr.cell? ⟨b', p' + k * 7, none⟩ = some (.string vnb) := by rw [HW.out.cell (p := ⟨b', p' + k * 7, none⟩) hb']; simpa using hc 0 _ rfl
      have c1 : wr.cell? ⟨b', p' + k * 7 + 1, none⟩ = some (.string vtb) := by rw [HW.out.cell (p := ⟨b', p' + k * 7 + 1, none⟩) hb']; simpa using hc 1 _ rfl
      have c2 : wr.cell? ⟨b', p' + k * 7 + 2, none⟩ = some (.int .i64 vlo) := by rw [HW.out.cell (p := ⟨b', p' + k * 7 + 2, none⟩) hb']; simpa using hc 2 _ rfl
      have c3 : wr.cell? ⟨b', p' + k * 7 + 3, none⟩ = some (.int .i64 vhi) := by rw [HW.out.cell (p := ⟨b', p' + k * 7 + 3, none⟩) hb']; simpa using hc 3 _ rfl
      have c4 : wr.cell? ⟨b', p' + k * 7 + 4, none⟩ = some (.slice vA vm vcap) := by rw [HW.out.cell (p := ⟨b', p' + k * 7 + 4, none⟩) hb']; simpa using hc 4 _ rfl
      have c5 : wr.cell? ⟨b', p' + k * 7 + 5, none⟩ = some (.int .i64 vln) := by rw [HW.out.cell (p := ⟨b', p' + k * 7 + 5, none⟩) hb']; simpa using hc 5 _ rfl
      have c6 : wr.cell? ⟨b', p' + k * 7 + 6, none⟩ = some (.int .i64 vcn) := by rw [HW.out.cell (p := ⟨b', p' + k * 7 + 6, none⟩) hb']; simpa using hc 6 _ rfl
      have d0 : wr.cell? ⟨b2, p2 + k * 7, none⟩ = some (.string unb) := by rw [HW.out.cell (p := ⟨b2, p2 + k * 7, none⟩) hb2]; simpa using hd 0 _ rfl
      have d1 : wr.cell? ⟨b2, p2 + k * 7 + 1, none⟩ = some (.string utb) := by rw [HW.out.cell (p := ⟨b2, p2 + k * 7 + 1, none⟩) hb2]; simpa using hd 1 _ rfl
      have d2 : wr.cell? ⟨b2, p2 + k * 7 + 2, none⟩ = some (.int .i64 ulo) := by rw [HW.out.cell (p := ⟨b2, p2 + k * 7 + 2, none⟩) hb2]; simpa using hd 2 _ rfl
      have d3 : wr.cell? ⟨b2, p2 + k * 7 + 3, none⟩ = some (.int .i64 uhi) := by rw [HW.out.cell (p := ⟨b2, p2 + k * 7 + 3, none⟩) hb2]; simpa using hd 3 _ rfl
      have d4 : wr.cell? ⟨b2, p2 + k * 7 + 4, none⟩ = some (.slice uA um ucap) := by rw [HW.out.cell (p := ⟨b2, p2 + k * 7 + 4, none⟩) hb2]; simpa using hd 4 _ rfl
      have d5 : wr.cell? ⟨b2, p2 + k * 7 + 5, none⟩ = some (.int .i64 uln) := by rw [HW.out.cell (p := ⟨b2, p2 + k * 7 + 5, none⟩) hb2]; simpa using hd 5 _ rfl
      have d6 : wr.cell? ⟨b2, p2 + k * 7 + 6, none⟩ = some (.int .i64 ucn) := by rw [HW.out.cell (p := ⟨b2, p2 + k * 7 + 6, none⟩) hb2]; simpa using hd 6 _ rfl
      have HBA : Hid (Below wr.heap.size wr ((wr.alloc (.cells #[.string vnb, .string vtb, .int .i64 vlo, .int .i64 vhi, .slice vA vm vcap, .int .i64 vln, .int .i64 vcn] 52)).alloc (.cells #[.string unb, .string utb, .int .i64 ulo, .int .i64 uhi, .slice uA um ucap, .int .i64 uln, .int .i64 ucn] 52))) := (below_alloc wr _).alloc (by simp) _
      have HC2 := Lib.hid (HP.out x (List.mem_of_getElem? hx) y (List.mem_of_getElem? hy) _ _ _ (HW.out.trans (HBA.out.mono HW.out.size)) hR hR2)
      have HX := Lib.hid hx
      have HYY := Lib.hid hy
      clear hx hk' hy hk2 hc hd hR hR2
      rcases hr : r x y with _ | _
      · rw [hr] at HC2
        have HRx := Lib.hid hr
        clear hr
        go_wp2_with (go_at_fn f; refine HC2.out.mono ?_; rintro e w' ⟨rfl, hB2⟩)
        go_ret
        refine ⟨ret_bool ?_, HW.out.trans ((HBA.out.trans (hB2.mono HBA.out.size)).mono HW.out.size)⟩
        rw [eq_comm, Bool.eq_false_iff]
        intro e
        have := HS.out.1 e k x y HX.out HYY.out
        rw [HRx.out] at this
        cases this
      · rw [hr] at HC2
        have HRx := Lib.hid hr
        clear hr
        go_wp2_with (go_at_fn f; refine HC2.out.mono ?_; rintro e w' ⟨rfl, hB2⟩)
        go_roundw
        case rel =>
          refine ⟨k + 1, by omega, by go_num, HW.out.trans ((HBA.out.trans (hB2.mono HBA.out.size)).mono HW.out.size), fun j x' y' hj hx' hy' => ?_⟩
          by_cases e : j = k
          · subst e
            have e1 := HX.out.symm.trans hx'
            injection e1 with e1
            have e2 := HYY.out.symm.trans hy'
            injection e2 with e2
            rw [← e1, ← e2]; exact HRx.out
          · exact HA.out j x' y' (by omega) hx' hy'
        case measure => simp [intOf]; omega
    · have t1 : decide ((k : Int) < (m : Int)) = false := decide_eq_false (by omega)
      have t2 : decide (k < m) = false := decide_eq_false hlt
      go_wp2
      go_ret
      refine ⟨ret_bool ?_, HW.out⟩
      rw [eq_comm]
      exact HS.out.2 fun j x y hx hy => HA.out j x y (by
        have := HM.out
        rcases Nat.lt_or_ge j ks.length with h' | h'
        · omega
        · rw [List.getElem?_eq_none h'] at hx; cases hx) hx hy

set_option maxHeartbeats 1600000 in
set_option maxRecDepth 100000 in
theorem equalProc_any {α : Type} (f : Nat) (lb : Array Value) (eg : ∀ args w, (callFunc f args).run Tryz.prog w = .ok (.enter f args) w) (r : α → α → Bool) (R : α → List Value → Prop) (hform : ∀ x cs, R x cs → ∃ (qnb : ByteArray) (qA : Option Addr) (qm qcap : Nat) (qln : Int) (qcn : Int), cs = [.string qnb, .slice qA qm qcap, .int .i64 qln, .int .i64 qcn]) (ks ys : List α) (A B : Option Addr) (cap dap : Nat) (w : World) (hK : SlAt w R 4 A ks) (hmc : ks.length ≤ cap) (hcap : cap ≤ 9223372036854775807) (hY : SlAt w R 4 B ys) (_hyc : ys.length ≤ dap) (_hdap : dap ≤ 9223372036854775807)
    (hp : ∀ k ∈ ks, ∀ y ∈ ys, ∀ cs ds W, Below w.heap.size w W → R k cs → R y ds → Calls Tryz.prog f (#[.agg cs.toArray, .agg ds.toArray] ++ lb) W fun e w' => e = .returned (.bool (r k y)) ∧ Below W.heap.size W w') :
    Calls Tryz.prog 33 #[.slice A ks.length cap, .slice B ys.length dap, .func (.func f) #[] lb] w fun e w' => e = .returned (.bool (eqL r ks ys)) ∧ Below w.heap.size w w' := by
  by_cases hl : ks.length = ys.length
  case neg =>
    have hE : eqL r ks ys = false := by rw [Bool.eq_false_iff]; intro e; exact hl (eqL_len r ks ys e)
    have t1 : ((ks.length : Int) != (ys.length : Int)) = true := by rw [bne_iff_ne]; omega
    have t2 : (ks.length != ys.length) = true := by rw [bne_iff_ne]; omega
    rw [hE]
    clear hE hK hY hp hl
    generalize ks.length = m at *
    generalize ys.length = m2 at *
    go_enter Tryz.func33, Tryz.ntmps33
    go_wp2
    go_ret
    exact ⟨rfl, Below.refl _ _⟩
  rw [← hl] at _hyc ⊢
  obtain ⟨m, hm⟩ : ∃ m, m = ks.length := ⟨_, rfl⟩
  have HM := Lib.hid hm
  have HL := Lib.hid hl
  have HK := Lib.hid hK
  have HY := Lib.hid hY
  have HP := Lib.hid hp
  have HF := Lib.hid hform
  have HS := Lib.hid (eqL_iff r ks ys hl)
  rw [← hm] at hmc _hyc ⊢
  clear hm hK hp hl hY hform
  generalize eqL r ks ys = Q at *
  have t0 : ((m : Int) != (m : Int)) = false := by rw [bne_eq_false_iff_eq]
  go_enter Tryz.func33, Tryz.ntmps33
  go_wp2
  go_loopw [7, 8, 9, 17] (fun _ _ _ i wr => ∃ k : Nat, k ≤ m ∧ i = .int .i64 k ∧ Hid (Below w.heap.size w wr) ∧ Hid (∀ j x y, j < k → ks[j]? = some x → ys[j]? = some y → r x y = true)) (fun _ _ _ i _ => m - (intOf i).toNat)
  case atStart => exact ⟨0, Nat.zero_le _, rfl, Below.refl _ _, fun j x y hj => absurd hj (by omega)⟩
  case round =>
    obtain ⟨k, hk, rfl, HW, HA⟩ := hrel
    by_cases hlt : k < m
    · have t1 : decide ((k : Int) < (m : Int)) = true := decide_eq_true (by omega)
      have t2 : decide (k < m) = true := decide_eq_true hlt
      obtain ⟨x, hx⟩ := get_el (ks := ks) (k := k) (by rw [← HM.out]; exact hlt)
      obtain ⟨y, hy⟩ := get_el (ks := ys) (k := k) (by rw [← HL.out, ← HM.out]; exact hlt)
      rcases HK.out with hK | ⟨b', p', rfl, hb', hk'⟩
      · exfalso; rw [hK] at hx; simp at hx
      rcases HY.out with hK | ⟨b2, p2, rfl, hb2, hk2⟩
      · exfalso; rw [hK] at hy; simp at hy
      have hb3 : b' < wr.heap.size := Nat.lt_of_lt_of_le hb' HW.out.size
      have hb4 : b2 < wr.heap.size := Nat.lt_of_lt_of_le hb2 HW.out.size
      obtain ⟨cs, _, hc, hR⟩ := hk' k x hx
      obtain ⟨ds, _, hd, hR2⟩ := hk2 k y hy
      obtain ⟨vnb, vA, vm, vcap, vln, vcn, rfl⟩ := HF.out x cs hR
      obtain ⟨unb, uA, um, ucap, uln, ucn, rfl⟩ := HF.out y ds hR2
      have c0 : wr.cell? ⟨b', p' + k * 4, none⟩ = some (.string vnb) := by rw [HW.out.cell (p := ⟨b', p' + k * 4, none⟩) hb']; simpa using hc 0 _ rfl
      have c1 : wr.cell? ⟨b', p' + k * 4 + 1, none⟩ = some (.slice vA vm vcap) := by rw [HW.out.cell (p := ⟨b', p' + k * 4 + 1, none⟩) hb']; simpa using hc 1 _ rfl
      have c2 : wr.cell? ⟨b', p' + k * 4 + 2, none⟩ = some (.int .i64 vln) := by rw [HW.out.cell (p := ⟨b', p' + k * 4 + 2, none⟩) hb']; simpa using hc 2 _ rfl
      have c3 : wr.cell? ⟨b', p' + k * 4 + 3, none⟩ = some (.int .i64 vcn) := by rw [HW.out.cell (p := ⟨b', p' + k * 4 + 3, none⟩) hb']; simpa using hc 3 _ rfl
      have d0 : wr.cell? ⟨b2, p2 + k * 4, none⟩ = some (.string unb) := by rw [HW.out.cell (p := ⟨b2, p2 + k * 4, none⟩) hb2]; simpa using hd 0 _ rfl
      have d1 : wr.cell? ⟨b2, p2 + k * 4 + 1, none⟩ = some (.slice uA um ucap) := by rw [HW.out.cell (p := ⟨b2, p2 + k * 4 + 1, none⟩) hb2]; simpa using hd 1 _ rfl
      have d2 : wr.cell? ⟨b2, p2 + k * 4 + 2, none⟩ = some (.int .i64 uln) := by rw [HW.out.cell (p := ⟨b2, p2 + k * 4 + 2, none⟩) hb2]; simpa using hd 2 _ rfl
      have d3 : wr.cell? ⟨b2, p2 + k * 4 + 3, none⟩ = some (.int .i64 ucn) := by rw [HW.out.cell (p := ⟨b2, p2 + k * 4 + 3, none⟩) hb2]; simpa using hd 3 _ rfl
      have HBA : Hid (Below wr.heap.size wr ((wr.alloc (.cells #[.string vnb, .slice vA vm vcap, .int .i64 vln, .int .i64 vcn] 36)).alloc (.cells #[.string unb, .slice uA um ucap, .int .i64 uln, .int .i64 ucn] 36))) := (below_alloc wr _).alloc (by simp) _
      have HC2 := Lib.hid (HP.out x (List.mem_of_getElem? hx) y (List.mem_of_getElem? hy) _ _ _ (HW.out.trans (HBA.out.mono HW.out.size)) hR hR2)
      have HX := Lib.hid hx
      have HYY := Lib.hid hy
      clear hx hk' hy hk2 hc hd hR hR2
      rcases hr : r x y with _ | _
      · rw [hr] at HC2
        have HRx := Lib.hid hr
        clear hr
        go_wp2_with (go_at_fn f; refine HC2.out.mono ?_; rintro e w' ⟨rfl, hB2⟩)
        go_ret
        refine ⟨ret_bool ?_, HW.out.trans ((HBA.out.trans (hB2.mono HBA.out.size)).mono HW.out.size)⟩
        rw [eq_comm, Bool.eq_false_iff]
        intro e
        have := HS.out.1 e k x y HX.out HYY.out
        rw [HRx.out] at this
        cases this
      · rw [hr] at HC2
        have HRx := Lib.hid hr
        clear hr
        go_wp2_with (go_at_fn f; refine HC2.out.mono ?_; rintro e w' ⟨rfl, hB2⟩)
        go_roundw
        case rel =>
          refine ⟨k + 1, by omega, by go_num, HW.out.trans ((HBA.out.trans (hB2.mono HBA.out.size)).mono HW.out.size), fun j x' y' hj hx' hy' => ?_⟩
          by_cases e : j = k
          · subst e
            have e1 := HX.out.symm.trans hx'
            injection e1 with e1
            have e2 := HYY.out.symm.trans hy'
            injection e2 with e2
            rw [← e1, ← e2]; exact HRx.out
          · exact HA.out j x' y' (by omega) hx' hy'
        case measure => simp [intOf]; omega
    · have t1 : decide ((k : Int) < (m : Int)) = false := decide_eq_false (by omega)
      have t2 : decide (k < m) = false := decide_eq_false hlt
      go_wp2
      go_ret
      refine ⟨ret_bool ?_, HW.out⟩
      rw [eq_comm]
      exact HS.out.2 fun j x y hx hy => HA.out j x y (by
        have := HM.out
        rcases Nat.lt_or_ge j ks.length with h' | h'
        · omega
        · rw [List.getElem?_eq_none h'] at hx; cases hx) hx hy

set_option maxHeartbeats 1600000 in
set_option maxRecDepth 100000 in
theorem equalRule_any {α : Type} (f : Nat) (lb : Array Value) (eg : ∀ args w, (callFunc f args).run Tryz.prog w = .ok (.enter f args) w) (r : α → α → Bool) (R : α → List Value → Prop) (hform : ∀ x cs, R x cs → ∃ (qo : Int) (qn : Int) (qsb : ByteArray) (qA : Option Addr) (qm qcap : Nat) (qxl : Int) (qxc : Int) (qA2 : Option Addr) (qm2 qcap2 : Nat), cs = [.int .i64 qo, .int .i64 qn, .string qsb, .slice qA qm qcap, .int .i64 qxl, .int .i64 qxc, .slice qA2 qm2 qcap2]) (ks ys : List α) (A B : Option Addr) (cap dap : Nat) (w : World) (hK : SlAt w R 7 A ks) (hmc : ks.length ≤ cap) (hcap : cap ≤ 9223372036854775807) (hY : SlAt w R 7 B ys) (_hyc : ys.length ≤ dap) (_hdap : dap ≤ 9223372036854775807)
    (hp : ∀ k ∈ ks, ∀ y ∈ ys, ∀ cs ds W, Below w.heap.size w W → R k cs → R y ds → Calls Tryz.prog f (#[.agg cs.toArray, .agg ds.toArray] ++ lb) W fun e w' => e = .returned (.bool (r k y)) ∧ Below W.heap.size W w') :
    Calls Tryz.prog 68 #[.slice A ks.length cap, .slice B ys.length dap, .func (.func f) #[] lb] w fun e w' => e = .returned (.bool (eqL r ks ys)) ∧ Below w.heap.size w w' := by
  by_cases hl : ks.length = ys.length
  case neg =>
    have hE : eqL r ks ys = false := by rw [Bool.eq_false_iff]; intro e; exact hl (eqL_len r ks ys e)
    have t1 : ((ks.length : Int) != (ys.length : Int)) = true := by rw [bne_iff_ne]; omega
    have t2 : (ks.length != ys.length) = true := by rw [bne_iff_ne]; omega
    rw [hE]
    clear hE hK hY hp hl
    generalize ks.length = m at *
    generalize ys.length = m2 at *
    go_enter Tryz.func68, Tryz.ntmps68
    go_wp2
    go_ret
    exact ⟨rfl, Below.refl _ _⟩
  rw [← hl] at _hyc ⊢
  obtain ⟨m, hm⟩ : ∃ m, m = ks.length := ⟨_, rfl⟩
  have HM := Lib.hid hm
  have HL := Lib.hid hl
  have HK := Lib.hid hK
  have HY := Lib.hid hY
  have HP := Lib.hid hp
  have HF := Lib.hid hform
  have HS := Lib.hid (eqL_iff r ks ys hl)
  rw [← hm] at hmc _hyc ⊢
  clear hm hK hp hl hY hform
  generalize eqL r ks ys = Q at *
  have t0 : ((m : Int) != (m : Int)) = false := by rw [bne_eq_false_iff_eq]
  go_enter Tryz.func68, Tryz.ntmps68
  go_wp2
  go_loopw [7, 8, 9, 17] (fun _ _ _ i wr => ∃ k : Nat, k ≤ m ∧ i = .int .i64 k ∧ Hid (Below w.heap.size w wr) ∧ Hid (∀ j x y, j < k → ks[j]? = some x → ys[j]? = some y → r x y = true)) (fun _ _ _ i _ => m - (intOf i).toNat)
  case atStart => exact ⟨0, Nat.zero_le _, rfl, Below.refl _ _, fun j x y hj => absurd hj (by omega)⟩
  case round =>
    obtain ⟨k, hk, rfl, HW, HA⟩ := hrel
    by_cases hlt : k < m
    · have t1 : decide ((k : Int) < (m : Int)) = true := decide_eq_true (by omega)
      have t2 : decide (k < m) = true := decide_eq_true hlt
      obtain ⟨x, hx⟩ := get_el (ks := ks) (k := k) (by rw [← HM.out]; exact hlt)
      obtain ⟨y, hy⟩ := get_el (ks := ys) (k := k) (by rw [← HL.out, ← HM.out]; exact hlt)
      rcases HK.out with hK | ⟨b', p', rfl, hb', hk'⟩
      · exfalso; rw [hK] at hx; simp at hx
      rcases HY.out with hK | ⟨b2, p2, rfl, hb2, hk2⟩
      · exfalso; rw [hK] at hy; simp at hy
      have hb3 : b' < wr.heap.size := Nat.lt_of_lt_of_le hb' HW.out.size
      have hb4 : b2 < wr.heap.size := Nat.lt_of_lt_of_le hb2 HW.out.size
      obtain ⟨cs, _, hc, hR⟩ := hk' k x hx
      obtain ⟨ds, _, hd, hR2⟩ := hk2 k y hy
      obtain ⟨vo, vn, vsb, vA, vm, vcap, vxl, vxc, vA2, vm2, vcap2, rfl⟩ := HF.out x cs hR
      obtain ⟨uo, un, usb, uA, um, ucap, uxl, uxc, uA2, um2, ucap2, rfl⟩ := HF.out y ds hR2
      have c0 : wr.cell? ⟨b', p' + k * 7, none⟩ = some (.int .i64 vo) := by rw [HW.out.cell (p := ⟨b', p' + k * 7, none⟩) hb']; simpa using hc 0 _ rfl
      have c1 : wr.cell? ⟨b', p' + k * 7 + 1, none⟩ = some (.int .i64 vn) := by rw [HW.out.cell (p := ⟨b', p' + k * 7 + 1, none⟩) hb']; simpa using hc 1 _ rfl
      have c2 : wr.cell? ⟨b', p' + k * 7 + 2, none⟩ = some (.string vsb) := by rw [HW.out.cell (p := ⟨b', p' + k * 7 + 2, none⟩) hb']; simpa using hc 2 _ rfl
      have c3 : wr.cell? ⟨b', p' + k * 7 + 3, none⟩ = some (.slice vA vm vcap) := by rw [HW.out.cell (p := ⟨b', p' + k * 7 + 3, none⟩) hb']; simpa using hc 3 _ rfl
      have c4 : wr.cell? ⟨b', p' + k * 7 + 4, none⟩ = some (.int .i64 vxl) := by rw [HW.out.cell (p := ⟨b', p' + k * 7 + 4, none⟩) hb']; simpa using hc 4 _ rfl
      have c5 : wr.cell? ⟨b', p' + k * 7 + 5, none⟩ = some (.int .i64 vxc) := by rw [HW.out.cell (p := ⟨b', p' + k * 7 + 5, none⟩) hb']; simpa using hc 5 _ rfl
      have c6 : wr.cell? ⟨b', p' + k * 7 + 6, none⟩ = some (.slice vA2 vm2 vcap2) := by rw [HW.out.cell (p := ⟨b', p' + k * 7 + 6, none⟩) hb']; simpa using hc 6 _ rfl
      have d0 : wr.cell? ⟨b2, p2 + k * 7, none⟩ = some (.int .i64 uo) := by rw [HW.out.cell (p := ⟨b2, p2 + k * 7, none⟩) hb2]; simpa using hd 0 _ rfl
      have d1 : wr.cell? ⟨b2, p2 + k * 7 + 1, none⟩ = some (.int .i64 un) := by rw [HW.out.cell (p := ⟨b2, p2 + k * 7 + 1, none⟩) hb2]; simpa using hd 1 _ rfl
      have d2 : wr.cell? ⟨b2, p2 + k * 7 + 2, none⟩ = some (.string usb) := by rw [HW.out.cell (p := ⟨b2, p2 + k * 7 + 2, none⟩) hb2]; simpa using hd 2 _ rfl
      have d3 : wr.cell? ⟨b2, p2 + k * 7 + 3, none⟩ = some (.slice uA um ucap) := by rw [HW.out.cell (p := ⟨b2, p2 + k * 7 + 3, none⟩) hb2]; simpa using hd 3 _ rfl
      have d4 : wr.cell? ⟨b2, p2 + k * 7 + 4, none⟩ = some (.int .i64 uxl) := by rw [HW.out.cell (p := ⟨b2, p2 + k * 7 + 4, none⟩) hb2]; simpa using hd 4 _ rfl
      have d5 : wr.cell? ⟨b2, p2 + k * 7 + 5, none⟩ = some (.int .i64 uxc) := by rw [HW.out.cell (p := ⟨b2, p2 + k * 7 + 5, none⟩) hb2]; simpa using hd 5 _ rfl
      have d6 : wr.cell? ⟨b2, p2 + k * 7 + 6, none⟩ = some (.slice uA2 um2 ucap2) := by rw [HW.out.cell (p := ⟨b2, p2 + k * 7 + 6, none⟩) hb2]; simpa using hd 6 _ rfl
      have HBA : Hid (Below wr.heap.size wr ((wr.alloc (.cells #[.int .i64 vo, .int .i64 vn, .string vsb, .slice vA vm vcap, .int .i64 vxl, .int .i64 vxc, .slice vA2 vm2 vcap2] 76)).alloc (.cells #[.int .i64 uo, .int .i64 un, .string usb, .slice uA um ucap, .int .i64 uxl, .int .i64 uxc, .slice uA2 um2 ucap2] 76))) := (below_alloc wr _).alloc (by simp) _
      have HC2 := Lib.hid (HP.out x (List.mem_of_getElem? hx) y (List.mem_of_getElem? hy) _ _ _ (HW.out.trans (HBA.out.mono HW.out.size)) hR hR2)
      have HX := Lib.hid hx
      have HYY := Lib.hid hy
      clear hx hk' hy hk2 hc hd hR hR2
      rcases hr : r x y with _ | _
      · rw [hr] at HC2
        have HRx := Lib.hid hr
        clear hr
        go_wp2_with (go_at_fn f; refine HC2.out.mono ?_; rintro e w' ⟨rfl, hB2⟩)
        go_ret
        refine ⟨ret_bool ?_, HW.out.trans ((HBA.out.trans (hB2.mono HBA.out.size)).mono HW.out.size)⟩
        rw [eq_comm, Bool.eq_false_iff]
        intro e
        have := HS.out.1 e k x y HX.out HYY.out
        rw [HRx.out] at this
        cases this
      · rw [hr] at HC2
        have HRx := Lib.hid hr
        clear hr
        go_wp2_with (go_at_fn f; refine HC2.out.mono ?_; rintro e w' ⟨rfl, hB2⟩)
        go_roundw
        case rel =>
          refine ⟨k + 1, by omega, by go_num, HW.out.trans ((HBA.out.trans (hB2.mono HBA.out.size)).mono HW.out.size), fun j x' y' hj hx' hy' => ?_⟩
          by_cases e : j = k
          · subst e
            have e1 := HX.out.symm.trans hx'
            injection e1 with e1
            have e2 := HYY.out.symm.trans hy'
            injection e2 with e2
            rw [← e1, ← e2]; exact HRx.out
          · exact HA.out j x' y' (by omega) hx' hy'
        case measure => simp [intOf]; omega
    · have t1 : decide ((k : Int) < (m : Int)) = false := decide_eq_false (by omega)
      have t2 : decide (k < m) = false := decide_eq_false hlt
      go_wp2
      go_ret
      refine ⟨ret_bool ?_, HW.out⟩
      rw [eq_comm]
      exact HS.out.2 fun j x y hx hy => HA.out j x y (by
        have := HM.out
        rcases Nat.lt_or_ge j ks.length with h' | h'
        · omega
        · rw [List.getElem?_eq_none h'] at hx; cases hx) hx hy

set_option maxHeartbeats 1600000 in
set_option maxRecDepth 100000 in
theorem equalAsgn_any {α : Type} (f : Nat) (lb : Array Value) (eg : ∀ args w, (callFunc f args).run Tryz.prog w = .ok (.enter f args) w) (r : α → α → Bool) (R : α → List Value → Prop) (hform : ∀ x cs, R x cs → ∃ (qnb : ByteArray) (qo : Int) (qn : Int) (qsb : ByteArray) (qA : Option Addr) (qm qcap : Nat) (qxl : Int) (qxc : Int) (qln : Int) (qcn : Int), cs = [.string qnb, .int .i64 qo, .int .i64 qn, .string qsb, .slice qA qm qcap, .int .i64 qxl, .int .i64 qxc, .int .i64 qln, .int .i64 qcn]) (ks ys : List α) (A B : Option Addr) (cap dap : Nat) (w : World) (hK : SlAt w R 9 A ks) (hmc : ks.length ≤ cap) (hcap : cap ≤ 9223372036854775807) (hY : SlAt w R 9 B ys) (_hyc : ys.length ≤ dap) (_hdap : dap ≤ 9223372036854775807)
    (hp : ∀ k ∈ ks, ∀ y ∈ ys, ∀ cs ds W, Below w.heap.size w W → R k cs → R y ds → Calls Tryz.prog f (#[.agg cs.toArray, .agg ds.toArray] ++ lb) W fun e w' => e = .returned (.bool (r k y)) ∧ Below W.heap.size W w') :
    Calls Tryz.prog 99 #[.slice A ks.length cap, .slice B ys.length dap, .func (.func f) #[] lb] w fun e w' => e = .returned (.bool (eqL r ks ys)) ∧ Below w.heap.size w w' := by
  by_cases hl : ks.length = ys.length
  case neg =>
    have hE : eqL r ks ys = false := by rw [Bool.eq_false_iff]; intro e; exact hl (eqL_len r ks ys e)
    have t1 : ((ks.length : Int) != (ys.length : Int)) = true := by rw [bne_iff_ne]; omega
    have t2 : (ks.length != ys.length) = true := by rw [bne_iff_ne]; omega
    rw [hE]
    clear hE hK hY hp hl
    generalize ks.length = m at *
    generalize ys.length = m2 at *
    go_enter Tryz.func99, Tryz.ntmps99
    go_wp2
    go_ret
    exact ⟨rfl, Below.refl _ _⟩
  rw [← hl] at _hyc ⊢
  obtain ⟨m, hm⟩ : ∃ m, m = ks.length := ⟨_, rfl⟩
  have HM := Lib.hid hm
  have HL := Lib.hid hl
  have HK := Lib.hid hK
  have HY := Lib.hid hY
  have HP := Lib.hid hp
  have HF := Lib.hid hform
  have HS := Lib.hid (eqL_iff r ks ys hl)
  rw [← hm] at hmc _hyc ⊢
  clear hm hK hp hl hY hform
  generalize eqL r ks ys = Q at *
  have t0 : ((m : Int) != (m : Int)) = false := by rw [bne_eq_false_iff_eq]
  go_enter Tryz.func99, Tryz.ntmps99
  go_wp2
  go_loopw [7, 8, 9, 17] (fun _ _ _ i wr => ∃ k : Nat, k ≤ m ∧ i = .int .i64 k ∧ Hid (Below w.heap.size w wr) ∧ Hid (∀ j x y, j < k → ks[j]? = some x → ys[j]? = some y → r x y = true)) (fun _ _ _ i _ => m - (intOf i).toNat)
  case atStart => exact ⟨0, Nat.zero_le _, rfl, Below.refl _ _, fun j x y hj => absurd hj (by omega)⟩
  case round =>
    obtain ⟨k, hk, rfl, HW, HA⟩ := hrel
    by_cases hlt : k < m
    · have t1 : decide ((k : Int) < (m : Int)) = true := decide_eq_true (by omega)
      have t2 : decide (k < m) = true := decide_eq_true hlt
      obtain ⟨x, hx⟩ := get_el (ks := ks) (k := k) (by rw [← HM.out]; exact hlt)
      obtain ⟨y, hy⟩ := get_el (ks := ys) (k := k) (by rw [← HL.out, ← HM.out]; exact hlt)
      rcases HK.out with hK | ⟨b', p', rfl, hb', hk'⟩
      · exfalso; rw [hK] at hx; simp at hx
      rcases HY.out with hK | ⟨b2, p2, rfl, hb2, hk2⟩
      · exfalso; rw [hK] at hy; simp at hy
      have hb3 : b' < wr.heap.size := Nat.lt_of_lt_of_le hb' HW.out.size
      have hb4 : b2 < wr.heap.size := Nat.lt_of_lt_of_le hb2 HW.out.size
      obtain ⟨cs, _, hc, hR⟩ := hk' k x hx
      obtain ⟨ds, _, hd, hR2⟩ := hk2 k y hy
      obtain ⟨vnb, vo, vn, vsb, vA, vm, vcap, vxl, vxc, vln, vcn, rfl⟩ := HF.out x cs hR
      obtain ⟨unb, uo, un, usb, uA, um, ucap, uxl, uxc, uln, ucn, rfl⟩ := HF.out y ds hR2
      have c0 : wr.cell? ⟨b', p' + k * 9, none⟩ = some (.string vnb) := by rw [HW.out.cell (p := ⟨b', p' + k * 9, none⟩) hb']; simpa using hc 0 _ rfl
      have c1 : wr.cell? ⟨b', p' + k * 9 + 1, none⟩ = some (.int .i64 vo) := by rw [HW.out.cell (p := ⟨b', p' + k * 9 + 1, none⟩) hb']; simpa using hc 1 _ rfl
      have c2 : wr.cell? ⟨b', p' + k * 9 + 2, none⟩ = some (.int .i64 vn) := by rw [HW.out.cell (p := ⟨b', p' + k * 9 + 2, none⟩) hb']; simpa using hc 2 _ rfl
      have c3 : wr.cell? ⟨b', p' + k * 9 + 3, none⟩ = some (.string vsb) := by rw [HW.out.cell (p := ⟨b', p' + k * 9 + 3, none⟩) hb']; simpa using hc 3 _ rfl
      have c4 : wr.cell? ⟨b', p' + k * 9 + 4, none⟩ = some (.slice vA vm vcap) := by rw [HW.out.cell (p := ⟨b', p' + k * 9 + 4, none⟩) hb']; simpa using hc 4 _ rfl
      have c5 : wr.cell? ⟨b', p' + k * 9 + 5, none⟩ = some (.int .i64 vxl) := by rw [HW.out.cell (p := ⟨b', p' + k * 9 + 5, none⟩) hb']; simpa using hc 5 _ rfl
      have c6 : wr.cell? ⟨b', p' + k * 9 + 6, none⟩ = some (.int .i64 vxc) := by rw [HW.out.cell (p := ⟨b', p' + k * 9 + 6, none⟩) hb']; simpa using hc 6 _ rfl
      have c7 : wr.cell? ⟨b', p' + k * 9 + 7, none⟩ = some (.int .i64 vln) := by rw [HW.out.cell (p := ⟨b', p' + k * 9 + 7, none⟩) hb']; simpa using hc 7 _ rfl
      have c8 : wr.cell? ⟨b', p' + k * 9 + 8, none⟩ = some (.int .i64 vcn) := by rw [HW.out.cell (p := ⟨b', p' + k * 9 + 8, none⟩) hb']; simpa using hc 8 _ rfl
      have d0 : wr.cell? ⟨b2, p2 + k * 9, none⟩ = some (.string unb) := by rw [HW.out.cell (p := ⟨b2, p2 + k * 9, none⟩) hb2]; simpa using hd 0 _ rfl
      have d1 : wr.cell? ⟨b2, p2 + k * 9 + 1, none⟩ = some (.int .i64 uo) := by rw [HW.out.cell (p := ⟨b2, p2 + k * 9 + 1, none⟩) hb2]; simpa using hd 1 _ rfl
      have d2 : wr.cell? ⟨b2, p2 + k * 9 + 2, none⟩ = some (.int .i64 un) := by rw [HW.out.cell (p := ⟨b2, p2 + k * 9 + 2, none⟩) hb2]; simpa using hd 2 _ rfl
      have d3 : wr.cell? ⟨b2, p2 + k * 9 + 3, none⟩ = some (.string usb) := by rw [HW.out.cell (p := ⟨b2, p2 + k * 9 + 3, none⟩) hb2]; simpa using hd 3 _ rfl
      have d4 : wr.cell? ⟨b2, p2 + k * 9 + 4, none⟩ = some (.slice uA um ucap) := by rw [HW.out.cell (p := ⟨b2, p2 + k * 9 + 4, none⟩) hb2]; simpa using hd 4 _ rfl
      have d5 : wr.cell? ⟨b2, p2 + k * 9 + 5, none⟩ = some (.int .i64 uxl) := by rw [HW.out.cell (p := ⟨b2, p2 + k * 9 + 5, none⟩) hb2]; simpa using hd 5 _ rfl
      have d6 : wr.cell? ⟨b2, p2 + k * 9 + 6, none⟩ = some (.int .i64 uxc) := by rw [HW.out.cell (p := ⟨b2, p2 + k * 9 + 6, none⟩) hb2]; simpa using hd 6 _ rfl
      have d7 : wr.cell? ⟨b2, p2 + k * 9 + 7, none⟩ = some (.int .i64 uln) := by rw [HW.out.cell (p := ⟨b2, p2 + k * 9 + 7, none⟩) hb2]; simpa using hd 7 _ rfl
      have d8 : wr.cell? ⟨b2, p2 + k * 9 + 8, none⟩ = some (.int .i64 ucn) := by rw [HW.out.cell (p := ⟨b2, p2 + k * 9 + 8, none⟩) hb2]; simpa using hd 8 _ rfl
      have HBA : Hid (Below wr.heap.size wr ((wr.alloc (.cells #[.string vnb, .int .i64 vo, .int .i64 vn, .string vsb, .slice vA vm vcap, .int .i64 vxl, .int .i64 vxc, .int .i64 vln, .int .i64 vcn] 105)).alloc (.cells #[.string unb, .int .i64 uo, .int .i64 un, .string usb, .slice uA um ucap, .int .i64 uxl, .int .i64 uxc, .int .i64 uln, .int .i64 ucn] 105))) := (below_alloc wr _).alloc (by simp) _
      have HC2 := Lib.hid (HP.out x (List.mem_of_getElem? hx) y (List.mem_of_getElem? hy) _ _ _ (HW.out.trans (HBA.out.mono HW.out.size)) hR hR2)
      have HX := Lib.hid hx
      have HYY := Lib.hid hy
      clear hx hk' hy hk2 hc hd hR hR2
      rcases hr : r x y with _ | _
      · rw [hr] at HC2
        have HRx := Lib.hid hr
        clear hr
        go_wp2_with (go_at_fn f; refine HC2.out.mono ?_; rintro e w' ⟨rfl, hB2⟩)
        go_ret
        refine ⟨ret_bool ?_, HW.out.trans ((HBA.out.trans (hB2.mono HBA.out.size)).mono HW.out.size)⟩
        rw [eq_comm, Bool.eq_false_iff]
        intro e
        have := HS.out.1 e k x y HX.out HYY.out
        rw [HRx.out] at this
        cases this
      · rw [hr] at HC2
        have HRx := Lib.hid hr
        clear hr
        go_wp2_with (go_at_fn f; refine HC2.out.mono ?_; rintro e w' ⟨rfl, hB2⟩)
        go_roundw
        case rel =>
          refine ⟨k + 1, by omega, by go_num, HW.out.trans ((HBA.out.trans (hB2.mono HBA.out.size)).mono HW.out.size), fun j x' y' hj hx' hy' => ?_⟩
          by_cases e : j = k
          · subst e
            have e1 := HX.out.symm.trans hx'
            injection e1 with e1
            have e2 := HYY.out.symm.trans hy'
            injection e2 with e2
            rw [← e1, ← e2]; exact HRx.out
          · exact HA.out j x' y' (by omega) hx' hy'
        case measure => simp [intOf]; omega
    · have t1 : decide ((k : Int) < (m : Int)) = false := decide_eq_false (by omega)
      have t2 : decide (k < m) = false := decide_eq_false hlt
      go_wp2
      go_ret
      refine ⟨ret_bool ?_, HW.out⟩
      rw [eq_comm]
      exact HS.out.2 fun j x y hx hy => HA.out j x y (by
        have := HM.out
        rcases Nat.lt_or_ge j ks.length with h' | h'
        · omega
        · rw [List.getElem?_eq_none h'] at hx; cases hx) hx hy
end Go.Proofs.YtnlepdkbcjjkdaaGreatDoor
