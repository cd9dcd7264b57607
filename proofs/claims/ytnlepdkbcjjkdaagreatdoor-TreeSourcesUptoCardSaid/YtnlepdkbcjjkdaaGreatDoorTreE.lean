/- Package tree: Right; which kid is the first; numbered, writable. -/
import Derived.Test.YtnlepdkbcjjkdaaGreatDoorTreD
namespace Go.Proofs.YtnlepdkbcjjkdaaGreatDoor
open Go.RowKit TreM WrdM

theorem right_any (X : Ex) (v : Value) (w : World) (h : ExV w X v) :
    Calls Tryz.prog 11 #[v] w fun e w' => e = .returned (.bool (rightB X)) ∧ Below w.heap.size w w' := by
  cases X with
  | mk o n s ks l c =>
  obtain ⟨A, cap, rfl, hB, hK⟩ := h.open
  have HC := Lib.hid (rightP_any _ _ 0 60 _ (box_alloc h) (by decide))
  have HB := Lib.hid (below_alloc w (.cells #[.int .i64 o, .int .i64 n, .string ⟨s.toArray⟩, .slice A ks.length cap, .int .i64 l, .int .i64 c] 40))
  have HE : Hid (rightB (.mk o n s ks l c) = rB 60 (.mk o n s ks l c)) := rfl
  generalize rightB (.mk o n s ks l c) = R at *
  generalize rB 60 (.mk o n s ks l c) = N at *
  generalize ks.length = m at *
  generalize (⟨s.toArray⟩ : ByteArray) = sb at *
  clear h hB hK
  go_enter Tryz.func11, Tryz.ntmps11
  go_wp2_with (refine HC.out.mono ?_; rintro e w' ⟨rfl, hB1⟩)
  go_ret
  exact ⟨ret_bool HE.out.symm, HB.out.trans (hB1.mono HB.out.size)⟩

/-- The value that is loaded from a kid's place. -/
theorem kid_val {W : World} {b p : Nat} {X : Ex} (h : ExP W b p X) : ∃ (o n : Int) (sb : ByteArray) (A : Option Addr) (m cap : Nat) (l c : Int), W.cell? ⟨b, p, none⟩ = some (.int .i64 o) ∧ W.cell? ⟨b, p + 1, none⟩ = some (.int .i64 n) ∧ W.cell? ⟨b, p + 2, none⟩ = some (.string sb) ∧ W.cell? ⟨b, p + 3, none⟩ = some (.slice A m cap) ∧ W.cell? ⟨b, p + 4, none⟩ = some (.int .i64 l) ∧ W.cell? ⟨b, p + 5, none⟩ = some (.int .i64 c) ∧
    ExV W X (.agg #[.int .i64 o, .int .i64 n, .string sb, .slice A m cap, .int .i64 l, .int .i64 c]) := by
  cases X with
  | mk o n s ks l c =>
  obtain ⟨A, cap, h6, _, _⟩ := h.open
  exact ⟨_, _, _, _, _, _, _, _, h6.c0, h6.c1, h6.c2, h6.c3, h6.c4, h6.c5, h.val h6⟩
theorem any_take {ks : List Ex} {f : Ex → Bool} (h : ∀ j x, j < ks.length → ks[j]? = some x → f x = false) : ks.any f = false := by
  rw [Bool.eq_false_iff]
  intro e
  obtain ⟨x, hx, hf⟩ := List.any_eq_true.1 e
  obtain ⟨j, hj⟩ := List.getElem?_of_mem hx
  have := h j x (by
    rcases Nat.lt_or_ge j ks.length with h' | h'
    · exact h'
    · rw [List.getElem?_eq_none h'] at hj; cases hj) hj
  rw [this] at hf
  cases hf

set_option maxHeartbeats 1600000 in
theorem indexE_any (f : Nat) (lb : Array Value) (eg : ∀ args w, (callFunc f args).run Tryz.prog w = .ok (.enter f args) w) (p : Ex → Bool) (ks : List Ex) (A : Option Addr) (cap : Nat) (w : World) (hK : KdsAt w A ks) (hmc : ks.length ≤ cap) (hcap : cap ≤ 9223372036854775807)
    (hp : ∀ k ∈ ks, ∀ v W, Below w.heap.size w W → ExV W k v → Calls Tryz.prog f (#[v] ++ lb) W fun e w' => e = .returned (.bool (p k)) ∧ Below W.heap.size W w') :
    Calls Tryz.prog 107 #[.slice A ks.length cap, .func (.func f) #[] lb] w fun e w' => (∃ r : Int, e = .returned (.int .i64 r) ∧ decide (0 ≤ r) = ks.any p) ∧ Below w.heap.size w w' := by
  obtain ⟨m, hm⟩ : ∃ m, m = ks.length := ⟨_, rfl⟩
  have HM := Lib.hid hm
  have HK := Lib.hid hK
  have HP := Lib.hid hp
  rw [← hm] at hmc ⊢
  clear hm hK hp
  go_enter Tryz.func107, Tryz.ntmps107
  go_wp2
  go_loopw [5, 8] (fun _ i wr => ∃ k : Nat, k ≤ m ∧ i = .int .i64 k ∧ Hid (Below w.heap.size w wr) ∧ Hid (∀ j x, j < k → ks[j]? = some x → p x = false)) (fun _ i _ => m - (intOf i).toNat)
  case atStart => exact ⟨0, Nat.zero_le _, rfl, Below.refl _ _, fun j x hj => absurd hj (by omega)⟩
  case round =>
    obtain ⟨k, hk, rfl, HW, HA⟩ := hrel
    by_cases hlt : k < m
    · have t1 : decide ((k : Int) < (m : Int)) = true := decide_eq_true (by omega)
      have t2 : decide (k < m) = true := decide_eq_true hlt
      obtain ⟨x, hx⟩ := get_ex (ks := ks) (k := k) (by rw [← HM.out]; exact hlt)
      rcases HK.out with hK | ⟨b', p', rfl, hb', hk'⟩
      · exfalso; rw [hK] at hx; simp at hx
      obtain ⟨vo, vn, vs, va, vm, vk, vl, vc, c0, c1, c2, c3, c4, c5, hv⟩ := kid_val ((hk' k x hx).below HW.out hb')
      have HC := HP.out x (List.mem_of_getElem? hx) _ wr HW.out hv
      have HX := Lib.hid hx
      clear hx hk' hv
      rcases hr : p x with _ | _
      · rw [hr] at HC
        have HC := Lib.hid HC
        have HRx := Lib.hid hr
        clear hr
        go_wp2_with (go_at_fn f; refine HC.out.mono ?_; rintro e w' ⟨rfl, hB2⟩)
        go_roundw
        case rel =>
          refine ⟨k + 1, by omega, by go_num, HW.out.trans (hB2.mono HW.out.size), fun j y hj hy => ?_⟩
          by_cases e : j = k
          · subst e
            have := HX.out.symm.trans hy
            injection this with this
            rw [← this]; exact HRx.out
          · exact HA.out j y (by omega) hy
        case measure => simp [intOf]; omega
      · rw [hr] at HC
        have HC := Lib.hid HC
        have HRx := Lib.hid hr
        clear hr
        go_wp2_with (go_at_fn f; refine HC.out.mono ?_; rintro e w' ⟨rfl, hB2⟩)
        go_ret
        refine ⟨⟨_, rfl, ?_⟩, HW.out.trans (hB2.mono HW.out.size)⟩
        rw [List.any_eq_true.2 ⟨x, List.mem_of_getElem? HX.out, HRx.out⟩]
        exact decide_eq_true (by omega)
    · have t1 : decide ((k : Int) < (m : Int)) = false := decide_eq_false (by omega)
      have t2 : decide (k < m) = false := decide_eq_false hlt
      go_wp2
      go_ret
      refine ⟨⟨_, rfl, ?_⟩, HW.out⟩
      rw [any_take fun j x hj hx => HA.out j x (by have := HM.out; omega) hx]
      rfl
theorem containsE_any (f : Nat) (lb : Array Value) (eg : ∀ args w, (callFunc f args).run Tryz.prog w = .ok (.enter f args) w) (p : Ex → Bool) (ks : List Ex) (A : Option Addr) (cap : Nat) (w : World) (hK : KdsAt w A ks) (hmc : ks.length ≤ cap) (hcap : cap ≤ 9223372036854775807)
    (hp : ∀ k ∈ ks, ∀ v W, Below w.heap.size w W → ExV W k v → Calls Tryz.prog f (#[v] ++ lb) W fun e w' => e = .returned (.bool (p k)) ∧ Below W.heap.size W w') :
    Calls Tryz.prog 84 #[.slice A ks.length cap, .func (.func f) #[] lb] w fun e w' => e = .returned (.bool (ks.any p)) ∧ Below w.heap.size w w' := by
  have HC := Lib.hid (indexE_any f lb eg p ks A cap w hK hmc hcap hp)
  clear hp
  generalize ks.any p = R at *
  generalize ks.length = m at *
  go_enter Tryz.func84, Tryz.ntmps84
  go_wp2_with (refine HC.out.mono ?_; rintro e w' ⟨⟨r, rfl, hr⟩, hB1⟩)
  go_ret
  exact ⟨rfl, hB1⟩

theorem eg_num : ∀ args w, (callFunc 101 args).run Tryz.prog w = .ok (.enter 101 args) w := enters_of Tryz.func101 (by kernel_rfl) rfl
theorem hasL_any (p : Int) : ∀ ks : List Ex, hasL p ks = ks.any (hasOp p)
  | [] => rfl
  | y :: ys => by rw [hasL, List.any_cons, hasL_any p ys]
theorem numbered_of {X : Ex} (hp : ∀ (b p : Nat) (w : World), ExP w b p X → Calls Tryz.prog 70 #[.pointer (some ⟨b, p, none⟩)] w fun e w' => e = .returned (.bool (hasOp 4 X)) ∧ Below w.heap.size w w') (v : Value) (w : World) (h : ExV w X v) :
    Calls Tryz.prog 101 #[v] w fun e w' => e = .returned (.bool (hasOp 4 X)) ∧ Below w.heap.size w w' := by
  cases X with
  | mk o n s ks l c =>
  obtain ⟨A, cap, rfl, hB, hK⟩ := h.open
  have HC := Lib.hid (hp _ 0 _ (box_alloc h))
  have HB := Lib.hid (below_alloc w (.cells #[.int .i64 o, .int .i64 n, .string ⟨s.toArray⟩, .slice A ks.length cap, .int .i64 l, .int .i64 c] 40))
  generalize hasOp 4 (.mk o n s ks l c) = N at *
  generalize ks.length = m at *
  generalize (⟨s.toArray⟩ : ByteArray) = sb at *
  clear h hB hK hp
  go_enter Tryz.func101, Tryz.ntmps101
  go_wp2_with (refine HC.out.mono ?_; rintro e w' ⟨rfl, hB1⟩)
  go_ret
  exact ⟨rfl, HB.out.trans (hB1.mono HB.out.size)⟩
theorem numbered_any : ∀ X : Ex, ∀ (b p : Nat) (w : World), ExP w b p X → Calls Tryz.prog 70 #[.pointer (some ⟨b, p, none⟩)] w fun e w' => e = .returned (.bool (hasOp 4 X)) ∧ Below w.heap.size w w' := by
  apply Ex.ind (P := fun X => ∀ (b p : Nat) (w : World), ExP w b p X → Calls Tryz.prog 70 #[.pointer (some ⟨b, p, none⟩)] w fun e w' => e = .returned (.bool (hasOp 4 X)) ∧ Below w.heap.size w w')
  intro o n s ks l c ih b p w h
  obtain ⟨A, cap, h6, hB, hK⟩ := h.open
  obtain ⟨c0, c1, c2, c3, c4, c5⟩ := h6
  have hE : hasOp 4 (.mk o n s ks l c) = (decide (o = 4) || ks.any (hasOp 4)) := by rw [hasOp, hasL_any]
  have HC := Lib.hid (containsE_any 101 #[] eg_num (hasOp 4) ks A cap w hK hB.m hB.cap (fun k hk v W _ hv => numbered_of (ih k hk) v W hv))
  rw [hE]
  clear h hE ih hK hB
  generalize ks.any (hasOp 4) = R at *
  generalize ks.length = m at *
  generalize (⟨s.toArray⟩ : ByteArray) = sb at *
  by_cases h4 : o = 4
  · have t4 : (o == 4) = true := by rw [beq_iff_eq]; exact h4
    rw [decide_eq_true h4, Bool.true_or]
    clear h4
    go_enter Tryz.func70, Tryz.ntmps70
    go_wp2
    go_ret
    exact ⟨rfl, Below.refl _ _⟩
  · have t4 : (o == 4) = false := by rw [beq_eq_false_iff_ne]; exact h4
    rw [decide_eq_false h4, Bool.false_or]
    clear h4
    go_enter Tryz.func70, Tryz.ntmps70
    go_wp2_with (refine HC.out.mono ?_; rintro e w' ⟨rfl, hB1⟩)
    go_ret
    exact ⟨rfl, hB1⟩
theorem writable_any (X : Ex) (b p : Nat) (w : World) (h : ExP w b p X) : Calls Tryz.prog 37 #[.pointer (some ⟨b, p, none⟩)] w fun e w' => e = .returned (.bool (writB X)) ∧ Below w.heap.size w w' := by
  have HC := Lib.hid (rightP_any X b p 60 w h (by decide))
  have HN : Hid (∀ W, Below w.heap.size w W → Calls Tryz.prog 70 #[.pointer (some ⟨b, p, none⟩)] W fun e w' => e = .returned (.bool (hasOp 4 X)) ∧ Below W.heap.size W w') := fun W hW => numbered_any X b p W (h.below hW h.lt)
  have hE : writB X = (rB 60 X && !hasOp 4 X) := rfl
  rw [hE]
  clear hE h
  generalize hasOp 4 X = N at *
  rcases hr : rB 60 X with _ | _
  · rw [hr] at HC
    clear hr
    go_enter Tryz.func37, Tryz.ntmps37
    go_wp2_with (refine HC.out.mono ?_; rintro e w' ⟨rfl, hB1⟩)
    go_ret
    exact ⟨rfl, hB1⟩
  · rw [hr] at HC
    clear hr
    go_enter Tryz.func37, Tryz.ntmps37
    go_wp2_with fail
    refine HC.out.mono ?_
    rintro e w1 ⟨rfl, hB1⟩
    have HN1 := Lib.hid (HN.out w1 hB1)
    have HB1 := Lib.hid hB1
    clear hB1
    go_wp2_with (refine HN1.out.mono ?_; rintro e w' ⟨rfl, hB2⟩)
    go_ret
    exact ⟨rfl, HB1.out.trans (hB2.mono HB1.out.size)⟩
end Go.Proofs.YtnlepdkbcjjkdaaGreatDoor
