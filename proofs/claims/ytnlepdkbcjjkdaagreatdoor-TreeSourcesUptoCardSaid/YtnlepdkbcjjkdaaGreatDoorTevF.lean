/- Package tree: every at further types of element. -/
import Derived.Test.YtnlepdkbcjjkdaaGreatDoorTevE
namespace Go.Proofs.YtnlepdkbcjjkdaaGreatDoor
open Go.RowKit TreM WrdM

set_option maxHeartbeats 1600000 in
theorem indexDecl_any {α : Type} (f : Nat) (lb : Array Value) (eg : ∀ args w, (callFunc f args).run Tryz.prog w = .ok (.enter f args) w) (p : α → Bool) (R : α → List Value → Prop) (xs : List α) (A : Option Addr) (cap : Nat) (w : World) (hK : SlAt w R 7 A xs) (hmc : xs.length ≤ cap) (hcap : cap ≤ 9223372036854775807)
    (hp : ∀ x ∈ xs, ∀ cs W, Below w.heap.size w W → cs.length = 7 → R x cs → Calls Tryz.prog f (#[.agg cs.toArray] ++ lb) W fun e w' => e = .returned (.bool (p x)) ∧ Below W.heap.size W w') :
    Calls Tryz.prog 82 #[.slice A xs.length cap, .func (.func f) #[] lb] w fun e w' => (∃ r : Int, e = .returned (.int .i64 r) ∧ decide (0 ≤ r) = xs.any p) ∧ Below w.heap.size w w' := by
  obtain ⟨m, hm⟩ : ∃ m, m = xs.length := ⟨_, rfl⟩
  have HM := Lib.hid hm
  have HK := Lib.hid hK
  have HP := Lib.hid hp
  rw [← hm] at hmc ⊢
  clear hm hK hp
  go_enter Tryz.func82, Tryz.ntmps82
  go_wp2
  go_loopw [5, 8] (fun _ i wr => ∃ k : Nat, k ≤ m ∧ i = .int .i64 k ∧ Hid (Below w.heap.size w wr) ∧ Hid (∀ j x, j < k → xs[j]? = some x → p x = false)) (fun _ i _ => m - (intOf i).toNat)
  case atStart => exact ⟨0, Nat.zero_le _, rfl, Below.refl _ _, fun j x hj => absurd hj (by omega)⟩
  case round =>
    obtain ⟨k, hk, rfl, HW, HA⟩ := hrel
    by_cases hlt : k < m
    · have t1 : decide ((k : Int) < (m : Int)) = true := decide_eq_true (by omega)
      have t2 : decide (k < m) = true := decide_eq_true hlt
      obtain ⟨x, hx⟩ := get_el (ks := xs) (k := k) (by rw [← HM.out]; exact hlt)
      rcases HK.out with hK | ⟨b', p', rfl, hb', hk'⟩
      · exfalso; rw [hK] at hx; simp at hx
      obtain ⟨cs, hl, hc, hR⟩ := hk' k x hx
      match cs, hl, hc, hR with
      | [v0, v1, v2, v3, v4, v5, v6], _, hc, hR =>
      have hcw : ∀ i u, [v0, v1, v2, v3, v4, v5, v6][i]? = some u → wr.cell? ⟨b', p' + k * 7 + i, none⟩ = some u := fun i u hu => by rw [HW.out.cell (p := ⟨b', p' + k * 7 + i, none⟩) hb']; exact hc i u hu
      have c0 : wr.cell? ⟨b', p' + k * 7, none⟩ = some v0 := by simpa using hcw 0 v0 rfl
      have c1 : wr.cell? ⟨b', p' + k * 7 + 1, none⟩ = some v1 := by simpa using hcw 1 v1 rfl
      have c2 : wr.cell? ⟨b', p' + k * 7 + 2, none⟩ = some v2 := by simpa using hcw 2 v2 rfl
      have c3 : wr.cell? ⟨b', p' + k * 7 + 3, none⟩ = some v3 := by simpa using hcw 3 v3 rfl
      have c4 : wr.cell? ⟨b', p' + k * 7 + 4, none⟩ = some v4 := by simpa using hcw 4 v4 rfl
      have c5 : wr.cell? ⟨b', p' + k * 7 + 5, none⟩ = some v5 := by simpa using hcw 5 v5 rfl
      have c6 : wr.cell? ⟨b', p' + k * 7 + 6, none⟩ = some v6 := by simpa using hcw 6 v6 rfl
      have HC := HP.out x (List.mem_of_getElem? hx) _ wr HW.out rfl hR
      have HX := Lib.hid hx
      clear hx hk' hc hcw hR
      rcases hr : p x with _ | _
      · rw [hr] at HC
        have HC := Lib.hid HC
        have HRx := Lib.hid hr
        clear hr
        go_wp2_with (go_at_fn f; refine HC.out.mono ?_; rintro e w' ⟨rfl, hB2⟩)
        go_roundw
        case rel =>
          refine ⟨k + 1, by omega, by go_num, HW.out.trans (hB2.mono HW.out.size), fun j y hj hy => ?_⟩
          by_cases e : j = k
          · subst e
            have := HX.out.symm.trans hy
            injection this with this
            rw [← this]; exact HRx.out
          · exact HA.out j y (by omega) hy
        case measure => simp [intOf]; omega
      · rw [hr] at HC
        have HC := Lib.hid HC
        have HRx := Lib.hid hr
        clear hr
        go_wp2_with (go_at_fn f; refine HC.out.mono ?_; rintro e w' ⟨rfl, hB2⟩)
        go_ret
        refine ⟨⟨_, rfl, ?_⟩, HW.out.trans (hB2.mono HW.out.size)⟩
        rw [List.any_eq_true.2 ⟨x, List.mem_of_getElem? HX.out, HRx.out⟩]
        exact decide_eq_true (by omega)
    · have t1 : decide ((k : Int) < (m : Int)) = false := decide_eq_false (by omega)
      have t2 : decide (k < m) = false := decide_eq_false hlt
      go_wp2
      go_ret
      refine ⟨⟨_, rfl, ?_⟩, HW.out⟩
      rw [any_none fun j x hj hx => HA.out j x (by have := HM.out; omega) hx]
      rfl
theorem containsDecl_any {α : Type} (f : Nat) (lb : Array Value) (eg : ∀ args w, (callFunc f args).run Tryz.prog w = .ok (.enter f args) w) (p : α → Bool) (R : α → List Value → Prop) (xs : List α) (A : Option Addr) (cap : Nat) (w : World) (hK : SlAt w R 7 A xs) (hmc : xs.length ≤ cap) (hcap : cap ≤ 9223372036854775807)
    (hp : ∀ x ∈ xs, ∀ cs W, Below w.heap.size w W → cs.length = 7 → R x cs → Calls Tryz.prog f (#[.agg cs.toArray] ++ lb) W fun e w' => e = .returned (.bool (p x)) ∧ Below W.heap.size W w') :
    Calls Tryz.prog 45 #[.slice A xs.length cap, .func (.func f) #[] lb] w fun e w' => e = .returned (.bool (xs.any p)) ∧ Below w.heap.size w w' := by
  have HC := Lib.hid (indexDecl_any f lb eg p R xs A cap w hK hmc hcap hp)
  clear hp
  generalize xs.any p = Q at *
  generalize xs.length = m at *
  go_enter Tryz.func45, Tryz.ntmps45
  go_wp2_with (refine HC.out.mono ?_; rintro e w' ⟨⟨r, rfl, hr⟩, hB1⟩)
  go_ret
  exact ⟨rfl, hB1⟩
theorem eg_evDecl : ∀ args w, (callFunc 46 args).run Tryz.prog w = .ok (.enter 46 args) w := enters_of Tryz.func46 (by kernel_rfl) rfl
set_option maxRecDepth 100000 in
theorem evcDecl_any (f : Nat) (eg : ∀ args w, (callFunc f args).run Tryz.prog w = .ok (.enter f args) w) (r : Bool) (cs : List Value) (g : Nat) (w : World) (hl : cs.length = 7) (hg : w.cell? ⟨g, 0, none⟩ = some (.func (.func f) #[] #[])) (_hgl : g < w.heap.size)
    (hp : ∀ W, Below w.heap.size w W → Calls Tryz.prog f #[.agg cs.toArray] W fun e w' => e = .returned (.bool r) ∧ Below W.heap.size W w') :
    Calls Tryz.prog 46 #[.agg cs.toArray, .pointer (some ⟨g, 0, none⟩)] w fun e w' => e = .returned (.bool (!r)) ∧ Below w.heap.size w w' := by
  match cs, hl, hp with
  | [v0, v1, v2, v3, v4, v5, v6], _, hp =>
  have hal := below_alloc w (.cells #[v0, v1, v2, v3, v4, v5, v6] 52)
  have HC := Lib.hid (hp _ hal)
  have HB := Lib.hid hal
  have hg2 : (w.alloc (.cells #[v0, v1, v2, v3, v4, v5, v6] 52)).cell? ⟨g, 0, none⟩ = some (.func (.func f) #[] #[]) := (hal.cell (p := ⟨g, 0, none⟩) _hgl).trans hg
  clear hp hal
  go_enter Tryz.func46, Tryz.ntmps46
  go_wp2_with (go_at_fn f; refine HC.out.mono ?_; rintro e w' ⟨rfl, hB1⟩)
  go_ret
  exact ⟨rfl, HB.out.trans (hB1.mono HB.out.size)⟩
set_option maxRecDepth 100000 in
theorem everyDecl_any {α : Type} (f : Nat) (eg : ∀ args w, (callFunc f args).run Tryz.prog w = .ok (.enter f args) w) (p : α → Bool) (R : α → List Value → Prop) (xs : List α) (A : Option Addr) (cap : Nat) (w : World) (hK : SlAt w R 7 A xs) (hmc : xs.length ≤ cap) (hcap : cap ≤ 9223372036854775807)
    (hp : ∀ x ∈ xs, ∀ cs W, Below w.heap.size w W → cs.length = 7 → R x cs → Calls Tryz.prog f #[.agg cs.toArray] W fun e w' => e = .returned (.bool (p x)) ∧ Below W.heap.size W w') :
    Calls Tryz.prog 16 #[.slice A xs.length cap, .func (.func f) #[] #[]] w fun e w' => e = .returned (.bool (decide (xs.length ≤ 32) && xs.all p)) ∧ Below w.heap.size w w' := by
  have hal := below_alloc w (.cells #[.func (.func f) #[] #[]] 53)
  have hg := Lib.cell_of_heap (blk_new w (.cells #[.func (.func f) #[] #[]] 53)) 0
  have hlt : w.heap.size < (w.alloc (.cells #[.func (.func f) #[] #[]] 53)).heap.size := by simp
  have HC := Lib.hid (containsDecl_any 46 #[.pointer (some ⟨w.heap.size, 0, none⟩)] eg_evDecl (fun x => !p x) R xs A cap (w.alloc (.cells #[.func (.func f) #[] #[]] 53)) (hK.below hal fun _ _ _ h => h) hmc hcap (fun x hx cs W hW hl hR =>
    evcDecl_any f eg (p x) cs w.heap.size W hl ((hW.cell (p := ⟨w.heap.size, 0, none⟩) hlt).trans hg) (Nat.lt_of_lt_of_le hlt hW.size) (fun W' hW' => hp x hx cs W' (hal.trans ((hW.trans (hW'.mono hW.size)).mono hal.size)) hl hR)))
  rw [any_not] at HC
  have HB := Lib.hid hal
  have hmf : ∀ (fn : Fn) (first cap : Array Value) (w : World), (Instr.makeFunc fn first cap).run Tryz.prog w = .ok (.func fn first cap) w := fun _ _ _ _ => rfl
  clear hp hal hg hlt hK
  generalize xs.all p = Q at *
  generalize xs.length = m at *
  by_cases h32 : m ≤ 32
  · have t1 : decide ((m : Int) ≤ 32) = true := decide_eq_true (by omega)
    rw [decide_eq_true h32, Bool.true_and]
    clear h32
    go_enter Tryz.func16, Tryz.ntmps16
    go_wp2_with (refine HC.out.mono ?_; rintro e w' ⟨rfl, hB1⟩)
    go_ret
    exact ⟨ret_bool (by simp), HB.out.trans (hB1.mono HB.out.size)⟩
  · have t1 : decide ((m : Int) ≤ 32) = false := decide_eq_false (by omega)
    rw [decide_eq_false h32, Bool.false_and]
    clear h32
    go_enter Tryz.func16, Tryz.ntmps16
    go_wp2
    go_ret
    exact ⟨rfl, HB.out⟩

set_option maxHeartbeats 1600000 in
theorem indexExpr_any {α : Type} (f : Nat) (lb : Array Value) (eg : ∀ args w, (callFunc f args).run Tryz.prog w = .ok (.enter f args) w) (p : α → Bool) (R : α → List Value → Prop) (xs : List α) (A : Option Addr) (cap : Nat) (w : World) (hK : SlAt w R 6 A xs) (hmc : xs.length ≤ cap) (hcap : cap ≤ 9223372036854775807)
    (hp : ∀ x ∈ xs, ∀ cs W, Below w.heap.size w W → cs.length = 6 → R x cs → Calls Tryz.prog f (#[.agg cs.toArray] ++ lb) W fun e w' => e = .returned (.bool (p x)) ∧ Below W.heap.size W w') :
    Calls Tryz.prog 107 #[.slice A xs.length cap, .func (.func f) #[] lb] w fun e w' => (∃ r : Int, e = .returned (.int .i64 r) ∧ decide (0 ≤ r) = xs.any p) ∧ Below w.heap.size w w' := by
  obtain ⟨m, hm⟩ : ∃ m, m = xs.length := ⟨_, rfl⟩
  have HM := Lib.hid hm
  have HK := Lib.hid hK
  have HP := Lib.hid hp
  rw [← hm] at hmc ⊢
  clear hm hK hp
  go_enter Tryz.func107, Tryz.ntmps107
  go_wp2
  go_loopw [5, 8] (fun _ i wr => ∃ k : Nat, k ≤ m ∧ i = .int .i64 k ∧ Hid (Below w.heap.size w wr) ∧ Hid (∀ j x, j < k → xs[j]? = some x → p x = false)) (fun _ i _ => m - (intOf i).toNat)
  case atStart => exact ⟨0, Nat.zero_le _, rfl, Below.refl _ _, fun j x hj => absurd hj (by omega)⟩
  case round =>
    obtain ⟨k, hk, rfl, HW, HA⟩ := hrel
    by_cases hlt : k < m
    · have t1 : decide ((k : Int) < (m : Int)) = true := decide_eq_true (by omega)
      have t2 : decide (k < m) = true := decide_eq_true hlt
      obtain ⟨x, hx⟩ := get_el (ks := xs) (k := k) (by rw [← HM.out]; exact hlt)
      rcases HK.out with hK | ⟨b', p', rfl, hb', hk'⟩
      · exfalso; rw [hK] at hx; simp at hx
      obtain ⟨cs, hl, hc, hR⟩ := hk' k x hx
      match cs, hl, hc, hR with
      | [v0, v1, v2, v3, v4, v5], _, hc, hR =>
      have hcw : ∀ i u, [v0, v1, v2, v3, v4, v5][i]? = some u → wr.cell? ⟨b', p' + k * 6 + i, none⟩ = some u := fun i u hu => by rw [HW.out.cell (p := ⟨b', p' + k * 6 + i, none⟩) hb']; exact hc i u hu
      have c0 : wr.cell? ⟨b', p' + k * 6, none⟩ = some v0 := by simpa using hcw 0 v0 rfl
      have c1 : wr.cell? ⟨b', p' + k * 6 + 1, none⟩ = some v1 := by simpa using hcw 1 v1 rfl
      have c2 : wr.cell? ⟨b', p' + k * 6 + 2, none⟩ = some v2 := by simpa using hcw 2 v2 rfl
      have c3 : wr.cell? ⟨b', p' + k * 6 + 3, none⟩ = some v3 := by simpa using hcw 3 v3 rfl
      have c4 : wr.cell? ⟨b', p' + k * 6 + 4, none⟩ = some v4 := by simpa using hcw 4 v4 rfl
      have c5 : wr.cell? ⟨b', p' + k * 6 + 5, none⟩ = some v5 := by simpa using hcw 5 v5 rfl
      have HC := HP.out x (List.mem_of_getElem? hx) _ wr HW.out rfl hR
      have HX := Lib.hid hx
      clear hx hk' hc hcw hR
      rcases hr : p x with _ | _
      · rw [hr] at HC
        have HC := Lib.hid HC
        have HRx := Lib.hid hr
        clear hr
        go_wp2_with (go_at_fn f; refine HC.out.mono ?_; rintro e w' ⟨rfl, hB2⟩)
        go_roundw
        case rel =>
          refine ⟨k + 1, by omega, by go_num, HW.out.trans (hB2.mono HW.out.size), fun j y hj hy => ?_⟩
          by_cases e : j = k
          · subst e
            have := HX.out.symm.trans hy
            injection this with this
            rw [← this]; exact HRx.out
          · exact HA.out j y (by omega) hy
        case measure => simp [intOf]; omega
      · rw [hr] at HC
        have HC := Lib.hid HC
        have HRx := Lib.hid hr
        clear hr
        go_wp2_with (go_at_fn f; refine HC.out.mono ?_; rintro e w' ⟨rfl, hB2⟩)
        go_ret
        refine ⟨⟨_, rfl, ?_⟩, HW.out.trans (hB2.mono HW.out.size)⟩
        rw [List.any_eq_true.2 ⟨x, List.mem_of_getElem? HX.out, HRx.out⟩]
        exact decide_eq_true (by omega)
    · have t1 : decide ((k : Int) < (m : Int)) = false := decide_eq_false (by omega)
      have t2 : decide (k < m) = false := decide_eq_false hlt
      go_wp2
      go_ret
      refine ⟨⟨_, rfl, ?_⟩, HW.out⟩
      rw [any_none fun j x hj hx => HA.out j x (by have := HM.out; omega) hx]
      rfl
theorem containsExpr_any {α : Type} (f : Nat) (lb : Array Value) (eg : ∀ args w, (callFunc f args).run Tryz.prog w = .ok (.enter f args) w) (p : α → Bool) (R : α → List Value → Prop) (xs : List α) (A : Option Addr) (cap : Nat) (w : World) (hK : SlAt w R 6 A xs) (hmc : xs.length ≤ cap) (hcap : cap ≤ 9223372036854775807)
    (hp : ∀ x ∈ xs, ∀ cs W, Below w.heap.size w W → cs.length = 6 → R x cs → Calls Tryz.prog f (#[.agg cs.toArray] ++ lb) W fun e w' => e = .returned (.bool (p x)) ∧ Below W.heap.size W w') :
    Calls Tryz.prog 84 #[.slice A xs.length cap, .func (.func f) #[] lb] w fun e w' => e = .returned (.bool (xs.any p)) ∧ Below w.heap.size w w' := by
  have HC := Lib.hid (indexExpr_any f lb eg p R xs A cap w hK hmc hcap hp)
  clear hp
  generalize xs.any p = Q at *
  generalize xs.length = m at *
  go_enter Tryz.func84, Tryz.ntmps84
  go_wp2_with (refine HC.out.mono ?_; rintro e w' ⟨⟨r, rfl, hr⟩, hB1⟩)
  go_ret
  exact ⟨rfl, hB1⟩
theorem eg_evExpr : ∀ args w, (callFunc 85 args).run Tryz.prog w = .ok (.enter 85 args) w := enters_of Tryz.func85 (by kernel_rfl) rfl
set_option maxRecDepth 100000 in
theorem evcExpr_any (f : Nat) (eg : ∀ args w, (callFunc f args).run Tryz.prog w = .ok (.enter f args) w) (r : Bool) (cs : List Value) (g : Nat) (w : World) (hl : cs.length = 6) (hg : w.cell? ⟨g, 0, none⟩ = some (.func (.func f) #[] #[])) (_hgl : g < w.heap.size)
    (hp : ∀ W, Below w.heap.size w W → Calls Tryz.prog f #[.agg cs.toArray] W fun e w' => e = .returned (.bool r) ∧ Below W.heap.size W w') :
    Calls Tryz.prog 85 #[.agg cs.toArray, .pointer (some ⟨g, 0, none⟩)] w fun e w' => e = .returned (.bool (!r)) ∧ Below w.heap.size w w' := by
  match cs, hl, hp with
  | [v0, v1, v2, v3, v4, v5], _, hp =>
  have hal := below_alloc w (.cells #[v0, v1, v2, v3, v4, v5] 40)
  have HC := Lib.hid (hp _ hal)
  have HB := Lib.hid hal
  have hg2 : (w.alloc (.cells #[v0, v1, v2, v3, v4, v5] 40)).cell? ⟨g, 0, none⟩ = some (.func (.func f) #[] #[]) := (hal.cell (p := ⟨g, 0, none⟩) _hgl).trans hg
  clear hp hal
  go_enter Tryz.func85, Tryz.ntmps85
  go_wp2_with (go_at_fn f; refine HC.out.mono ?_; rintro e w' ⟨rfl, hB1⟩)
  go_ret
  exact ⟨rfl, HB.out.trans (hB1.mono HB.out.size)⟩
set_option maxRecDepth 100000 in
theorem everyExpr_any {α : Type} (f : Nat) (eg : ∀ args w, (callFunc f args).run Tryz.prog w = .ok (.enter f args) w) (p : α → Bool) (R : α → List Value → Prop) (xs : List α) (A : Option Addr) (cap : Nat) (w : World) (hK : SlAt w R 6 A xs) (hmc : xs.length ≤ cap) (hcap : cap ≤ 9223372036854775807)
    (hp : ∀ x ∈ xs, ∀ cs W, Below w.heap.size w W → cs.length = 6 → R x cs → Calls Tryz.prog f #[.agg cs.toArray] W fun e w' => e = .returned (.bool (p x)) ∧ Below W.heap.size W w') :
    Calls Tryz.prog 48 #[.slice A xs.length cap, .func (.func f) #[] #[]] w fun e w' => e = .returned (.bool (decide (xs.length ≤ 32) && xs.all p)) ∧ Below w.heap.size w w' := by
  have hal := below_alloc w (.cells #[.func (.func f) #[] #[]] 42)
  have hg := Lib.cell_of_heap (blk_new w (.cells #[.func (.func f) #[] #[]] 42)) 0
  have hlt : w.heap.size < (w.alloc (.cells #[.func (.func f) #[] #[]] 42)).heap.size := by simp
  have HC := Lib.hid (containsExpr_any 85 #[.pointer (some ⟨w.heap.size, 0, none⟩)] eg_evExpr (fun x => !p x) R xs A cap (w.alloc (.cells #[.func (.func f) #[] #[]] 42)) (hK.below hal fun _ _ _ h => h) hmc hcap (fun x hx cs W hW hl hR =>
    evcExpr_any f eg (p x) cs w.heap.size W hl ((hW.cell (p := ⟨w.heap.size, 0, none⟩) hlt).trans hg) (Nat.lt_of_lt_of_le hlt hW.size) (fun W' hW' => hp x hx cs W' (hal.trans ((hW.trans (hW'.mono hW.size)).mono hal.size)) hl hR)))
  rw [any_not] at HC
  have HB := Lib.hid hal
  have hmf : ∀ (fn : Fn) (first cap : Array Value) (w : World), (Instr.makeFunc fn first cap).run Tryz.prog w = .ok (.func fn first cap) w := fun _ _ _ _ => rfl
  clear hp hal hg hlt hK
  generalize xs.all p = Q at *
  generalize xs.length = m at *
  by_cases h32 : m ≤ 32
  · have t1 : decide ((m : Int) ≤ 32) = true := decide_eq_true (by omega)
    rw [decide_eq_true h32, Bool.true_and]
    clear h32
    go_enter Tryz.func48, Tryz.ntmps48
    go_wp2_with (refine HC.out.mono ?_; rintro e w' ⟨rfl, hB1⟩)
    go_ret
    exact ⟨ret_bool (by simp), HB.out.trans (hB1.mono HB.out.size)⟩
  · have t1 : decide ((m : Int) ≤ 32) = false := decide_eq_false (by omega)
    rw [decide_eq_false h32, Bool.false_and]
    clear h32
    go_enter Tryz.func48, Tryz.ntmps48
    go_wp2
    go_ret
    exact ⟨rfl, HB.out⟩
end Go.Proofs.YtnlepdkbcjjkdaaGreatDoor
