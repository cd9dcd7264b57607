/- Package tree: every at further types of element. -/
import Derived.Test.YtnlepdkbcjjkdaaGreatDoorTevE
namespace Go.Proofs.YtnlepdkbcjjkdaaGreatDoor
open Go.RowKit TreM WrdM

set_option maxHeartbeats 1600000 in
theorem indexProc_any {α : Type} (f : Nat) (lb : Array Value) (eg : ∀ args w, (callFunc f args).run Tryz.prog w = .ok (.enter f args) w) (p : α → Bool) (R : α → List Value → Prop) (xs : List α) (A : Option Addr) (cap : Nat) (w : World) (hK : SlAt w R 4 A xs) (hmc : xs.length ≤ cap) (hcap : cap ≤ 9223372036854775807)
    (hp : ∀ x ∈ xs, ∀ cs W, Below w.heap.size w W → cs.length = 4 → R x cs → Calls Tryz.prog f (#[.agg cs.toArray] ++ lb) W fun e w' => e = .returned (.bool (p x)) ∧ Below W.heap.size W w') :
    Calls Tryz.prog 86 #[.slice A xs.length cap, .func (.func f) #[] lb] w fun e w' => (∃ r : Int, e = .returned (.int .i64 r) ∧ decide (0 ≤ r) = xs.any p) ∧ Below w.heap.size w w' := by
  obtain ⟨m, hm⟩ : ∃ m, m = xs.length := ⟨_, rfl⟩
  have HM := Lib.hid hm
  have HK := Lib.hid hK
  have HP := Lib.hid hp
  rw [← hm] at hmc ⊢
  clear hm hK hp
  go_enter Tryz.func86, Tryz.ntmps86
  go_wp2
  go_loopw [5, 8] (fun _ i wr => ∃ k : Nat, k ≤ m ∧ i = .int .i64 k ∧ Hid (Below w.heap.size w wr) ∧ Hid (∀ j x, j < k → xs[j]? = some x → p x = false)) (fun _ i _ => m - (intOf i).toNat)
  case atStart => exact ⟨0, Nat.zero_le _, rfl, Below.refl _ _, fun j x hj => absurd hj (by omega)⟩
  case round =>
    obtain ⟨k, hk, rfl, HW, HA⟩ := hrel
    by_cases hlt : k < m
    · have t1 : decide ((k : Int) < (m : Int)) = true := decide_eq_true (by omega)
      have t2 : decide (k < m) = true := decide_eq_true hlt
      obtain ⟨x, hx⟩ := get_el (ks := xs) (k := k) (by rw [← HM.out]; exact hlt)
      rcases HK.out with hK | ⟨b', p', rfl, hb', hk'⟩
      · exfalso; rw [hK] at hx; simp at hx
      obtain ⟨cs, hl, hc, hR⟩ := hk' k x hx
      match cs, hl, hc, hR with
      | [v0, v1, v2, v3], _, hc, hR =>
      have hcw : ∀ i u, [v0, v1, v2, v3][i]? = some u → wr.cell? ⟨b', p' + k * 4 + i, none⟩ = some u := fun i u hu => by rw [HW.out.cell (p := ⟨b', p' + k * 4 + i, none⟩) hb']; exact hc i u hu
      have c0 : wr.cell? ⟨b', p' + k * 4, none⟩ = some v0 := by simpa using hcw 0 v0 rfl
      have c1 : wr.cell? ⟨b', p' + k * 4 + 1, none⟩ = some v1 := by simpa using hcw 1 v1 rfl
      have c2 : wr.cell? ⟨b', p' + k * 4 + 2, none⟩ = some v2 := by simpa using hcw 2 v2 rfl
      have c3 : wr.cell? ⟨b', p' + k * 4 + 3, none⟩ = some v3 := by simpa using hcw 3 v3 rfl
      have HC := HP.out x (List.mem_of_getElem? hx) _ wr HW.out rfl hR
      have HX := Lib.hid hx
      clear hx hk' hc hcw hR
      rcases hr : p x with _ | _
      · rw [hr] at HC
        have HC := Lib.hid HC
        have HRx := Lib.hid hr
        clear hr
        go_wp2_with (go_at_fn f; refine HC.out.mono ?_; rintro e w' ⟨rfl, hB2⟩)
        go_roundw
        case rel =>
          refine ⟨k + 1, by omega, by go_num, HW.out.trans (hB2.mono HW.out.size), fun j y hj hy => ?_⟩
          by_cases e : j = k
          · subst e
            have := HX.out.symm.trans hy
            injection this with this
            rw [← this]; exact HRx.out
          · exact HA.out j y (by omega) hy
        case measure => simp [intOf]; omega
      · rw [hr] at HC
        have HC := Lib.hid HC
        have HRx := Lib.hid hr
        clear hr
        go_wp2_with (go_at_fn f; refine HC.out.mono ?_; rintro e w' ⟨rfl, hB2⟩)
        go_ret
        refine ⟨⟨_, rfl, ?_⟩, HW.out.trans (hB2.mono HW.out.size)⟩
        rw [List.any_eq_true.2 ⟨x, List.mem_of_getElem? HX.out, HRx.out⟩]
        exact decide_eq_true (by omega)
    · have t1 : decide ((k : Int) < (m : Int)) = false := decide_eq_false (by omega)
      have t2 : decide (k < m) = false := decide_eq_false hlt
      go_wp2
      go_ret
      refine ⟨⟨_, rfl, ?_⟩, HW.out⟩
      rw [any_none fun j x hj hx => HA.out j x (by have := HM.out; omega) hx]
      rfl
theorem containsProc_any {α : Type} (f : Nat) (lb : Array Value) (eg : ∀ args w, (callFunc f args).run Tryz.prog w = .ok (.enter f args) w) (p : α → Bool) (R : α → List Value → Prop) (xs : List α) (A : Option Addr) (cap : Nat) (w : World) (hK : SlAt w R 4 A xs) (hmc : xs.length ≤ cap) (hcap : cap ≤ 9223372036854775807)
    (hp : ∀ x ∈ xs, ∀ cs W, Below w.heap.size w W → cs.length = 4 → R x cs → Calls Tryz.prog f (#[.agg cs.toArray] ++ lb) W fun e w' => e = .returned (.bool (p x)) ∧ Below W.heap.size W w') :
    Calls Tryz.prog 50 #[.slice A xs.length cap, .func (.func f) #[] lb] w fun e w' => e = .returned (.bool (xs.any p)) ∧ Below w.heap.size w w' := by
  have HC := Lib.hid (indexProc_any f lb eg p R xs A cap w hK hmc hcap hp)
  clear hp
  generalize xs.any p = Q at *
  generalize xs.length = m at *
  go_enter Tryz.func50, Tryz.ntmps50
  go_wp2_with (refine HC.out.mono ?_; rintro e w' ⟨⟨r, rfl, hr⟩, hB1⟩)
  go_ret
  exact ⟨rfl, hB1⟩
theorem eg_evProc : ∀ args w, (callFunc 51 args).run Tryz.prog w = .ok (.enter 51 args) w := enters_of Tryz.func51 (by kernel_rfl) rfl
set_option maxRecDepth 100000 in
theorem evcProc_any (f : Nat) (eg : ∀ args w, (callFunc f args).run Tryz.prog w = .ok (.enter f args) w) (r : Bool) (cs : List Value) (g : Nat) (w : World) (hl : cs.length = 4) (hg : w.cell? ⟨g, 0, none⟩ = some (.func (.func f) #[] #[])) (_hgl : g < w.heap.size)
    (hp : ∀ W, Below w.heap.size w W → Calls Tryz.prog f #[.agg cs.toArray] W fun e w' => e = .returned (.bool r) ∧ Below W.heap.size W w') :
    Calls Tryz.prog 51 #[.agg cs.toArray, .pointer (some ⟨g, 0, none⟩)] w fun e w' => e = .returned (.bool (!r)) ∧ Below w.heap.size w w' := by
  match cs, hl, hp with
  | [v0, v1, v2, v3], _, hp =>
  have hal := below_alloc w (.cells #[v0, v1, v2, v3] 36)
  have HC := Lib.hid (hp _ hal)
  have HB := Lib.hid hal
  have hg2 : (w.alloc (.cells #[v0, v1, v2, v3] 36)).cell? ⟨g, 0, none⟩ = some (.func (.func f) #[] #[]) := (hal.cell (p := ⟨g, 0, none⟩) _hgl).trans hg
  clear hp hal
  go_enter Tryz.func51, Tryz.ntmps51
  go_wp2_with (go_at_fn f; refine HC.out.mono ?_; rintro e w' ⟨rfl, hB1⟩)
  go_ret
  exact ⟨rfl, HB.out.trans (hB1.mono HB.out.size)⟩
set_option maxRecDepth 100000 in
theorem everyProc_any {α : Type} (f : Nat) (eg : ∀ args w, (callFunc f args).run Tryz.prog w = .ok (.enter f args) w) (p : α → Bool) (R : α → List Value → Prop) (xs : List α) (A : Option Addr) (cap : Nat) (w : World) (hK : SlAt w R 4 A xs) (hmc : xs.length ≤ cap) (hcap : cap ≤ 9223372036854775807)
    (hp : ∀ x ∈ xs, ∀ cs W, Below w.heap.size w W → cs.length = 4 → R x cs → Calls Tryz.prog f #[.agg cs.toArray] W fun e w' => e = .returned (.bool (p x)) ∧ Below W.heap.size W w') :
    Calls Tryz.prog 18 #[.slice A xs.length cap, .func (.func f) #[] #[]] w fun e w' => e = .returned (.bool (decide (xs.length ≤ 32) && xs.all p)) ∧ Below w.heap.size w w' := by
  have hal := below_alloc w (.cells #[.func (.func f) #[] #[]] 55)
  have hg := Lib.cell_of_heap (blk_new w (.cells #[.func (.func f) #[] #[]] 55)) 0
  have hlt : w.heap.size < (w.alloc (.cells #[.func (.func f) #[] #[]] 55)).heap.size := by simp
  have HC := Lib.hid (containsProc_any 51 #[.pointer (some ⟨w.heap.size, 0, none⟩)] eg_evProc (fun x => !p x) R xs A cap (w.alloc (.cells #[.func (.func f) #[] #[]] 55)) (hK.below hal fun _ _ _ h => h) hmc hcap (fun x hx cs W hW hl hR =>
    evcProc_any f eg (p x) cs w.heap.size W hl ((hW.cell (p := ⟨w.heap.size, 0, none⟩) hlt).trans hg) (Nat.lt_of_lt_of_le hlt hW.size) (fun W' hW' => hp x hx cs W' (hal.trans ((hW.trans (hW'.mono hW.size)).mono hal.size)) hl hR)))
  rw [any_not] at HC
  have HB := Lib.hid hal
  have hmf : ∀ (fn : Fn) (first cap : Array Value) (w : World), (Instr.makeFunc fn first cap).run Tryz.prog w = .ok (.func fn first cap) w := fun _ _ _ _ => rfl
  clear hp hal hg hlt hK
  generalize xs.all p = Q at *
  generalize xs.length = m at *
  by_cases h32 : m ≤ 32
  · have t1 : decide ((m : Int) ≤ 32) = true := decide_eq_true (by omega)
    rw [decide_eq_true h32, Bool.true_and]
    clear h32
    go_enter Tryz.func18, Tryz.ntmps18
    go_wp2_with (refine HC.out.mono ?_; rintro e w' ⟨rfl, hB1⟩)
    go_ret
    exact ⟨ret_bool (by simp), HB.out.trans (hB1.mono HB.out.size)⟩
  · have t1 : decide ((m : Int) ≤ 32) = false := decide_eq_false (by omega)
    rw [decide_eq_false h32, Bool.false_and]
    clear h32
    go_enter Tryz.func18, Tryz.ntmps18
    go_wp2
    go_ret
    exact ⟨rfl, HB.out⟩

set_option maxHeartbeats 1600000 in
theorem indexRule_any {α : Type} (f : Nat) (lb : Array Value) (eg : ∀ args w, (callFunc f args).run Tryz.prog w = .ok (.enter f args) w) (p : α → Bool) (R : α → List Value → Prop) (xs : List α) (A : Option Addr) (cap : Nat) (w : World) (hK : SlAt w R 7 A xs) (hmc : xs.length ≤ cap) (hcap : cap ≤ 9223372036854775807)
    (hp : ∀ x ∈ xs, ∀ cs W, Below w.heap.size w W → cs.length = 7 → R x cs → Calls Tryz.prog f (#[.agg cs.toArray] ++ lb) W fun e w' => e = .returned (.bool (p x)) ∧ Below W.heap.size W w') :
    Calls Tryz.prog 108 #[.slice A xs.length cap, .func (.func f) #[] lb] w fun e w' => (∃ r : Int, e = .returned (.int .i64 r) ∧ decide (0 ≤ r) = xs.any p) ∧ Below w.heap.size w w' := by
  obtain ⟨m, hm⟩ : ∃ m, m = xs.length := ⟨_, rfl⟩
  have HM := Lib.hid hm
  have HK := Lib.hid hK
  have HP := Lib.hid hp
  rw [← hm] at hmc ⊢
  clear hm hK hp
  go_enter Tryz.func108, Tryz.ntmps108
  go_wp2
  go_loopw [5, 8] (fun _ i wr => ∃ k : Nat, k ≤ m ∧ i = .int .i64 k ∧ Hid (Below w.heap.size w wr) ∧ Hid (∀ j x, j < k → xs[j]? = some x → p x = false)) (fun _ i _ => m - (intOf i).toNat)
  case atStart => exact ⟨0, Nat.zero_le _, rfl, Below.refl _ _, fun j x hj => absurd hj (by omega)⟩
  case round =>
    obtain ⟨k, hk, rfl, HW, HA⟩ := hrel
    by_cases hlt : k < m
    · have t1 : decide ((k : Int) < (m : Int)) = true := decide_eq_true (by omega)
      have t2 : decide (k < m) = true := decide_eq_true hlt
      obtain ⟨x, hx⟩ := get_el (ks := xs) (k := k) (by rw [← HM.out]; exact hlt)
      rcases HK.out with hK | ⟨b', p', rfl, hb', hk'⟩
      · exfalso; rw [hK] at hx; simp at hx
      obtain ⟨cs, hl, hc, hR⟩ := hk' k x hx
      match cs, hl, hc, hR with
      | [v0, v1, v2, v3, v4, v5, v6], _, hc, hR =>
      have hcw : ∀ i u, [v0, v1, v2, v3, v4, v5, v6][i]? = some u → wr.cell? ⟨b', p' + k * 7 + i, none⟩ = some u := fun i u hu => by rw [HW.out.cell (p := ⟨b', p' + k * 7 + i, none⟩) hb']; exact hc i u hu
      have c0 : wr.cell? ⟨b', p' + k * 7, none⟩ = some v0 := by simpa using hcw 0 v0 rfl
      have c1 : wr.cell? ⟨b', p' + k * 7 + 1, none⟩ = some v1 := by simpa using hcw 1 v1 rfl
      have c2 : wr.cell? ⟨b', p' + k * 7 + 2, none⟩ = some v2 := by simpa using hcw 2 v2 rfl
      have c3 : wr.cell? ⟨b', p' + k * 7 + 3, none⟩ = some v3 := by simpa using hcw 3 v3 rfl
      have c4 : wr.cell? ⟨b', p' + k * 7 + 4, none⟩ = some v4 := by simpa using hcw 4 v4 rfl
      have c5 : wr.cell? ⟨b', p' + k * 7 + 5, none⟩ = some v5 := by simpa using hcw 5 v5 rfl
      have c6 : wr.cell? ⟨b', p' + k * 7 + 6, none⟩ = some v6 := by simpa using hcw 6 v6 rfl
      have HC := HP.out x (List.mem_of_getElem? hx) _ wr HW.out rfl hR
      have HX := Lib.hid hx
      clear hx hk' hc hcw hR
      rcases hr : p x with _ | _
      · rw [hr] at HC
        have HC := Lib.hid HC
        have HRx := Lib.hid hr
        clear hr
        go_wp2_with (go_at_fn f; refine HC.out.mono ?_; rintro e w' ⟨rfl, hB2⟩)
        go_roundw
        case rel =>
          refine ⟨k + 1, by omega, by go_num, HW.out.trans (hB2.mono HW.out.size), fun j y hj hy => ?_⟩
          by_cases e : j = k
          · subst e
            have := HX.out.symm.trans hy
            injection this with this
            rw [← this]; exact HRx.out
          · exact HA.out j y (by omega) hy
        case measure => simp [intOf]; omega
      · rw [hr] at HC
        have HC := Lib.hid HC
        have HRx := Lib.hid hr
        clear hr
        go_wp2_with (go_at_fn f; refine HC.out.mono ?_; rintro e w' ⟨rfl, hB2⟩)
        go_ret
        refine ⟨⟨_, rfl, ?_⟩, HW.out.trans (hB2.mono HW.out.size)⟩
        rw [List.any_eq_true.2 ⟨x, List.mem_of_getElem? HX.out, HRx.out⟩]
        exact decide_eq_true (by omega)
    · have t1 : decide ((k : Int) < (m : Int)) = false := decide_eq_false (by omega)
      have t2 : decide (k < m) = false := decide_eq_false hlt
      go_wp2
      go_ret
      refine ⟨⟨_, rfl, ?_⟩, HW.out⟩
      rw [any_none fun j x hj hx => HA.out j x (by have := HM.out; omega) hx]
      rfl
theorem containsRule_any {α : Type} (f : Nat) (lb : Array Value) (eg : ∀ args w, (callFunc f args).run Tryz.prog w = .ok (.enter f args) w) (p : α → Bool) (R : α → List Value → Prop) (xs : List α) (A : Option Addr) (cap : Nat) (w : World) (hK : SlAt w R 7 A xs) (hmc : xs.length ≤ cap) (hcap : cap ≤ 9223372036854775807)
    (hp : ∀ x ∈ xs, ∀ cs W, Below w.heap.size w W → cs.length = 7 → R x cs → Calls Tryz.prog f (#[.agg cs.toArray] ++ lb) W fun e w' => e = .returned (.bool (p x)) ∧ Below W.heap.size W w') :
    Calls Tryz.prog 87 #[.slice A xs.length cap, .func (.func f) #[] lb] w fun e w' => e = .returned (.bool (xs.any p)) ∧ Below w.heap.size w w' := by
  have HC := Lib.hid (indexRule_any f lb eg p R xs A cap w hK hmc hcap hp)
  clear hp
  generalize xs.any p = Q at *
  generalize xs.length = m at *
  go_enter Tryz.func87, Tryz.ntmps87
  go_wp2_with (refine HC.out.mono ?_; rintro e w' ⟨⟨r, rfl, hr⟩, hB1⟩)
  go_ret
  exact ⟨rfl, hB1⟩
theorem eg_evRule : ∀ args w, (callFunc 88 args).run Tryz.prog w = .ok (.enter 88 args) w := enters_of Tryz.func88 (by kernel_rfl) rfl
set_option maxRecDepth 100000 in
theorem evcRule_any (f : Nat) (eg : ∀ args w, (callFunc f args).run Tryz.prog w = .ok (.enter f args) w) (r : Bool) (cs : List Value) (g : Nat) (w : World) (hl : cs.length = 7) (hg : w.cell? ⟨g, 0, none⟩ = some (.func (.func f) #[] #[])) (_hgl : g < w.heap.size)
    (hp : ∀ W, Below w.heap.size w W → Calls Tryz.prog f #[.agg cs.toArray] W fun e w' => e = .returned (.bool r) ∧ Below W.heap.size W w') :
    Calls Tryz.prog 88 #[.agg cs.toArray, .pointer (some ⟨g, 0, none⟩)] w fun e w' => e = .returned (.bool (!r)) ∧ Below w.heap.size w w' := by
  match cs, hl, hp with
  | [v0, v1, v2, v3, v4, v5, v6], _, hp =>
  have hal := below_alloc w (.cells #[v0, v1, v2, v3, v4, v5, v6] 76)
  have HC := Lib.hid (hp _ hal)
  have HB := Lib.hid hal
  have hg2 : (w.alloc (.cells #[v0, v1, v2, v3, v4, v5, v6] 76)).cell? ⟨g, 0, none⟩ = some (.func (.func f) #[] #[]) := (hal.cell (p := ⟨g, 0, none⟩) _hgl).trans hg
  clear hp hal
  go_enter Tryz.func88, Tryz.ntmps88
  go_wp2_with (go_at_fn f; refine HC.out.mono ?_; rintro e w' ⟨rfl, hB1⟩)
  go_ret
  exact ⟨rfl, HB.out.trans (hB1.mono HB.out.size)⟩
set_option maxRecDepth 100000 in
theorem everyRule_any {α : Type} (f : Nat) (eg : ∀ args w, (callFunc f args).run Tryz.prog w = .ok (.enter f args) w) (p : α → Bool) (R : α → List Value → Prop) (xs : List α) (A : Option Addr) (cap : Nat) (w : World) (hK : SlAt w R 7 A xs) (hmc : xs.length ≤ cap) (hcap : cap ≤ 9223372036854775807)
    (hp : ∀ x ∈ xs, ∀ cs W, Below w.heap.size w W → cs.length = 7 → R x cs → Calls Tryz.prog f #[.agg cs.toArray] W fun e w' => e = .returned (.bool (p x)) ∧ Below W.heap.size W w') :
    Calls Tryz.prog 52 #[.slice A xs.length cap, .func (.func f) #[] #[]] w fun e w' => e = .returned (.bool (decide (xs.length ≤ 32) && xs.all p)) ∧ Below w.heap.size w w' := by
  have hal := below_alloc w (.cells #[.func (.func f) #[] #[]] 95)
  have hg := Lib.cell_of_heap (blk_new w (.cells #[.func (.func f) #[] #[]] 95)) 0
  have hlt : w.heap.size < (w.alloc (.cells #[.func (.func f) #[] #[]] 95)).heap.size := by simp
  have HC := Lib.hid (containsRule_any 88 #[.pointer (some ⟨w.heap.size, 0, none⟩)] eg_evRule (fun x => !p x) R xs A cap (w.alloc (.cells #[.func (.func f) #[] #[]] 95)) (hK.below hal fun _ _ _ h => h) hmc hcap (fun x hx cs W hW hl hR =>
    evcRule_any f eg (p x) cs w.heap.size W hl ((hW.cell (p := ⟨w.heap.size, 0, none⟩) hlt).trans hg) (Nat.lt_of_lt_of_le hlt hW.size) (fun W' hW' => hp x hx cs W' (hal.trans ((hW.trans (hW'.mono hW.size)).mono hal.size)) hl hR)))
  rw [any_not] at HC
  have HB := Lib.hid hal
  have hmf : ∀ (fn : Fn) (first cap : Array Value) (w : World), (Instr.makeFunc fn first cap).run Tryz.prog w = .ok (.func fn first cap) w := fun _ _ _ _ => rfl
  clear hp hal hg hlt hK
  generalize xs.all p = Q at *
  generalize xs.length = m at *
  by_cases h32 : m ≤ 32
  · have t1 : decide ((m : Int) ≤ 32) = true := decide_eq_true (by omega)
    rw [decide_eq_true h32, Bool.true_and]
    clear h32
    go_enter Tryz.func52, Tryz.ntmps52
    go_wp2_with (refine HC.out.mono ?_; rintro e w' ⟨rfl, hB1⟩)
    go_ret
    exact ⟨ret_bool (by simp), HB.out.trans (hB1.mono HB.out.size)⟩
  · have t1 : decide ((m : Int) ≤ 32) = false := decide_eq_false (by omega)
    rw [decide_eq_false h32, Bool.false_and]
    clear h32
    go_enter Tryz.func52, Tryz.ntmps52
    go_wp2
    go_ret
    exact ⟨rfl, HB.out⟩

set_option maxHeartbeats 1600000 in
theorem indexAsgn_any {α : Type} (f : Nat) (lb : Array Value) (eg : ∀ args w, (callFunc f args).run Tryz.prog w = .ok (.enter f args) w) (p : α → Bool) (R : α → List Value → Prop) (xs : List α) (A : Option Addr) (cap : Nat) (w : World) (hK : SlAt w R 9 A xs) (hmc : xs.length ≤ cap) (hcap : cap ≤ 9223372036854775807)
    (hp : ∀ x ∈ xs, ∀ cs W, Below w.heap.size w W → cs.length = 9 → R x cs → Calls Tryz.prog f (#[.agg cs.toArray] ++ lb) W fun e w' => e = .returned (.bool (p x)) ∧ Below W.heap.size W w') :
    Calls Tryz.prog 121 #[.slice A xs.length cap, .func (.func f) #[] lb] w fun e w' => (∃ r : Int, e = .returned (.int .i64 r) ∧ decide (0 ≤ r) = xs.any p) ∧ Below w.heap.size w w' := by
  obtain ⟨m, hm⟩ : ∃ m, m = xs.length := ⟨_, rfl⟩
  have HM := Lib.hid hm
  have HK := Lib.hid hK
  have HP := Lib.hid hp
  rw [← hm] at hmc ⊢
  clear hm hK hp
  go_enter Tryz.func121, Tryz.ntmps121
  go_wp2
  go_loopw [5, 8] (fun _ i wr => ∃ k : Nat, k ≤ m ∧ i = .int .i64 k ∧ Hid (Below w.heap.size w wr) ∧ Hid (∀ j x, j < k → xs[j]? = some x → p x = false)) (fun _ i _ => m - (intOf i).toNat)
  case atStart => exact ⟨0, Nat.zero_le _, rfl, Below.refl _ _, fun j x hj => absurd hj (by omega)⟩
  case round =>
    obtain ⟨k, hk, rfl, HW, HA⟩ := hrel
    by_cases hlt : k < m
    · have t1 : decide ((k : Int) < (m : Int)) = true := decide_eq_true (by omega)
      have t2 : decide (k < m) = true := decide_eq_true hlt
      obtain ⟨x, hx⟩ := get_el (ks := xs) (k := k) (by rw [← HM.out]; exact hlt)
      rcases HK.out with hK | ⟨b', p', rfl, hb', hk'⟩
      · exfalso; rw [hK] at hx; simp at hx
      obtain ⟨cs, hl, hc, hR⟩ := hk' k x hx
      match cs, hl, hc, hR with
      | [v0, v1, v2, v3, v4, v5, v6, v7, v8], _, hc, hR =>
      have hcw : ∀ i u, [v0, v1, v2, v3, v4, v5, v6, v7, v8][i]? = some u → wr.cell? ⟨b', p' + k * 9 + i, none⟩ = some u := fun i u hu => by rw [HW.out.cell (p := ⟨b', p' + k * 9 + i, none⟩) hb']; exact hc i u hu
      have c0 : wr.cell? ⟨b', p' + k * 9, none⟩ = some v0 := by simpa using hcw 0 v0 rfl
      have c1 : wr.cell? ⟨b', p' + k * 9 + 1, none⟩ = some v1 := by simpa using hcw 1 v1 rfl
      have c2 : wr.cell? ⟨b', p' + k * 9 + 2, none⟩ = some v2 := by simpa using hcw 2 v2 rfl
      have c3 : wr.cell? ⟨b', p' + k * 9 + 3, none⟩ = some v3 := by simpa using hcw 3 v3 rfl
      have c4 : wr.cell? ⟨b', p' + k * 9 + 4, none⟩ = some v4 := by simpa using hcw 4 v4 rfl
      have c5 : wr.cell? ⟨b', p' + k * 9 + 5, none⟩ = some v5 := by simpa using hcw 5 v5 rfl
      have c6 : wr.cell? ⟨b', p' + k * 9 + 6, none⟩ = some v6 := by simpa using hcw 6 v6 rfl
      have c7 : wr.cell? ⟨b', p' + k * 9 + 7, none⟩ = some v7 := by simpa using hcw 7 v7 rfl
      have c8 : wr.cell? ⟨b', p' + k * 9 + 8, none⟩ = some v8 := by simpa using hcw 8 v8 rfl
      have HC := HP.out x (List.mem_of_getElem? hx) _ wr HW.out rfl hR
      have HX := Lib.hid hx
      clear hx hk' hc hcw hR
      rcases hr : p x with _ | _
      · rw [hr] at HC
        have HC := Lib.hid HC
        have HRx := Lib.hid hr
        clear hr
        go_wp2_with (go_at_fn f; refine HC.out.mono ?_; rintro e w' ⟨rfl, hB2⟩)
        go_roundw
        case rel =>
          refine ⟨k + 1, by omega, by go_num, HW.out.trans (hB2.mono HW.out.size), fun j y hj hy => ?_⟩
          by_cases e : j = k
          · subst e
            have := HX.out.symm.trans hy
            injection this with this
            rw [← this]; exact HRx.out
          · exact HA.out j y (by omega) hy
        case measure => simp [intOf]; omega
      · rw [hr] at HC
        have HC := Lib.hid HC
        have HRx := Lib.hid hr
        clear hr
        go_wp2_with (go_at_fn f; refine HC.out.mono ?_; rintro e w' ⟨rfl, hB2⟩)
        go_ret
        refine ⟨⟨_, rfl, ?_⟩, HW.out.trans (hB2.mono HW.out.size)⟩
        rw [List.any_eq_true.2 ⟨x, List.mem_of_getElem? HX.out, HRx.out⟩]
        exact decide_eq_true (by omega)
    · have t1 : decide ((k : Int) < (m : Int)) = false := decide_eq_false (by omega)
      have t2 : decide (k < m) = false := decide_eq_false hlt
      go_wp2
      go_ret
      refine ⟨⟨_, rfl, ?_⟩, HW.out⟩
      rw [any_none fun j x hj hx => HA.out j x (by have := HM.out; omega) hx]
      rfl
theorem containsAsgn_any {α : Type} (f : Nat) (lb : Array Value) (eg : ∀ args w, (callFunc f args).run Tryz.prog w = .ok (.enter f args) w) (p : α → Bool) (R : α → List Value → Prop) (xs : List α) (A : Option Addr) (cap : Nat) (w : World) (hK : SlAt w R 9 A xs) (hmc : xs.length ≤ cap) (hcap : cap ≤ 9223372036854775807)
    (hp : ∀ x ∈ xs, ∀ cs W, Below w.heap.size w W → cs.length = 9 → R x cs → Calls Tryz.prog f (#[.agg cs.toArray] ++ lb) W fun e w' => e = .returned (.bool (p x)) ∧ Below W.heap.size W w') :
    Calls Tryz.prog 109 #[.slice A xs.length cap, .func (.func f) #[] lb] w fun e w' => e = .returned (.bool (xs.any p)) ∧ Below w.heap.size w w' := by
  have HC := Lib.hid (indexAsgn_any f lb eg p R xs A cap w hK hmc hcap hp)
  clear hp
  generalize xs.any p = Q at *
  generalize xs.length = m at *
  go_enter Tryz.func109, Tryz.ntmps109
  go_wp2_with (refine HC.out.mono ?_; rintro e w' ⟨⟨r, rfl, hr⟩, hB1⟩)
  go_ret
  exact ⟨rfl, hB1⟩
theorem eg_evAsgn : ∀ args w, (callFunc 110 args).run Tryz.prog w = .ok (.enter 110 args) w := enters_of Tryz.func110 (by kernel_rfl) rfl
set_option maxRecDepth 100000 in
theorem evcAsgn_any (f : Nat) (eg : ∀ args w, (callFunc f args).run Tryz.prog w = .ok (.enter f args) w) (r : Bool) (cs : List Value) (g : Nat) (w : World) (hl : cs.length = 9) (hg : w.cell? ⟨g, 0, none⟩ = some (.func (.func f) #[] #[])) (_hgl : g < w.heap.size)
    (hp : ∀ W, Below w.heap.size w W → Calls Tryz.prog f #[.agg cs.toArray] W fun e w' => e = .returned (.bool r) ∧ Below W.heap.size W w') :
    Calls Tryz.prog 110 #[.agg cs.toArray, .pointer (some ⟨g, 0, none⟩)] w fun e w' => e = .returned (.bool (!r)) ∧ Below w.heap.size w w' := by
  match cs, hl, hp with
  | [v0, v1, v2, v3, v4, v5, v6, v7, v8], _, hp =>
  have hal := below_alloc w (.cells #[v0, v1, v2, v3, v4, v5, v6, v7, v8] 105)
  have HC := Lib.hid (hp _ hal)
  have HB := Lib.hid hal
  have hg2 : (w.alloc (.cells #[v0, v1, v2, v3, v4, v5, v6, v7, v8] 105)).cell? ⟨g, 0, none⟩ = some (.func (.func f) #[] #[]) := (hal.cell (p := ⟨g, 0, none⟩) _hgl).trans hg
  clear hp hal
  go_enter Tryz.func110, Tryz.ntmps110
  go_wp2_with (go_at_fn f; refine HC.out.mono ?_; rintro e w' ⟨rfl, hB1⟩)
  go_ret
  exact ⟨rfl, HB.out.trans (hB1.mono HB.out.size)⟩
set_option maxRecDepth 100000 in
theorem everyAsgn_any {α : Type} (f : Nat) (eg : ∀ args w, (callFunc f args).run Tryz.prog w = .ok (.enter f args) w) (p : α → Bool) (R : α → List Value → Prop) (xs : List α) (A : Option Addr) (cap : Nat) (w : World) (hK : SlAt w R 9 A xs) (hmc : xs.length ≤ cap) (hcap : cap ≤ 9223372036854775807)
    (hp : ∀ x ∈ xs, ∀ cs W, Below w.heap.size w W → cs.length = 9 → R x cs → Calls Tryz.prog f #[.agg cs.toArray] W fun e w' => e = .returned (.bool (p x)) ∧ Below W.heap.size W w') :
    Calls Tryz.prog 89 #[.slice A xs.length cap, .func (.func f) #[] #[]] w fun e w' => e = .returned (.bool (decide (xs.length ≤ 32) && xs.all p)) ∧ Below w.heap.size w w' := by
  have hal := below_alloc w (.cells #[.func (.func f) #[] #[]] 118)
  have hg := Lib.cell_of_heap (blk_new w (.cells #[.func (.func f) #[] #[]] 118)) 0
  have hlt : w.heap.size < (w.alloc (.cells #[.func (.func f) #[] #[]] 118)).heap.size := by simp
  have HC := Lib.hid (containsAsgn_any 110 #[.pointer (some ⟨w.heap.size, 0, none⟩)] eg_evAsgn (fun x => !p x) R xs A cap (w.alloc (.cells #[.func (.func f) #[] #[]] 118)) (hK.below hal fun _ _ _ h => h) hmc hcap (fun x hx cs W hW hl hR =>
    evcAsgn_any f eg (p x) cs w.heap.size W hl ((hW.cell (p := ⟨w.heap.size, 0, none⟩) hlt).trans hg) (Nat.lt_of_lt_of_le hlt hW.size) (fun W' hW' => hp x hx cs W' (hal.trans ((hW.trans (hW'.mono hW.size)).mono hal.size)) hl hR)))
  rw [any_not] at HC
  have HB := Lib.hid hal
  have hmf : ∀ (fn : Fn) (first cap : Array Value) (w : World), (Instr.makeFunc fn first cap).run Tryz.prog w = .ok (.func fn first cap) w := fun _ _ _ _ => rfl
  clear hp hal hg hlt hK
  generalize xs.all p = Q at *
  generalize xs.length = m at *
  by_cases h32 : m ≤ 32
  · have t1 : decide ((m : Int) ≤ 32) = true := decide_eq_true (by omega)
    rw [decide_eq_true h32, Bool.true_and]
    clear h32
    go_enter Tryz.func89, Tryz.ntmps89
    go_wp2_with (refine HC.out.mono ?_; rintro e w' ⟨rfl, hB1⟩)
    go_ret
    exact ⟨ret_bool (by simp), HB.out.trans (hB1.mono HB.out.size)⟩
  · have t1 : decide ((m : Int) ≤ 32) = false := decide_eq_false (by omega)
    rw [decide_eq_false h32, Bool.false_and]
    clear h32
    go_enter Tryz.func89, Tryz.ntmps89
    go_wp2
    go_ret
    exact ⟨rfl, HB.out⟩
end Go.Proofs.YtnlepdkbcjjkdaaGreatDoor
