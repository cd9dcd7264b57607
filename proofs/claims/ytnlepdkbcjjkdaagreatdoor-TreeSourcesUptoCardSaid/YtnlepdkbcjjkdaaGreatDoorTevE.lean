/- Package tree: every, and the library's IndexFunc and ContainsFunc, at each type of element. -/
import Derived.Test.YtnlepdkbcjjkdaaGreatDoorTrCd
import Derived.Test.YtnlepdkbcjjkdaaGreatDoorTreP
namespace Go.Proofs.YtnlepdkbcjjkdaaGreatDoor
open Go.RowKit TreM WrdM

/-- The elements of a slice, each of k cells. -/
def SlAt {α : Type} (W : World) (R : α → List Value → Prop) (k : Nat) (A : Option Addr) (xs : List α) : Prop :=
  xs = [] ∨ ∃ b p, A = some ⟨b, p, none⟩ ∧ b < W.heap.size ∧ ∀ j x, xs[j]? = some x → ∃ cs : List Value, cs.length = k ∧ (∀ i u, cs[i]? = some u → W.cell? ⟨b, p + j * k + i, none⟩ = some u) ∧ R x cs
theorem SlAt.below {α : Type} {W W' : World} {R R' : α → List Value → Prop} {k : Nat} {A : Option Addr} {xs : List α} (h : SlAt W R k A xs) (hb : Below W.heap.size W W') (hR : ∀ x ∈ xs, ∀ cs, R x cs → R' x cs) : SlAt W' R' k A xs := by
  rcases h with h | ⟨b, p, hA, hl, hk⟩
  · exact .inl h
  · refine .inr ⟨b, p, hA, Nat.lt_of_lt_of_le hl hb.size, fun j x hj => ?_⟩
    obtain ⟨cs, c0, c1, c2⟩ := hk j x hj
    exact ⟨cs, c0, fun i u hu => by rw [hb.cell (p := ⟨b, p + j * k + i, none⟩) hl]; exact c1 i u hu, hR x (List.mem_of_getElem? hj) cs c2⟩
theorem get_el {α : Type} {ks : List α} {k : Nat} (h : k < ks.length) : ∃ x, ks[k]? = some x := ⟨_, List.getElem?_eq_getElem h⟩
theorem any_none {α : Type} {ks : List α} {f : α → Bool} (h : ∀ j x, j < ks.length → ks[j]? = some x → f x = false) : ks.any f = false := by
  rw [Bool.eq_false_iff]
  intro e
  obtain ⟨x, hx, hf⟩ := List.any_eq_true.1 e
  obtain ⟨j, hj⟩ := List.getElem?_of_mem hx
  have := h j x (by
    rcases Nat.lt_or_ge j ks.length with h' | h'
    · exact h'
    · rw [List.getElem?_eq_none h'] at hj; cases hj) hj
  rw [this] at hf
  cases hf
theorem any_not {α : Type} (f : α → Bool) : ∀ ks : List α, ks.any (fun x => !f x) = !ks.all f
  | [] => rfl
  | x :: xs => by rw [List.any_cons, List.all_cons, any_not f xs]; cases f x <;> simp

set_option maxHeartbeats 1600000 in
theorem indexEnum_any {α : Type} (f : Nat) (lb : Array Value) (eg : ∀ args w, (callFunc f args).run Tryz.prog w = .ok (.enter f args) w) (p : α → Bool) (R : α → List Value → Prop) (xs : List α) (A : Option Addr) (cap : Nat) (w : World) (hK : SlAt w R 4 A xs) (hmc : xs.length ≤ cap) (hcap : cap ≤ 9223372036854775807)
    (hp : ∀ x ∈ xs, ∀ cs W, Below w.heap.size w W → cs.length = 4 → R x cs → Calls Tryz.prog f (#[.agg cs.toArray] ++ lb) W fun e w' => e = .returned (.bool (p x)) ∧ Below W.heap.size W w') :
    Calls Tryz.prog 76 #[.slice A xs.length cap, .func (.func f) #[] lb] w fun e w' => (∃ r : Int, e = .returned (.int .i64 r) ∧ decide (0 ≤ r) = xs.any p) ∧ Below w.heap.size w w' := by
  obtain ⟨m, hm⟩ : ∃ m, m = xs.length := ⟨_, rfl⟩
  have HM := Lib.hid hm
  have HK := Lib.hid hK
  have HP := Lib.hid hp
  rw [← hm] at hmc ⊢
  clear hm hK hp
  go_enter Tryz.func76, Tryz.ntmps76
  go_wp2
  go_loopw [5, 8] (fun _ i wr => ∃ k : Nat, k ≤ m ∧ i = .int .i64 k ∧ Hid (Below w.heap.size w wr) ∧ Hid (∀ j x, j < k → xs[j]? = some x → p x = false)) (fun _ i _ => m - (intOf i).toNat)
  case atStart => exact ⟨0, Nat.zero_le _, rfl, Below.refl _ _, fun j x hj => absurd hj (by omega)⟩
  case round =>
    obtain ⟨k, hk, rfl, HW, HA⟩ := hrel
    by_cases hlt : k < m
    · have t1 : decide ((k : Int) < (m : Int)) = true := decide_eq_true (by omega)
      have t2 : decide (k < m) = true := decide_eq_true hlt
      obtain ⟨x, hx⟩ := get_el (ks := xs) (k := k) (by rw [← HM.out]; exact hlt)
      rcases HK.out with hK | ⟨b', p', rfl, hb', hk'⟩
      · exfalso; rw [hK] at hx; simp at hx
      obtain ⟨cs, hl, hc, hR⟩ := hk' k x hx
      match cs, hl, hc, hR with
      | [v0, v1, v2, v3], _, hc, hR =>
      have hcw : ∀ i u, [v0, v1, v2, v3][i]? = some u → wr.cell? ⟨b', p' + k * 4 + i, none⟩ = some u := fun i u hu => by rw [HW.out.cell (p := ⟨b', p' + k * 4 + i, none⟩) hb']; exact hc i u hu
      have c0 : wr.cell? ⟨b', p' + k * 4, none⟩ = some v0 := by simpa using hcw 0 v0 rfl
      have c1 : wr.cell? ⟨b', p' + k * 4 + 1, none⟩ = some v1 := by simpa using hcw 1 v1 rfl
      have c2 : wr.cell? ⟨b', p' + k * 4 + 2, none⟩ = some v2 := by simpa using hcw 2 v2 rfl
      have c3 : wr.cell? ⟨b', p' + k * 4 + 3, none⟩ = some v3 := by simpa using hcw 3 v3 rfl
      have HC := HP.out x (List.mem_of_getElem? hx) _ wr HW.out rfl hR
      have HX := Lib.hid hx
      clear hx hk' hc hcw hR
      rcases hr : p x with _ | _
      · rw [hr] at HC
        have HC := Lib.hid HC
        have HRx := Lib.hid hr
        clear hr
        go_wp2_with (go_at_fn f; refine HC.out.mono ?_; rintro e w' ⟨rfl, hB2⟩)
        go_roundw
        case rel =>
          refine ⟨k + 1, by omega, by go_num, HW.out.trans (hB2.mono HW.out.size), fun j y hj hy => ?_⟩
          by_cases e : j = k
          · subst e
            have := HX.out.symm.trans hy
            injection this with this
            rw [← this]; exact HRx.out
          · exact HA.out j y (by omega) hy
        case measure => simp [intOf]; omega
      · rw [hr] at HC
        have HC := Lib.hid HC
        have HRx := Lib.hid hr
        clear hr
        go_wp2_with (go_at_fn f; refine HC.out.mono ?_; rintro e w' ⟨rfl, hB2⟩)
        go_ret
        refine ⟨⟨_, rfl, ?_⟩, HW.out.trans (hB2.mono HW.out.size)⟩
        rw [List.any_eq_true.2 ⟨x, List.mem_of_getElem? HX.out, HRx.out⟩]
        exact decide_eq_true (by omega)
    · have t1 : decide ((k : Int) < (m : Int)) = false := decide_eq_false (by omega)
      have t2 : decide (k < m) = false := decide_eq_false hlt
      go_wp2
      go_ret
      refine ⟨⟨_, rfl, ?_⟩, HW.out⟩
      rw [any_none fun j x hj hx => HA.out j x (by have := HM.out; omega) hx]
      rfl
theorem containsEnum_any {α : Type} (f : Nat) (lb : Array Value) (eg : ∀ args w, (callFunc f args).run Tryz.prog w = .ok (.enter f args) w) (p : α → Bool) (R : α → List Value → Prop) (xs : List α) (A : Option Addr) (cap : Nat) (w : World) (hK : SlAt w R 4 A xs) (hmc : xs.length ≤ cap) (hcap : cap ≤ 9223372036854775807)
    (hp : ∀ x ∈ xs, ∀ cs W, Below w.heap.size w W → cs.length = 4 → R x cs → Calls Tryz.prog f (#[.agg cs.toArray] ++ lb) W fun e w' => e = .returned (.bool (p x)) ∧ Below W.heap.size W w') :
    Calls Tryz.prog 41 #[.slice A xs.length cap, .func (.func f) #[] lb] w fun e w' => e = .returned (.bool (xs.any p)) ∧ Below w.heap.size w w' := by
  have HC := Lib.hid (indexEnum_any f lb eg p R xs A cap w hK hmc hcap hp)
  clear hp
  generalize xs.any p = Q at *
  generalize xs.length = m at *
  go_enter Tryz.func41, Tryz.ntmps41
  go_wp2_with (refine HC.out.mono ?_; rintro e w' ⟨⟨r, rfl, hr⟩, hB1⟩)
  go_ret
  exact ⟨rfl, hB1⟩
theorem eg_evEnum : ∀ args w, (callFunc 42 args).run Tryz.prog w = .ok (.enter 42 args) w := enters_of Tryz.func42 (by kernel_rfl) rfl
set_option maxRecDepth 100000 in
theorem evcEnum_any (f : Nat) (eg : ∀ args w, (callFunc f args).run Tryz.prog w = .ok (.enter f args) w) (r : Bool) (cs : List Value) (g : Nat) (w : World) (hl : cs.length = 4) (hg : w.cell? ⟨g, 0, none⟩ = some (.func (.func f) #[] #[])) (_hgl : g < w.heap.size)
    (hp : ∀ W, Below w.heap.size w W → Calls Tryz.prog f #[.agg cs.toArray] W fun e w' => e = .returned (.bool r) ∧ Below W.heap.size W w') :
    Calls Tryz.prog 42 #[.agg cs.toArray, .pointer (some ⟨g, 0, none⟩)] w fun e w' => e = .returned (.bool (!r)) ∧ Below w.heap.size w w' := by
  match cs, hl, hp with
  | [v0, v1, v2, v3], _, hp =>
  have hal := below_alloc w (.cells #[v0, v1, v2, v3] 48)
  have HC := Lib.hid (hp _ hal)
  have HB := Lib.hid hal
  have hg2 : (w.alloc (.cells #[v0, v1, v2, v3] 48)).cell? ⟨g, 0, none⟩ = some (.func (.func f) #[] #[]) := (hal.cell (p := ⟨g, 0, none⟩) _hgl).trans hg
  clear hp hal
  go_enter Tryz.func42, Tryz.ntmps42
  go_wp2_with (go_at_fn f; refine HC.out.mono ?_; rintro e w' ⟨rfl, hB1⟩)
  go_ret
  exact ⟨rfl, HB.out.trans (hB1.mono HB.out.size)⟩
set_option maxRecDepth 100000 in
theorem everyEnum_any {α : Type} (f : Nat) (eg : ∀ args w, (callFunc f args).run Tryz.prog w = .ok (.enter f args) w) (p : α → Bool) (R : α → List Value → Prop) (xs : List α) (A : Option Addr) (cap : Nat) (w : World) (hK : SlAt w R 4 A xs) (hmc : xs.length ≤ cap) (hcap : cap ≤ 9223372036854775807)
    (hp : ∀ x ∈ xs, ∀ cs W, Below w.heap.size w W → cs.length = 4 → R x cs → Calls Tryz.prog f #[.agg cs.toArray] W fun e w' => e = .returned (.bool (p x)) ∧ Below W.heap.size W w') :
    Calls Tryz.prog 14 #[.slice A xs.length cap, .func (.func f) #[] #[]] w fun e w' => e = .returned (.bool (decide (xs.length ≤ 32) && xs.all p)) ∧ Below w.heap.size w w' := by
  have hal := below_alloc w (.cells #[.func (.func f) #[] #[]] 49)
  have hg := Lib.cell_of_heap (blk_new w (.cells #[.func (.func f) #[] #[]] 49)) 0
  have hlt : w.heap.size < (w.alloc (.cells #[.func (.func f) #[] #[]] 49)).heap.size := by simp
  have HC := Lib.hid (containsEnum_any 42 #[.pointer (some ⟨w.heap.size, 0, none⟩)] eg_evEnum (fun x => !p x) R xs A cap (w.alloc (.cells #[.func (.func f) #[] #[]] 49)) (hK.below hal fun _ _ _ h => h) hmc hcap (fun x hx cs W hW hl hR =>
    evcEnum_any f eg (p x) cs w.heap.size W hl ((hW.cell (p := ⟨w.heap.size, 0, none⟩) hlt).trans hg) (Nat.lt_of_lt_of_le hlt hW.size) (fun W' hW' => hp x hx cs W' (hal.trans ((hW.trans (hW'.mono hW.size)).mono hal.size)) hl hR)))
  rw [any_not] at HC
  have HB := Lib.hid hal
  have hmf : ∀ (fn : Fn) (first cap : Array Value) (w : World), (Instr.makeFunc fn first cap).run Tryz.prog w = .ok (.func fn first cap) w := fun _ _ _ _ => rfl
  clear hp hal hg hlt hK
  generalize xs.all p = Q at *
  generalize xs.length = m at *
  by_cases h32 : m ≤ 32
  · have t1 : decide ((m : Int) ≤ 32) = true := decide_eq_true (by omega)
    rw [decide_eq_true h32, Bool.true_and]
    clear h32
    go_enter Tryz.func14, Tryz.ntmps14
    go_wp2_with (refine HC.out.mono ?_; rintro e w' ⟨rfl, hB1⟩)
    go_ret
    exact ⟨ret_bool (by simp), HB.out.trans (hB1.mono HB.out.size)⟩
  · have t1 : decide ((m : Int) ≤ 32) = false := decide_eq_false (by omega)
    rw [decide_eq_false h32, Bool.false_and]
    clear h32
    go_enter Tryz.func14, Tryz.ntmps14
    go_wp2
    go_ret
    exact ⟨rfl, HB.out⟩

set_option maxHeartbeats 1600000 in
theorem indexStr_any {α : Type} (f : Nat) (lb : Array Value) (eg : ∀ args w, (callFunc f args).run Tryz.prog w = .ok (.enter f args) w) (p : α → Bool) (R : α → List Value → Prop) (xs : List α) (A : Option Addr) (cap : Nat) (w : World) (hK : SlAt w R 1 A xs) (hmc : xs.length ≤ cap) (hcap : cap ≤ 9223372036854775807)
    (hp : ∀ x ∈ xs, ∀ cs W, Below w.heap.size w W → cs.length = 1 → R x cs → Calls Tryz.prog f (#[cs.headD undef] ++ lb) W fun e w' => e = .returned (.bool (p x)) ∧ Below W.heap.size W w') :
    Calls Tryz.prog 106 #[.slice A xs.length cap, .func (.func f) #[] lb] w fun e w' => (∃ r : Int, e = .returned (.int .i64 r) ∧ decide (0 ≤ r) = xs.any p) ∧ Below w.heap.size w w' := by
  obtain ⟨m, hm⟩ : ∃ m, m = xs.length := ⟨_, rfl⟩
  have HM := Lib.hid hm
  have HK := Lib.hid hK
  have HP := Lib.hid hp
  rw [← hm] at hmc ⊢
  clear hm hK hp
  go_enter Tryz.func106, Tryz.ntmps106
  go_wp2
  go_loopw [5, 8] (fun _ i wr => ∃ k : Nat, k ≤ m ∧ i = .int .i64 k ∧ Hid (Below w.heap.size w wr) ∧ Hid (∀ j x, j < k → xs[j]? = some x → p x = false)) (fun _ i _ => m - (intOf i).toNat)
  case atStart => exact ⟨0, Nat.zero_le _, rfl, Below.refl _ _, fun j x hj => absurd hj (by omega)⟩
  case round =>
    obtain ⟨k, hk, rfl, HW, HA⟩ := hrel
    by_cases hlt : k < m
    · have t1 : decide ((k : Int) < (m : Int)) = true := decide_eq_true (by omega)
      have t2 : decide (k < m) = true := decide_eq_true hlt
      obtain ⟨x, hx⟩ := get_el (ks := xs) (k := k) (by rw [← HM.out]; exact hlt)
      rcases HK.out with hK | ⟨b', p', rfl, hb', hk'⟩
      · exfalso; rw [hK] at hx; simp at hx
      obtain ⟨cs, hl, hc, hR⟩ := hk' k x hx
      match cs, hl, hc, hR with
      | [v0], _, hc, hR =>
      have hcw : ∀ i u, [v0][i]? = some u → wr.cell? ⟨b', p' + k * 1 + i, none⟩ = some u := fun i u hu => by rw [HW.out.cell (p := ⟨b', p' + k * 1 + i, none⟩) hb']; exact hc i u hu
      have c0 : wr.cell? ⟨b', p' + k, none⟩ = some v0 := by simpa using hcw 0 v0 rfl
      have HC := HP.out x (List.mem_of_getElem? hx) _ wr HW.out rfl hR
      have HX := Lib.hid hx
      clear hx hk' hc hcw hR
      rcases hr : p x with _ | _
      · rw [hr] at HC
        have HC := Lib.hid HC
        have HRx := Lib.hid hr
        clear hr
        go_wp2_with (go_at_fn f; refine HC.out.mono ?_; rintro e w' ⟨rfl, hB2⟩)
        go_roundw
        case rel =>
          refine ⟨k + 1, by omega, by go_num, HW.out.trans (hB2.mono HW.out.size), fun j y hj hy => ?_⟩
          by_cases e : j = k
          · subst e
            have := HX.out.symm.trans hy
            injection this with this
            rw [← this]; exact HRx.out
          · exact HA.out j y (by omega) hy
        case measure => simp [intOf]; omega
      · rw [hr] at HC
        have HC := Lib.hid HC
        have HRx := Lib.hid hr
        clear hr
        go_wp2_with (go_at_fn f; refine HC.out.mono ?_; rintro e w' ⟨rfl, hB2⟩)
        go_ret
        refine ⟨⟨_, rfl, ?_⟩, HW.out.trans (hB2.mono HW.out.size)⟩
        rw [List.any_eq_true.2 ⟨x, List.mem_of_getElem? HX.out, HRx.out⟩]
        exact decide_eq_true (by omega)
    · have t1 : decide ((k : Int) < (m : Int)) = false := decide_eq_false (by omega)
      have t2 : decide (k < m) = false := decide_eq_false hlt
      go_wp2
      go_ret
      refine ⟨⟨_, rfl, ?_⟩, HW.out⟩
      rw [any_none fun j x hj hx => HA.out j x (by have := HM.out; omega) hx]
      rfl
theorem containsStr_any {α : Type} (f : Nat) (lb : Array Value) (eg : ∀ args w, (callFunc f args).run Tryz.prog w = .ok (.enter f args) w) (p : α → Bool) (R : α → List Value → Prop) (xs : List α) (A : Option Addr) (cap : Nat) (w : World) (hK : SlAt w R 1 A xs) (hmc : xs.length ≤ cap) (hcap : cap ≤ 9223372036854775807)
    (hp : ∀ x ∈ xs, ∀ cs W, Below w.heap.size w W → cs.length = 1 → R x cs → Calls Tryz.prog f (#[cs.headD undef] ++ lb) W fun e w' => e = .returned (.bool (p x)) ∧ Below W.heap.size W w') :
    Calls Tryz.prog 80 #[.slice A xs.length cap, .func (.func f) #[] lb] w fun e w' => e = .returned (.bool (xs.any p)) ∧ Below w.heap.size w w' := by
  have HC := Lib.hid (indexStr_any f lb eg p R xs A cap w hK hmc hcap hp)
  clear hp
  generalize xs.any p = Q at *
  generalize xs.length = m at *
  go_enter Tryz.func80, Tryz.ntmps80
  go_wp2_with (refine HC.out.mono ?_; rintro e w' ⟨⟨r, rfl, hr⟩, hB1⟩)
  go_ret
  exact ⟨rfl, hB1⟩
theorem eg_evStr : ∀ args w, (callFunc 81 args).run Tryz.prog w = .ok (.enter 81 args) w := enters_of Tryz.func81 (by kernel_rfl) rfl
set_option maxRecDepth 100000 in
theorem evcStr_any (f : Nat) (eg : ∀ args w, (callFunc f args).run Tryz.prog w = .ok (.enter f args) w) (r : Bool) (cs : List Value) (g : Nat) (w : World) (hl : cs.length = 1) (hg : w.cell? ⟨g, 0, none⟩ = some (.func (.func f) #[] #[])) (_hgl : g < w.heap.size)
    (hp : ∀ W, Below w.heap.size w W → Calls Tryz.prog f #[cs.headD undef] W fun e w' => e = .returned (.bool r) ∧ Below W.heap.size W w') :
    Calls Tryz.prog 81 #[cs.headD undef, .pointer (some ⟨g, 0, none⟩)] w fun e w' => e = .returned (.bool (!r)) ∧ Below w.heap.size w w' := by
  match cs, hl, hp with
  | [v0], _, hp =>
  have HC := Lib.hid (hp w (Below.refl _ _))
  clear hp
  go_enter Tryz.func81, Tryz.ntmps81
  go_wp2_with (go_at_fn f; refine HC.out.mono ?_; rintro e w' ⟨rfl, hB1⟩)
  go_ret
  exact ⟨rfl, hB1⟩
set_option maxRecDepth 100000 in
theorem everyStr_any {α : Type} (f : Nat) (eg : ∀ args w, (callFunc f args).run Tryz.prog w = .ok (.enter f args) w) (p : α → Bool) (R : α → List Value → Prop) (xs : List α) (A : Option Addr) (cap : Nat) (w : World) (hK : SlAt w R 1 A xs) (hmc : xs.length ≤ cap) (hcap : cap ≤ 9223372036854775807)
    (hp : ∀ x ∈ xs, ∀ cs W, Below w.heap.size w W → cs.length = 1 → R x cs → Calls Tryz.prog f #[cs.headD undef] W fun e w' => e = .returned (.bool (p x)) ∧ Below W.heap.size W w') :
    Calls Tryz.prog 44 #[.slice A xs.length cap, .func (.func f) #[] #[]] w fun e w' => e = .returned (.bool (decide (xs.length ≤ 32) && xs.all p)) ∧ Below w.heap.size w w' := by
  have hal := below_alloc w (.cells #[.func (.func f) #[] #[]] 73)
  have hg := Lib.cell_of_heap (blk_new w (.cells #[.func (.func f) #[] #[]] 73)) 0
  have hlt : w.heap.size < (w.alloc (.cells #[.func (.func f) #[] #[]] 73)).heap.size := by simp
  have HC := Lib.hid (containsStr_any 81 #[.pointer (some ⟨w.heap.size, 0, none⟩)] eg_evStr (fun x => !p x) R xs A cap (w.alloc (.cells #[.func (.func f) #[] #[]] 73)) (hK.below hal fun _ _ _ h => h) hmc hcap (fun x hx cs W hW hl hR =>
    evcStr_any f eg (p x) cs w.heap.size W hl ((hW.cell (p := ⟨w.heap.size, 0, none⟩) hlt).trans hg) (Nat.lt_of_lt_of_le hlt hW.size) (fun W' hW' => hp x hx cs W' (hal.trans ((hW.trans (hW'.mono hW.size)).mono hal.size)) hl hR)))
  rw [any_not] at HC
  have HB := Lib.hid hal
  have hmf : ∀ (fn : Fn) (first cap : Array Value) (w : World), (Instr.makeFunc fn first cap).run Tryz.prog w = .ok (.func fn first cap) w := fun _ _ _ _ => rfl
  clear hp hal hg hlt hK
  generalize xs.all p = Q at *
  generalize xs.length = m at *
  by_cases h32 : m ≤ 32
  · have t1 : decide ((m : Int) ≤ 32) = true := decide_eq_true (by omega)
    rw [decide_eq_true h32, Bool.true_and]
    clear h32
    go_enter Tryz.func44, Tryz.ntmps44
    go_wp2_with (refine HC.out.mono ?_; rintro e w' ⟨rfl, hB1⟩)
    go_ret
    exact ⟨ret_bool (by simp), HB.out.trans (hB1.mono HB.out.size)⟩
  · have t1 : decide ((m : Int) ≤ 32) = false := decide_eq_false (by omega)
    rw [decide_eq_false h32, Bool.false_and]
    clear h32
    go_enter Tryz.func44, Tryz.ntmps44
    go_wp2
    go_ret
    exact ⟨rfl, HB.out⟩
end Go.Proofs.YtnlepdkbcjjkdaaGreatDoor
