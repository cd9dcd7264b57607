/- Package tree: right, Right. -/
import Derived.Test.YtmkhfcdjgdofnaaDoorTreC
namespace Go.Proofs.YtmkhfcdjgdofnaaDoor
open Go.RowKit TreM WrdM

/-- Right, with so many levels. -/
def rB (lv : Nat) (X : Ex) : Bool := decide (deep X ≤ lv) && TreM.shape X
theorem deepL_le (lv : Nat) : ∀ ks : List Ex, deepL ks ≤ lv ↔ ∀ k ∈ ks, deep k ≤ lv
  | [] => by simp [deepL]
  | y :: ys => by
    have ih := deepL_le lv ys
    simp only [deepL, List.mem_cons, forall_eq_or_imp]
    rw [← ih]
    omega
theorem deep_pos (X : Ex) : 1 ≤ deep X := by cases X; simp only [deep]; omega
theorem rB_zero (X : Ex) : rB 0 X = false := by
  have := deep_pos X
  unfold rB
  rw [decide_eq_false (by omega), Bool.false_and]
theorem rB_node (lv : Nat) (o n : Int) (s : List UInt8) (ks : List Ex) (l c : Int) : rB (lv + 1) (.mk o n s ks l c) = (ownB o n s ks.length && ks.all (rB lv)) := by
  unfold rB
  rw [Bool.eq_iff_iff]
  simp only [Bool.and_eq_true, decide_eq_true_eq, List.all_eq_true]
  have h1 : deep (.mk o n s ks l c) = deepL ks + 1 := by rw [deep]
  have h2 : TreM.shape (.mk o n s ks l c) = (ownB o n s ks.length && shapeL ks) := by rw [TreM.shape]
  have h3 := deepL_le lv ks
  have h4 := shapeL_mem ks
  rw [h1, h2, Bool.and_eq_true]
  constructor
  · rintro ⟨a, b, d⟩
    exact ⟨b, fun k hk => ⟨h3.1 (by omega) k hk, h4.1 d k hk⟩⟩
  · rintro ⟨a, b⟩
    have := h3.2 fun k hk => (b k hk).1
    exact ⟨by omega, a, h4.2 fun k hk => (b k hk).2⟩
theorem all_false {ks : List Ex} {f : Ex → Bool} {k : Nat} {x : Ex} (h : ks[k]? = some x) (hf : f x = false) : ks.all f = false := by
  rw [Bool.eq_false_iff]
  intro e
  have := List.all_eq_true.1 e x (List.mem_of_getElem? h)
  rw [hf] at this
  cases this
theorem all_upto {ks : List Ex} {f : Ex → Bool} (h : ∀ j x, j < ks.length → ks[j]? = some x → f x = true) : ks.all f = true := by
  rw [List.all_eq_true]
  intro x hx
  obtain ⟨j, hj⟩ := List.getElem?_of_mem hx
  exact h j x (by
    rcases Nat.lt_or_ge j ks.length with h' | h'
    · exact h'
    · rw [List.getElem?_eq_none h'] at hj; cases hj) hj
theorem below_same {w w' : World} (h : w = w') : Below w.heap.size w w' := by rw [← h]; exact Below.refl _ _
/-- The walk of a region's operations, kept from being reduced. -/
structure WQ (P : Program) (ops : Array Oper) (C : World → Prop) (Q : Act → Prop) (rest : List Oper) (a : Act) : Prop where
  out : wpQuiet P ops C Q rest a
theorem quiet_skip {P : Program} {ops : Array Oper} {C : World → Prop} {Q : Act → Prop} {a : Act} {o : Oper} {rest : List Oper} (hw : Region.wanted o (yielded ops a.tmps) = false)
    (h : ∀ K : Act → Prop, (∀ a, WQ P ops C Q rest a → K a) → K (a.put o.dst undef)) : WQ P ops C Q (o :: rest) a := by
  refine ⟨wpQuiet_step (fun K hK => ?_)⟩
  rw [hw]
  exact h K (fun a h => hK a h.out)
theorem quiet_take {P : Program} {ops : Array Oper} {C : World → Prop} {Q : Act → Prop} {a : Act} {o : Oper} {rest : List Oper} (hw : Region.wanted o (yielded ops a.tmps) = true)
    (h : ∀ K : Act → Prop, (∀ a, WQ P ops C Q rest a → K a) → o.quiet P a C K) : WQ P ops C Q (o :: rest) a := by
  refine ⟨wpQuiet_step (fun K hK => ?_)⟩
  rw [hw]
  exact h K (fun a h => hK a h.out)

set_option maxHeartbeats 12800000 in
theorem rightP_any : ∀ X : Ex, ∀ (b p lv : Nat) (w : World), ExP w b p X → lv ≤ 60 → Calls Tryd.prog 50 #[.pointer (some ⟨b, p, none⟩), .int .i64 (lv : Int)] w fun e w' => e = .returned (.bool (rB lv X)) ∧ Below w.heap.size w w' := by
  apply Ex.ind (P := fun X => ∀ (b p lv : Nat) (w : World), ExP w b p X → lv ≤ 60 → Calls Tryd.prog 50 #[.pointer (some ⟨b, p, none⟩), .int .i64 (lv : Int)] w fun e w' => e = .returned (.bool (rB lv X)) ∧ Below w.heap.size w w')
  intro o n s ks l c ih b p lv w h hlv
  obtain ⟨A, cap, h6, hB, hK⟩ := h.open
  have hlt := h.lt
  obtain ⟨c0, c1, c2, c3, c4, c5⟩ := id h6
  obtain ⟨m, hm⟩ : ∃ m, m = ks.length := ⟨_, rfl⟩
  have hcap := hB.cap
  have hmc := hB.m
  have HM := Lib.hid hm
  have HK := Lib.hid hK
  have HI := Lib.hid ih
  rw [← hm] at c3 hmc
  have HR0 : Hid (∀ d os, Below w.heap.size w (Go.Sort.grow (redrawn w d) os)) := fun d os => below_regrown w d os
  have HKD : Hid (∀ d os, Calls Tryd.prog 75 #[.int .i64 o] (Go.Sort.grow (redrawn w d) os) fun e w' => e = .returned (.int .i64 (kidsC o : Nat)) ∧ ∃ p : Regrown, w' = Go.Sort.grow (redrawn w p.d) p.os) := fun d os =>
    Calls.regrown_of ((kids_any o _).mono fun e w' ⟨h1, h2⟩ => ⟨h1, below_same h2⟩)
  have HFI : Hid (∀ d os, Calls Tryd.prog 76 #[.pointer (some ⟨b, p, none⟩)] (Go.Sort.grow (redrawn w d) os) fun e w' => e = .returned (.bool (fitB o n s)) ∧ ∃ p : Regrown, w' = Go.Sort.grow (redrawn w p.d) p.os) := fun d os => by
    refine Calls.regrown_of (fits_any (s := s) (A := A) (m := m) (cap := cap) (l := l) (c := c) ⟨?_, ?_, ?_, ?_, ?_, ?_⟩ hB.s)
    · exact cell_regrown c0 d os
    · exact cell_regrown c1 d os
    · exact cell_regrown c2 d os
    · exact cell_regrown c3 d os
    · exact cell_regrown c4 d os
    · exact cell_regrown c5 d os
  have HP := Lib.hid h
  have d0 := cell_regrown c0
  have d3 := cell_regrown c3
  cases lv with
  | zero =>
    have HE := Lib.hid (rB_zero (.mk o n s ks l c))
    generalize rB 0 (.mk o n s ks l c) = R at *
    clear hm hK ih hB h h6
    go_enter Tryd.func50, Tryd.ntmps50
    go_upto_region 1 with (fail)
    refine wp_region_quiet_below (by kernel_rfl) (by kernel_rfl) (WQ.out ?_)
    refine quiet_take (by kernel_rfl) (fun K hK => ?_); go_simp; refine hK _ ?_; clear hK K
    refine quiet_take (by kernel_rfl) (fun K hK => ?_); go_simp; refine hK _ ?_; clear hK K
    refine quiet_take (by kernel_rfl) (fun K hK => ?_); go_simp; refine hK _ ?_; clear hK K
    refine quiet_skip (by kernel_rfl) (fun K hK => ?_); go_simp; refine hK _ ?_; clear hK K
    refine quiet_skip (by kernel_rfl) (fun K hK => ?_); go_simp; refine hK _ ?_; clear hK K
    refine quiet_skip (by kernel_rfl) (fun K hK => ?_); go_simp; refine hK _ ?_; clear hK K
    refine quiet_skip (by kernel_rfl) (fun K hK => ?_); go_simp; refine hK _ ?_; clear hK K
    refine quiet_skip (by kernel_rfl) (fun K hK => ?_); go_simp; refine hK _ ?_; clear hK K
    refine quiet_take (by kernel_rfl) (fun K hK => ?_); go_simp; refine hK _ ?_; clear hK K
    refine quiet_take (by kernel_rfl) (fun K hK => ?_); go_simp; refine hK _ ?_; clear hK K
    refine quiet_skip (by kernel_rfl) (fun K hK => ?_); go_simp; refine hK _ ?_; clear hK K
    refine quiet_skip (by kernel_rfl) (fun K hK => ?_); go_simp; refine hK _ ?_; clear hK K
    refine quiet_skip (by kernel_rfl) (fun K hK => ?_); go_simp; refine hK _ ?_; clear hK K
    refine quiet_skip (by kernel_rfl) (fun K hK => ?_); go_simp; refine hK _ ?_; clear hK K
    refine quiet_skip (by kernel_rfl) (fun K hK => ?_); go_simp; refine hK _ ?_; clear hK K
    refine quiet_take (by kernel_rfl) (fun K hK => ?_); go_simp; refine hK _ ?_; clear hK K
    refine quiet_take (by kernel_rfl) (fun K hK => ?_); go_simp; refine hK _ ?_; clear hK K
    refine quiet_skip (by kernel_rfl) (fun K hK => ?_); go_simp; refine hK _ ?_; clear hK K
    refine quiet_skip (by kernel_rfl) (fun K hK => ?_); go_simp; refine hK _ ?_; clear hK K
    refine quiet_skip (by kernel_rfl) (fun K hK => ?_); go_simp; refine hK _ ?_; clear hK K
    refine quiet_skip (by kernel_rfl) (fun K hK => ?_); go_simp; refine hK _ ?_; clear hK K
    refine quiet_skip (by kernel_rfl) (fun K hK => ?_); go_simp; refine hK _ ?_; clear hK K
    refine quiet_skip (by kernel_rfl) (fun K hK => ?_); go_simp; refine hK _ ?_; clear hK K
    refine quiet_skip (by kernel_rfl) (fun K hK => ?_); go_simp; refine hK _ ?_; clear hK K
    refine quiet_skip (by kernel_rfl) (fun K hK => ?_); go_simp; refine hK _ ?_; clear hK K
    refine quiet_skip (by kernel_rfl) (fun K hK => ?_); go_simp; refine hK _ ?_; clear hK K
    refine quiet_skip (by kernel_rfl) (fun K hK => ?_); go_simp; refine hK _ ?_; clear hK K
    refine quiet_skip (by kernel_rfl) (fun K hK => ?_); go_simp; refine hK _ ?_; clear hK K
    refine quiet_take (by kernel_rfl) (fun K hK => ?_); go_simp; refine hK _ ?_; clear hK K
    refine quiet_take (by kernel_rfl) (fun K hK => ?_); go_simp; refine hK _ ?_; clear hK K
    refine quiet_skip (by kernel_rfl) (fun K hK => ?_); go_simp; refine hK _ ?_; clear hK K
    refine quiet_skip (by kernel_rfl) (fun K hK => ?_); go_simp; refine hK _ ?_; clear hK K
    refine quiet_skip (by kernel_rfl) (fun K hK => ?_); go_simp; refine hK _ ?_; clear hK K
    refine quiet_take (by kernel_rfl) (fun K hK => ?_); go_simp; refine hK _ ?_; clear hK K
    refine ⟨wpQuiet_nil ?_⟩
    intro w1 hw'
    have hb1 : Below w.heap.size w w1 := by obtain ⟨⟨dq, osq⟩, hw''⟩ := hw'; rw [hw'']; exact below_regrown w dq osq
    clear hw'
    go_wp2_with fail
    go_ret
    exact ⟨ret_bool HE.out.symm, hb1⟩
  | succ lv =>
  have HE := Lib.hid (rB_node lv o n s ks l c)
  have t0 : ((lv : Int) + 1 == 0) = false := by rw [beq_eq_false_iff_ne]; omega
  have how := HE.out
  rw [own_eq, ← hm] at how
  have HOW := Lib.hid how
  clear how
  generalize rB (lv + 1) (.mk o n s ks l c) = R at *
  clear hm hK ih hB h h6 HE
  by_cases h1 : 1 ≤ o
  case neg =>
    have t1 : decide (o < 1) = true := decide_eq_true (by omega)
    have HE : Hid (R = false) := by unfold Hid; rw [HOW.out, decide_eq_false h1]; simp
    go_enter Tryd.func50, Tryd.ntmps50
    go_upto_region 1 with (fail)
    refine wp_region_quiet_below (by kernel_rfl) (by kernel_rfl) (WQ.out ?_)
    refine quiet_take (by kernel_rfl) (fun K hK => ?_); go_simp; refine hK _ ?_; clear hK K
    refine quiet_take (by kernel_rfl) (fun K hK => ?_); go_simp; refine hK _ ?_; clear hK K
    refine quiet_take (by kernel_rfl) (fun K hK => ?_); go_simp; refine hK _ ?_; clear hK K
    refine quiet_take (by kernel_rfl) (fun K hK => ?_); go_simp; refine hK _ ?_; clear hK K
    refine quiet_take (by kernel_rfl) (fun K hK => ?_); go_simp; refine hK _ ?_; clear hK K
    refine quiet_take (by kernel_rfl) (fun K hK => ?_); go_simp; refine hK _ ?_; clear hK K
    refine quiet_take (by kernel_rfl) (fun K hK => ?_); go_simp; refine hK _ ?_; clear hK K
    refine quiet_take (by kernel_rfl) (fun K hK => ?_); go_simp; refine hK _ ?_; clear hK K
    refine quiet_take (by kernel_rfl) (fun K hK => ?_); go_simp; refine hK _ ?_; clear hK K
    refine quiet_take (by kernel_rfl) (fun K hK => ?_); go_simp; refine hK _ ?_; clear hK K
    refine quiet_skip (by kernel_rfl) (fun K hK => ?_); go_simp; refine hK _ ?_; clear hK K
    refine quiet_skip (by kernel_rfl) (fun K hK => ?_); go_simp; refine hK _ ?_; clear hK K
    refine quiet_skip (by kernel_rfl) (fun K hK => ?_); go_simp; refine hK _ ?_; clear hK K
    refine quiet_skip (by kernel_rfl) (fun K hK => ?_); go_simp; refine hK _ ?_; clear hK K
    refine quiet_skip (by kernel_rfl) (fun K hK => ?_); go_simp; refine hK _ ?_; clear hK K
    refine quiet_take (by kernel_rfl) (fun K hK => ?_); go_simp; refine hK _ ?_; clear hK K
    refine quiet_take (by kernel_rfl) (fun K hK => ?_); go_simp; refine hK _ ?_; clear hK K
    refine quiet_skip (by kernel_rfl) (fun K hK => ?_); go_simp; refine hK _ ?_; clear hK K
    refine quiet_skip (by kernel_rfl) (fun K hK => ?_); go_simp; refine hK _ ?_; clear hK K
    refine quiet_skip (by kernel_rfl) (fun K hK => ?_); go_simp; refine hK _ ?_; clear hK K
    refine quiet_skip (by kernel_rfl) (fun K hK => ?_); go_simp; refine hK _ ?_; clear hK K
    refine quiet_skip (by kernel_rfl) (fun K hK => ?_); go_simp; refine hK _ ?_; clear hK K
    refine quiet_skip (by kernel_rfl) (fun K hK => ?_); go_simp; refine hK _ ?_; clear hK K
    refine quiet_skip (by kernel_rfl) (fun K hK => ?_); go_simp; refine hK _ ?_; clear hK K
    refine quiet_skip (by kernel_rfl) (fun K hK => ?_); go_simp; refine hK _ ?_; clear hK K
    refine quiet_skip (by kernel_rfl) (fun K hK => ?_); go_simp; refine hK _ ?_; clear hK K
    refine quiet_skip (by kernel_rfl) (fun K hK => ?_); go_simp; refine hK _ ?_; clear hK K
    refine quiet_skip (by kernel_rfl) (fun K hK => ?_); go_simp; refine hK _ ?_; clear hK K
    refine quiet_take (by kernel_rfl) (fun K hK => ?_); go_simp; refine hK _ ?_; clear hK K
    refine quiet_take (by kernel_rfl) (fun K hK => ?_); go_simp; refine hK _ ?_; clear hK K
    refine quiet_skip (by kernel_rfl) (fun K hK => ?_); go_simp; refine hK _ ?_; clear hK K
    refine quiet_skip (by kernel_rfl) (fun K hK => ?_); go_simp; refine hK _ ?_; clear hK K
    refine quiet_skip (by kernel_rfl) (fun K hK => ?_); go_simp; refine hK _ ?_; clear hK K
    refine quiet_take (by kernel_rfl) (fun K hK => ?_); go_simp; refine hK _ ?_; clear hK K
    refine ⟨wpQuiet_nil ?_⟩
    intro w1 hw'
    have hb1 : Below w.heap.size w w1 := by obtain ⟨⟨dq, osq⟩, hw''⟩ := hw'; rw [hw'']; exact below_regrown w dq osq
    clear hw'
    go_wp2_with fail
    go_ret
    exact ⟨ret_bool HE.out.symm, hb1⟩
  have t1 : decide (o < 1) = false := decide_eq_false (by omega)
  by_cases h2 : o < 31
  case neg =>
    have t2 : decide ((31 : Int) ≤ o) = true := decide_eq_true (by omega)
    have HE : Hid (R = false) := by unfold Hid; rw [HOW.out, decide_eq_false h2]; simp
    go_enter Tryd.func50, Tryd.ntmps50
    go_upto_region 1 with (fail)
    refine wp_region_quiet_below (by kernel_rfl) (by kernel_rfl) (WQ.out ?_)
    refine quiet_take (by kernel_rfl) (fun K hK => ?_); go_simp; refine hK _ ?_; clear hK K
    refine quiet_take (by kernel_rfl) (fun K hK => ?_); go_simp; refine hK _ ?_; clear hK K
    refine quiet_take (by kernel_rfl) (fun K hK => ?_); go_simp; refine hK _ ?_; clear hK K
    refine quiet_take (by kernel_rfl) (fun K hK => ?_); go_simp; refine hK _ ?_; clear hK K
    refine quiet_take (by kernel_rfl) (fun K hK => ?_); go_simp; refine hK _ ?_; clear hK K
    refine quiet_take (by kernel_rfl) (fun K hK => ?_); go_simp; refine hK _ ?_; clear hK K
    refine quiet_take (by kernel_rfl) (fun K hK => ?_); go_simp; refine hK _ ?_; clear hK K
    refine quiet_take (by kernel_rfl) (fun K hK => ?_); go_simp; refine hK _ ?_; clear hK K
    refine quiet_take (by kernel_rfl) (fun K hK => ?_); go_simp; refine hK _ ?_; clear hK K
    refine quiet_take (by kernel_rfl) (fun K hK => ?_); go_simp; refine hK _ ?_; clear hK K
    refine quiet_take (by kernel_rfl) (fun K hK => ?_); go_simp; refine hK _ ?_; clear hK K
    refine quiet_take (by kernel_rfl) (fun K hK => ?_); go_simp; refine hK _ ?_; clear hK K
    refine quiet_take (by kernel_rfl) (fun K hK => ?_); go_simp; refine hK _ ?_; clear hK K
    refine quiet_take (by kernel_rfl) (fun K hK => ?_); go_simp; refine hK _ ?_; clear hK K
    refine quiet_take (by kernel_rfl) (fun K hK => ?_); go_simp; refine hK _ ?_; clear hK K
    refine quiet_take (by kernel_rfl) (fun K hK => ?_); go_simp; refine hK _ ?_; clear hK K
    refine quiet_take (by kernel_rfl) (fun K hK => ?_); go_simp; refine hK _ ?_; clear hK K
    refine quiet_skip (by kernel_rfl) (fun K hK => ?_); go_simp; refine hK _ ?_; clear hK K
    refine quiet_skip (by kernel_rfl) (fun K hK => ?_); go_simp; refine hK _ ?_; clear hK K
    refine quiet_skip (by kernel_rfl) (fun K hK => ?_); go_simp; refine hK _ ?_; clear hK K
    refine quiet_skip (by kernel_rfl) (fun K hK => ?_); go_simp; refine hK _ ?_; clear hK K
    refine quiet_skip (by kernel_rfl) (fun K hK => ?_); go_simp; refine hK _ ?_; clear hK K
    refine quiet_skip (by kernel_rfl) (fun K hK => ?_); go_simp; refine hK _ ?_; clear hK K
    refine quiet_skip (by kernel_rfl) (fun K hK => ?_); go_simp; refine hK _ ?_; clear hK K
    refine quiet_skip (by kernel_rfl) (fun K hK => ?_); go_simp; refine hK _ ?_; clear hK K
    refine quiet_skip (by kernel_rfl) (fun K hK => ?_); go_simp; refine hK _ ?_; clear hK K
    refine quiet_skip (by kernel_rfl) (fun K hK => ?_); go_simp; refine hK _ ?_; clear hK K
    refine quiet_skip (by kernel_rfl) (fun K hK => ?_); go_simp; refine hK _ ?_; clear hK K
    refine quiet_take (by kernel_rfl) (fun K hK => ?_); go_simp; refine hK _ ?_; clear hK K
    refine quiet_take (by kernel_rfl) (fun K hK => ?_); go_simp; refine hK _ ?_; clear hK K
    refine quiet_skip (by kernel_rfl) (fun K hK => ?_); go_simp; refine hK _ ?_; clear hK K
    refine quiet_skip (by kernel_rfl) (fun K hK => ?_); go_simp; refine hK _ ?_; clear hK K
    refine quiet_skip (by kernel_rfl) (fun K hK => ?_); go_simp; refine hK _ ?_; clear hK K
    refine quiet_take (by kernel_rfl) (fun K hK => ?_); go_simp; refine hK _ ?_; clear hK K
    refine ⟨wpQuiet_nil ?_⟩
    intro w1 hw'
    have hb1 : Below w.heap.size w w1 := by obtain ⟨⟨dq, osq⟩, hw''⟩ := hw'; rw [hw'']; exact below_regrown w dq osq
    clear hw'
    go_wp2_with fail
    go_ret
    exact ⟨ret_bool HE.out.symm, hb1⟩
  have t2 : decide ((31 : Int) ≤ o) = false := decide_eq_false (by omega)
  by_cases h3 : m = kidsC o
  case neg =>
    have t3 : ((m : Int) != ((kidsC o : Nat) : Int)) = true := by rw [bne_iff_ne]; omega
    have HE : Hid (R = false) := by unfold Hid; rw [HOW.out, decide_eq_false h3]; simp
    generalize kidsC o = kc at *
    go_enter Tryd.func50, Tryd.ntmps50
    go_upto_region 1 with (fail)
    refine wp_region_quiet_below (by kernel_rfl) (by kernel_rfl) (WQ.out ?_)
    refine quiet_take (by kernel_rfl) (fun K hK => ?_); go_simp; refine hK _ ?_; clear hK K
    refine quiet_take (by kernel_rfl) (fun K hK => ?_); go_simp; refine hK _ ?_; clear hK K
    refine quiet_take (by kernel_rfl) (fun K hK => ?_); go_simp; refine hK _ ?_; clear hK K
    refine quiet_take (by kernel_rfl) (fun K hK => ?_); go_simp; refine hK _ ?_; clear hK K
    refine quiet_take (by kernel_rfl) (fun K hK => ?_); go_simp; refine hK _ ?_; clear hK K
    refine quiet_take (by kernel_rfl) (fun K hK => ?_); go_simp; refine hK _ ?_; clear hK K
    refine quiet_take (by kernel_rfl) (fun K hK => ?_); go_simp; refine hK _ ?_; clear hK K
    refine quiet_take (by kernel_rfl) (fun K hK => ?_); go_simp; refine hK _ ?_; clear hK K
    refine quiet_take (by kernel_rfl) (fun K hK => ?_); go_simp; refine hK _ ?_; clear hK K
    refine quiet_take (by kernel_rfl) (fun K hK => ?_); go_simp; refine hK _ ?_; clear hK K
    refine quiet_take (by kernel_rfl) (fun K hK => ?_); go_simp; refine hK _ ?_; clear hK K
    refine quiet_take (by kernel_rfl) (fun K hK => ?_); go_simp; refine hK _ ?_; clear hK K
    refine quiet_take (by kernel_rfl) (fun K hK => ?_); go_simp; refine hK _ ?_; clear hK K
    refine quiet_take (by kernel_rfl) (fun K hK => ?_); go_simp; refine hK _ ?_; clear hK K
    refine quiet_take (by kernel_rfl) (fun K hK => ?_); go_simp; refine hK _ ?_; clear hK K
    refine quiet_take (by kernel_rfl) (fun K hK => ?_); go_simp; refine hK _ ?_; clear hK K
    refine quiet_take (by kernel_rfl) (fun K hK => ?_); go_simp; refine hK _ ?_; clear hK K
    refine quiet_take (by kernel_rfl) (fun K hK => ?_); go_simp; refine hK _ ?_; clear hK K
    refine quiet_take (by kernel_rfl) (fun K hK => ?_); go_simp; refine hK _ ?_; clear hK K
    refine quiet_take (by kernel_rfl) (fun K hK => ?_); go_simp; refine hK _ ?_; clear hK K
    refine quiet_take (by kernel_rfl) (fun K hK => ?_); go_simp; refine hK _ ?_; clear hK K
    refine quiet_take (by kernel_rfl) (fun K hK => ?_); go_simp; refine hK _ ?_; clear hK K
    refine quiet_take (by kernel_rfl) (fun K hK => ?_); go_simp; refine hK _ ?_; clear hK K
    refine quiet_take (by kernel_rfl) (fun K hK => ?_); go_simp; refine hK _ ?_; clear hK K
    refine quiet_take (by kernel_rfl) (fun K hK => ?_); go_simp; refine hK _ ?_; clear hK K
    refine quiet_take (by kernel_rfl) (fun K hK => ?_); go_simp; refine hK _ ?_; clear hK K
    refine quiet_take (by kernel_rfl) (fun K hK => ?_); go_simp; apply Exists.intro; refine ⟨fun _ => ?_, hK _ ?_⟩; (first | (go_at_call 75; exact HKD.out _ _) | (go_at_call 76; exact HFI.out _ _)); clear hK K
    refine quiet_take (by kernel_rfl) (fun K hK => ?_); go_simp; refine hK _ ?_; clear hK K
    refine quiet_take (by kernel_rfl) (fun K hK => ?_); go_simp; refine hK _ ?_; clear hK K
    refine quiet_take (by kernel_rfl) (fun K hK => ?_); go_simp; refine hK _ ?_; clear hK K
    refine quiet_skip (by kernel_rfl) (fun K hK => ?_); go_simp; refine hK _ ?_; clear hK K
    refine quiet_skip (by kernel_rfl) (fun K hK => ?_); go_simp; refine hK _ ?_; clear hK K
    refine quiet_skip (by kernel_rfl) (fun K hK => ?_); go_simp; refine hK _ ?_; clear hK K
    refine quiet_take (by kernel_rfl) (fun K hK => ?_); go_simp; refine hK _ ?_; clear hK K
    refine ⟨wpQuiet_nil ?_⟩
    intro w1 hw'
    have hb1 : Below w.heap.size w w1 := by obtain ⟨⟨dq, osq⟩, hw''⟩ := hw'; rw [hw'']; exact below_regrown w dq osq
    clear hw'
    go_wp2_with fail
    go_ret
    exact ⟨ret_bool HE.out.symm, hb1⟩
  have t3 : ((m : Int) != ((kidsC o : Nat) : Int)) = false := by rw [bne_eq_false_iff_eq]; omega
  have HOW2 : Hid (R = (fitB o n s && ks.all (rB lv))) := by
    unfold Hid; rw [HOW.out, decide_eq_true h1, decide_eq_true h2, decide_eq_true h3]; simp
  clear HOW h1 h2 h3
  generalize kidsC o = kc at *
  rcases hf : fitB o n s with _ | _
  · rw [hf] at HFI HOW2
    have HE : Hid (R = false) := by unfold Hid; rw [HOW2.out, Bool.false_and]
    go_enter Tryd.func50, Tryd.ntmps50
    go_upto_region 1 with (fail)
    refine wp_region_quiet_below (by kernel_rfl) (by kernel_rfl) (WQ.out ?_)
    refine quiet_take (by kernel_rfl) (fun K hK => ?_); go_simp; refine hK _ ?_; clear hK K
    refine quiet_take (by kernel_rfl) (fun K hK => ?_); go_simp; refine hK _ ?_; clear hK K
    refine quiet_take (by kernel_rfl) (fun K hK => ?_); go_simp; refine hK _ ?_; clear hK K
    refine quiet_take (by kernel_rfl) (fun K hK => ?_); go_simp; refine hK _ ?_; clear hK K
    refine quiet_take (by kernel_rfl) (fun K hK => ?_); go_simp; refine hK _ ?_; clear hK K
    refine quiet_take (by kernel_rfl) (fun K hK => ?_); go_simp; refine hK _ ?_; clear hK K
    refine quiet_take (by kernel_rfl) (fun K hK => ?_); go_simp; refine hK _ ?_; clear hK K
    refine quiet_take (by kernel_rfl) (fun K hK => ?_); go_simp; refine hK _ ?_; clear hK K
    refine quiet_take (by kernel_rfl) (fun K hK => ?_); go_simp; refine hK _ ?_; clear hK K
    refine quiet_take (by kernel_rfl) (fun K hK => ?_); go_simp; refine hK _ ?_; clear hK K
    refine quiet_take (by kernel_rfl) (fun K hK => ?_); go_simp; refine hK _ ?_; clear hK K
    refine quiet_take (by kernel_rfl) (fun K hK => ?_); go_simp; refine hK _ ?_; clear hK K
    refine quiet_take (by kernel_rfl) (fun K hK => ?_); go_simp; refine hK _ ?_; clear hK K
    refine quiet_take (by kernel_rfl) (fun K hK => ?_); go_simp; refine hK _ ?_; clear hK K
    refine quiet_take (by kernel_rfl) (fun K hK => ?_); go_simp; refine hK _ ?_; clear hK K
    refine quiet_take (by kernel_rfl) (fun K hK => ?_); go_simp; refine hK _ ?_; clear hK K
    refine quiet_take (by kernel_rfl) (fun K hK => ?_); go_simp; refine hK _ ?_; clear hK K
    refine quiet_take (by kernel_rfl) (fun K hK => ?_); go_simp; refine hK _ ?_; clear hK K
    refine quiet_take (by kernel_rfl) (fun K hK => ?_); go_simp; refine hK _ ?_; clear hK K
    refine quiet_take (by kernel_rfl) (fun K hK => ?_); go_simp; refine hK _ ?_; clear hK K
    refine quiet_take (by kernel_rfl) (fun K hK => ?_); go_simp; refine hK _ ?_; clear hK K
    refine quiet_take (by kernel_rfl) (fun K hK => ?_); go_simp; refine hK _ ?_; clear hK K
    refine quiet_take (by kernel_rfl) (fun K hK => ?_); go_simp; refine hK _ ?_; clear hK K
    refine quiet_take (by kernel_rfl) (fun K hK => ?_); go_simp; refine hK _ ?_; clear hK K
    refine quiet_take (by kernel_rfl) (fun K hK => ?_); go_simp; refine hK _ ?_; clear hK K
    refine quiet_take (by kernel_rfl) (fun K hK => ?_); go_simp; refine hK _ ?_; clear hK K
    refine quiet_take (by kernel_rfl) (fun K hK => ?_); go_simp; apply Exists.intro; refine ⟨fun _ => ?_, hK _ ?_⟩; (first | (go_at_call 75; exact HKD.out _ _) | (go_at_call 76; exact HFI.out _ _)); clear hK K
    refine quiet_take (by kernel_rfl) (fun K hK => ?_); go_simp; refine hK _ ?_; clear hK K
    refine quiet_take (by kernel_rfl) (fun K hK => ?_); go_simp; refine hK _ ?_; clear hK K
    refine quiet_take (by kernel_rfl) (fun K hK => ?_); go_simp; refine hK _ ?_; clear hK K
    refine quiet_take (by kernel_rfl) (fun K hK => ?_); go_simp; refine hK _ ?_; clear hK K
    refine quiet_take (by kernel_rfl) (fun K hK => ?_); go_simp; apply Exists.intro; refine ⟨fun _ => ?_, hK _ ?_⟩; (first | (go_at_call 75; exact HKD.out _ _) | (go_at_call 76; exact HFI.out _ _)); clear hK K
    refine quiet_take (by kernel_rfl) (fun K hK => ?_); go_simp; refine hK _ ?_; clear hK K
    refine quiet_take (by kernel_rfl) (fun K hK => ?_); go_simp; refine hK _ ?_; clear hK K
    refine ⟨wpQuiet_nil ?_⟩
    intro w1 hw'
    have hb1 : Below w.heap.size w w1 := by obtain ⟨⟨dq, osq⟩, hw''⟩ := hw'; rw [hw'']; exact below_regrown w dq osq
    clear hw'
    go_wp2_with fail
    go_ret
    exact ⟨ret_bool HE.out.symm, hb1⟩
  rw [hf] at HFI HOW2
  have HE : Hid (R = ks.all (rB lv)) := by unfold Hid; rw [HOW2.out, Bool.true_and]
  clear hf HOW2
  go_enter Tryd.func50, Tryd.ntmps50
  go_upto_region 1 with (fail)
  refine wp_region_quiet_below (by kernel_rfl) (by kernel_rfl) (WQ.out ?_)
  refine quiet_take (by kernel_rfl) (fun K hK => ?_); go_simp; refine hK _ ?_; clear hK K
  refine quiet_take (by kernel_rfl) (fun K hK => ?_); go_simp; refine hK _ ?_; clear hK K
  refine quiet_take (by kernel_rfl) (fun K hK => ?_); go_simp; refine hK _ ?_; clear hK K
  refine quiet_take (by kernel_rfl) (fun K hK => ?_); go_simp; refine hK _ ?_; clear hK K
  refine quiet_take (by kernel_rfl) (fun K hK => ?_); go_simp; refine hK _ ?_; clear hK K
  refine quiet_take (by kernel_rfl) (fun K hK => ?_); go_simp; refine hK _ ?_; clear hK K
  refine quiet_take (by kernel_rfl) (fun K hK => ?_); go_simp; refine hK _ ?_; clear hK K
  refine quiet_take (by kernel_rfl) (fun K hK => ?_); go_simp; refine hK _ ?_; clear hK K
  refine quiet_take (by kernel_rfl) (fun K hK => ?_); go_simp; refine hK _ ?_; clear hK K
  refine quiet_take (by kernel_rfl) (fun K hK => ?_); go_simp; refine hK _ ?_; clear hK K
  refine quiet_take (by kernel_rfl) (fun K hK => ?_); go_simp; refine hK _ ?_; clear hK K
  refine quiet_take (by kernel_rfl) (fun K hK => ?_); go_simp; refine hK _ ?_; clear hK K
  refine quiet_take (by kernel_rfl) (fun K hK => ?_); go_simp; refine hK _ ?_; clear hK K
  refine quiet_take (by kernel_rfl) (fun K hK => ?_); go_simp; refine hK _ ?_; clear hK K
  refine quiet_take (by kernel_rfl) (fun K hK => ?_); go_simp; refine hK _ ?_; clear hK K
  refine quiet_take (by kernel_rfl) (fun K hK => ?_); go_simp; refine hK _ ?_; clear hK K
  refine quiet_take (by kernel_rfl) (fun K hK => ?_); go_simp; refine hK _ ?_; clear hK K
  refine quiet_take (by kernel_rfl) (fun K hK => ?_); go_simp; refine hK _ ?_; clear hK K
  refine quiet_take (by kernel_rfl) (fun K hK => ?_); go_simp; refine hK _ ?_; clear hK K
  refine quiet_take (by kernel_rfl) (fun K hK => ?_); go_simp; refine hK _ ?_; clear hK K
  refine quiet_take (by kernel_rfl) (fun K hK => ?_); go_simp; refine hK _ ?_; clear hK K
  refine quiet_take (by kernel_rfl) (fun K hK => ?_); go_simp; refine hK _ ?_; clear hK K
  refine quiet_take (by kernel_rfl) (fun K hK => ?_); go_simp; refine hK _ ?_; clear hK K
  refine quiet_take (by kernel_rfl) (fun K hK => ?_); go_simp; refine hK _ ?_; clear hK K
  refine quiet_take (by kernel_rfl) (fun K hK => ?_); go_simp; refine hK _ ?_; clear hK K
  refine quiet_take (by kernel_rfl) (fun K hK => ?_); go_simp; refine hK _ ?_; clear hK K
  refine quiet_take (by kernel_rfl) (fun K hK => ?_); go_simp; apply Exists.intro; refine ⟨fun _ => ?_, hK _ ?_⟩; (first | (go_at_call 75; exact HKD.out _ _) | (go_at_call 76; exact HFI.out _ _)); clear hK K
  refine quiet_take (by kernel_rfl) (fun K hK => ?_); go_simp; refine hK _ ?_; clear hK K
  refine quiet_take (by kernel_rfl) (fun K hK => ?_); go_simp; refine hK _ ?_; clear hK K
  refine quiet_take (by kernel_rfl) (fun K hK => ?_); go_simp; refine hK _ ?_; clear hK K
  refine quiet_take (by kernel_rfl) (fun K hK => ?_); go_simp; refine hK _ ?_; clear hK K
  refine quiet_take (by kernel_rfl) (fun K hK => ?_); go_simp; apply Exists.intro; refine ⟨fun _ => ?_, hK _ ?_⟩; (first | (go_at_call 75; exact HKD.out _ _) | (go_at_call 76; exact HFI.out _ _)); clear hK K
  refine quiet_take (by kernel_rfl) (fun K hK => ?_); go_simp; refine hK _ ?_; clear hK K
  refine quiet_take (by kernel_rfl) (fun K hK => ?_); go_simp; refine hK _ ?_; clear hK K
  refine ⟨wpQuiet_nil ?_⟩
  intro w1 hw'
  have hb1 : Below w.heap.size w w1 := by obtain ⟨⟨dq, osq⟩, hw''⟩ := hw'; rw [hw'']; exact below_regrown w dq osq
  clear hw'
  have HB1 := Lib.hid hb1
  have e0 : w1.cell? ⟨b, p, none⟩ = some (.int .i64 o) := by rw [hb1.cell (p := ⟨b, p, none⟩) hlt]; exact c0
  have e3 : w1.cell? ⟨b, p + 3, none⟩ = some (.slice A m cap) := by rw [hb1.cell (p := ⟨b, p + 3, none⟩) hlt]; exact c3
  have HK1 : Hid (KdsAt w1 A ks) := HK.out.below hb1
  have hlt1 : b < w1.heap.size := Nat.lt_of_lt_of_le hlt hb1.size
  clear hb1 d0 d3 HKD HFI c0 c1 c2 c3 c4 c5 HR0 HK HP
  go_wp2_with fail
  go_loopw [5, 45] (fun _ i wr => ∃ k : Nat, k ≤ m ∧ i = .int .i64 k ∧ Hid (Below w1.heap.size w1 wr) ∧ Hid (∀ j x, j < k → ks[j]? = some x → rB lv x = true)) (fun _ i _ => m - (intOf i).toNat)
  case atStart => exact ⟨0, Nat.zero_le _, rfl, Below.refl _ _, fun j x hj => absurd hj (by omega)⟩
  case round =>
    obtain ⟨k, hk, rfl, HW, HA⟩ := hrel
    have f3 : wr.cell? ⟨b, p + 3, none⟩ = some (.slice A m cap) := by rw [HW.out.cell (p := ⟨b, p + 3, none⟩) hlt1]; exact e3
    by_cases hlt : k < m
    · have t1 : decide ((k : Int) < (m : Int)) = true := decide_eq_true (by omega)
      have t2 : decide (k < m) = true := decide_eq_true hlt
      obtain ⟨x, hx⟩ := get_ex (ks := ks) (k := k) (by rw [← HM.out]; exact hlt)
      rcases HK1.out with hK | ⟨b', p', rfl, hb', hk'⟩
      · exfalso; rw [hK] at hx; simp at hx
      have hpx := (hk' k x hx).below HW.out hb'
      have HC := HI.out x (List.mem_of_getElem? hx) b' (p' + k * 6) lv wr hpx (by omega)
      have HBW : Hid (∀ W, Below wr.heap.size wr W → Below w1.heap.size w1 W) := fun W hW => HW.out.trans (hW.mono HW.out.size)
      have HX := Lib.hid hx
      clear hx hk' hpx
      rcases hr : rB lv x with _ | _
      · rw [hr] at HC
        have HC := Lib.hid HC
        have HRx := Lib.hid hr
        clear hr
        go_wp2_with (refine HC.out.mono ?_; rintro e w' ⟨rfl, hB2⟩)
        go_ret
        exact ⟨ret_bool (by rw [HE.out, all_false HX.out HRx.out]), HB1.out.trans ((HBW.out _ hB2).mono HB1.out.size)⟩
      · rw [hr] at HC
        have HC := Lib.hid HC
        have HRx := Lib.hid hr
        clear hr
        go_wp2_with (refine HC.out.mono ?_; rintro e w' ⟨rfl, hB2⟩)
        go_roundw
        case rel =>
          refine ⟨k + 1, by omega, by go_num, HBW.out _ hB2, fun j y hj hy => ?_⟩
          by_cases e : j = k
          · subst e
            have := HX.out.symm.trans hy
            injection this with this
            rw [← this]; exact HRx.out
          · exact HA.out j y (by omega) hy
        case measure => simp [intOf]; omega
    · have t1 : decide ((k : Int) < (m : Int)) = false := decide_eq_false (by omega)
      have t2 : decide (k < m) = false := decide_eq_false hlt
      go_wp2
      go_ret
      exact ⟨ret_bool (by rw [HE.out, all_upto fun j x hj hx => HA.out j x (by have := HM.out; omega) hx]), HB1.out.trans (HW.out.mono HB1.out.size)⟩
end Go.Proofs.YtmkhfcdjgdofnaaDoor
