/- Package tree: rightAssign, rightRule, rightProcess. -/
import Derived.Test.YtnlepdkbcjjkdaaGreatDoorTevI
namespace Go.Proofs.YtnlepdkbcjjkdaaGreatDoor
open Go.RowKit TreM WrdM

theorem ex6_form {W : World} {X : Ex} {xs : List Value} (h : ExC W X xs) : ∃ (o n : Int) (sb : ByteArray) (A : Option Addr) (m cap : Nat) (l c : Int), xs = [.int .i64 o, .int .i64 n, .string sb, .slice A m cap, .int .i64 l, .int .i64 c] := by
  cases X with
  | mk o n s ks l c =>
    rw [ExC] at h
    obtain ⟨A, cap, rfl, _⟩ := h
    exact ⟨_, _, _, _, _, _, _, _, rfl⟩
theorem exp_cells {W W0 : World} {b p : Nat} {X : Ex} {xs : List Value} (h : ExC W0 X xs) (hb : Below W0.heap.size W0 W) (hc : ∀ i v, xs[i]? = some v → W.cell? ⟨b, p + i, none⟩ = some v) : ExP W b p X := ⟨xs, hc, ExC.below hb X xs h⟩
theorem heap_cell {w : World} {g : Nat} {cs : Array Value} {t : TypeId} {q : Nat × Nat} (h : w.heap[g]? = some (.cells cs t q)) (i : Nat) {v : Value} (hv : cs[i]? = some v) : w.cell? ⟨g, i, none⟩ = some v := by
  rw [Lib.cell_of_heap h]; exact hv

set_option maxHeartbeats 1600000 in
set_option maxRecDepth 100000 in
theorem rightAssign_any (a : Asg) (cs : List Value) (w : World) (h : AsgC w a cs) : Calls Tryz.prog 90 #[.agg cs.toArray] w fun x w' => x = .returned (.bool (asgB a)) ∧ Below w.heap.size w w' := by
  obtain ⟨xs, l, c, hl, rfl, hn, hx⟩ := h
  obtain ⟨o, n, sb, A, m, cap, xl, xc, rfl⟩ := ex6_form hx
  obtain ⟨wa, hwa⟩ : ∃ wa, wa = w.alloc (.cells #[.string ⟨a.name.toArray⟩, .int .i64 o, .int .i64 n, .string sb, .slice A m cap, .int .i64 xl, .int .i64 xc, .int .i64 l, .int .i64 c] 105) := ⟨_, rfl⟩
  have hba : Below w.heap.size w wa := by rw [hwa]; exact below_alloc w _
  have hga : wa.heap[w.heap.size]? = some (.cells #[.string ⟨a.name.toArray⟩, .int .i64 o, .int .i64 n, .string sb, .slice A m cap, .int .i64 xl, .int .i64 xc, .int .i64 l, .int .i64 c] 105) := by rw [hwa]; exact blk_new w _
  have hlt : w.heap.size < wa.heap.size := by rw [hwa]; simp
  have HN := Lib.hid (name_any a.name wa hn)
  have HW : Hid (∀ W, Below wa.heap.size wa W → Calls Tryz.prog 49 #[.agg #[.int .i64 o, .int .i64 n, .string sb, .slice A m cap, .int .i64 xl, .int .i64 xc]] W fun x w' => x = .returned (.bool (writB a.to_)) ∧ Below W.heap.size W w') := fun W hW =>
    writableOne_any a.to_ _ W ⟨[.int .i64 o, .int .i64 n, .string sb, .slice A m cap, .int .i64 xl, .int .i64 xc], rfl, ExC.below (hba.trans (hW.mono hba.size)) _ _ hx⟩
  have HC : Hid (∀ W, Below wa.heap.size wa W → W.heap[w.heap.size]? = some (.cells #[.string ⟨a.name.toArray⟩, .int .i64 o, .int .i64 n, .string sb, .slice A m cap, .int .i64 xl, .int .i64 xc, .int .i64 l, .int .i64 c] 105)) := fun W hW => (hW.block _ hlt).trans hga
  have hE : asgB a = (nameB a.name && writB a.to_) := rfl
  rw [hE]
  have HBA := Lib.hid hba
  have c0 := heap_cell hga 0 rfl
  have HWA := Lib.hid hwa
  simp only [List.cons_append, List.nil_append]
  clear hE hba hga hwa hn hx hl
  generalize writB a.to_ = R at *
  generalize nameB a.name = N at *
  generalize (⟨a.name.toArray⟩ : ByteArray) = nb at *
  go_enter Tryz.func90, Tryz.ntmps90
  go_wp2_with fail
  have hwa := HWA.out
  rw [← hwa]
  clear hwa HWA
  refine HN.out.mono ?_
  rintro x w1 ⟨rfl, hB1⟩
  have HB1 := Lib.hid hB1
  have HW1 := Lib.hid (HW.out w1 hB1)
  have c1 := heap_cell (HC.out w1 hB1) 1 rfl
  have c2 := heap_cell (HC.out w1 hB1) 2 rfl
  have c3 := heap_cell (HC.out w1 hB1) 3 rfl
  have c4 := heap_cell (HC.out w1 hB1) 4 rfl
  have c5 := heap_cell (HC.out w1 hB1) 5 rfl
  have c6 := heap_cell (HC.out w1 hB1) 6 rfl
  clear hB1 HN
  rcases N with _ | _
  · go_wp2_with fail
    go_ret
    exact ⟨rfl, HBA.out.trans (HB1.out.mono HBA.out.size)⟩
  · go_wp2_with (refine HW1.out.mono ?_; rintro x w2 ⟨rfl, hB2⟩)
    go_ret
    exact ⟨rfl, HBA.out.trans ((HB1.out.trans (hB2.mono HB1.out.size)).mono HBA.out.size)⟩
theorem eg_rasg : ∀ args w, (callFunc 90 args).run Tryz.prog w = .ok (.enter 90 args) w := enters_of Tryz.func90 (by kernel_rfl) rfl
theorem asgs_every (xs : List Asg) (A : Option Addr) (cap : Nat) (w : World) (h : SlAt w (AsgC w) 9 A xs) (hm : xs.length ≤ cap) (hc : cap ≤ 9223372036854775807) :
    Calls Tryz.prog 89 #[.slice A xs.length cap, .func (.func 90) #[] #[]] w fun e w' => e = .returned (.bool (decide (xs.length ≤ 32) && xs.all asgB)) ∧ Below w.heap.size w w' :=
  everyAsgn_any _ eg_rasg asgB (AsgC w) xs A cap w h hm hc fun x _ cs W hW _ hR => rightAssign_any x cs W (hR.below hW)

set_option maxHeartbeats 1600000 in
set_option maxRecDepth 100000 in
theorem rightRule_any (r : Rul) (cs : List Value) (w : World) (h : RulC w r cs) : Calls Tryz.prog 53 #[.agg cs.toArray] w fun x w' => x = .returned (.bool (ruleB r)) ∧ Below w.heap.size w w' := by
  obtain ⟨xs, v, hl, rfl, hx, A2, cap2, rfl, hm2, hc2, hA⟩ := h
  obtain ⟨o, n, sb, A, m, cap, xl, xc, rfl⟩ := ex6_form hx
  obtain ⟨wa, hwa⟩ : ∃ wa, wa = w.alloc (.cells #[.int .i64 o, .int .i64 n, .string sb, .slice A m cap, .int .i64 xl, .int .i64 xc, .slice A2 r.do_.length cap2] 76) := ⟨_, rfl⟩
  have hba : Below w.heap.size w wa := by rw [hwa]; exact below_alloc w _
  have hga : wa.heap[w.heap.size]? = some (.cells #[.int .i64 o, .int .i64 n, .string sb, .slice A m cap, .int .i64 xl, .int .i64 xc, .slice A2 r.do_.length cap2] 76) := by rw [hwa]; exact blk_new w _
  have hlt : w.heap.size < wa.heap.size := by rw [hwa]; simp
  have HW := Lib.hid (writableOne_any r.when_ _ wa ⟨[.int .i64 o, .int .i64 n, .string sb, .slice A m cap, .int .i64 xl, .int .i64 xc], rfl, ExC.below hba _ _ hx⟩)
  have HV : Hid (∀ W, Below wa.heap.size wa W → Calls Tryz.prog 89 #[.slice A2 r.do_.length cap2, .func (.func 90) #[] #[]] W fun x w' => x = .returned (.bool (decide (r.do_.length ≤ 32) && r.do_.all asgB)) ∧ Below W.heap.size W w') := fun W hW =>
    asgs_every r.do_ A2 cap2 W (hA.below (hba.trans (hW.mono hba.size)) fun x _ cs h => h.below (hba.trans (hW.mono hba.size))) hm2 hc2
  have HC : Hid (∀ W, Below wa.heap.size wa W → W.heap[w.heap.size]? = some (.cells #[.int .i64 o, .int .i64 n, .string sb, .slice A m cap, .int .i64 xl, .int .i64 xc, .slice A2 r.do_.length cap2] 76)) := fun W hW => (hW.block _ hlt).trans hga
  have hE : ruleB r = (writB r.when_ && (decide (1 ≤ r.do_.length) && (decide (r.do_.length ≤ 32) && r.do_.all asgB))) := rfl
  rw [hE]
  have HBA := Lib.hid hba
  have c0 := heap_cell hga 0 rfl
  have c1 := heap_cell hga 1 rfl
  have c2 := heap_cell hga 2 rfl
  have c3 := heap_cell hga 3 rfl
  have c4 := heap_cell hga 4 rfl
  have c5 := heap_cell hga 5 rfl
  have HWA := Lib.hid hwa
  simp only [List.cons_append, List.nil_append]
  clear hE hba hga hwa hx hl hA
  generalize writB r.when_ = N at *
  generalize (decide (r.do_.length ≤ 32) && r.do_.all asgB) = R at *
  generalize r.do_.length = k at *
  go_enter Tryz.func53, Tryz.ntmps53
  go_wp2_with fail
  have hwa := HWA.out
  rw [← hwa]
  clear hwa HWA
  refine HW.out.mono ?_
  rintro x w1 ⟨rfl, hB1⟩
  have HB1 := Lib.hid hB1
  have HV1 := Lib.hid (HV.out w1 hB1)
  have d6 := heap_cell (HC.out w1 hB1) 6 rfl
  clear hB1 HW c0 c1 c2 c3 c4 c5
  rcases N with _ | _
  · go_wp2_with fail
    go_ret
    exact ⟨rfl, HBA.out.trans (HB1.out.mono HBA.out.size)⟩
  by_cases hk0 : 0 < k
  · have t1 : decide ((0 : Int) < (k : Int)) = true := decide_eq_true (by omega)
    have t2 : decide (0 < k) = true := decide_eq_true hk0
    have H3 : Hid (decide (1 ≤ k) = true) := decide_eq_true hk0
    go_wp2_with (refine HV1.out.mono ?_; rintro x w2 ⟨rfl, hB2⟩)
    go_ret
    exact ⟨ret_bool (by rw [H3.out]; simp), HBA.out.trans ((HB1.out.trans (hB2.mono HB1.out.size)).mono HBA.out.size)⟩
  · have t1 : decide ((0 : Int) < (k : Int)) = false := decide_eq_false (by omega)
    have t2 : decide (0 < k) = false := decide_eq_false hk0
    have H3 : Hid (decide (1 ≤ k) = false) := decide_eq_false hk0
    go_wp2_with fail
    go_ret
    exact ⟨ret_bool (by rw [H3.out]; simp), HBA.out.trans (HB1.out.mono HBA.out.size)⟩
theorem eg_rrul : ∀ args w, (callFunc 53 args).run Tryz.prog w = .ok (.enter 53 args) w := enters_of Tryz.func53 (by kernel_rfl) rfl
theorem ruls_every (xs : List Rul) (A : Option Addr) (cap : Nat) (w : World) (h : SlAt w (RulC w) 7 A xs) (hm : xs.length ≤ cap) (hc : cap ≤ 9223372036854775807) :
    Calls Tryz.prog 52 #[.slice A xs.length cap, .func (.func 53) #[] #[]] w fun e w' => e = .returned (.bool (decide (xs.length ≤ 32) && xs.all ruleB)) ∧ Below w.heap.size w w' :=
  everyRule_any _ eg_rrul ruleB (RulC w) xs A cap w h hm hc fun x _ cs W hW _ hR => rightRule_any x cs W (hR.below hW)
set_option maxHeartbeats 1600000 in
set_option maxRecDepth 100000 in
theorem rightProcess_any (e : Prc) (cs : List Value) (w : World) (h : PrcC w e cs) : Calls Tryz.prog 19 #[.agg cs.toArray] w fun x w' => x = .returned (.bool (procB e)) ∧ Below w.heap.size w w' := by
  obtain ⟨v, l, c, rfl, hn, A, cap, rfl, hm, hc, hA⟩ := h
  obtain ⟨wa, hwa⟩ : ∃ wa, wa = w.alloc (.cells #[.string ⟨e.name.toArray⟩, .slice A e.rules.length cap, .int .i64 l, .int .i64 c] 36) := ⟨_, rfl⟩
  have hba : Below w.heap.size w wa := by rw [hwa]; exact below_alloc w _
  have hga : wa.heap[w.heap.size]? = some (.cells #[.string ⟨e.name.toArray⟩, .slice A e.rules.length cap, .int .i64 l, .int .i64 c] 36) := by rw [hwa]; exact blk_new w _
  have hlt : w.heap.size < wa.heap.size := by rw [hwa]; simp
  have HN := Lib.hid (name_any e.name wa hn)
  have HE : Hid (∀ W, Below wa.heap.size wa W → Calls Tryz.prog 52 #[.slice A e.rules.length cap, .func (.func 53) #[] #[]] W fun x w' => x = .returned (.bool (decide (e.rules.length ≤ 32) && e.rules.all ruleB)) ∧ Below W.heap.size W w') := fun W hW =>
    ruls_every e.rules A cap W (hA.below (hba.trans (hW.mono hba.size)) fun x _ cs h => h.below (hba.trans (hW.mono hba.size))) hm hc
  have HC : Hid (∀ W, Below wa.heap.size wa W → W.heap[w.heap.size]? = some (.cells #[.string ⟨e.name.toArray⟩, .slice A e.rules.length cap, .int .i64 l, .int .i64 c] 36)) := fun W hW => (hW.block _ hlt).trans hga
  have hE : procB e = (nameB e.name && (decide (e.rules.length ≤ 32) && e.rules.all ruleB)) := rfl
  rw [hE]
  have HBA := Lib.hid hba
  obtain ⟨c0, c1, c2, c3⟩ := cells4 hga
  have HWA := Lib.hid hwa
  clear hA hE hba hga hwa
  generalize (decide (e.rules.length ≤ 32) && e.rules.all ruleB) = R at *
  generalize nameB e.name = N at *
  generalize e.rules.length = m at *
  generalize (⟨e.name.toArray⟩ : ByteArray) = sb at *
  go_enter Tryz.func19, Tryz.ntmps19
  go_wp2_with fail
  have hwa := HWA.out
  rw [← hwa]
  clear hwa HWA
  refine HN.out.mono ?_
  rintro x w1 ⟨rfl, hB1⟩
  have HB1 := Lib.hid hB1
  have HE1 := Lib.hid (HE.out w1 hB1)
  obtain ⟨c0, c1, c2, c3⟩ := cells4 (HC.out w1 hB1)
  clear hB1 HN
  rcases N with _ | _
  · go_wp2_with fail
    go_ret
    exact ⟨rfl, HBA.out.trans (HB1.out.mono HBA.out.size)⟩
  · go_wp2_with (refine HE1.out.mono ?_; rintro x w2 ⟨rfl, hB2⟩)
    go_ret
    exact ⟨rfl, HBA.out.trans ((HB1.out.trans (hB2.mono HB1.out.size)).mono HBA.out.size)⟩
end Go.Proofs.YtnlepdkbcjjkdaaGreatDoor
