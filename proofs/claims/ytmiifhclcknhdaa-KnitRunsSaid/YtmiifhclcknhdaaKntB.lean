/- A Knit's contracts: number, turned, literal, Var, Value, Known; the sink's Var and Add; add. -/
import Derived.Test.YtmiifhclcknhdaaKntA
import Derived.Deep.DeepCutAuto
namespace Go.Proofs.Ytmiifhclcknhdaa
open Go.RowKit GatM KntM

theorem meth_kvar (a : Addr) (w : World) : (method 245 31 (.pointer (some a)) "Var").run Try.prog w = .ok (94, .pointer (some a)) w := by kernel_rfl
theorem meth_kadd (a : Addr) (w : World) : (method 245 31 (.pointer (some a)) "Add").run Try.prog w = .ok (93, .pointer (some a)) w := by kernel_rfl
theorem info_klit : (Try.prog.info? 38).map (fun i => (i.zero, i.size, i.bytes)) = some (some (.int .i32 0), 1, 4) := by kernel_rfl
theorem info_kls : (Try.prog.info? 60).map (fun i => (i.zero, i.size, i.bytes)) = some (some (.slice none 0 0), 1, 24) := by kernel_rfl
theorem knum_any (a : Nat) (w : World) (ha : a < 4294967296) : Calls Try.prog 26 #[.int .u32 (a : Int)] w fun e w' => e = .returned (.int .i64 ((a / 2 : Nat) : Int)) ∧ w = w' := by
  go_enter Try.func26, Try.ntmps26
  go_wp2_with fail
  go_ret
  exact ⟨gret_int (by omega), rfl⟩
theorem kturned_any (a : Nat) (w : World) (ha : a < 4294967296) : Calls Try.prog 27 #[.int .u32 (a : Int)] w fun e w' => e = .returned (.bool (odd a)) ∧ w = w' := by
  go_enter Try.func27, Try.ntmps27
  go_wp2_with fail
  go_ret
  refine ⟨gret_bool ?_, rfl⟩
  unfold odd
  rw [Bool.eq_iff_iff, beq_iff_eq, decide_eq_true_iff]
  omega
section
variable {w : World} {q : KnC} {s : KnS}
set_option maxHeartbeats 1600000 in
set_option maxRecDepth 100000 in
theorem kliteral_any (h : KnAt w q s) (e : Nat) (he : e < 4294967296) (hm : e / 2 < s.m) (hK : s.K.length ≤ 90000) :
    Calls Try.prog 24 #[.pointer (some ⟨q.bk, 0, none⟩), .int .u32 (e : Int)] w fun r w' => r = .returned (.int .i32 (lt s.K e)) ∧ Below w.heap.size w w' := by
  obtain ⟨_, _, c2, _, _, _⟩ := h.cells
  obtain ⟨g, hA, hr⟩ := h.vs.1.row (by omega)
  have x0 : w.cell? ⟨g, e / 2, none⟩ = some (.int .i32 ((vr s.K (e / 2) : Nat) : Int)) := hr.cell (by omega)
  rw [hA] at c2
  have HN : Hid (∀ W, Calls Try.prog 26 #[.int .u32 (e : Int)] W fun r w' => r = .returned (.int .i64 ((e / 2 : Nat) : Int)) ∧ w' = W) := fun W => (knum_any e W he).mono fun _ _ ⟨a, b⟩ => ⟨a, b.symm⟩
  have HT := Lib.hid (fun W => kturned_any e W he)
  have hv := vr_le s.K (e / 2)
  have HL : Hid (lt s.K e = if odd e then -((vr s.K (e / 2) : Nat) : Int) else ((vr s.K (e / 2) : Nat) : Int)) := by
    unfold lt odd; unfold Hid; simp
  have t1 : decide ((s.m : Int) ≤ ((e / 2 : Nat) : Int)) = false := decide_eq_false (by omega)
  have t2 : decide (s.m ≤ e / 2) = false := decide_eq_false (by omega)
  have HB : Hid (∀ n, Below w.heap.size w (w.drewN n)) := fun n => below_drewN (Below.refl _ _) n
  have hv2 : vr s.K (e / 2) ≤ 90000 := by omega
  clear hv hr hA h
  generalize vr s.K (e / 2) = v at *
  generalize lt s.K e = r at *
  generalize odd e = o at *
  generalize e / 2 = n at *
  generalize s.m = m at *
  go_enter Try.func24, Try.ntmps24
  go_upto_region 1 with (fail)
  go_quiet ((go_at_call 26; exact Calls.quiet_of_same (HN.out _)))
  cases o with
  | true =>
    go_wp2_with fail
    refine (HT.out _).mono ?_
    rintro e w' ⟨rfl, rfl⟩
    go_wp2_with fail
    go_ret
    exact ⟨gret_int (by rw [HL.out]; simp), HB.out _⟩
  | false =>
    go_wp2_with fail
    refine (HT.out _).mono ?_
    rintro e w' ⟨rfl, rfl⟩
    go_wp2_with fail
    go_ret
    exact ⟨gret_int (by rw [HL.out]; simp), HB.out _⟩
set_option maxHeartbeats 1600000 in
/-- A gate's variable; of a number without a place 0. -/
theorem kVar_any (h : KnAt w q s) (n : Nat) (hn : n ≤ 4294967296) (h0 : s.m ≤ n → n ∉ s.K) (hK : s.K.length ≤ 90000) :
    Calls Try.prog 16 #[.pointer (some ⟨q.bk, 0, none⟩), .int .i64 (n : Int)] w fun r w' => r = .returned (.int .i64 ((vr s.K n : Nat) : Int)) ∧ w = w' := by
  obtain ⟨_, _, c2, _, _, _⟩ := h.cells
  have t0 : decide ((n : Int) < 0) = false := decide_eq_false (by omega)
  by_cases hm : n < s.m
  · obtain ⟨g, hA, hr⟩ := h.vs.1.row (by omega)
    have x0 : w.cell? ⟨g, n, none⟩ = some (.int .i32 ((vr s.K n : Nat) : Int)) := hr.cell (by omega)
    rw [hA] at c2
    have hv := vr_le s.K n
    have hv2 : vr s.K n ≤ 90000 := by omega
    have t1 : decide ((s.m : Int) ≤ (n : Int)) = false := decide_eq_false (by omega)
    have t2 : decide (s.m ≤ n) = false := decide_eq_false (by omega)
    clear hv hr hA h
    generalize vr s.K n = v at *
    generalize s.m = m at *
    go_enter Try.func16, Try.ntmps16
    go_wp2_with fail
    go_ret
    exact ⟨gret_int (by omega), rfl⟩
  · have t1 : decide ((s.m : Int) ≤ (n : Int)) = true := decide_eq_true (by omega)
    have t2 : decide (s.m ≤ n) = true := decide_eq_true (by omega)
    have hv : Hid (vr s.K n = 0) := vr_zero (h0 (by omega))
    clear h
    generalize vr s.K n = v at *
    generalize s.m = m at *
    go_enter Try.func16, Try.ntmps16
    go_wp2_with fail
    go_ret
    exact ⟨gret_int (by rw [hv.out]; rfl), rfl⟩
theorem kKnown_any (h : KnAt w q s) : Calls Try.prog 20 #[.pointer (some ⟨q.bk, 0, none⟩)] w fun r w' => r = .returned (.int .i64 (s.kn : Int)) ∧ w = w' := by
  obtain ⟨_, _, _, c3, _, _⟩ := h.cells
  clear h
  go_enter Try.func20, Try.ntmps20
  go_wp2_with fail
  go_ret
  exact ⟨rfl, rfl⟩
set_option maxHeartbeats 1600000 in
/-- The sink has a variable more. -/
theorem svar_yes (h : KnAt w q s) (hM : s.nv < s.M) (hb : s.M ≤ 100000) :
    Calls Try.prog 94 #[.pointer (some ⟨q.bs, 0, none⟩)] w fun r w' => r = .returned (.int .i64 ((s.nv + 1 : Nat) : Int)) ∧ KnAt w' q { s with nv := s.nv + 1 } ∧ KnTo w w' q q := by
  obtain ⟨c0, _, c2, cf⟩ := h.scells
  have f0 := cf 0
  have HE : Hid (∀ z, ∀ n : Int, n = (s.nv : Int) + 1 → KnAt ((w.drewN z).setCell ⟨q.bs, 0, none⟩ (.int .i64 n)) q { s with nv := s.nv + 1 } ∧ KnTo w ((w.drewN z).setCell ⟨q.bs, 0, none⟩ (.int .i64 n)) q q) := fun z n e => by
    have hb : Below w.heap.size w (w.drewN z) := below_drewN (Below.refl _ _) z
    have := (h.below hb).var
    rw [show ((s.nv + 1 : Nat) : Int) = n by omega] at this
    exact ⟨this.1, (KnTo.ofBelow hb).trans this.2⟩
  have e0 : ∀ z, ((w.drewN z).setCell ⟨q.bs, 0, none⟩ (.int .i64 ((s.nv : Int) + 1))).cell? ⟨q.bs, 0, none⟩ = some (.int .i64 ((s.nv : Int) + 1)) := fun z => by
    have := (HE.out z _ rfl).1.scells.1
    simpa using this
  have t1 : decide ((s.M : Int) ≤ (s.nv : Int)) = false := decide_eq_false (by omega)
  have t2 : decide (s.M ≤ s.nv) = false := decide_eq_false (by omega)
  clear h cf
  go_enter Try.func94, Try.ntmps94
  go_upto_region 1 with (fail)
  go_quiet (fail)
  go_wp2_with fail
  go_ret
  exact ⟨gret_int (by omega), HE.out _ _ (by omega)⟩
set_option maxHeartbeats 1600000 in
/-- The sink has none. -/
theorem svar_no (h : KnAt w q s) (hM : s.M ≤ s.nv) :
    Calls Try.prog 94 #[.pointer (some ⟨q.bs, 0, none⟩)] w fun r w' => r = .returned (.int .i64 0) ∧ Below w.heap.size w w' := by
  have HB : Hid (∀ z, Below w.heap.size w (w.drewN z)) := fun z => below_drewN (Below.refl _ _) z
  obtain ⟨c0, _, c2, _⟩ := h.scells
  have t1 : decide ((s.M : Int) ≤ (s.nv : Int)) = true := decide_eq_true (by omega)
  have t2 : decide (s.M ≤ s.nv) = true := decide_eq_true (by omega)
  clear h
  go_enter Try.func94, Try.ntmps94
  go_upto_region 1 with (fail)
  go_quiet (fail)
  go_wp2_with fail
  go_ret
  exact ⟨rfl, HB.out _⟩
end
end Go.Proofs.Ytmiifhclcknhdaa
