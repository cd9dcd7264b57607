/- The contract of cnf.Read. -/
import Derived.Test.YtcfbnddoknpehaaGreatDoorFormW
import Derived.Defers
import Derived.Recover
namespace Go.Proofs.YtcfbnddoknpehaaGreatDoor
open Go.RowKit Go.Shelf Go.Lib Words CnfP

theorem caught (p q : Nat) (u : TypeId) (pv : Value) (older : List PanicEntry) (w : World) (a b c : Value) (hp0 : w.cell? ⟨p, 0, none⟩ = some a) (hp1 : w.cell? ⟨p, 1, none⟩ = some b) (hq : w.cell? ⟨q, 0, none⟩ = some c)
    (hf0 : w.frozen? ⟨p, 0, none⟩ = false) (hf1 : w.frozen? ⟨p, 1, none⟩ = false) (hfq : w.frozen? ⟨q, 0, none⟩ = false) (hpq : ¬ p = q) :
    CallsD Tryz.prog 29 #[.pointer (some ⟨p, 0, none⟩), .pointer (some ⟨q, 0, none⟩)] (.panicking ({ v := .iface u pv, recovered := false } :: older)) w fun e u' w' =>
      e = .returned (.tuple #[]) ∧ u' = .panicking ({ v := .iface u pv, recovered := true } :: older) ∧ w' = ((w.setCell ⟨p, 0, none⟩ (.int .i64 0)).setCell ⟨p, 1, none⟩ (.slice none 0 0)).setCell ⟨q, 0, none⟩ (.int .i64 22) := by
  refine callsD_of_wpS Tryz.func29 rfl fun c₀ cs hu => ?_
  apply wpS_seq
  apply wpS_region
  simp [wpOpsS, go_sem, recoverD, hu, Tryz.ntmps29, Exit.thenS]
  refine wpS_cond (t := true) (by simp [Act.eval, Array.replicate]) ?_
  simp only [if_true]
  refine wpS_of_wp ?_
  go_wp2
  simp [bodyPostS, results, Tryz.results29]

theorem idle (p q : Nat) (w : World) :
    CallsD Tryz.prog 29 #[.pointer (some ⟨p, 0, none⟩), .pointer (some ⟨q, 0, none⟩)] .returning w fun e u' w' => e = .returned (.tuple #[]) ∧ u' = .returning ∧ w' = w := by
  refine callsD_of_wpS Tryz.func29 rfl fun c₀ cs hu => ?_
  apply wpS_seq
  apply wpS_region
  simp [wpOpsS, go_sem, recoverD, hu, Tryz.ntmps29, Exit.thenS]
  refine wpS_cond (t := false) (by simp [Act.eval, Array.replicate]) ?_
  simp only [Bool.false_eq_true, if_false]
  refine wpS_of_wp (wp_skip ?_)
  cases c₀
  simp_all [bodyPostS, results, Tryz.results29]

/-- What Read answers. -/
def ReadPost (s : List UInt8) (w : World) (e : Ending) (w' : World) : Prop :=
  Below w.heap.size w w' ∧ ((∃ v cs A n c, formulaOf (wordsL s) = some (v, cs) ∧ e = .returned (.tuple #[.agg #[.int .i64 v, .slice A n c], .int .i64 0]) ∧ RdF w' w'.heap.size A n cs) ∨
    (formulaOf (wordsL s) = none ∧ e = .returned (.tuple #[.agg #[.int .i64 0, .slice none 0 0], .int .i64 22])))

theorem blk_new (w : World) (o : Obj) : (w.alloc o).heap[w.heap.size]? = some o := by show (w.heap.push o)[w.heap.size]? = _; simp
theorem blk_old (w : World) (o : Obj) (k : Nat) (h : k < w.heap.size) : (w.alloc o).heap[k]? = w.heap[k]? := Below.heap_alloc w o k h
/-- The block of an error. -/
def ErrAt (b : Nat) (x : Int) (w : World) : Prop := w.heap[b]? = some (.cells #[.int .i64 x] 28 (0, 0))

set_option maxHeartbeats 3200000 in
set_option maxRecDepth 100000 in
theorem read_any (s : List UInt8) (w : World) (hl : LibAt w) (hw : 8 ≤ w.heap.size) (hs : s.length ≤ 4194304) :
    Calls Tryz.prog 14 #[.string ⟨s.toArray⟩] w (ReadPost s w) := by
  have hmf : ∀ (fn : Fn) (first cap : Array Value) (w : World), (Instr.makeFunc fn first cap).run Tryz.prog w = .ok (.func fn first cap) w := fun _ _ _ _ => rfl
  obtain ⟨W, hW⟩ : ∃ W, W = ((w.alloc (.cells #[.int .i64 0, .slice none 0 0] 24)).alloc (.cells #[.int .i64 0] 28)).alloc (.cells #[.string ⟨#[]⟩, .string ⟨s.toArray⟩] 67) := ⟨_, rfl⟩
  have hB0 : Below w.heap.size w W := by rw [hW]; exact (((Below.refl _ _).alloc (Nat.le_refl _) _).alloc (by simp) _).alloc (by simp; omega) _
  have hF0 : FrmAt w.heap.size 0 (.slice none 0 0) W := by
    rw [hW]; unfold FrmAt
    rw [blk_old _ _ _ (by simp; omega), blk_old _ _ _ (by simp), blk_new]
  have hE0 : ErrAt (w.heap.size + 1) 0 W := by
    rw [hW]; unfold ErrAt
    rw [blk_old _ _ _ (by simp)]
    have e : w.heap.size + 1 = (w.alloc (.cells #[.int .i64 0, .slice none 0 0] 24)).heap.size := by simp
    rw [e]; exact blk_new _ _
  have hR0 : RdrAt (w.heap.size + 1 + 1) [] s W := by
    rw [hW]; unfold RdrAt
    have e : w.heap.size + 1 + 1 = ((w.alloc (.cells #[.int .i64 0, .slice none 0 0] 24)).alloc (.cells #[.int .i64 0] 28)).heap.size := by simp
    rw [e]; exact blk_new _ _
  have hz : W.heap.size = w.heap.size + 3 := by rw [hW]; simp
  have hlw : left [] s = wordsL s := rfl
  have hFA := formula_any (w.heap.size + 1 + 1) [] s W hR0 (hl.below hB0 hw) (by omega) (by decide) (by omega) (by have := left_count [] s; simp at this; omega)
  rw [hlw] at hFA
  rw [hW] at hFA
  have HFA := Lib.hid hFA
  have HB0 := Lib.hid hB0
  have HF0 := Lib.hid hF0
  have HE0 := Lib.hid hE0
  have HW := Lib.hid hW
  have hzW : w.heap.size + 3 ≤ W.heap.size := by omega
  clear hFA hlw hB0 hF0 hE0 hR0 hz hW
  go_enter_defers Tryz.func14, Tryz.ntmps14
  go_wp2_with fail
  refine HFA.out.mono ?_
  rw [← HW.out]
  rintro e w4 (⟨v, cs, A, n, c, hf, rfl, hR4, hk4⟩ | ⟨hf, rfl, hk4⟩)
  · have hF4 := HF0.out.kept hk4 (by omega)
    have hk5 : Kept (w.heap.size + 1 + 1) W w4 := hk4
    have hE4 : ErrAt (w.heap.size + 1) 0 w4 := by
      have : w4.heap[w.heap.size + 1]? = W.heap[w.heap.size + 1]? := hk4.block _ (by omega) (by omega)
      unfold ErrAt; rw [this]; exact HE0.out
    have hp0 := hF4.c0
    have hp1 := hF4.c1
    have hf0 := hF4.f 0
    have hf1 := hF4.f 1
    have hq0 : w4.cell? ⟨w.heap.size + 1, 0, none⟩ = some (.int .i64 0) := by rw [Lib.cell_of_heap hE4]; rfl
    have hfq : w4.frozen? ⟨w.heap.size + 1, 0, none⟩ = false := Lib.frozen_of_heap hE4 0
    have HK4 := Lib.hid hk4
    have HFo := Lib.hid hf
    have HR4 := Lib.hid hR4
    clear hF4 hE4 hk4 hk5 hf hR4
    go_wp2_with fail
    have hO5 := ((HR4.out.kept (Kept.set (w := w4) (g := w.heap.size) (j := 0) (.int .i64 v)) (by omega)).kept (Kept.set (g := w.heap.size) (j := 1) (.slice A n c)) (by omega)).kept (Kept.set (g := w.heap.size + 1) (j := 0) (.int .i64 0)) (by omega)
    have hk5 := (((Kept.of (g := w.heap.size + 1 + 1) HB0.out).trans HK4.out).setNew (b := w.heap.size) (j := 0) (Nat.le_refl _) (.int .i64 v)).setNew (b := w.heap.size) (j := 1) (Nat.le_refl _) (.slice A n c) |>.setNew (b := w.heap.size + 1) (j := 0) (by omega) (.int .i64 0)
    refine leaves_cons (f := 29) (args := #[.pointer (some ⟨w.heap.size, 0, none⟩), .pointer (some ⟨w.heap.size + 1, 0, none⟩)]) (by simp) (by simp [go_sem]) ?_
    refine (idle w.heap.size (w.heap.size + 1) _).mono ?_
    rintro e u' w'' ⟨rfl, rfl, rfl⟩
    refine ⟨.tuple #[.agg #[.int .i64 v, .slice A n c], .int .i64 0], ?_, ?_⟩
    · simp [results, Tryz.results14, go_sem, hp0, hp1, hq0]
    · obtain ⟨Av, cv, hv1, hR8⟩ := hO5.form
      injection hv1 with hv11 hv12 hv13
      subst hv11; subst hv12; subst hv13
      have hlo : Below w.heap.size w (((w4.setCell ⟨w.heap.size, 0, none⟩ (.int .i64 v)).setCell ⟨w.heap.size, 1, none⟩ (.slice A cs.length c)).setCell ⟨w.heap.size + 1, 0, none⟩ (.int .i64 0)) := by
        exact (((HK4.out.below HB0.out (by omega) (by omega)).setCell (p := ⟨w.heap.size, 0, none⟩) (Nat.le_refl _) _).setCell (p := ⟨w.heap.size, 1, none⟩) (Nat.le_refl _) _).setCell (p := ⟨w.heap.size + 1, 0, none⟩) (by show w.heap.size ≤ w.heap.size + 1; omega) _
      exact ⟨hlo, .inl ⟨v, cs, A, cs.length, c, HFo.out, rfl, hR8⟩⟩
  · have hF4 := HF0.out.kept hk4 (by omega)
    have hE4 : ErrAt (w.heap.size + 1) 0 w4 := by
      have : w4.heap[w.heap.size + 1]? = W.heap[w.heap.size + 1]? := hk4.block _ (by omega) (by omega)
      unfold ErrAt; rw [this]; exact HE0.out
    have hp0 := hF4.c0
    have hp1 := hF4.c1
    have hf0 := hF4.f 0
    have hf1 := hF4.f 1
    have hq0 : w4.cell? ⟨w.heap.size + 1, 0, none⟩ = some (.int .i64 0) := by rw [Lib.cell_of_heap hE4]; rfl
    have hfq : w4.frozen? ⟨w.heap.size + 1, 0, none⟩ = false := Lib.frozen_of_heap hE4 0
    refine leaves_cons (f := 29) (args := #[.pointer (some ⟨w.heap.size, 0, none⟩), .pointer (some ⟨w.heap.size + 1, 0, none⟩)]) (by simp) (by simp [go_sem]) ?_
    refine (caught w.heap.size (w.heap.size + 1) _ _ [] _ _ _ _ hp0 hp1 hq0 hf0 hf1 hfq (by omega)).mono ?_
    rintro e u' w'' ⟨rfl, rfl, rfl⟩
    refine ⟨.tuple #[.agg #[.int .i64 0, .slice none 0 0], .int .i64 22], ?_, ?_⟩
    · simp [results, Tryz.results14, go_sem, hp0, hp1, hq0]
    · refine ⟨?_, .inr ⟨hf, rfl⟩⟩
      exact (((hk4.below HB0.out (by omega) (by omega)).setCell (p := ⟨w.heap.size, 0, none⟩) (Nat.le_refl _) _).setCell (p := ⟨w.heap.size, 1, none⟩) (Nat.le_refl _) _).setCell (p := ⟨w.heap.size + 1, 0, none⟩) (by show w.heap.size ≤ w.heap.size + 1; omega) _
end Go.Proofs.YtcfbnddoknpehaaGreatDoor
