/- slices.Clone of a clause's literals, a row of the call's own; newClause. -/
import Derived.Test.YtjhopjokllkipaaEngQ
import Derived.Test.YtjhopjokllkipaaLitD
namespace Go.Proofs.Ytjhopjokllkipaa
open Go.Shelf Go.RowKit Go.Lib LitM TrailM EngM

/-- What a copy leaves: literals in a block of the call's own, or nil. -/
def CopyTo (n : Nat) (xs : List Int) (w : World) (v : Value) (w' : World) : Prop :=
  ∃ A c, v = .slice A n c ∧ SlV 27 1 w' A n c (lsC xs) ∧ (∀ k, onB A k → w.heap.size ≤ k) ∧ Below w.heap.size w w'
theorem copy_any (A : Option Addr) (n c : Nat) (xs : List Int) (w : World) (h : Rd .i32 w w.heap.size A n xs) (hA : A = none → n = 0) (hn : n * 4 ≤ 140737488355328) :
    Calls Try.prog 50 #[.slice A n c] w fun e w' => ∃ v, e = .returned v ∧ CopyTo n xs w v w' := by
  cases A with
  | none =>
    have hn0 := hA rfl
    subst hn0
    have hc1 := AnyE.slices_Clone_nil Try.cloneL 0 c w
    change Calls Try.prog 50 _ _ _ at hc1
    refine hc1.mono fun e w' ⟨he, hw⟩ => ⟨_, he, none, 0, rfl, SlV.nil _ _ _ _, fun k hk => absurd hk (onB_none k), ?_⟩
    subst hw; exact Below.refl _ _
  | some ad =>
    refine (clone_some ad n c xs w h hn).mono fun e w' ⟨v, he, hown, _, hb⟩ => ⟨v, he, ?_⟩
    rcases hown.2 with ⟨rfl, h0⟩ | ⟨g, cap, cur, rfl, hg, hh, q1, q2, q3, q4⟩
    · subst h0
      exact ⟨none, 0, rfl, SlV.nil _ _ _ _, fun k hk => absurd hk (onB_none k), hb⟩
    · refine ⟨some ⟨g, 0, none⟩, cap, rfl, .inr ⟨g, rfl, ?_⟩, fun k hk => by rw [onB_some] at hk; rw [hk]; exact hg, hb⟩
      refine ⟨cur, hh, q1, q2, q3, fun j hj => ?_⟩
      have hl := h.len
      rw [← Array.getElem?_toList, ← List.getElem?_take_of_lt hj, q4]
      unfold lsC
      rw [List.getElem?_map, List.getD, List.getElem?_eq_getElem (by omega)]; rfl
/-- What newClause leaves. -/
def ClTo (n : Nat) (xs : List Int) (w : World) (e : Ending) (w' : World) : Prop :=
  ∃ A c, e = .returned (.agg #[.bool true, .slice A n c, .int .i32 0, .int .i32 0, .int .i64 0]) ∧ SlV 27 1 w' A n c (lsC xs) ∧ (∀ k, onB A k → w.heap.size ≤ k) ∧ Below w.heap.size w w'
set_option maxHeartbeats 1600000 in
set_option maxRecDepth 100000 in
theorem newClause_any (A : Option Addr) (n c : Nat) (xs : List Int) (w : World) (h : Rd .i32 w w.heap.size A n xs) (hA : A = none → n = 0) (hn : n ≤ 1000000) :
    Calls Try.prog 31 #[.slice A n c] w (ClTo n xs w) := by
  have hr : Rd .i32 (w.alloc (.cells #[.bool false, .slice none 0 0, .int .i32 0, .int .i32 0, .int .i64 0] 71)) (w.alloc (.cells #[.bool false, .slice none 0 0, .int .i32 0, .int .i32 0, .int .i64 0] 71)).heap.size A n xs := by
    have := h.alloc (Nat.le_refl _) (.cells #[.bool false, .slice none 0 0, .int .i32 0, .int .i32 0, .int .i64 0] 71)
    exact ⟨this.len, fun h0 => by obtain ⟨b, o, e, hb, hc⟩ := this.at_ h0; exact ⟨b, o, e, by simp; omega, hc⟩⟩
  have HC := Lib.hid (copy_any A n c xs _ hr hA (by omega))
  clear h hr
  go_enter Try.func31, Try.ntmps31
  go_wp2_with fail
  refine HC.out.mono ?_
  rintro e w1 ⟨v, rfl, A', c', rfl, hS, hon, hb⟩
  have hb0 : w1.heap[w.heap.size]? = some (.cells #[.bool false, .slice none 0 0, .int .i32 0, .int .i32 0, .int .i64 0] 71 (0, 0)) := by
    rw [hb.block w.heap.size (by simp)]; exact blk_new _ _
  obtain ⟨W, hW⟩ : ∃ W, W = ((((w1.setCell ⟨w.heap.size, 0, none⟩ (.bool true)).setCell ⟨w.heap.size, 1, none⟩ (.slice A' n c')).setCell ⟨w.heap.size, 2, none⟩ (.int .i32 0)).setCell ⟨w.heap.size, 3, none⟩ (.int .i32 0)).setCell ⟨w.heap.size, 4, none⟩ (.int .i64 0) := ⟨_, rfl⟩
  have h5 : W.heap[w.heap.size]? = some (.cells #[.bool true, .slice A' n c', .int .i32 0, .int .i32 0, .int .i64 0] 71 (0, 0)) := by
    rw [hW, Lib.heap_setCell_same (Lib.heap_setCell_same (Lib.heap_setCell_same (Lib.heap_setCell_same (Lib.heap_setCell_same hb0 _) _) _) _) _]
    rfl
  have p0 : W.cell? ⟨w.heap.size, 0, none⟩ = some (.bool true) := by rw [Lib.cell_of_heap h5]; rfl
  have p1 : W.cell? ⟨w.heap.size, 1, none⟩ = some (.slice A' n c') := by rw [Lib.cell_of_heap h5]; rfl
  have p2 : W.cell? ⟨w.heap.size, 2, none⟩ = some (.int .i32 0) := by rw [Lib.cell_of_heap h5]; rfl
  have p3 : W.cell? ⟨w.heap.size, 3, none⟩ = some (.int .i32 0) := by rw [Lib.cell_of_heap h5]; rfl
  have p4 : W.cell? ⟨w.heap.size, 4, none⟩ = some (.int .i64 0) := by rw [Lib.cell_of_heap h5]; rfl
  have hb1 : Below w.heap.size w w1 := ((Below.refl _ _).alloc (Nat.le_refl _) _).trans (hb.mono (by simp))
  have HFIN : Hid (ClTo n xs w (.returned (.agg #[.bool true, .slice A' n c', .int .i32 0, .int .i32 0, .int .i64 0])) W) := by
    have hne : ∀ k, onB A' k → w.heap.size + 1 ≤ k := fun k hk => by have := hon k hk; simpa using this
    have hno : ¬ onB A' w.heap.size := fun e => by have := hne _ e; omega
    refine ⟨A', c', rfl, ?_, fun k hk => by have := hne k hk; omega, ?_⟩
    · rw [hW]
      exact ((((hS.other hno _).other hno _).other hno _).other hno _).other hno _
    · rw [hW]
      exact ((((hb1.setCell (Nat.le_refl _) _).setCell (Nat.le_refl _) _).setCell (Nat.le_refl _) _).setCell (Nat.le_refl _) _).setCell (Nat.le_refl _) _
  have c0 := Lib.cell_of_heap hb0 0
  have c1 := Lib.cell_of_heap hb0 1
  have c2 := Lib.cell_of_heap hb0 2
  have c3 := Lib.cell_of_heap hb0 3
  have c4 := Lib.cell_of_heap hb0 4
  have cf := Lib.frozen_of_heap hb0
  simp at c0 c1 c2 c3 c4
  have HW := Lib.hid hW
  clear hb hb1 hS hon h5 hW hb0
  go_wp2_with fail
  rw [← HW.out]
  refine bodyPost_ret (v := .agg #[.bool true, .slice A' n c', .int .i32 0, .int .i32 0, .int .i64 0]) (by simp [results, Try.results31, go_sem, p0, p1, p2, p3, p4]) rfl ?_
  exact HFIN.out
end Go.Proofs.Ytjhopjokllkipaa
