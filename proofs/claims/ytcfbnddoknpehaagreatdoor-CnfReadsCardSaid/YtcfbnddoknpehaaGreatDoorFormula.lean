/- The contract of the reader's formula. -/
import Derived.Test.YtcfbnddoknpehaaGreatDoorClause
import Derived.Test.YtcfbnddoknpehaaGreatDoorFormM
import Derived.Test.YtcfbnddoknpehaaGreatDoorRightG
namespace Go.Proofs.YtcfbnddoknpehaaGreatDoor
open Go.RowKit Go.Shelf Go.Lib Words CnfP

theorem info_clause : (Tryz.prog.info? 46).map (fun i => (i.zero, i.size, i.bytes)) = some (some (.slice none 0 0), 1, 24) := by kernel_rfl

/-- v is a slice of slices, both of the call's own, from block B on, that holds cs. -/
def OwnF (w : World) (B : Nat) (v : Value) (cs : List (List Int)) : Prop :=
  ∃ vs : List Value, vs.length = cs.length ∧ w.ownsRow B 46 1 v vs.length vs ∧ ∀ j, j < cs.length → ∃ u, vs[j]? = some u ∧ Own w B u (cs.getD j [])
theorem OwnF.nil (w : World) (B : Nat) : OwnF w B (.slice none 0 0) [] := ⟨[], rfl, World.ownsRow_nil _ _ _ _, fun j hj => absurd hj (by simp)⟩
theorem ownsRow_kept {g B : Nat} {w w' : World} {T : TypeId} {v : Value} {n : Nat} {xs : List Value} (h : w.ownsRow B T 1 v n xs) (hk : Kept g w w') (hg : g < B) : w'.ownsRow B T 1 v n xs := by
  refine ⟨h.1, ?_⟩
  rcases h.2 with h' | ⟨b, cap, cur, hv, hb, hh, r⟩
  · exact .inl h'
  · have hlt : b < w.heap.size := by
      rcases Nat.lt_or_ge b w.heap.size with h' | h'
      · exact h'
      · rw [Array.getElem?_eq_none h'] at hh; cases hh
    exact .inr ⟨b, cap, cur, hv, hb, by rw [hk.block b hlt (by omega)]; exact hh, r⟩
theorem OwnF.kept {g B : Nat} {w w' : World} {v : Value} {cs : List (List Int)} (h : OwnF w B v cs) (hk : Kept g w w') (hg : g < B) : OwnF w' B v cs := by
  obtain ⟨vs, hl, ho, he⟩ := h
  exact ⟨vs, hl, ownsRow_kept ho hk hg, fun j hj => by obtain ⟨u, h1, h2⟩ := he j hj; exact ⟨u, h1, h2.kept hk hg⟩⟩
theorem Own.low {w : World} {B B' : Nat} {v : Value} {xs : List Int} (h : Own w B v xs) (hB : B' ≤ B) : Own w B' v xs := h.base hB
theorem OwnF.base {w : World} {B B' : Nat} {v : Value} {cs : List (List Int)} (h : OwnF w B v cs) (hB : B' ≤ B) : OwnF w B' v cs := by
  obtain ⟨vs, hl, ho, he⟩ := h
  refine ⟨vs, hl, ⟨ho.1, ?_⟩, fun j hj => by obtain ⟨u, h1, h2⟩ := he j hj; exact ⟨u, h1, h2.low hB⟩⟩
  rcases ho.2 with h' | ⟨b, cap, cur, hv, hb, r⟩
  · exact .inl h'
  · exact .inr ⟨b, cap, cur, hv, by omega, r⟩
theorem OwnF.form {w : World} {B : Nat} {v : Value} {cs : List (List Int)} (h : OwnF w B v cs) : ∃ A c, v = .slice A cs.length c ∧ RdF w w.heap.size A cs.length cs := by
  obtain ⟨vs, hl, ho, he⟩ := h
  rcases ho.2 with ⟨rfl, h0⟩ | ⟨b, cap, cur, rfl, _⟩
  · have hc : cs = [] := List.length_eq_zero_iff.1 (by omega)
    subst hc
    exact ⟨none, 0, rfl, RdF.nil⟩
  · refine ⟨some ⟨b, 0, none⟩, cap, by rw [hl], rfl, fun hn => ?_⟩
    have hlt := (ho.lt b rfl).2
    refine ⟨b, 0, rfl, hlt, fun j hj => ?_⟩
    obtain ⟨u, h1, h2⟩ := he j hj
    obtain ⟨Aj, cj, rfl, hR⟩ := h2.form
    refine ⟨Aj, _, cj, ?_, hR⟩
    have := ho.cells (g := b) rfl j _ h1
    rw [← this]
    congr 1
    unfold Addr.add
    split <;> simp_all
/-- Behind an append of one slice. -/
theorem OwnF.snoc {w' : World} {B : Nat} {v' u : Value} {cs : List (List Int)} {c : List Int} {vs : List Value} (hl : vs.length = cs.length) (he : ∀ j, j < cs.length → ∃ u, vs[j]? = some u ∧ Own w' B u (cs.getD j []))
    (hu : Own w' B u c) (ho : w'.ownsRow B 46 1 v' (vs.length + 1) (vs ++ [u])) : OwnF w' B v' (cs ++ [c]) := by
  refine ⟨vs ++ [u], by simp [hl], by simpa using ho, fun j hj => ?_⟩
  rw [List.length_append, List.length_singleton] at hj
  by_cases hjl : j < cs.length
  · obtain ⟨x, h1, h2⟩ := he j hjl
    refine ⟨x, by rw [List.getElem?_append_left (by omega)]; exact h1, ?_⟩
    rw [getF_lt (by simp; omega), List.getElem_append_left hjl, ← getF_lt hjl]
    exact h2
  · obtain rfl : j = cs.length := by omega
    refine ⟨u, by rw [← hl]; simp, ?_⟩
    rw [getF_lt (by simp)]
    simpa using hu
theorem Own.grown {w w' : World} {B : Nat} {v : Value} {xs : List Int} {row : Option Nat} (h : Own w B v xs) (hg : w.grownBy w' row) (hne : v.ownBlock = none ∨ v.ownBlock ≠ row) : Own w' B v xs := World.ownsRow.kept h hg hne
/-- The block of a formula, by its number. -/
def FrmAt (b : Nat) (v : Int) (u : Value) (w : World) : Prop := w.heap[b]? = some (.cells #[.int .i64 v, u] 24 (0, 0))
theorem FrmAt.lt {b : Nat} {v : Int} {u : Value} {w : World} (h : FrmAt b v u w) : b < w.heap.size := by
  rcases Nat.lt_or_ge b w.heap.size with h' | h'
  · exact h'
  · unfold FrmAt at h; simp [Array.getElem?_eq_none h'] at h
theorem FrmAt.c0 {b : Nat} {v : Int} {u : Value} {w : World} (h : FrmAt b v u w) : w.cell? ⟨b, 0, none⟩ = some (.int .i64 v) := by rw [Lib.cell_of_heap h]; rfl
theorem FrmAt.c1 {b : Nat} {v : Int} {u : Value} {w : World} (h : FrmAt b v u w) : w.cell? ⟨b, 1, none⟩ = some u := by rw [Lib.cell_of_heap h]; rfl
theorem FrmAt.f {b : Nat} {v : Int} {u : Value} {w : World} (h : FrmAt b v u w) (j : Nat) : w.frozen? ⟨b, j, none⟩ = false := Lib.frozen_of_heap h j
theorem FrmAt.kept {g b : Nat} {v : Int} {u : Value} {w w' : World} (h : FrmAt b v u w) (hk : Kept g w w') (hg : b ≠ g) : FrmAt b v u w' := by
  have := h.lt
  unfold FrmAt at *
  rw [hk.block b this hg]; exact h
theorem FrmAt.set1 {b : Nat} {v : Int} {u : Value} {w : World} (h : FrmAt b v u w) (u' : Value) : FrmAt b v u' (w.setCell ⟨b, 1, none⟩ u') := by
  unfold FrmAt at *
  simp [World.setCell, Array.getElem?_modify, h]
theorem own_typed {w : World} {B : Nat} {v : Value} {xs : List Int} (h : Own w B v xs) : ∀ b, v.ownBlock = some b → ∃ c, w.heap[b]? = some (.cells c 50 (0, 0)) := by
  intro b hb
  rcases h.2 with ⟨rfl, _⟩ | ⟨g, cap, cur, rfl, _, hh, _⟩
  · simp [Value.ownBlock] at hb
  · simp only [Value.ownBlock, Option.some.injEq] at hb
    subst hb
    exact ⟨cur, hh⟩
theorem row_typed {w : World} {B n : Nat} {T : TypeId} {v : Value} {xs : List Value} (h : w.ownsRow B T 1 v n xs) : ∀ b, v.ownBlock = some b → ∃ c, w.heap[b]? = some (.cells c T (0, 0)) := by
  intro b hb
  rcases h.2 with ⟨rfl, _⟩ | ⟨g, cap, cur, rfl, _, hh, _⟩
  · simp [Value.ownBlock] at hb
  · simp only [Value.ownBlock, Option.some.injEq] at hb
    subst hb
    exact ⟨cur, hh⟩
/-- A clause's row is no row of clauses. -/
theorem own_apart {w : World} {B n : Nat} {v r : Value} {xs : List Int} {ys : List Value} (h : Own w B v xs) (k : w.ownsRow B 46 1 r n ys) : v.ownBlock = none ∨ v.ownBlock ≠ r.ownBlock := by
  rcases hv : v.ownBlock with _ | b
  · exact .inl rfl
  · refine .inr fun e => ?_
    obtain ⟨c, h1⟩ := own_typed h b hv
    obtain ⟨d, h2⟩ := row_typed k b e.symm
    rw [h1] at h2
    injection h2 with h2
    injection h2 with _ h2 _
    exact absurd h2 (by decide)

theorem slice_cell {w : World} {y : Value} : ∀ j u, [y][j]? = some u → (w.alloc (.cells #[y] 46)).cell? ((⟨w.heap.size, 0, none⟩ : Addr).add j) = some u := by
  intro j u hj
  match j, hj with
  | 0, hj => simp at hj; subst hj; simp [Addr.add]
theorem slice_one {A : Option Addr} {n c : Nat} : ∀ u ∈ [Value.slice A n c], u.oneCell' = true := by
  intro u hu; simp at hu; subst hu; rfl
end Go.Proofs.YtcfbnddoknpehaaGreatDoor
