/- The opening of formulas, with how long their clauses can be. -/
import Derived.Test.YtkckodpfhlpkgaaGreatWOpn
import Derived.SizedLaws
namespace Go.Proofs.YtkckodpfhlpkgaaGreat
set_option maxRecDepth 100000
open Go.ChangeShapes Go.WideShapes Go.ChangeAt Go.RowKit LitM Go.Deep

theorem weights_all {H : Type} {P : Program} {e : TypeId} : ∀ {l : List (DataW H)} {d : DataW H} {n : Nat}, d ∈ l → n ∈ d.weights P e → n ∈ DataW.weightsAll P e l
  | x :: l, d, n, hd, hn => by
    simp only [DataW.weightsAll, List.mem_append]
    rcases List.mem_cons.1 hd with rfl | hd
    · exact .inl hn
    · exact .inr (weights_all hd hn)
/-- A formula that came in, and how long its clauses are. -/
theorem open_formS {H : Type} {enc : TypeId × Value → H} {W : World} {base : Nat} {v : Value} {d : DataW H} {p : List MemPlace} (hok : Value.okWide Tryz.prog W .any base 24 v)
    (hw : ∀ n ∈ d.weights Tryz.prog 24, n ≤ reachBytes)
    (h : DataW.Trod enc Tryz.prog W 0 (fun _ => true) true 24 v d p) :
    ∃ x A n c cs, v = .agg #[.int .i64 x, .slice A n c] ∧ RdF W W.heap.size A n cs ∧ (∀ c ∈ cs, In32 c) ∧ (∀ c ∈ cs, c.length * 4 ≤ 140737488351232) ∧ n ≤ 9223372036854775807 ∧ -9223372036854775808 ≤ x ∧ x ≤ 9223372036854775807 ∧ (A = none → n = 0 ∧ c = 0) ∧ n ≤ c ∧ c ≤ 9223372036854775807 := by
  simp only [Value.okWide, Tryz.underlying24] at hok
  obtain ⟨cs, rfl, hsz, _⟩ := hok
  rw [cells_form] at hsz
  obtain ⟨fuel, hf⟩ := h
  obtain ⟨xs, m, _, hxe, _, hl, hel⟩ := DataW.trod_struct Tryz.underlying24 hf
  have e0 := hel 0 _ rfl
  have e1 := hel 1 _ rfl
  simp only [List.getElem_toArray, List.getElem_cons_zero, List.getElem_cons_succ] at e0 e1
  rw [cells_int] at e0
  rw [cells_mat] at e1
  match xs, hl with
  | [x0, x1], _ =>
    have hcs : ∃ c0 c1, cs = #[c0, c1] := by
      rcases cs with ⟨l⟩
      match l, hsz with
      | [c0, c1], _ => exact ⟨c0, c1, rfl⟩
    obtain ⟨c0, c1, rfl⟩ := hcs
    simp [Value.cells] at e0 e1
    obtain ⟨x, h0, _, wx⟩ := DataW.trod_int Tryz.underlying3 e0
    simp at h0
    subst h0
    have hx := i64_of wx
    rcases open_int_rows Tryz.underlying22 Tryz.underlying36 Tryz.underlying34 cells_row cells_lit e1 with ⟨hcs, _⟩ | ⟨a, len, cap, A, L, C, Z, hcs, _, hlc, hm, hx1, hrow⟩
    · simp at hcs
      subst hcs
      exact ⟨x, none, 0, 0, [], rfl, RdF.nil, by simp, by simp, by omega, hx.1, hx.2, fun _ => ⟨rfl, rfl⟩, by omega, by omega⟩
    · simp at hcs
      subst hcs
      have hm' : cap ≤ 9223372036854775807 := by unfold maxLen at hm; omega
      have hget : ∀ j, j < len → ((List.range len).map fun r => (Z r).take (L r)).getD j [] = (Z j).take (L j) := fun j hj => by
        simp [List.getD, List.getElem?_map, List.getElem?_range hj]
      refine ⟨x, some a, len, cap, (List.range len).map fun r => (Z r).take (L r), rfl, ⟨by simp, fun hn => ?_⟩, fun c hc => ?_, fun c hc => ?_, by omega, hx.1, hx.2, (fun e => by cases e), hlc, hm'⟩
      · obtain ⟨b, off, spot⟩ := a
        have hspot : spot = none := by simpa [Addr.add] using World.cell?_spot (hrow 0 (by omega)).1
        subst hspot
        have hcell' : ∀ j, j < cap → W.cell? ⟨b, off + j, none⟩ = some (.slice (A j) (L j) (C j)) := fun j hj => by rw [← add_plain]; exact (hrow j hj).1
        refine ⟨b, off, rfl, World.block_lt_of_cell? _ _ (hcell' 0 (by omega)), fun j hj => ?_⟩
        obtain ⟨_, r2, r3, r4, r5, r6, r7⟩ := hrow j (by omega)
        rw [hget j hj]
        exact ⟨A j, L j, C j, hcell' j (by omega), rd_of r2 r4 r6 (fun a' ha' => (r7 a' ha').2)⟩
      · obtain ⟨j, hj, rfl⟩ := List.mem_map.1 hc
        obtain ⟨_, r2, r3, r4, r5, r6, r7⟩ := hrow j (by have := List.mem_range.1 hj; omega)
        exact In32.of fun y hy => i32_of (r5 y (List.mem_of_mem_take hy))
      · obtain ⟨j, hj, rfl⟩ := List.mem_map.1 hc
        have hj : j < len := by simpa using hj
        have hd : d = .agg [x0.1, x1.1] := by
          have := congrArg Prod.fst hxe
          simpa using this
        rw [hx1] at hd
        simp only at hd
        have hbl : Tryz.prog.bytesOf 34 = 4 := by kernel_rfl
        obtain ⟨_, r2, r3, r4, r5, r6, r7⟩ := hrow j (by omega)
        rcases hAj : A j with _ | aj
        · have := r6 hAj
          simp; omega
        · have hin : (L j + (C j - L j)) * 4 ∈ d.weights Tryz.prog 24 := by
            have hrow1 : (L j + (C j - L j)) * 4 ∈ (intRow (H := H) .i32 (A j) (L j) (Z j)).weights Tryz.prog 36 := by
              rw [hAj]
              unfold intRow
              simp only [DataW.weights, Tryz.underlying36]
              refine List.mem_cons.2 (.inl ?_)
              rw [hbl]
              simp only [lits, List.length_map, List.length_take, List.length_drop, r4]
              rw [Nat.min_eq_left r2]
            have hmem : intRow (H := H) .i32 (A j) (L j) (Z j) ∈ (List.range len).map fun r => intRow (H := H) .i32 (A r) (L r) (Z r) := List.mem_map.2 ⟨j, List.mem_range.2 hj, rfl⟩
            rw [hd]
            simp only [DataW.weights, Tryz.underlying24]
            refine DataW.weights_mem_each (j := 1) (t := 22) rfl rfl _ ?_
            simp only [DataW.weights, Tryz.underlying22]
            exact List.mem_cons.2 (.inr (List.mem_append_left _ (weights_all hmem hrow1)))
          have h1 := hw _ hin
          have h2 : reachBytes = 140737488351232 := by decide
          rw [h2] at h1
          simp; omega
end Go.Proofs.YtkckodpfhlpkgaaGreat
