/- What the laws of layer 3 share: the last step of a row, the slice of scores that came in. -/
import Derived.Test.YtffpggdbmfidcaaRAlive
import Derived.Test.YtffpggdbmfidcaaRd
import Derived.ProofKit
import Derived.OpenShut
import Derived.SizedLaws
import Derived.Deep.DeepCutAuto
namespace Go.Proofs.Ytffpggdbmfidcaa
open Go.ChangeShapes Go.WideShapes Go.ChangeAt Go.RowKit HeapM

theorem own_knob : ownKnob Try.prog.godebug = none := by kernel_rfl
theorem laid_out : laidOutB Try.prog = true := by kernel_rfl
theorem cells_int64 : Try.prog.cellsOf 2 = 1 := by kernel_rfl
theorem i64_of {n : Int} (h : (Lit.int .i64 n).wf = true) : -9223372036854775808 ≤ n ∧ n ≤ 9223372036854775807 := by
  simpa [Lit.wf, IntKind.min, IntKind.max, IntKind.bits, IntKind.signed] using h
/-- Numbers of 64 bits. -/
def In64 (xs : List Int) : Prop := ∀ j, -9223372036854775808 ≤ xs.getD j 0 ∧ xs.getD j 0 ≤ 9223372036854775807
theorem In64.of {xs : List Int} (h : ∀ x ∈ xs, -9223372036854775808 ≤ x ∧ x ≤ 9223372036854775807) : In64 xs := by
  intro j
  by_cases hj : j < xs.length
  · rw [getD_lt hj]; exact h _ (List.getElem_mem hj)
  · have : xs.getD j 0 = 0 := by simp [List.getD, List.getElem?_eq_none (by omega : xs.length ≤ j)]
    rw [this]; omega
/-- A slice of scores that came in. -/
theorem open_scores {H : Type} {enc : TypeId × Value → H} {W : World} {base : Nat} {v : Value} {d : DataW H} {p : List MemPlace} (hok : Value.okWide Try.prog W .any base 49 v)
    (h : DataW.Trod enc Try.prog W 0 (fun _ => true) true 49 v d p) :
    ∃ A n c xs, v = .slice A n c ∧ Rd .i64 W W.heap.size A n xs ∧ In64 xs ∧ n ≤ 9223372036854775807 := by
  obtain ⟨a0, len, cap, rfl⟩ := okWide_slice Try.underlying49 hok
  obtain ⟨fuel, hf⟩ := h
  rcases open_ints Try.underlying49 Try.underlying2 cells_int64 hf with ⟨hcs, _⟩ | ⟨a, len', cap', zs, hcs, _, hl, hmx, hz, _, hcell, hwz⟩
  · simp [Value.cells] at hcs
    obtain ⟨rfl, rfl, rfl⟩ := hcs
    exact ⟨none, 0, 0, [], rfl, Rd.nil, In64.of (by simp), by omega⟩
  · simp [Value.cells] at hcs
    obtain ⟨rfl, rfl, rfl⟩ := hcs
    simp only [if_true] at hz
    have hm : len ≤ 9223372036854775807 := by unfold maxLen at hmx; omega
    refine ⟨some a, len, cap, zs.take len, rfl, ⟨by simp; omega, fun hn => ?_⟩, In64.of fun x hx => ?_, hm⟩
    · obtain ⟨b, off, spot⟩ := a
      have hspot : spot = none := by simpa [Addr.add] using World.cell?_spot (hcell 0 (by omega))
      subst hspot
      have hcell' : ∀ j, j < zs.length → W.cell? ⟨b, off + j, none⟩ = some (.int .i64 (zs.getD j 0)) := fun j hj => by rw [← add_plain]; exact hcell j hj
      refine ⟨b, off, rfl, World.block_lt_of_cell? _ _ (hcell' 0 (by omega)), fun j hj => ?_⟩
      rw [hcell' j (by omega), getD_lt (show j < zs.length by omega), getD_lt (show j < (zs.take len).length by simp; omega)]
      simp
    · exact i64_of (hwz x (List.mem_of_mem_take hx))
end Go.Proofs.Ytffpggdbmfidcaa
