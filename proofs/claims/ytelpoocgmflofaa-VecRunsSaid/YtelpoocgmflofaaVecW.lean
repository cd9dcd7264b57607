/- The laws' arguments: pairs and triples of numbers, a bool. -/
import Derived.Test.YtelpoocgmflofaaVecV
import Derived.Test.YtelpoocgmflofaaLitM
import Derived.Test.YtelpoocgmflofaaRows
import Derived.ProofKit
import Derived.OpenShut
import Derived.SizedLaws
import Derived.Deep.Slices
import Derived.Deep.Fields
import Derived.ChangeSame
namespace Go.Proofs.Ytelpoocgmflofaa
open Go.RowKit Go.ChangeShapes Go.WideShapes Go.ChangeAt GatM VecM

def I64 (n : Int) : Prop := -9223372036854775808 ≤ n ∧ n ≤ 9223372036854775807
theorem cells_v2 : Try.prog.cellsOf 42 = 2 := by kernel_rfl
theorem cells_w2 : Try.prog.cellsOf 37 = 2 := by kernel_rfl
theorem cells_w3 : Try.prog.cellsOf 54 = 3 := by kernel_rfl
theorem cells_vi : Try.prog.cellsOf 3 = 1 := by kernel_rfl
theorem cells_wi : Try.prog.cellsOf 2 = 1 := by kernel_rfl
section
variable {H : Type} {enc : TypeId × Value → H} {W : World} {base : Nat} {v : Value} {d : DataW H} {p : List MemPlace}
set_option maxRecDepth 100000 in
theorem open_v2 (hok : Value.okWide Try.prog W .any base 42 v) (h : DataW.Trod enc Try.prog W 0 (fun _ => true) true 42 v d p) : ∃ x y, v = .agg #[.int .i64 x, .int .i64 y] ∧ I64 x ∧ I64 y := by
  simp only [Value.okWide, Try.underlying42] at hok
  obtain ⟨cs, rfl, hsz, _⟩ := hok
  rw [cells_v2] at hsz
  obtain ⟨fuel, hf⟩ := h
  obtain ⟨xs, m, _, _, _, hl, hel⟩ := DataW.trod_array Try.underlying42 hf
  have e0 := hel 0 (by omega)
  have e1 := hel 1 (by omega)
  rw [cells_vi] at e0 e1
  match xs, hl with
  | [x0, x1], _ =>
    have hcs : ∃ c0 c1, cs = #[c0, c1] := by
      rcases cs with ⟨l⟩
      match l, hsz with
      | [c0, c1], _ => exact ⟨c0, c1, rfl⟩
    obtain ⟨c0, c1, rfl⟩ := hcs
    simp [Value.cells] at e0 e1
    obtain ⟨x, h0, _, wx⟩ := DataW.trod_int Try.underlying3 e0
    obtain ⟨y, h1, _, wy⟩ := DataW.trod_int Try.underlying3 e1
    simp at h0 h1
    subst h0 h1
    exact ⟨x, y, rfl, bounds_i64 wx, bounds_i64 wy⟩
set_option maxRecDepth 100000 in
theorem open_w2 (hok : Value.okWide Try.prog W .any base 37 v) (h : DataW.Trod enc Try.prog W 0 (fun _ => true) true 37 v d p) : ∃ x y, v = .agg #[.int .i64 x, .int .i64 y] ∧ I64 x ∧ I64 y := by
  simp only [Value.okWide, Try.underlying37] at hok
  obtain ⟨cs, rfl, hsz, _⟩ := hok
  rw [cells_w2] at hsz
  obtain ⟨fuel, hf⟩ := h
  obtain ⟨xs, m, _, _, _, hl, hel⟩ := DataW.trod_array Try.underlying37 hf
  have e0 := hel 0 (by omega)
  have e1 := hel 1 (by omega)
  rw [cells_wi] at e0 e1
  match xs, hl with
  | [x0, x1], _ =>
    have hcs : ∃ c0 c1, cs = #[c0, c1] := by
      rcases cs with ⟨l⟩
      match l, hsz with
      | [c0, c1], _ => exact ⟨c0, c1, rfl⟩
    obtain ⟨c0, c1, rfl⟩ := hcs
    simp [Value.cells] at e0 e1
    obtain ⟨x, h0, _, wx⟩ := DataW.trod_int Try.underlying2 e0
    obtain ⟨y, h1, _, wy⟩ := DataW.trod_int Try.underlying2 e1
    simp at h0 h1
    subst h0 h1
    exact ⟨x, y, rfl, bounds_i64 wx, bounds_i64 wy⟩
set_option maxRecDepth 100000 in
theorem open_w3 (hok : Value.okWide Try.prog W .any base 54 v) (h : DataW.Trod enc Try.prog W 0 (fun _ => true) true 54 v d p) : ∃ x y z, v = .agg #[.int .i64 x, .int .i64 y, .int .i64 z] ∧ I64 x ∧ I64 y ∧ I64 z := by
  simp only [Value.okWide, Try.underlying54] at hok
  obtain ⟨cs, rfl, hsz, _⟩ := hok
  rw [cells_w3] at hsz
  obtain ⟨fuel, hf⟩ := h
  obtain ⟨xs, m, _, _, _, hl, hel⟩ := DataW.trod_array Try.underlying54 hf
  have e0 := hel 0 (by omega)
  have e1 := hel 1 (by omega)
  have e2 := hel 2 (by omega)
  rw [cells_wi] at e0 e1 e2
  match xs, hl with
  | [x0, x1, x2], _ =>
    have hcs : ∃ c0 c1 c2, cs = #[c0, c1, c2] := by
      rcases cs with ⟨l⟩
      match l, hsz with
      | [c0, c1, c2], _ => exact ⟨c0, c1, c2, rfl⟩
    obtain ⟨c0, c1, c2, rfl⟩ := hcs
    simp [Value.cells] at e0 e1 e2
    obtain ⟨x, h0, _, wx⟩ := DataW.trod_int Try.underlying2 e0
    obtain ⟨y, h1, _, wy⟩ := DataW.trod_int Try.underlying2 e1
    obtain ⟨z, h2, _, wz⟩ := DataW.trod_int Try.underlying2 e2
    simp at h0 h1 h2
    subst h0 h1 h2
    exact ⟨x, y, z, rfl, bounds_i64 wx, bounds_i64 wy, bounds_i64 wz⟩
set_option maxRecDepth 100000 in
theorem open_yes (hok : Value.okWide Try.prog W .any base 4 v) (_h : DataW.Trod enc Try.prog W 0 (fun _ => true) true 4 v d p) : ∃ b, v = .bool b := okWide_bool Try.underlying4 hok
end
end Go.Proofs.Ytelpoocgmflofaa
