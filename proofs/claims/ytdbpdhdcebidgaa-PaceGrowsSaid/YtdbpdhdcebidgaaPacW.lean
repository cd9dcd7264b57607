/- What the laws of layer 7 share: the options that came in, the plain answer's Luby. -/
import Derived.Test.YtdbpdhdcebidgaaPacP
import Derived.Test.YtdbpdhdcebidgaaRows
import Derived.ProofKit
import Derived.OpenShut
import Derived.ChangeSame
import Derived.Deep.DeepCutAuto
namespace Go.Proofs.Ytdbpdhdcebidgaa
open Go.ChangeShapes Go.WideShapes Go.ChangeAt Go.RowKit PacM

theorem own_knob : ownKnob Try.prog.godebug = none := by kernel_rfl
theorem laid_out : laidOutB Try.prog = true := by kernel_rfl
theorem i64_of {n : Int} (h : (Lit.int .i64 n).wf = true) : -9223372036854775808 ≤ n ∧ n ≤ 9223372036854775807 := by
  simpa [Lit.wf, IntKind.min, IntKind.max, IntKind.bits, IntKind.signed] using h
theorem u64_of {n : Int} (h : (Lit.int .u64 n).wf = true) : 0 ≤ n ∧ n ≤ 18446744073709551615 := by
  simpa [Lit.wf, IntKind.min, IntKind.max, IntKind.bits, IntKind.signed] using h
theorem cells_opt : Try.prog.cellsOf 32 = 3 := by kernel_rfl
theorem cells_int : Try.prog.cellsOf 3 = 1 := by kernel_rfl
theorem cells_u64 : Try.prog.cellsOf 26 = 1 := by kernel_rfl
/-- The options that came in. -/
theorem open_opts {H : Type} {enc : TypeId × Value → H} {W : World} {base : Nat} {v : Value} {d : DataW H} {p : List MemPlace} (hok : Value.okWide Try.prog W .any base 32 v)
    (h : DataW.Trod enc Try.prog W 0 (fun _ => true) true 32 v d p) :
    ∃ sd u r, v = .agg #[.int .u64 sd, .int .i64 u, .int .i64 r] := by
  simp only [Value.okWide, Try.underlying32] at hok
  obtain ⟨cs, rfl, hsz, _⟩ := hok
  rw [cells_opt] at hsz
  obtain ⟨fuel, hf⟩ := h
  obtain ⟨xs, m, _, _, _, hl, hel⟩ := DataW.trod_struct Try.underlying32 hf
  have e0 := hel 0 _ rfl
  have e1 := hel 1 _ rfl
  have e2 := hel 2 _ rfl
  simp only [List.getElem_toArray, List.getElem_cons_zero, List.getElem_cons_succ] at e0 e1 e2
  rw [cells_u64] at e0
  rw [cells_int] at e1 e2
  match xs, hl with
  | [x0, x1, x2], _ =>
    have hcs : ∃ c0 c1 c2, cs = #[c0, c1, c2] := by
      rcases cs with ⟨l⟩
      match l, hsz with
      | [c0, c1, c2], _ => exact ⟨c0, c1, c2, rfl⟩
    obtain ⟨c0, c1, c2, rfl⟩ := hcs
    simp [Value.cells] at e0 e1 e2
    obtain ⟨x, h0, _, _⟩ := DataW.trod_int Try.underlying26 e0
    obtain ⟨y, h1, _, _⟩ := DataW.trod_int Try.underlying3 e1
    obtain ⟨z, h2, _, _⟩ := DataW.trod_int Try.underlying3 e2
    simp at h0 h1 h2
    subst h0 h1 h2
    exact ⟨x, y, z, rfl⟩
set_option maxHeartbeats 1600000 in
set_option maxRecDepth 100000 in
/-- The plain answer's Luby. -/
theorem rluby_any (i : Int) (w : World) (h : ¬ (5000 < i ∧ i ≤ 1048576)) : Calls Try.prog 12 #[.int .i64 i] w fun e w' => e = .returned (if 1 ≤ i ∧ i ≤ 1048576 then .tuple #[.int .i64 (lub i.toNat), .int .i64 0] else .tuple #[.int .i64 0, .int .i64 71]) ∧ Below w.heap.size w w' := by
  by_cases h1 : i < 1
  · rw [if_neg (by omega)]
    go_enter Try.func12, Try.ntmps12
    go_wp2_with fail
    go_ret2
    exact ⟨rfl, Below.refl _ _⟩
  by_cases h2 : 1048576 < i
  · rw [if_neg (by omega)]
    have t1 : decide (i < 1) = false := decide_eq_false h1
    go_enter Try.func12, Try.ntmps12
    go_wp2_with fail
    go_ret2
    exact ⟨rfl, Below.refl _ _⟩
  rw [if_pos (by omega)]
  obtain ⟨n, rfl⟩ := Int.eq_ofNat_of_zero_le (show 0 ≤ i by omega)
  rw [Int.toNat_natCast]
  have hn1 : 1 ≤ n := by omega
  have hn2 : n ≤ 5000 := by omega
  have H := Lib.hid (row_any n w hn2)
  have t1 : decide ((n : Int) < 1) = false := decide_eq_false h1
  have t2 : decide (1048576 < (n : Int)) = false := decide_eq_false h2
  clear h h1 h2
  have HLZ : Hid (∀ W g m c, RowV 3 1 W g m c rowF → n ≤ m → W.cell? ⟨g, n - 1, none⟩ = some (.int .i64 (lub n))) := fun W g m c hR hm1 => by
    rw [hR.cell (show n - 1 < m * 1 by omega)]
    unfold rowF
    rw [show n - 1 + 1 = n by omega]
  generalize lub n = lz at *
  go_enter Try.func12, Try.ntmps12
  go_wp2_with fail
  refine H.out.mono ?_
  rintro e w1 ⟨g, m, c, rfl, hm1, hm2, hg, hR, hB⟩
  have hcl := HLZ.out w1 g m c hR hm1
  have hbd := hR.bd
  obtain ⟨hbd1, hbd2⟩ := hbd
  have HB := Lib.hid hB
  clear hR hB H hg HLZ
  go_wp2_with fail
  go_ret2
  exact ⟨rfl, HB.out⟩
theorem due_eq (u : Int) (n s : Nat) (hn : n ≤ 100000) : due u n s = decide (u * (lub (n + 1) : Int) ≤ (s : Int) + 1) := by
  unfold due
  rw [show (min (max ((n : Int) + 1) 1) 1048576).toNat = n + 1 by omega]
end Go.Proofs.Ytdbpdhdcebidgaa
