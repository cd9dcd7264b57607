/- The contract of slices.Delete at an engine's levels: those behind the i-th are taken off. -/
import Derived.Test.YtkckodpfhlpkgaaGreatRowV
import Derived.Lib.SliceRun
import Derived.Deep.RegionLaw
import Derived.Shelf.RegionOpenPlain
namespace Go.Proofs.YtkckodpfhlpkgaaGreat
open Go.RowKit

/-- Cells of a row that are written, all behind the first m. -/
theorem RowV.cells_put {T : TypeId} {k g n c m : Nat} : ∀ (l : List Value) (o : Nat) (w : World) (f : Nat → Value), RowV T k w g n c f → o + l.length ≤ n * k → m ≤ o → ∃ f', RowV T k (w.setCells g o l) g n c f' ∧ (∀ j, j < m → f' j = f j) ∧ Kf (fun x => x = g) w (w.setCells g o l)
  | [], o, w, f, h, _, _ => ⟨f, h, fun _ _ => rfl, Kf.refl _ _⟩
  | v :: l, o, w, f, h, hl, hm => by
    simp only [List.length_cons] at hl
    obtain ⟨f', h1, h2, h3⟩ := RowV.cells_put (m := m) l (o + 1) (w.setCell ⟨g, o, none⟩ v) _ (h.set (show o < n * k by omega) v) (by omega) (by omega)
    refine ⟨f', h1, fun j hj => ?_, ((Kf.refl (fun x => x = g) w).set (p := ⟨g, o, none⟩) (.inl rfl) v).trans h3 (fun x hx => .inl hx)⟩
    rw [h2 j hj, updV_ne _ _ (by omega)]
theorem zero_level (w : World) : (zeroValue 91).run Tryz.prog w = .ok (.agg #[.int .i64 0, .slice none 0 0]) w := by kernel_rfl
/-- clear of the levels from the i-th on. -/
theorem run_clear_level {w : World} {g n c i : Nat} {f : Nat → Value} (h : RowV 91 2 w g n c f) (hi : i < n) (cc : Nat) (ty : TypeId) :
    ∃ w', (Builtin.clear_ #[79] ty #[.slice (some ⟨g, i * 2, none⟩) (n - i) cc]).run Tryz.prog w = .ok (.tuple #[]) w' ∧ RowV 91 2 w' g i c f ∧ Kf (fun k => k = g) w w' := by
  obtain ⟨l, hl⟩ : ∃ l, l = (Builtin.zeroCells (Value.agg #[.int .i64 0, .slice none 0 0]).cells (n - i)).toList := ⟨_, rfl⟩
  have hz : (Value.agg #[.int .i64 0, .slice none 0 0]).cells = #[.int .i64 0, .slice none 0 0] := by rfl
  have hlen : l.length = (n - i) * 2 := by rw [hl, hz]; simp [Builtin.zeroCells]
  have h1 : ∀ v ∈ l, v.oneCell' = true := by
    intro v hv
    rw [hl, hz] at hv
    simp [Builtin.zeroCells] at hv
    obtain ⟨a, _, rfl⟩ := hv
    rcases (show a % 2 = 0 ∨ a % 2 = 1 by omega) with e | e <;> rw [e] <;> rfl
  have hst := run_storeCells_cells (P := Tryz.prog) g (i * 2) l 0 w (fun j hj => by
    have := h.cell (show i * 2 + j < n * 2 by omega)
    rw [Nat.add_zero, this]; rfl) (fun j hj => h.free _) h1
  rw [Nat.add_zero] at hst
  obtain ⟨f', q1, q2, q3⟩ := RowV.cells_put (m := i * 2) l (i * 2) w f h (by omega) (Nat.le_refl _)
  refine ⟨_, ?_, (q1.less (show i ≤ n by omega)).congr (fun j hj => (q2 j hj).symm), q3⟩
  obtain ⟨m, hm⟩ : ∃ m, n - i = m + 1 := ⟨n - i - 1, by omega⟩
  rw [hm] at hl ⊢
  have hu : Tryz.prog.underlying 79 = some (.slice 91) := Tryz.underlying79
  rw [hl] at hst ⊢
  simp [Builtin.clear_, run_underlying hu, zero_level w, hst]
set_option maxHeartbeats 3200000 in
set_option maxRecDepth 100000 in
theorem delete_lv {w : World} {g n c i : Nat} {f : Nat → Value} (h : RowV 91 2 w g n c f) (hi : i < n) :
    Calls Tryz.prog 44 #[.slice (some ⟨g, 0, none⟩) n c, .int .i64 (i : Int), .int .i64 (n : Int)] w fun e w' => e = .returned (.slice (some ⟨g, 0, none⟩) i c) ∧ RowV 91 2 w' g i c f ∧ Kf (fun k => k = g) w w' := by
  have hc := h.bd
  obtain ⟨hc1, hc2⟩ := hc
  have heq : ((i : Int) == (n : Int)) = false := by rw [beq_eq_false_iff_ne]; omega
  have heq2 : (i == n) = false := by rw [beq_eq_false_iff_ne]; omega
  obtain ⟨W1, hW0⟩ : ∃ W1, W1 = w.drew.setCells g (0 + i * 2) [] := ⟨_, rfl⟩
  have hW := Lib.hid hW0
  have hW1 : W1 = w.drew := hW0
  obtain ⟨w', q1, q2, q3⟩ : ∃ w', (∀ ty, (Builtin.clear_ #[79] ty #[.slice (some ⟨g, i * 2, none⟩) (n - i) (c - i)]).run Tryz.prog W1 = .ok (.tuple #[]) w') ∧ RowV 91 2 w' g i c f ∧ Kf (fun k => k = g) w.drew w' := by
    rw [hW1]
    obtain ⟨w', q1, q2, q3⟩ := run_clear_level (w := w.drew) (h.same rfl) hi (c - i) 0
    exact ⟨w', fun ty => by have := q1; exact this, q2, q3⟩
  have HQ := Lib.hid (show _ ∧ _ from ⟨q2, ((Kf.refl (fun k => k = g) w).drew).trans q3 (fun x hx => .inl hx)⟩)
  obtain ⟨i0, hi0, hz0, hz1, hz2⟩ := info_parts (show (Tryz.prog.info? 91).map (fun i => (i.zero, i.size, i.bytes)) = some (some (.agg #[.int .i64 0, .slice none 0 0]), 2, 32) by kernel_rfl)
  have hsrc : ∃ A : Addr, (if c = n then (some ⟨g, 0, none⟩ : Option Addr) else some ⟨g, n * 2, none⟩) = some A := by
    by_cases e : c = n
    · exact ⟨_, if_pos e⟩
    · exact ⟨_, if_neg e⟩
  obtain ⟨A, hA⟩ := hsrc
  clear h q2 q3 hW0 hW1
  have hic : i ≤ c := by omega
  have mixed : Tryz.prog.follows Departure.mixedOrders = true := by kernel_rfl
  go_enter Tryz.func44, Tryz.ntmps44
  go_wp2_with fail
  go_region_law_o (refine step_append_room rfl (.tmp 22) (.tmp 25) 79 rfl 91 i0 2 Tryz.underlying79 hi0 hz1 g 0 i c (by simp [Act.eval, Act.put]) A 0 (c - n) [] (by simp [Act.eval, Act.put]) (by simp) (by simp) (by simp) (by omega) (by simp) ?_; rw [← hW.out])
  go_wp2_with fail
  go_ret
  exact ⟨rfl, HQ.out.1, HQ.out.2⟩
end Go.Proofs.YtkckodpfhlpkgaaGreat
