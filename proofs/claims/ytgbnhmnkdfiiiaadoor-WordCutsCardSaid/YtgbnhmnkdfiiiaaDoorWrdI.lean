/- The laws' wordAlive. -/
import Derived.Test.YtgbnhmnkdfiiiaaDoorWrdH
namespace Go.Proofs.YtgbnhmnkdfiiiaaDoor
open Go.RowKit WrdM

theorem cut_ex : cutL [120, 58, 61, 49] = .ok [⟨1, [120], 0, 1, 1⟩, ⟨3, [58, 61], 0, 1, 2⟩, ⟨2, [49], 1, 1, 4⟩, ⟨5, [], 0, 1, 5⟩] := by kernel_rfl
theorem row_cell {W : World} {A : Option Addr} {c : Nat} {ts : List Tok} (h : SlV 33 5 W A ts.length c (tkF ts)) (hn : 0 < ts.length) : ∃ g, A = some ⟨g, 0, none⟩ ∧ g < W.heap.size ∧ ∀ j, j < ts.length * 5 → W.cell? ⟨g, j, none⟩ = some (tkF ts j) := by
  obtain ⟨g, hA, hr⟩ := h.row hn
  exact ⟨g, hA, hr.lt, fun j hj => hr.cell hj⟩
set_option maxHeartbeats 1600000 in
set_option maxRecDepth 100000 in
theorem alive_any (w : World) (h : SgnAt w) (hw : 0 < w.heap.size) :
    Calls Tryd.prog 9 #[] w fun e w' => e = .returned (.bool true) ∧ Below w.heap.size w w' := by
  have HC := Lib.hid (cut_any [120, 58, 61, 49] w h hw (by decide))
  rw [cut_ex] at HC
  clear h
  go_enter Tryd.func9, Tryd.ntmps9
  go_wp2_with fail
  refine HC.out.mono ?_
  rintro e w1 ⟨A, c, rfl, hS, hN, hB⟩
  obtain ⟨g, rfl, hgl, hcell⟩ := row_cell hS (by decide)
  have hal := below_alloc w1 (.cells #[.int .i64 0, .int .i64 0, .int .i64 0] 25)
  have hg : ∀ j, j < 20 → (w1.alloc (.cells #[.int .i64 0, .int .i64 0, .int .i64 0] 25)).cell? ⟨g, j, none⟩ = some (tkF [⟨1, [120], 0, 1, 1⟩, ⟨3, [58, 61], 0, 1, 2⟩, ⟨2, [49], 1, 1, 4⟩, ⟨5, [], 0, 1, 5⟩] j) := fun j hj => by
    rw [hal.cell (p := ⟨g, j, none⟩) hgl]; exact hcell j hj
  have c6 : (w1.alloc (.cells #[.int .i64 0, .int .i64 0, .int .i64 0] 25)).cell? ⟨g, 6, none⟩ = some (.string ⟨#[58, 61]⟩) := hg 6 (by decide)
  have c12 : (w1.alloc (.cells #[.int .i64 0, .int .i64 0, .int .i64 0] 25)).cell? ⟨g, 12, none⟩ = some (.int .i64 1) := hg 12 (by decide)
  have c15 : (w1.alloc (.cells #[.int .i64 0, .int .i64 0, .int .i64 0] 25)).cell? ⟨g, 15, none⟩ = some (.int .i64 5) := hg 15 (by decide)
  have c16 : (w1.alloc (.cells #[.int .i64 0, .int .i64 0, .int .i64 0] 25)).cell? ⟨g, 16, none⟩ = some (.string ⟨#[]⟩) := hg 16 (by decide)
  have c17 : (w1.alloc (.cells #[.int .i64 0, .int .i64 0, .int .i64 0] 25)).cell? ⟨g, 17, none⟩ = some (.int .i64 0) := hg 17 (by decide)
  have c18 : (w1.alloc (.cells #[.int .i64 0, .int .i64 0, .int .i64 0] 25)).cell? ⟨g, 18, none⟩ = some (.int .i64 1) := hg 18 (by decide)
  have c19 : (w1.alloc (.cells #[.int .i64 0, .int .i64 0, .int .i64 0] 25)).cell? ⟨g, 19, none⟩ = some (.int .i64 5) := hg 19 (by decide)
  have HB := Lib.hid (hB.trans (hal.mono hB.size))
  clear hS hN hB hg hal hcell
  go_wp2_with fail
  go_ret
  exact ⟨rfl, HB.out⟩
end Go.Proofs.YtgbnhmnkdfiiiaaDoor
