/- Nothing follows of no clauses: the contracts of Close and Follows there. -/
import Derived.Test.YtaalaekiblifpaaLrnW
namespace Go.Proofs.Ytaalaekiblifpaa
open Go.RowKit LitM TrailM EngM

theorem close_nil (g n c : Nat) (w : World) : Calls Try.prog 67 #[.slice (some ⟨g, 0, none⟩) n c, .slice none 0 0] w fun e w' => e = .returned (.tuple #[.slice (some ⟨g, 0, none⟩) n c, .bool false]) ∧ w = w' := by
  go_enter Try.func67, Try.ntmps67
  go_wp2_with fail
  refine wp_loop_rounds 2 ?_
  rw [rounds_succ]
  go_wp2_with fail
  refine wp_loop_rounds 1 ?_
  rw [rounds_succ]
  go_wp2_with fail
  rw [rounds_succ]
  go_wp2_with fail
  go_ret2
  exact ⟨rfl, rfl⟩
theorem follows_nil (N : Nat) (hN : N ≤ 1000) (w : World) : Calls Try.prog 35 #[.int .i64 (N : Int), .slice none 0 0, .slice none 0 0] w fun e w' => e = .returned (.bool false) ∧ Below w.heap.size w w' := by
  obtain ⟨C, c1, c2, hm⟩ := make_sl (P := Try.prog) 72 3 Try.underlying72 info_tint rfl (by decide) (by decide) (N + 1) (by omega)
  have hm' : ∀ w : World, (Instr.makeSlice 72 (.int .i64 ((N : Int) + 1)) (.int .i64 ((N : Int) + 1))).run Try.prog w = .ok (.slice (some ⟨w.heap.size, 0, none⟩) (N + 1) (N + 1)) (w.alloc (.cells C 3)) := by
    intro w
    have := hm w
    rw [show (((N + 1 : Nat)) : Int) = (N : Int) + 1 by omega] at this
    exact this
  clear hm c1 c2
  go_enter Try.func35, Try.ntmps35
  go_wp2_with fail
  refine wp_loop_rounds 1 ?_
  rw [rounds_succ]
  go_wp2_with fail
  refine (close_nil _ _ _ _).mono ?_
  rintro e w' ⟨rfl, rfl⟩
  go_wp2_with fail
  go_ret
  exact ⟨rfl, (Below.refl _ _).alloc (Nat.le_refl _) _⟩
end Go.Proofs.Ytaalaekiblifpaa
