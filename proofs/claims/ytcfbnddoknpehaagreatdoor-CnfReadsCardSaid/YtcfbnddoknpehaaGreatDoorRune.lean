/- strings.IndexRune in a blank and a tabulator, of what is no ASCII. -/
import Derived.Test.YtcfbnddoknpehaaGreatDoorVar
import Derived.Test.YtcfbnddoknpehaaGreatDoorShelf
import Derived.Laws.RangeAny
import Derived.Laws.Runes
import Derived.Lib.OthersKept
import Derived.Deep.LoopGhost
import Derived.Shelf.Abstract
namespace Go.Proofs.YtcfbnddoknpehaaGreatDoor
open Go.RowKit Go.Shelf

/-- A blank and a tabulator. -/
def twoB : ByteArray := ⟨#[32, 9]⟩

theorem next0 (w : World) (ty : TypeId) : (Instr.next (.pointer (some ⟨w.heap.size, 0, none⟩)) true ty).run Tryz.prog (w.iter ⟨#[32, 9]⟩ 0) = .ok (.tuple #[.bool true, .int .i64 0, .int .i32 32]) (w.iter ⟨#[32, 9]⟩ 1) :=
  run_next_ascii (P := Tryz.prog) w ⟨#[32, 9]⟩ 0 ty (by decide) (by decide)
theorem next1 (w : World) (ty : TypeId) : (Instr.next (.pointer (some ⟨w.heap.size, 0, none⟩)) true ty).run Tryz.prog (w.iter ⟨#[32, 9]⟩ 1) = .ok (.tuple #[.bool true, .int .i64 1, .int .i32 9]) (w.iter ⟨#[32, 9]⟩ 2) :=
  run_next_ascii (P := Tryz.prog) w ⟨#[32, 9]⟩ 1 ty (by decide) (by decide)
theorem next2 (w : World) (ty : TypeId) : (Instr.next (.pointer (some ⟨w.heap.size, 0, none⟩)) true ty).run Tryz.prog (w.iter ⟨#[32, 9]⟩ 2) = .ok (.tuple #[.bool false]) (w.iter ⟨#[32, 9]⟩ 2) :=
  run_next_end (P := Tryz.prog) w ⟨#[32, 9]⟩ 2 ty (by decide)

set_option maxHeartbeats 1600000 in
set_option maxRecDepth 100000 in
theorem indexRune_bad (w : World) :
    Calls Tryz.prog 64 #[.string ⟨#[32, 9]⟩, .int .i32 65533] w fun e w' => e = .returned (.int .i64 (-1)) ∧ Below w.heap.size w w' := by
  have hn0 := next0 w
  have hn1 := next1 w
  have hn2 := next2 w
  go_enter Tryz.func64, Tryz.ntmps64
  go_wp2
  go_loopg [5, 6] 2 (fun g _ _ wx => ∃ i : Nat, i + g = 2 ∧ wx = w.iter ⟨#[32, 9]⟩ i)
  case atStart => exact ⟨0, rfl, rfl⟩
  case round =>
    obtain ⟨i, hig, rfl⟩ := hrel
    rcases (show (i = 0 ∧ gk = 2) ∨ (i = 1 ∧ gk = 1) ∨ (i = 2 ∧ gk = 0) by omega) with ⟨rfl, rfl⟩ | ⟨rfl, rfl⟩ | ⟨rfl, rfl⟩
    · clear hig
      go_wp2
      go_roundg 1
      case measure => omega
      case rel => exact ⟨1, rfl, rfl⟩
    · clear hig
      go_wp2
      go_roundg 0
      case measure => omega
      case rel => exact ⟨2, rfl, rfl⟩
    · clear hig
      go_wp2
      go_ret
      exact ⟨rfl, (Below.refl _ _).alloc (Nat.le_refl _) _⟩

theorem validR (r : Int) : Lib.validRune r = Utf8.valid r := by
  rw [validRune_eq]
  unfold Lib.validRune validRune
  simp

set_option maxHeartbeats 1600000 in
set_option maxRecDepth 100000 in
theorem indexRune_high (r : Int) (w : World) (h0 : 128 ≤ r) (h1 : r ≤ 2147483647) :
    Calls Tryz.prog 64 #[.string ⟨#[32, 9]⟩, .int .i32 r] w fun e w' => e = .returned (.int .i64 (-1)) ∧ Below w.heap.size w w' := by
  by_cases hb : r = 65533
  · subst hb; exact indexRune_bad w
  have hbb : (r == 65533) = false := by rw [beq_eq_false_iff_ne]; exact hb
  have hd : decide (r < 128) = false := by simp; omega
  have hnn : ¬ r < 0 := by omega
  have HV := Lib.hid (Any.utf8_ValidRune Tryz.lays119 r)
  cases hv : Utf8.valid r with
  | false =>
    have hv' : Lib.validRune r = false := by rw [validR, hv]
    clear hb
    go_enter Tryz.func64, Tryz.ntmps64
    go_wp2_with (go_at_call 83; refine (HV.out _).mono ?_; rintro e w' ⟨rfl, rfl⟩; rw [hv'])
    all_goals first
      | (exfalso; omega)
      | (go_ret; exact ⟨rfl, Below.refl _ _⟩)
  | true =>
    have hv' : Lib.validRune r = true := by rw [validR, hv]
    obtain ⟨g1, g2, g3⟩ := encode_facts r hv h0
    have HI := Lib.hid (fun s c w => Any.strings_IndexByte Tryz.lays137 s c w)
    clear hb hv
    by_cases hsz : (Utf8.encode r).size = 2
    · have hlast : 128 ≤ ((Utf8.encode r)[1]'(by omega)).toNat := by
        have := g3 (by omega)
        simpa [hsz] using this
      have hn9 : ((((⟨#[32, 9]⟩ : ByteArray)[1]'(by decide)).toNat : Int) != (((Utf8.encode r)[1]'(by omega)).toNat : Int)) = true := by
        have h9 : ((⟨#[32, 9]⟩ : ByteArray)[1]'(by decide)).toNat = 9 := rfl
        rw [bne_iff_ne]; omega
      have hs2 : ((Utf8.encode r).size : Int) - 1 = 1 := by omega
      clear g3 g1 g2
      go_enter Tryz.func64, Tryz.ntmps64
      go_wp2_with (go_at_call 83; refine (HV.out _).mono ?_; rintro e w' ⟨rfl, rfl⟩; rw [hv'])
      all_goals first
        | (exfalso; omega)
        | skip
      go_step3
      go_wp2
      refine wp_loop_rounds 1 ?_
      rw [rounds_succ]
      go_wp2
      go_step3
      go_wp2
      go_quiet (fail)
      go_wp2
      have HB1 := Lib.hid (below_drewN (Below.refl w'.heap.size w') nq)
      generalize w'.drewN nq = W1 at *
      go_quiet ((go_at_call 82; exact Calls.quiet_of_same (HI.out _ _ _)))
      go_wp2
      rw [Exit.noGoto_ret]
      go_wp2
      rw [Exit.noGoto_ret]
      go_ret
      exact ⟨rfl, below_drewN HB1.out _⟩
    · have hge : 2 ≤ ((Utf8.encode r).size : Int) - 1 := by omega
      have hle : ((Utf8.encode r).size : Int) ≤ 4 := by omega
      clear g3 g1 g2 HI hsz
      go_enter Tryz.func64, Tryz.ntmps64
      go_wp2_with (go_at_call 83; refine (HV.out _).mono ?_; rintro e w' ⟨rfl, rfl⟩; rw [hv'])
      all_goals first
        | (exfalso; omega)
        | skip
      go_step3
      go_wp2
      refine wp_loop_rounds 1 ?_
      rw [rounds_succ]
      go_wp2
      rw [Exit.noGoto_ret]
      go_ret
      exact ⟨rfl, Below.refl _ _⟩
end Go.Proofs.YtcfbnddoknpehaaGreatDoor
