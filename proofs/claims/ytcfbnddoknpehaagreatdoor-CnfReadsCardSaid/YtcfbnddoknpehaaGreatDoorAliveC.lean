/- The chapter's example comes out as it stands there: cnfAlive is true. -/
import Derived.Test.YtcfbnddoknpehaaGreatDoorRead
import Derived.Test.YtcfbnddoknpehaaGreatDoorWrite
import Derived.Test.YtcfbnddoknpehaaGreatDoorFalse
namespace Go.Proofs.YtcfbnddoknpehaaGreatDoor
open Go.RowKit Go.Shelf Go.Lib Words CnfP LitM

/-- The chapter's example. -/
def exT : List UInt8 := [112, 32, 99, 110, 102, 32, 50, 32, 49, 10, 49, 32, 45, 50, 32, 48, 10]
theorem ex_form : formulaOf (wordsL exT) = some (2, [[1, -2]]) := by decide +kernel
theorem ex_text : formulaT 2 [[1, -2]] = exT := by
  simp [formulaT, headT, clauseT, litsT, litT, Lib.itoa, Lib.decDigits_one, exT]
theorem ex_right : rightF 2 [[1, -2]] = true := by decide
theorem ex_ok : Ok32 [[1, -2]] := Ok32.of fun c hc => by
  simp at hc
  subst hc
  exact ⟨by simp, In32.of fun x hx => by simp at hx; omega⟩

theorem RdB.new (w : World) (T : TypeId) (cs : Array Value) (n : Nat) (bs : List Bool) (hn : bs.length = n) (hc : cs = (bs.map Value.bool).toArray) :
    RdB (w.alloc (.cells cs T)) (w.alloc (.cells cs T)).heap.size (some ⟨w.heap.size, 0, none⟩) n bs := by
  refine ⟨hn, fun _ => ⟨w.heap.size, 0, rfl, by simp, fun j hj => ?_⟩⟩
  rw [World.cell?_alloc_at _ _ _ _ rfl, hc]
  simp only [Nat.zero_add]
  rw [List.getElem?_toArray, List.getElem?_map, List.getElem?_eq_getElem (by omega)]
  simp [List.getD, List.getElem?_eq_getElem (show j < bs.length by omega)]
theorem below_alloc (w : World) (o : Obj) : Below w.heap.size w (w.alloc o) := (Below.refl _ _).alloc (Nat.le_refl _) _

set_option maxHeartbeats 3200000 in
set_option maxRecDepth 100000 in
theorem alive_any (w : World) (hl : LibAt w) (hw : 8 ≤ w.heap.size) : Calls Tryz.prog 5 #[] w fun e w' => e = .returned (.bool true) ∧ Below w.heap.size w w' := by
  have HRD := Lib.hid (read_any exT w hl hw (by decide))
  have HLA : Hid (∀ W, Below w.heap.size w W → LibAt W) := fun W hb => hl.below hb hw
  clear hl
  go_enter Tryz.func5, Tryz.ntmps5
  go_wp2_with fail
  refine HRD.out.mono ?_
  rintro e w1 ⟨hB1, (⟨v, cs, A, n, c, hf, rfl, hR⟩ | ⟨hf, rfl⟩)⟩
  case inr => rw [ex_form] at hf; cases hf
  rw [ex_form] at hf
  injection hf with hf
  injection hf with hf1 hf2
  subst hf1; subst hf2
  have hn := hR.len
  obtain rfl : 1 = n := hn
  have HR := Lib.hid hR
  have hs1 := hB1.size
  have HB1 := Lib.hid hB1
  clear hR hB1 HRD
  have hal := below_alloc w1 (.cells #[.int .i64 2, .slice A 1 c] 24)
  have HW := Lib.hid (write_yes 2 A 1 c [[1, -2]] (w1.alloc (.cells #[.int .i64 2, .slice A 1 c] 24)) (HLA.out _ (HB1.out.trans (hal.mono hs1))) (by simp; omega) ((HR.out.below hal).more hal.size) ex_ok (by omega) (by omega) (by omega) ex_right)
  rw [ex_text] at HW
  have HAL := Lib.hid hal
  clear hal
  go_wp2_with fail
  refine HW.out.mono ?_
  rintro e w2 ⟨rfl, hB2⟩
  have hsz : (w1.alloc (.cells #[.int .i64 2, .slice A 1 c] 24)).heap.size = w1.heap.size + 1 := by simp
  have hd0 : ∀ W, Below (w1.heap.size + 1) w2 W → W.cell? ⟨w1.heap.size, 0, none⟩ = some (.int .i64 2) ∧ W.cell? ⟨w1.heap.size, 1, none⟩ = some (.slice A 1 c) := fun W hW => by
    rw [hW.cell (p := ⟨w1.heap.size, 0, none⟩) (by simp), hW.cell (p := ⟨w1.heap.size, 1, none⟩) (by simp)]
    rw [hB2.cell (p := ⟨w1.heap.size, 0, none⟩) (by rw [hsz]; simp), hB2.cell (p := ⟨w1.heap.size, 1, none⟩) (by rw [hsz]; simp)]
    simp
  have HD := Lib.hid hd0
  have hs2 : w1.heap.size + 1 ≤ w2.heap.size := by have := hB2.size; omega
  have HR2 : Hid (RdF w2 w1.heap.size A 1 [[1, -2]]) := (HR.out.below HAL.out).below (hB2.mono (by rw [hsz]; omega))
  have HB2 : Hid (Below w1.heap.size w1 w2) := HAL.out.trans (hB2.mono (by rw [hsz]; omega))
  obtain ⟨hc0, hc1⟩ := hd0 w2 (Below.refl _ _)
  clear hd0 hB2 hsz HW
  rw [show exT.toArray = #[112, 32, 99, 110, 102, 32, 50, 32, 49, 10, 49, 32, 45, 50, 32, 48, 10] from rfl]
  have hal3 := below_alloc w2 (.cells #[.bool false, .bool true] 4)
  have HH1 := Lib.hid (holdsF_any 2 A 1 c [[1, -2]] (some ⟨w2.heap.size, 0, none⟩) 2 2 [false, true] (w2.alloc (.cells #[.bool false, .bool true] 4)) ((HR2.out.below (hal3.mono (by omega))).more (by simp; omega)) ex_ok (by omega) (by omega) (by omega) (RdB.new w2 4 _ 2 [false, true] rfl rfl) (by omega))
  rw [show holdsV 2 [[1, -2]] [false, true] = false from by decide, show falseE 2 [[1, -2]] [false, true] = 0 from by decide] at HH1
  have HAL3 := Lib.hid hal3
  clear hal3
  go_wp2_with fail
  refine HH1.out.mono ?_
  rintro e w3 ⟨rfl, hB3⟩
  have HB3 : Hid (Below w2.heap.size w2 w3) := HAL3.out.trans (hB3.mono (by simp))
  have hs3 := HB3.out.size
  obtain ⟨hc0', hc1'⟩ := HD.out w3 (HB3.out.mono hs2)
  clear hB3 HH1 hc0 hc1
  have hal4 := below_alloc w3 (.cells #[.bool false, .bool false] 4)
  have HH2 := Lib.hid (holdsF_any 2 A 1 c [[1, -2]] (some ⟨w3.heap.size, 0, none⟩) 2 2 [false, false] (w3.alloc (.cells #[.bool false, .bool false] 4)) (((HR2.out.below (HB3.out.mono (by omega))).below (hal4.mono (by omega))).more (by simp; omega)) ex_ok (by omega) (by omega) (by omega) (RdB.new w3 4 _ 2 [false, false] rfl rfl) (by omega))
  rw [show holdsV 2 [[1, -2]] [false, false] = true from by decide, show falseE 2 [[1, -2]] [false, false] = 0 from by decide] at HH2
  have HAL4 := Lib.hid hal4
  clear hal4
  go_wp2_with fail
  refine HH2.out.mono ?_
  rintro e w4 ⟨rfl, hB4⟩
  have HB4 : Hid (Below w3.heap.size w3 w4) := HAL4.out.trans (hB4.mono (by simp))
  clear hB4
  go_wp2_with fail
  go_ret
  exact ⟨rfl, HB1.out.trans ((HB2.out.trans ((HB3.out.trans (HB4.out.mono hs3)).mono (by omega))).mono hs1)⟩
end Go.Proofs.YtcfbnddoknpehaaGreatDoor
