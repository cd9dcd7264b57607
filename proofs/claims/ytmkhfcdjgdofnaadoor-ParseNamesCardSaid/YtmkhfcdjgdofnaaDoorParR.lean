/- The law's own: parseAlive; the walk of ParseFaults. -/
import Derived.Test.YtmkhfcdjgdofnaaDoorParQ
import Derived.Test.YtmkhfcdjgdofnaaDoorTrfF
namespace Go.Proofs.YtmkhfcdjgdofnaaDoor
open Go.RowKit TreM WrdM ParM

def exT : List UInt8 := [97, 32, 43, 32, 98, 32, 42, 32, 50, 32, 61, 32, 99, 32, 38, 32, 33, 100]
def exW : List UInt8 := [40, 40, 97, 32, 43, 32, 40, 98, 32, 42, 32, 50, 41, 41, 32, 61, 32, 99, 41, 32, 38, 32, 40, 33, 100, 41]
theorem ex_ans : ∃ X, exprA exT = .ok X ∧ writB X = true ∧ text X = exW := by
  have h := alive_text
  change (match exprA exT with | .ok x => writB x && (text x == exW) | .bad .. => false) = true at h
  cases he : exprA exT with
  | bad e l c => rw [he] at h; cases h
  | ok X =>
    rw [he] at h
    dsimp only at h
    rw [Bool.and_eq_true, beq_iff_eq] at h
    exact ⟨X, rfl, h.1, h.2⟩
theorem writ_size {X : Ex} (h : writB X = true) : size X ≤ 4611686018427387904 := by
  unfold writB at h
  rw [Bool.and_eq_true] at h
  have := right_size h.1
  omega
theorem pwrit_shape {X : Ex} (h : writB X = true) : TreM.shape X = true := by
  unfold writB rightB at h
  rw [Bool.and_eq_true, Bool.and_eq_true] at h
  exact h.1.2

set_option maxHeartbeats 3200000 in
set_option maxRecDepth 100000 in
theorem palive_any (w : World) (hG : PrG w) : Calls Tryd.prog 8 #[] w fun e w' => e = .returned (.bool true) ∧ Below w.heap.size w w' := by
  obtain ⟨X, hX, hwr, htx⟩ := ex_ans
  have hC := exprA_any exT (by decide) w hG
  rw [hX] at hC
  have HC : Hid (Calls Tryd.prog 6 #[.string ⟨#[97, 32, 43, 32, 98, 32, 42, 32, 50, 32, 61, 32, 99, 32, 38, 32, 33, 100]⟩] w (AnsE (.ok X) w)) := hC
  have HW : Hid (∀ (v : Value) (W : World), ExV W X v → Calls Tryd.prog 10 #[v] W fun e w' => e = .returned (.bool true) ∧ Below W.heap.size W w') := fun v W h => by
    have := pwritable_any X v W h (writ_size hwr)
    rw [hwr] at this; exact this
  have HT : Hid (∀ (v : Value) (W : World), ExV W X v → Calls Tryd.prog 16 #[v] W fun e w' => e = .returned (.string ⟨exW.toArray⟩) ∧ Below W.heap.size W w') := fun v W h => by
    have := ptext_any X (pwrit_shape hwr) (by rw [htx]; decide) v W h
    rw [htx] at this; exact this
  clear hC hX hwr htx hG
  obtain ⟨eb, heb⟩ : ∃ eb : ByteArray, eb = ⟨exW.toArray⟩ := ⟨_, rfl⟩
  have hcmp : (eb.toList == [40, 40, 97, 32, 43, 32, 40, 98, 32, 42, 32, 50, 41, 41, 32, 61, 32, 99, 41, 32, 38, 32, 40, 33, 100, 41]) = true := by rw [heb, Lib.toList_data]; rfl
  rw [← heb] at HT
  clear heb
  go_enter Tryd.func8, Tryd.ntmps8
  go_wp2_with fail
  refine HC.out.mono ?_
  rintro e w1 ⟨v, rfl, hv, hb1⟩
  obtain ⟨vo, vn, vs, va, vm, vk, vl, vc, rfl⟩ := exv_form hv.val
  obtain ⟨wb, hwb⟩ : ∃ wb, wb = (w1.alloc (.cells #[.int .i64 vo, .int .i64 vn, .string vs, .slice va vm vk, .int .i64 vl, .int .i64 vc] 24)).alloc (.cells #[.int .i64 0, .int .i64 0, .int .i64 0] 27) := ⟨_, rfl⟩
  have hbb : Below w1.heap.size w1 wb := by rw [hwb]; exact (below_alloc w1 _).alloc (by simp) _
  have hxn : wb.heap[w1.heap.size]? = some (.cells #[.int .i64 vo, .int .i64 vn, .string vs, .slice va vm vk, .int .i64 vl, .int .i64 vc] 24 (0, 0)) := by rw [hwb, Lib.alloc_old _ _ _ (by simp)]; exact blk_new w1 _
  have hfn : wb.heap[w1.heap.size + 1]? = some (.cells #[.int .i64 0, .int .i64 0, .int .i64 0] 27 (0, 0)) := by
    rw [hwb]
    have := blk_new (w1.alloc (.cells #[.int .i64 vo, .int .i64 vn, .string vs, .slice va vm vk, .int .i64 vl, .int .i64 vc] 24)) (.cells #[.int .i64 0, .int .i64 0, .int .i64 0] 27)
    rwa [show (w1.alloc (.cells #[.int .i64 vo, .int .i64 vn, .string vs, .slice va vm vk, .int .i64 vl, .int .i64 vc] 24)).heap.size = w1.heap.size + 1 by simp] at this
  have hvb := hv.val.below hbb
  have HW1 := Lib.hid (HW.out _ wb hvb)
  have HTX : Hid (∀ W, Below wb.heap.size wb W → Calls Tryd.prog 16 #[.agg #[.int .i64 vo, .int .i64 vn, .string vs, .slice va vm vk, .int .i64 vl, .int .i64 vc]] W fun e w' => e = .returned (.string eb) ∧ Below W.heap.size W w') := fun W hW => HT.out _ W (hvb.below hW)
  have HB1 : Hid (Below w.heap.size w wb) := hb1.trans (hbb.mono hb1.size)
  have HXN : Hid (∀ W, Below wb.heap.size wb W → W.heap[w1.heap.size]? = some (.cells #[.int .i64 vo, .int .i64 vn, .string vs, .slice va vm vk, .int .i64 vl, .int .i64 vc] 24 (0, 0))) := fun W hW => (hW.block _ (lt_of_heap hxn)).trans hxn
  obtain ⟨x0, x1, x2, x3, x4, x5⟩ := cells6 hxn
  obtain ⟨f0, f1, f2⟩ := wcel3 hfn
  have HWB := Lib.hid hwb
  clear hv hb1 hbb hxn hfn hvb hwb HC HW HT
  go_upto_region 2 with (fail)
  have hwb := HWB.out
  rw [← hwb]
  clear hwb HWB
  go_wp2_with fail
  refine HW1.out.mono ?_
  rintro e w2 ⟨rfl, hb2⟩
  clear x0 x1 x2 x3 x4 x5
  obtain ⟨x0, x1, x2, x3, x4, x5⟩ := cells6 (HXN.out w2 hb2)
  have HT2 := Lib.hid (HTX.out w2 hb2)
  have HB2 := Lib.hid (HB1.out.trans (hb2.mono HB1.out.size))
  clear hb2 HW1 HTX
  go_wp2_with (refine HT2.out.mono ?_; rintro e w3 ⟨rfl, hb3⟩)
  go_ret
  exact ⟨rfl, HB2.out.trans (hb3.mono HB2.out.size)⟩
end Go.Proofs.YtmkhfcdjgdofnaaDoor
