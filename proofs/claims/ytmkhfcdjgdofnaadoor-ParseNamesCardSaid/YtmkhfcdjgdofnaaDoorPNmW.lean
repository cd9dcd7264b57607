/- The walk of ParseNames. -/
import Derived.Test.YtmkhfcdjgdofnaaDoorParV
import Derived.Test.YtmkhfcdjgdofnaaDoorParR
namespace Go.Proofs.YtmkhfcdjgdofnaaDoor
open Go.RowKit TreM WrdM ParM

namespace PNames
def T1 : List UInt8 := [97, 32, 61, 32, 98, 32, 61, 32, 99]
def T3 : List UInt8 := [118, 97, 114, 32, 120, 10, 58, 32, 48, 46, 46, 59]
def T4 : List UInt8 := [97, 32, 36]
theorem bad_of {s : List UInt8} {e l c : Int} (h : (match exprA s with | .bad e2 l2 c2 => decide (e2 = e) && (decide (l2 = l) && decide (c2 = c)) | .ok _ => false) = true) : exprA s = .bad e l c := by
  cases he : exprA s with
  | bad e2 l2 c2 =>
    rw [he] at h
    simp only [Bool.and_eq_true, decide_eq_true_eq] at h
    rw [h.1, h.2.1, h.2.2]
  | ok x => rw [he] at h; cases h
theorem ans1 : exprA T1 = .bad 151 1 7 := bad_of (by decide +kernel)
theorem ans2 : exprA [] = .bad 151 1 1 := bad_of (by decide +kernel)
theorem ans4 : exprA T4 = .bad 131 1 3 := bad_of (by decide +kernel)
def k1 : Tok := ⟨4, [118, 97, 114], 0, 1, 1⟩
def k2 : Tok := ⟨1, [120], 0, 1, 5⟩
def k3 : Tok := ⟨3, [58], 0, 2, 1⟩
def k4 : Tok := ⟨2, [48], 0, 2, 3⟩
def k5 : Tok := ⟨3, [46, 46], 0, 2, 4⟩
def k6 : Tok := ⟨3, [59], 0, 2, 6⟩
def k7 : Tok := ⟨5, [], 0, 2, 7⟩
theorem cut3 : cutL T3 = .ok [k1, k2, k3, k4, k5, k6, k7] := by kernel_rfl
theorem bad3 : DclBad [k1, k2, k3, k4, k5, k6, k7] 2 6 :=
  ⟨⟨[k2, k3, k4, k5, k6, k7], [k3, k4, k5, k6, k7], [k4, k5, k6, k7], [k5, k6, k7], [k6, k7], [k5, k6, k7], k2, k4, 0, by kernel_rfl, by kernel_rfl, by kernel_rfl, rfl, by decide, by decide, by kernel_rfl, by kernel_rfl, by kernel_rfl⟩, k1, _, rfl, rfl⟩

set_option maxHeartbeats 6400000 in
set_option maxRecDepth 100000 in
theorem walk (w : World) (hG : PrG w) :
    Calls Tryd.prog 3 #[] w fun e w' => e = .returned (.bool true) ∧ Below w.heap.size w w' := by
  have HC1 : Hid (∀ W, Below w.heap.size w W → Calls Tryd.prog 6 #[.string ⟨#[97, 32, 61, 32, 98, 32, 61, 32, 99]⟩] W fun e w' => e = .returned (.tuple #[.agg #[.int .i64 0, .int .i64 0, .string ⟨#[]⟩, .slice none 0 0, .int .i64 0, .int .i64 0], .agg #[.int .i64 151, .int .i64 1, .int .i64 7]]) ∧ Below W.heap.size W w') := fun W hW => by
    have := exprA_any T1 (by decide) W (hG.below hW hG.n)
    rw [ans1] at this
    exact this
  have HC2 : Hid (∀ W, Below w.heap.size w W → Calls Tryd.prog 6 #[.string ⟨#[]⟩] W fun e w' => e = .returned (.tuple #[.agg #[.int .i64 0, .int .i64 0, .string ⟨#[]⟩, .slice none 0 0, .int .i64 0, .int .i64 0], .agg #[.int .i64 151, .int .i64 1, .int .i64 1]]) ∧ Below W.heap.size W w') := fun W hW => by
    have := exprA_any [] (by decide) W (hG.below hW hG.n)
    rw [ans2] at this
    exact this
  have HC4 : Hid (∀ W, Below w.heap.size w W → Calls Tryd.prog 6 #[.string ⟨#[97, 32, 36]⟩] W fun e w' => e = .returned (.tuple #[.agg #[.int .i64 0, .int .i64 0, .string ⟨#[]⟩, .slice none 0 0, .int .i64 0, .int .i64 0], .agg #[.int .i64 131, .int .i64 1, .int .i64 3]]) ∧ Below W.heap.size W w') := fun W hW => by
    have := exprA_any T4 (by decide) W (hG.below hW hG.n)
    rw [ans4] at this
    exact this
  have HC3 : Hid (∀ W, Below w.heap.size w W → Calls Tryd.prog 7 #[.string ⟨#[118, 97, 114, 32, 120, 10, 58, 32, 48, 46, 46, 59]⟩] W fun e w' => e = .returned (.tuple #[.agg #[.slice none 0 0, .slice none 0 0, .slice none 0 0], .agg #[.int .i64 151, .int .i64 2, .int .i64 6]]) ∧ Below W.heap.size W w') := fun W hW => sourceA_bad T3 (by decide) _ 2 6 cut3 bad3 W (hG.below hW hG.n)
  have HAL : Hid (∀ W, Below w.heap.size w W → Calls Tryd.prog 8 #[] W fun e w' => e = .returned (.bool true) ∧ Below W.heap.size W w') := fun W hW => palive_any W (hG.below hW hG.n)
  clear hG
  go_enter Tryd.func3, Tryd.ntmps3
  have HD1 := Lib.hid (HC1.out w (Below.refl _ _))
  go_wp2_with fail
  refine HD1.out.mono ?_
  rintro e u1 ⟨rfl, hb⟩
  obtain ⟨w1, hw1⟩ : ∃ W, W = (u1.alloc (.cells #[.int .i64 0, .int .i64 0, .string ⟨#[]⟩, .slice none 0 0, .int .i64 0, .int .i64 0] 24)).alloc (.cells #[.int .i64 151, .int .i64 1, .int .i64 7] 27) := ⟨_, rfl⟩
  have hbb : Below u1.heap.size u1 w1 := by rw [hw1]; exact (below_alloc u1 _).alloc (by simp) _
  have hfn : w1.heap[u1.heap.size + 1]? = some (.cells #[.int .i64 151, .int .i64 1, .int .i64 7] 27 (0, 0)) := by
    rw [hw1]
    have := blk_new (u1.alloc (.cells #[.int .i64 0, .int .i64 0, .string ⟨#[]⟩, .slice none 0 0, .int .i64 0, .int .i64 0] 24)) (.cells #[.int .i64 151, .int .i64 1, .int .i64 7] 27)
    rwa [show (u1.alloc (.cells #[.int .i64 0, .int .i64 0, .string ⟨#[]⟩, .slice none 0 0, .int .i64 0, .int .i64 0] 24)).heap.size = u1.heap.size + 1 by simp] at this
  have HF1 : Hid (∀ W, Below w1.heap.size w1 W → W.heap[u1.heap.size + 1]? = some (.cells #[.int .i64 151, .int .i64 1, .int .i64 7] 27 (0, 0))) := fun W hW => (hW.block _ (lt_of_heap hfn)).trans hfn
  have HB1 : Hid (Below w.heap.size w w1) := hb.trans (hbb.mono hb.size)
  have HW1 := Lib.hid hw1
  clear hb hbb hfn hw1 HD1
  go_upto_region 2 with (fail)
  have hw1 := HW1.out
  rw [← hw1]
  clear hw1 HW1
  have HD2 := Lib.hid (HC2.out w1 (HB1.out))
  go_wp2_with fail
  refine HD2.out.mono ?_
  rintro e u2 ⟨rfl, hb⟩
  obtain ⟨w2, hw2⟩ : ∃ W, W = (u2.alloc (.cells #[.int .i64 0, .int .i64 0, .string ⟨#[]⟩, .slice none 0 0, .int .i64 0, .int .i64 0] 24)).alloc (.cells #[.int .i64 151, .int .i64 1, .int .i64 1] 27) := ⟨_, rfl⟩
  have hbb : Below u2.heap.size u2 w2 := by rw [hw2]; exact (below_alloc u2 _).alloc (by simp) _
  have hfn : w2.heap[u2.heap.size + 1]? = some (.cells #[.int .i64 151, .int .i64 1, .int .i64 1] 27 (0, 0)) := by
    rw [hw2]
    have := blk_new (u2.alloc (.cells #[.int .i64 0, .int .i64 0, .string ⟨#[]⟩, .slice none 0 0, .int .i64 0, .int .i64 0] 24)) (.cells #[.int .i64 151, .int .i64 1, .int .i64 1] 27)
    rwa [show (u2.alloc (.cells #[.int .i64 0, .int .i64 0, .string ⟨#[]⟩, .slice none 0 0, .int .i64 0, .int .i64 0] 24)).heap.size = u2.heap.size + 1 by simp] at this
  have HF2 : Hid (∀ W, Below w2.heap.size w2 W → W.heap[u2.heap.size + 1]? = some (.cells #[.int .i64 151, .int .i64 1, .int .i64 1] 27 (0, 0))) := fun W hW => (hW.block _ (lt_of_heap hfn)).trans hfn
  have HB2 : Hid (Below w.heap.size w w2) := HB1.out.trans ((hb.trans (hbb.mono hb.size)).mono HB1.out.size)
  have HS2 : Hid (Below w1.heap.size w1 w2) := hb.trans (hbb.mono hb.size)
  have HW2 := Lib.hid hw2
  clear hb hbb hfn hw2 HD2
  go_upto_region 3 with (fail)
  have hw2 := HW2.out
  rw [← hw2]
  clear hw2 HW2
  have HD3 := Lib.hid (HC3.out w2 (HB2.out))
  go_wp2_with fail
  refine HD3.out.mono ?_
  rintro e u3 ⟨rfl, hb⟩
  obtain ⟨w3, hw3⟩ : ∃ W, W = (u3.alloc (.cells #[.slice none 0 0, .slice none 0 0, .slice none 0 0] 34)).alloc (.cells #[.int .i64 151, .int .i64 2, .int .i64 6] 27) := ⟨_, rfl⟩
  have hbb : Below u3.heap.size u3 w3 := by rw [hw3]; exact (below_alloc u3 _).alloc (by simp) _
  have hfn : w3.heap[u3.heap.size + 1]? = some (.cells #[.int .i64 151, .int .i64 2, .int .i64 6] 27 (0, 0)) := by
    rw [hw3]
    have := blk_new (u3.alloc (.cells #[.slice none 0 0, .slice none 0 0, .slice none 0 0] 34)) (.cells #[.int .i64 151, .int .i64 2, .int .i64 6] 27)
    rwa [show (u3.alloc (.cells #[.slice none 0 0, .slice none 0 0, .slice none 0 0] 34)).heap.size = u3.heap.size + 1 by simp] at this
  have HF3 : Hid (∀ W, Below w3.heap.size w3 W → W.heap[u3.heap.size + 1]? = some (.cells #[.int .i64 151, .int .i64 2, .int .i64 6] 27 (0, 0))) := fun W hW => (hW.block _ (lt_of_heap hfn)).trans hfn
  have HB3 : Hid (Below w.heap.size w w3) := HB2.out.trans ((hb.trans (hbb.mono hb.size)).mono HB2.out.size)
  have HS3 : Hid (Below w2.heap.size w2 w3) := hb.trans (hbb.mono hb.size)
  have HW3 := Lib.hid hw3
  clear hb hbb hfn hw3 HD3
  go_upto_region 4 with (fail)
  have hw3 := HW3.out
  rw [← hw3]
  clear hw3 HW3
  have HD4 := Lib.hid (HC4.out w3 (HB3.out))
  go_wp2_with fail
  refine HD4.out.mono ?_
  rintro e u4 ⟨rfl, hb⟩
  obtain ⟨w4, hw4⟩ : ∃ W, W = (u4.alloc (.cells #[.int .i64 0, .int .i64 0, .string ⟨#[]⟩, .slice none 0 0, .int .i64 0, .int .i64 0] 24)).alloc (.cells #[.int .i64 131, .int .i64 1, .int .i64 3] 27) := ⟨_, rfl⟩
  have hbb : Below u4.heap.size u4 w4 := by rw [hw4]; exact (below_alloc u4 _).alloc (by simp) _
  have hfn : w4.heap[u4.heap.size + 1]? = some (.cells #[.int .i64 131, .int .i64 1, .int .i64 3] 27 (0, 0)) := by
    rw [hw4]
    have := blk_new (u4.alloc (.cells #[.int .i64 0, .int .i64 0, .string ⟨#[]⟩, .slice none 0 0, .int .i64 0, .int .i64 0] 24)) (.cells #[.int .i64 131, .int .i64 1, .int .i64 3] 27)
    rwa [show (u4.alloc (.cells #[.int .i64 0, .int .i64 0, .string ⟨#[]⟩, .slice none 0 0, .int .i64 0, .int .i64 0] 24)).heap.size = u4.heap.size + 1 by simp] at this
  have HF4 : Hid (∀ W, Below w4.heap.size w4 W → W.heap[u4.heap.size + 1]? = some (.cells #[.int .i64 131, .int .i64 1, .int .i64 3] 27 (0, 0))) := fun W hW => (hW.block _ (lt_of_heap hfn)).trans hfn
  have HB4 : Hid (Below w.heap.size w w4) := HB3.out.trans ((hb.trans (hbb.mono hb.size)).mono HB3.out.size)
  have HS4 : Hid (Below w3.heap.size w3 w4) := hb.trans (hbb.mono hb.size)
  have HW4 := Lib.hid hw4
  clear hb hbb hfn hw4 HD4
  go_upto_region 5 with (fail)
  have hw4 := HW4.out
  rw [← hw4]
  clear hw4 HW4
  have HD5 := Lib.hid (HAL.out w4 HB4.out)
  go_wp2_with fail
  refine HD5.out.mono ?_
  rintro e w5 ⟨rfl, hb5⟩
  obtain ⟨f10, f11, f12⟩ := wcel3 (HF1.out w5 (HS2.out.trans ((HS3.out.trans ((HS4.out.trans (hb5.mono HS4.out.size)).mono HS3.out.size)).mono HS2.out.size)))
  obtain ⟨f20, f21, f22⟩ := wcel3 (HF2.out w5 (HS3.out.trans ((HS4.out.trans (hb5.mono HS4.out.size)).mono HS3.out.size)))
  obtain ⟨f30, f31, f32⟩ := wcel3 (HF3.out w5 (HS4.out.trans (hb5.mono HS4.out.size)))
  obtain ⟨f40, f41, f42⟩ := wcel3 (HF4.out w5 hb5)
  have HB5 := Lib.hid (HB4.out.trans (hb5.mono HB4.out.size))
  clear hb5 HD5
  go_wp2_with fail
  go_ret
  exact ⟨rfl, HB5.out⟩
end PNames
end Go.Proofs.YtmkhfcdjgdofnaaDoor
