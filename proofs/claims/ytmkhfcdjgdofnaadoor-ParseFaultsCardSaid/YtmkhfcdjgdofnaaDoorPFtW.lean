/- The walk of ParseFaults. -/
import Derived.Test.YtmkhfcdjgdofnaaDoorParR
namespace Go.Proofs.YtmkhfcdjgdofnaaDoor
open Go.RowKit TreM WrdM ParM

namespace PFaults
theorem ten_beq (c : UInt8) : (((c.toNat : Nat) : Int) == 10) = (c == 10) := by
  rw [Bool.eq_iff_iff, beq_iff_eq, beq_iff_eq]
  constructor
  · intro h
    apply UInt8.toNat_inj.1
    have : (10 : UInt8).toNat = 10 := rfl
    omega
  · intro h; rw [h]; rfl
theorem count_take (s : List UInt8) (k : Nat) (hk : k < s.length) : (s.take (k + 1)).count 10 = (s.take k).count 10 + (if s.getD k 0 == 10 then 1 else 0) := by
  rw [List.take_add_one, List.getElem?_eq_getElem hk, List.count_append, List.getD_eq_getElem?_getD, List.getElem?_eq_getElem hk]
  simp [List.count_singleton]
theorem ans_err {s : List UInt8} {e l c : Int} (h : exprA s = .bad e l c) : e ≠ 0 := by
  unfold exprA ansR at h
  cases hc : cutL s with
  | bad e2 l2 c2 =>
    rw [hc] at h
    injection h with h1 h2 h3
    rw [← h1]; exact cut_err hc
  | ok ts =>
    rw [hc] at h
    dsimp only at h
    cases hw : (wholeR ts).bind endR with
    | bad l2 c2 => rw [hw] at h; injection h with h1 h2 h3; omega
    | ok x r => rw [hw] at h; cases h

set_option maxHeartbeats 6400000 in
set_option maxRecDepth 100000 in
theorem walk (s : List UInt8) (w : World) (hG : PrG w) (hs : s.length ≤ 9223372036854775807) :
    Calls Tryd.prog 4 #[.string ⟨s.toArray⟩] w fun e w' => e = .returned (.bool true) ∧ Below w.heap.size w w' := by
  have HA := Lib.hid (palive_any w hG)
  have HEX : Hid (∀ W, Below w.heap.size w W → Calls Tryd.prog 6 #[.string ⟨s.toArray⟩] W (AnsE (exprA s) W)) := fun W hW => exprA_any s hs W (hG.below hW hG.n)
  have HPL : Hid (s.length ≤ 65536 → match exprA s with
    | .bad _ l c => 1 ≤ l ∧ l ≤ 1 + (s.count 10 : Nat) ∧ 1 ≤ c ∧ c ≤ s.length + 1
    | .ok x => PlEx (1 + (s.count 10 : Nat)) s.length x ∧ writB x = true) := expr_place s
  have HER : Hid (∀ e l c, exprA s = .bad e l c → e ≠ 0) := fun e l c h => ans_err h
  have HCT : Hid (∀ k, k < s.length → (s.take (k + 1)).count 10 = (s.take k).count 10 + (if s.getD k 0 == 10 then 1 else 0)) := count_take s
  have HCL : Hid (∀ k, (s.take k).count 10 ≤ s.length) := fun k => by
    have h1 := List.count_le_length (a := (10 : UInt8)) (l := s.take k)
    have h2 := List.length_take_le k s
    have h3 : (s.take k).length ≤ s.length := by rw [List.length_take]; omega
    exact (by omega : (s.take k).count 10 ≤ s.length)
  obtain ⟨sb, hsb⟩ : ∃ sb : ByteArray, sb = ⟨s.toArray⟩ := ⟨_, rfl⟩
  have hsn : sb.size = s.length := by rw [hsb, size_mk]
  have HAT : Hid (∀ (k : Nat) (h : k < sb.size), sb[k]'h = s.getD k 0) := fun k h => by subst hsb; exact get_mk s k h
  rw [← hsb] at HEX ⊢
  obtain ⟨R, hR⟩ : ∃ R, R = exprA s := ⟨_, rfl⟩
  rw [← hR] at HEX HPL HER
  clear hG hsb hR
  go_enter Tryd.func4, Tryd.ntmps4
  go_wp2_with fail
  refine HA.out.mono ?_
  rintro e w1 ⟨rfl, hb1⟩
  have HB1 := Lib.hid hb1
  have HE1 := Lib.hid (HEX.out w1 hb1)
  clear hb1 HA HEX
  by_cases hbig : 2000 < s.length
  · have t1 : decide ((2000 : Int) < (s.length : Int)) = true := decide_eq_true (by omega)
    have t2 : decide (2000 < s.length) = true := decide_eq_true hbig
    go_wp2_with fail
    go_ret
    exact ⟨rfl, HB1.out⟩
  have t1 : decide ((2000 : Int) < (s.length : Int)) = false := decide_eq_false (by omega)
  have t2 : decide (2000 < s.length) = false := decide_eq_false hbig
  have HPL2 := Lib.hid (HPL.out (by omega))
  go_wp2_with fail
  refine HE1.out.mono ?_
  intro e w2 hp
  clear HE1 HPL
  have hmk : ∃ (vo vn : Int) (vs : ByteArray) (va : Option Addr) (vm vk : Nat) (vl vc er fl fc : Int), e = .returned (.tuple #[.agg #[.int .i64 vo, .int .i64 vn, .string vs, .slice va vm vk, .int .i64 vl, .int .i64 vc], .agg #[.int .i64 er, .int .i64 fl, .int .i64 fc]]) ∧ Below w1.heap.size w1 w2 ∧
      ((er ≠ 0 ∧ vo = 0 ∧ 1 ≤ fl ∧ fl ≤ 1 + (s.count 10 : Nat) ∧ 1 ≤ fc ∧ fc ≤ s.length + 1) ∨
        (er = 0 ∧ fl = 0 ∧ fc = 0 ∧ ∃ X, ExV w2 X (.agg #[.int .i64 vo, .int .i64 vn, .string vs, .slice va vm vk, .int .i64 vl, .int .i64 vc]) ∧ PlEx (1 + (s.count 10 : Nat)) s.length X ∧ writB X = true)) := by
    rcases R with ⟨er, l, c⟩ | X
    · obtain ⟨rfl, hb⟩ := hp
      have := HPL2.out
      exact ⟨0, 0, ⟨#[]⟩, none, 0, 0, 0, 0, er, l, c, rfl, hb, .inl ⟨HER.out er l c rfl, rfl, this.1, this.2.1, this.2.2.1, this.2.2.2⟩⟩
    · obtain ⟨v, rfl, hv, hb⟩ := hp
      obtain ⟨vo, vn, vs, va, vm, vk, vl, vc, rfl⟩ := exv_form hv.val
      exact ⟨vo, vn, vs, va, vm, vk, vl, vc, 0, 0, 0, rfl, hb, .inr ⟨rfl, rfl, rfl, X, hv.val, HPL2.out.1, HPL2.out.2⟩⟩
  obtain ⟨vo, vn, vs, va, vm, vk, vl, vc, er, fl, fc, rfl, hb2, hcase⟩ := hmk
  obtain ⟨wb, hwb⟩ : ∃ wb, wb = (w2.alloc (.cells #[.int .i64 vo, .int .i64 vn, .string vs, .slice va vm vk, .int .i64 vl, .int .i64 vc] 24)).alloc (.cells #[.int .i64 er, .int .i64 fl, .int .i64 fc] 27) := ⟨_, rfl⟩
  have hbb : Below w2.heap.size w2 wb := by rw [hwb]; exact (below_alloc w2 _).alloc (by simp) _
  have hxn : wb.heap[w2.heap.size]? = some (.cells #[.int .i64 vo, .int .i64 vn, .string vs, .slice va vm vk, .int .i64 vl, .int .i64 vc] 24 (0, 0)) := by rw [hwb, Lib.alloc_old _ _ _ (by simp)]; exact blk_new w2 _
  have hfn : wb.heap[w2.heap.size + 1]? = some (.cells #[.int .i64 er, .int .i64 fl, .int .i64 fc] 27 (0, 0)) := by
    rw [hwb]
    have := blk_new (w2.alloc (.cells #[.int .i64 vo, .int .i64 vn, .string vs, .slice va vm vk, .int .i64 vl, .int .i64 vc] 24)) (.cells #[.int .i64 er, .int .i64 fl, .int .i64 fc] 27)
    rwa [show (w2.alloc (.cells #[.int .i64 vo, .int .i64 vn, .string vs, .slice va vm vk, .int .i64 vl, .int .i64 vc] 24)).heap.size = w2.heap.size + 1 by simp] at this
  have HBB : Hid (Below w.heap.size w wb) := HB1.out.trans ((hb2.trans (hbb.mono hb2.size)).mono HB1.out.size)
  have HCASE : Hid ((er ≠ 0 ∧ vo = 0 ∧ 1 ≤ fl ∧ fl ≤ 1 + (s.count 10 : Nat) ∧ 1 ≤ fc ∧ fc ≤ s.length + 1) ∨
        (er = 0 ∧ fl = 0 ∧ fc = 0 ∧ ∃ X, ExV wb X (.agg #[.int .i64 vo, .int .i64 vn, .string vs, .slice va vm vk, .int .i64 vl, .int .i64 vc]) ∧ PlEx (1 + (s.count 10 : Nat)) s.length X ∧ writB X = true)) := by
    rcases hcase with h | ⟨h1, h2, h3, X, h4, h5⟩
    · exact .inl h
    · exact .inr ⟨h1, h2, h3, X, h4.below hbb, h5⟩
  have HXN := Lib.hid hxn
  have HFN := Lib.hid hfn
  have HWB := Lib.hid hwb
  clear hp hb2 hcase hbb hxn hfn hwb HPL2 HER
  go_upto_region 6 with (fail)
  have hwb := HWB.out
  rw [← hwb]
  clear hwb HWB
  go_wp2_with fail
  go_loopw [5, 6] (fun ln i wr => ∃ k : Nat, k ≤ s.length ∧ ln = .int .i64 (1 + ((s.take k).count 10 : Nat)) ∧ i = .int .i64 k ∧ wr = wb) (fun _ i _ => s.length - (intOf i).toNat)
  case atStart => exact ⟨0, Nat.zero_le _, by simp, rfl, rfl⟩
  case round =>
    obtain ⟨j, hj, rfl, rfl, rfl⟩ := hrel
    by_cases hjl : j < s.length
    · have x1 : decide ((j : Int) < (s.length : Int)) = true := decide_eq_true (by omega)
      have x2 : decide (j < s.length) = true := decide_eq_true hjl
      have hk2 : j < sb.size := by omega
      have hg := HAT.out j hk2
      have hct := HCT.out j hjl
      have hten := ten_beq (s.getD j 0)
      have hcl := HCL.out j
      have HX := Lib.hid hct
      generalize s.getD j 0 = cc at *
      generalize (s.take j).count 10 = cn at *
      clear hct
      rcases hb : (cc == 10) with _ | _
      · rw [hb] at hten
        have HX2 : Hid ((s.take (j + 1)).count 10 = cn) := by unfold Hid; rw [HX.out, hb]; rfl
        clear hb HX
        go_wp2_with fail
        go_roundw
        case rel => exact ⟨j + 1, by omega, by rw [HX2.out], by go_num, trivial⟩
        case measure => simp [intOf]; omega
      · rw [hb] at hten
        have HX2 : Hid ((s.take (j + 1)).count 10 = cn + 1) := by unfold Hid; rw [HX.out, hb]; rfl
        clear hb HX
        go_wp2_with fail
        go_roundw
        case rel => exact ⟨j + 1, by omega, by rw [HX2.out]; go_num, by go_num, trivial⟩
        case measure => simp [intOf]; omega
    · have x1 : decide ((j : Int) < (s.length : Int)) = false := decide_eq_false (by omega)
      have x2 : decide (j < s.length) = false := decide_eq_false hjl
      have hall : s.take j = s := List.take_of_length_le (by omega)
      rw [hall]
      have hcl := HCL.out j
      rw [hall] at hcl
      obtain ⟨y0, y1, y2, y3, y4, y5⟩ := cells6 HXN.out
      obtain ⟨f0, f1, f2⟩ := wcel3 HFN.out
      clear hall HCT HAT
      rcases HCASE.out with ⟨h1, rfl, h3, h4, h5, h6⟩ | ⟨rfl, rfl, rfl, X, hX, hP, hW⟩
      · have e0 : (er == 0) = false := by rw [beq_eq_false_iff_ne]; exact h1
        generalize s.count 10 = cn at *
        have u1 : decide (1 ≤ fl) = true := decide_eq_true h3
        have u2 : decide (fl ≤ 1 + (cn : Int)) = true := decide_eq_true h4
        have u3 : decide (1 ≤ fc) = true := decide_eq_true h5
        have u4 : decide (fc ≤ (s.length : Int) + 1) = true := decide_eq_true h6
        clear HCASE h1
        go_wp2_with fail
        go_ret
        exact ⟨rfl, HBB.out⟩
      · have HP := Lib.hid (placed_any _ _ X hP _ wr hX)
        have HWR : Hid (∀ W, Below wr.heap.size wr W → Calls Tryd.prog 10 #[.agg #[.int .i64 vo, .int .i64 vn, .string vs, .slice va vm vk, .int .i64 vl, .int .i64 vc]] W fun e w' => e = .returned (.bool true) ∧ Below W.heap.size W w') := fun W hW' => by
          have := pwritable_any X _ W (hX.below hW') (writ_size hW)
          rw [hW] at this; exact this
        have HXQ : Hid (∀ W, Below wr.heap.size wr W → W.heap[w2.heap.size]? = some (.cells #[.int .i64 vo, .int .i64 vn, .string vs, .slice va vm vk, .int .i64 vl, .int .i64 vc] 24 (0, 0))) := fun W hW' => (hW'.block _ (lt_of_heap HXN.out)).trans HXN.out
        generalize s.count 10 = cn at *
        clear HCASE hX hP hW
        go_wp2_with fail
        refine HP.out.mono ?_
        rintro e w5 ⟨rfl, hb5⟩
        have HW5 := Lib.hid (HWR.out w5 hb5)
        clear y0 y1 y2 y3 y4 y5
        obtain ⟨y0, y1, y2, y3, y4, y5⟩ := cells6 (HXQ.out w5 hb5)
        have HB5 := Lib.hid (HBB.out.trans (hb5.mono HBB.out.size))
        clear hb5 HP HWR
        go_wp2_with (refine HW5.out.mono ?_; rintro e w6 ⟨rfl, hb6⟩)
        go_ret
        exact ⟨rfl, HB5.out.trans (hb6.mono HB5.out.size)⟩
end PFaults
end Go.Proofs.YtmkhfcdjgdofnaaDoor
