/- Package parse: Expr. -/
import Derived.Test.YtmkhfcdjgdofnaaDoorParK
import Derived.Test.YtmkhfcdjgdofnaaDoorParP
namespace Go.Proofs.YtmkhfcdjgdofnaaDoor
open Go.RowKit TreM WrdM ParM

set_option maxHeartbeats 3200000 in
set_option maxRecDepth 100000 in
theorem exprA_any (s : List UInt8) (hs : s.length ≤ 9223372036854775807) (w : World) (hG : PrG w) :
    Calls Tryd.prog 6 #[.string ⟨s.toArray⟩] w (AnsE (exprA s) w) := by
  obtain ⟨wa, hwa⟩ : ∃ wa, wa = (w.alloc (.cells z6 24)).alloc (.cells #[.int .i64 0, .int .i64 0, .int .i64 0] 27) := ⟨_, rfl⟩
  have hba : Below w.heap.size w wa := by rw [hwa]; exact (below_alloc w _).alloc (by simp) _
  have hza : wa.heap.size = w.heap.size + 2 := by rw [hwa]; simp
  have hne : wa.heap[w.heap.size]? = some (.cells z6 24 (0, 0)) := by rw [hwa, Lib.alloc_old _ _ _ (by simp)]; exact blk_new w _
  have hnf : wa.heap[w.heap.size + 1]? = some (.cells #[.int .i64 0, .int .i64 0, .int .i64 0] 27 (0, 0)) := by
    rw [hwa]
    have := blk_new (w.alloc (.cells z6 24)) (.cells #[.int .i64 0, .int .i64 0, .int .i64 0] 27)
    rwa [show (w.alloc (.cells z6 24)).heap.size = w.heap.size + 1 by simp] at this
  have HRD := Lib.hid (readE_any s hs wa (hG.below hba hG.n))
  have HNE := Lib.hid hne
  have HNF := Lib.hid hnf
  have HBA := Lib.hid hba
  have HWA := Lib.hid hwa
  have HZA := Lib.hid hza
  generalize exprA s = R at *
  clear hwa hne hnf hba hza hG
  generalize (⟨s.toArray⟩ : ByteArray) = sb at *
  go_enter Tryd.func6, Tryd.ntmps6
  go_upto_region 1 with (fail)
  have hwa := HWA.out
  unfold z6 at hwa
  rw [← hwa]
  clear hwa HWA
  go_wp2_with fail
  refine HRD.out.mono ?_
  intro e w1 hp
  clear HRD
  have hmk : ∃ (vo vn : Int) (vs : ByteArray) (va : Option Addr) (vm vk : Nat) (vl vc er fl fc : Int), e = .returned (.tuple #[.agg #[.int .i64 vo, .int .i64 vn, .string vs, .slice va vm vk, .int .i64 vl, .int .i64 vc], .agg #[.int .i64 er, .int .i64 fl, .int .i64 fc]]) ∧ Below wa.heap.size wa w1 ∧
      ∀ W, Below w.heap.size w W → (∀ k, wa.heap.size ≤ k → k < w1.heap.size → W.heap[k]? = w1.heap[k]?) → w1.heap.size ≤ W.heap.size → AnsE R w (.returned (.tuple #[.agg #[.int .i64 vo, .int .i64 vn, .string vs, .slice va vm vk, .int .i64 vl, .int .i64 vc], .agg #[.int .i64 er, .int .i64 fl, .int .i64 fc]])) W := by
    rcases R with ⟨er, l, c⟩ | X
    · obtain ⟨rfl, hb⟩ := hp
      exact ⟨0, 0, ⟨#[]⟩, none, 0, 0, 0, 0, er, l, c, rfl, hb, fun W hW _ _ => ⟨rfl, hW⟩⟩
    · obtain ⟨v, rfl, hv, hb⟩ := hp
      obtain ⟨vo, vn, vs, va, vm, vk, vl, vc, rfl⟩ := exv_form hv.val
      exact ⟨vo, vn, vs, va, vm, vk, vl, vc, 0, 0, 0, rfl, hb, fun W hW h1 h2 => ⟨_, rfl, (hv.keep h1 h2).mono fun k hk => by have := HBA.out.size; omega, hW⟩⟩
  obtain ⟨vo, vn, vs, va, vm, vk, vl, vc, er, fl, fc, rfl, hb1, hans⟩ := hmk
  clear hp
  have hz := HZA.out
  have he1 := (hb1.block w.heap.size (by omega)).trans HNE.out
  have hf1 := (hb1.block (w.heap.size + 1) (by omega)).trans HNF.out
  obtain ⟨x0, x1, x2, x3, x4, x5⟩ := cells6 he1
  obtain ⟨s0, s1, s2⟩ := wcel3 hf1
  have ue := Lib.frozen_of_heap he1
  have uf := Lib.frozen_of_heap hf1
  have HE1 := Lib.hid he1
  have HF1 := Lib.hid hf1
  have HANS := Lib.hid hans
  have HB1 := Lib.hid hb1
  have hlt1 : w.heap.size + 1 < w1.heap.size := lt_of_heap hf1
  clear he1 hf1 hans hz hb1
  go_wp2_with fail
  obtain ⟨wA, hwA⟩ : ∃ wA, wA = ((((((w1.setCell ⟨w.heap.size, 0, none⟩ (.int .i64 vo)).setCell ⟨w.heap.size, 1, none⟩ (.int .i64 vn)).setCell ⟨w.heap.size, 2, none⟩ (.string vs)).setCell ⟨w.heap.size, 3, none⟩ (.slice va vm vk)).setCell ⟨w.heap.size, 4, none⟩ (.int .i64 vl)).setCell ⟨w.heap.size, 5, none⟩ (.int .i64 vc)) := ⟨_, rfl⟩
  have hkA : Kg w.heap.size w1 wA := by rw [hwA]; exact kf_six _ _ _ _ _ _ _ _
  have hnA : wA.heap[w.heap.size]? = some (.cells #[.int .i64 vo, .int .i64 vn, .string vs, .slice va vm vk, .int .i64 vl, .int .i64 vc] 24 (0, 0)) := by rw [hwA]; exact psix_set HE1.out _ _ _ _ _ _
  rw [← hwA]
  have hfA := (hkA.block (w.heap.size + 1) hlt1 (by omega)).trans HF1.out
  obtain ⟨wB, hwB⟩ : ∃ wB, wB = (((wA.setCell ⟨w.heap.size + 1, 0, none⟩ (.int .i64 er)).setCell ⟨w.heap.size + 1, 1, none⟩ (.int .i64 fl)).setCell ⟨w.heap.size + 1, 2, none⟩ (.int .i64 fc)) := ⟨_, rfl⟩
  have hkB : Kg (w.heap.size + 1) wA wB := by rw [hwB]; exact (kg_two 0 1 _ _).trans' (kg_one 2 _)
  have hnB : wB.heap[w.heap.size + 1]? = some (.cells #[.int .i64 er, .int .i64 fl, .int .i64 fc] 27 (0, 0)) := by rw [hwB]; exact three_set hfA _ _ _
  rw [← hwB]
  have hszA := hkA.size
  have heB := (hkB.block w.heap.size (by omega) (by omega)).trans hnA
  have hza := HZA.out
  have hbB : Below w.heap.size w wB := (HBA.out.trans (HB1.out.mono (by omega))).trans (((hkA.low (by omega)).mono (Nat.le_refl _)).trans ((hkB.low (by omega)).mono (by omega)))
  have hfin := HANS.out wB hbB (fun k h1 h2 => (hkB.block k (by omega) (by omega)).trans (hkA.block k h2 (by omega))) (Nat.le_trans hkA.size hkB.size)
  obtain ⟨p0, p1, p2, p3, p4, p5⟩ := cells6 heB
  obtain ⟨f0, f1, f2⟩ := wcel3 hnB
  clear hwA hkA hnA hfA hwB hkB hnB hszA heB hbB hza x0 x1 x2 x3 x4 x5 s0 s1 s2 ue uf
  refine bodyPost_ret (v := .tuple #[.agg #[.int .i64 vo, .int .i64 vn, .string vs, .slice va vm vk, .int .i64 vl, .int .i64 vc], .agg #[.int .i64 er, .int .i64 fl, .int .i64 fc]]) (by simp [results, Tryd.results6, go_sem, p0, p1, p2, p3, p4, p5, f0, f1, f2]) rfl ?_
  exact hfin

/-- Do all parts stand within a text? -/
theorem placed_any (N M : Int) : ∀ X : Ex, PlEx N M X → ∀ (v : Value) (w : World), ExV w X v → Calls Tryd.prog 9 #[v, .int .i64 N, .int .i64 M] w fun e w' => e = .returned (.bool true) ∧ Below w.heap.size w w' := by
  apply Ex.ind (P := fun X => PlEx N M X → ∀ (v : Value) (w : World), ExV w X v → Calls Tryd.prog 9 #[v, .int .i64 N, .int .i64 M] w fun e w' => e = .returned (.bool true) ∧ Below w.heap.size w w')
  intro o n s ks l c ih hpl v w h
  cases hpl with
  | mk _ _ _ _ _ _ hl0 hl1 hc0 hc1 hkp =>
  obtain ⟨A, cap, rfl, hB, hK⟩ := h.open
  have hba := below_alloc w (.cells #[.int .i64 o, .int .i64 n, .string ⟨s.toArray⟩, .slice A ks.length cap, .int .i64 l, .int .i64 c] 24)
  have HBA := Lib.hid hba
  have HK : Hid (KdsAt (w.alloc (.cells #[.int .i64 o, .int .i64 n, .string ⟨s.toArray⟩, .slice A ks.length cap, .int .i64 l, .int .i64 c] 24)) A ks) := hK.below hba
  obtain ⟨m, hm⟩ : ∃ m, m = ks.length := ⟨_, rfl⟩
  have hcap := hB.cap
  have hmc := hB.m
  have HM := Lib.hid hm
  have HI : Hid (∀ k ∈ ks, ∀ (v : Value) (w : World), ExV w k v → Calls Tryd.prog 9 #[v, .int .i64 N, .int .i64 M] w fun e w' => e = .returned (.bool true) ∧ Below w.heap.size w w') := fun k hk => ih k hk (hkp k hk)
  rw [← hm] at hmc HK HBA ⊢
  have t1 : decide (l < 1) = false := decide_eq_false (by omega)
  have t2 : decide (N < l) = false := decide_eq_false (by omega)
  have t3 : decide (c < 1) = false := decide_eq_false (by omega)
  have t4 : decide (M < c) = false := decide_eq_false (by omega)
  generalize (⟨s.toArray⟩ : ByteArray) = sb at *
  clear hm hK ih hB h hba hkp
  go_enter Tryd.func9, Tryd.ntmps9
  go_wp2
  generalize w.alloc (.cells #[.int .i64 o, .int .i64 n, .string sb, .slice A m cap, .int .i64 l, .int .i64 c] 24) = wa at *
  go_loopw [8, 32] (fun _ i wr => ∃ k : Nat, k ≤ m ∧ i = .int .i64 k ∧ Hid (Below wa.heap.size wa wr)) (fun _ i _ => m - (intOf i).toNat)
  case atStart => exact ⟨0, Nat.zero_le _, rfl, Below.refl _ _⟩
  case round =>
    obtain ⟨k, hk, rfl, HW⟩ := hrel
    by_cases hlt : k < m
    · have u1 : decide ((k : Int) < (m : Int)) = true := decide_eq_true (by omega)
      have u2 : decide (k < m) = true := decide_eq_true hlt
      obtain ⟨x, hx⟩ := get_ex (ks := ks) (k := k) (by rw [← HM.out]; exact hlt)
      rcases HK.out with hK | ⟨b', p', rfl, hb', hk'⟩
      · exfalso; rw [hK] at hx; simp at hx
      have hb2 : b' < wr.heap.size := Nat.lt_of_lt_of_le hb' HW.out.size
      obtain ⟨vo, vn, vs, va, vm, vk, vl, vc, c0, c1, c2, c3, c4, c5, hv⟩ := kid_val ((hk' k x hx).below HW.out hb')
      have hal := below_alloc wr (.cells #[.int .i64 vo, .int .i64 vn, .string vs, .slice va vm vk, .int .i64 vl, .int .i64 vc] 24)
      have HC := Lib.hid (HI.out x (List.mem_of_getElem? hx) _ _ (hv.below hal))
      have HBW := Lib.hid (HW.out.trans (hal.mono HW.out.size))
      clear hx hk' hv hal
      go_wp2_with (refine HC.out.mono ?_; rintro e w' ⟨rfl, hB2⟩)
      go_roundw
      case rel => exact ⟨k + 1, by omega, by go_num, HBW.out.trans (hB2.mono HBW.out.size)⟩
      case measure => simp [intOf]; omega
    · have u1 : decide ((k : Int) < (m : Int)) = false := decide_eq_false (by omega)
      have u2 : decide (k < m) = false := decide_eq_false hlt
      go_wp2
      go_ret
      exact ⟨rfl, HBA.out.trans (HW.out.mono HBA.out.size)⟩
end Go.Proofs.YtmkhfcdjgdofnaaDoor
