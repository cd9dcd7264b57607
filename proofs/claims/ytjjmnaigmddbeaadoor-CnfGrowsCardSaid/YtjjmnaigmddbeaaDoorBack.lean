/- CnfBack is true of any two formulas: the statement Rows.CnfBackCardSaid, without a condition. -/
import Derived.Test.YtjjmnaigmddbeaaDoorOnce
import Derived.Test.YtjjmnaigmddbeaaDoorOpen
import Derived.Test.YtjjmnaigmddbeaaDoorWriteN
import Derived.Test.YtjjmnaigmddbeaaDoorRsameF
import Derived.Deep.RegionHeld3
import Derived.Deep.DeepCutAuto
namespace Go.Proofs.YtjjmnaigmddbeaaDoor.CBack
open Go.ChangeShapes Go.WideShapes Go.ChangeAt Go.RowKit LitM Words CnfP COnce

/-- Two formulas behind pointers of the call's own. -/
structure Two (w W : World) (v : Int) (A : Option Addr) (n c : Nat) (u : Int) (A2 : Option Addr) (n2 c2 : Nat) : Prop where
  f0 : W.cell? ⟨w.heap.size, 0, none⟩ = some (.int .i64 v)
  f1 : W.cell? ⟨w.heap.size, 1, none⟩ = some (.slice A n c)
  g0 : W.cell? ⟨w.heap.size + 1, 0, none⟩ = some (.int .i64 u)
  g1 : W.cell? ⟨w.heap.size + 1, 1, none⟩ = some (.slice A2 n2 c2)
def box2 (w : World) (v : Int) (A : Option Addr) (n c : Nat) (u : Int) (A2 : Option Addr) (n2 c2 : Nat) : World :=
  (w.alloc (.cells #[.int .i64 v, .slice A n c] 27)).alloc (.cells #[.int .i64 u, .slice A2 n2 c2] 27)
theorem box2_size (w : World) (v : Int) (A : Option Addr) (n c : Nat) (u : Int) (A2 : Option Addr) (n2 c2 : Nat) : (box2 w v A n c u A2 n2 c2).heap.size = w.heap.size + 2 := by simp [box2]
theorem box2_below (w : World) (v : Int) (A : Option Addr) (n c : Nat) (u : Int) (A2 : Option Addr) (n2 c2 : Nat) : Below w.heap.size w (box2 w v A n c u A2 n2 c2) :=
  ((Below.refl _ _).alloc (Nat.le_refl _) _).alloc (by simp) _
theorem box2_two {w W : World} {v : Int} {A : Option Addr} {n c : Nat} {u : Int} {A2 : Option Addr} {n2 c2 : Nat} (h : Below (w.heap.size + 2) (box2 w v A n c u A2 n2 c2) W) : Two w W v A n c u A2 n2 c2 := by
  have a1 : (box2 w v A n c u A2 n2 c2).heap[w.heap.size]? = some (.cells #[.int .i64 v, .slice A n c] 27 (0, 0)) := by
    unfold box2; rw [blk_old _ _ _ (by simp), blk_new]
  have a2 : (box2 w v A n c u A2 n2 c2).heap[w.heap.size + 1]? = some (.cells #[.int .i64 u, .slice A2 n2 c2] 27 (0, 0)) := by
    unfold box2
    have := blk_new (w.alloc (.cells #[.int .i64 v, .slice A n c] 27)) (.cells #[.int .i64 u, .slice A2 n2 c2] 27)
    simpa using this
  refine ⟨?_, ?_, ?_, ?_⟩
  · rw [h.cell (p := ⟨w.heap.size, 0, none⟩) (by simp)]; simp [World.cell?, a1]
  · rw [h.cell (p := ⟨w.heap.size, 1, none⟩) (by simp)]; simp [World.cell?, a1]
  · rw [h.cell (p := ⟨w.heap.size + 1, 0, none⟩) (by simp)]; simp [World.cell?, a2]
  · rw [h.cell (p := ⟨w.heap.size + 1, 1, none⟩) (by simp)]; simp [World.cell?, a2]

set_option maxHeartbeats 6400000 in
set_option maxRecDepth 100000 in
theorem walk (v : Int) (A : Option Addr) (n c : Nat) (cs : List (List Int)) (u : Int) (A2 : Option Addr) (n2 c2 : Nat) (ds : List (List Int)) (w : World) (hl : LibAt w) (hw : 8 ≤ w.heap.size)
    (hf : RdF w w.heap.size A n cs) (hg : RdF w w.heap.size A2 n2 ds) (h32 : ∀ c ∈ cs, In32 c) (h322 : ∀ c ∈ ds, In32 c) (hj : ∀ j, (cs.getD j []).length ≤ 9223372036854775807) (hj2 : ∀ j, (ds.getD j []).length ≤ 9223372036854775807) (hn : n ≤ 9223372036854775807) (hn2 : n2 ≤ 9223372036854775807) (hv0 : -9223372036854775808 ≤ v) (hv1 : v ≤ 9223372036854775807) :
    Calls Tryd.prog 4 #[.agg #[.int .i64 v, .slice A n c], .agg #[.int .i64 u, .slice A2 n2 c2]] w fun e w' => e = .returned (.bool true) ∧ Below w.heap.size w w' := by
  have HLA : Hid (∀ W, Below w.heap.size w W → LibAt W) := fun W hb => hl.below hb hw
  have HLF := Lib.hid hf.len
  obtain ⟨W0, hW0⟩ : ∃ W0, W0 = box2 w v A n c u A2 n2 c2 := ⟨_, rfl⟩
  have hs0 : W0.heap.size = w.heap.size + 2 := by rw [hW0]; exact box2_size ..
  have hB0 : Below w.heap.size w W0 := by rw [hW0]; exact box2_below ..
  have HT : Hid (∀ W, Below (w.heap.size + 2) W0 W → Two w W v A n c u A2 n2 c2) := by rw [hW0]; exact fun W h => box2_two h
  have HRF : Hid (∀ W, Below (w.heap.size + 2) W0 W → RdF W W.heap.size A n cs) := fun W h => (((hf.below hB0).more (by omega : w.heap.size ≤ w.heap.size + 2)).below h).more (by have := h.size; omega)
  have HRG : Hid (∀ W, Below (w.heap.size + 2) W0 W → RdF W W.heap.size A2 n2 ds) := fun W h => (((hg.below hB0).more (by omega : w.heap.size ≤ w.heap.size + 2)).below h).more (by have := h.size; omega)
  have HBW : Hid (∀ W, Below (w.heap.size + 2) W0 W → Below w.heap.size w W) := fun W h => hB0.trans (h.mono (by omega))
  have HL0 : Hid (∀ W, Below (w.heap.size + 2) W0 W → LibAt W ∧ 8 ≤ W.heap.size) := fun W h => ⟨HLA.out _ (HBW.out _ h), by have := h.size; omega⟩
  have H32 := Lib.hid h32
  have H322 := Lib.hid h322
  have HJ := Lib.hid hj
  have HJ2 := Lib.hid hj2
  have HR00 : Hid (Below (w.heap.size + 2) W0 W0) := Below.refl _ _
  have HZ : Hid (∀ W, Below (w.heap.size + 2) W0 W → w.heap.size + 2 ≤ W.heap.size) := fun W h => by have := h.size; omega
  clear hf hg h32 h322 hj hj2 hl hB0
  unfold box2 at hW0
  go_enter Tryd.func4, Tryd.ntmps4
  go_wp2_with fail
  rw [← hW0]
  refine (alive_any W0 (HL0.out _ HR00.out).1 (HL0.out _ HR00.out).2).mono ?_
  rintro e w1 ⟨rfl, hB⟩
  have HB1 : Hid (Below (w.heap.size + 2) W0 w1) := by rw [← hs0]; exact hB
  obtain ⟨hf0, hf1, hg0, hg1⟩ := HT.out _ HB1.out
  have HG := Lib.hid (great_any v A n c cs w1 (HRF.out _ HB1.out) HJ.out hn)
  clear hB
  rcases hgf : greatB cs with _ | _
  all_goals rw [hgf] at HG
  case true =>
    go_wp2_with fail
    refine HG.out.mono ?_
    rintro e w2 ⟨rfl, hB⟩
    have HB2 : Hid (Below (w.heap.size + 2) W0 w2) := HB1.out.trans (hB.mono (HZ.out _ HB1.out))
    clear hB
    go_wp2_with fail
    go_ret
    exact ⟨rfl, HBW.out _ HB2.out⟩
  have HGF := Lib.hid hgf
  have HOK := Lib.hid (great_ok hgf H32.out)
  clear hgf
  go_wp2_with fail
  refine HG.out.mono ?_
  rintro e w2 ⟨rfl, hB⟩
  have HB2 : Hid (Below (w.heap.size + 2) W0 w2) := HB1.out.trans (hB.mono (HZ.out _ HB1.out))
  clear hB hf0 hf1 hg0 hg1 HG
  obtain ⟨hf0, hf1, hg0, hg1⟩ := HT.out _ HB2.out
  have HG := Lib.hid (great_any u A2 n2 c2 ds w2 (HRG.out _ HB2.out) HJ2.out hn2)
  rcases hgg : greatB ds with _ | _
  all_goals rw [hgg] at HG
  case true =>
    go_wp2_with fail
    refine HG.out.mono ?_
    rintro e w3 ⟨rfl, hB⟩
    have HB3 : Hid (Below (w.heap.size + 2) W0 w3) := HB2.out.trans (hB.mono (HZ.out _ HB2.out))
    clear hB
    go_wp2_with fail
    go_ret
    exact ⟨rfl, HBW.out _ HB3.out⟩
  have HOK2 := Lib.hid (great_ok hgg H322.out)
  clear hgg
  go_wp2_with fail
  refine HG.out.mono ?_
  rintro e w3 ⟨rfl, hB⟩
  have HB3 : Hid (Below (w.heap.size + 2) W0 w3) := HB2.out.trans (hB.mono (HZ.out _ HB2.out))
  clear hB hf0 hf1 hg0 hg1 HG
  obtain ⟨hf0, hf1, hg0, hg1⟩ := HT.out _ HB3.out
  have HSA : Hid (∀ W, (Below (w.heap.size + 2) W0 W ∧ W.cell? ⟨w.heap.size, 0, none⟩ = some (.int .i64 v) ∧ W.cell? ⟨w.heap.size, 1, none⟩ = some (.slice A n c) ∧ W.cell? ⟨w.heap.size + 1, 0, none⟩ = some (.int .i64 u) ∧ W.cell? ⟨w.heap.size + 1, 1, none⟩ = some (.slice A2 n2 c2)) →
      Calls Tryd.prog 12 #[.agg #[.int .i64 v, .slice A n c], .agg #[.int .i64 u, .slice A2 n2 c2]] W fun e w' => e = .returned (.bool (sameF v cs u ds)) ∧ Below (w.heap.size + 2) W0 w') := fun W h =>
    (sameF_any v A n c cs u A2 n2 c2 ds W (HRF.out _ h.1) (HRG.out _ h.1) HOK.out HOK2.out hn hn2).mono fun e w' hh => ⟨hh.1, h.1.trans (hh.2.mono (HZ.out _ h.1))⟩
  have HRS : Hid (∀ W, (Below (w.heap.size + 2) W0 W ∧ W.cell? ⟨w.heap.size, 0, none⟩ = some (.int .i64 v) ∧ W.cell? ⟨w.heap.size, 1, none⟩ = some (.slice A n c) ∧ W.cell? ⟨w.heap.size + 1, 0, none⟩ = some (.int .i64 u) ∧ W.cell? ⟨w.heap.size + 1, 1, none⟩ = some (.slice A2 n2 c2)) →
      Calls Tryd.prog 13 #[.agg #[.int .i64 v, .slice A n c], .agg #[.int .i64 u, .slice A2 n2 c2]] W fun e w' => e = .returned (.bool (sameF v cs u ds)) ∧ Below (w.heap.size + 2) W0 w') := fun W h =>
    (rsameF_any v A n c cs u A2 n2 c2 ds W (HRF.out _ h.1) (HRG.out _ h.1) HOK.out HOK2.out hn hn2).mono fun e w' hh => ⟨hh.1, h.1.trans (hh.2.mono (HZ.out _ h.1))⟩
  have HKS : Hid (∀ W, Below (w.heap.size + 2) W0 W → (Below (w.heap.size + 2) W0 W ∧ W.cell? ⟨w.heap.size, 0, none⟩ = some (.int .i64 v) ∧ W.cell? ⟨w.heap.size, 1, none⟩ = some (.slice A n c) ∧ W.cell? ⟨w.heap.size + 1, 0, none⟩ = some (.int .i64 u) ∧ W.cell? ⟨w.heap.size + 1, 1, none⟩ = some (.slice A2 n2 c2))) := fun W h => ⟨h, (HT.out _ h).f0, (HT.out _ h).f1, (HT.out _ h).g0, (HT.out _ h).g1⟩
  generalize hsm : sameF v cs u ds = same at *
  clear hsm
  rcases hrt : rightF v cs with _ | _
  case false =>
    have HW := Lib.hid (write_no v A n c cs w3 (HRF.out _ HB3.out) HOK.out hn hv0 hv1 hrt)
    have HRT := Lib.hid hrt
    clear hrt
    go_wp2_with fail
    refine HW.out.mono ?_
    rintro e w4 ⟨rfl, hB⟩
    have HB4 : Hid (Below (w.heap.size + 2) W0 w4) := HB3.out.trans (hB.mono (HZ.out _ HB3.out))
    clear hB hf0 hf1 hg0 hg1 HW
    obtain ⟨hf0, hf1, hg0, hg1⟩ := HT.out _ HB4.out
    go_wp2_with fail
    go_cut [28] (fun c wx => c = .bool false ∧ Hid (Below (w.heap.size + 2) W0 wx))
    case first =>
      go_region_held3 (fun W => Below (w.heap.size + 2) W0 W ∧ W.cell? ⟨w.heap.size, 0, none⟩ = some (.int .i64 v) ∧ W.cell? ⟨w.heap.size, 1, none⟩ = some (.slice A n c) ∧ W.cell? ⟨w.heap.size + 1, 0, none⟩ = some (.int .i64 u) ∧ W.cell? ⟨w.heap.size + 1, 1, none⟩ = some (.slice A2 n2 c2))
        (first | exact HKS.out _ (by assumption) | exact HKS.out _ (below_drewN HB4.out 1))
        (first | (go_at_call 12; refine (HSA.out _ (by assumption)).mono ?_; rintro e wq ⟨rfl, hBq⟩) | (go_at_call 13; refine (HRS.out _ (by assumption)).mono ?_; rintro e wq ⟨rfl, hBq⟩))
      all_goals (go_wp2_with fail; go_meet; exact ⟨by simp, by assumption⟩)
    case rest =>
      obtain ⟨rfl, HB5⟩ := hcut
      clear hf0 hf1 hg0 hg1
      obtain ⟨hf0, hf1, hg0, hg1⟩ := HT.out _ HB5.out
      have HRg := Lib.hid (rightF_any v A n c cs wc (HRF.out _ HB5.out) HOK.out hn hv0 hv1)
      rw [HRT.out] at HRg
      go_wp2_with fail
      refine HRg.out.mono ?_
      rintro e w6 ⟨rfl, hB⟩
      have HB6 : Hid (Below (w.heap.size + 2) W0 w6) := HB5.out.trans (hB.mono (HZ.out _ HB5.out))
      clear hB
      go_wp2_with fail
      go_ret
      exact ⟨rfl, HBW.out _ HB6.out⟩
  case true =>
    have HW := Lib.hid (write_yes v A n c cs w3 (HL0.out _ HB3.out).1 (HL0.out _ HB3.out).2 (HRF.out _ HB3.out) HOK.out hn hv0 hv1 hrt)
    have HRT := Lib.hid hrt
    clear hrt
    go_wp2_with fail
    refine HW.out.mono ?_
    rintro e w4 ⟨rfl, hB⟩
    have HB4 : Hid (Below (w.heap.size + 2) W0 w4) := HB3.out.trans (hB.mono (HZ.out _ HB3.out))
    clear hB hf0 hf1 hg0 hg1 HW
    obtain ⟨hf0, hf1, hg0, hg1⟩ := HT.out _ HB4.out
    go_wp2_with fail
    go_cut [28] (fun c wx => c = .bool false ∧ Hid (Below (w.heap.size + 2) W0 wx))
    case first =>
      go_region_held3 (fun W => Below (w.heap.size + 2) W0 W ∧ W.cell? ⟨w.heap.size, 0, none⟩ = some (.int .i64 v) ∧ W.cell? ⟨w.heap.size, 1, none⟩ = some (.slice A n c) ∧ W.cell? ⟨w.heap.size + 1, 0, none⟩ = some (.int .i64 u) ∧ W.cell? ⟨w.heap.size + 1, 1, none⟩ = some (.slice A2 n2 c2))
        (first | exact HKS.out _ (by assumption) | exact HKS.out _ (below_drewN HB4.out 1))
        (first | (go_at_call 12; refine (HSA.out _ (by assumption)).mono ?_; rintro e wq ⟨rfl, hBq⟩) | (go_at_call 13; refine (HRS.out _ (by assumption)).mono ?_; rintro e wq ⟨rfl, hBq⟩))
      all_goals (go_wp2_with fail; go_meet; exact ⟨by simp, by assumption⟩)
    case rest =>
      obtain ⟨rfl, HB5⟩ := hcut
      clear hf0 hf1 hg0 hg1
      obtain ⟨hf0, hf1, hg0, hg1⟩ := HT.out _ HB5.out
      have HLEN : Hid ((formulaT v cs).length ≤ 4194304) := by
        obtain ⟨g1, g2⟩ := great_out HGF.out
        have g3 := great_total cs g2
        have := text_len HRT.out (N := 6000) (by omega)
        exact (by omega : (formulaT v cs).length ≤ 4194304)
      have HFB := Lib.hid (formula_back HRT.out)
      have HR := Lib.hid (read_any (formulaT v cs) wc (HL0.out _ HB5.out).1 (HL0.out _ HB5.out).2 HLEN.out)
      go_wp2_with fail
      refine HR.out.mono ?_
      rintro e w6 ⟨hB6, (⟨v2, cs2, A3, n3, c3, hf2, rfl, hR3⟩ | ⟨hf2, rfl⟩)⟩
      case inr => rw [HFB.out] at hf2; cases hf2
      rw [HFB.out] at hf2
      injection hf2 with hf2
      injection hf2 with e1 e2
      subst e1; subst e2
      have HN3 : Hid (n3 ≤ 1048576) := by have := rightF_len HRT.out; have := hR3.len; exact (by omega : n3 ≤ 1048576)
      have HB6 : Hid (Below (w.heap.size + 2) W0 w6) := HB5.out.trans (hB6.mono (HZ.out _ HB5.out))
      have hal := below_alloc w6 (.cells #[.int .i64 v, .slice A3 n3 c3] 27)
      have HR7 : Hid (RdF (w6.alloc (.cells #[.int .i64 v, .slice A3 n3 c3] 27)) (w6.heap.size + 1) A3 n3 cs) := ((hR3.below hal).more (by omega))
      obtain ⟨w7, hw7⟩ : ∃ w7, w7 = w6.alloc (.cells #[.int .i64 v, .slice A3 n3 c3] 27) := ⟨_, rfl⟩
      have hs7 : w7.heap.size = w6.heap.size + 1 := by rw [hw7]; simp
      have hc := frm_cells (w := w6) (W := w7) (v := v) (A := A3) (n := n3) (c := c3) (by rw [← hw7]; exact Below.refl _ _)
      obtain ⟨hk0, hk1⟩ := hc
      rw [← hw7] at HR7 hal
      have HB7 : Hid (Below (w.heap.size + 2) W0 w7) := HB6.out.trans (hal.mono (HZ.out _ HB6.out))
      clear hf0 hf1 hg0 hg1 hB6 hR3 hal HR
      obtain ⟨hf0, hf1, hg0, hg1⟩ := HT.out _ HB7.out
      have HSame := Lib.hid (sameF_any v A3 n3 c3 cs v A n c cs w7 (by rw [hs7]; exact HR7.out) (HRF.out _ HB7.out) HOK.out HOK.out (by have := HN3.out; omega) hn)
      rw [show sameF v cs v cs = true from by simp [sameF, sameC]] at HSame
      rw [hw7] at hf0 hf1 hg0 hg1 hk0 hk1
      go_wp2_with fail
      rw [← hw7]
      refine HSame.out.mono ?_
      rintro e w8 ⟨rfl, hB⟩
      have HB8 : Hid (Below (w.heap.size + 2) W0 w8) := HB7.out.trans (hB.mono (HZ.out _ HB7.out))
      clear hB
      go_wp2_with fail
      go_ret
      exact ⟨rfl, HBW.out _ HB8.out⟩

set_option maxHeartbeats 800000 in
set_option maxRecDepth 100000 in
theorem lifted (os : Os) (started : os.Started) (H : Type) (enc : TypeId × Value → H) :
    ReturnsInHanded {} Tryd.checked os 4 .any (fun w args => (Rows.cnfBackSpec.pre enc Tryd.prog Tryd.f4 Rows.cnfBackRow.domain false w args ∧ laidMetH Tryd.prog laidL w) ∧ sizedMet enc Tryd.prog Tryd.f4 (OpenSpec.ofChange Rows.cnfBackSpec) false w args)
      (Rows.cnfBackSpec.post enc Tryd.prog Tryd.f4 false true false false) := by
  refine returns_laid (C := Tryd.checked) (X := fun w _ => laidMetH Tryd.prog laidL w) (fun _ _ _ hh h => h.of_heap hh) own_knob started (by kernel_rfl) Tryd.func4
    (ChangeSpec.witness_shaped (enc := enc) (C := Tryd.checked) (os := os) (X := fun w _ => laidMetH Tryd.prog laidL w) false (World.laidAll Tryd.prog os laidL) #[.agg #[.int .i64 0, .slice none 0 0], .agg #[.int .i64 0, .slice none 0 0]] 8 (World.laidAll_os _ _ _)
      (laid_shaped os _) (by kernel_rfl) (by kernel_rfl) (by kernel_rfl) (laid_met os _)) ?_
  intro W base args ds gs before hval0 hW hL hsh
  obtain ⟨hl, hw8⟩ := lib_of_laid hL hsh
  have hval : ∀ (j : Nat) t v, Tryd.f4.params[j]? = some t → args[j]? = some v → Value.okWide Tryd.prog W .any base t v := hval0
  have hW' := hW
  obtain ⟨p, q, hA0, hV, rfl, _, _⟩ := hW
  have hA : DataW.TrodAll enc Tryd.prog W 0 (fun _ => true) true Tryd.f4.params.toList args.toList ds p := hA0
  rw [Tryd.params4] at hA hval
  obtain ⟨v0, v1, d0, d1, p0, p1, rfl, rfl, rfl, h0, h1⟩ := trodAll_two hA
  obtain ⟨rfl, rfl⟩ := trodVars_none hV
  obtain ⟨v, A, n, c, cs, rfl, hR, h32, hj, hn, hv0, hv1, _⟩ := open_form (hval 0 27 v0 rfl rfl) h0
  obtain ⟨u, A2, n2, c2, es, rfl, hR2, h322, hj2, hn2, _, _, _⟩ := open_form (hval 1 27 v1 rfl rfl) h1
  clear hA0 hval0
  have hlt0 : ∀ y ∈ p0, y.block < W.heap.size := fun y hy => by simpa using hW'.lt y (by simp [hy])
  have hlt1 : ∀ y ∈ p1, y.block < W.heap.size := fun y hy => by simpa using hW'.lt y (by simp [hy])
  refine (walk v A n c cs u A2 n2 c2 es W hl hw8 hR hR2 h32 h322 hj hj2 hn hn2 hv0 hv1).mono fun e W' ⟨he, hB⟩ => ?_
  subst he
  exact ⟨_, rfl, _, _, _, [], _, [], hW', trodAll_mk1 (shut_bool Tryd.underlying4 true),
    trodAll_mk2 (Below.trod laid_out (by kernel_rfl) (of_decide_eq_true (by kernel_rfl)) h0 hB hlt0) (Below.trod laid_out (by kernel_rfl) (of_decide_eq_true (by kernel_rfl)) h1 hB hlt1), rfl, hB.frame _, fun h => by cases h⟩

theorem proved : Rows.CnfBackSaid :=
  OpenClaim.holds_of_wide 4 Tryd.f4 rfl rfl rfl rfl rfl rfl rfl ⟨rfl, rfl, rfl, rfl, rfl⟩ rfl rfl rfl rfl rfl (by kernel_rfl) Tryd.func4 (by kernel_rfl)
    (of_decide_eq_true (by kernel_rfl)) (by unfold Func.isWrapper; first | (rw [if_pos (by decide +kernel)]; kernel_rfl) | (rw [if_neg (by decide +kernel)]; exact ⟨rfl, rfl⟩))
    (fun os started H enc _ => lifted os started H enc)
theorem card : Rows.CnfBackCardSaid :=
  Claim7.holds_tied_plain_at .later [] [.data, .data, .data, .data, .sentinel, .sentinel, .pinned] true (true, "c9257edc46eb894c56e1d11969e57e524d13a8a921779d8e4cd7eb90b9739f40") true proved (fun _ h => by cases h) (by kernel_rfl) (fun _ h => by cases h) cnfBack_row_tie rfl ⟨rfl, rfl⟩ (by kernel_rfl) rfl
    (fun f fn hf hfn => by
      obtain rfl : f = 4 := Option.some.inj ((show Tryd.prog.funcNamed "lariat/lariatlaw02.CnfBack" = some 4 by kernel_rfl).symm.trans hf) |>.symm
      obtain rfl : fn = Tryd.f4 := (Option.some.inj (Tryd.func4.symm.trans hfn)).symm
      exact ⟨by kernel_rfl, fun j t ht => by
        rw [Tryd.params4] at ht
        have hm : t ∈ [27, 27] := by simpa using Array.mem_of_getElem? ht
        have hall : ([27, 27].all fun u => !Tryd.prog.wantsStandIn u) = true := by kernel_rfl
        exact (show Tryd.prog.wantsStandIn t = false by simpa using List.all_eq_true.1 hall t hm)⟩)
    (by kernel_rfl)
end Go.Proofs.YtjjmnaigmddbeaaDoor.CBack
namespace Go.Proofs.YtjjmnaigmddbeaaDoor
theorem cnfBack_holds : Rows.CnfBackCardSaid := CBack.card
#print axioms cnfBack_holds
end Go.Proofs.YtjjmnaigmddbeaaDoor
