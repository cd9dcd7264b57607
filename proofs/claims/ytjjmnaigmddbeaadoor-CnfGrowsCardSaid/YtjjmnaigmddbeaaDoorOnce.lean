/- CnfOnce is true of any text: the statement Rows.CnfOnceCardSaid, without a condition. -/
import Derived.Test.YtjjmnaigmddbeaaDoorCard
import Derived.Test.YtjjmnaigmddbeaaDoorBackM
import Derived.Test.YtjjmnaigmddbeaaDoorLenM
import Derived.Test.YtjjmnaigmddbeaaDoorSameF
namespace Go.Proofs.YtjjmnaigmddbeaaDoor.COnce
open Go.ChangeShapes Go.WideShapes Go.ChangeAt Go.RowKit LitM Words CnfP

theorem ok_right {v : Int} {cs : List (List Int)} (h : rightF v cs = true) : Ok32 cs := by
  have h1 := rightF_lits h
  have h2 : total cs ≤ 4194304 := by
    unfold rightF at h
    simp only [Bool.and_eq_true, decide_eq_true_eq] at h
    exact h.1.2
  exact Ok32.of fun c hc => ⟨by have := mem_total cs c hc; omega, In32.of fun x hx => by have := h1 c hc x hx; omega⟩
theorem form_count {ws : List (List UInt8)} {v : Int} {cs : List (List Int)} (h : formulaOf ws = some (v, cs)) : total cs + cs.length ≤ ws.length := by
  unfold formulaOf at h
  split at h
  · split at h
    · split at h
      · unfold bodyOf at h
        split at h
        · split at h
          · split at h
            · rename_i hc _
              injection h with h
              injection h with h1 h2
              subst h1; subst h2
              have := clausesOf_count _ _ _ _ hc
              simp at this ⊢
              omega
            · cases h
          · cases h
        · cases h
      · cases h
    · cases h
  · cases h
theorem text_len {v : Int} {cs : List (List Int)} (h : rightF v cs = true) {N : Nat} (hN : total cs + cs.length ≤ N) : (formulaT v cs).length ≤ 28 + 11 * N := by
  have hv := rightF_var h
  have hn := rightF_len h
  have h1 := clausesT_len cs (rightF_bd h)
  have h2 := headT_len (v := v) (n := (cs.length : Int)) hv.1 hv.2 (by omega) (by omega)
  unfold formulaT
  rw [List.length_append]
  omega

/-- A formula behind a pointer of the call's own, later. -/
theorem frm_cells {w W : World} {v : Int} {A : Option Addr} {n c : Nat} (h : Below (w.heap.size + 1) (w.alloc (.cells #[.int .i64 v, .slice A n c] 27)) W) :
    W.cell? ⟨w.heap.size, 0, none⟩ = some (.int .i64 v) ∧ W.cell? ⟨w.heap.size, 1, none⟩ = some (.slice A n c) := by
  rw [h.cell (p := ⟨w.heap.size, 0, none⟩) (by simp), h.cell (p := ⟨w.heap.size, 1, none⟩) (by simp)]
  simp
theorem sameC_refl (cs : List (List Int)) : sameC cs cs = true := by simp [sameC]
theorem size_alloc (w : World) (o : Obj) : (w.alloc o).heap.size = w.heap.size + 1 := by simp

set_option maxHeartbeats 6400000 in
set_option maxRecDepth 100000 in
theorem walk (s : List UInt8) (w : World) (hl : LibAt w) (hw : 8 ≤ w.heap.size) : Calls Tryd.prog 6 #[.string ⟨s.toArray⟩] w fun e w' => e = .returned (.bool true) ∧ Below w.heap.size w w' := by
  have HLA : Hid (∀ W, Below w.heap.size w W → LibAt W) := fun W hb => hl.below hb hw
  have HAL := Lib.hid (alive_any w hl hw)
  have hsz : ((⟨s.toArray⟩ : ByteArray).size : Int) = (s.length : Int) := by rw [size_mk]
  clear hl
  by_cases hbig : 3000 < s.length
  · have hd1 : decide (3000 < (s.length : Int)) = true := by simp; omega
    go_enter Tryd.func6, Tryd.ntmps6
    go_wp2_with fail
    refine HAL.out.mono ?_
    rintro e w1 ⟨rfl, hB1⟩
    have HB1 := Lib.hid hB1
    clear HAL hB1
    go_wp2_with fail
    go_ret
    exact ⟨rfl, HB1.out⟩
  · have hd1 : decide (3000 < (s.length : Int)) = false := by simp; omega
    go_enter Tryd.func6, Tryd.ntmps6
    go_wp2_with fail
    refine HAL.out.mono ?_
    rintro e w1 ⟨rfl, hB1⟩
    have HB1 := Lib.hid hB1
    clear HAL hB1
    have HR := Lib.hid (read_any s w1 (HLA.out _ HB1.out) (by have := HB1.out.size; omega) (by omega))
    go_wp2_with fail
    refine HR.out.mono ?_
    rintro e w2 ⟨hB2, (⟨v, cs, A, n, c, hf, rfl, hR⟩ | ⟨hf, rfl⟩)⟩
    case inr =>
      have HB2 := Lib.hid ((HB1.out.trans (hB2.mono HB1.out.size)).trans ((below_alloc w2 (.cells #[.int .i64 0, .slice none 0 0] 27)).mono (HB1.out.trans (hB2.mono HB1.out.size)).size))
      clear HR hB2
      go_wp2_with fail
      go_ret
      exact ⟨rfl, HB2.out⟩
    have hrt := formula_right hf
    have hcount := form_count hf
    have hwl : (wordsL s).length ≤ s.length := by have := goL_count s []; simpa [wordsL] using this
    have htl := text_len hrt (N := 3000) (by omega)
    have hvv := rightF_var hrt
    have HOK := Lib.hid (ok_right hrt)
    have HRT := Lib.hid hrt
    have HTL := Lib.hid htl
    have HN : Hid (n ≤ 1048576) := by have := rightF_len hrt; have := hR.len; exact (by omega : n ≤ 1048576)
    have HFB := Lib.hid (formula_back hrt)
    have HV := Lib.hid hvv
    have HBb : Hid (Below w.heap.size w w2) := HB1.out.trans (hB2.mono HB1.out.size)
    have HSZ : Hid (w.heap.size ≤ w2.heap.size) := HBb.out.size
    have hal := below_alloc w2 (.cells #[.int .i64 v, .slice A n c] 27)
    have HR1 : Hid (RdF (w2.alloc (.cells #[.int .i64 v, .slice A n c] 27)) (w2.heap.size + 1) A n cs) := ((hR.below hal).more (by omega))
    obtain ⟨w3, hw3⟩ : ∃ w3, w3 = w2.alloc (.cells #[.int .i64 v, .slice A n c] 27) := ⟨_, rfl⟩
    have hs3 : w3.heap.size = w2.heap.size + 1 := by rw [hw3]; simp
    have HD : Hid (∀ W, Below (w2.heap.size + 1) w3 W → W.cell? ⟨w2.heap.size, 0, none⟩ = some (.int .i64 v) ∧ W.cell? ⟨w2.heap.size, 1, none⟩ = some (.slice A n c)) := by rw [hw3]; exact fun W hW => frm_cells hW
    rw [← hw3] at HR1 hal
    have HB3 : Hid (Below w.heap.size w w3) := HBb.out.trans (hal.mono HSZ.out)
    have HW1 := Lib.hid (write_yes v A n c cs w3 (HLA.out _ HB3.out) (by have := HB3.out.size; omega) (by rw [hs3]; exact HR1.out) HOK.out (by have := HN.out; omega) (by omega) (by omega) hrt)
    clear HR hR hal hB2 hrt hcount hwl htl hvv hf
    go_wp2_with fail
    rw [← hw3]
    refine HW1.out.mono ?_
    rintro e w4 ⟨rfl, hB4⟩
    have HB4 : Hid (Below (w2.heap.size + 1) w3 w4) := by rw [← hs3]; exact hB4
    have hs4 : w2.heap.size + 1 ≤ w4.heap.size := by have := hB4.size; omega
    have HS4 := Lib.hid hs4
    have HB4b : Hid (Below w.heap.size w w4) := HB3.out.trans (HB4.out.mono (by have := HSZ.out; omega))
    have HR4 := Lib.hid (read_any (formulaT v cs) w4 (HLA.out _ HB4b.out) (by have := HB4b.out.size; omega) (by have := HTL.out; omega))
    clear hB4 HW1
    go_wp2_with fail
    refine HR4.out.mono ?_
    rintro e w5 ⟨hB5, (⟨v2, cs2, A2, n2, c2, hf2, rfl, hR2⟩ | ⟨hf2, rfl⟩)⟩
    case inr => rw [HFB.out] at hf2; cases hf2
    rw [HFB.out] at hf2
    injection hf2 with hf2
    injection hf2 with e1 e2
    subst e1; subst e2
    have HN2 : Hid (n2 ≤ 1048576) := by have := rightF_len HRT.out; have := hR2.len; exact (by omega : n2 ≤ 1048576)
    have HB5 : Hid (Below (w2.heap.size + 1) w3 w5) := HB4.out.trans (hB5.mono hs4)
    have hs5 : w2.heap.size + 1 ≤ w5.heap.size := by have := hB5.size; omega
    have HS5 := Lib.hid hs5
    have hal5 := below_alloc w5 (.cells #[.int .i64 v, .slice A2 n2 c2] 27)
    have HR6 : Hid (RdF (w5.alloc (.cells #[.int .i64 v, .slice A2 n2 c2] 27)) (w5.heap.size + 1) A2 n2 cs) := ((hR2.below hal5).more (by omega))
    obtain ⟨w6, hw6⟩ : ∃ w6, w6 = w5.alloc (.cells #[.int .i64 v, .slice A2 n2 c2] 27) := ⟨_, rfl⟩
    have hs6 : w6.heap.size = w5.heap.size + 1 := by rw [hw6]; simp
    have HD6 : Hid (∀ W, Below (w5.heap.size + 1) w6 W → W.cell? ⟨w5.heap.size, 0, none⟩ = some (.int .i64 v) ∧ W.cell? ⟨w5.heap.size, 1, none⟩ = some (.slice A2 n2 c2)) := by rw [hw6]; exact fun W hW => frm_cells hW
    rw [← hw6] at HR6 hal5
    have HB6 : Hid (Below (w2.heap.size + 1) w3 w6) := HB5.out.trans (hal5.mono hs5)
    have HB6b : Hid (Below w.heap.size w w6) := HB3.out.trans (HB6.out.mono (by have := HSZ.out; omega))
    have HW6 := Lib.hid (write_yes v A2 n2 c2 cs w6 (HLA.out _ HB6b.out) (by have := HB6b.out.size; omega) (by rw [hs6]; exact HR6.out) HOK.out (by have := HN2.out; omega) (by have := HV.out; omega) (by have := HV.out; omega) HRT.out)
    clear hB5 hR2 hal5 HR4
    go_wp2_with fail
    rw [← hw6]
    refine HW6.out.mono ?_
    rintro e w7 ⟨rfl, hB7⟩
    have HB7 : Hid (Below (w5.heap.size + 1) w6 w7) := by rw [← hs6]; exact hB7
    have hs7 : w5.heap.size + 1 ≤ w7.heap.size := by have := hB7.size; omega
    have HS7 := Lib.hid hs7
    have HB7b : Hid (Below (w2.heap.size + 1) w3 w7) := HB6.out.trans (HB7.out.mono (by omega))
    obtain ⟨hc0, hc1⟩ := HD.out w7 HB7b.out
    obtain ⟨hc2, hc3⟩ := HD6.out w7 HB7.out
    have HSame := Lib.hid (sameF_any v A n c cs v A2 n2 c2 cs w7 ((HR1.out.below HB7b.out).more (by omega)) ((HR6.out.below HB7.out).more (by omega)) HOK.out HOK.out (by have := HN.out; omega) (by have := HN2.out; omega))
    rw [show sameF v cs v cs = true from by simp [sameF, sameC]] at HSame
    clear hB7 HW6
    go_wp2_with fail
    refine HSame.out.mono ?_
    rintro e w8 ⟨rfl, hB8⟩
    have HB8 : Hid (Below (w2.heap.size + 1) w3 w8) := HB7b.out.trans (hB8.mono (by omega))
    have hs8 : w2.heap.size + 1 ≤ w8.heap.size := by have := hB8.size; omega
    obtain ⟨hc4, hc5⟩ := HD.out w8 HB8.out
    have HRg := Lib.hid (rightF_any v A n c cs w8 ((HR1.out.below HB8.out).more hs8) HOK.out (by have := HN.out; omega) (by have := HV.out; omega) (by have := HV.out; omega))
    rw [HRT.out] at HRg
    clear hB8 HSame hc0 hc1 hc2 hc3
    go_wp2_with fail
    refine HRg.out.mono ?_
    rintro e w9 ⟨rfl, hB9⟩
    have HB9 : Hid (Below (w2.heap.size + 1) w3 w9) := HB8.out.trans (hB9.mono hs8)
    clear hB9
    go_wp2_with fail
    go_ret
    exact ⟨rfl, HB3.out.trans (HB9.out.mono (by have := HSZ.out; omega))⟩
open Go.ChangeMaps (open_string shut_string)
set_option maxHeartbeats 800000 in
set_option maxRecDepth 100000 in
theorem lifted (os : Os) (started : os.Started) (H : Type) (enc : TypeId × Value → H) :
    ReturnsInHanded {} Tryd.checked os 6 .any (fun w args => (Rows.cnfOnceSpec.pre enc Tryd.prog Tryd.f6 Rows.cnfOnceRow.domain false w args ∧ laidMetH Tryd.prog laidL w) ∧ sizedMet enc Tryd.prog Tryd.f6 (OpenSpec.ofChange Rows.cnfOnceSpec) false w args)
      (Rows.cnfOnceSpec.post enc Tryd.prog Tryd.f6 false true false false) := by
  refine returns_laid (C := Tryd.checked) (X := fun w _ => laidMetH Tryd.prog laidL w) (fun _ _ _ hh h => h.of_heap hh) own_knob started (by kernel_rfl) Tryd.func6
    (ChangeSpec.witness_shaped (enc := enc) (C := Tryd.checked) (os := os) (X := fun w _ => laidMetH Tryd.prog laidL w) false (World.laidAll Tryd.prog os laidL) #[.string ⟨#[]⟩] 8 (World.laidAll_os _ _ _)
      (laid_shaped os _) (by kernel_rfl) (by kernel_rfl) (by kernel_rfl) (laid_met os _)) ?_
  intro W base args ds gs before hval0 hW hL hsh
  obtain ⟨hl, hw8⟩ := lib_of_laid hL hsh
  have hval : ∀ (j : Nat) t v, Tryd.f6.params[j]? = some t → args[j]? = some v → Value.okWide Tryd.prog W .any base t v := hval0
  have hW' := hW
  obtain ⟨p, q, hA0, hV, rfl, _, _⟩ := hW
  have hA : DataW.TrodAll enc Tryd.prog W 0 (fun _ => true) true Tryd.f6.params.toList args.toList ds p := hA0
  rw [Tryd.params6] at hA hval
  obtain ⟨v0, d0, rfl, rfl, h0⟩ := trodAll_one hA
  obtain ⟨rfl, rfl⟩ := trodVars_none hV
  obtain ⟨s, rfl, rfl, rfl, hs⟩ := open_string Tryd.underlying9 (hval 0 9 v0 rfl rfl) h0
  clear hA0 hval0
  simp only [List.append_nil] at hW'
  have hwalk := walk s.data.toList W hl hw8
  rw [show (⟨s.data.toList.toArray⟩ : ByteArray) = s from by cases s; simp] at hwalk
  refine hwalk.mono fun e W' ⟨he, hB⟩ => ?_
  subst he
  exact ⟨_, rfl, _, _, _, [], [], [], hW', trodAll_mk1 (shut_bool Tryd.underlying4 true), trodAll_mk1 (shut_string Tryd.underlying9 hs), rfl, hB.frame _, fun h => by cases h⟩

theorem proved : Rows.CnfOnceSaid :=
  OpenClaim.holds_of_wide 6 Tryd.f6 rfl rfl rfl rfl rfl rfl rfl ⟨rfl, rfl, rfl, rfl, rfl⟩ rfl rfl rfl rfl rfl (by kernel_rfl) Tryd.func6 (by kernel_rfl)
    (of_decide_eq_true (by kernel_rfl)) (by unfold Func.isWrapper; first | (rw [if_pos (by decide +kernel)]; kernel_rfl) | (rw [if_neg (by decide +kernel)]; exact ⟨rfl, rfl⟩))
    (fun os started H enc _ => lifted os started H enc)
theorem card : Rows.CnfOnceCardSaid :=
  Claim7.holds_tied_plain_at .later [] [.data, .data, .data, .data, .sentinel, .sentinel, .pinned] true (true, "c9257edc46eb894c56e1d11969e57e524d13a8a921779d8e4cd7eb90b9739f40") true proved (fun _ h => by cases h) (by kernel_rfl) (fun _ h => by cases h) cnfOnce_row_tie rfl ⟨rfl, rfl⟩ (by kernel_rfl) rfl
    (fun f fn hf hfn => by
      obtain rfl : f = 6 := Option.some.inj ((show Tryd.prog.funcNamed "lariat/lariatlaw02.CnfOnce" = some 6 by kernel_rfl).symm.trans hf) |>.symm
      obtain rfl : fn = Tryd.f6 := (Option.some.inj (Tryd.func6.symm.trans hfn)).symm
      exact ⟨by kernel_rfl, fun j t ht => by
        rw [Tryd.params6] at ht
        have hm : t ∈ [9] := by simpa using Array.mem_of_getElem? ht
        have hall : ([9].all fun u => !Tryd.prog.wantsStandIn u) = true := by kernel_rfl
        exact (show Tryd.prog.wantsStandIn t = false by simpa using List.all_eq_true.1 hall t hm)⟩)
    (by kernel_rfl)
end Go.Proofs.YtjjmnaigmddbeaaDoor.COnce
namespace Go.Proofs.YtjjmnaigmddbeaaDoor
theorem cnfOnce_holds : Rows.CnfOnceCardSaid := COnce.card
#print axioms cnfOnce_holds
end Go.Proofs.YtjjmnaigmddbeaaDoor
