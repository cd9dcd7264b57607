/- CnfReads is true of any text: the statement Rows.CnfReadsCardSaid, without a condition. -/
import Derived.Test.YtcfbnddoknpehaaGreatDoorCard
import Derived.Test.YtcfbnddoknpehaaGreatDoorPRead
import Derived.Test.YtcfbnddoknpehaaGreatDoorRsameF
import Derived.Deep.RegionHeld3
namespace Go.Proofs.YtcfbnddoknpehaaGreatDoor.CReads
open Go.ChangeShapes Go.WideShapes Go.ChangeAt Go.RowKit LitM Words CnfP

theorem frm_cells {w W : World} {v : Int} {A : Option Addr} {n c : Nat} (h : Below (w.heap.size + 1) (w.alloc (.cells #[.int .i64 v, .slice A n c] 24)) W) :
    W.cell? ⟨w.heap.size, 0, none⟩ = some (.int .i64 v) ∧ W.cell? ⟨w.heap.size, 1, none⟩ = some (.slice A n c) := by
  rw [h.cell (p := ⟨w.heap.size, 0, none⟩) (by simp), h.cell (p := ⟨w.heap.size, 1, none⟩) (by simp)]
  simp
theorem size_alloc (w : World) (o : Obj) : (w.alloc o).heap.size = w.heap.size + 1 := by simp
/-- What a reader answers: the formula, or none; the error's number. -/
def vO (o : Option (Int × List (List Int))) : Int := match o with | some p => p.1 | none => 0
def fO (o : Option (Int × List (List Int))) : List (List Int) := match o with | some p => p.2 | none => []
def eO (o : Option (Int × List (List Int))) : Int := match o with | some _ => 0 | none => 22
def UPost (o : Option (Int × List (List Int))) (w : World) (e : Ending) (w' : World) : Prop :=
  ∃ A n c, e = .returned (.tuple #[.agg #[.int .i64 (vO o), .slice A n c], .int .i64 (eO o)]) ∧ RdF w' w'.heap.size A n (fO o) ∧ Below w.heap.size w w'
theorem u_code {s : List UInt8} {w : World} {e : Ending} {w' : World} (h : ReadPost s w e w') : UPost (formulaOf (wordsL s)) w e w' := by
  rcases h with ⟨hB, (⟨v, cs, A, n, c, hf, rfl, hR⟩ | ⟨hf, rfl⟩)⟩
  · rw [hf]; exact ⟨A, n, c, rfl, hR, hB⟩
  · rw [hf]; exact ⟨none, 0, 0, rfl, RdF.nil, hB⟩
theorem u_plain {s : List UInt8} {w : World} {e : Ending} {w' : World} (h : PReadP (wordsL s) w e w') : UPost (formulaOf (wordsL s)) w e w' := by
  rcases h with ⟨hB, (⟨v, cs, A, n, c, hf, rfl, hR⟩ | ⟨hf, rfl⟩)⟩
  · rw [hf]; exact ⟨A, n, c, rfl, hR, hB⟩
  · rw [hf]; exact ⟨none, 0, 0, rfl, RdF.nil, hB⟩
theorem formula_rightR {ws : List (List UInt8)} {v : Int} {cs : List (List Int)} (h : formulaOf ws = some (v, cs)) : rightF v cs = true := by
  unfold formulaOf at h
  split at h
  · split at h
    · split at h
      · unfold bodyOf at h
        split at h
        · split at h
          · split at h
            · rename_i hr
              injection h with h
              injection h with h1 h2
              subst h1; subst h2
              exact hr
            · cases h
          · cases h
        · cases h
      · cases h
    · cases h
  · cases h
theorem u_ok (s : List UInt8) : Ok32 (fO (formulaOf (wordsL s))) ∧ (fO (formulaOf (wordsL s))).length ≤ 1048576 ∧ -262144 ≤ vO (formulaOf (wordsL s)) ∧ vO (formulaOf (wordsL s)) ≤ 262144 := by
  cases hf : formulaOf (wordsL s) with
  | none => exact ⟨Ok32.of fun c hc => by simp [fO] at hc, by simp [fO], by simp [vO], by simp [vO]⟩
  | some p =>
    obtain ⟨v, cs⟩ := p
    have hr := formula_rightR hf
    refine ⟨Ok32.of fun c hc => ?_, rightF_len hr, ?_⟩
    · have h1 := rightF_bd hr c hc
      have h2 : total cs ≤ 4194304 := by
        unfold rightF at hr
        simp only [Bool.and_eq_true, decide_eq_true_eq] at hr
        exact hr.1.2
      exact ⟨by have := mem_total cs c hc; omega, In32.of fun x hx => by have := h1 x hx; omega⟩
    · unfold rightF at hr
      simp only [Bool.and_eq_true, decide_eq_true_eq] at hr
      exact ⟨by show -262144 ≤ v; omega, hr.1.1.1.2⟩
theorem same_self (v : Int) (cs : List (List Int)) : sameF v cs v cs = true := by simp [sameF, sameC]

set_option maxHeartbeats 6400000 in
set_option maxRecDepth 100000 in
theorem walk (s : List UInt8) (w : World) (hl : LibAt w) (hw : 8 ≤ w.heap.size) : Calls Tryz.prog 4 #[.string ⟨s.toArray⟩] w fun e w' => e = .returned (.bool true) ∧ Below w.heap.size w w' := by
  have HLA : Hid (∀ W, Below w.heap.size w W → LibAt W) := fun W hb => hl.below hb hw
  have HAL := Lib.hid (alive_any w hl hw)
  have hsz : ((⟨s.toArray⟩ : ByteArray).size : Int) = (s.length : Int) := by rw [size_mk]
  clear hl
  by_cases hbig : 3000 < s.length
  · have hd1 : decide (3000 < (s.length : Int)) = true := by simp; omega
    go_enter Tryz.func4, Tryz.ntmps4
    go_wp2_with fail
    refine HAL.out.mono ?_
    rintro e w1 ⟨rfl, hB1⟩
    have HB1 := Lib.hid hB1
    clear HAL hB1
    go_wp2_with fail
    go_ret
    exact ⟨rfl, HB1.out⟩
  have hd1 : decide (3000 < (s.length : Int)) = false := by simp; omega
  obtain ⟨hok, hfn, hv0, hv1⟩ := u_ok s
  have HOK := Lib.hid hok
  have HUC : Hid (∀ w e w', ReadPost s w e w' → UPost (formulaOf (wordsL s)) w e w') := fun w e w' h => u_code h
  have HUP : Hid (∀ w e w', PReadP (wordsL s) w e w' → UPost (formulaOf (wordsL s)) w e w') := fun w e w' h => u_plain h
  have HPR : Hid (∀ W, Calls Tryz.prog 15 #[.string ⟨s.toArray⟩] W fun e w' => UPost (formulaOf (wordsL s)) W e w') := fun W => (pread_any s W (by omega)).mono fun e w' h => u_plain h
  clear hok HUP
  generalize formulaOf (wordsL s) = o at *
  have hee : (eO o == eO o) = true := by simp
  have HSS : Hid (sameF (vO o) (fO o) (vO o) (fO o) = true) := same_self _ _
  go_enter Tryz.func4, Tryz.ntmps4
  go_wp2_with fail
  refine HAL.out.mono ?_
  rintro e w1 ⟨rfl, hB1⟩
  have HB1 := Lib.hid hB1
  clear HAL hB1
  have HR := Lib.hid (read_any s w1 (HLA.out _ HB1.out) (by have := HB1.out.size; omega) (by omega))
  go_wp2_with fail
  refine HR.out.mono ?_
  intro e w2 hp
  obtain ⟨A, n, c, rfl, hR, hB2⟩ := HUC.out _ _ _ hp
  have hn : n ≤ 1048576 := by have := hR.len; omega
  have hbx := below_alloc w2 (.cells #[.int .i64 (vO o), .slice A n c] 24)
  have HB3 : Hid (Below w.heap.size w (w2.alloc (.cells #[.int .i64 (vO o), .slice A n c] 24))) := (HB1.out.trans (hB2.mono HB1.out.size)).trans (hbx.mono (HB1.out.trans (hB2.mono HB1.out.size)).size)
  have HR3 : Hid (RdF (w2.alloc (.cells #[.int .i64 (vO o), .slice A n c] 24)) (w2.heap.size + 1) A n (fO o)) := (hR.below hbx).more (by omega)
  have HD : Hid (∀ W, Below (w2.heap.size + 1) (w2.alloc (.cells #[.int .i64 (vO o), .slice A n c] 24)) W → W.cell? ⟨w2.heap.size, 0, none⟩ = some (.int .i64 (vO o)) ∧ W.cell? ⟨w2.heap.size, 1, none⟩ = some (.slice A n c)) := fun W hW => frm_cells hW
  have HP4 := Lib.hid (HPR.out (w2.alloc (.cells #[.int .i64 (vO o), .slice A n c] 24)))
  have HS3 : Hid ((w2.alloc (.cells #[.int .i64 (vO o), .slice A n c] 24)).heap.size = w2.heap.size + 1) := size_alloc _ _
  clear hp hR hB2 hbx HR HUC
  go_wp2_with fail
  generalize w2.alloc (.cells #[.int .i64 (vO o), .slice A n c] 24) = w3 at *
  refine HP4.out.mono ?_
  rintro e w4 ⟨A2, n2, c2, rfl, hR4, hB4⟩
  have hn2 : n2 ≤ 1048576 := by have := hR4.len; omega
  have hB4' : Below (w2.heap.size + 1) w3 w4 := by have := HS3.out; rw [this] at hB4; exact hB4
  have hsz4 : w2.heap.size + 1 ≤ w4.heap.size := by have := hB4'.size; rw [HS3.out] at this; exact this
  have hbx := below_alloc w4 (.cells #[.int .i64 (vO o), .slice A2 n2 c2] 24)
  have hB5 := hB4'.trans (hbx.mono hsz4)
  obtain ⟨f0, f1⟩ := HD.out _ hB5
  obtain ⟨g0, g1⟩ := frm_cells (w := w4) (v := vO o) (A := A2) (n := n2) (c := c2) (Below.refl (w4.heap.size + 1) _)
  have HRF : RdF (w4.alloc (.cells #[.int .i64 (vO o), .slice A2 n2 c2] 24)) (w4.alloc (.cells #[.int .i64 (vO o), .slice A2 n2 c2] 24)).heap.size A n (fO o) := (HR3.out.below hB5).more (by rw [size_alloc]; omega)
  have HRG : RdF (w4.alloc (.cells #[.int .i64 (vO o), .slice A2 n2 c2] 24)) (w4.alloc (.cells #[.int .i64 (vO o), .slice A2 n2 c2] 24)).heap.size A2 n2 (fO o) := (hR4.below hbx).more (by rw [size_alloc]; omega)
  have HRS := Lib.hid (rsameF_any (vO o) A n c (fO o) (vO o) A2 n2 c2 (fO o) (w4.alloc (.cells #[.int .i64 (vO o), .slice A2 n2 c2] 24)) HRF HRG HOK.out HOK.out (by omega) (by omega))
  rw [HSS.out] at HRS
  have HB5 : Hid (Below w.heap.size w (w4.alloc (.cells #[.int .i64 (vO o), .slice A2 n2 c2] 24))) := HB3.out.trans (hB5.mono (by have := HB3.out.size; rw [HS3.out] at this; exact this))
  clear HP4 HR3 HD hR4 hB4 hB4' hbx hB5 HRF HRG
  go_wp2_with fail
  refine HRS.out.mono ?_
  rintro e w6 ⟨rfl, hB6⟩
  have HB6 : Hid (Below w.heap.size w w6) := HB5.out.trans (hB6.mono HB5.out.size)
  clear hB6 f0 f1 g0 g1
  go_wp2_with fail
  go_ret
  exact ⟨rfl, HB6.out⟩
open Go.ChangeMaps (open_string shut_string)
set_option maxHeartbeats 800000 in
set_option maxRecDepth 100000 in
theorem lifted (os : Os) (started : os.Started) (H : Type) (enc : TypeId × Value → H) :
    ReturnsInHanded {} Tryz.checked os 4 .any (fun w args => (Rows.cnfReadsSpec.pre enc Tryz.prog Tryz.f4 Rows.cnfReadsRow.domain false w args ∧ laidMetH Tryz.prog laidL w) ∧ sizedMet enc Tryz.prog Tryz.f4 (OpenSpec.ofChange Rows.cnfReadsSpec) false w args)
      (Rows.cnfReadsSpec.post enc Tryz.prog Tryz.f4 false true false false) := by
  refine returns_laid (C := Tryz.checked) (X := fun w _ => laidMetH Tryz.prog laidL w) (fun _ _ _ hh h => h.of_heap hh) own_knob started (by kernel_rfl) Tryz.func4
    (ChangeSpec.witness_shaped (enc := enc) (C := Tryz.checked) (os := os) (X := fun w _ => laidMetH Tryz.prog laidL w) false (World.laidAll Tryz.prog os laidL) #[.string ⟨#[]⟩] 8 (World.laidAll_os _ _ _)
      (laid_shaped os _) (by kernel_rfl) (by kernel_rfl) (by kernel_rfl) (laid_met os _)) ?_
  intro W base args ds gs before hval0 hW hL hsh
  obtain ⟨hl, hw8⟩ := lib_of_laid hL hsh
  have hval : ∀ (j : Nat) t v, Tryz.f4.params[j]? = some t → args[j]? = some v → Value.okWide Tryz.prog W .any base t v := hval0
  have hW' := hW
  obtain ⟨p, q, hA0, hV, rfl, _, _⟩ := hW
  have hA : DataW.TrodAll enc Tryz.prog W 0 (fun _ => true) true Tryz.f4.params.toList args.toList ds p := hA0
  rw [Tryz.params4] at hA hval
  obtain ⟨v0, d0, rfl, rfl, h0⟩ := trodAll_one hA
  obtain ⟨rfl, rfl⟩ := trodVars_none hV
  obtain ⟨s, rfl, rfl, rfl, hs⟩ := open_string Tryz.underlying9 (hval 0 9 v0 rfl rfl) h0
  clear hA0 hval0
  simp only [List.append_nil] at hW'
  have hwalk := walk s.data.toList W hl hw8
  rw [show (⟨s.data.toList.toArray⟩ : ByteArray) = s from by cases s; simp] at hwalk
  refine hwalk.mono fun e W' ⟨he, hB⟩ => ?_
  subst he
  exact ⟨_, rfl, _, _, _, [], [], [], hW', trodAll_mk1 (shut_bool Tryz.underlying4 true), trodAll_mk1 (shut_string Tryz.underlying9 hs), rfl, hB.frame _, fun h => by cases h⟩

theorem proved : Rows.CnfReadsSaid :=
  OpenClaim.holds_of_wide 4 Tryz.f4 rfl rfl rfl rfl rfl rfl rfl ⟨rfl, rfl, rfl, rfl, rfl⟩ rfl rfl rfl rfl rfl (by kernel_rfl) Tryz.func4 (by kernel_rfl)
    (of_decide_eq_true (by kernel_rfl)) (by unfold Func.isWrapper; first | (rw [if_pos (by decide +kernel)]; kernel_rfl) | (rw [if_neg (by decide +kernel)]; exact ⟨rfl, rfl⟩))
    (fun os started H enc _ => lifted os started H enc)
theorem card : Rows.CnfReadsCardSaid :=
  Claim7.holds_tied_plain_at .later [] [.data, .data, .data, .data, .sentinel, .sentinel, .pinned] true (true, "292d0317ec705d623d44237b5f20d3c4420c7e48b4447a8040bfec637836d25a") true proved (fun _ h => by cases h) (by kernel_rfl) (fun _ h => by cases h) cnfReads_row_tie rfl ⟨rfl, rfl⟩ (by kernel_rfl) rfl
    (fun f fn hf hfn => by
      obtain rfl : f = 4 := Option.some.inj ((show Tryz.prog.funcNamed "lariat/lariatlaw02.CnfReads" = some 4 by kernel_rfl).symm.trans hf) |>.symm
      obtain rfl : fn = Tryz.f4 := (Option.some.inj (Tryz.func4.symm.trans hfn)).symm
      exact ⟨by kernel_rfl, fun j t ht => by
        rw [Tryz.params4] at ht
        have hm : t ∈ [9] := by simpa using Array.mem_of_getElem? ht
        have hall : ([9].all fun u => !Tryz.prog.wantsStandIn u) = true := by kernel_rfl
        exact (show Tryz.prog.wantsStandIn t = false by simpa using List.all_eq_true.1 hall t hm)⟩)
    (by kernel_rfl)
end Go.Proofs.YtcfbnddoknpehaaGreatDoor.CReads
namespace Go.Proofs.YtcfbnddoknpehaaGreatDoor
theorem cnfReads_holds : Rows.CnfReadsCardSaid := CReads.card
#print axioms cnfReads_holds
end Go.Proofs.YtcfbnddoknpehaaGreatDoor
