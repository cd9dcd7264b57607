/- The contracts of demand and of the reader's number. -/
import Derived.Test.YtcfbnddoknpehaaGreatDoorWord
import Derived.Test.YtcfbnddoknpehaaGreatDoorNumM
import Derived.WideLaws
namespace Go.Proofs.YtcfbnddoknpehaaGreatDoor
open Go.RowKit Go.Shelf Go.Lib Words

theorem demand_yes (w : World) : Calls Tryz.prog 41 #[.bool true] w fun e w' => e = .returned (.tuple #[]) ∧ w = w' := by
  go_enter Tryz.func41, Tryz.ntmps41
  go_wp2
  go_end0
  exact ⟨rfl, rfl⟩
/-- What is thrown. -/
def thrown : Ending := .panicked [{ v := .iface 28 (.int .i64 22), recovered := false }]
theorem demand_no (w : World) : Calls Tryz.prog 41 #[.bool false] w fun e w' => e = thrown ∧ w = w' := by
  go_enter Tryz.func41, Tryz.ntmps41
  go_wp2
  exact ⟨rfl, rfl, rfl⟩

theorem trimPre_any (l : List UInt8) (w : World) :
    Calls Tryz.prog 51 #[.string ⟨l.toArray⟩, .string ⟨#[45]⟩] w fun e w' => e = .returned (.string ⟨(digitsOf l).toArray⟩) ∧ w = w' := by
  refine (Any.strings_TrimPrefix Tryz.lays101 ⟨l.toArray⟩ ⟨#[45]⟩ w).mono ?_
  rintro e w' ⟨rfl, rfl⟩
  refine ⟨?_, rfl⟩
  rw [list_mk, show (⟨#[45]⟩ : ByteArray).data.toList = [45] from rfl, trimPrefix_minus]
theorem ascii_ten : ∀ (j : Nat) b, (⟨#[48, 49, 50, 51, 52, 53, 54, 55, 56, 57]⟩ : ByteArray).data.toList[j]? = some b → b.toNat < 128 := ascii_of_all (by decide)
theorem trimTen_any (l : List UInt8) (w : World) (hl : l.length ≤ 4294967281) :
    Calls Tryz.prog 52 #[.string ⟨l.toArray⟩, .string ⟨#[48, 49, 50, 51, 52, 53, 54, 55, 56, 57]⟩] w fun e w' => ∃ t : List UInt8, e = .returned (.string ⟨t.toArray⟩) ∧ t.isEmpty = l.all digB ∧ Below w.heap.size w w' := by
  refine (Any.strings_Trim_laid Tryz.lays160 (by kernel_rfl) ⟨l.toArray⟩ ⟨#[48, 49, 50, 51, 52, 53, 54, 55, 56, 57]⟩ w (by rw [size_mk]; omega) (by decide) ascii_ten).mono ?_
  rintro e w' ⟨rfl, hB⟩
  refine ⟨_, rfl, ?_, hB⟩
  rw [list_mk]
  exact trim_ten l
theorem below_bytes (w : World) (e : TypeId) (s : ByteArray) : Below w.heap.size w (Lib.bytesWorld w e s) := by
  unfold Lib.bytesWorld
  exact Lib.below_freeze (Below.alloc (Below.drew (Below.refl _ _)) (Nat.le_refl _) _) (Nat.le_refl _) _
theorem atoi_yes (l : List UInt8) (w : World) (h0 : digitsOf l ≠ []) (h1 : (digitsOf l).length ≤ 9) (h2 : (digitsOf l).all digB = true) :
    Calls Tryz.prog 53 #[.string ⟨l.toArray⟩] w fun e w' => e = .returned (.tuple #[.int .i64 (valZ l), .nilIface]) ∧ Below w.heap.size w w' := by
  have := digits_len l
  refine (Any.strconv_Atoi Tryz.lays172 ⟨l.toArray⟩ (valZ l) (by rw [size_mk]; omega) (by rw [list_mk]; exact atoi_some h0 h2) w).mono ?_
  rintro e w' ⟨rfl, t, rfl⟩
  exact ⟨rfl, below_bytes _ _ _⟩
theorem atoi_not (l : List UInt8) (w : World) (hl : LibAt w) (h0 : digitsOf l = []) :
    Calls Tryz.prog 53 #[.string ⟨l.toArray⟩] w fun e w' => ∃ T v, e = .returned (.tuple #[.int .i64 0, .iface T v]) ∧ Below w.heap.size w w' := by
  have := digits_len l
  obtain ⟨ev, hv, hev⟩ := hl.errSyn
  refine (Any.strconv_Atoi_err Tryz.laysC172 ⟨l.toArray⟩ (by rw [size_mk]; rw [h0] at this; simp at this; omega) (by rw [list_mk]; exact atoi_none h0) ev w hv hev).mono ?_
  rintro e w' ⟨N, rfl, _, _, hB⟩
  exact ⟨_, _, rfl, hB⟩

set_option maxHeartbeats 1600000 in
theorem number_yes (g : Nat) (L S : List UInt8) (n : Int) (w : World) (h : RdrAt g L S w) (hl : LibAt w) (hg : 8 ≤ g) (hL : L.length < 4294967281) (hS : S.length < 4294967281) (hn : numOf (headW (left L S)) = some n) :
    Calls Tryz.prog 43 #[.pointer (some ⟨g, 0, none⟩)] w fun e w' =>
      e = .returned (.int .i64 n) ∧ ∃ L' S', RdrAt g L' S' w' ∧ left L' S' = (left L S).tail ∧ L'.length < 4294967281 ∧ S'.length < 4294967281 ∧ Kept g w w' := by
  have HW := Lib.hid (word_any g L S w h hl hg hL hS)
  have hok : digitsOf (headW (left L S)) ≠ [] ∧ (digitsOf (headW (left L S))).length ≤ 9 ∧ (digitsOf (headW (left L S))).all digB = true ∧ valZ (headW (left L S)) = n := by
    refine ⟨fun e => ?_, ?_, ?_, ?_⟩
    · rw [num_empty e] at hn; cases hn
    · rcases Nat.lt_or_ge 9 (digitsOf (headW (left L S))).length with h9 | h9
      · rw [num_long h9] at hn; cases hn
      · exact h9
    · rcases hd : (digitsOf (headW (left L S))).all digB with _ | _
      · rw [num_bad hd] at hn; cases hn
      · rfl
    · unfold numOf at hn
      split at hn
      · injection hn
      · cases hn
  generalize headW (left L S) = wd at *
  obtain ⟨k0, k1, k2, k3⟩ := hok
  have HAT := Lib.hid (fun w => atoi_yes wd w k0 k1 k2)
  rw [k3] at HAT
  have HTT := Lib.hid (fun w => trimTen_any (digitsOf wd) w (by omega))
  rw [k2] at HTT
  have HTP := Lib.hid (trimPre_any wd)
  generalize digitsOf wd = dg at *
  have kb : decide ((dg.length : Int) ≤ 9) = true := by simp; omega
  clear hn k0 k2 k3 h hl k1
  go_enter Tryz.func43, Tryz.ntmps43
  go_wp2_with fail
  refine HW.out.mono ?_
  rintro e w1 ⟨rfl, L', S', h1, h2, h3, h4, hk1⟩
  have H1 := Lib.hid h1
  have H2 := Lib.hid h2
  have HK1 := Lib.hid hk1
  clear h1 h2 hk1
  go_wp2_with fail
  refine (HTP.out _).mono ?_
  rintro e w' ⟨rfl, rfl⟩
  go_wp2_with fail
  refine (HTT.out _).mono ?_
  rintro e w2 ⟨t, rfl, ht, hB2⟩
  have HK2 := Lib.hid (HK1.out.trans (Kept.of hB2))
  have H12 := Lib.hid (H1.out.below hB2)
  clear hB2
  go_wp2_with fail
  refine (demand_yes _).mono ?_
  rintro e w' ⟨rfl, rfl⟩
  go_wp2_with fail
  refine (HAT.out _).mono ?_
  rintro e w3 ⟨rfl, hB3⟩
  have HK3 := Lib.hid (HK2.out.trans (Kept.of hB3))
  have H13 := Lib.hid (H12.out.below hB3)
  clear hB3
  go_wp2_with fail
  refine (demand_yes _).mono ?_
  rintro e w' ⟨rfl, rfl⟩
  go_wp2_with fail
  go_ret
  exact ⟨rfl, L', S', H13.out, H2.out, h3, h4, HK3.out⟩

set_option maxHeartbeats 1600000 in
theorem number_no (g : Nat) (L S : List UInt8) (w : World) (h : RdrAt g L S w) (hl : LibAt w) (hg : 8 ≤ g) (hL : L.length < 4294967281) (hS : S.length < 4294967281) (hwd : (headW (left L S)).length < 4294967281) (hn : numOf (headW (left L S)) = none) :
    Calls Tryz.prog 43 #[.pointer (some ⟨g, 0, none⟩)] w fun e w' => e = thrown ∧ Kept g w w' := by
  have HW := Lib.hid (word_any g L S w h hl hg hL hS)
  have HLA := Lib.hid hl
  have h0lt := h.lt
  have hcase : 9 < (digitsOf (headW (left L S))).length ∨ ((digitsOf (headW (left L S))).length ≤ 9 ∧ (digitsOf (headW (left L S))).all digB = false) ∨ digitsOf (headW (left L S)) = [] := by
    by_cases h9 : 9 < (digitsOf (headW (left L S))).length
    · exact .inl h9
    · rcases hd : (digitsOf (headW (left L S))).all digB with _ | _
      · exact .inr (.inl ⟨by omega, rfl⟩)
      · refine .inr (.inr ?_)
        rcases hx : digitsOf (headW (left L S)) with _ | ⟨a, b⟩
        · rfl
        · rw [num_yes (by rw [hx]; simp) (by omega) hd] at hn; cases hn
  generalize headW (left L S) = wd at *
  have HTP := Lib.hid (trimPre_any wd)
  have hdl : (digitsOf wd).length ≤ wd.length := by
    unfold digitsOf
    split
    · rw [List.length_tail]; omega
    · omega
  clear hn h hl
  rcases hcase with h9 | ⟨h9, hbad⟩ | hemp
  · generalize digitsOf wd = dg at *
    go_enter Tryz.func43, Tryz.ntmps43
    go_wp2_with fail
    refine HW.out.mono ?_
    rintro e w1 ⟨rfl, L', S', h1, h2, h3, h4, hk1⟩
    have HK1 := Lib.hid hk1
    clear h1 h2 hk1
    go_wp2_with fail
    refine (HTP.out _).mono ?_
    rintro e w' ⟨rfl, rfl⟩
    go_wp2_with fail
    refine (demand_no _).mono ?_
    rintro e w' ⟨rfl, rfl⟩
    exact ⟨rfl, rfl, HK1.out⟩
  · have HTT := Lib.hid (fun w => trimTen_any (digitsOf wd) w (by omega))
    rw [hbad] at HTT
    generalize digitsOf wd = dg at *
    have kb : decide ((dg.length : Int) ≤ 9) = true := by simp; omega
    clear hbad h9
    go_enter Tryz.func43, Tryz.ntmps43
    go_wp2_with fail
    refine HW.out.mono ?_
    rintro e w1 ⟨rfl, L', S', h1, h2, h3, h4, hk1⟩
    have HK1 := Lib.hid hk1
    clear h1 h2 hk1
    go_wp2_with fail
    refine (HTP.out _).mono ?_
    rintro e w' ⟨rfl, rfl⟩
    go_wp2_with fail
    refine (HTT.out _).mono ?_
    rintro e w2 ⟨t, rfl, ht, hB2⟩
    have HK2 := Lib.hid (HK1.out.trans (Kept.of hB2))
    clear hB2
    go_wp2_with fail
    refine (demand_no _).mono ?_
    rintro e w' ⟨rfl, rfl⟩
    exact ⟨rfl, rfl, HK2.out⟩
  · have HTT := Lib.hid (fun w => trimTen_any (digitsOf wd) w (by omega))
    rw [hemp] at HTT HTP hdl
    rw [show ([] : List UInt8).all digB = true from rfl] at HTT
    have HAT := Lib.hid (fun w hl => atoi_not wd w hl hemp)
    have hws : w.heap.size ≥ g := by have := h0lt; omega
    clear hemp
    go_enter Tryz.func43, Tryz.ntmps43
    go_wp2_with fail
    refine HW.out.mono ?_
    rintro e w1 ⟨rfl, L', S', h1, h2, h3, h4, hk1⟩
    have HK1 := Lib.hid hk1
    clear h1 h2 hk1
    go_wp2_with fail
    refine (HTP.out _).mono ?_
    rintro e w' ⟨rfl, rfl⟩
    go_wp2_with fail
    refine (HTT.out _).mono ?_
    rintro e w2 ⟨t, rfl, ht, hB2⟩
    have HK2 := Lib.hid (HK1.out.trans (Kept.of hB2))
    clear hB2
    go_wp2_with fail
    refine (demand_yes _).mono ?_
    rintro e w' ⟨rfl, rfl⟩
    go_wp2_with fail
    refine (HAT.out _ (HLA.out.below (HK2.out.below (Below.refl 8 w) hg (by omega)) (Nat.le_refl _))).mono ?_
    rintro e w3 ⟨T, v, rfl, hB3⟩
    have HK3 := Lib.hid (HK2.out.trans (Kept.of hB3))
    clear hB3
    go_wp2_with fail
    refine (demand_no _).mono ?_
    rintro e w' ⟨rfl, rfl⟩
    exact ⟨rfl, rfl, HK3.out⟩
end Go.Proofs.YtcfbnddoknpehaaGreatDoor
