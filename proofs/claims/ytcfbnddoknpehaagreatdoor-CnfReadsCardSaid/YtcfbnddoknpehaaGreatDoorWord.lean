/- The contract of the reader's word. -/
import Derived.Test.YtcfbnddoknpehaaGreatDoorRemark
namespace Go.Proofs.YtcfbnddoknpehaaGreatDoor
open Go.RowKit Go.Shelf Go.Lib Words

theorem contains_blank (c : UInt8) : ([32, 9] : List UInt8).contains c = blankB c := by
  unfold blankB
  simp
  rfl
theorem trimLeft_any (l : List UInt8) (w : World) :
    Calls Tryz.prog 48 #[.string ⟨l.toArray⟩, .string ⟨#[32, 9]⟩] w fun e w' => e = .returned (.string ⟨(l.dropWhile blankB).toArray⟩) ∧ Below w.heap.size w w' := by
  refine (Any.strings_TrimLeft_laid Tryz.lays161 (by kernel_rfl) ⟨l.toArray⟩ ⟨#[32, 9]⟩ w (by decide) ascii_two).mono ?_
  rintro e w' ⟨rfl, hB⟩
  refine ⟨?_, hB⟩
  rw [list_mk, show (⟨#[32, 9]⟩ : ByteArray).data.toList = [32, 9] from rfl]
  unfold Lib.trimLeftS
  rw [show (fun x => ([32, 9] : List UInt8).contains x) = blankB from funext contains_blank]

/-- What is behind the first word. -/
theorem idxB_take (l : List UInt8) : idxB l = -1 ∧ l.takeWhile (fun c => !blankB c) = l ∧ l.dropWhile (fun c => !blankB c) = [] ∨
    (0 ≤ idxB l ∧ idxB l ≤ l.length ∧ l.take (idxB l).toNat = l.takeWhile (fun c => !blankB c) ∧ l.drop (idxB l).toNat = l.dropWhile (fun c => !blankB c)) := by
  unfold idxB
  have htd := List.takeWhile_append_dropWhile (p := fun c : UInt8 => !blankB c) (l := l)
  by_cases ha : l.all (fun c => !blankB c) = true
  · refine .inl ⟨by rw [if_pos ha], takeWhile_all _ l ha, ?_⟩
    rw [takeWhile_all _ l ha] at htd
    exact List.append_right_eq_self.1 htd
  · refine .inr ⟨by rw [if_neg ha]; omega, ?_, ?_, ?_⟩
    · rw [if_neg ha]
      have : (l.takeWhile (fun c => !blankB c)).length ≤ l.length := (List.takeWhile_sublist _).length_le
      omega
    · rw [if_neg ha, Int.toNat_natCast]
      conv => lhs; arg 2; rw [← htd]
      rw [List.take_left]
    · rw [if_neg ha, Int.toNat_natCast]
      conv => lhs; arg 2; rw [← htd]
      rw [List.drop_left]

theorem extract_mk (l : List UInt8) (a b : Nat) : (⟨l.toArray⟩ : ByteArray).extract a b = ⟨((l.drop a).take (b - a)).toArray⟩ := by
  apply ByteArray.ext
  rw [ByteArray.data_extract]
  apply Array.ext'
  rw [Array.toList_extract]
theorem str_to {l k : List UInt8} {m : Nat} (h : l.take m = k) : Value.string ((⟨l.toArray⟩ : ByteArray).extract 0 m) = .string ⟨k.toArray⟩ := by
  rw [extract_mk, List.drop_zero, Nat.sub_zero, h]
theorem str_from {l k : List UInt8} {m : Nat} (h : l.drop m = k) : Value.string ((⟨l.toArray⟩ : ByteArray).extract m l.length) = .string ⟨k.toArray⟩ := by
  rw [extract_mk, List.take_of_length_le (by simp), h]
/-- What word answers, and leaves. -/
def headW (ws : List (List UInt8)) : List UInt8 := ws.headD []
theorem drop_head (l : List UInt8) (c : UInt8) (cs : List UInt8) (h : l.dropWhile blankB = c :: cs) : blankB c = false := by
  induction l with
  | nil => simp at h
  | cons a t ih =>
    rw [List.dropWhile_cons] at h
    by_cases hb : blankB a = true
    · rw [if_pos hb] at h; exact ih h
    · rw [if_neg hb] at h
      injection h with h1 h2
      rw [← h1]; simpa using hb
theorem drop_idem (p : UInt8 → Bool) : ∀ l : List UInt8, (l.dropWhile p).dropWhile p = l.dropWhile p
  | [] => rfl
  | c :: cs => by
    rw [List.dropWhile_cons]
    by_cases h : p c = true
    · rw [if_pos h, drop_idem p cs]
    · rw [if_neg h, List.dropWhile_cons, if_neg h]
theorem drop_len (p : UInt8 → Bool) (l : List UInt8) : (l.dropWhile p).length ≤ l.length := (List.dropWhile_sublist _).length_le

set_option maxHeartbeats 3200000 in
set_option maxRecDepth 100000 in
theorem word_any (g : Nat) (L S : List UInt8) (w : World) (h : RdrAt g L S w) (hl : LibAt w) (hg : 8 ≤ g) (hL : L.length < 4294967281) (hS : S.length < 4294967281) :
    Calls Tryz.prog 42 #[.pointer (some ⟨g, 0, none⟩)] w fun e w' =>
      e = .returned (.string ⟨(headW (left L S)).toArray⟩) ∧ ∃ L' S', RdrAt g L' S' w' ∧ left L' S' = (left L S).tail ∧ L'.length < 4294967281 ∧ S'.length < 4294967281 ∧ Kept g w w' := by
  have HS := Lib.hid hS
  have HLen := Lib.hid hL
  have HH := Lib.hid h
  have HLA := Lib.hid hl
  have hlt := h.lt
  have hc0 := h.c0
  clear hl h
  go_enter Tryz.func42, Tryz.ntmps42
  go_wp2_with fail
  refine (trimLeft_any L _).mono ?_
  rintro e w1 ⟨rfl, hB1⟩
  have h1 := HH.out.below hB1
  have hf0 := h1.f 0
  have hd0 := h1.c0
  have h2 := h1.set0 (L.dropWhile blankB)
  have hk2 := (Kept.of (g := g) hB1).trans (Kept.set (w := w1) (j := 0) (.string ⟨(L.dropWhile blankB).toArray⟩))
  have H2 := Lib.hid h2
  have HK2 := Lib.hid hk2
  clear h1 h2 hk2 hB1
  go_wp2_with fail
  generalize w1.setCell ⟨g, 0, none⟩ (.string ⟨(L.dropWhile blankB).toArray⟩) = w2 at *
  clear hd0 hf0
  go_loopg [] S.length (fun gg wr => ∃ L1 S1 : List UInt8, S1.length ≤ gg ∧ Hid (RdrAt g L1 S1 wr) ∧ Hid (Kept g w wr) ∧ Hid (left L1 S1 = left L S) ∧ Hid (L1.dropWhile blankB = L1) ∧ Hid (L1.length < 4294967281) ∧ Hid (S1.length < 4294967281))
  case atStart => exact ⟨L.dropWhile blankB, S, Nat.le_refl _, H2.out, HK2.out, left_trim L S, drop_idem _ _, by have := drop_len blankB L; show _ < _; have := HLen.out; omega, HS.out⟩
  case round =>
    obtain ⟨L1, S1, hg1, HR, HK, HT, HD, HL1, HS1⟩ := hrel
    have hc0 := HR.out.c0
    have hc1 := HR.out.c1
    have hfA := HR.out.f 0
    by_cases hgo : L1 = [] ∧ S1 ≠ []
    · obtain ⟨rfl, hS1⟩ := hgo
      have hle := restOf_len S1 hS1
      have hie : (!S1.isEmpty) = true := by
        rw [Bool.not_eq_true', List.isEmpty_eq_false_iff]; exact hS1
      have hLA : LibAt wr := HLA.out.below (HK.out.below (Below.refl 8 w) hg (by omega)) (Nat.le_refl _)
      have HNL := Lib.hid (nextLine_any g [] S1 wr HR.out hLA HS1.out)
      have HLL := Lib.hid (left_line S1)
      have HLo := Lib.hid (lineOf_len S1)
      rcases gk with _ | gk
      · exfalso; omega
      clear hS1 hLA
      go_wp2_with fail
      refine HNL.out.mono ?_
      rintro e w3 ⟨rfl, h3, hk3⟩
      have hd0 := h3.c0
      have H3 := Lib.hid h3
      have HK3 := Lib.hid (HK.out.trans hk3)
      clear h3 hk3 hc0 hc1 hfA
      go_wp2_with fail
      refine (trimLeft_any _ _).mono ?_
      rintro e w4 ⟨rfl, hB4⟩
      have h4 := H3.out.below hB4
      have he0 := h4.c0
      have hf4 := h4.f 0
      have H5 := Lib.hid (h4.set0 ((lineOf S1).dropWhile blankB))
      have HK5 := Lib.hid ((HK3.out.trans (Kept.of hB4)).trans (Kept.set (w := w4) (j := 0) (.string ⟨((lineOf S1).dropWhile blankB).toArray⟩)))
      clear h4 hB4 hd0
      go_wp2_with fail
      go_roundg gk
      case measure => omega
      case rel =>
        exact ⟨(lineOf S1).dropWhile blankB, restOf S1, by omega, H5.out, HK5.out, by show left _ _ = _; rw [left_trim, ← HLL.out]; exact HT.out, drop_idem _ _,
          by have := drop_len blankB (lineOf S1); have := HLo.out; have := HS1.out; show _ < _; omega, by have := HS1.out; show _ < _; omega⟩
    · have HEND : Hid (headW (left L S) = L1.takeWhile (fun c => !blankB c) ∧ left (L1.dropWhile (fun c => !blankB c)) S1 = (left L S).tail) := by
        unfold Hid
        rw [← HT.out]
        cases hL1 : L1 with
        | nil =>
          have : S1 = [] := by
            rcases S1 with _ | ⟨a, b⟩
            · rfl
            · exact absurd ⟨hL1, by simp⟩ hgo
          subst this
          exact ⟨rfl, rfl⟩
        | cons c cs =>
          have hb : blankB c = false := drop_head L1 c cs (by rw [HD.out, hL1])
          rw [left_next c cs S1 hb]
          exact ⟨rfl, rfl⟩
      have HI := Lib.hid (indexAny_any ⟨L1.toArray⟩ wr (by rw [size_mk]; exact HL1.out))
      have hidx := idxB_take L1
      have hl1 := HL1.out
      rcases hidx with ⟨hm1, htk, hdr⟩ | ⟨h0, hlen, htk, hdr⟩
      · have HTK := Lib.hid htk
        have HDR := Lib.hid hdr
        have HI2 := HI.out
        rw [list_mk, hm1] at HI2
        have HI3 := Lib.hid HI2
        clear HI2 HI hm1 htk hdr
        by_cases hle : L1 = []
        case' pos =>
          have hS1 : S1 = [] := by
            rcases S1 with _ | ⟨a, b⟩
            · rfl
            · exact absurd ⟨hle, by simp⟩ hgo
          have hie : L1.isEmpty = true := by rw [hle]; rfl
          have his : (!S1.isEmpty) = false := by rw [hS1]; rfl
          clear hle hS1
        case' neg =>
          have hie : L1.isEmpty = false := by rw [List.isEmpty_eq_false_iff]; exact hle
          clear hle
        all_goals
          clear hgo
          go_wp2_with fail
          refine HI3.out.mono ?_
          rintro e w3 ⟨rfl, hB3⟩
          have h3 := HR.out.below hB3
          have hd0 := h3.c0
          have hfd := h3.f 0
          have H3 := Lib.hid h3
          have HK3 := Lib.hid (HK.out.trans (Kept.of hB3))
          clear h3 hB3 hc0 hc1 hfA
          go_wp2_with fail
          go_ret
          have e1 : L1.take L1.length = L1.takeWhile (fun c => !blankB c) := by rw [HTK.out, List.take_length]
          refine ⟨?_, L1.dropWhile (fun c => !blankB c), S1, ?_, HEND.out.2, ?_, HS1.out, ?_⟩
          · show Ending.returned (.string (ByteArray.extract ⟨L1.toArray⟩ 0 L1.length)) = _
            rw [str_to e1, HEND.out.1]
          · rw [HDR.out]; exact H3.out.set0 []
          · have := drop_len (fun c => !blankB c) L1; omega
          · exact HK3.out.trans (Kept.set _)
      · have HTK := Lib.hid htk
        have HDR := Lib.hid hdr
        have hle : L1 ≠ [] ∨ L1 = [] := by by_cases h : L1 = [] <;> simp [h]
        have hie : L1.isEmpty = false := by
          rw [List.isEmpty_eq_false_iff]
          intro e
          subst e
          have : idxB [] = -1 := rfl
          omega
        obtain ⟨m, hm⟩ : ∃ m : Nat, idxB L1 = m := ⟨(idxB L1).toNat, by omega⟩
        have HI2 := HI.out
        rw [list_mk, hm] at HI2
        have HI3 := Lib.hid HI2
        rw [hm] at HTK HDR
        rw [hm] at hlen
        rw [Int.toNat_natCast] at HTK HDR
        clear HI2 HI htk hdr hgo hle hm h0
        go_wp2_with fail
        refine HI3.out.mono ?_
        rintro e w3 ⟨rfl, hB3⟩
        have h3 := HR.out.below hB3
        have hd0 := h3.c0
        have hfd := h3.f 0
        have H3 := Lib.hid h3
        have HK3 := Lib.hid (HK.out.trans (Kept.of hB3))
        clear h3 hB3 hc0 hc1 hfA
        go_wp2_with fail
        go_ret
        refine ⟨?_, L1.dropWhile (fun c => !blankB c), S1, ?_, HEND.out.2, ?_, HS1.out, ?_⟩
        · show Ending.returned (.string (ByteArray.extract ⟨L1.toArray⟩ 0 m)) = _
          rw [str_to HTK.out, HEND.out.1]
        · have := H3.out.set0 (L1.dropWhile (fun c => !blankB c))
          rw [← str_from HDR.out] at this
          exact this
        · have := drop_len (fun c => !blankB c) L1; omega
        · exact HK3.out.trans (Kept.set _)
end Go.Proofs.YtcfbnddoknpehaaGreatDoor
