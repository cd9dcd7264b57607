/- strings.IndexAny of a blank or a tabulator, in whatever text; TrimLeft, Cut at this program. -/
import Derived.Test.YtcfbnddoknpehaaGreatDoorRune
import Derived.Test.YtcfbnddoknpehaaGreatDoorWords
namespace Go.Proofs.YtcfbnddoknpehaaGreatDoor
open Go.RowKit Go.Shelf Go.Lib Words

/-- Where the first blank or tabulator is; -1, if there is none. -/
def idxB (l : List UInt8) : Int := if l.all (fun c => !blankB c) then -1 else (l.takeWhile (fun c => !blankB c)).length
theorem idxB_hit : ∀ (l : List UInt8) (i : Nat) (c : UInt8), l[i]? = some c → blankB c = true → (∀ j, j < i → ∀ d, l[j]? = some d → blankB d = false) → idxB l = i
  | [], i, c, h, _, _ => by simp at h
  | x :: xs, 0, c, h, hb, _ => by
    have e : x = c := by simpa using h
    subst e
    simp [idxB, hb]
  | x :: xs, i + 1, c, h, hb, hall => by
    have h0 : blankB x = false := hall 0 (by omega) x rfl
    have ih := idxB_hit xs i c (by simpa using h) hb (fun j hj d hd => hall (j + 1) (by omega) d (by simpa using hd))
    unfold idxB at ih ⊢
    by_cases ha : xs.all (fun c => !blankB c) = true
    · rw [if_pos ha] at ih; omega
    · rw [if_neg ha] at ih
      rw [if_neg (by simp only [List.all_cons, h0, Bool.not_false, Bool.true_and]; exact ha)]
      rw [List.takeWhile_cons]
      simp only [h0, Bool.not_false, if_true, List.length_cons]
      omega
theorem idxB_miss (l : List UInt8) (h : ∀ j, j < l.length → ∀ d, l[j]? = some d → blankB d = false) : idxB l = -1 := by
  unfold idxB
  rw [if_pos]
  rw [List.all_eq_true]
  intro c hc
  obtain ⟨j, hj, e⟩ := List.getElem_of_mem hc
  have := h j hj c (by rw [List.getElem?_eq_getElem hj, e])
  rw [this]; rfl
theorem idxB_any : ∀ l : List UInt8, Lib.indexAny l [32, 9] = idxB l
  | [] => rfl
  | x :: xs => by
    have ih := idxB_any xs
    have hc : ([32, 9] : List UInt8).contains x = blankB x := by
      unfold blankB
      simp
      rfl
    unfold Lib.indexAny
    rw [hc, ih]
    by_cases hb : blankB x = true
    · simp [hb, idxB]
    · simp only [Bool.not_eq_true] at hb
      unfold idxB
      rw [List.takeWhile_cons]
      simp only [hb, List.all_cons, Bool.not_false, Bool.true_and, if_true, Bool.false_eq_true, if_false]
      by_cases ha : xs.all (fun c => !blankB c) = true
      · simp [ha]
      · rw [if_neg ha, if_neg ha]
        rw [if_neg (by simp)]
        simp
theorem idxB_byte (x : UInt8) : decide (0 ≤ Lib.indexByte [32, 9] x) = blankB x := by
  unfold blankB
  simp only [Lib.indexByte]
  by_cases h1 : x = 32
  · subst h1; decide
  · by_cases h2 : x = 9
    · subst h2; decide
    · have a : ((32 : UInt8) == x) = false := by rw [beq_eq_false_iff_ne]; exact fun e => h1 e.symm
      have b : ((9 : UInt8) == x) = false := by rw [beq_eq_false_iff_ne]; exact fun e => h2 e.symm
      have c : (x == (32 : UInt8)) = false := by rw [beq_eq_false_iff_ne]; exact h1
      have d : (x == (9 : UInt8)) = false := by rw [beq_eq_false_iff_ne]; exact h2
      simp [a, b, c, d]
theorem blank_high {x : UInt8} (h : 128 ≤ x.toNat) : blankB x = false := by
  unfold blankB
  rw [Bool.or_eq_false_iff, beq_eq_false_iff_ne, beq_eq_false_iff_ne]
  constructor <;> (intro e; subst e; simp at h)

theorem get_high (s : ByteArray) (p : Nat) (h : p < s.size) (h2 : (s.get! p).toNat / 64 = 2) : 128 ≤ (s[p]'h).toNat := by
  have := get_at s p h
  rw [Nat.add_zero] at this
  rw [← this]; omega
theorem decode_span (s : ByteArray) (pos : Nat) (h : pos < s.size) (ha : 128 ≤ (s[pos]'h).toNat) :
    pos + (Utf8.decode s pos).2 ≤ s.size ∧ ∀ j (hj : j < s.size), pos < j → j < pos + (Utf8.decode s pos).2 → 128 ≤ (s[j]'hj).toNat := by
  have hn : ¬ (s[pos]'h).toNat < 128 := by omega
  simp only [Utf8.decode, get_at s pos h, hn, if_false]
  repeat' split
  all_goals first
    | (refine ⟨by simp; omega, fun j hj h1 h2 => ?_⟩; exfalso; simp at h2; omega)
    | skip
  · rename_i h1 h2
    simp only [Bool.and_eq_true, decide_eq_true_eq, beq_iff_eq] at h1
    refine ⟨by simp; omega, fun j hj a b => ?_⟩
    obtain rfl : j = pos + 1 := by simp at b; omega
    exact get_high s _ hj h1.2.2
  · rename_i h0 h1 h2
    simp only [Bool.and_eq_true, decide_eq_true_eq, beq_iff_eq] at h1
    refine ⟨by simp; omega, fun j hj a b => ?_⟩
    rcases (show j = pos + 1 ∨ j = pos + 2 by simp at b; omega) with rfl | rfl
    · exact get_high s _ hj h1.1.2.2
    · exact get_high s _ hj h1.2.2
  · rename_i h00 h0 h1 h2
    simp only [Bool.and_eq_true, decide_eq_true_eq, beq_iff_eq] at h1
    refine ⟨by simp; omega, fun j hj a b => ?_⟩
    rcases (show j = pos + 1 ∨ j = pos + 2 ∨ j = pos + 3 by simp at b; omega) with rfl | rfl | rfl
    · exact get_high s _ hj h1.1.1.2.2
    · exact get_high s _ hj h1.1.2.2
    · exact get_high s _ hj h1.2.2

theorem data_at (s : ByteArray) {j : Nat} {d : UInt8} (h : s.data.toList[j]? = some d) : ∃ hj : j < s.size, s[j]'hj = d := by
  obtain ⟨hj, e⟩ := List.getElem?_eq_some_iff.1 h
  have hj' : j < s.size := by rw [Lib.size_eq]; exact hj
  refine ⟨hj', ?_⟩
  rw [← e]
  simp
  rfl

set_option maxHeartbeats 3200000 in
set_option maxRecDepth 100000 in
theorem indexAny_short (s : ByteArray) (w : World) (h8 : s.size ≤ 8) :
    Calls Tryz.prog 50 #[.string s, .string ⟨#[32, 9]⟩] w fun e w' => e = .returned (.int .i64 (idxB s.data.toList)) ∧ Below w.heap.size w w' := by
  have h8z : decide ((8 : Int) < (s.size : Int)) = false := decide_eq_false (by omega)
  have HU := Lib.hid (fun n w => Any.strings_shouldUseASCIISet Tryz.lays226 n w)
  have HR := Lib.hid (fun r w => Any.strings_IndexRune_ascii Tryz.lays152 ⟨#[32, 9]⟩ r w)
  go_enter Tryz.func50, Tryz.ntmps50
  go_wp2_with (go_at_call 65; refine (HU.out _ _).mono ?_; rintro e w' ⟨rfl, rfl⟩; rw [h8z])
  go_loopg [9, 10] s.size (fun g _ _ wx => ∃ i : Nat, i ≤ s.size ∧ s.size - i ≤ g ∧ Hid (wx.heap[w'.heap.size]? = some (.stringIter s i)) ∧ Hid (Below w'.heap.size w' wx) ∧ Hid (w'.heap.size < wx.heap.size) ∧ Hid (∀ j, j < i → ∀ d, s.data.toList[j]? = some d → blankB d = false))
  case atStart => exact ⟨0, by omega, by omega, World.iter_heap _ _ _, (Below.refl _ _).alloc (Nat.le_refl _) _, by show _ < (w'.heap.push _).size; simp, fun j hj => absurd hj (by omega)⟩
  case round =>
    obtain ⟨i, hi, hg, HK, HB, HS, HN⟩ := hrel
    by_cases hlt : i < s.size
    · rcases gk with _ | g
      · exfalso; omega
      by_cases ha : (s[i]'hlt).toNat < 128
      · have hx : s.data.toList[i]? = some (s[i]'hlt) := Lib.data_getElem? s i hlt
        have hnx := fun ty => run_next_ascii_at (P := Tryz.prog) wr w'.heap.size s i ty HK.out hlt ha
        generalize s[i]'hlt = x at *
        have hcon := idxB_byte x
        have hback : ((x.toNat : Int)).toNat.toUInt8 = x := by simp
        have HX := Lib.hid hx
        clear hx
        have HK2 := Lib.hid (iterAt_heap wr w'.heap.size s i (i + 1) HK.out)
        have HB2 := Lib.hid (below_iterAt HB.out (Nat.le_refl _) s (i + 1))
        have HS2 : Hid (w'.heap.size < (wr.iterAt w'.heap.size s (i + 1)).heap.size) := by unfold Hid; rw [iterAt_size]; exact HS.out
        generalize wr.iterAt w'.heap.size s (i + 1) = w2 at *
        rcases hin : blankB x with _ | _
        · rw [hin] at hcon
          have hlt0 : ¬ ((0 : Int) ≤ Lib.indexByte [32, 9] x) := of_decide_eq_false hcon
          have HIN := Lib.hid hin
          clear hcon hin
          go_wp2_with (go_at_call 64; refine (HR.out _ _ (by omega) (by omega)).mono ?_; rintro e w3 ⟨rfl, rfl⟩; rw [hback])
          go_roundg g
          case measure => omega
          case rel =>
            refine ⟨i + 1, by omega, by omega, HK2.out, HB2.out, HS2.out, fun j hj d hd => ?_⟩
            by_cases e : j = i
            · subst e
              rw [HX.out] at hd
              injection hd with hd
              rw [← hd]; exact HIN.out
            · exact HN.out j (by omega) d hd
        · rw [hin] at hcon
          have hge : (0 : Int) ≤ Lib.indexByte [32, 9] x := of_decide_eq_true hcon
          have EV := Lib.hid (idxB_hit _ i x HX.out hin HN.out)
          clear hcon hin
          go_wp2_with (go_at_call 64; refine (HR.out _ _ (by omega) (by omega)).mono ?_; rintro e w3 ⟨rfl, rfl⟩; rw [hback])
          go_ret
          exact ⟨ret_int (by rw [EV.out]), HB2.out⟩
      · have hd1 := decode_high s i hlt (by omega)
        have hd2 := decode_le s i
        have hd3 := decode_span s i hlt (by omega)
        have hnx := fun ty => run_next_any_at (P := Tryz.prog) wr w'.heap.size s i ty HK.out hlt
        have HX : Hid (∀ j, i ≤ j → j < i + (Utf8.decode s i).2 → ∀ d, s.data.toList[j]? = some d → blankB d = false) := fun j h1 h2 d hd => by
          obtain ⟨hj, rfl⟩ := data_at s hd
          by_cases e : j = i
          · subst e; exact blank_high (by omega)
          · exact blank_high (hd3.2 j hj (by omega) h2)
        have hle := hd3.1
        clear hd3
        generalize (Utf8.decode s i).2 = wd at *
        obtain ⟨hr0, hwd⟩ := hd1
        generalize (Utf8.decode s i).1 = rn at *
        have HH := Lib.hid (fun W => indexRune_high rn W (by omega) (by omega))
        have HK2 := Lib.hid (iterAt_heap wr w'.heap.size s i (i + wd) HK.out)
        have HB2 := Lib.hid (below_iterAt HB.out (Nat.le_refl _) s (i + wd))
        have HS2 : Hid (w'.heap.size < (wr.iterAt w'.heap.size s (i + wd)).heap.size) := by unfold Hid; rw [iterAt_size]; exact HS.out
        generalize wr.iterAt w'.heap.size s (i + wd) = w2 at *
        go_wp2_with (go_at_call 64; refine (HH.out _).mono ?_; rintro e w3 ⟨rfl, hB3⟩; have HB3 := Lib.hid hB3; clear hB3)
        go_roundg (s.size - (i + wd))
        case measure => omega
        case rel =>
          refine ⟨i + wd, by omega, by omega, ?_, HB2.out.trans (HB3.out.mono HB2.out.size), Nat.lt_of_lt_of_le HS2.out HB3.out.size, fun j hj d hd => ?_⟩
          · show w3.heap[w'.heap.size]? = _
            rw [HB3.out.block _ HS2.out]; exact HK2.out
          · by_cases e : j < i
            · exact HN.out j e d hd
            · exact HX.out j (by omega) hj d hd
    · have hnx := fun ty => run_next_end_at (P := Tryz.prog) wr w'.heap.size s i ty HK.out hlt
      have EV := Lib.hid (idxB_miss s.data.toList (fun j hj d hd => HN.out j (by rw [← Lib.size_eq] at hj; omega) d hd))
      go_wp2
      go_ret
      exact ⟨ret_int (by rw [EV.out]), HB.out⟩

theorem ascii_two : ∀ (j : Nat) b, (⟨#[32, 9]⟩ : ByteArray).data.toList[j]? = some b → b.toNat < 128 := fun j b h => by
  match j, h with
  | 0, h => simp at h; subst h; decide
  | 1, h => simp at h; subst h; decide
theorem indexAny_any (s : ByteArray) (w : World) (hs : s.size < 4294967281) :
    Calls Tryz.prog 50 #[.string s, .string ⟨#[32, 9]⟩] w fun e w' => e = .returned (.int .i64 (idxB s.data.toList)) ∧ Below w.heap.size w w' := by
  by_cases h8 : s.size ≤ 8
  · exact indexAny_short s w h8
  · refine (Any.strings_IndexAny_long Tryz.lays153 (zero_of_info (n := 256) (by kernel_rfl)).1 (by kernel_rfl) s ⟨#[32, 9]⟩ w (by decide) (by omega) hs (by decide) ascii_two).mono ?_
    rintro e w' ⟨rfl, rfl⟩
    exact ⟨by rw [show (⟨#[32, 9]⟩ : ByteArray).data.toList = [32, 9] from rfl, idxB_any], ((Below.refl _ _).alloc (Nat.le_refl _) _).alloc (by simp) _⟩
end Go.Proofs.YtcfbnddoknpehaaGreatDoor
