/- The contracts of cnf.remark, of the reader's nextLine; the frame of the reader's calls. -/
import Derived.Test.YtcfbnddoknpehaaGreatDoorIndex
import Derived.WalkSmall
namespace Go.Proofs.YtcfbnddoknpehaaGreatDoor
open Go.RowKit Go.Shelf Go.Lib Words

theorem mk_list (s : ByteArray) : (⟨s.data.toList.toArray⟩ : ByteArray) = s := by cases s; simp
theorem list_mk (l : List UInt8) : (⟨l.toArray⟩ : ByteArray).data.toList = l := by simp
theorem size_mk (l : List UInt8) : (⟨l.toArray⟩ : ByteArray).size = l.length := by rw [Lib.size_eq]

theorem remarkB_one {l : List UInt8} (h : l = [99]) : remarkB l = true := by subst h; rfl
theorem remarkB_two {l : List UInt8} (h : hasPrefix l [99, 32] = true) : remarkB l = true := by
  match l, h with
  | [], h => cases h
  | [c], h => simp [hasPrefix] at h
  | c :: d :: t, h =>
    simp [hasPrefix] at h
    simp [remarkB, ← h.1, ← h.2, blankB]
theorem remarkB_no {l : List UInt8} (h1 : ¬ l = [99]) (h2 : hasPrefix l [99, 32] = false) : remarkB l = hasPrefix l [99, 9] := by
  match l, h1, h2 with
  | [], _, _ => rfl
  | [c], h1, _ =>
    have : (c == 99) = false := by rw [beq_eq_false_iff_ne]; intro e; subst e; exact h1 rfl
    simp [remarkB, hasPrefix, List.isPrefixOf, this]
  | c :: d :: t, _, h2 =>
    simp only [hasPrefix, List.isPrefixOf, Bool.and_true] at h2
    simp only [remarkB, hasPrefix, List.isPrefixOf, Bool.and_true, blankB]
    by_cases hc : c = 99
    · subst hc
      by_cases hd : d = 32
      · subst hd; simp at h2
      · have h3 : (d == 32) = false := by rw [beq_eq_false_iff_ne]; exact hd
        rw [h3, Bool.false_or]
        by_cases h4 : d = 9
        · subst h4; first | done | rfl
        · have h5 : (d == 9) = false := by rw [beq_eq_false_iff_ne]; exact h4
          have h6 : ((9 : UInt8) == d) = false := by rw [beq_eq_false_iff_ne]; exact fun e => h4 e.symm
          rw [h5, h6]
          try rfl
    · have h3 : (c == 99) = false := by rw [beq_eq_false_iff_ne]; exact hc
      have h4 : ((99 : UInt8) == c) = false := by rw [beq_eq_false_iff_ne]; exact fun e => hc e.symm
      rw [h3, h4]
      try rfl

set_option maxHeartbeats 800000 in
theorem remark_any (s : ByteArray) (w : World) :
    Calls Tryz.prog 63 #[.string s] w fun e w' => e = .returned (.bool (remarkB s.data.toList)) ∧ w = w' := by
  have HP := Lib.hid (fun p w => Any.strings_HasPrefix Tryz.lays99 s p w)
  have HL := Lib.hid (Lib.toList_data s)
  go_enter Tryz.func63, Tryz.ntmps63
  go_wp2_with (go_at_call 81; refine (HP.out _ _).mono ?_; rintro e w' ⟨rfl, rfl⟩)
  · rename_i h
    go_ret
    exact ⟨ret_bool (by rw [remarkB_one (by rw [← HL.out]; exact h)]), rfl⟩
  · rename_i h1 h2
    go_ret
    exact ⟨ret_bool (by rw [remarkB_two h2]), rfl⟩
  · rename_i h1 h2
    go_ret
    exact ⟨ret_bool (by rw [remarkB_no (by rw [← HL.out]; exact h1) h2]), rfl⟩

/-- Behind a call that writes into block g alone, and makes new blocks. -/
structure Kept (g : Nat) (w w' : World) : Prop where
  os : w'.os = w.os
  tape : w'.tape = w.tape
  output : w'.output = w.output
  size : w.heap.size ≤ w'.heap.size
  block : ∀ k, k < w.heap.size → k ≠ g → w'.heap[k]? = w.heap[k]?
theorem Kept.refl (g : Nat) (w : World) : Kept g w w := ⟨rfl, rfl, rfl, Nat.le_refl _, fun _ _ _ => rfl⟩
theorem Kept.trans {g : Nat} {a b c : World} (h : Kept g a b) (k : Kept g b c) : Kept g a c :=
  ⟨k.os.trans h.os, k.tape.trans h.tape, k.output.trans h.output, Nat.le_trans h.size k.size, fun i hi hg => (k.block i (Nat.lt_of_lt_of_le hi h.size) hg).trans (h.block i hi hg)⟩
theorem Kept.of {g : Nat} {w w' : World} (h : Below w.heap.size w w') : Kept g w w' := ⟨h.os, h.tape, h.output, h.size, fun k hk _ => h.block k hk⟩
theorem Kept.set {w : World} {g j : Nat} (v : Value) : Kept g w (w.setCell ⟨g, j, none⟩ v) :=
  ⟨rfl, rfl, rfl, by simp [World.setCell], fun k _ hk => Below.heap_setCell w ⟨g, j, none⟩ v k hk⟩
theorem Kept.below {g B : Nat} {a w w' : World} (h : Kept g w w') (hb : Below B a w) (hg : B ≤ g) (hB : B ≤ w.heap.size) : Below B a w' :=
  hb.trans ⟨h.os, h.tape, h.output, by have := h.size; omega, fun k hk => h.block k (by omega) (by omega)⟩

/-- The reader, in block g: what is left of its line, and the lines behind it. -/
def RdrAt (g : Nat) (L S : List UInt8) (w : World) : Prop := w.heap[g]? = some (.cells #[.string ⟨L.toArray⟩, .string ⟨S.toArray⟩] 67 (0, 0))
theorem RdrAt.lt {g : Nat} {L S : List UInt8} {w : World} (h : RdrAt g L S w) : g < w.heap.size := by
  rcases Nat.lt_or_ge g w.heap.size with h' | h'
  · exact h'
  · unfold RdrAt at h; simp [Array.getElem?_eq_none h'] at h
theorem RdrAt.c0 {g : Nat} {L S : List UInt8} {w : World} (h : RdrAt g L S w) : w.cell? ⟨g, 0, none⟩ = some (.string ⟨L.toArray⟩) := by rw [Lib.cell_of_heap h]; rfl
theorem RdrAt.c1 {g : Nat} {L S : List UInt8} {w : World} (h : RdrAt g L S w) : w.cell? ⟨g, 1, none⟩ = some (.string ⟨S.toArray⟩) := by rw [Lib.cell_of_heap h]; rfl
theorem RdrAt.f {g : Nat} {L S : List UInt8} {w : World} (h : RdrAt g L S w) (j : Nat) : w.frozen? ⟨g, j, none⟩ = false := Lib.frozen_of_heap h j
theorem RdrAt.set0 {g : Nat} {L S : List UInt8} {w : World} (h : RdrAt g L S w) (M : List UInt8) : RdrAt g M S (w.setCell ⟨g, 0, none⟩ (.string ⟨M.toArray⟩)) := by
  unfold RdrAt at *
  simp [World.setCell, Array.getElem?_modify, h]
theorem RdrAt.set1 {g : Nat} {L S : List UInt8} {w : World} (h : RdrAt g L S w) (M : List UInt8) : RdrAt g L M (w.setCell ⟨g, 1, none⟩ (.string ⟨M.toArray⟩)) := by
  unfold RdrAt at *
  simp [World.setCell, Array.getElem?_modify, h]
theorem RdrAt.below {g : Nat} {L S : List UInt8} {w w' : World} (h : RdrAt g L S w) (hb : Below w.heap.size w w') : RdrAt g L S w' := by
  have := h.lt
  unfold RdrAt at *
  rw [hb.block g this]; exact h
theorem RdrAt.drewN {g : Nat} {L S : List UInt8} {w : World} (h : RdrAt g L S w) (q : Nat) : RdrAt g L S (w.drewN q) := h

/-- What the library's variables hold. -/
structure LibAt (w : World) : Prop where
  maxLen : ∃ m, w.cell? ⟨1, 0, none⟩ = some (.int .i64 m)
  errSyn : ∃ ev, w.cell? ⟨2, 0, none⟩ = some ev ∧ (ev = .nilIface ∨ ∃ te pe, ev = .iface te pe)
  pow : Lib.TabIs Tryz.prog w "internal/strconv.uint64pow10" .u64 Lib.pow10Tab
theorem LibAt.below {B : Nat} {w w' : World} (h : LibAt w) (hb : Below B w w') (hB : 8 ≤ B) : LibAt w' := by
  obtain ⟨m, hm⟩ := h.maxLen
  obtain ⟨ev, he, hev⟩ := h.errSyn
  refine ⟨⟨m, (hb.cell (p := ⟨1, 0, none⟩) (by show 1 < B; omega)).trans hm⟩, ⟨ev, (hb.cell (p := ⟨2, 0, none⟩) (by show 2 < B; omega)).trans he, hev⟩, ?_⟩
  exact var?_below hb (by kernel_rfl) (show 0 < B by omega) h.pow

theorem index_nl : ∀ l : List UInt8, Lib.index l [10] = if l.all (fun c => !(c == 10)) then -1 else ((l.takeWhile (fun c => !(c == 10))).length : Int)
  | [] => rfl
  | b :: l => by
    have ih := index_nl l
    unfold Lib.index
    simp only [List.isPrefixOf, Bool.and_true]
    rw [ih, List.all_cons, List.takeWhile_cons]
    by_cases hb : b = 10
    · subst hb; simp
    · have h1 : ((10 : UInt8) == b) = false := by rw [beq_eq_false_iff_ne]; exact fun e => hb e.symm
      have h2 : (b == (10 : UInt8)) = false := by rw [beq_eq_false_iff_ne]; exact hb
      rw [h1, h2]
      simp only [Bool.false_eq_true, if_false, Bool.not_false, Bool.true_and, if_true]
      by_cases ha : l.all (fun c => !(c == 10)) = true
      · rw [if_pos ha, if_pos ha]; rfl
      · rw [if_neg ha, if_neg ha, if_neg (by simp)]
        simp
theorem takeWhile_all (p : UInt8 → Bool) : ∀ l : List UInt8, l.all p = true → l.takeWhile p = l
  | [], _ => rfl
  | c :: cs, h => by
    rw [List.all_cons, Bool.and_eq_true] at h
    rw [List.takeWhile_cons, if_pos h.1, takeWhile_all p cs h.2]
theorem cut_nl (l : List UInt8) : (Lib.cut l [10]).1 = l.takeWhile (fun c => !(c == 10)) ∧ (Lib.cut l [10]).2.1 = restOf l := by
  unfold Lib.cut restOf
  rw [index_nl]
  have htd := List.takeWhile_append_dropWhile (p := fun c : UInt8 => !(c == 10)) (l := l)
  by_cases ha : l.all (fun c => !(c == 10)) = true
  · rw [if_pos ha, if_neg (by decide)]
    have h1 : l.takeWhile (fun c => !(c == 10)) = l := takeWhile_all _ l ha
    have h2 : l.dropWhile (fun c => !(c == 10)) = [] := by
      rw [h1] at htd
      exact List.append_right_eq_self.1 htd
    exact ⟨h1.symm, by rw [h2]; rfl⟩
  · rw [if_neg ha, if_pos (by omega)]
    simp only [Int.toNat_natCast]
    have e1 : l.take (l.takeWhile (fun c => !(c == 10))).length = l.takeWhile (fun c => !(c == 10)) := by
      conv => lhs; arg 2; rw [← htd]
      rw [List.take_left]
    have e2 : l.drop (l.takeWhile (fun c => !(c == 10))).length = l.dropWhile (fun c => !(c == 10)) := by
      conv => lhs; arg 2; rw [← htd]
      rw [List.drop_left]
    refine ⟨e1, ?_⟩
    rw [List.length_singleton, ← List.drop_drop, e2, List.drop_one]

set_option maxHeartbeats 1600000 in
theorem nextLine_any (g : Nat) (L S : List UInt8) (w : World) (h : RdrAt g L S w) (hl : LibAt w) (hS : S.length < 4294967281) :
    Calls Tryz.prog 49 #[.pointer (some ⟨g, 0, none⟩)] w fun e w' => e = .returned (.tuple #[]) ∧ RdrAt g (lineOf S) (restOf S) w' ∧ Kept g w w' := by
  obtain ⟨m, hm⟩ := hl.maxLen
  have hc0 := h.c0
  have hc1 := h.c1
  have hf0 := h.f 0
  have hf1 := h.f 1
  have hcut := Any.strings_Cut Tryz.lays145 ⟨S.toArray⟩ ⟨#[10]⟩ m w (by rw [size_mk]; exact hS) hm
  rw [list_mk, show (⟨#[10]⟩ : ByteArray).data.toList = [10] from rfl, (cut_nl S).1, (cut_nl S).2] at hcut
  generalize (Lib.cut S [10]).2.2 = fnd at *
  have HC := Lib.hid hcut
  have HRM := Lib.hid (fun w => remark_any ⟨(S.takeWhile (fun c => !(c == 10))).toArray⟩ w)
  have HLO : Hid (lineOf S = if remarkB (S.takeWhile (fun c => !(c == 10))) then [] else S.takeWhile (fun c => !(c == 10))) := rfl
  have HH := Lib.hid h
  generalize lineOf S = lo at *
  generalize restOf S = ro at *
  generalize S.takeWhile (fun c => !(c == 10)) = tw at *
  clear hcut h hm hl
  go_enter Tryz.func49, Tryz.ntmps49
  go_wp2_with (go_at_call 62; refine HC.out.mono ?_; rintro e w' ⟨rfl, q, rfl⟩)
  have h1 := ((HH.out.drewN q).set0 tw).set1 ro
  have hk1 : Kept g w (((w.drewN q).setCell ⟨g, 0, none⟩ (.string ⟨tw.toArray⟩)).setCell ⟨g, 1, none⟩ (.string ⟨ro.toArray⟩)) := ((Kept.of (below_drewN (Below.refl _ w) q)).trans (Kept.set _)).trans (Kept.set _)
  generalize ((w.drewN q).setCell ⟨g, 0, none⟩ (.string ⟨tw.toArray⟩)).setCell ⟨g, 1, none⟩ (.string ⟨ro.toArray⟩) = W1 at *
  refine (HRM.out _).mono ?_
  rintro e w' ⟨rfl, rfl⟩
  have hd0 := h1.c0
  have hg0 := h1.f 0
  have H1 := Lib.hid h1
  have HK1 := Lib.hid hk1
  clear h1 hk1 hc0 hc1 hf0 hf1
  rcases hr : remarkB tw with _ | _
  · rw [hr] at HLO
    have HO := Lib.hid HLO.out
    clear hr HLO
    go_wp2_with fail
    go_end0
    exact ⟨rfl, by rw [HO.out]; exact H1.out, HK1.out⟩
  · rw [hr] at HLO
    have HO := Lib.hid HLO.out
    clear hr HLO
    go_wp2_with fail
    go_end0
    exact ⟨rfl, by rw [HO.out]; exact H1.out.set0 [], HK1.out.trans (Kept.set _)⟩
end Go.Proofs.YtcfbnddoknpehaaGreatDoor
