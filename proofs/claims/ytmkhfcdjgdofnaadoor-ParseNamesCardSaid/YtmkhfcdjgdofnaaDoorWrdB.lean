/- Package word: begins, named, Kept, Name. -/
import Derived.Test.YtmkhfcdjgdofnaaDoorWrdA
import Derived.Lib.QuietBelow
namespace Go.Proofs.YtmkhfcdjgdofnaaDoor
open Go.RowKit WrdM

/-- The bytes of the code's own strings. -/
def letS : List UInt8 := [97, 98, 99, 100, 101, 102, 103, 104, 105, 106, 107, 108, 109, 110, 111, 112, 113, 114, 115, 116, 117, 118, 119, 120, 121, 122, 65, 66, 67, 68, 69, 70, 71, 72, 73, 74, 75, 76, 77, 78, 79, 80, 81, 82, 83, 84, 85, 86, 87, 88, 89, 90]
def digS : List UInt8 := [48, 49, 50, 51, 52, 53, 54, 55, 56, 57]
def namS : List UInt8 := [97, 98, 99, 100, 101, 102, 103, 104, 105, 106, 107, 108, 109, 110, 111, 112, 113, 114, 115, 116, 117, 118, 119, 120, 121, 122, 65, 66, 67, 68, 69, 70, 71, 72, 73, 74, 75, 76, 77, 78, 79, 80, 81, 82, 83, 84, 85, 86, 87, 88, 89, 90, 48, 49, 50, 51, 52, 53, 54, 55, 56, 57, 95]
theorem all_bytes {p q : UInt8 → Bool} (h : ∀ n : Nat, n < 256 → p (UInt8.ofNat n) = q (UInt8.ofNat n)) : p = q := by
  funext c
  have := h c.toNat (UInt8.toNat_lt c)
  rwa [UInt8.ofNat_toNat] at this
theorem letS_eq : letS.contains = letB := all_bytes (by decide +kernel)
theorem digS_eq : digS.contains = digB := all_bytes (by decide +kernel)
theorem namS_eq : namS.contains = namB := all_bytes (by decide +kernel)
theorem blkS_eq : ([32, 9, 10] : List UInt8).contains = blkB := all_bytes (by decide +kernel)
theorem endS_eq : (fun c => !(([10] : List UInt8).contains c)) = (fun c => !(c == 10)) := all_bytes (by decide +kernel)

theorem cell_box (w : World) (v : Value) (t : TypeId) : (w.drew.alloc (.cells #[v] t)).cell? ⟨w.heap.size, 0, none⟩ = some v := by
  have h := blk_new w.drew (.cells #[v] t)
  have e : w.drew.heap.size = w.heap.size := rfl
  rw [e] at h
  rw [Lib.cell_of_heap h]; rfl
set_option maxHeartbeats 1600000 in
theorem begins_any (x s : List UInt8) (w : World) :
    Calls Tryd.prog 66 #[.string ⟨s.toArray⟩, .string ⟨x.toArray⟩] w fun e w' => e = .returned (.bool (headB x.contains s)) ∧ Below w.heap.size w w' := by
  have HBA : Hid (Below w.heap.size w (w.drew.alloc (.cells #[.string ⟨x.toArray⟩] 9))) := (Below.drew (Below.refl _ _)).alloc (Nat.le_refl _) _
  have HB0 : Hid (Below w.heap.size w w.drew) := Below.drew (Below.refl _ _)
  cases s with
  | nil =>
    go_enter Tryd.func66, Tryd.ntmps66
    go_wp2_with fail
    refine wp_region_any (by kernel_rfl) ?_
    change wpAny _ _ _ _ _ _ _ (World.drew _)
    refine wpAny_take (i := 0) (v := ?_) rfl (by kernel_rfl) (by kernel_rfl) (by kernel_rfl) (fun _ _ _ h => h) (Or.inl ⟨by kernel_rfl, ?_⟩) ?_
    rotate_left 1
    · (intro w; go_simp <;> with_reducible rfl)
    go_simp
    refine wpAny_take (i := 1) (v := ?_) rfl (by kernel_rfl) (by kernel_rfl) (by kernel_rfl) (fun _ _ _ h => h) (Or.inl ⟨by kernel_rfl, ?_⟩) ?_
    rotate_left 1
    · (intro w; go_simp <;> with_reducible rfl)
    go_simp
    refine wpAny_take (i := 2) (v := ?_) rfl (by kernel_rfl) (by kernel_rfl) (by kernel_rfl) (fun _ _ _ h => h) (Or.inl ⟨by kernel_rfl, ?_⟩) ?_
    rotate_left 1
    · (intro w; go_simp <;> with_reducible rfl)
    go_simp
    refine wpAny_take (i := 3) (v := undef) rfl (by kernel_rfl) (by kernel_rfl) (by kernel_rfl) (fun _ _ _ h => h) (Or.inr ⟨by kernel_rfl, rfl⟩) ?_
    go_simp
    refine wpAny_take (i := 4) (v := undef) rfl (by kernel_rfl) (by kernel_rfl) (by kernel_rfl) (fun _ _ _ h => h) (Or.inr ⟨by kernel_rfl, rfl⟩) ?_
    go_simp
    refine wpAny_take (i := 5) (v := undef) rfl (by kernel_rfl) (by kernel_rfl) (by kernel_rfl) (fun _ _ _ h => h) (Or.inr ⟨by kernel_rfl, rfl⟩) ?_
    go_simp
    refine wpAny_take (i := 6) (v := undef) rfl (by kernel_rfl) (by kernel_rfl) (by kernel_rfl) (fun _ _ _ h => h) (Or.inr ⟨by kernel_rfl, rfl⟩) ?_
    go_simp
    refine wpAny_take (i := 7) (v := undef) rfl (by kernel_rfl) (by kernel_rfl) (by kernel_rfl) (fun _ _ _ h => h) (Or.inr ⟨by kernel_rfl, rfl⟩) ?_
    go_simp
    refine wpAny_take (i := 8) (v := ?_) rfl (by kernel_rfl) (by kernel_rfl) (by kernel_rfl) (fun _ _ _ h => h) (Or.inl ⟨by kernel_rfl, ?_⟩) ?_
    rotate_left 1
    · (intro w; go_simp <;> with_reducible rfl)
    go_simp
    refine wpAny_take (i := 9) (v := ?_) rfl (by kernel_rfl) (by kernel_rfl) (by kernel_rfl) (fun _ _ _ h => h) (Or.inl ⟨by kernel_rfl, ?_⟩) ?_
    rotate_left 1
    · (intro w; go_simp <;> with_reducible rfl)
    go_simp
    refine wpAny_done (by kernel_rfl) ?_ _
    go_wp2_with fail
    go_ret
    exact ⟨rfl, HB0.out⟩
  | cons c cs =>
  obtain ⟨sb, hsb⟩ : ∃ sb : ByteArray, sb = ⟨(c :: cs).toArray⟩ := ⟨_, rfl⟩
  have hn : 0 < sb.size := by rw [hsb, size_mk]; simp
  have hg : sb[0]'hn = c := by subst hsb; exact get_mk (c :: cs) 0 (by rw [size_mk]; simp)
  have hne : (sb.toList == []) = false := by rw [hsb]; simp
  show Calls _ _ _ _ fun e w' => e = .returned (.bool (x.contains c)) ∧ _
  have HIN : Hid (∀ (g : Nat) (W : World), W.cell? ⟨g, 0, none⟩ = some (.string ⟨x.toArray⟩) → Calls Tryd.prog 86 #[.int .u8 (c.toNat : Int), .pointer (some ⟨g, 0, none⟩)] W fun e w' => e = .returned (.bool (x.contains c)) ∧ W = w') := fun g W h => in_any x g c W h
  rw [← hsb]
  clear hsb
  generalize x.contains c = bb at *
  go_enter Tryd.func66, Tryd.ntmps66
  go_wp2_with fail
  refine wp_region_any (by kernel_rfl) ?_
  change wpAny _ _ _ _ _ _ _ (World.drew _)
  refine wpAny_take (i := 0) (v := ?_) rfl (by kernel_rfl) (by kernel_rfl) (by kernel_rfl) (fun _ _ _ h => h) (Or.inl ⟨by kernel_rfl, ?_⟩) ?_
  rotate_left 1
  · (intro w; go_simp <;> with_reducible rfl)
  go_simp
  refine wpAny_take (i := 1) (v := ?_) rfl (by kernel_rfl) (by kernel_rfl) (by kernel_rfl) (fun _ _ _ h => h) (Or.inl ⟨by kernel_rfl, ?_⟩) ?_
  rotate_left 1
  · (intro w; go_simp <;> with_reducible rfl)
  go_simp
  refine wpAny_take (i := 2) (v := ?_) rfl (by kernel_rfl) (by kernel_rfl) (by kernel_rfl) (fun _ _ _ h => h) (Or.inl ⟨by kernel_rfl, ?_⟩) ?_
  rotate_left 1
  · (intro w; go_simp <;> with_reducible rfl)
  go_simp
  refine wpAny_take (i := 3) (v := ?_) rfl (by kernel_rfl) (by kernel_rfl) (by kernel_rfl) (fun _ _ _ h => h) (Or.inl ⟨by kernel_rfl, ?_⟩) ?_
  rotate_left 1
  · (intro w; go_simp <;> with_reducible rfl)
  go_simp
  refine wpAny_take (i := 5) (v := ?_) rfl (by kernel_rfl) (by kernel_rfl) (by kernel_rfl) (fun _ _ _ h => h) (Or.inl ⟨by kernel_rfl, ?_⟩) ?_
  rotate_left 1
  · (intro w; go_simp <;> with_reducible rfl)
  go_simp
  refine wpAny_take (i := 6) (v := ?_) rfl (by kernel_rfl) (by kernel_rfl) (by kernel_rfl) (fun _ _ _ h => h) (Or.inl ⟨by kernel_rfl, ?_⟩) ?_
  rotate_left 1
  · (intro w; go_simp <;> with_reducible rfl)
  go_simp
  refine wpAny_ready (rs := [4]) (by kernel_rfl) (by simp) ?_
  refine AllReady.cons rfl (fun K hK => ?_) ?_
  ·
    go_simp
    go_at_call 63
    refine (oneOf_any ⟨x.toArray⟩ _).mono ?_
    rintro e w1 ⟨rfl, hw1⟩
    have hc1 : w1.cell? ⟨w.heap.size, 0, none⟩ = some (.string ⟨x.toArray⟩) := by rw [← hw1]; exact cell_box _ _ _
    have HB1 : Hid (Below w.heap.size w w1) := by rw [← hw1]; exact HBA.out
    have HI := Lib.hid (HIN.out w.heap.size w1 hc1)
    clear hw1 hc1
    refine hK _ _ ?_; clear hK K
    refine wpAny_ready (rs := [7]) (by kernel_rfl) (by simp) ?_
    refine AllReady.cons rfl (fun K hK => ?_) ?_
    ·
      go_simp
      go_at_call 86
      refine HI.out.mono ?_
      rintro e w2 ⟨rfl, rfl⟩
      refine hK _ _ ?_; clear hK K
      refine wpAny_take (i := 8) (v := ?_) rfl (by kernel_rfl) (by kernel_rfl) (by kernel_rfl) (fun _ _ _ h => h) (Or.inl ⟨by kernel_rfl, ?_⟩) ?_
      rotate_left 1
      · (intro w; go_simp <;> with_reducible rfl)
      go_simp
      refine wpAny_take (i := 9) (v := ?_) rfl (by kernel_rfl) (by kernel_rfl) (by kernel_rfl) (fun _ _ _ h => h) (Or.inl ⟨by kernel_rfl, ?_⟩) ?_
      rotate_left 1
      · (intro w; go_simp <;> with_reducible rfl)
      go_simp
      refine wpAny_done (by kernel_rfl) ?_ _
      go_wp2_with fail
      go_ret
      exact ⟨rfl, HB1.out⟩
    exact AllReady.nil
  exact AllReady.nil

theorem cell_box0 (w : World) (v : Value) (t : TypeId) : (w.alloc (.cells #[v] t)).cell? ⟨w.heap.size, 0, none⟩ = some v := by
  rw [Lib.cell_of_heap (blk_new w _)]; rfl
theorem namS_lit : (⟨#[97, 98, 99, 100, 101, 102, 103, 104, 105, 106, 107, 108, 109, 110, 111, 112, 113, 114, 115, 116, 117, 118, 119, 120, 121, 122, 65, 66, 67, 68, 69, 70, 71, 72, 73, 74, 75, 76, 77, 78, 79, 80, 81, 82, 83, 84, 85, 86, 87, 88, 89, 90, 48, 49, 50, 51, 52, 53, 54, 55, 56, 57, 95]⟩ : ByteArray) = ⟨namS.toArray⟩ := rfl
set_option maxHeartbeats 1600000 in
theorem named_any (s : List UInt8) (w : World) (hs : s.length ≤ 9223372036854775807) :
    Calls Tryd.prog 68 #[.string ⟨s.toArray⟩] w fun e w' => e = .returned (.string ⟨(s.takeWhile namB).toArray⟩) ∧ Below w.heap.size w w' := by
  have HO := Lib.hid (oneOf_any ⟨namS.toArray⟩ w)
  have HF := Lib.hid (firstIn_any namS s w.heap.size (w.alloc (.cells #[.string ⟨namS.toArray⟩] 9)) (cell_box0 _ _ _) hs)
  have HB := Lib.hid (below_alloc w (.cells #[.string ⟨namS.toArray⟩] 9))
  rw [namS_eq] at HF
  generalize w.alloc (.cells #[.string ⟨namS.toArray⟩] 9) = w1 at *
  go_enter Tryd.func68, Tryd.ntmps68
  go_wp2_with fail
  refine HO.out.mono ?_
  rintro e w' ⟨rfl, rfl⟩
  go_wp2_with fail
  refine HF.out.mono ?_
  rintro e w' ⟨rfl, rfl⟩
  go_wp2_with fail
  go_ret
  exact ⟨rfl, HB.out⟩

theorem not_kept {s : List UInt8} (hk : keptB s = false) {x : List UInt8} (hx : keptL.contains x = true) : (s == x) = false := by
  rw [Bool.eq_false_iff]
  intro h
  rw [beq_iff_eq] at h; subst h
  rw [show keptB s = keptL.contains s from rfl, hx] at hk
  cases hk
set_option maxHeartbeats 3200000 in
set_option maxRecDepth 100000 in
theorem kept_any (s : List UInt8) (w : World) :
    Calls Tryd.prog 90 #[.string ⟨s.toArray⟩] w fun e w' => e = .returned (.bool (keptB s)) ∧ w = w' := by
  obtain ⟨sb, hsb⟩ : ∃ sb : ByteArray, sb = ⟨s.toArray⟩ := ⟨_, rfl⟩
  have HS : Hid (sb.toList = s) := by rw [hsb]; show ByteArray.toList _ = s; rw [Lib.toList_data]
  rw [← hsb]
  clear hsb
  rcases hk : keptB s with _ | _
  · have HK := Lib.hid hk
    have f0 : (sb.toList == [101, 110, 117, 109]) = false := by rw [HS.out]; exact not_kept hk (by decide)
    have f1 : (sb.toList == [118, 97, 114]) = false := by rw [HS.out]; exact not_kept hk (by decide)
    have f2 : (sb.toList == [98, 111, 111, 108]) = false := by rw [HS.out]; exact not_kept hk (by decide)
    have f3 : (sb.toList == [112, 114, 111, 99, 101, 115, 115]) = false := by rw [HS.out]; exact not_kept hk (by decide)
    have f4 : (sb.toList == [119, 104, 101, 110]) = false := by rw [HS.out]; exact not_kept hk (by decide)
    have f5 : (sb.toList == [100, 111]) = false := by rw [HS.out]; exact not_kept hk (by decide)
    have f6 : (sb.toList == [116, 114, 117, 101]) = false := by rw [HS.out]; exact not_kept hk (by decide)
    have f7 : (sb.toList == [102, 97, 108, 115, 101]) = false := by rw [HS.out]; exact not_kept hk (by decide)
    have f8 : (sb.toList == [88]) = false := by rw [HS.out]; exact not_kept hk (by decide)
    have f9 : (sb.toList == [70]) = false := by rw [HS.out]; exact not_kept hk (by decide)
    have f10 : (sb.toList == [71]) = false := by rw [HS.out]; exact not_kept hk (by decide)
    have f11 : (sb.toList == [85]) = false := by rw [HS.out]; exact not_kept hk (by decide)
    have f12 : (sb.toList == [82]) = false := by rw [HS.out]; exact not_kept hk (by decide)
    have f13 : (sb.toList == [89]) = false := by rw [HS.out]; exact not_kept hk (by decide)
    have f14 : (sb.toList == [90]) = false := by rw [HS.out]; exact not_kept hk (by decide)
    have f15 : (sb.toList == [79]) = false := by rw [HS.out]; exact not_kept hk (by decide)
    have f16 : (sb.toList == [72]) = false := by rw [HS.out]; exact not_kept hk (by decide)
    have f17 : (sb.toList == [83]) = false := by rw [HS.out]; exact not_kept hk (by decide)
    have f18 : (sb.toList == [84]) = false := by rw [HS.out]; exact not_kept hk (by decide)
    clear hk
    go_enter Tryd.func90, Tryd.ntmps90
    go_wp2_with fail
    go_ret
    exact ⟨rfl, rfl⟩
  · have hm : s ∈ keptL := by
      have : keptL.contains s = true := hk
      simpa using this
    simp only [keptL, List.mem_cons, List.not_mem_nil, or_false] at hm
    clear hk
    rcases hm with rfl | rfl | rfl | rfl | rfl | rfl | rfl | rfl | rfl | rfl | rfl | rfl | rfl | rfl | rfl | rfl | rfl | rfl | rfl
    all_goals
      have hS := HS.out
      go_enter Tryd.func90, Tryd.ntmps90
      go_wp2_with fail
      go_ret
      exact ⟨rfl, rfl⟩

/-- Can it be a name? -/
def nameB (s : List UInt8) : Bool := decide (s.length ≤ 32) && (headB letB s && (s.all namB && !keptB s))
theorem takeW_self (p : UInt8 → Bool) : ∀ s : List UInt8, (s.takeWhile p == s) = s.all p
  | [] => rfl
  | c :: cs => by
    rw [List.takeWhile_cons, List.all_cons]
    by_cases h : p c = true
    · rw [if_pos h, h, Bool.true_and, ← takeW_self p cs]; simp
    · simp only [Bool.not_eq_true] at h
      rw [h]; simp
set_option maxHeartbeats 1600000 in
theorem name_any (s : List UInt8) (w : World) (hs : s.length ≤ 9223372036854775807) :
    Calls Tryd.prog 92 #[.string ⟨s.toArray⟩] w fun e w' => e = .returned (.bool (nameB s)) ∧ Below w.heap.size w w' := by
  have HBG := fun W => begins_any letS s W
  rw [letS_eq] at HBG
  have HB := Lib.hid HBG
  have HN := Lib.hid fun W => named_any s W hs
  have HK := Lib.hid (kept_any s)
  have HT := Lib.hid (takeW_self namB s)
  obtain ⟨b1, hb1⟩ : ∃ b1, b1 = decide (s.length ≤ 32) := ⟨_, rfl⟩
  have hl : decide ((s.length : Int) ≤ 32) = b1 := by rw [hb1]; apply decide_eq_decide.2; omega
  have HE : Hid (nameB s = (b1 && (headB letB s && (s.all namB && !keptB s)))) := by unfold Hid nameB; rw [hb1]
  have HTK : Hid ((⟨(s.takeWhile namB).toArray⟩ : ByteArray).toList = s.takeWhile namB) := by show ByteArray.toList _ = _; rw [Lib.toList_data]
  obtain ⟨sb, hsb⟩ : ∃ sb : ByteArray, sb = ⟨s.toArray⟩ := ⟨_, rfl⟩
  have hn : (sb.size : Int) = (s.length : Int) := by rw [hsb, size_mk]
  have HSL : Hid (sb.toList = s) := by rw [hsb]; show ByteArray.toList _ = s; rw [Lib.toList_data]
  rw [← hsb] at HB HN HK ⊢
  generalize (⟨(s.takeWhile namB).toArray⟩ : ByteArray) = tb at *
  have hte : (tb.toList == sb.toList) = s.all namB := by rw [HTK.out, HSL.out]; exact HT.out
  have HTE := Lib.hid hte
  generalize headB letB s = b2 at *
  generalize s.all namB = b3 at *
  generalize keptB s = b4 at *
  clear HBG hsb hb1 hte HT HTK HSL
  rcases b1 with _ | _
  · go_enter Tryd.func92, Tryd.ntmps92
    go_wp2_with fail
    go_ret
    exact ⟨ret_bool HE.out.symm, Below.refl _ _⟩
  rcases b2 with _ | _
  · go_enter Tryd.func92, Tryd.ntmps92
    go_wp2_with fail
    refine (HB.out _).mono ?_
    rintro e w1 ⟨rfl, hB1⟩
    have HB1 := Lib.hid hB1
    clear hB1
    go_wp2_with fail
    go_ret
    exact ⟨ret_bool HE.out.symm, HB1.out⟩
  have hte := HTE.out
  rcases b3 with _ | _
  · go_enter Tryd.func92, Tryd.ntmps92
    go_wp2_with fail
    refine (HB.out _).mono ?_
    rintro e w1 ⟨rfl, hB1⟩
    have HB1 := Lib.hid hB1
    clear hB1
    go_wp2_with fail
    refine (HN.out _).mono ?_
    rintro e w2 ⟨rfl, hB2⟩
    have HB2 := Lib.hid (HB1.out.trans (hB2.mono HB1.out.size))
    clear hB2
    go_wp2_with fail
    go_ret
    exact ⟨ret_bool HE.out.symm, HB2.out⟩
  · go_enter Tryd.func92, Tryd.ntmps92
    go_wp2_with fail
    refine (HB.out _).mono ?_
    rintro e w1 ⟨rfl, hB1⟩
    have HB1 := Lib.hid hB1
    clear hB1
    go_wp2_with fail
    refine (HN.out _).mono ?_
    rintro e w2 ⟨rfl, hB2⟩
    have HB2 := Lib.hid (HB1.out.trans (hB2.mono HB1.out.size))
    clear hB2
    go_wp2_with fail
    refine (HK.out _).mono ?_
    rintro e w3 ⟨rfl, rfl⟩
    go_wp2_with fail
    go_ret
    exact ⟨ret_bool HE.out.symm, HB2.out⟩
end Go.Proofs.YtmkhfcdjgdofnaaDoor
