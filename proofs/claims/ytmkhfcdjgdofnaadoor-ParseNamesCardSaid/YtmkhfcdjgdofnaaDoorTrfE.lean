/- The plain answer of layer 14: small, Right, Writable. -/
import Derived.Test.YtmkhfcdjgdofnaaDoorTrfC
import Derived.Test.YtmkhfcdjgdofnaaDoorTreI
namespace Go.Proofs.YtmkhfcdjgdofnaaDoor
open Go.RowKit TreM WrdM

/-- What comes out and where, of a plain question about an expression. -/
theorem pright_any (X : Ex) (v : Value) (w : World) (h : ExV w X v) (hs : size X ≤ 4611686018427387904) :
    Calls Tryd.prog 17 #[v] w fun e w' => e = .returned (.bool (rightB X)) ∧ Below w.heap.size w w' := by
  obtain ⟨o, n, s, ks, l, c⟩ := X
  obtain ⟨A, cap, rfl, hB, hK⟩ := h.open
  obtain ⟨wa, hwa⟩ : ∃ wa, wa = w.alloc (.cells #[.int .i64 o, .int .i64 n, .string ⟨s.toArray⟩, .slice A ks.length cap, .int .i64 l, .int .i64 c] 24) := ⟨_, rfl⟩
  have hba : Below w.heap.size w wa := by rw [hwa]; exact below_alloc w _
  have hga : wa.heap[w.heap.size]? = some (.cells #[.int .i64 o, .int .i64 n, .string ⟨s.toArray⟩, .slice A ks.length cap, .int .i64 l, .int .i64 c] 24) := by rw [hwa]; exact blk_new w _
  have hlt : w.heap.size < wa.heap.size := by rw [hwa]; simp
  have HV : Hid (∀ W, Below w.heap.size w W → ExV W (.mk o n s ks l c) (.agg #[.int .i64 o, .int .i64 n, .string ⟨s.toArray⟩, .slice A ks.length cap, .int .i64 l, .int .i64 c])) := fun W hW => h.below hW
  have HD : Hid (∀ W, Below w.heap.size w W → Calls Tryd.prog 39 #[.agg #[.int .i64 o, .int .i64 n, .string ⟨s.toArray⟩, .slice A ks.length cap, .int .i64 l, .int .i64 c]] W fun e w' => e = .returned (.int .i64 (deep (.mk o n s ks l c) : Nat)) ∧ Below W.heap.size W w') := fun W hW => deep_any _ _ W (HV.out W hW) hs
  have HS : Hid (∀ W, Below w.heap.size w W → Calls Tryd.prog 40 #[.agg #[.int .i64 o, .int .i64 n, .string ⟨s.toArray⟩, .slice A ks.length cap, .int .i64 l, .int .i64 c]] W fun e w' => e = .returned (.bool (TreM.shape (.mk o n s ks l c))) ∧ Below W.heap.size W w') := fun W hW => pshape_any _ _ W (HV.out W hW)
  have HC : Hid (∀ W, Below wa.heap.size wa W → W.heap[w.heap.size]? = some (.cells #[.int .i64 o, .int .i64 n, .string ⟨s.toArray⟩, .slice A ks.length cap, .int .i64 l, .int .i64 c] 24)) := fun W hW => (hW.block _ hlt).trans hga
  have hE : rightB (.mk o n s ks l c) = (decide (deep (.mk o n s ks l c) ≤ 60) && TreM.shape (.mk o n s ks l c)) := rfl
  have hd : (deep (.mk o n s ks l c) : Int) ≤ 4611686018427387904 := by have := deep_size (.mk o n s ks l c); omega
  rw [hE]
  have HBA := Lib.hid hba
  have HWA := Lib.hid hwa
  obtain ⟨c0, c1, c2, c3, c4, c5⟩ := cells6 hga
  clear hE h hB hK HV hs hba hga hlt hwa
  generalize deep (.mk o n s ks l c) = d at *
  generalize TreM.shape (.mk o n s ks l c) = S at *
  generalize ks.length = m at *
  generalize (⟨s.toArray⟩ : ByteArray) = sb at *
  have HD0 := Lib.hid (HD.out wa HBA.out)
  clear HD
  go_enter Tryd.func17, Tryd.ntmps17
  by_cases hd60 : d ≤ 60
  · have t1 : decide ((d : Int) ≤ 60) = true := decide_eq_true (by omega)
    have t2 : decide (d ≤ 60) = true := decide_eq_true hd60
    go_upto_region 1 with (fail)
    have hwa := HWA.out
    rw [← hwa]
    clear hwa HWA
    go_wp2_with fail
    refine HD0.out.mono ?_
    rintro e w1 ⟨rfl, hB1⟩
    have HB1 := Lib.hid hB1
    clear c0 c1 c2 c3 c4 c5
    obtain ⟨c0, c1, c2, c3, c4, c5⟩ := cells6 (HC.out w1 hB1)
    have HS1 := Lib.hid (HS.out w1 (HBA.out.trans (hB1.mono HBA.out.size)))
    clear hB1 HS
    go_wp2_with (refine HS1.out.mono ?_; rintro e w' ⟨rfl, hB2⟩)
    go_ret
    exact ⟨ret_bool (by rw [t2]; simp), HBA.out.trans ((HB1.out.trans (hB2.mono HB1.out.size)).mono HBA.out.size)⟩
  · have t1 : decide ((d : Int) ≤ 60) = false := decide_eq_false (by omega)
    have t2 : decide (d ≤ 60) = false := decide_eq_false hd60
    go_upto_region 1 with (fail)
    have hwa := HWA.out
    rw [← hwa]
    clear hwa HWA
    go_wp2_with (refine HD0.out.mono ?_; rintro e w1 ⟨rfl, hB1⟩)
    go_ret
    exact ⟨ret_bool (by rw [t2]; simp), HBA.out.trans (hB1.mono HBA.out.size)⟩

theorem pwritable_any (X : Ex) (v : Value) (w : World) (h : ExV w X v) (hs : size X ≤ 4611686018427387904) :
    Calls Tryd.prog 10 #[v] w fun e w' => e = .returned (.bool (writB X)) ∧ Below w.heap.size w w' := by
  obtain ⟨o, n, s, ks, l, c⟩ := X
  obtain ⟨A, cap, rfl, hB, hK⟩ := h.open
  obtain ⟨wa, hwa⟩ : ∃ wa, wa = w.alloc (.cells #[.int .i64 o, .int .i64 n, .string ⟨s.toArray⟩, .slice A ks.length cap, .int .i64 l, .int .i64 c] 24) := ⟨_, rfl⟩
  have hba : Below w.heap.size w wa := by rw [hwa]; exact below_alloc w _
  have hga : wa.heap[w.heap.size]? = some (.cells #[.int .i64 o, .int .i64 n, .string ⟨s.toArray⟩, .slice A ks.length cap, .int .i64 l, .int .i64 c] 24) := by rw [hwa]; exact blk_new w _
  have hlt : w.heap.size < wa.heap.size := by rw [hwa]; simp
  have HV : Hid (∀ W, Below w.heap.size w W → ExV W (.mk o n s ks l c) (.agg #[.int .i64 o, .int .i64 n, .string ⟨s.toArray⟩, .slice A ks.length cap, .int .i64 l, .int .i64 c])) := fun W hW => h.below hW
  have HD : Hid (∀ W, Below w.heap.size w W → Calls Tryd.prog 17 #[.agg #[.int .i64 o, .int .i64 n, .string ⟨s.toArray⟩, .slice A ks.length cap, .int .i64 l, .int .i64 c]] W fun e w' => e = .returned (.bool (rightB (.mk o n s ks l c))) ∧ Below W.heap.size W w') := fun W hW => pright_any _ _ W (HV.out W hW) hs
  have HS : Hid (∀ W, Below w.heap.size w W → Calls Tryd.prog 18 #[.agg #[.int .i64 o, .int .i64 n, .string ⟨s.toArray⟩, .slice A ks.length cap, .int .i64 l, .int .i64 c], .int .i64 4] W fun e w' => e = .returned (.bool (hasOp 4 (.mk o n s ks l c))) ∧ Below W.heap.size W w') := fun W hW => phas_any 4 _ _ W (HV.out W hW)
  have HC : Hid (∀ W, Below wa.heap.size wa W → W.heap[w.heap.size]? = some (.cells #[.int .i64 o, .int .i64 n, .string ⟨s.toArray⟩, .slice A ks.length cap, .int .i64 l, .int .i64 c] 24)) := fun W hW => (hW.block _ hlt).trans hga
  have hE : writB (.mk o n s ks l c) = (rightB (.mk o n s ks l c) && !hasOp 4 (.mk o n s ks l c)) := rfl
  rw [hE]
  have HBA := Lib.hid hba
  have HWA := Lib.hid hwa
  obtain ⟨c0, c1, c2, c3, c4, c5⟩ := cells6 hga
  clear hE h hB hK HV hs hba hga hlt hwa
  generalize rightB (.mk o n s ks l c) = d at *
  generalize hasOp 4 (.mk o n s ks l c) = S at *
  generalize ks.length = m at *
  generalize (⟨s.toArray⟩ : ByteArray) = sb at *
  have HD0 := Lib.hid (HD.out wa HBA.out)
  clear HD
  go_enter Tryd.func10, Tryd.ntmps10
  rcases d with _ | _
  · go_upto_region 1 with (fail)
    have hwa := HWA.out
    rw [← hwa]
    clear hwa HWA
    go_wp2_with (refine HD0.out.mono ?_; rintro e w1 ⟨rfl, hB1⟩)
    go_ret
    exact ⟨rfl, HBA.out.trans (hB1.mono HBA.out.size)⟩
  · go_upto_region 1 with (fail)
    have hwa := HWA.out
    rw [← hwa]
    clear hwa HWA
    go_wp2_with fail
    refine HD0.out.mono ?_
    rintro e w1 ⟨rfl, hB1⟩
    have HB1 := Lib.hid hB1
    clear c0 c1 c2 c3 c4 c5
    obtain ⟨c0, c1, c2, c3, c4, c5⟩ := cells6 (HC.out w1 hB1)
    have HS1 := Lib.hid (HS.out w1 (HBA.out.trans (hB1.mono HBA.out.size)))
    clear hB1 HS
    go_wp2_with (refine HS1.out.mono ?_; rintro e w' ⟨rfl, hB2⟩)
    go_ret
    exact ⟨rfl, HBA.out.trans ((HB1.out.trans (hB2.mono HB1.out.size)).mono HBA.out.size)⟩
end Go.Proofs.YtmkhfcdjgdofnaaDoor
