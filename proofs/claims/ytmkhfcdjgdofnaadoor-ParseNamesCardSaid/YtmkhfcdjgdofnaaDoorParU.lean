/- Package parse: Source, of a text whose first variable's range has no second end. -/
import Derived.Test.YtmkhfcdjgdofnaaDoorParT
import Derived.Test.YtmkhfcdjgdofnaaDoorParQ
namespace Go.Proofs.YtmkhfcdjgdofnaaDoor
open Go.RowKit TreM WrdM ParM

abbrev z3 : Array Value := #[.slice none 0 0, .slice none 0 0, .slice none 0 0]
/-- The first variable's fault. -/
structure DclBad (L : List Tok) (l c : Int) : Prop where
  ex : ∃ (r1 r2 r3 r5 r6 r4 : List Tok) (nm t4 : Tok) (lo : Int), mustR wVar L = .ok () r1 ∧ kindR 1 r1 = .ok nm r2 ∧ mustR [58] r2 = .ok () r3 ∧ r3 = t4 :: r4 ∧ t4.kind ≠ 1 ∧ t4.text ≠ boolT ∧ boundR r3 = .ok lo r5 ∧ mustR [46, 46] r5 = .ok () r6 ∧ boundR r6 = .bad l c
  vr : ∃ t r, L = t :: r ∧ t.text = wVar
theorem decl_bad' (g : Nat) (L : List Tok) (l c : Int) (w : World) (hg : 3 ≤ g) (h : Rdr w g L 0) (hb : DclBad L l c) :
    Calls Tryd.prog 33 #[.pointer (some ⟨g, 0, none⟩)] w fun e w' => e = Thr l c ∧ Below g w w' := by
  obtain ⟨r1, r2, r3, r5, r6, r4, nm, t4, lo, h1, h2, h3, h4, h5, h6, h7, h8, h9⟩ := hb.ex
  exact decl_bad g L r1 r2 r3 r5 r6 nm t4 r4 lo l c w hg h h1 h2 h3 h4 h5 h6 h7 h8 h9
set_option maxHeartbeats 1600000 in
set_option maxRecDepth 100000 in
theorem moreD_bad (g : Nat) (L : List Tok) (l c : Int) (w : World) (hg : 3 ≤ g) (h : Rdr w g L 0) (hb : DclBad L l c) :
    Calls Tryd.prog 32 #[.pointer (some ⟨g, 0, none⟩), .slice none 0 0, .func (.func 33) #[.pointer (some ⟨g, 0, none⟩)] #[]] w fun e w' => e = Thr l c ∧ Below g w w' := by
  have HD := Lib.hid fun W (hW : Below w.heap.size w W) => decl_bad' g L l c W hg (h.below hW) hb
  have HL := Lib.hid h.lt
  clear h hb
  go_enter Tryd.func32, Tryd.ntmps32
  go_wp2_with fail
  refine (HD.out w (Below.refl _ _)).mono ?_
  rintro e w1 ⟨rfl, hb⟩
  exact ⟨rfl, rfl, hb⟩
set_option maxHeartbeats 1600000 in
set_option maxRecDepth 100000 in
theorem source_bad (g : Nat) (L : List Tok) (l c : Int) (w : World) (hg : 3 ≤ g) (h : Rdr w g L 0) (hb : DclBad L l c) :
    Calls Tryd.prog 15 #[.pointer (some ⟨g, 0, none⟩)] w fun e w' => e = Thr l c ∧ Below g w w' := by
  obtain ⟨t, r, hL, ht⟩ := hb.vr
  obtain ⟨wa, hwa⟩ : ∃ wa, wa = (w.alloc (.cells z3 34)).alloc (.cells z3 34) := ⟨_, rfl⟩
  have hba : Below w.heap.size w wa := by rw [hwa]; exact (below_alloc w _).alloc (by simp) _
  have hnm : wa.heap[w.heap.size + 1]? = some (.cells z3 34 (0, 0)) := by
    rw [hwa]
    have := blk_new (w.alloc (.cells z3 34)) (.cells z3 34)
    rwa [show (w.alloc (.cells z3 34)).heap.size = w.heap.size + 1 by simp] at this
  have hra := h.below hba
  have HI1 : Hid (Calls Tryd.prog 29 #[.pointer (some ⟨g, 0, none⟩), .string ⟨#[101, 110, 117, 109]⟩] wa fun e w' => e = .returned (.bool false) ∧ wa = w') := by
    rw [hL] at hra
    have := is_any wEnum wa hra
    rwa [decide_eq_false (by rw [ht]; decide)] at this
  have HI2 : Hid (Calls Tryd.prog 29 #[.pointer (some ⟨g, 0, none⟩), .string ⟨#[118, 97, 114]⟩] wa fun e w' => e = .returned (.bool true) ∧ wa = w') := by
    rw [hL] at hra
    have := is_any wVar wa hra
    rwa [decide_eq_true ht] at this
  have HMO := Lib.hid (moreD_bad g L l c wa hg hra hb)
  have HBA := Lib.hid hba
  have HL := Lib.hid h.lt
  have HWA := Lib.hid hwa
  have HNM := Lib.hid hnm
  clear hL ht hb h hwa hba hra hnm
  go_enter Tryd.func15, Tryd.ntmps15
  go_upto_block 0 with (fail)
  have hwa := HWA.out
  unfold z3 at hwa
  rw [← hwa]
  clear hwa HWA
  go_wp2_with fail
  go_loopw [] (fun wr => wr = wa) (fun _ => 0)
  case atStart => rfl
  case round =>
    have hrel := hrel
    subst hrel
    obtain ⟨s0, s1, s2⟩ := wcel3 HNM.out
    go_wp2_with fail
    refine HI1.out.mono ?_
    rintro e w1 ⟨rfl, rfl⟩
    go_wp2_with fail
    refine HI2.out.mono ?_
    rintro e w1 ⟨rfl, rfl⟩
    go_wp2_with fail
    refine HMO.out.mono ?_
    rintro e w1 ⟨rfl, hb⟩
    exact ⟨rfl, rfl, (HBA.out.mono (Nat.le_of_lt HL.out)).trans hb⟩
end Go.Proofs.YtmkhfcdjgdofnaaDoor
