/- Package word: next. -/
import Derived.Test.YtmkhfcdjgdofnaaDoorWrdC
namespace Go.Proofs.YtmkhfcdjgdofnaaDoor
open Go.RowKit WrdM

theorem cells5 {W : World} {g : Nat} {a b c d e : Value} {t : TypeId} {fr : Nat × Nat} (h : W.heap[g]? = some (.cells #[a, b, c, d, e] t fr)) :
    W.cell? ⟨g, 0, none⟩ = some a ∧ W.cell? ⟨g, 1, none⟩ = some b ∧ W.cell? ⟨g, 2, none⟩ = some c ∧ W.cell? ⟨g, 3, none⟩ = some d ∧ W.cell? ⟨g, 4, none⟩ = some e := by
  refine ⟨?_, ?_, ?_, ?_, ?_⟩ <;> (rw [Lib.cell_of_heap h]; rfl)
theorem five_set {W : World} {g : Nat} {x0 x1 x2 x3 x4 : Value} {t : TypeId} {fr : Nat × Nat} (h : W.heap[g]? = some (.cells #[x0, x1, x2, x3, x4] t fr)) (a b c d e : Value) :
    (((((W.setCell ⟨g, 0, none⟩ a).setCell ⟨g, 1, none⟩ b).setCell ⟨g, 2, none⟩ c).setCell ⟨g, 3, none⟩ d).setCell ⟨g, 4, none⟩ e).heap[g]? = some (.cells #[a, b, c, d, e] t fr) := by
  rw [Lib.heap_setCell_same (Lib.heap_setCell_same (Lib.heap_setCell_same (Lib.heap_setCell_same (Lib.heap_setCell_same h a) b) c) d) e]
  rfl
theorem below_five {B : Nat} {w W : World} {g : Nat} (h : Below B w W) (hg : B ≤ g) (a b c d e : Value) :
    Below B w (((((W.setCell ⟨g, 0, none⟩ a).setCell ⟨g, 1, none⟩ b).setCell ⟨g, 2, none⟩ c).setCell ⟨g, 3, none⟩ d).setCell ⟨g, 4, none⟩ e) :=
  ((((h.setCell (p := ⟨g, 0, none⟩) hg a).setCell (p := ⟨g, 1, none⟩) hg b).setCell (p := ⟨g, 2, none⟩) hg c).setCell (p := ⟨g, 3, none⟩) hg d).setCell (p := ⟨g, 4, none⟩) hg e
/-- The signs stay. -/
theorem SgnAt.below {w W : World} (h : SgnAt w) {B : Nat} (hb : Below B w W) (hB : 1 < B) : SgnAt W := fun j hj => by
  rw [hb.cell (p := ⟨1, j, none⟩) hB]; exact h j hj

set_option maxHeartbeats 1600000 in
set_option maxRecDepth 100000 in
theorem next_any (s : List UInt8) (w : World) (h : SgnAt w) (hw : 1 < w.heap.size) (hs : s.length ≤ 9223372036854775807) :
    Calls Tryd.prog 43 #[.string ⟨s.toArray⟩] w fun e w' => e = wrdR (wordL s) ∧ Below w.heap.size w w' := by
  have HBL := Lib.hid fun W => begins_any letS s W
  have HBD := Lib.hid fun W => begins_any digS s W
  rw [letS_eq] at HBL
  rw [digS_eq] at HBD
  have HN := Lib.hid fun W => named_any s W hs
  have HO := Lib.hid fun W => oneOf_any ⟨digS.toArray⟩ W
  have HF := Lib.hid fun (g : Nat) (W : World) (hc : W.cell? ⟨g, 0, none⟩ = some (.string ⟨digS.toArray⟩)) => firstIn_any digS s g W hc hs
  rw [digS_eq] at HF
  have hld : (s.takeWhile digB).length ≤ 9223372036854775807 := Nat.le_trans (List.takeWhile_sublist _).length_le hs
  have hln : (s.takeWhile namB).length ≤ 9223372036854775807 := Nat.le_trans (List.takeWhile_sublist _).length_le hs
  have HLW := Lib.hid fun W => letterWord_any (s.takeWhile namB) W hln
  have HNU := Lib.hid fun W => number_any (s.takeWhile digB) W (takeW_all _ _) hld
  have HSG := Lib.hid fun (W : World) (hB : Below w.heap.size w W) => sign_any s W (h.below hB hw) (Nat.lt_of_lt_of_le hw hB.size)
  have HW : Hid (wordL s = if headB letB s then namW (s.takeWhile namB) else if headB digB s then digW (s.takeWhile digB) else sgnW (signW s)) := rfl
  have hnew := blk_new w (.cells #[.int .i64 0, .string ⟨#[]⟩, .int .i64 0, .int .i64 0, .int .i64 0] 71)
  have hb1 := below_alloc w (.cells #[.int .i64 0, .string ⟨#[]⟩, .int .i64 0, .int .i64 0, .int .i64 0] 71)
  have HZ1 : Hid ((w.alloc (.cells #[.int .i64 0, .string ⟨#[]⟩, .int .i64 0, .int .i64 0, .int .i64 0] 71)).heap.size = w.heap.size + 1) := by unfold Hid; simp
  have HH1 := Lib.hid hnew
  have HB1 := Lib.hid hb1
  clear h hs hld hln hnew hb1
  rcases hw0 : wordL s with ⟨er, k, tx, n⟩
  rw [hw0] at HW
  have hwR : wrdR ⟨er, k, tx, n⟩ = .returned (.tuple #[.agg #[.int .i64 k, .string ⟨tx.toArray⟩, .int .i64 n, .int .i64 0, .int .i64 0], .int .i64 er]) := rfl
  rw [hwR]
  rcases h1 : headB letB s with _ | _
  · rw [h1] at HBL HW
    rcases h2 : headB digB s with _ | _
    · rw [h2] at HBD HW
      have HX : Hid (sgnW (signW s) = ⟨er, k, tx, n⟩) := HW.out.symm
      rw [HX.out, hwR] at HSG
      clear hwR hw0 h1 h2 HW HX HN HO HF HLW HNU
      generalize (⟨tx.toArray⟩ : ByteArray) = tb at *
      go_enter Tryd.func43, Tryd.ntmps43
      go_wp2_with fail
      generalize w.alloc (.cells #[.int .i64 0, .string ⟨#[]⟩, .int .i64 0, .int .i64 0, .int .i64 0] 71) = w1 at *
      refine (HBL.out _).mono ?_
      rintro e w2 ⟨rfl, hB2⟩
      have HB2 := Lib.hid (HB1.out.trans (hB2.mono HB1.out.size))
      have HH2 := Lib.hid ((hB2.block w.heap.size (by rw [HZ1.out]; omega)).trans HH1.out)
      clear hB2 HH1 HB1
      go_wp2_with fail
      refine (HBD.out _).mono ?_
      rintro e w3 ⟨rfl, hB3⟩
      have HB3 := Lib.hid (HB2.out.trans (hB3.mono HB2.out.size))
      have HH3 := Lib.hid ((hB3.block w.heap.size (lt_of_heap HH2.out)).trans HH2.out)
      clear hB3 HH2 HB2
      have HS3 := Lib.hid (HSG.out w3 HB3.out)
      go_wp2_with fail
      refine HS3.out.mono ?_
      rintro e w4 ⟨rfl, hB4⟩
      have HB4 := Lib.hid (HB3.out.trans (hB4.mono HB3.out.size))
      have HH4 := Lib.hid ((hB4.block w.heap.size (lt_of_heap HH3.out)).trans HH3.out)
      clear hB4 HH3 HB3 HS3
      obtain ⟨s0, s1, s2, s3, s4⟩ := cells5 HH4.out
      have uf := Lib.frozen_of_heap HH4.out
      have hq := five_set HH4.out (.int .i64 k) (.string tb) (.int .i64 n) (.int .i64 0) (.int .i64 0)
      obtain ⟨p0, p1, p2, p3, p4⟩ := cells5 hq
      clear hq
      go_wp2_with fail
      refine bodyPost_ret (v := .tuple #[.agg #[.int .i64 k, .string tb, .int .i64 n, .int .i64 0, .int .i64 0], .int .i64 er]) (by simp [results, Tryd.results43, go_sem, p0, p1, p2, p3, p4]) rfl ?_
      exact ⟨rfl, below_five HB4.out (Nat.le_refl _) _ _ _ _ _⟩
    · rw [h2] at HBD HW
      have HX : Hid (digW (s.takeWhile digB) = ⟨er, k, tx, n⟩) := HW.out.symm
      rw [HX.out, hwR] at HNU
      clear hwR hw0 h1 h2 HW HX HN HLW HSG
      generalize (⟨tx.toArray⟩ : ByteArray) = tb at *
      go_enter Tryd.func43, Tryd.ntmps43
      go_wp2_with fail
      generalize w.alloc (.cells #[.int .i64 0, .string ⟨#[]⟩, .int .i64 0, .int .i64 0, .int .i64 0] 71) = w1 at *
      refine (HBL.out _).mono ?_
      rintro e w2 ⟨rfl, hB2⟩
      have HB2 := Lib.hid (HB1.out.trans (hB2.mono HB1.out.size))
      have HH2 := Lib.hid ((hB2.block w.heap.size (by rw [HZ1.out]; omega)).trans HH1.out)
      clear hB2 HH1 HB1
      go_wp2_with fail
      refine (HBD.out _).mono ?_
      rintro e w3 ⟨rfl, hB3⟩
      have HB3 := Lib.hid (HB2.out.trans (hB3.mono HB2.out.size))
      have HH3 := Lib.hid ((hB3.block w.heap.size (lt_of_heap HH2.out)).trans HH2.out)
      clear hB3 HH2 HB2
      have hc3 := cell_box0 w3 (.string ⟨digS.toArray⟩) 9
      have HC3 := Lib.hid (HF.out _ _ hc3)
      have hal3 := below_alloc w3 (.cells #[.string ⟨digS.toArray⟩] 9)
      have HB4 := Lib.hid (HB3.out.trans (hal3.mono HB3.out.size))
      have HH4 := Lib.hid ((hal3.block w.heap.size (lt_of_heap HH3.out)).trans HH3.out)
      have HO3 := Lib.hid (HO.out w3)
      clear hc3 hal3 HH3 HB3 HO HF
      generalize w3.alloc (.cells #[.string ⟨digS.toArray⟩] 9) = w4 at *
      go_wp2_with fail
      refine HO3.out.mono ?_
      rintro e w' ⟨rfl, rfl⟩
      go_wp2_with fail
      refine HC3.out.mono ?_
      rintro e w' ⟨rfl, rfl⟩
      go_wp2_with fail
      refine (HNU.out _).mono ?_
      rintro e w5 ⟨rfl, hB5⟩
      have HB5 := Lib.hid (HB4.out.trans (hB5.mono HB4.out.size))
      have HH5 := Lib.hid ((hB5.block w.heap.size (lt_of_heap HH4.out)).trans HH4.out)
      clear hB5 HH4 HB4
      obtain ⟨s0, s1, s2, s3, s4⟩ := cells5 HH5.out
      have uf := Lib.frozen_of_heap HH5.out
      have hq := five_set HH5.out (.int .i64 k) (.string tb) (.int .i64 n) (.int .i64 0) (.int .i64 0)
      obtain ⟨p0, p1, p2, p3, p4⟩ := cells5 hq
      clear hq
      go_wp2_with fail
      refine bodyPost_ret (v := .tuple #[.agg #[.int .i64 k, .string tb, .int .i64 n, .int .i64 0, .int .i64 0], .int .i64 er]) (by simp [results, Tryd.results43, go_sem, p0, p1, p2, p3, p4]) rfl ?_
      exact ⟨rfl, below_five HB5.out (Nat.le_refl _) _ _ _ _ _⟩
  · rw [h1] at HBL HW
    have HX : Hid (namW (s.takeWhile namB) = ⟨er, k, tx, n⟩) := HW.out.symm
    rw [HX.out, hwR] at HLW
    clear hwR hw0 h1 HW HX HO HF HNU HSG HBD
    generalize (⟨tx.toArray⟩ : ByteArray) = tb at *
    go_enter Tryd.func43, Tryd.ntmps43
    go_wp2_with fail
    generalize w.alloc (.cells #[.int .i64 0, .string ⟨#[]⟩, .int .i64 0, .int .i64 0, .int .i64 0] 71) = w1 at *
    refine (HBL.out _).mono ?_
    rintro e w2 ⟨rfl, hB2⟩
    have HB2 := Lib.hid (HB1.out.trans (hB2.mono HB1.out.size))
    have HH2 := Lib.hid ((hB2.block w.heap.size (by rw [HZ1.out]; omega)).trans HH1.out)
    clear hB2 HH1 HB1
    go_wp2_with fail
    refine (HN.out _).mono ?_
    rintro e w3 ⟨rfl, hB3⟩
    have HB3 := Lib.hid (HB2.out.trans (hB3.mono HB2.out.size))
    have HH3 := Lib.hid ((hB3.block w.heap.size (lt_of_heap HH2.out)).trans HH2.out)
    clear hB3 HH2 HB2
    go_wp2_with fail
    refine (HLW.out _).mono ?_
    rintro e w4 ⟨rfl, hB4⟩
    have HB4 := Lib.hid (HB3.out.trans (hB4.mono HB3.out.size))
    have HH4 := Lib.hid ((hB4.block w.heap.size (lt_of_heap HH3.out)).trans HH3.out)
    clear hB4 HH3 HB3
    obtain ⟨s0, s1, s2, s3, s4⟩ := cells5 HH4.out
    have uf := Lib.frozen_of_heap HH4.out
    have hq := five_set HH4.out (.int .i64 k) (.string tb) (.int .i64 n) (.int .i64 0) (.int .i64 0)
    obtain ⟨p0, p1, p2, p3, p4⟩ := cells5 hq
    clear hq
    go_wp2_with fail
    refine bodyPost_ret (v := .tuple #[.agg #[.int .i64 k, .string tb, .int .i64 n, .int .i64 0, .int .i64 0], .int .i64 er]) (by simp [results, Tryd.results43, go_sem, p0, p1, p2, p3, p4]) rfl ?_
    exact ⟨rfl, below_five HB4.out (Nat.le_refl _) _ _ _ _ _⟩
end Go.Proofs.YtmkhfcdjgdofnaaDoor
