/- treeAlive is true. -/
import Derived.Test.YtnlepdkbcjjkdaaGreatDoorTreH
import Derived.Test.YtnlepdkbcjjkdaaGreatDoorTreW
namespace Go.Proofs.YtnlepdkbcjjkdaaGreatDoor
open Go.RowKit TreM WrdM

theorem wf_of {n : Int} (h0 : -9223372036854775808 ≤ n) (h1 : n ≤ 9223372036854775807) : (Lit.int .i64 n).wf = true := by
  simp only [Lit.wf, Bool.and_eq_true]
  exact ⟨decide_eq_true h0, decide_eq_true h1⟩
/-- A value that is built of its fields. -/
theorem exv_mk {W : World} {o n l c : Int} {s : List UInt8} {ks : List Ex} {A : Option Addr} {cap : Nat} (hB : ExB o n s ks.length cap l c) (hl : -9223372036854775808 ≤ l ∧ l ≤ 9223372036854775807) (hc : -9223372036854775808 ≤ c ∧ c ≤ 9223372036854775807) (hK : KdsAt W A ks) :
    ExV W (.mk o n s ks l c) (.agg #[.int .i64 o, .int .i64 n, .string ⟨s.toArray⟩, .slice A ks.length cap, .int .i64 l, .int .i64 c]) := by
  refine ⟨[.int .i64 o, .int .i64 n, .string ⟨s.toArray⟩, .slice A ks.length cap, .int .i64 l, .int .i64 c], rfl, ?_⟩
  rw [ExC]
  exact ⟨A, cap, rfl, ⟨wf_of hB.o0 hB.o1, wf_of hB.n0 hB.n1, wf_of hl.1 hl.2, wf_of hc.1 hc.2⟩, hB.s, hB.m, hB.cap, hK.back⟩
/-- An expression whose fields stand at a place. -/
theorem exp_at {W W0 : World} {b p : Nat} {X : Ex} {cs : List Value} (h : ExV W0 X (.agg cs.toArray)) (hb : Below W0.heap.size W0 W) (hc : ∀ i v, cs[i]? = some v → W.cell? ⟨b, p + i, none⟩ = some v) : ExP W b p X := by
  obtain ⟨cs', e, hx⟩ := h
  have e : cs = cs' := by
    have : cs.toArray = cs'.toArray := by injection e
    have := congrArg Array.toList this
    simpa using this
  subst e
  exact ⟨cs, hc, ExC.below hb X cs hx⟩

theorem kds_one {W : World} {g : Nat} {X : Ex} {cs : List Value} {t : TypeId} {q : Nat × Nat} (hg : W.heap[g]? = some (.cells cs.toArray t q)) (h : ExV W X (.agg cs.toArray)) : KdsAt W (some ⟨g, 0, none⟩) [X] := by
  have hl : g < W.heap.size := (Array.getElem?_eq_some_iff.1 hg).1
  refine .inr ⟨g, 0, rfl, hl, fun j k hj => ?_⟩
  match j, hj with
  | 0, hj =>
    have : X = k := by simpa using hj
    subst this
    refine exp_at h (Below.refl _ _) fun i v hv => ?_
    rw [show 0 + 0 * 6 + i = i from by omega, Lib.cell_of_heap hg, List.getElem?_toArray]
    exact hv
  | j + 1, hj => simp at hj
theorem exv_len {W : World} {X : Ex} {cs : List Value} (h : ExV W X (.agg cs.toArray)) : cs.length = 6 := by
  cases X with
  | mk o n s ks l c =>
  obtain ⟨A, cap, e, _⟩ := h.open
  injection e with e
  have := congrArg Array.size e
  simpa using this
theorem kds_two {W : World} {g : Nat} {X Y : Ex} {cs ds : List Value} {t : TypeId} {q : Nat × Nat} (hg : W.heap[g]? = some (.cells (cs ++ ds).toArray t q)) (h : ExV W X (.agg cs.toArray)) (h2 : ExV W Y (.agg ds.toArray)) : KdsAt W (some ⟨g, 0, none⟩) [X, Y] := by
  have hl : g < W.heap.size := (Array.getElem?_eq_some_iff.1 hg).1
  have h6 := exv_len h
  refine .inr ⟨g, 0, rfl, hl, fun j k hj => ?_⟩
  match j, hj with
  | 0, hj =>
    have : X = k := by simpa using hj
    subst this
    refine exp_at h (Below.refl _ _) fun i v hv => ?_
    have hi : i < cs.length := by
      rcases Nat.lt_or_ge i cs.length with h' | h'
      · exact h'
      · rw [List.getElem?_eq_none h'] at hv; cases hv
    rw [show 0 + 0 * 6 + i = i from by omega, Lib.cell_of_heap hg, List.getElem?_toArray, List.getElem?_append_left hi]
    exact hv
  | 1, hj =>
    have : Y = k := by simpa using hj
    subst this
    refine exp_at h2 (Below.refl _ _) fun i v hv => ?_
    rw [show 0 + 1 * 6 + i = cs.length + i from by omega, Lib.cell_of_heap hg, List.getElem?_toArray, List.getElem?_append_right (by omega), show cs.length + i - cs.length = i from by omega]
    exact hv
  | j + 2, hj => simp at hj
theorem exb0 {o n : Int} {s : List UInt8} {m cap : Nat} (ho : 0 ≤ o ∧ o ≤ 100) (hn : 0 ≤ n ∧ n ≤ 100) (hs : s.length ≤ 100) (hm : m ≤ cap) (hc : cap ≤ 100) : ExB o n s m cap 0 0 :=
  ⟨by omega, by omega, by omega, by omega, by omega, hm, by omega⟩
theorem alloc_size (w : World) (o : Obj) : (w.alloc o).heap.size = w.heap.size + 1 := by simp

def exTwo : Ex := .mk 1 2 [] [] 0 0
def exNeg : Ex := .mk 5 0 [] [exTwo] 0 0
def exNam : Ex := .mk 3 0 [120] [] 0 0
def exAdd : Ex := .mk 15 0 [] [exNam, exNeg] 0 0
theorem exAdd_writ : writB exAdd = true := by decide +kernel
theorem exAdd_right : rightB exAdd = true := by decide +kernel
theorem exAdd_text : text exAdd = [120, 32, 43, 32, 40, 45, 50, 41] := by decide +kernel
theorem exAdd_size : TreM.size exAdd = 4 := by decide +kernel
theorem sign30 : signE 30 = [60, 45, 62] := by decide

abbrev cTwo : List Value := [.int .i64 1, .int .i64 2, .string ⟨#[]⟩, .slice none 0 0, .int .i64 0, .int .i64 0]
abbrev cNam : List Value := [.int .i64 3, .int .i64 0, .string ⟨#[120]⟩, .slice none 0 0, .int .i64 0, .int .i64 0]
abbrev cNeg (g : Nat) : List Value := [.int .i64 5, .int .i64 0, .string ⟨#[]⟩, .slice (some ⟨g, 0, none⟩) 1 1, .int .i64 0, .int .i64 0]
abbrev cAdd (g : Nat) : List Value := [.int .i64 15, .int .i64 0, .string ⟨#[]⟩, .slice (some ⟨g, 0, none⟩) 2 2, .int .i64 0, .int .i64 0]
theorem add_val (w w1 w2 w3 : World) (h1 : w1 = w.alloc (.cells cTwo.toArray 40)) (h2 : w2 = w1.alloc (.cells (cNam ++ cNeg w.heap.size).toArray 40)) (h3 : w3 = w2.alloc (.cells (cAdd (w.heap.size + 1)).toArray 40)) :
    ExV w3 exAdd (.agg (cAdd (w.heap.size + 1)).toArray) ∧ Below w.heap.size w w3 ∧ w3.heap.size = w.heap.size + 3 ∧ w3.heap[w.heap.size + 2]? = some (.cells (cAdd (w.heap.size + 1)).toArray 40) := by
  have s1 : w1.heap.size = w.heap.size + 1 := by rw [h1, alloc_size]
  have s2 : w2.heap.size = w.heap.size + 2 := by rw [h2, alloc_size, s1]
  have s3 : w3.heap.size = w.heap.size + 3 := by rw [h3, alloc_size, s2]
  have b1 : Below w.heap.size w w1 := by rw [h1]; exact below_alloc w _
  have b2 : Below w1.heap.size w1 w2 := by rw [h2]; exact below_alloc w1 _
  have b3 : Below w2.heap.size w2 w3 := by rw [h3]; exact below_alloc w2 _
  have g1 : w1.heap[w.heap.size]? = some (.cells cTwo.toArray 40) := by rw [h1]; exact blk_new w _
  have g2 : w2.heap[w.heap.size + 1]? = some (.cells (cNam ++ cNeg w.heap.size).toArray 40) := by rw [h2, ← s1]; exact blk_new w1 _
  have g3 : w3.heap[w.heap.size + 2]? = some (.cells (cAdd (w.heap.size + 1)).toArray 40) := by rw [h3, ← s2]; exact blk_new w2 _
  have e1 : ExV w1 exTwo (.agg cTwo.toArray) := exv_mk (A := none) (cap := 0) (ks := []) (s := []) (exb0 (by decide) (by decide) (by decide) (by decide) (by decide)) (by decide) (by decide) (.inl rfl)
  have k1 : KdsAt w1 (some ⟨w.heap.size, 0, none⟩) [exTwo] := kds_one g1 e1
  have e2 : ExV w2 exNam (.agg cNam.toArray) := exv_mk (A := none) (cap := 0) (ks := []) (s := [120]) (exb0 (by decide) (by decide) (by decide) (by decide) (by decide)) (by decide) (by decide) (.inl rfl)
  have e3 : ExV w2 exNeg (.agg (cNeg w.heap.size).toArray) := exv_mk (A := some ⟨w.heap.size, 0, none⟩) (cap := 1) (ks := [exTwo]) (s := []) (exb0 (by decide) (by decide) (by decide) (by decide) (by decide)) (by decide) (by decide) (k1.below b2)
  have k2 : KdsAt w2 (some ⟨w.heap.size + 1, 0, none⟩) [exNam, exNeg] := kds_two g2 e2 e3
  have e4 : ExV w3 exAdd (.agg (cAdd (w.heap.size + 1)).toArray) := exv_mk (A := some ⟨w.heap.size + 1, 0, none⟩) (cap := 2) (ks := [exNam, exNeg]) (s := []) (exb0 (by decide) (by decide) (by decide) (by decide) (by decide)) (by decide) (by decide) (k2.below b3)
  exact ⟨e4, b1.trans ((b2.mono b1.size).trans (b3.mono (Nat.le_trans b1.size b2.size))), s3, g3⟩

set_option maxHeartbeats 1600000 in
theorem alive_any (w : World) (hG : TrG w) : Calls Tryz.prog 5 #[] w fun e w' => e = .returned (.bool true) ∧ Below w.heap.size w w' := by
  obtain ⟨w1, h1⟩ : ∃ w1, w1 = w.alloc (.cells cTwo.toArray 40) := ⟨_, rfl⟩
  obtain ⟨w2, h2⟩ : ∃ w2, w2 = w1.alloc (.cells (cNam ++ cNeg w.heap.size).toArray 40) := ⟨_, rfl⟩
  obtain ⟨w3, h3⟩ : ∃ w3, w3 = w2.alloc (.cells (cAdd (w.heap.size + 1)).toArray 40) := ⟨_, rfl⟩
  obtain ⟨hv, hb, hz, hg⟩ := add_val w w1 w2 w3 h1 h2 h3
  have HG : Hid (∀ W, Below w3.heap.size w3 W → TrG W) := fun W hW => hG.below (hb.trans (hW.mono hb.size)) hG.n
  have HV : Hid (∀ W, Below w3.heap.size w3 W → ExV W exAdd (.agg (cAdd (w.heap.size + 1)).toArray)) := fun W hW => hv.below hW
  have HCell : Hid (∀ W, Below w3.heap.size w3 W → W.heap[w.heap.size + 1 + 1]? = some (.cells (cAdd (w.heap.size + 1)).toArray 40)) := fun W hW => (hW.block (w.heap.size + 2) (by omega)).trans hg
  have HB := Lib.hid hb
  have HX := Lib.hid (expr_any exAdd _ w3 (HG.out _ (Below.refl _ _)) hv (fun _ => by rw [exAdd_text]; decide))
  rw [exAdd_writ, if_pos rfl, exAdd_text] at HX
  have HW3 : Hid (w3 = ((w.alloc (.cells cTwo.toArray 40)).alloc (.cells (cNam ++ cNeg w.heap.size).toArray 40)).alloc (.cells (cAdd (w.heap.size + 1)).toArray 40)) := by unfold Hid; rw [h3, h2, h1]
  clear h1 h2 h3 hv hb hz hg hG
  go_enter Tryz.func5, Tryz.ntmps5
  go_wp2_with fail
  have hw3 := HW3.out
  simp only [List.cons_append, List.nil_append] at hw3
  rw [← hw3]
  clear hw3 HW3 w1 w2
  refine HX.out.mono ?_
  rintro e w4 ⟨rfl, hB4⟩
  have HB4 := Lib.hid hB4
  obtain ⟨c0, c1, c2, c3, c4, c5⟩ := cells6 (HCell.out w4 hB4)
  have HR := Lib.hid (right_any exAdd _ w4 (HV.out w4 hB4))
  rw [exAdd_right] at HR
  clear hB4 HX
  go_wp2_with fail
  refine HR.out.mono ?_
  rintro e w5 ⟨rfl, hB5⟩
  have HB5 := Lib.hid (HB4.out.trans (hB5.mono HB4.out.size))
  obtain ⟨c0, c1, c2, c3, c4, c5⟩ := cells6 (HCell.out w5 HB5.out)
  have HS := Lib.hid (size_any exAdd _ w5 (HV.out w5 HB5.out) (by rw [exAdd_size]; decide))
  rw [exAdd_size] at HS
  clear hB5 HR HB4
  go_wp2_with fail
  refine HS.out.mono ?_
  rintro e w6 ⟨rfl, hB6⟩
  have HB6 := Lib.hid (HB5.out.trans (hB6.mono HB5.out.size))
  have HN := Lib.hid (sign_any 30 w6 (HG.out w6 HB6.out))
  rw [sign30] at HN
  clear hB6 HS HB5
  go_wp2_with fail
  refine HN.out.mono ?_
  rintro e w7 ⟨rfl, rfl⟩
  go_wp2_with fail
  go_ret
  exact ⟨rfl, HB.out.trans (HB6.out.mono HB.out.size)⟩
end Go.Proofs.YtnlepdkbcjjkdaaGreatDoor
