/- A Knit's tell: what is true of a gate's variable. -/
import Derived.Test.YtmiifhclcknhdaaKntE
namespace Go.Proofs.Ytmiifhclcknhdaa
open Go.RowKit GatM KntM Go.Lib

/-- Literals in new memory. -/
theorem rowz_made (w : World) (l : List Int) (hl : l.length ≤ 100) : RowV 38 1 (w.alloc (.cells (l.map fun x => Value.int .i32 x).toArray 38)) w.heap.size l.length l.length (zF l) :=
  RowV.made (by omega) (by simp) fun j hj => by
    have hj : j < l.length := by omega
    unfold zF
    simp [List.getD, List.getElem?_eq_getElem hj]
section
variable {w w' : World} {q : KnC} {s : KnS}
/-- What a call leaves that adds some clauses. -/
def MoreTo (w : World) (q : KnC) (s : KnS) (cs : List (List Int)) (w' : World) : Prop := ∃ q', KnAt w' q' { s with F := s.F ++ cs } ∧ KnTo w w' q q'
theorem MoreTo.none (h : KnAt w q s) (hb : Below w.heap.size w w') : MoreTo w q s [] w' := ⟨q, by rw [List.append_nil]; exact h.below hb, KnTo.ofBelow hb⟩
/-- The clauses are added one by one. -/
def TelP (wt : World) (q : KnC) (s : KnS) (T : List (List Int)) (i : Nat) (wr : World) : Prop := ∃ q', KnAt wr q' { s with F := s.F ++ T.take i } ∧ KnTo wt wr q q'
theorem tel_step (h : KnAt w q s) (hF : s.F.length ≤ 80000) {wt wr : World} (_ : Below w.heap.size w wt) {T : List (List Int)} {i : Nat} (hi : i < T.length) (hT : T.length ≤ 3) (hP : TelP wt q s T i wr) {bl nl : Nat} (hbl : w.heap.size ≤ bl) (hnl : (T.getD i []).length = nl) (hn9 : nl ≤ 100)
    (hr : RowV 38 1 wt bl nl nl (zF (T.getD i []))) {br j : Nat} {v : Value} (hbr : w.heap.size ≤ br) (hbr2 : br < wt.heap.size) (hc : wt.cell? ⟨br, j, none⟩ = some v) :
    wr.cell? ⟨br, j, none⟩ = some v ∧ Calls Try.prog 25 #[.pointer (some ⟨q.bk, 0, none⟩), .slice (some ⟨bl, 0, none⟩) nl nl] wr fun e w' => e = .returned (.int .i64 0) ∧ TelP wt q s T (i + 1) w' := by
  obtain ⟨q1, h1, t1⟩ := hP
  refine ⟨(World.cell?_of_block (t1.other hbr2 (h.fr _ hbr)).1).trans hc, ?_⟩
  have hr' := hr.same (t1.other hr.lt (h.fr _ hbl)).1
  have hl : (s.F ++ T.take i).length ≤ 90000 := by rw [List.length_append, List.length_take]; omega
  have hk := kadd_any h1 hl (some ⟨bl, 0, none⟩) nl nl (T.getD i []) hnl (by omega) (by unfold SlZ; rw [hnl]; exact .inr ⟨bl, rfl, hr'⟩)
  rw [t1.bk] at hk
  refine hk.mono ?_
  rintro e w' ⟨rfl, q', p1, p2⟩
  refine ⟨rfl, q', ?_, t1.trans p2⟩
  have e : T.take (i + 1) = T.take i ++ [T.getD i []] := by
    rw [List.take_succ_eq_append_getElem hi]; simp [List.getD, List.getElem?_eq_getElem hi]
  rw [e, ← List.append_assoc]
  exact p1
set_option maxHeartbeats 6400000 in
set_option maxRecDepth 100000 in
theorem ktell_any (h : KnAt w q s) {c : GrC} {gs : Gs} {ins : List Nat} (hgr : GrAt w c gs ins gs) (hw : Wf gs) (hbg : s.bg = c.bg) (hm : s.m = gs.length) (hL : gs.length ≤ 90000) (hKl : s.K.length ≤ 90000) (hF : s.F.length ≤ 80000) (n : Nat) (hn : n < gs.length)
    (hcl : getG gs n ≠ (0, 0) → (getG gs n).1 / 2 < gs.length ∧ (getG gs n).2 / 2 < gs.length) :
    Calls Try.prog 40 #[.pointer (some ⟨q.bk, 0, none⟩), .int .i64 (n : Int)] w fun e w' => e = .returned (.int .i64 0) ∧ MoreTo w q s (tellL gs s.K n) w' := by
  obtain ⟨c0, _, c2, _, _, _⟩ := h.cells
  obtain ⟨g, hA, hr⟩ := h.vs.1.row (by omega)
  have x0 : w.cell? ⟨g, n, none⟩ = some (.int .i32 ((vr s.K n : Nat) : Int)) := hr.cell (by omega)
  rw [hA, hm] at c2
  rw [hbg] at c0
  have hv9 := vr_le s.K n
  have t1 : decide ((gs.length : Int) ≤ (n : Int)) = false := decide_eq_false (by omega)
  have t2 : decide (gs.length ≤ n) = false := decide_eq_false (by omega)
  obtain ⟨v, hv⟩ : ∃ v, v = vr s.K n := ⟨_, rfl⟩
  rw [← hv] at x0 hv9
  have hv9 : v ≤ 90000 := by omega
  have HQ : Hid (∀ W, Below w.heap.size w W → KnAt W q s) := fun W hb => h.below hb
  by_cases h0 : n = 0
  · subst h0
    have tz : ((0 : Int) == 0) = true := rfl
    have HAD : Hid (∀ W, W = w.alloc (.cells #[.int .i32 (-(v : Int))] 38) → Calls Try.prog 25 #[.pointer (some ⟨q.bk, 0, none⟩), .slice (some ⟨w.heap.size, 0, none⟩) 1 1] W fun e w' => e = .returned (.int .i64 0) ∧ MoreTo w q s (tellL gs s.K 0) w') := fun W e => by
      have hb : Below w.heap.size w W := by rw [e]; exact (Below.refl _ _).alloc (Nat.le_refl _) _
      refine (kadd_any (HQ.out W hb) (by omega) (some ⟨w.heap.size, 0, none⟩) 1 1 [-(v : Int)] rfl (by omega) (by rw [e]; exact .inr ⟨_, rfl, rowz_made w [-(v : Int)] (by simp)⟩)).mono ?_
      rintro e w' ⟨rfl, q', p1, p2⟩
      refine ⟨rfl, q', ?_, (KnTo.ofBelow hb).trans p2⟩
      unfold tellL
      rw [if_pos rfl, ← hv]; exact p1
    clear h hgr hr hA hv
    go_enter Try.func40, Try.ntmps40
    go_wp2_with fail
    refine (HAD.out _ rfl).mono ?_
    rintro e w2 ⟨rfl, hT⟩
    have HT := Lib.hid hT
    clear hT HAD
    go_wp2_with fail
    go_ret
    exact ⟨rfl, HT.out⟩
  · have tz : ((n : Int) == 0) = false := by rw [beq_eq_false_iff_ne]; omega
    have tz2 : (n == 0) = false := by rw [beq_eq_false_iff_ne]; exact h0
    have HP := Lib.hid (gparts_any hgr hw hL n hn)
    by_cases hne : getG gs n = (0, 0)
    · have hab : andB gs n = false := by unfold andB; rw [decide_eq_false]; exact fun e => e hne
      rw [hab] at HP
      have HE : Hid (∀ W, Below w.heap.size w W → MoreTo w q s (tellL gs s.K n) W) := fun W hb => by
        unfold tellL
        rw [if_neg h0, if_pos hne]
        exact MoreTo.none h hb
      clear h hgr hr hA hv hab hne h0
      go_enter Try.func40, Try.ntmps40
      go_wp2_with fail
      refine HP.out.mono ?_
      rintro e w2 ⟨rfl, hb⟩
      have HB := Lib.hid hb
      clear hb HP
      go_wp2_with fail
      go_ret
      exact ⟨rfl, HE.out _ HB.out⟩
    · have hab : andB gs n = true := by unfold andB; rw [decide_eq_true hne]
      rw [hab] at HP
      obtain ⟨ha, hb⟩ := hcl hne
      obtain ⟨T, hT⟩ : ∃ T, T = [[-(v : Int), lt s.K (getG gs n).1], [-(v : Int), lt s.K (getG gs n).2], [(v : Int), -lt s.K (getG gs n).1, -lt s.K (getG gs n).2]] := ⟨_, rfl⟩
      have hTT : tellL gs s.K n = T := by
        unfold tellL
        rw [if_neg h0, if_neg hne, ← hv, hT]
      rw [hTT]
      have hx9 := lt_bd s.K (getG gs n).1
      have hy9 := lt_bd s.K (getG gs n).2
      have HX : Hid (∀ W, Below w.heap.size w W → Calls Try.prog 24 #[.pointer (some ⟨q.bk, 0, none⟩), .int .u32 (((getG gs n).1 : Nat) : Int)] W fun r w' => r = .returned (.int .i32 (lt s.K (getG gs n).1)) ∧ Below W.heap.size W w') := fun W hb => kliteral_any (HQ.out W hb) _ (by omega) (by omega) hKl
      have HY : Hid (∀ W, Below w.heap.size w W → Calls Try.prog 24 #[.pointer (some ⟨q.bk, 0, none⟩), .int .u32 (((getG gs n).2 : Nat) : Int)] W fun r w' => r = .returned (.int .i32 (lt s.K (getG gs n).2)) ∧ Below W.heap.size W w') := fun W hb => kliteral_any (HQ.out W hb) _ (by omega) (by omega) hKl
      generalize lt s.K (getG gs n).1 = x at *
      generalize lt s.K (getG gs n).2 = y at *
      have hx0 : -90000 ≤ x ∧ x ≤ 90000 := by omega
      have hy0 : -90000 ≤ y ∧ y ≤ 90000 := by omega
      generalize (getG gs n).1 = a at *
      generalize (getG gs n).2 = b at *
      have HLOOP : Hid (∀ w4, Below w.heap.size w w4 → ∀ wt, wt = (((w4.alloc (.cells #[.int .i32 (-(v : Int)), .int .i32 x] 38)).alloc (.cells #[.int .i32 (-(v : Int)), .int .i32 y] 38)).alloc (.cells #[.int .i32 (v : Int), .int .i32 (-x), .int .i32 (-y)] 38)).alloc
            (.cells #[.slice (some ⟨w4.heap.size, 0, none⟩) 2 2, .slice (some ⟨w4.heap.size + 1, 0, none⟩) 2 2, .slice (some ⟨w4.heap.size + 1 + 1, 0, none⟩) 3 3] 60) →
          TelP wt q s T 0 wt ∧ (∀ wr, TelP wt q s T 3 wr → MoreTo w q s T wr) ∧ ∀ i wr, i < 3 → TelP wt q s T i wr → ∃ bl nl, wr.cell? ⟨w4.heap.size + 1 + 1 + 1, i, none⟩ = some (.slice (some ⟨bl, 0, none⟩) nl nl) ∧
            Calls Try.prog 25 #[.pointer (some ⟨q.bk, 0, none⟩), .slice (some ⟨bl, 0, none⟩) nl nl] wr fun e w' => e = .returned (.int .i64 0) ∧ TelP wt q s T (i + 1) w') := fun w4 hb4 wt ewt => by
        obtain ⟨wa, ewa⟩ : ∃ wa, wa = w4.alloc (.cells #[.int .i32 (-(v : Int)), .int .i32 x] 38) := ⟨_, rfl⟩
        obtain ⟨wb, ewb⟩ : ∃ wb, wb = wa.alloc (.cells #[.int .i32 (-(v : Int)), .int .i32 y] 38) := ⟨_, rfl⟩
        obtain ⟨wc, ewc⟩ : ∃ wc, wc = wb.alloc (.cells #[.int .i32 (v : Int), .int .i32 (-x), .int .i32 (-y)] 38) := ⟨_, rfl⟩
        rw [← ewa, ← ewb, ← ewc] at ewt
        have sa : wa.heap.size = w4.heap.size + 1 := by rw [ewa]; simp
        have sb : wb.heap.size = w4.heap.size + 1 + 1 := by rw [ewb]; simp [sa]
        have sc : wc.heap.size = w4.heap.size + 1 + 1 + 1 := by rw [ewc]; simp [sb]
        have ra : RowV 38 1 wa w4.heap.size 2 2 (zF [-(v : Int), x]) := by rw [ewa]; exact rowz_made w4 [-(v : Int), x] (by simp)
        have rb : RowV 38 1 wb (w4.heap.size + 1) 2 2 (zF [-(v : Int), y]) := by rw [ewb, ← sa]; exact rowz_made wa [-(v : Int), y] (by simp)
        have rc : RowV 38 1 wc (w4.heap.size + 1 + 1) 3 3 (zF [(v : Int), -x, -y]) := by rw [ewc, ← sb]; exact rowz_made wb [(v : Int), -x, -y] (by simp)
        have ra : RowV 38 1 wt w4.heap.size 2 2 (zF [-(v : Int), x]) := by rw [ewt, ewc, ewb]; exact ((ra.alloc _).alloc _).alloc _
        have rb : RowV 38 1 wt (w4.heap.size + 1) 2 2 (zF [-(v : Int), y]) := by rw [ewt, ewc]; exact (rb.alloc _).alloc _
        have rc : RowV 38 1 wt (w4.heap.size + 1 + 1) 3 3 (zF [(v : Int), -x, -y]) := by rw [ewt]; exact rc.alloc _
        have hbt : Below w.heap.size w wt := by
          rw [ewt, ewc, ewb, ewa]
          have h4 := hb4.size
          exact (((hb4.alloc h4 _).alloc (by simp; omega) _).alloc (by simp; omega) _).alloc (by simp; omega) _
        have hbk : wt.heap[w4.heap.size + 1 + 1 + 1]? = some (.cells #[.slice (some ⟨w4.heap.size, 0, none⟩) 2 2, .slice (some ⟨w4.heap.size + 1, 0, none⟩) 2 2, .slice (some ⟨w4.heap.size + 1 + 1, 0, none⟩) 3 3] 60 (0, 0)) := by rw [ewt, ← sc]; exact blk_new wc _
        have h4 := hb4.size
        have st : w4.heap.size + 1 + 1 + 1 < wt.heap.size := lt_of_heap hbk
        have hTl : T.length = 3 := by rw [hT]; rfl
        refine ⟨⟨q, by rw [List.take_zero, List.append_nil]; exact h.below hbt, KnTo.refl _ _⟩, fun wr hr => ?_, fun i wr hi hP => ?_⟩
        · obtain ⟨q', p1, p2⟩ := hr
          rw [show T.take 3 = T by rw [← hTl, List.take_length]] at p1
          exact ⟨q', p1, (KnTo.ofBelow hbt).trans p2⟩
        · rcases (show i = 0 ∨ i = 1 ∨ i = 2 by omega) with rfl | rfl | rfl
          · exact ⟨w4.heap.size, 2, tel_step h hF hbt (by omega) (by omega) hP (by omega) (by rw [hT]; rfl) (by omega) (by rw [hT]; exact ra) (br := w4.heap.size + 1 + 1 + 1) (by omega) st (by rw [Lib.cell_of_heap hbk]; rfl)⟩
          · exact ⟨w4.heap.size + 1, 2, tel_step h hF hbt (by omega) (by omega) hP (by omega) (by rw [hT]; rfl) (by omega) (by rw [hT]; exact rb) (br := w4.heap.size + 1 + 1 + 1) (by omega) st (by rw [Lib.cell_of_heap hbk]; rfl)⟩
          · exact ⟨w4.heap.size + 1 + 1, 3, tel_step h hF hbt (by omega) (by omega) hP (by omega) (by rw [hT]; rfl) (by omega) (by rw [hT]; exact rc) (br := w4.heap.size + 1 + 1 + 1) (by omega) st (by rw [Lib.cell_of_heap hbk]; rfl)⟩
      clear h hgr hr hA hv hab hne h0 hT hTT hcl HQ ha hb hx9 hy9 hKl hL hF
      go_enter Try.func40, Try.ntmps40
      go_wp2_with fail
      refine HP.out.mono ?_
      rintro e w2 ⟨rfl, hb2⟩
      have HX2 := Lib.hid (HX.out _ hb2)
      have HB2 := Lib.hid hb2
      clear hb2 HP HX c0 c2 x0
      go_wp2_with fail
      refine HX2.out.mono ?_
      rintro e w3 ⟨rfl, hb3⟩
      have hb3' := HB2.out.trans (hb3.mono HB2.out.size)
      have HY2 := Lib.hid (HY.out _ hb3')
      have HB3 := Lib.hid hb3'
      clear hb3 hb3' HY HX2 HB2
      go_wp2_with fail
      refine HY2.out.mono ?_
      rintro e w4 ⟨rfl, hb4⟩
      have HL4 := Lib.hid (HLOOP.out w4 (HB3.out.trans (hb4.mono HB3.out.size)))
      clear hb4 HY2 HB3 HLOOP
      go_wp2_with fail
      obtain ⟨B, hB⟩ : ∃ B, B = w4.heap.size + 1 + 1 + 1 := ⟨_, rfl⟩
      obtain ⟨wt, hwt⟩ : ∃ wt, wt = (((w4.alloc (.cells #[.int .i32 (-(v : Int)), .int .i32 x] 38)).alloc (.cells #[.int .i32 (-(v : Int)), .int .i32 y] 38)).alloc (.cells #[.int .i32 (v : Int), .int .i32 (-x), .int .i32 (-y)] 38)).alloc
            (.cells #[.slice (some ⟨w4.heap.size, 0, none⟩) 2 2, .slice (some ⟨w4.heap.size + 1, 0, none⟩) 2 2, .slice (some ⟨w4.heap.size + 1 + 1, 0, none⟩) 3 3] 60) := ⟨_, rfl⟩
      obtain ⟨hl0, hl3, hls⟩ := HL4.out wt hwt
      rw [← hB] at hls
      rw [← hwt, ← hB]
      have HL0 := Lib.hid hl0
      have HL3 := Lib.hid hl3
      have HLS := Lib.hid hls
      clear hl0 hl3 hls HL4 hwt hB
      go_loopw [62, 12, 13] (fun iv _ _ wr => ∃ i : Nat, iv = .int .i64 (i : Int) ∧ i ≤ 3 ∧ Hid (TelP wt q s T i wr)) (fun iv _ _ _ => 3 - (intOf iv).toNat)
      case atStart => exact ⟨0, rfl, by omega, HL0⟩
      case round =>
        clear HL0
        obtain ⟨i, rfl, hi, hP⟩ := hrel
        by_cases hlt : i < 3
        · have ti : decide ((i : Int) < 3) = true := decide_eq_true (by omega)
          have ti2 : decide (i < 3) = true := decide_eq_true hlt
          have ti3 : decide ((3 : Int) ≤ (i : Int)) = false := decide_eq_false (by omega)
          have ti4 : decide (3 ≤ i) = false := decide_eq_false (by omega)
          obtain ⟨bl, nl, hc, hk⟩ := HLS.out i wr hlt hP.out
          have HK := Lib.hid hk
          clear hk
          go_wp2_with fail
          refine HK.out.mono ?_
          rintro e w5 ⟨rfl, hP5⟩
          have HP5 := Lib.hid hP5
          clear hP5 HK hc
          go_wp2_with fail
          go_roundw
          case rel => exact ⟨i + 1, by go_num, by omega, HP5⟩
          case measure => simp [intOf]; omega
        · obtain rfl : i = 3 := by omega
          have HE := Lib.hid (HL3.out wr hP.out)
          clear hP
          go_wp2_with fail
          go_ret
          exact ⟨rfl, HE.out⟩
end
end Go.Proofs.Ytmiifhclcknhdaa
