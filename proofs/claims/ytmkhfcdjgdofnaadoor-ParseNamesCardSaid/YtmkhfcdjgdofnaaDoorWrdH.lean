/- Package word: Cut. -/
import Derived.Test.YtmkhfcdjgdofnaaDoorWrdG
namespace Go.Proofs.YtmkhfcdjgdofnaaDoor
open Go.RowKit WrdM

/-- What Cut answers. -/
def CutTo (o : Out) (w : World) (e : Ending) (w' : World) : Prop :=
  match o with
  | .bad er L C => e = .returned (.tuple #[.slice none 0 0, .agg #[.int .i64 er, .int .i64 L, .int .i64 C]]) ∧ Below w.heap.size w w'
  | .ok ts => ∃ A c, e = .returned (.tuple #[.slice A ts.length c, .agg #[.int .i64 0, .int .i64 0, .int .i64 0]]) ∧ SlV 71 5 w' A ts.length c (tkF ts) ∧ (∀ k, onB A k → w.heap.size ≤ k) ∧ Below w.heap.size w w'
theorem wcel3 {W : World} {g : Nat} {a b c : Value} {t : TypeId} {fr : Nat × Nat} (h : W.heap[g]? = some (.cells #[a, b, c] t fr)) :
    W.cell? ⟨g, 0, none⟩ = some a ∧ W.cell? ⟨g, 1, none⟩ = some b ∧ W.cell? ⟨g, 2, none⟩ = some c := by
  refine ⟨?_, ?_, ?_⟩ <;> (rw [Lib.cell_of_heap h]; rfl)
theorem three_set {w : World} {g : Nat} {a b c : Value} {T : TypeId} {fr : Nat × Nat} (h : w.heap[g]? = some (.cells #[a, b, c] T fr)) (x y z : Value) :
    (((w.setCell ⟨g, 0, none⟩ x).setCell ⟨g, 1, none⟩ y).setCell ⟨g, 2, none⟩ z).heap[g]? = some (.cells #[x, y, z] T fr) := by
  rw [Lib.heap_setCell_same (Lib.heap_setCell_same (Lib.heap_setCell_same h x) y) z]
  rfl
theorem below_three {B : Nat} {w W : World} {g : Nat} (h : Below B w W) (hg : B ≤ g) (a b c : Value) :
    Below B w (((W.setCell ⟨g, 0, none⟩ a).setCell ⟨g, 1, none⟩ b).setCell ⟨g, 2, none⟩ c) :=
  ((h.setCell (p := ⟨g, 0, none⟩) hg a).setCell (p := ⟨g, 1, none⟩) hg b).setCell (p := ⟨g, 2, none⟩) hg c
theorem SlV.three {W : World} {g : Nat} {A : Option Addr} {T : TypeId} {k n c : Nat} {f : Nat → Value} (h : SlV T k W A n c f) (hg : ¬ onB A g) (x y z : Value) :
    SlV T k (((W.setCell ⟨g, 0, none⟩ x).setCell ⟨g, 1, none⟩ y).setCell ⟨g, 2, none⟩ z) A n c f := ((h.other (a := ⟨g, 0, none⟩) hg x).other (a := ⟨g, 1, none⟩) hg y).other (a := ⟨g, 2, none⟩) hg z
/-- The loop's state: the words so far, and what is left. -/
structure CuSt (s : List UInt8) (g : Nat) (w1 wr : World) (r1 : List UInt8) (L1 C1 : Int) (A : Option Addr) (c : Nat) (ts : List Tok) : Prop where
  at_ : CtAt wr g r1 L1 C1 A c ts
  bel : Below g w1 wr
  goe : go 0 false 1 1 s = Out.pre ts (go 0 false L1 C1 r1)
  l0 : 1 ≤ L1
  c0 : 1 ≤ C1
  l1 : L1 + r1.length ≤ 1 + s.length
  c1 : C1 + r1.length ≤ 1 + s.length
  n : ts.length + r1.length ≤ s.length
section
variable {s r1 r2 r3 : List UInt8} {g : Nat} {w1 wr w' wq : World} {L1 C1 L3 C3 : Int} {A A' : Option Addr} {c c' : Nat} {ts : List Tok}
theorem CuSt.skip (h : CuSt s g w1 wr r1 L1 C1 A c ts) (hk : Sk g r1 L1 C1 A c ts wr r3 L3 C3 w') : CuSt s g w1 w' r3 L3 C3 A c ts := by
  have hb := hk.bd h.c0
  have h1 := h.l0
  have h2 := h.l1
  have h3 := h.c1
  have h4 := h.n
  obtain ⟨p, e1, e2, e3, e4, e5⟩ := hk
  exact ⟨e3, h.bel.trans (e4.mono (Nat.le_refl _)), by rw [h.goe, e5], by omega, by omega, by omega, by omega, by omega⟩
theorem CuSt.word (h : CuSt s g w1 wr r1 L1 C1 A c ts) {tx : List UInt8} {k n : Int} (hb : headB blkB r1 = false) (hr : rem2 r1 = false) (hw : wordL r1 = ⟨0, k, tx, n⟩) :
    ∃ r2, r1 = tx ++ r2 ∧ tx.length ≤ 32 ∧ ∀ w' A' c', CtAt w' g r2 (adv L1 C1 tx).1 (adv L1 C1 tx).2 A' c' (ts ++ [⟨k, tx, n, L1, C1⟩]) → Below g wr w' → CuSt s g w1 w' r2 (adv L1 C1 tx).1 (adv L1 C1 tx).2 A' c' (ts ++ [⟨k, tx, n, L1, C1⟩]) := by
  have he : (wordL r1).err = 0 := by rw [hw]
  obtain ⟨d, ds, r, h1, h2, h3, h4⟩ := wordL_pre _ he
  rw [hw] at h1 h2 h3 h4
  simp only at h1 h2 h3 h4
  have hflat : ∀ x ∈ tx, (x == 10) = false := by
    intro x hx
    rw [List.all_eq_true] at h3
    have := h3 x hx
    simp [blkB] at this
    simpa using this.2
  have ha := adv_flat tx L1 C1 hflat
  refine ⟨r, h2, h4, fun w' A' c' hA hB => ?_⟩
  have e0 := h.l0
  have e1 := h.c0
  have e2 := h.l1
  have e3 := h.c1
  have e4 := h.n
  have hl : r1.length = tx.length + r.length := by rw [h2, List.length_append]
  have hlt : 1 ≤ tx.length := by rw [h1]; simp
  have hgo : go 0 false L1 C1 r1 = Out.pre [⟨k, tx, n, L1, C1⟩] (go 0 false L1 (C1 + tx.length) r) := by
    cases r1 with
    | nil => simp at hl; omega
    | cons x xs =>
      rw [go_word x xs L1 C1 hb hr he, hw]
      show Out.pre [⟨k, tx, n, L1, C1⟩] _ = _
      congr 2
      rw [h2, List.drop_left]
  refine ⟨hA, h.bel.trans (hB.mono (Nat.le_refl _)), ?_, ?_, ?_, ?_, ?_, ?_⟩
  · rw [h.goe, hgo, Out.pre_pre, ha]
  · rw [ha]; exact e0
  · rw [ha]; show 1 ≤ C1 + (tx.length : Int); omega
  · rw [ha]; show L1 + (r.length : Int) ≤ _; omega
  · rw [ha]; show C1 + (tx.length : Int) + (r.length : Int) ≤ _; omega
  · rw [List.length_append]; simp; omega
theorem CuSt.bad (h : CuSt s g w1 wr r1 L1 C1 A c ts) {x : Wrd} (hb : headB blkB r1 = false) (hr : rem2 r1 = false) (hne : r1 ≠ []) (hw : wordL r1 = x) (he : x.err ≠ 0) : go 0 false 1 1 s = .bad x.err L1 C1 := by
  rw [h.goe]
  cases r1 with
  | nil => exact absurd rfl hne
  | cons y ys => rw [go_bad y ys L1 C1 hb hr (by rw [hw]; exact he), hw]; rfl
theorem CuSt.done (h : CuSt s g w1 wr [] L1 C1 A c ts) : go 0 false 1 1 s = .ok (ts ++ [⟨5, [], 0, L1, C1⟩]) := by
  rw [h.goe, go_nil]; rfl
end

set_option maxHeartbeats 6400000 in
set_option maxRecDepth 100000 in
theorem cut_any (s : List UInt8) (w : World) (h : SgnAt w) (hw : 1 < w.heap.size) (hs : s.length ≤ 9223372036854775807) :
    Calls Tryd.prog 21 #[.string ⟨s.toArray⟩] w (CutTo (cutL s) w) := by
  have hal0 := below_alloc w (.cells #[.int .i64 0, .int .i64 0, .int .i64 0] 27)
  have hnew0 := blk_new w (.cells #[.int .i64 0, .int .i64 0, .int .i64 0] 27)
  have hsz0 : (w.alloc (.cells #[.int .i64 0, .int .i64 0, .int .i64 0] 27)).heap.size = w.heap.size + 1 := by simp
  have HW1 : Hid (∀ w1, w1 = (w.alloc (.cells #[.int .i64 0, .int .i64 0, .int .i64 0] 27)).alloc (.cells #[.string ⟨s.toArray⟩, .int .i64 1, .int .i64 1, .slice none 0 0] 86) →
      CtAt w1 (w.heap.size + 1) s 1 1 none 0 [] ∧ Below w.heap.size w w1 ∧ w1.heap[w.heap.size]? = some (.cells #[.int .i64 0, .int .i64 0, .int .i64 0] 27 (0, 0))) := by
    rintro w1 rfl
    have hal1 := below_alloc (w.alloc (.cells #[.int .i64 0, .int .i64 0, .int .i64 0] 27)) (.cells #[.string ⟨s.toArray⟩, .int .i64 1, .int .i64 1, .slice none 0 0] 86)
    have hnew1 := blk_new (w.alloc (.cells #[.int .i64 0, .int .i64 0, .int .i64 0] 27)) (.cells #[.string ⟨s.toArray⟩, .int .i64 1, .int .i64 1, .slice none 0 0] 86)
    rw [hsz0] at hnew1 hal1
    exact ⟨⟨hnew1, SlV.nil _ _ _ _, fun k hk => absurd hk (onB_none k)⟩, hal0.trans (hal1.mono (by omega)), (hal1.block w.heap.size (by omega)).trans hnew0⟩
  obtain ⟨sb, hsb⟩ : ∃ sb : ByteArray, sb = ⟨s.toArray⟩ := ⟨_, rfl⟩
  have hn : (sb.size : Int) = (s.length : Int) := by rw [hsb, size_mk]
  rw [← hsb] at HW1 ⊢
  have HSG : Hid (∀ W, Below w.heap.size w W → SgnAt W) := fun W hb => h.below hb hw
  clear hsb hal0 hnew0 hsz0 h
  have HCE : Hid (cutL s = if 65536 < s.length then .bad 132 1 1 else go 0 false 1 1 s) := rfl
  generalize cutL s = o at *
  by_cases hbig : 65536 < s.length
  · have t1 : decide ((65536 : Int) < (s.length : Int)) = true := decide_eq_true (by omega)
    rw [if_pos hbig] at HCE
    go_enter Tryd.func21, Tryd.ntmps21
    go_wp2_with fail
    obtain ⟨w1, hw1⟩ : ∃ w1, w1 = (w.alloc (.cells #[.int .i64 0, .int .i64 0, .int .i64 0] 27)).alloc (.cells #[.string sb, .int .i64 1, .int .i64 1, .slice none 0 0] 86) := ⟨_, rfl⟩
    rw [← hw1]
    obtain ⟨hA, hB, hF⟩ := HW1.out w1 hw1
    have HFA := Lib.hid (fault_any 132 w1 hA)
    have HB := Lib.hid hB
    have HF := Lib.hid hF
    clear hw1 HW1 hA hB hF
    refine HFA.out.mono ?_
    rintro e w2 ⟨rfl, hB2⟩
    have HB2 := Lib.hid (HB.out.trans (hB2.mono HB.out.size))
    have HF2 := Lib.hid ((hB2.block w.heap.size (lt_of_heap HF.out)).trans HF.out)
    clear hB2 HFA HB HF
    obtain ⟨s0, s1, s2⟩ := wcel3 HF2.out
    have uf := Lib.frozen_of_heap HF2.out
    have hq := three_set HF2.out (.int .i64 132) (.int .i64 1) (.int .i64 1)
    obtain ⟨p0, p1, p2⟩ := wcel3 hq
    clear hq
    go_wp2_with fail
    refine bodyPost_ret (v := .tuple #[.slice none 0 0, .agg #[.int .i64 132, .int .i64 1, .int .i64 1]]) (by simp [results, Tryd.results21, go_sem, p0, p1, p2]) rfl ?_
    rw [HCE.out]
    exact ⟨rfl, below_three HB2.out (Nat.le_refl _) _ _ _⟩
  · have t1 : decide ((65536 : Int) < (s.length : Int)) = false := decide_eq_false (by omega)
    rw [if_neg hbig] at HCE
    go_enter Tryd.func21, Tryd.ntmps21
    go_wp2_with fail
    obtain ⟨w1, hw1⟩ : ∃ w1, w1 = (w.alloc (.cells #[.int .i64 0, .int .i64 0, .int .i64 0] 27)).alloc (.cells #[.string sb, .int .i64 1, .int .i64 1, .slice none 0 0] 86) := ⟨_, rfl⟩
    rw [← hw1]
    obtain ⟨hA, hB, hF⟩ := HW1.out w1 hw1
    have hSK := skip_any w1 hA (by omega) (by omega) (by omega) (by omega)
    have H0 : Hid (CuSt s (w.heap.size + 1) w1 w1 s 1 1 none 0 []) := ⟨hA, Below.refl _ _, by rw [Out.pre_nil], by omega, by omega, by omega, by omega, by simp⟩
    have HSK := Lib.hid hSK
    have HB := Lib.hid hB
    have HF := Lib.hid hF
    clear hw1 HW1 hA hB hF hSK
    refine HSK.out.mono ?_
    rintro e w2 ⟨rfl, r0, L0, C0, hk0, hb0, hr0⟩
    have H2 := Lib.hid (H0.out.skip hk0)
    have HBK := Lib.hid hb0
    have HRM := Lib.hid hr0
    have hrl := H2.out.n
    clear HSK hk0 hb0 hr0 H0
    go_wp2_with fail
    go_loopg [] r0.length (fun gg wr => ∃ ts r1 L1 C1 A c, Hid (CuSt s (w.heap.size + 1) w1 wr r1 L1 C1 A c ts) ∧ Hid (headB blkB r1 = false) ∧ Hid (rem2 r1 = false) ∧ r1.length ≤ gg)
    case atStart => exact ⟨_, _, _, _, _, _, H2, HBK, HRM, Nat.le_refl _⟩
    case round =>
      obtain ⟨ts, r1, L1, C1, A, c, HS, HB1, HR1, hgk⟩ := hrel
      clear H2 HBK HRM hrl
      have HBW : Hid (Below w.heap.size w wr) := HB.out.trans (HS.out.bel.mono (by omega))
      have HFW : Hid (wr.heap[w.heap.size]? = some (.cells #[.int .i64 0, .int .i64 0, .int .i64 0] 27 (0, 0))) := (HS.out.bel.block w.heap.size (by omega)).trans HF.out
      have q0 := (wcel4 HS.out.at_.blk).1
      have e0 := HS.out.l0
      have e1 := HS.out.c0
      have e2 := HS.out.l1
      have e3 := HS.out.c1
      have e4 := HS.out.n
      by_cases hr : r1 = []
      · have HSd := HS
        rw [hr] at HSd
        have HPU := Lib.hid (put_any (r := []) [] 5 0 0 0 wr HSd.out.at_ (by simp) (by omega) (by omega) (by omega) (by omega) (by omega))
        have HDN := Lib.hid HSd.out.done
        obtain ⟨rb, hrb⟩ : ∃ rb : ByteArray, rb = ⟨r1.toArray⟩ := ⟨_, rfl⟩
        have te : (rb.toList == []) = true := by rw [hrb, show (⟨r1.toArray⟩ : ByteArray).toList = r1 from by rw [Lib.toList_data], hr]; rfl
        rw [← hrb] at q0
        clear hrb hr HS HSd
        go_wp2_with fail
        refine HPU.out.mono ?_
        rintro e w3 ⟨rfl, A3, c3, hA3, hB3⟩
        have d3 := (wcel4 hA3.blk).2.2.2
        have hln : (ts ++ [(⟨5, [], 0, L1, C1⟩ : Tok)]).length = ts.length + 1 := by rw [List.length_append]; rfl
        have HB4 := Lib.hid (HBW.out.trans (hB3.mono (by omega)))
        have HF4 := Lib.hid ((hB3.block w.heap.size (by omega)).trans HFW.out)
        have hoff : ¬ onB A3 w.heap.size := fun e => by have := hA3.lo _ e; omega
        have HQ : Hid (SlV 71 5 (((w3.setCell ⟨w.heap.size, 0, none⟩ (.int .i64 0)).setCell ⟨w.heap.size, 1, none⟩ (.int .i64 0)).setCell ⟨w.heap.size, 2, none⟩ (.int .i64 0)) A3 (ts ++ [(⟨5, [], 0, L1, C1⟩ : Tok)]).length c3 (tkF (ts ++ [⟨5, [], 0, L1, C1⟩])) ∧ ∀ k, onB A3 k → w.heap.size ≤ k) := ⟨hA3.row.three hoff _ _ _, fun k hk => by have := hA3.lo k hk; omega⟩
        rw [hln] at d3 HQ
        clear hA3 hB3 hoff HPU
        obtain ⟨s0, s1, s2⟩ := wcel3 HF4.out
        have uf := Lib.frozen_of_heap HF4.out
        have hq := three_set HF4.out (.int .i64 0) (.int .i64 0) (.int .i64 0)
        obtain ⟨p0, p1, p2⟩ := wcel3 hq
        clear hq
        go_wp2_with fail
        refine bodyPost_ret (v := .tuple #[.slice A3 (ts.length + 1) c3, .agg #[.int .i64 0, .int .i64 0, .int .i64 0]]) (by simp [results, Tryd.results21, go_sem, p0, p1, p2]) rfl ?_
        rw [HCE.out, HDN.out]
        exact ⟨A3, c3, by rw [hln], by rw [hln]; exact HQ.out.1, HQ.out.2, below_three HB4.out (Nat.le_refl _) _ _ _⟩
      · obtain ⟨rb, hrb⟩ : ∃ rb : ByteArray, rb = ⟨r1.toArray⟩ := ⟨_, rfl⟩
        have te : (rb.toList == []) = false := by
          rw [hrb, show (⟨r1.toArray⟩ : ByteArray).toList = r1 from by rw [Lib.toList_data], beq_eq_false_iff_ne]; exact hr
        have HNX := Lib.hid (next_any r1 wr (HSG.out wr HBW.out) (Nat.lt_of_lt_of_le hw HBW.out.size) (by omega))
        rw [← hrb] at q0 HNX
        have HNE := Lib.hid hr
        clear hrb hr
        rcases hwd : wordL r1 with ⟨er, k, tx, n⟩
        have HWD := Lib.hid hwd
        rw [hwd, show wrdR ⟨er, k, tx, n⟩ = .returned (.tuple #[.agg #[.int .i64 k, .string ⟨tx.toArray⟩, .int .i64 n, .int .i64 0, .int .i64 0], .int .i64 er]) from rfl] at HNX
        clear hwd
        by_cases he : er = 0
        · subst he
          obtain ⟨r2, h21, h22, h23⟩ := HS.out.word HB1.out HR1.out HWD.out
          have hl2 : r1.length = tx.length + r2.length := by rw [h21, List.length_append]
          have H23 := Lib.hid h23
          have H21 := Lib.hid h21
          have HA0 := Lib.hid HS.out.at_
          rw [h21] at HA0
          have HTX1 : Hid (1 ≤ tx.length) := by
            obtain ⟨d, ds, r, h1, _⟩ := wordL_pre r1 (by rw [HWD.out])
            rw [HWD.out] at h1
            simp only at h1
            unfold Hid
            rw [h1]; simp
          clear h21 h23
          rcases gk with _ | gk
          · exfalso; have := HTX1.out; omega
          obtain ⟨xb, hxb⟩ : ∃ xb : ByteArray, xb = ⟨tx.toArray⟩ := ⟨_, rfl⟩
          have HXB := Lib.hid hxb
          rw [← hxb] at HNX
          clear hxb
          go_wp2_with fail
          refine HNX.out.mono ?_
          rintro e w3 ⟨rfl, hB3⟩
          have hal3 := below_alloc w3 (.cells #[.int .i64 k, .string xb, .int .i64 n, .int .i64 0, .int .i64 0] 71)
          have hB4 := hB3.trans (hal3.mono hB3.size)
          have hA4 := HA0.out.below hB4 (Nat.le_refl _)
          have HPU := Lib.hid (put_any tx k n 0 0 _ hA4 (by omega) (by omega) (by omega) (by omega) (by omega) (by omega))
          have HB4 := Lib.hid (hB4.mono (show w.heap.size + 1 ≤ wr.heap.size from by have := HA0.out.lt; omega))
          rw [← HXB.out] at HPU
          have nn := tok_cells w3 (.int .i64 k) (.string xb) (.int .i64 n) (.int .i64 0) (.int .i64 0) 71
          obtain ⟨n0, n1, n2, n3, n4⟩ := nn
          clear hB3 hal3 hB4 hA4 HA0 HNX
          go_wp2_with fail
          refine HPU.out.mono ?_
          rintro e w5 ⟨rfl, A5, c5, hA5, hB5⟩
          have h5 := H23.out w5 A5 c5 hA5 (HB4.out.trans (hB5.mono (Nat.le_refl _)))
          have HS5 := Lib.hid h5
          have b0 := h5.l0
          have b1 := h5.c0
          have b2 := h5.l1
          have b3 := h5.c1
          have HSK := Lib.hid (skip_any w5 h5.at_ (by omega) b1 (by omega) (by omega))
          clear h5 hA5 hB5 HPU n0 n1 n2 n3 n4 b0 b1 b2 b3 H23 H21 HB4
          go_wp2_with fail
          refine HSK.out.mono ?_
          rintro e w6 ⟨rfl, r3, L3, C3, hk3, hb3, hr3⟩
          have hl3 := (hk3.bd HS5.out.c0).1
          have H6 := Lib.hid (HS5.out.skip hk3)
          have HB6 := Lib.hid hb3
          have HR6 := Lib.hid hr3
          clear hk3 hb3 hr3 HSK
          go_wp2_with fail
          go_roundg gk
          case rel => exact ⟨_, r3, _, _, _, _, H6, HB6, HR6, by have := HTX1.out; omega⟩
          case measure => omega
        · have te2 : (er != 0) = true := by rw [bne_iff_ne]; exact he
          have HBD := Lib.hid (HS.out.bad HB1.out HR1.out HNE.out HWD.out he)
          have HA0 := Lib.hid HS.out.at_
          clear he
          obtain ⟨xb, hxb⟩ : ∃ xb : ByteArray, xb = ⟨tx.toArray⟩ := ⟨_, rfl⟩
          rw [← hxb] at HNX
          clear hxb
          go_wp2_with fail
          refine HNX.out.mono ?_
          rintro e w3 ⟨rfl, hB3⟩
          have hal3 := below_alloc w3 (.cells #[.int .i64 k, .string xb, .int .i64 n, .int .i64 0, .int .i64 0] 71)
          have hB4 := hB3.trans (hal3.mono hB3.size)
          have hA4 := HA0.out.below hB4 (Nat.le_refl _)
          have HFA := Lib.hid (fault_any er _ hA4)
          have HB4 := Lib.hid (HBW.out.trans (hB4.mono HBW.out.size))
          have HF4 := Lib.hid ((hB4.block w.heap.size (lt_of_heap HFW.out)).trans HFW.out)
          clear hB3 hal3 hB4 hA4 HA0 HNX
          go_wp2_with fail
          refine HFA.out.mono ?_
          rintro e w5 ⟨rfl, hB5⟩
          have HB5 := Lib.hid (HB4.out.trans (hB5.mono HB4.out.size))
          have HF5 := Lib.hid ((hB5.block w.heap.size (lt_of_heap HF4.out)).trans HF4.out)
          clear hB5 HFA
          obtain ⟨s0, s1, s2⟩ := wcel3 HF5.out
          have uf := Lib.frozen_of_heap HF5.out
          have hq := three_set HF5.out (.int .i64 er) (.int .i64 L1) (.int .i64 C1)
          obtain ⟨p0, p1, p2⟩ := wcel3 hq
          clear hq
          go_wp2_with fail
          refine bodyPost_ret (v := .tuple #[.slice none 0 0, .agg #[.int .i64 er, .int .i64 L1, .int .i64 C1]]) (by simp [results, Tryd.results21, go_sem, p0, p1, p2]) rfl ?_
          rw [HCE.out, HBD.out]
          exact ⟨rfl, below_three HB5.out (Nat.le_refl _) _ _ _⟩
end Go.Proofs.YtmkhfcdjgdofnaaDoor
