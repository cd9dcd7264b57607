/- Package word: put. -/
import Derived.Test.YtmkhfcdjgdofnaaDoorWrdF
namespace Go.Proofs.YtmkhfcdjgdofnaaDoor
open Go.RowKit WrdM

theorem info_tok : (Tryd.prog.info? 71).map (fun i => (i.zero, i.size, i.bytes)) = some (some (.agg #[.int .i64 0, .string ⟨#[]⟩, .int .i64 0, .int .i64 0, .int .i64 0]), 5, 48) := by kernel_rfl

/-- What the append leaves: the cutter with a word more, once its slice is stored. -/
theorem put_app {g b : Nat} {r : List UInt8} {L C : Int} {A : Option Addr} {c : Nat} {ts : List Tok} {w wx : World} (h : CtAt wx g r L C A c ts) (tx : List UInt8) (k n : Int)
    (hbx : wx.heap[b]? = some (.cells #[.int .i64 k, .string ⟨tx.toArray⟩, .int .i64 n, .int .i64 L, .int .i64 C] 71 (0, 0))) (hbg : g < b) (hbA : ¬ onB A b) (hB : Below g w wx)
    (wd : World) (hwd : wd = (wx.alloc (.cells #[.int .i64 k, .string ⟨tx.toArray⟩, .int .i64 n, .int .i64 L, .int .i64 C] 71)).drew) :
    wd.cell? ⟨g, 3, none⟩ = some (.slice A ts.length c) ∧ (∀ j, wd.frozen? ⟨g, j, none⟩ = false) ∧ SlV 71 5 wd A ts.length c (tkF ts) ∧
    (∀ j u, ([.int .i64 k, .string ⟨tx.toArray⟩, .int .i64 n, .int .i64 L, .int .i64 C] : List Value)[j]? = some u → wd.cell? ((⟨wx.heap.size, 0, none⟩ : Addr).add j) = some u) ∧
    (∀ g4 c4 v4, RowV 71 5 v4 g4 (ts.length + 1) c4 (appV (tkF ts) (ts.length * 5) [.int .i64 k, .string ⟨tx.toArray⟩, .int .i64 n, .int .i64 L, .int .i64 C]) → (onB A g4 ∨ wd.heap.size ≤ g4) → (∀ B : Nat → Prop, (∀ j, onB A j → B j) → Kf B wd v4) →
      v4.cell? ⟨g, 3, none⟩ = some (.slice A ts.length c) ∧ (∀ j, v4.frozen? ⟨g, j, none⟩ = false) ∧
      (∃ A' c', CtAt (v4.setCell ⟨g, 3, none⟩ (.slice (some ⟨g4, 0, none⟩) (ts.length + 1) c4)) g r L C A' c' (ts ++ [⟨k, tx, n, L, C⟩]) ∧
        (v4.setCell ⟨g, 3, none⟩ (.slice (some ⟨g4, 0, none⟩) (ts.length + 1) c4)).cell? ⟨b, 1, none⟩ = some (.string ⟨tx.toArray⟩) ∧ Below g w (v4.setCell ⟨g, 3, none⟩ (.slice (some ⟨g4, 0, none⟩) (ts.length + 1) c4)))) := by
  subst hwd
  have hal : Below wx.heap.size wx ((wx.alloc (.cells #[.int .i64 k, .string ⟨tx.toArray⟩, .int .i64 n, .int .i64 L, .int .i64 C] 71)).drew) := Below.drew (below_alloc _ _)
  have h1 := h.below hal (Nat.le_refl _)
  have hgl := h.lt
  have hbl := lt_of_heap hbx
  have hsz : ((wx.alloc (.cells #[.int .i64 k, .string ⟨tx.toArray⟩, .int .i64 n, .int .i64 L, .int .i64 C] 71)).drew).heap.size = wx.heap.size + 1 := by show (wx.heap.push _).size = _; simp
  refine ⟨(wcel4 h1.blk).2.2.2, Lib.frozen_of_heap h1.blk, h1.row, box_news wx _ _, ?_⟩
  intro g4 c4 v4 hr hg hk
  have hK := hk (onB A) (fun _ x => x)
  have hgb := (hK.block g (by rw [hsz]; omega) h.off).trans h1.blk
  have hg4 : g < g4 := by
    rcases hg with e | e
    · exact h.lo _ e
    · rw [hsz] at e; omega
  have hbB : ((wx.alloc (.cells #[.int .i64 k, .string ⟨tx.toArray⟩, .int .i64 n, .int .i64 L, .int .i64 C] 71)).drew).heap[b]? = some (.cells #[.int .i64 k, .string ⟨tx.toArray⟩, .int .i64 n, .int .i64 L, .int .i64 C] 71 (0, 0)) := (hal.block b hbl).trans hbx
  have hb4 := (hK.block b (by rw [hsz]; omega) hbA).trans hbB
  have hBl : Below g wx v4 := (hal.mono (by omega)).trans (hK.below (by rw [hsz]; omega) (fun x hx => by have := h.lo x hx; omega))
  refine ⟨(wcel4 hgb).2.2.2, Lib.frozen_of_heap hgb, some ⟨g4, 0, none⟩, c4, ⟨?_, .inr ⟨g4, rfl, ?_⟩, ?_⟩, ?_, ?_⟩
  · rw [Lib.heap_setCell_same hgb, List.length_append]; rfl
  · refine RowV.other ?_ (by show g ≠ g4; omega) _
    rw [List.length_append]
    exact hr.congr fun j hj => tkF_snoc ts _ j hj
  · rintro j ⟨a, ha, rfl⟩
    injection ha with ha; subst ha; exact hg4
  · have := Lib.cell_of_heap hb4 1
    rw [World.cell?_of_block (w := v4) (Below.heap_setCell _ _ _ _ (by show b ≠ g; omega))]
    exact this
  · exact (hB.trans (hBl.mono (Nat.le_refl _))).setCell (p := ⟨g, 3, none⟩) (Nat.le_refl _) _
/-- A word more. -/
def PutTo (g : Nat) (r : List UInt8) (L C : Int) (ts : List Tok) (w : World) (e : Ending) (w' : World) : Prop :=
  e = .returned (.tuple #[]) ∧ ∃ A c, CtAt w' g r L C A c ts ∧ Below g w w'
theorem below_two {w W : World} {g b : Nat} (h : Below g w W) (hb : g ≤ b) (x y : Value) : Below g w ((W.setCell ⟨b, 3, none⟩ x).setCell ⟨b, 4, none⟩ y) :=
  (h.setCell (p := ⟨b, 3, none⟩) hb x).setCell (p := ⟨b, 4, none⟩) hb y

set_option maxHeartbeats 3200000 in
theorem put_any {g : Nat} {r : List UInt8} {L C : Int} {A : Option Addr} {c : Nat} {ts : List Tok} (tx : List UInt8) (k n l0 c0 : Int) (w : World) (h : CtAt w g (tx ++ r) L C A c ts)
    (htx : tx.length ≤ 70000) (hts : ts.length ≤ 70000) (hL0 : 0 ≤ L) (hL : L ≤ 70000) (hC0 : 0 ≤ C) (hC : C ≤ 70000) :
    Calls Tryd.prog 44 #[.pointer (some ⟨g, 0, none⟩), .agg #[.int .i64 k, .string ⟨tx.toArray⟩, .int .i64 n, .int .i64 l0, .int .i64 c0]] w
      (PutTo g r (adv L C tx).1 (adv L C tx).2 (ts ++ [⟨k, tx, n, L, C⟩]) w) := by
  have hlt := h.lt
  have hal := below_alloc w (.cells #[.int .i64 k, .string ⟨tx.toArray⟩, .int .i64 n, .int .i64 l0, .int .i64 c0] 71)
  have h1 := h.below hal (Nat.le_refl _)
  have hnA : ¬ onB A w.heap.size := fun e => by have := h.row.lt _ e; omega
  obtain ⟨_, q1, q2, _⟩ := wcel4 h1.blk
  have hnew := blk_new w (.cells #[.int .i64 k, .string ⟨tx.toArray⟩, .int .i64 n, .int .i64 l0, .int .i64 c0] 71)
  have HW1 : Hid (∀ w1, w1 = w.alloc (.cells #[.int .i64 k, .string ⟨tx.toArray⟩, .int .i64 n, .int .i64 l0, .int .i64 c0] 71) →
      w1.cell? ⟨g, 1, none⟩ = some (.int .i64 L) ∧ w1.cell? ⟨g, 2, none⟩ = some (.int .i64 C) ∧ w1.cell? ⟨w.heap.size, 3, none⟩ = some (.int .i64 l0) ∧ w1.cell? ⟨w.heap.size, 4, none⟩ = some (.int .i64 c0) ∧
      (∀ j, w1.frozen? ⟨w.heap.size, j, none⟩ = false) ∧ g ≠ w.heap.size ∧
      (CtAt ((w1.setCell ⟨w.heap.size, 3, none⟩ (.int .i64 L)).setCell ⟨w.heap.size, 4, none⟩ (.int .i64 C)).drew g (tx ++ r) L C A c ts ∧
        ((w1.setCell ⟨w.heap.size, 3, none⟩ (.int .i64 L)).setCell ⟨w.heap.size, 4, none⟩ (.int .i64 C)).drew.heap[w.heap.size]? = some (.cells #[.int .i64 k, .string ⟨tx.toArray⟩, .int .i64 n, .int .i64 L, .int .i64 C] 71 (0, 0)) ∧
        Below g w ((w1.setCell ⟨w.heap.size, 3, none⟩ (.int .i64 L)).setCell ⟨w.heap.size, 4, none⟩ (.int .i64 C)).drew)) := by
    rintro w1 rfl
    have hs : (w.alloc (.cells #[.int .i64 k, .string ⟨tx.toArray⟩, .int .i64 n, .int .i64 l0, .int .i64 c0] 71)).heap[w.heap.size]? = some (.cells #[.int .i64 k, .string ⟨tx.toArray⟩, .int .i64 n, .int .i64 l0, .int .i64 c0] 71 (0, 0)) := hnew
    refine ⟨q1, q2, Lib.cell_of_heap hs 3, Lib.cell_of_heap hs 4, Lib.frozen_of_heap hs, by omega, ?_, ?_, ?_⟩
    · have hb := Below.drew (((Below.refl w.heap.size (w.alloc (.cells #[.int .i64 k, .string ⟨tx.toArray⟩, .int .i64 n, .int .i64 l0, .int .i64 c0] 71))).setCell (p := ⟨w.heap.size, 3, none⟩) (Nat.le_refl _) (.int .i64 L)).setCell (p := ⟨w.heap.size, 4, none⟩) (Nat.le_refl _) (.int .i64 C))
      exact h.same fun j hj => ((hal.trans hb).block j hj)
    · have := Lib.heap_setCell_same (i := 4) (Lib.heap_setCell_same (i := 3) hs (.int .i64 L)) (.int .i64 C)
      exact this
    · exact Below.drew (below_two (hal.mono (by omega)) (by omega) _ _)
  have HHLT := Lib.hid hlt
  have HNA := Lib.hid hnA
  clear h hal h1 hnA q1 q2 hnew
  obtain ⟨tb, htb⟩ : ∃ tb : ByteArray, tb = ⟨tx.toArray⟩ := ⟨_, rfl⟩
  have HTB := Lib.hid htb
  rw [← htb] at HW1 ⊢
  clear htb
  go_enter Tryd.func44, Tryd.ntmps44
  go_wp2_with fail
  obtain ⟨w1, hw1⟩ : ∃ w1, w1 = w.alloc (.cells #[.int .i64 k, .string tb, .int .i64 n, .int .i64 l0, .int .i64 c0] 71) := ⟨_, rfl⟩
  rw [← hw1]
  obtain ⟨q1, q2, q3, q4, qf, hne, hE1⟩ := HW1.out w1 hw1
  have HE1 := Lib.hid hE1
  clear hw1 HW1 hE1
  go_cut [] (fun wx => CtAt wx g (tx ++ r) L C A c ts ∧ wx.heap[w.heap.size]? = some (.cells #[.int .i64 k, .string tb, .int .i64 n, .int .i64 L, .int .i64 C] 71 (0, 0)) ∧ Below g w wx)
  case first =>
    refine wp_region_any (by kernel_rfl) ?_
    change wpAny _ _ _ _ _ _ _ (World.drew _)
    refine wpAny_take (i := 0) (v := ?_) rfl (by kernel_rfl) (by kernel_rfl) (by kernel_rfl) (fun _ _ _ h => h) (Or.inl ⟨by kernel_rfl, ?_⟩) ?_
    rotate_left 1
    · (intro w; go_simp <;> with_reducible rfl)
    go_simp
    refine wpAny_take (i := 1) (v := ?_) rfl (by kernel_rfl) (by kernel_rfl) (by kernel_rfl) (fun _ _ _ h => h) (Or.inl ⟨by kernel_rfl, ?_⟩) ?_
    rotate_left 1
    · (intro w; go_simp <;> with_reducible rfl)
    go_simp
    refine wpAny_take (i := 2) (v := ?_) rfl (by kernel_rfl) (by kernel_rfl) (by kernel_rfl) (fun _ _ _ h => h) (Or.inl ⟨by kernel_rfl, ?_⟩) ?_
    rotate_left 1
    · (intro w; go_simp <;> with_reducible rfl)
    go_simp
    refine wpAny_take (i := 4) (v := ?_) rfl (by kernel_rfl) (by kernel_rfl) (by kernel_rfl) (fun _ _ _ h => h) (Or.inl ⟨by kernel_rfl, ?_⟩) ?_
    rotate_left 1
    · (intro w; go_simp <;> with_reducible rfl)
    go_simp
    refine wpAny_take (i := 5) (v := ?_) rfl (by kernel_rfl) (by kernel_rfl) (by kernel_rfl) (fun _ _ _ h => h) (Or.inl ⟨by kernel_rfl, ?_⟩) ?_
    rotate_left 1
    · (intro w; go_simp <;> with_reducible rfl)
    go_simp
    refine wpAny_take (i := 6) (v := ?_) rfl (by kernel_rfl) (by kernel_rfl) (by kernel_rfl) (fun _ _ _ h => h) (Or.inl ⟨by kernel_rfl, ?_⟩) ?_
    rotate_left 1
    · (intro w; go_simp <;> with_reducible rfl)
    go_simp
    refine wpAny_ready (rs := [3, 7]) (by kernel_rfl) (by simp) ?_
    refine AllReady.cons rfl (fun K hK => ?_) ?_
    ·
      go_simp
      refine hK _ _ ?_; clear hK K
      refine wpAny_take (i := 8) (v := ?_) rfl (by kernel_rfl) (by kernel_rfl) (by kernel_rfl) (fun _ _ _ h => h) (Or.inl ⟨by kernel_rfl, ?_⟩) ?_
      rotate_left 1
      · (intro w; go_simp <;> with_reducible rfl)
      go_simp
      refine wpAny_ready (rs := [7, 9]) (by kernel_rfl) (by simp) ?_
      refine AllReady.cons rfl (fun K hK => ?_) ?_
      ·
        go_simp
        refine hK _ _ ?_; clear hK K
        refine wpAny_ready (rs := [9]) (by kernel_rfl) (by simp) ?_
        refine AllReady.cons rfl (fun K hK => ?_) ?_
        ·
          go_simp
          refine hK _ _ ?_; clear hK K
          refine wpAny_take (i := 10) (v := ?_) rfl (by kernel_rfl) (by kernel_rfl) (by kernel_rfl) (fun _ _ _ h => h) (Or.inl ⟨by kernel_rfl, ?_⟩) ?_
          rotate_left 1
          · (intro w; go_simp <;> with_reducible rfl)
          go_simp
          refine wpAny_ready (rs := [11]) (by kernel_rfl) (by simp) ?_
          refine AllReady.cons rfl (fun K hK => ?_) ?_
          ·
            go_simp
            refine hK _ _ ?_; clear hK K
            refine wpAny_done (by kernel_rfl) ?_ _
            go_wp2_with fail
            go_meet
            exact HE1.out
          exact AllReady.nil
        exact AllReady.nil
      refine AllReady.cons rfl (fun K hK => ?_) ?_
      ·
        go_simp
        refine hK _ _ ?_; clear hK K
        refine wpAny_ready (rs := [7]) (by kernel_rfl) (by simp) ?_
        refine AllReady.cons rfl (fun K hK => ?_) ?_
        ·
          go_simp
          refine hK _ _ ?_; clear hK K
          refine wpAny_take (i := 10) (v := ?_) rfl (by kernel_rfl) (by kernel_rfl) (by kernel_rfl) (fun _ _ _ h => h) (Or.inl ⟨by kernel_rfl, ?_⟩) ?_
          rotate_left 1
          · (intro w; go_simp <;> with_reducible rfl)
          go_simp
          refine wpAny_ready (rs := [11]) (by kernel_rfl) (by simp) ?_
          refine AllReady.cons rfl (fun K hK => ?_) ?_
          ·
            go_simp
            refine hK _ _ ?_; clear hK K
            refine wpAny_done (by kernel_rfl) ?_ _
            go_wp2_with fail
            go_meet
            exact HE1.out
          exact AllReady.nil
        exact AllReady.nil
      exact AllReady.nil
    refine AllReady.cons rfl (fun K hK => ?_) ?_
    ·
      go_simp
      refine hK _ _ ?_; clear hK K
      refine wpAny_ready (rs := [3]) (by kernel_rfl) (by simp) ?_
      refine AllReady.cons rfl (fun K hK => ?_) ?_
      ·
        go_simp
        refine hK _ _ ?_; clear hK K
        refine wpAny_take (i := 8) (v := ?_) rfl (by kernel_rfl) (by kernel_rfl) (by kernel_rfl) (fun _ _ _ h => h) (Or.inl ⟨by kernel_rfl, ?_⟩) ?_
        rotate_left 1
        · (intro w; go_simp <;> with_reducible rfl)
        go_simp
        refine wpAny_ready (rs := [9]) (by kernel_rfl) (by simp) ?_
        refine AllReady.cons rfl (fun K hK => ?_) ?_
        ·
          go_simp
          refine hK _ _ ?_; clear hK K
          refine wpAny_take (i := 10) (v := ?_) rfl (by kernel_rfl) (by kernel_rfl) (by kernel_rfl) (fun _ _ _ h => h) (Or.inl ⟨by kernel_rfl, ?_⟩) ?_
          rotate_left 1
          · (intro w; go_simp <;> with_reducible rfl)
          go_simp
          refine wpAny_ready (rs := [11]) (by kernel_rfl) (by simp) ?_
          refine AllReady.cons rfl (fun K hK => ?_) ?_
          ·
            go_simp
            refine hK _ _ ?_; clear hK K
            refine wpAny_done (by kernel_rfl) ?_ _
            go_wp2_with fail
            go_meet
            exact HE1.out
          exact AllReady.nil
        exact AllReady.nil
      exact AllReady.nil
    exact AllReady.nil
  case rest =>
    obtain ⟨hA, hbx, hB⟩ := hcut
    clear HE1 q1 q2 q3 q4 qf
    obtain ⟨wx, hwx⟩ : ∃ wx, wx = wc := ⟨_, rfl⟩
    rw [← hwx] at hA hbx hB ⊢
    clear hwx
    have HD := Lib.hid (put_app hA tx k n (by rw [← HTB.out]; exact hbx) HHLT.out HNA.out hB)
    rw [← HTB.out] at HD
    have d3 : wx.cell? ⟨g, 3, none⟩ = some (.slice A ts.length c) := (wcel4 hA.blk).2.2.2
    obtain ⟨p0, p1, p2, p3, p4⟩ : wx.cell? ⟨w.heap.size, 0, none⟩ = some (.int .i64 k) ∧ wx.cell? ⟨w.heap.size, 1, none⟩ = some (.string tb) ∧ wx.cell? ⟨w.heap.size, 2, none⟩ = some (.int .i64 n) ∧ wx.cell? ⟨w.heap.size, 3, none⟩ = some (.int .i64 L) ∧ wx.cell? ⟨w.heap.size, 4, none⟩ = some (.int .i64 C) := cells5 hbx
    clear hA hbx hB
    go_wp2_with fail
    go_cut [] (fun wx => ∃ A' c', CtAt wx g (tx ++ r) L C A' c' (ts ++ [⟨k, tx, n, L, C⟩]) ∧ wx.cell? ⟨w.heap.size, 1, none⟩ = some (.string tb) ∧ Below g w wx)
    case first =>
      refine wp_region_any (by kernel_rfl) ?_
      change wpAny _ _ _ _ _ _ _ (World.drew _)
      refine wpAny_take (i := 0) (v := ?_) rfl (by kernel_rfl) (by kernel_rfl) (by kernel_rfl) (fun _ _ _ h => h) (Or.inl ⟨by kernel_rfl, ?_⟩) ?_
      rotate_left 1
      · (intro w; go_simp <;> with_reducible rfl)
      go_simp
      refine wpAny_take (i := 1) (v := ?_) rfl (by kernel_rfl) (by kernel_rfl) (by kernel_rfl) (fun _ _ _ h => h) (Or.inl ⟨by kernel_rfl, ?_⟩) ?_
      rotate_left 1
      · (intro w; go_simp <;> with_reducible rfl)
      go_simp
      refine wpAny_take (i := 2) (v := ?_) rfl (by kernel_rfl) (by kernel_rfl) (by kernel_rfl) (fun _ _ _ h => h) (Or.inl ⟨by kernel_rfl, ?_⟩) ?_
      rotate_left 1
      · (intro w; go_simp <;> with_reducible rfl)
      go_simp
      refine wpAny_take (i := 3) (v := ?_) rfl (by kernel_rfl) (by kernel_rfl) (by kernel_rfl) (fun _ _ _ h => h) (Or.inl ⟨by kernel_rfl, ?_⟩) ?_
      rotate_left 1
      · (intro w; go_simp <;> with_reducible rfl)
      go_simp
      refine wpAny_ready (rs := [4, 5]) (by kernel_rfl) (by simp) ?_
      refine AllReady.cons rfl (fun K hK => ?_) ?_
      ·
        go_simp
        refine hK _ _ ?_; clear hK K
        refine wpAny_ready (rs := [5]) (by kernel_rfl) (by simp) ?_
        refine AllReady.cons rfl (fun K hK => ?_) ?_
        ·
          go_simp
          refine hK _ _ ?_; clear hK K
          refine wpAny_ready (rs := [6]) (by kernel_rfl) (by simp) ?_
          refine AllReady.cons rfl (fun K hK => ?_) ?_
          ·
            go_simp
            obtain ⟨wd, hwd⟩ : ∃ wd, wd = (wx.alloc (.cells #[.int .i64 k, .string tb, .int .i64 n, .int .i64 L, .int .i64 C] 71)).drew := ⟨_, rfl⟩
            rw [← hwd]
            obtain ⟨d3, uf, hrw, hnw, hfin⟩ := HD.out wd hwd
            have HRW := Lib.hid hrw
            have HNW := Lib.hid hnw
            have HFIN := Lib.hid hfin
            clear hwd hrw hnw hfin
            refine hK _ _ ?_; clear hK K
            refine wpAny_ready (rs := [7]) (by kernel_rfl) (by simp) ?_
            refine AllReady.cons rfl (fun K hK => ?_) ?_
            ·
              refine step_append_sl wd rfl _ _ 65 71 rfl Tryd.underlying65 info_tok rfl (by decide) (by decide) A ts.length c (tkF ts) rfl HRW.out (by omega) ⟨wx.heap.size, 0, none⟩ 1 1 [.int .i64 k, .string tb, .int .i64 n, .int .i64 L, .int .i64 C] rfl rfl HNW.out (by simp [Value.oneCell']) (by omega) (by omega) ?_
              intro g4 c4 v4 hr4 hg4 hk4
              obtain ⟨e3, uf4, hE⟩ := HFIN.out g4 c4 v4 hr4 hg4 hk4
              have HE := Lib.hid hE
              clear d3 hr4 hg4 hk4 hE HFIN uf
              refine hK _ _ ?_; clear hK K
              refine wpAny_take (i := 8) (v := ?_) rfl (by kernel_rfl) (by kernel_rfl) (by kernel_rfl) (fun _ _ _ h => h) (Or.inl ⟨by kernel_rfl, ?_⟩) ?_
              rotate_left 1
              · (intro w; go_simp <;> with_reducible rfl)
              go_simp
              refine wpAny_take (i := 9) (v := ?_) rfl (by kernel_rfl) (by kernel_rfl) (by kernel_rfl) (fun _ _ _ h => h) (Or.inl ⟨by kernel_rfl, ?_⟩) ?_
              rotate_left 1
              · (intro w; go_simp <;> with_reducible rfl)
              go_simp
              refine wpAny_ready (rs := [10]) (by kernel_rfl) (by simp) ?_
              refine AllReady.cons rfl (fun K hK => ?_) ?_
              ·
                go_simp
                refine hK _ _ ?_; clear hK K
                refine wpAny_done (by kernel_rfl) ?_ _
                go_wp2_with fail
                go_meet
                exact HE.out
              exact AllReady.nil
            exact AllReady.nil
          exact AllReady.nil
        exact AllReady.nil
      refine AllReady.cons rfl (fun K hK => ?_) ?_
      ·
        go_simp
        refine hK _ _ ?_; clear hK K
        refine wpAny_ready (rs := [4, 6]) (by kernel_rfl) (by simp) ?_
        refine AllReady.cons rfl (fun K hK => ?_) ?_
        ·
          go_simp
          refine hK _ _ ?_; clear hK K
          refine wpAny_ready (rs := [6]) (by kernel_rfl) (by simp) ?_
          refine AllReady.cons rfl (fun K hK => ?_) ?_
          ·
            go_simp
            obtain ⟨wd, hwd⟩ : ∃ wd, wd = (wx.alloc (.cells #[.int .i64 k, .string tb, .int .i64 n, .int .i64 L, .int .i64 C] 71)).drew := ⟨_, rfl⟩
            rw [← hwd]
            obtain ⟨d3, uf, hrw, hnw, hfin⟩ := HD.out wd hwd
            have HRW := Lib.hid hrw
            have HNW := Lib.hid hnw
            have HFIN := Lib.hid hfin
            clear hwd hrw hnw hfin
            refine hK _ _ ?_; clear hK K
            refine wpAny_ready (rs := [7]) (by kernel_rfl) (by simp) ?_
            refine AllReady.cons rfl (fun K hK => ?_) ?_
            ·
              refine step_append_sl wd rfl _ _ 65 71 rfl Tryd.underlying65 info_tok rfl (by decide) (by decide) A ts.length c (tkF ts) rfl HRW.out (by omega) ⟨wx.heap.size, 0, none⟩ 1 1 [.int .i64 k, .string tb, .int .i64 n, .int .i64 L, .int .i64 C] rfl rfl HNW.out (by simp [Value.oneCell']) (by omega) (by omega) ?_
              intro g4 c4 v4 hr4 hg4 hk4
              obtain ⟨e3, uf4, hE⟩ := HFIN.out g4 c4 v4 hr4 hg4 hk4
              have HE := Lib.hid hE
              clear d3 hr4 hg4 hk4 hE HFIN uf
              refine hK _ _ ?_; clear hK K
              refine wpAny_take (i := 8) (v := ?_) rfl (by kernel_rfl) (by kernel_rfl) (by kernel_rfl) (fun _ _ _ h => h) (Or.inl ⟨by kernel_rfl, ?_⟩) ?_
              rotate_left 1
              · (intro w; go_simp <;> with_reducible rfl)
              go_simp
              refine wpAny_take (i := 9) (v := ?_) rfl (by kernel_rfl) (by kernel_rfl) (by kernel_rfl) (fun _ _ _ h => h) (Or.inl ⟨by kernel_rfl, ?_⟩) ?_
              rotate_left 1
              · (intro w; go_simp <;> with_reducible rfl)
              go_simp
              refine wpAny_ready (rs := [10]) (by kernel_rfl) (by simp) ?_
              refine AllReady.cons rfl (fun K hK => ?_) ?_
              ·
                go_simp
                refine hK _ _ ?_; clear hK K
                refine wpAny_done (by kernel_rfl) ?_ _
                go_wp2_with fail
                go_meet
                exact HE.out
              exact AllReady.nil
            exact AllReady.nil
          exact AllReady.nil
        refine AllReady.cons rfl (fun K hK => ?_) ?_
        ·
          go_simp
          obtain ⟨wd, hwd⟩ : ∃ wd, wd = (wx.alloc (.cells #[.int .i64 k, .string tb, .int .i64 n, .int .i64 L, .int .i64 C] 71)).drew := ⟨_, rfl⟩
          rw [← hwd]
          obtain ⟨d3, uf, hrw, hnw, hfin⟩ := HD.out wd hwd
          have HRW := Lib.hid hrw
          have HNW := Lib.hid hnw
          have HFIN := Lib.hid hfin
          clear hwd hrw hnw hfin
          refine hK _ _ ?_; clear hK K
          refine wpAny_ready (rs := [4]) (by kernel_rfl) (by simp) ?_
          refine AllReady.cons rfl (fun K hK => ?_) ?_
          ·
            go_simp
            refine hK _ _ ?_; clear hK K
            refine wpAny_ready (rs := [7]) (by kernel_rfl) (by simp) ?_
            refine AllReady.cons rfl (fun K hK => ?_) ?_
            ·
              refine step_append_sl wd rfl _ _ 65 71 rfl Tryd.underlying65 info_tok rfl (by decide) (by decide) A ts.length c (tkF ts) rfl HRW.out (by omega) ⟨wx.heap.size, 0, none⟩ 1 1 [.int .i64 k, .string tb, .int .i64 n, .int .i64 L, .int .i64 C] rfl rfl HNW.out (by simp [Value.oneCell']) (by omega) (by omega) ?_
              intro g4 c4 v4 hr4 hg4 hk4
              obtain ⟨e3, uf4, hE⟩ := HFIN.out g4 c4 v4 hr4 hg4 hk4
              have HE := Lib.hid hE
              clear d3 hr4 hg4 hk4 hE HFIN uf
              refine hK _ _ ?_; clear hK K
              refine wpAny_take (i := 8) (v := ?_) rfl (by kernel_rfl) (by kernel_rfl) (by kernel_rfl) (fun _ _ _ h => h) (Or.inl ⟨by kernel_rfl, ?_⟩) ?_
              rotate_left 1
              · (intro w; go_simp <;> with_reducible rfl)
              go_simp
              refine wpAny_take (i := 9) (v := ?_) rfl (by kernel_rfl) (by kernel_rfl) (by kernel_rfl) (fun _ _ _ h => h) (Or.inl ⟨by kernel_rfl, ?_⟩) ?_
              rotate_left 1
              · (intro w; go_simp <;> with_reducible rfl)
              go_simp
              refine wpAny_ready (rs := [10]) (by kernel_rfl) (by simp) ?_
              refine AllReady.cons rfl (fun K hK => ?_) ?_
              ·
                go_simp
                refine hK _ _ ?_; clear hK K
                refine wpAny_done (by kernel_rfl) ?_ _
                go_wp2_with fail
                go_meet
                exact HE.out
              exact AllReady.nil
            exact AllReady.nil
          exact AllReady.nil
        exact AllReady.nil
      exact AllReady.nil
    case rest =>
      obtain ⟨A', c', hA, hx, hB⟩ := hcut
      have HP := Lib.hid (pass_any tx wc hA htx hL0 hL hC0 hC)
      rw [← HTB.out] at HP
      have HB := Lib.hid hB
      clear HD hA hB d3 p0 p1 p2 p3 p4
      go_wp2_with fail
      refine HP.out.mono ?_
      rintro e w9 ⟨rfl, hA9, hB9⟩
      have HE := Lib.hid (show PutTo g r (adv L C tx).1 (adv L C tx).2 (ts ++ [⟨k, tx, n, L, C⟩]) w (.returned (.tuple #[])) w9 from ⟨rfl, _, _, hA9, HB.out.trans (hB9.mono (Nat.le_refl _))⟩)
      clear hA9 hB9
      go_wp2_with fail
      go_end0
      exact HE.out
end Go.Proofs.YtmkhfcdjgdofnaaDoor
