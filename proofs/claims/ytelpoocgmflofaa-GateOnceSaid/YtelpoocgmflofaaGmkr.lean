/- A law's maker in memory: a circuit, edges that were made, and their tables; start. -/
import Derived.Test.YtelpoocgmflofaaGatA
import Derived.Test.YtelpoocgmflofaaRd
namespace Go.Proofs.Ytelpoocgmflofaa
open Go.RowKit GatM

theorem info_u64 : (Try.prog.info? 99).map (fun i => (i.zero, i.size, i.bytes)) = some (some (.int .u64 0), 1, 8) := by kernel_rfl
structure MkrC where
  bk : Nat
  Ae : Option Addr
  ce : Nat
  At : Option Addr
  ct : Nat
/-- The struct of block bk: the circuit's address, the edges E, the tables T. -/
structure MkrAt (w : World) (k : MkrC) (bg : Nat) (E T : List Nat) : Prop where
  hd : w.heap[k.bk]? = some (.cells #[.pointer (some ⟨bg, 0, none⟩), .slice k.Ae E.length k.ce, .slice k.At T.length k.ct] 65 (0, 0))
  er : SlN .u32 25 w k.Ae k.ce E
  tr : SlN .u64 99 w k.At k.ct T
def MkrC.own (k : MkrC) (j : Nat) : Prop := j = k.bk ∨ onB k.Ae j ∨ onB k.At j
section
variable {w w' : World} {k : MkrC} {bg : Nat} {E T : List Nat}
theorem SlV.block {U : TypeId} {n : Nat} {A : Option Addr} {m c : Nat} {f : Nat → Value} (h : SlV U n w A m c f) {j : Nat} (hj : onB A j) : ∃ cur : Array Value, w.heap[j]? = some (.cells cur U (0, 0)) := by
  rcases h with ⟨e, _⟩ | ⟨g, e, cur, h3, _⟩
  · rw [e] at hj; exact absurd hj (onB_none j)
  · rw [e, onB_some] at hj
    have hj : j = g := hj
    exact ⟨cur, by rw [hj]; exact h3⟩
theorem MkrAt.lt (h : MkrAt w k bg E T) {j : Nat} (hj : k.own j) : j < w.heap.size := by
  rcases hj with rfl | hj | hj
  · exact lt_of_heap h.hd
  · exact h.er.lt j hj
  · exact h.tr.lt j hj
theorem MkrAt.same (h : MkrAt w k bg E T) (hb : ∀ j, k.own j → w'.heap[j]? = w.heap[j]?) : MkrAt w' k bg E T :=
  ⟨by rw [hb _ (.inl rfl)]; exact h.hd, SlV.same h.er fun j hj => hb j (.inr (.inl hj)), SlV.same h.tr fun j hj => hb j (.inr (.inr hj))⟩
theorem MkrAt.below (h : MkrAt w k bg E T) (hb : Below w.heap.size w w') : MkrAt w' k bg E T := h.same fun j hj => hb.block j (h.lt hj)
theorem MkrAt.ne_e (h : MkrAt w k bg E T) : ¬ onB k.Ae k.bk := fun e => by
  obtain ⟨cur, h3⟩ := SlV.block h.er e
  exact apart h.hd h3 (by decide) rfl
theorem MkrAt.ne_t (h : MkrAt w k bg E T) : ¬ onB k.At k.bk := fun e => by
  obtain ⟨cur, h3⟩ := SlV.block h.tr e
  exact apart h.hd h3 (by decide) rfl
theorem MkrAt.ne_et (h : MkrAt w k bg E T) {j : Nat} (h1 : onB k.Ae j) : ¬ onB k.At j := fun e => by
  obtain ⟨cur, h3⟩ := SlV.block h.er h1
  obtain ⟨cur2, h4⟩ := SlV.block h.tr e
  exact apart h3 h4 (by decide) rfl
theorem MkrAt.cells (h : MkrAt w k bg E T) : w.cell? ⟨k.bk, 0, none⟩ = some (.pointer (some ⟨bg, 0, none⟩)) ∧ w.cell? ⟨k.bk, 1, none⟩ = some (.slice k.Ae E.length k.ce) ∧ w.cell? ⟨k.bk, 2, none⟩ = some (.slice k.At T.length k.ct) ∧ ∀ j, w.frozen? ⟨k.bk, j, none⟩ = false := by
  have hh := h.hd
  refine ⟨?_, ?_, ?_, fun j => Lib.frozen_of_heap hh j⟩
  all_goals (rw [Lib.cell_of_heap hh]; rfl)
/-- Behind an append to the edges, and the store. -/
theorem MkrAt.pushE (h : MkrAt w k bg E T) {Wx w4 : World} (hb : Below w.heap.size w Wx) {x g4 c4 : Nat} (hr : RowV 25 1 w4 g4 (E.length + 1) c4 (appV (numF .u32 E) E.length [.int .u32 (x : Int)]))
    (hg : onB k.Ae g4 ∨ Wx.heap.size ≤ g4) (hk : Kf (fun j => onB k.Ae j) Wx w4) :
    (w4.cell? ⟨k.bk, 1, none⟩ = some (.slice k.Ae E.length k.ce) ∧ w4.frozen? ⟨k.bk, 1, none⟩ = false) ∧ MkrAt (w4.setCell ⟨k.bk, 1, none⟩ (.slice (some ⟨g4, 0, none⟩) (E.length + 1) c4)) { k with Ae := some ⟨g4, 0, none⟩, ce := c4 } bg (E ++ [x]) T ∧
      (∀ j, j < w.heap.size → j ≠ k.bk → ¬ onB k.Ae j → (w4.setCell ⟨k.bk, 1, none⟩ (.slice (some ⟨g4, 0, none⟩) (E.length + 1) c4)).heap[j]? = w.heap[j]?) ∧ (onB k.Ae g4 ∨ w.heap.size ≤ g4) ∧ w.heap.size ≤ (w4.setCell ⟨k.bk, 1, none⟩ (.slice (some ⟨g4, 0, none⟩) (E.length + 1) c4)).heap.size := by
  have hl : (E ++ [x]).length = E.length + 1 := by simp
  have hs := hb.size
  have old : ∀ j, j < w.heap.size → ¬ onB k.Ae j → w4.heap[j]? = w.heap[j]? := fun j h1 h2 => by rw [hk.block j (by omega) h2, hb.block j h1]
  have e0 : w4.heap[k.bk]? = some (.cells #[.pointer (some ⟨bg, 0, none⟩), .slice k.Ae E.length k.ce, .slice k.At T.length k.ct] 65 (0, 0)) := by rw [old _ (lt_of_heap h.hd) h.ne_e]; exact h.hd
  have hne : k.bk ≠ g4 := by
    obtain ⟨cur, h3, _⟩ := hr
    exact apart e0 h3 (by decide)
  have ho : ∀ j, j ≠ k.bk → (w4.setCell ⟨k.bk, 1, none⟩ (.slice (some ⟨g4, 0, none⟩) (E.length + 1) c4)).heap[j]? = w4.heap[j]? := fun j e => Below.heap_setCell _ _ _ _ e
  refine ⟨⟨by rw [Lib.cell_of_heap e0]; rfl, Lib.frozen_of_heap e0 _⟩, ⟨?_, ?_, ?_⟩, fun j h1 h2 h3 => by rw [ho j h2]; exact old j h1 h3, ?_, ?_⟩
  · rw [Lib.heap_setCell_same e0, hl]; rfl
  · show SlV 25 1 _ (some ⟨g4, 0, none⟩) (E ++ [x]).length c4 _
    rw [hl]
    exact .inr ⟨g4, rfl, (hr.other (a := ⟨k.bk, 1, none⟩) hne _).congr fun j hj => by
      have := numF_app (k := .u32) (l := E) (x := x) (j := j) (by rw [hl]; omega)
      rwa [Nat.mul_one] at this⟩
  · refine SlV.same h.tr fun j hj => ?_
    have n1 : j ≠ k.bk := fun e => h.ne_t (e ▸ hj)
    rw [ho j n1]
    exact old j (h.tr.lt j hj) (fun e => h.ne_et e hj)
  · rcases hg with e | e
    · exact .inl e
    · exact .inr (Nat.le_trans hs e)
  · simp only [World.setCell, Array.size_modify]
    exact Nat.le_trans hs hk.size
theorem MkrAt.pushT (h : MkrAt w k bg E T) {Wx w4 : World} (hb : Below w.heap.size w Wx) {x g4 c4 : Nat} (hr : RowV 99 1 w4 g4 (T.length + 1) c4 (appV (numF .u64 T) T.length [.int .u64 (x : Int)]))
    (hg : onB k.At g4 ∨ Wx.heap.size ≤ g4) (hk : Kf (fun j => onB k.At j) Wx w4) :
    (w4.cell? ⟨k.bk, 2, none⟩ = some (.slice k.At T.length k.ct) ∧ w4.frozen? ⟨k.bk, 2, none⟩ = false) ∧ MkrAt (w4.setCell ⟨k.bk, 2, none⟩ (.slice (some ⟨g4, 0, none⟩) (T.length + 1) c4)) { k with At := some ⟨g4, 0, none⟩, ct := c4 } bg E (T ++ [x]) ∧
      (∀ j, j < w.heap.size → j ≠ k.bk → ¬ onB k.At j → (w4.setCell ⟨k.bk, 2, none⟩ (.slice (some ⟨g4, 0, none⟩) (T.length + 1) c4)).heap[j]? = w.heap[j]?) ∧ (onB k.At g4 ∨ w.heap.size ≤ g4) ∧ w.heap.size ≤ (w4.setCell ⟨k.bk, 2, none⟩ (.slice (some ⟨g4, 0, none⟩) (T.length + 1) c4)).heap.size := by
  have hl : (T ++ [x]).length = T.length + 1 := by simp
  have hs := hb.size
  have old : ∀ j, j < w.heap.size → ¬ onB k.At j → w4.heap[j]? = w.heap[j]? := fun j h1 h2 => by rw [hk.block j (by omega) h2, hb.block j h1]
  have e0 : w4.heap[k.bk]? = some (.cells #[.pointer (some ⟨bg, 0, none⟩), .slice k.Ae E.length k.ce, .slice k.At T.length k.ct] 65 (0, 0)) := by rw [old _ (lt_of_heap h.hd) h.ne_t]; exact h.hd
  have hne : k.bk ≠ g4 := by
    obtain ⟨cur, h3, _⟩ := hr
    exact apart e0 h3 (by decide)
  have ho : ∀ j, j ≠ k.bk → (w4.setCell ⟨k.bk, 2, none⟩ (.slice (some ⟨g4, 0, none⟩) (T.length + 1) c4)).heap[j]? = w4.heap[j]? := fun j e => Below.heap_setCell _ _ _ _ e
  refine ⟨⟨by rw [Lib.cell_of_heap e0]; rfl, Lib.frozen_of_heap e0 _⟩, ⟨?_, ?_, ?_⟩, fun j h1 h2 h3 => by rw [ho j h2]; exact old j h1 h3, ?_, ?_⟩
  · rw [Lib.heap_setCell_same e0, hl]; rfl
  · refine SlV.same h.er fun j hj => ?_
    have n1 : j ≠ k.bk := fun e => h.ne_e (e ▸ hj)
    rw [ho j n1]
    exact old j (h.er.lt j hj) (h.ne_et hj)
  · show SlV 99 1 _ (some ⟨g4, 0, none⟩) (T ++ [x]).length c4 _
    rw [hl]
    exact .inr ⟨g4, rfl, (hr.other (a := ⟨k.bk, 2, none⟩) hne _).congr fun j hj => by
      have := numF_app (k := .u64) (l := T) (x := x) (j := j) (by rw [hl]; omega)
      rwa [Nat.mul_one] at this⟩
  · rcases hg with e | e
    · exact .inl e
    · exact .inr (Nat.le_trans hs e)
  · simp only [World.setCell, Array.size_modify]
    exact Nat.le_trans hs hk.size
end
/-- A maker beside its circuit, both of a law's own. -/
structure Mkr (B : Nat) (w0 w : World) (k : MkrC) (c : GrC) (gs : Gs) (E T : List Nat) : Prop where
  lv : LvG B w0 w c gs
  mk' : MkrAt w k c.bg E T
  ap : ∀ j, k.own j → ¬ c.own j ∧ B ≤ j
/-- What an act leaves. -/
structure MkrTo (B : Nat) (w0 w w' : World) (k k' : MkrC) (c c' : GrC) (gs' : Gs) (E' T' : List Nat) : Prop where
  at_ : Mkr B w0 w' k' c' gs' E' T'
  bg : c'.bg = c.bg
  bk : k'.bk = k.bk
  gst : ∀ j, j < w.heap.size → ¬ c.own j → ¬ k.own j → w'.heap[j]? = w.heap[j]? ∧ ¬ c'.own j ∧ ¬ k'.own j
  size : w.heap.size ≤ w'.heap.size
section
variable {B : Nat} {w0 w w' w2 : World} {k k' k2 : MkrC} {c c' c2 : GrC} {gs gs' gs2 : Gs} {E T E' T' E2 T2 : List Nat}
theorem Mkr.below (h : Mkr B w0 w k c gs E T) (hb : Below w.heap.size w w') : Mkr B w0 w' k c gs E T := ⟨h.lv.below hb, h.mk'.below hb, h.ap⟩
theorem MkrTo.ofBelow (h : Mkr B w0 w k c gs E T) (hb : Below w.heap.size w w') : MkrTo B w0 w w' k k c c gs E T := ⟨h.below hb, rfl, rfl, fun j hj h1 h2 => ⟨hb.block j hj, h1, h2⟩, hb.size⟩
theorem MkrTo.trans (h : MkrTo B w0 w w' k k' c c' gs' E' T') (t : MkrTo B w0 w' w2 k' k2 c' c2 gs2 E2 T2) : MkrTo B w0 w w2 k k2 c c2 gs2 E2 T2 :=
  ⟨t.at_, t.bg.trans h.bg, t.bk.trans h.bk, fun j hj h1 h2 => by
    obtain ⟨a1, a2, a3⟩ := h.gst j hj h1 h2
    obtain ⟨b1, b2, b3⟩ := t.gst j (Nat.lt_of_lt_of_le hj h.size) a2 a3
    exact ⟨b1.trans a1, b2, b3⟩, Nat.le_trans h.size t.size⟩
theorem MkrTo.pre (hb : Below w.heap.size w w') (h : MkrTo B w0 w' w2 k k' c c' gs' E' T') : MkrTo B w0 w w2 k k' c c' gs' E' T' :=
  ⟨h.at_, h.bg, h.bk, fun j hj h1 h2 => by
    obtain ⟨a1, a2, a3⟩ := h.gst j (Nat.lt_of_lt_of_le hj hb.size) h1 h2
    exact ⟨a1.trans (hb.block j hj), a2, a3⟩, Nat.le_trans hb.size h.size⟩
/-- Behind an operation of the circuit's. -/
theorem Mkr.graph (h : Mkr B w0 w k c gs E T) (hT : LvTo B w0 w w' c c' gs') : MkrTo B w0 w w' k k c c' gs' E T :=
  ⟨⟨hT.lv, by rw [hT.bg]; exact h.mk'.same fun j hj => (hT.gst j (h.mk'.lt hj) (h.ap j hj).1).1, fun j hj => ⟨(hT.gst j (h.mk'.lt hj) (h.ap j hj).1).2, (h.ap j hj).2⟩⟩, hT.bg, rfl, fun j hj h1 h2 => ⟨(hT.gst j hj h1).1, (hT.gst j hj h1).2, h2⟩, hT.size⟩
theorem LvG.kept (h : LvG B w0 w c gs) (hB : Below B w w') (hk : ∀ j, c.own j → w'.heap[j]? = w.heap[j]?) (hs : w.heap.size ≤ w'.heap.size) : LvG B w0 w' c gs :=
  ⟨h.at_.same hk, h.wf, h.be.trans hB, h.lo, Nat.le_trans h.hB hs⟩
theorem Mkr.addE (h : Mkr B w0 w k c gs E T) {Wx w4 : World} (hb : Below w.heap.size w Wx) {x g4 c4 : Nat} (hr : RowV 25 1 w4 g4 (E.length + 1) c4 (appV (numF .u32 E) E.length [.int .u32 (x : Int)]))
    (hg : onB k.Ae g4 ∨ Wx.heap.size ≤ g4) (hk : Kf (fun j => onB k.Ae j) Wx w4) :
    (w4.cell? ⟨k.bk, 1, none⟩ = some (.slice k.Ae E.length k.ce) ∧ w4.frozen? ⟨k.bk, 1, none⟩ = false) ∧ MkrTo B w0 w (w4.setCell ⟨k.bk, 1, none⟩ (.slice (some ⟨g4, 0, none⟩) (E.length + 1) c4)) k { k with Ae := some ⟨g4, 0, none⟩, ce := c4 } c c gs (E ++ [x]) T := by
  obtain ⟨p1, p2, p3, p4, p5⟩ := h.mk'.pushE hb hr hg hk
  have own' : ∀ j, MkrC.own { k with Ae := some ⟨g4, 0, none⟩, ce := c4 } j → k.own j ∨ w.heap.size ≤ j := fun j hj => by
    rcases hj with e | e | e
    · exact .inl (.inl e)
    · have e : onB (some ⟨g4, 0, none⟩) j := e
      rw [onB_some] at e
      have e : j = g4 := e
      rcases p4 with q | q
      · exact .inl (.inr (.inl (e ▸ q)))
      · exact .inr (e ▸ q)
    · exact .inl (.inr (.inr e))
  have kB : ∀ j, k.own j → B ≤ j := fun j hj => (h.ap j hj).2
  have hBw : Below B w (w4.setCell ⟨k.bk, 1, none⟩ (.slice (some ⟨g4, 0, none⟩) (E.length + 1) c4)) := ⟨hk.os.trans hb.os, hk.tape.trans hb.tape, hk.output.trans hb.output, p5, fun j hj => p3 j (Nat.lt_of_lt_of_le hj h.lv.hB) (fun e => by have := kB j (.inl e); omega) (fun e => by have := kB j (.inr (.inl e)); omega)⟩
  have hsame : ∀ j, c.own j → (w4.setCell ⟨k.bk, 1, none⟩ (.slice (some ⟨g4, 0, none⟩) (E.length + 1) c4)).heap[j]? = w.heap[j]? := fun j hj => p3 j (h.lv.at_.lt hj) (fun e => (h.ap j (.inl e)).1 hj) (fun e => (h.ap j (.inr (.inl e))).1 hj)
  refine ⟨p1, ⟨h.lv.kept hBw hsame p5, p2, fun j hj => ?_⟩, rfl, rfl, fun j hj h1 h2 => ⟨p3 j hj (fun e => h2 (.inl e)) (fun e => h2 (.inr (.inl e))), h1, fun e => ?_⟩, p5⟩
  · rcases own' j hj with q | q
    · exact h.ap j q
    · exact ⟨fun e => by have := h.lv.at_.lt e; omega, Nat.le_trans h.lv.hB q⟩
  · rcases own' j e with q | q
    · exact h2 q
    · omega
theorem Mkr.addT (h : Mkr B w0 w k c gs E T) {Wx w4 : World} (hb : Below w.heap.size w Wx) {x g4 c4 : Nat} (hr : RowV 99 1 w4 g4 (T.length + 1) c4 (appV (numF .u64 T) T.length [.int .u64 (x : Int)]))
    (hg : onB k.At g4 ∨ Wx.heap.size ≤ g4) (hk : Kf (fun j => onB k.At j) Wx w4) :
    (w4.cell? ⟨k.bk, 2, none⟩ = some (.slice k.At T.length k.ct) ∧ w4.frozen? ⟨k.bk, 2, none⟩ = false) ∧ MkrTo B w0 w (w4.setCell ⟨k.bk, 2, none⟩ (.slice (some ⟨g4, 0, none⟩) (T.length + 1) c4)) k { k with At := some ⟨g4, 0, none⟩, ct := c4 } c c gs E (T ++ [x]) := by
  obtain ⟨p1, p2, p3, p4, p5⟩ := h.mk'.pushT hb hr hg hk
  have own' : ∀ j, MkrC.own { k with At := some ⟨g4, 0, none⟩, ct := c4 } j → k.own j ∨ w.heap.size ≤ j := fun j hj => by
    rcases hj with e | e | e
    · exact .inl (.inl e)
    · exact .inl (.inr (.inl e))
    · have e : onB (some ⟨g4, 0, none⟩) j := e
      rw [onB_some] at e
      have e : j = g4 := e
      rcases p4 with q | q
      · exact .inl (.inr (.inr (e ▸ q)))
      · exact .inr (e ▸ q)
  have kB : ∀ j, k.own j → B ≤ j := fun j hj => (h.ap j hj).2
  have hBw : Below B w (w4.setCell ⟨k.bk, 2, none⟩ (.slice (some ⟨g4, 0, none⟩) (T.length + 1) c4)) := ⟨hk.os.trans hb.os, hk.tape.trans hb.tape, hk.output.trans hb.output, p5, fun j hj => p3 j (Nat.lt_of_lt_of_le hj h.lv.hB) (fun e => by have := kB j (.inl e); omega) (fun e => by have := kB j (.inr (.inr e)); omega)⟩
  have hsame : ∀ j, c.own j → (w4.setCell ⟨k.bk, 2, none⟩ (.slice (some ⟨g4, 0, none⟩) (T.length + 1) c4)).heap[j]? = w.heap[j]? := fun j hj => p3 j (h.lv.at_.lt hj) (fun e => (h.ap j (.inl e)).1 hj) (fun e => (h.ap j (.inr (.inr e))).1 hj)
  refine ⟨p1, ⟨h.lv.kept hBw hsame p5, p2, fun j hj => ?_⟩, rfl, rfl, fun j hj h1 h2 => ⟨p3 j hj (fun e => h2 (.inl e)) (fun e => h2 (.inr (.inr e))), h1, fun e => ?_⟩, p5⟩
  · rcases own' j hj with q | q
    · exact h.ap j q
    · exact ⟨fun e => by have := h.lv.at_.lt e; omega, Nat.le_trans h.lv.hB q⟩
  · rcases own' j e with q | q
    · exact h2 q
    · omega
end
end Go.Proofs.Ytelpoocgmflofaa
