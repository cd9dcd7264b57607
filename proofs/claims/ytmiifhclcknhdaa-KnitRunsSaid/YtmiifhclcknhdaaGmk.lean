/- Marks in memory: which numbers are marked, by blocks; the contracts of has, add, says, noMarks. -/
import Derived.Test.YtmiifhclcknhdaaGrtE
namespace Go.Proofs.Ytmiifhclcknhdaa
open Go.RowKit GatM

structure MkC where
  gm : Nat
  nb : Nat
  bl : Nat → Option Nat
def MkC.ptr (m : MkC) (j : Nat) : Value := .pointer ((m.bl j).map fun b => ⟨b, 0, none⟩)
/-- The numbers below 4096 nb that st tells of are marked. -/
structure MkAt (w : World) (m : MkC) (st : Nat → Bool) : Prop where
  row : RowV 104 1 w m.gm m.nb m.nb m.ptr
  blk : ∀ j b, j < m.nb → m.bl j = some b → ∃ C : Array Value, w.heap[b]? = some (.cells C 106 (0, 0)) ∧ C.size = 4096 ∧ ∀ i, i < 4096 → C[i]? = some (.bool (st (4096 * j + i)))
  non : ∀ j, j < m.nb → m.bl j = none → ∀ i, i < 4096 → st (4096 * j + i) = false
  inj : ∀ j k b, j < m.nb → k < m.nb → m.bl j = some b → m.bl k = some b → j = k
def MkC.own (m : MkC) (k : Nat) : Prop := k = m.gm ∨ ∃ j, j < m.nb ∧ m.bl j = some k
def MkC.val (m : MkC) : Value := .slice (some ⟨m.gm, 0, none⟩) m.nb m.nb
section
variable {w w' : World} {m : MkC} {st : Nat → Bool}
theorem MkAt.lt (h : MkAt w m st) {k : Nat} (hk : m.own k) : k < w.heap.size := by
  rcases hk with rfl | ⟨j, hj, e⟩
  · exact h.row.lt
  · obtain ⟨C, h1, _⟩ := h.blk j k hj e
    exact lt_of_heap h1
theorem MkAt.same (h : MkAt w m st) (hb : ∀ k, m.own k → w'.heap[k]? = w.heap[k]?) : MkAt w' m st :=
  ⟨h.row.same (hb _ (.inl rfl)), fun j b hj e => by
    obtain ⟨C, h1, h2⟩ := h.blk j b hj e
    exact ⟨C, by rw [hb b (.inr ⟨j, hj, e⟩)]; exact h1, h2⟩, h.non, h.inj⟩
theorem MkAt.below (h : MkAt w m st) (hb : Below w.heap.size w w') : MkAt w' m st := h.same fun k hk => hb.block k (h.lt hk)
theorem MkAt.ne (h : MkAt w m st) {j b : Nat} (hj : j < m.nb) (e : m.bl j = some b) : m.gm ≠ b := fun e2 => by
  obtain ⟨C, h1, _⟩ := h.blk j b hj e
  obtain ⟨cur, h2, _⟩ := h.row
  rw [e2, h1] at h2
  injection h2 with h2
  injection h2 with _ h2
  exact absurd h2 (by decide)
theorem MkAt.congr (h : MkAt w m st) {st' : Nat → Bool} (e : ∀ k, k < 4096 * m.nb → st' k = st k) : MkAt w m st' :=
  ⟨h.row, fun j b hj hb => by
    obtain ⟨C, h1, h2, h3⟩ := h.blk j b hj hb
    exact ⟨C, h1, h2, fun i hi => by rw [e _ (by omega)]; exact h3 i hi⟩, fun j hj hb i hi => by rw [e _ (by omega)]; exact h.non j hj hb i hi, h.inj⟩
end
set_option maxHeartbeats 1600000 in
set_option maxRecDepth 100000 in
theorem mhas_any {w : World} {m : MkC} {st : Nat → Bool} (h : MkAt w m st) (n : Nat) (hn : n < 4096 * m.nb) :
    Calls Try.prog 48 #[m.val, .int .i64 (n : Int)] w fun e w' => e = .returned (.bool (st n)) ∧ w = w' := by
  obtain ⟨q, hq⟩ : ∃ q, q = n / 4096 := ⟨_, rfl⟩
  obtain ⟨r, hr⟩ : ∃ r, r = n % 4096 := ⟨_, rfl⟩
  have eq1 : (n : Int) / 4096 = (q : Int) := by omega
  have er1 : (n : Int) % 4096 = (r : Int) := by omega
  have hq2 : q < m.nb := by omega
  have hr2 : r < 4096 := by omega
  have hnq : 4096 * q + r = n := by omega
  have hbd := h.row.bd
  have hx : w.cell? ⟨m.gm, q, none⟩ = some (m.ptr q) := h.row.cell (show q < m.nb * 1 by omega)
  have tq : decide ((m.nb : Int) ≤ (q : Int)) = false := decide_eq_false (by omega)
  have tq2 : decide (m.nb ≤ q) = false := decide_eq_false (by omega)
  have hm4 : m.nb ≤ 9223372036854775807 := hbd.2
  unfold MkC.val
  cases hb : m.bl q with
  | none =>
    have hst : st n = false := by rw [← hnq]; exact h.non q hq2 hb r hr2
    have x0 : w.cell? ⟨m.gm, q, none⟩ = some (.pointer none) := by rw [hx]; unfold MkC.ptr; rw [hb]; rfl
    have HST := Lib.hid hst
    clear h hq hr hst hb hnq hx
    go_enter Try.func48, Try.ntmps48
    go_wp2_with fail
    go_ret
    exact ⟨gret_bool HST.out.symm, rfl⟩
  | some b =>
    obtain ⟨C, h1, h2, h3⟩ := h.blk q b hq2 hb
    have x0 : w.cell? ⟨m.gm, q, none⟩ = some (.pointer (some ⟨b, 0, none⟩)) := by rw [hx]; unfold MkC.ptr; rw [hb]; rfl
    have x1 : w.cell? ⟨b, r, none⟩ = some (.bool (st n)) := by rw [Lib.cell_of_heap h1, ← hnq]; exact h3 r hr2
    clear h hq hr hb hnq h1 h2 h3 hx
    generalize st n = s at *
    go_enter Try.func48, Try.ntmps48
    go_wp2_with fail
    go_ret
    exact ⟨rfl, rfl⟩
theorem zero_block : Try.zeroCells106.size = 4096 ∧ ∀ i, i < 4096 → Try.zeroCells106[i]? = some (.bool false) := by
  have h : Try.zeroCells106 = Array.replicate 4096 (.bool false) := by kernel_rfl
  rw [h]
  exact ⟨by simp, fun i hi => by simp [hi]⟩
/-- n too is marked. -/
def markS (st : Nat → Bool) (n : Nat) : Nat → Bool := fun k => if k = n then true else st k
structure MkTo (w w' : World) (m m' : MkC) (st : Nat → Bool) : Prop where
  at_ : MkAt w' m' st
  gm : m'.gm = m.gm
  nb : m'.nb = m.nb
  kf : Kf m.own w w'
  new : ∀ k, m'.own k → m.own k ∨ w.heap.size ≤ k
theorem MkTo.val {w w' : World} {m m' : MkC} {st : Nat → Bool} (h : MkTo w w' m m' st) : m'.val = m.val := by unfold MkC.val; rw [h.gm, h.nb]
theorem mark_old {w : World} {m : MkC} {st : Nat → Bool} (h : MkAt w m st) {q r b : Nat} (hq : q < m.nb) (hr : r < 4096) (hb : m.bl q = some b) : MkAt (w.setCell ⟨b, r, none⟩ (.bool true)) m (markS st (4096 * q + r)) := by
  refine ⟨h.row.other (a := ⟨b, r, none⟩) (fun e => h.ne hq hb e.symm) _, fun j b2 hj e => ?_, fun j hj e i hi => ?_, h.inj⟩
  · obtain ⟨C, h1, h2, h3⟩ := h.blk j b2 hj e
    by_cases ej : j = q
    · subst ej
      rw [hb] at e
      have e : b = b2 := Option.some.inj e
      subst e
      refine ⟨C.setIfInBounds r (.bool true), Lib.heap_setCell_same h1 _, by simp [h2], fun i hi => ?_⟩
      rw [Array.getElem?_setIfInBounds]
      unfold markS
      by_cases er : r = i
      · subst er; rw [if_pos rfl, if_pos (by omega), if_pos rfl]
      · rw [if_neg er, if_neg (by omega)]; exact h3 i hi
    · have hne : b2 ≠ b := fun e2 => ej (h.inj j q b hj hq (e2 ▸ e) hb)
      refine ⟨C, ?_, h2, fun i hi => ?_⟩
      · rw [Below.heap_setCell _ _ _ _ hne]; exact h1
      · unfold markS; rw [if_neg (by omega)]; exact h3 i hi
  · have ej : j ≠ q := fun e2 => by rw [e2, hb] at e; cases e
    unfold markS; rw [if_neg (by omega)]; exact h.non j hj e i hi
/-- A block is laid. -/
def MkC.lay (m : MkC) (q b : Nat) : MkC := { m with bl := fun j => if j = q then some b else m.bl j }
theorem mark_new {w : World} {m : MkC} {st : Nat → Bool} (h : MkAt w m st) {q : Nat} (hq : q < m.nb) (hb : m.bl q = none) {C : Array Value} (hC1 : C.size = 4096) (hC2 : ∀ i, i < 4096 → C[i]? = some (.bool false)) :
    MkAt ((w.alloc (.cells C 106)).setCell ⟨m.gm, q, none⟩ (.pointer (some ⟨w.heap.size, 0, none⟩))) (m.lay q w.heap.size) st := by
  have hlt := h.row.lt
  refine ⟨?_, fun j b2 hj e => ?_, fun j hj e i hi => ?_, fun j k b hj hk e1 e2 => ?_⟩
  · have := (h.row.alloc (.cells C 106)).set (j := q) (by show q < m.nb * 1; omega) (.pointer (some ⟨w.heap.size, 0, none⟩))
    refine RowV.congr this fun j hj => ?_
    by_cases e : j = q
    · subst e; rw [updV_at]; unfold MkC.ptr MkC.lay; simp
    · rw [updV_ne _ _ e]; unfold MkC.ptr MkC.lay; simp [e]
  · by_cases ej : j = q
    · subst ej
      have e : w.heap.size = b2 := by simpa [MkC.lay] using e
      subst e
      refine ⟨C, ?_, hC1, fun i hi => ?_⟩
      · rw [Below.heap_setCell _ _ _ _ (by show w.heap.size ≠ m.gm; omega)]; exact blk_new w _
      · rw [h.non j hj hb i hi]; exact hC2 i hi
    · have e : m.bl j = some b2 := by simpa [MkC.lay, ej] using e
      obtain ⟨D, h1, h2, h3⟩ := h.blk j b2 hj e
      refine ⟨D, ?_, h2, h3⟩
      rw [Below.heap_setCell _ _ _ _ (fun e2 => h.ne hj e e2.symm), Below.heap_alloc _ _ _ (lt_of_heap h1)]
      exact h1
  · have ej : j ≠ q := fun e2 => by subst e2; simp [MkC.lay] at e
    exact h.non j hj (by simpa [MkC.lay, ej] using e) i hi
  · by_cases ej : j = q <;> by_cases ek : k = q
    · rw [ej, ek]
    · exfalso
      have e1 : w.heap.size = b := by simpa [MkC.lay, ej] using e1
      have e2 : m.bl k = some b := by simpa [MkC.lay, ek] using e2
      have := h.lt (.inr ⟨k, hk, e2⟩)
      omega
    · exfalso
      have e1 : m.bl j = some b := by simpa [MkC.lay, ej] using e1
      have e2 : w.heap.size = b := by simpa [MkC.lay, ek] using e2
      have := h.lt (.inr ⟨j, hj, e1⟩)
      omega
    · exact h.inj j k b hj hk (by simpa [MkC.lay, ej] using e1) (by simpa [MkC.lay, ek] using e2)
set_option maxHeartbeats 1600000 in
set_option maxRecDepth 100000 in
theorem madd_any {w : World} {m : MkC} {st : Nat → Bool} (h : MkAt w m st) (n : Nat) (hn : n < 4096 * m.nb) :
    Calls Try.prog 46 #[m.val, .int .i64 (n : Int)] w fun e w' => e = .returned (.tuple #[]) ∧ ∃ m', MkTo w w' m m' (markS st n) := by
  obtain ⟨q, hq⟩ : ∃ q, q = n / 4096 := ⟨_, rfl⟩
  obtain ⟨r, hr⟩ : ∃ r, r = n % 4096 := ⟨_, rfl⟩
  have eq1 : (n : Int) / 4096 = (q : Int) := by omega
  have er1 : (n : Int) % 4096 = (r : Int) := by omega
  have hq2 : q < m.nb := by omega
  have hr2 : r < 4096 := by omega
  have hnq : 4096 * q + r = n := by omega
  have hbd := h.row.bd
  have hx : w.cell? ⟨m.gm, q, none⟩ = some (m.ptr q) := h.row.cell (show q < m.nb * 1 by omega)
  have hf := h.row.free
  have tq : decide ((m.nb : Int) ≤ (q : Int)) = false := decide_eq_false (by omega)
  have tq2 : decide (m.nb ≤ q) = false := decide_eq_false (by omega)
  have hm4 : m.nb ≤ 9223372036854775807 := hbd.2
  have hgl := h.row.lt
  cases hb : m.bl q with
  | none =>
    obtain ⟨hC1, hC2⟩ := zero_block
    have hp := hx
    unfold MkC.ptr at hp
    rw [hb] at hp
    have x0 : w.cell? ⟨m.gm, q, none⟩ = some (.pointer none) := hp
    have x1 : w.frozen? ⟨m.gm, q, none⟩ = false := hf q
    have HN := Lib.hid (mark_new h hq2 hb hC1 hC2)
    have hcm : (w.alloc (.cells Try.zeroCells106 106)).setCell ⟨m.gm, q, none⟩ (.pointer (some ⟨w.heap.size, 0, none⟩)) = (w.setCell ⟨m.gm, q, none⟩ (.pointer (some ⟨w.heap.size, 0, none⟩))).alloc (.cells Try.zeroCells106 106) := World.setCell_alloc_past _ _ _ _ hgl
    rw [hcm] at HN
    obtain ⟨W2, hW2⟩ : ∃ W2, W2 = (w.setCell ⟨m.gm, q, none⟩ (.pointer (some ⟨w.heap.size, 0, none⟩))).alloc (.cells Try.zeroCells106 106) := ⟨_, rfl⟩
    rw [← hW2] at HN
    have hlay : (m.lay q w.heap.size).bl q = some w.heap.size := by simp [MkC.lay]
    have HO := Lib.hid (mark_old HN.out hq2 hr2 hlay)
    obtain ⟨D, d1, d2, d3⟩ := HN.out.blk q w.heap.size hq2 hlay
    have y0 : W2.cell? ⟨w.heap.size, r, none⟩ = some (.bool (st n)) := by rw [Lib.cell_of_heap d1, ← hnq]; exact d3 r hr2
    have y1 : W2.frozen? ⟨w.heap.size, r, none⟩ = false := Lib.frozen_of_heap d1 _
    have y2 : W2.cell? ⟨m.gm, q, none⟩ = some (.pointer (some ⟨w.heap.size, 0, none⟩)) := by
      have := HN.out.row.cell (show q < m.nb * 1 by omega)
      unfold MkC.ptr at this
      rw [hlay] at this
      exact this
    have HF : Hid (MkTo w (W2.setCell ⟨w.heap.size, r, none⟩ (.bool true)) m (m.lay q w.heap.size) (markS st n)) := by
      rw [hnq] at HO
      refine ⟨HO.out, rfl, rfl, ?_, fun k hk => ?_⟩
      · rw [hW2, ← hcm]
        exact (((Kf.refl m.own w).alloc _).set (.inl (.inl rfl)) _).set (.inr (Nat.le_refl _)) _
      · rcases hk with e | ⟨j, hj, e⟩
        · exact .inl (.inl e)
        · by_cases ej : j = q
          · have e : w.heap.size = k := by simpa [MkC.lay, ej] using e
            exact .inr (Nat.le_of_eq e)
          · exact .inl (.inr ⟨j, hj, by simpa [MkC.lay, ej] using e⟩)
    have HW2 := Lib.hid hW2
    clear h hq hr hb hnq hx hf hp HN HO hlay d1 d2 d3 hW2 hC1 hC2 hcm
    unfold MkC.val
    generalize st n = s at *
    go_enter Try.func46, Try.ntmps46
    go_upto_region 3 with (fail)
    rw [← HW2.out]
    go_wp2_with fail
    go_end0
    exact ⟨rfl, _, HF.out⟩
  | some b =>
    obtain ⟨C, h1, h2, h3⟩ := h.blk q b hq2 hb
    have hp := hx
    unfold MkC.ptr at hp
    rw [hb] at hp
    have x0 : w.cell? ⟨m.gm, q, none⟩ = some (.pointer (some ⟨b, 0, none⟩)) := hp
    have x1 : w.cell? ⟨b, r, none⟩ = some (.bool (st n)) := by rw [Lib.cell_of_heap h1, ← hnq]; exact h3 r hr2
    have x2 : w.frozen? ⟨b, r, none⟩ = false := Lib.frozen_of_heap h1 _
    have HO := Lib.hid (mark_old h hq2 hr2 hb)
    have HF : Hid (MkTo w (w.setCell ⟨b, r, none⟩ (.bool true)) m m (markS st n)) := by
      rw [hnq] at HO
      exact ⟨HO.out, rfl, rfl, (Kf.refl _ w).set (.inl (.inr ⟨q, hq2, hb⟩)) _, fun k hk => .inl hk⟩
    clear h hq hr hb hnq hx hf hp HO h1 h2 h3
    unfold MkC.val
    generalize st n = s at *
    go_enter Try.func46, Try.ntmps46
    go_wp2_with fail
    go_end0
    exact ⟨rfl, _, HF.out⟩
set_option maxHeartbeats 1600000 in
theorem msays_any {w : World} {m : MkC} {st : Nat → Bool} (h : MkAt w m st) (a : Nat) (ha : a < 4294967296) (hn : a / 2 < 4096 * m.nb) :
    Calls Try.prog 33 #[m.val, .int .u32 (a : Int)] w fun e w' => e = .returned (.bool (st (a / 2) != odd a)) ∧ w = w' := by
  have HH := Lib.hid (mhas_any h (a / 2) hn)
  have HN := Lib.hid (gnum_any a w ha)
  have HO := Lib.hid (gturned_any a w ha)
  clear h
  generalize st (a / 2) = s at *
  generalize odd a = o at *
  generalize m.val = v at *
  go_enter Try.func33, Try.ntmps33
  go_wp2_with fail
  refine HN.out.mono ?_
  rintro e w' ⟨rfl, rfl⟩
  go_wp2_with fail
  refine HH.out.mono ?_
  rintro e w' ⟨rfl, rfl⟩
  go_wp2_with fail
  refine HO.out.mono ?_
  rintro e w' ⟨rfl, rfl⟩
  go_wp2_with fail
  go_ret
  exact ⟨rfl, rfl⟩
theorem info_ptr : (Try.prog.info? 104).map (fun i => (i.zero, i.size, i.bytes)) = some (some (.pointer none), 1, 8) := by kernel_rfl
set_option maxHeartbeats 1600000 in
set_option maxRecDepth 100000 in
theorem mnew_any {w : World} {c : GrC} {gs mp : Gs} {ins : List Nat} (h : GrAt w c gs ins mp) (hp : 0 < gs.length) (hn : gs.length ≤ 90000) :
    Calls Try.prog 44 #[.pointer (some ⟨c.bg, 0, none⟩)] w fun e w' => ∃ m : MkC, e = .returned m.val ∧ MkAt w' m (fun _ => false) ∧ gs.length ≤ 4096 * m.nb ∧ Below w.heap.size w w' ∧ ∀ k, m.own k → w.heap.size ≤ k := by
  obtain ⟨q, hq⟩ : ∃ q, q = (gs.length - 1) / 4096 := ⟨_, rfl⟩
  have e1 : ((gs.length : Int) - 1) / 4096 = (q : Int) := by omega
  have hqb : q ≤ 1000 := by omega
  obtain ⟨C, hC1, hC2, hmk0⟩ := make_sl (P := Try.prog) 82 104 Try.underlying82 info_ptr rfl (by decide) (by decide) (q + 1) (by omega)
  have hmk : (Instr.makeSlice 82 (.int .i64 ((q : Int) + 1)) (.int .i64 ((q : Int) + 1))).run Try.prog w = .ok (.slice (some ⟨w.heap.size, 0, none⟩) (q + 1) (q + 1)) (w.alloc (.cells C 104)) := by
    have := hmk0 w
    rw [show ((q + 1 : Nat) : Int) = (q : Int) + 1 by omega] at this
    exact this
  have HL := Lib.hid (glen_any h)
  have HF : Hid (∃ m : MkC, Ending.returned (.slice (some ⟨w.heap.size, 0, none⟩) (q + 1) (q + 1)) = .returned m.val ∧ MkAt (w.alloc (.cells C 104)) m (fun _ => false) ∧ gs.length ≤ 4096 * m.nb ∧ Below w.heap.size w (w.alloc (.cells C 104)) ∧ ∀ k, m.own k → w.heap.size ≤ k) := by
    refine ⟨⟨w.heap.size, q + 1, fun _ => none⟩, rfl, ⟨?_, (fun j b _ e => by cases e), (fun _ _ _ _ _ => rfl), (fun _ _ _ _ _ e _ => by cases e)⟩, by show _ ≤ 4096 * (q + 1); omega, (Below.refl _ _).alloc (Nat.le_refl _) _, fun k hk => ?_⟩
    · exact RowV.made (show q + 1 ≤ 100001 by omega) hC1 fun j hj => by rw [hC2 j hj, Nat.mod_one]; rfl
    · rcases hk with e | ⟨j, _, e⟩
      · exact Nat.le_of_eq e.symm
      · cases e
  clear h hC1 hC2 hmk0 hq
  go_enter Try.func44, Try.ntmps44
  go_wp2_with fail
  refine HL.out.mono ?_
  rintro e w' ⟨rfl, rfl⟩
  go_wp2_with fail
  go_ret
  exact HF.out
end Go.Proofs.Ytmiifhclcknhdaa
