/- A second maker beside the first, on copied edges and tables: the same act answers the same and makes nothing new. -/
import Derived.Test.YtelpoocgmflofaaGrun
import Derived.Test.YtelpoocgmflofaaGliv
import Derived.Test.YtelpoocgmflofaaGsrt
import Derived.StillTailTactics
namespace Go.Proofs.Ytelpoocgmflofaa
open Go.RowKit GatM
section
variable {B : Nat} {w0 w w' : World} {k : MkrC} {c : GrC} {gs : Gs} {E T : List Nat}
theorem Mkr.second {E' T' : List Nat} (h : Mkr B w0 w k c gs E' T') {w2 : World} (hb : Below w.heap.size w w2) {b c1 c2 : Nat} {A1 A2 : Option Addr} (hd : w2.heap[b]? = some (.cells #[.pointer (some ⟨c.bg, 0, none⟩), .slice A1 E.length c1, .slice A2 T.length c2] 65 (0, 0)))
    (he : SlN .u32 25 w2 A1 c1 E) (ht : SlN .u64 99 w2 A2 c2 T) (n0 : w.heap.size ≤ b) (n1 : ∀ q, onB A1 q → w.heap.size ≤ q) (n2 : ∀ q, onB A2 q → w.heap.size ≤ q) : Mkr B w0 w2 ⟨b, A1, c1, A2, c2⟩ c gs E T := by
  have hn : ∀ j, MkrC.own ⟨b, A1, c1, A2, c2⟩ j → w.heap.size ≤ j := fun j hj => by
    rcases hj with rfl | hj | hj
    · exact n0
    · exact n1 j hj
    · exact n2 j hj
  exact ⟨h.lv.below hb, ⟨hd, he, ht⟩, fun j hj => ⟨fun ho => by have := h.lv.at_.lt ho; have := hn j hj; omega, Nat.le_trans h.lv.hB (hn j hj)⟩⟩
theorem Mkr.first (h : Mkr B w0 w k c gs E T) {k2 k2' : MkrC} {c' : GrC} {gs' : Gs} {E2 T2 : List Nat} (hT : MkrTo B w0 w w' k2 k2' c c' gs' E2 T2) (hd : ∀ j, k.own j → ¬ k2.own j) : Mkr B w0 w' k c' gs' E T :=
  ⟨hT.at_.lv, by rw [hT.bg]; exact h.mk'.same fun j hj => (hT.gst j (h.mk'.lt hj) (h.ap j hj).1 (hd j hj)).1, fun j hj => ⟨(hT.gst j (h.mk'.lt hj) (h.ap j hj).1 (hd j hj)).2.1, (h.ap j hj).2⟩⟩
end
/-- Two makers at one circuit: the first, behind s; the second, with the edges and tables of r. -/
def Two (w1 : World) (bk b : Nat) (s r : St) (W : World) : Prop := ∃ k c k2, k.bk = bk ∧ k2.bk = b ∧ Mkr w1.heap.size w1 W k c s.1 s.2.1 s.2.2 ∧ Mkr w1.heap.size w1 W k2 c s.1 r.2.1 r.2.2 ∧ ∀ j, k.own j → ¬ k2.own j
/-- Behind the second's act. -/
def Twn (w1 : World) (bk b : Nat) (s : St) (W : World) : Prop := ∃ k c k2, k.bk = bk ∧ k2.bk = b ∧ Mkr w1.heap.size w1 W k c s.1 s.2.1 s.2.2 ∧ Mkr w1.heap.size w1 W k2 c s.1 s.2.1 s.2.2
theorem Two.do_ {w1 W : World} {bk b m e : Nat} {s : St} {kind : Int} {ps : List Int} (h : Two w1 bk b (stepS s kind ps) s W) (ho : OkS s m e) (he : 2 ≤ e) (he2 : e ≤ 1000) (hm : m ≤ 50000) (Ap : Option Addr) (np cp : Nat) (hp : Rd .i64 W W.heap.size Ap np ps) (hnp : np ≤ 10) :
    Calls Try.prog 31 #[.pointer (some ⟨b, 0, none⟩), .agg #[.int .i64 kind, .slice Ap np cp]] W fun e w' => e = .returned (.bool true) ∧ Twn w1 bk b (stepS s kind ps) w' := by
  obtain ⟨k, c, k2, h1, rfl, h3, h4, h5⟩ := h
  have hpl : ps.length ≤ 10 := by rw [hp.len]; exact hnp
  have hmd := ho.made (k := kind) (ps := ps) he
  have hok := ho.step (k := kind) he hpl
  have hag := act_again (gs := s.1) (k := kind) ho.wf (ho.args he ps).inn (by rw [argE_len]; omega) (Ex.refl _) hmd.wf
  have hgl : (stepS s kind ps).1.length ≤ 60000 := Nat.le_trans hok.gts (by omega)
  refine (gdo_any h4 ho.agr.len (by rw [ho.len]; exact he) (ho.agr.inn.ex hmd.ex) ho.agr.u64 (by rw [ho.len]; exact he2) hgl kind Ap np cp ps hp hnp).mono ?_
  rintro e w' ⟨rfl, k2', c', hT⟩
  have hg : actG (stepS s kind ps).1 kind (argE s.2.1 ps) = ((actG s.1 kind (argE s.2.1 ps)).1, (stepS s kind ps).1) := hag
  rw [hg] at hT
  exact ⟨rfl, k, c', k2', h1, hT.bk, h3.first hT h5, hT.at_⟩
theorem Twn.facts {w1 W : World} {bk b e e1 r : Nat} {s : St} (h : Twn w1 bk b s W) (hl : s.2.1.length = e1) (he : e < e1) (hr : s.2.1.getD e 0 = r) : ∃ bg ge ce, W.cell? ⟨bk, 0, none⟩ = some (.pointer (some ⟨bg, 0, none⟩)) ∧ W.cell? ⟨b, 1, none⟩ = some (.slice (some ⟨ge, 0, none⟩) e1 ce) ∧ W.cell? ⟨ge, e, none⟩ = some (.int .u32 (r : Int)) ∧ Hid (Calls Try.prog 28 #[.pointer (some ⟨bg, 0, none⟩)] W fun e w' => e = .returned (.int .i64 (s.1.length : Int)) ∧ W = w') ∧ Hid (MAt w1 bk s W) ∧ e1 ≤ ce := by
  obtain ⟨k, c, k2, h1, h2, h3, h4⟩ := h
  obtain ⟨p0, _⟩ := h3.mk'.cells
  obtain ⟨_, p1, _⟩ := h4.mk'.cells
  have her := h4.mk'.er
  rcases her with ⟨_, q, _⟩ | ⟨ge, hge, her⟩
  · rw [hl] at q; omega
  rw [h1] at p0
  rw [h2, hge, hl] at p1
  have hb := her.bd
  refine ⟨c.bg, ge, k2.ce, p0, p1, ?_, h3.lv.len_, ⟨k, c, h1, h3⟩, by omega⟩
  rw [her.cell (show e < s.2.1.length * 1 by omega)]
  show some (Value.int .u32 ((s.2.1.getD e 0 : Nat) : Int)) = _
  rw [hr]
theorem Two.below {w1 W W2 : World} {bk b : Nat} {s r : St} (h : Two w1 bk b s r W) (hb : Below W.heap.size W W2) : Two w1 bk b s r W2 := by
  obtain ⟨k, c, k2, h1, h2, h3, h4, h5⟩ := h
  exact ⟨k, c, k2, h1, h2, h3.below hb, h4.below hb, h5⟩
/-- The first's act, beside a block of someone else's made just before. -/
theorem MAt.do2 {w1 wr : World} {bk m e : Nat} {s : St} (h : MAt w1 bk s wr) (ho : OkS s m e) (he : 2 ≤ e) (he2 : e ≤ 1000) (hm : m ≤ 60000) (o : Obj) (kind : Int) (Ap : Option Addr) (np cp : Nat) (ps : List Int) (hp : Rd .i64 (wr.alloc o) (wr.alloc o).heap.size Ap np ps) (hnp : np ≤ 10) :
    Calls Try.prog 31 #[.pointer (some ⟨bk, 0, none⟩), .agg #[.int .i64 kind, .slice Ap np cp]] (wr.alloc o) fun e w' => e = .returned (.bool true) ∧ Hid (MAt w1 bk (stepS s kind ps) w') ∧ Hid (w'.heap[wr.heap.size]? = (wr.alloc o).heap[wr.heap.size]? ∧ wr.heap.size < w'.heap.size) := by
  obtain ⟨k, c, rfl, h1⟩ := h
  have hb : Below wr.heap.size wr (wr.alloc o) := (Below.refl _ _).alloc (Nat.le_refl _) _
  have h2 := h1.below hb
  have hs : wr.heap.size < (wr.alloc o).heap.size := by simp
  refine (gdo_any h2 ho.agr.len (by rw [ho.len]; exact he) ho.agr.inn ho.agr.u64 (by rw [ho.len]; exact he2) (Nat.le_trans ho.gts hm) kind Ap np cp ps hp hnp).mono ?_
  rintro e w' ⟨rfl, k', c', hT⟩
  refine ⟨rfl, ⟨k', c', hT.bk, hT.at_⟩, (hT.gst wr.heap.size hs (fun q => ?_) (fun q => ?_)).1, Nat.lt_of_lt_of_le hs hT.size⟩
  · have := h1.lv.at_.lt q; omega
  · have := h1.mk'.lt q; omega
/-- No two gates are alike. -/
theorem once_no {gs : Gs} (hw : Wf gs) {i k : Nat} (hi : i < gs.length) (hk : k < i) : ¬ (getG gs k ≠ (0, 0) ∧ (getG gs i).1 = (getG gs k).1 ∧ (getG gs i).2 = (getG gs k).2) := fun ⟨h0, h1, h2⟩ => by
  have e : getG gs k = getG gs i := by rw [Prod.ext_iff]; exact ⟨h1.symm, h2.symm⟩
  have := hw.once k i (by omega) hi h0 e
  omega
/-- A maker while a law asks. -/
def Mo (w1 : World) (bk bg : Nat) (gs : Gs) (W : World) : Prop := ∃ k c E T, k.bk = bk ∧ c.bg = bg ∧ Mkr w1.heap.size w1 W k c gs E T
section
variable {w1 W W2 : World} {bk bg : Nat} {gs : Gs}
theorem Mo.below (h : Mo w1 bk bg gs W) (hb : Below W.heap.size W W2) : Mo w1 bk bg gs W2 := by
  obtain ⟨k, c, E, T, a, b, m⟩ := h
  exact ⟨k, c, E, T, a, b, m.below hb⟩
theorem Mo.c0 (h : Mo w1 bk bg gs W) : W.cell? ⟨bk, 0, none⟩ = some (.pointer (some ⟨bg, 0, none⟩)) := by
  obtain ⟨k, c, E, T, rfl, rfl, m⟩ := h
  exact m.mk'.cells.1
theorem Mo.be (h : Mo w1 bk bg gs W) : Below w1.heap.size w1 W := by
  obtain ⟨k, c, E, T, rfl, rfl, m⟩ := h
  exact m.lv.be
theorem Mo.len_ (h : Mo w1 bk bg gs W) : Calls Try.prog 28 #[.pointer (some ⟨bg, 0, none⟩)] W fun e w' => e = .returned (.int .i64 (gs.length : Int)) ∧ W = w' := by
  obtain ⟨k, c, E, T, rfl, rfl, m⟩ := h
  exact m.lv.len_
theorem Mo.parts (h : Mo w1 bk bg gs W) (hn : gs.length ≤ 80000) (i : Nat) (hi : i < gs.length) : Calls Try.prog 32 #[.pointer (some ⟨bg, 0, none⟩), .int .i64 (i : Int)] W fun e w' => e = .returned (.tuple #[.int .u32 (((getG gs i).1 : Nat) : Int), .int .u32 (((getG gs i).2 : Nat) : Int), .bool (andB gs i)]) ∧ Below W.heap.size W w' := by
  obtain ⟨k, c, E, T, rfl, rfl, m⟩ := h
  exact gparts_any m.lv.at_ m.lv.wf (by omega) i hi
theorem Mo.out (h : Mo w1 bk bg gs W) : Calls Try.prog 32 #[.pointer (some ⟨bg, 0, none⟩), .int .i64 (gs.length : Int)] W fun e w' => e = .returned (.tuple #[.int .u32 0, .int .u32 0, .bool false]) ∧ W = w' := by
  have HL := Lib.hid h.len_
  have t0 : decide ((gs.length : Int) < 0) = false := decide_eq_false (by omega)
  have t1 : decide ((gs.length : Int) ≤ (gs.length : Int)) = true := decide_eq_true (by omega)
  have t2 : decide (gs.length ≤ gs.length) = true := decide_eq_true (by omega)
  clear h
  go_enter Try.func32, Try.ntmps32
  go_wp2_with fail
  refine HL.out.mono ?_
  rintro e w' ⟨rfl, rfl⟩
  go_wp2_with fail
  go_ret3
  exact ⟨rfl, rfl⟩
end
theorem and_facts {gs : Gs} (hw : Wf gs) {i : Nat} (hi : i < gs.length) (h : andB gs i = true) : 2 ≤ (getG gs i).1 ∧ (getG gs i).1 < (getG gs i).2 ∧ (getG gs i).2 / 2 < i ∧ turnE (getG gs i).1 ≠ (getG gs i).2 := by
  obtain ⟨a, b, c, d⟩ := hw.and_ i hi (of_decide_eq_true h)
  exact ⟨a, b, c, fun e => d (by rw [← e, turn_turn])⟩
theorem and_none {gs : Gs} {i : Nat} (h : andB gs i = false) : (getG gs i).1 = 0 ∧ (getG gs i).2 = 0 := by
  have := of_decide_eq_false h
  have e : getG gs i = (0, 0) := Classical.byContradiction this
  rw [e]; exact ⟨rfl, rfl⟩
theorem app_zero {f h : Nat → Value} {n j : Nat} (hj : j < n) : appV f 0 (cellsV h n) j = h j := by
  unfold appV
  rw [if_neg (by omega), Nat.sub_zero, List.getD, cellsV_get _ hj]
  rfl
end Go.Proofs.Ytelpoocgmflofaa
