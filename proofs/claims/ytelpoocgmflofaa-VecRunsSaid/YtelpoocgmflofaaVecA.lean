/- Numbers as edges in memory: a list of edges beside a circuit, a maker of gates; the contracts of at, kept, not, and, or, same, choose, most, odd. -/
import Derived.Test.YtelpoocgmflofaaVecM
import Derived.Test.YtelpoocgmflofaaGliv
namespace Go.Proofs.Ytelpoocgmflofaa
open Go.RowKit GatM VecM

/-- A list of edges in memory that isn't the circuit's own. -/
structure VcAt (w : World) (c : GrC) (A : Option Addr) (n : Nat) (l : List Nat) : Prop where
  pos : 0 < n
  len : l.length = n
  at_ : ∃ b o, A = some ⟨b, o, none⟩ ∧ b < w.heap.size ∧ ¬ c.own b ∧ ∀ j, j < n → w.cell? ⟨b, o + j, none⟩ = some (.int .u32 ((l.getD j 0 : Nat) : Int))
/-- A maker that nothing went wrong of. -/
structure VMk (w : World) (c : GrC) (b : Nat) : Prop where
  hd : w.heap[b]? = some (.cells #[.pointer (some ⟨c.bg, 0, none⟩), .int .i64 0] 106 (0, 0))
  ap : ¬ c.own b
section
variable {B : Nat} {w0 w w' w2 : World} {c c' c2 : GrC} {gs gs' gs2 : Gs} {A : Option Addr} {n b : Nat} {l : List Nat}
theorem VcAt.rd (h : VcAt w c A n l) : RdN .u32 w w.heap.size A n l :=
  ⟨h.len, fun _ => by
    obtain ⟨b, o, e, hb, _, hc⟩ := h.at_
    exact ⟨b, o, e, hb, hc⟩⟩
theorem VcAt.ap (h : VcAt w c A n l) : ∀ j, onB A j → ¬ c.own j := fun j hj => by
  obtain ⟨b, o, e, _, hn, _⟩ := h.at_
  rw [e, onB_some] at hj
  have hj : j = b := hj
  rw [hj]; exact hn
theorem VcAt.mv (h : VcAt w c A n l) (hs : w.heap.size ≤ w'.heap.size) (hk : ∀ k, k < w.heap.size → ¬ c.own k → w'.heap[k]? = w.heap[k]? ∧ ¬ c'.own k) : VcAt w' c' A n l := by
  obtain ⟨b, o, e, hb, hn, hc⟩ := h.at_
  obtain ⟨k1, k2⟩ := hk b hb hn
  exact ⟨h.pos, h.len, b, o, e, Nat.lt_of_lt_of_le hb hs, k2, fun j hj => by rw [World.cell?_of_block (a := ⟨b, o + j, none⟩) k1]; exact hc j hj⟩
theorem VcAt.to (h : VcAt w c A n l) (hT : LvTo B w0 w w' c c' gs') : VcAt w' c' A n l := h.mv hT.size hT.gst
theorem VcAt.below (h : VcAt w c A n l) (hb : Below w.heap.size w w') : VcAt w' c A n l := h.mv hb.size fun k hk hn => ⟨hb.block k hk, hn⟩
theorem VMk.lt (h : VMk w c b) : b < w.heap.size := lt_of_heap h.hd
theorem VMk.to (h : VMk w c b) (hT : LvTo B w0 w w' c c' gs') : VMk w' c' b := by
  obtain ⟨a, k⟩ := hT.gst b h.lt h.ap
  exact ⟨by rw [a, hT.bg]; exact h.hd, k⟩
theorem VMk.below (h : VMk w c b) (hb : Below w.heap.size w w') : VMk w' c b := ⟨by rw [hb.block b h.lt]; exact h.hd, h.ap⟩
theorem VMk.cells (h : VMk w c b) : w.cell? ⟨b, 0, none⟩ = some (.pointer (some ⟨c.bg, 0, none⟩)) ∧ w.cell? ⟨b, 1, none⟩ = some (.int .i64 0) := by
  refine ⟨?_, ?_⟩
  all_goals (rw [Lib.cell_of_heap h.hd]; rfl)
/-- A list in new memory. -/
theorem VcAt.made (h : LvG B w0 w c gs) {l : List Nat} (hl : 0 < l.length) : VcAt (w.alloc (.cells (l.map fun x : Nat => Value.int .u32 (x : Int)).toArray 25)) c (some ⟨w.heap.size, 0, none⟩) l.length l :=
  ⟨hl, rfl, w.heap.size, 0, rfl, by simp, fun ho => by have := h.at_.lt ho; omega, fun j hj => by
    have hr := (rdn_made .u32 w 25 l).at_ hl
    obtain ⟨b, o, e, _, hc⟩ := hr
    injection e with e
    injection e with e1 e2
    subst e1; subst e2
    exact hc j hj⟩
/-- A row in new memory. -/
theorem VcAt.row {g m cp : Nat} {f : Nat → Value} (h : RowV 25 1 w g m cp f) (hn : 0 < l.length) (hm : l.length ≤ m) (ho : ¬ c.own g) (hf : ∀ j, j < l.length → f j = numF .u32 l j) : VcAt w c (some ⟨g, 0, none⟩) l.length l :=
  ⟨hn, rfl, g, 0, rfl, h.lt, ho, fun j hj => by rw [Nat.zero_add, h.cell (by omega), hf j hj]; rfl⟩
/-- A store into a block that isn't the circuit's. -/
theorem LvTo.set (h : LvTo B w0 w w' c c' gs') {g : Nat} (hg : w.heap.size ≤ g) (hB : B ≤ w.heap.size) (ho : ¬ c'.own g) (j : Nat) (v : Value) : LvTo B w0 w (w'.setCell ⟨g, j, none⟩ v) c c' gs' := by
  have hne : ∀ k, k ≠ g → (w'.setCell ⟨g, j, none⟩ v).heap[k]? = w'.heap[k]? := fun k e => Below.heap_setCell _ _ _ _ e
  have hsz : (w'.setCell ⟨g, j, none⟩ v).heap.size = w'.heap.size := by simp only [World.setCell, Array.size_modify]
  refine ⟨⟨h.lv.at_.same fun k hk => hne k (fun e => ho (e ▸ hk)), h.lv.wf, h.lv.be.trans ((Below.refl _ _).setCell (by exact Nat.le_trans hB hg) _), h.lv.lo, by rw [hsz]; exact h.lv.hB⟩, h.bg, fun k hk hn => ?_, by rw [hsz]; exact h.size⟩
  obtain ⟨a, b⟩ := h.gst k hk hn
  exact ⟨(hne k (by omega)).trans a, b⟩
end
/-- What an operation on edges leaves. -/
def EdgeTo (B : Nat) (w0 w : World) (c : GrC) (gs : Gs) (k : Nat) (C : Prop) (f : List Bool → Bool) (e : Ending) (w' : World) : Prop :=
  ∃ (r : Nat) (gs' : Gs) (c' : GrC), e = .returned (.int .u32 (r : Int)) ∧ Res gs gs' r k C f ∧ LvTo B w0 w w' c c' gs'

/-! ### The maker's calls -/
theorem vkept_any {w : World} (p : Value) (r : Nat) : Calls Try.prog 64 #[p, .int .u32 (r : Int), .int .i64 0] w fun e w' => e = .returned (.int .u32 (r : Int)) ∧ w = w' := by
  go_enter Try.func64, Try.ntmps64
  go_wp2_with fail
  go_ret
  exact ⟨rfl, rfl⟩
theorem vat_any {w : World} {c : GrC} {A : Option Addr} {n : Nat} {l : List Nat} (cp : Nat) (h : VcAt w c A n l) (hn : n ≤ 1000) (i : Nat) : Calls Try.prog 42 #[.slice A n cp, .int .i64 (i : Int)] w fun e w' => e = .returned (.int .u32 ((atL l i : Nat) : Int)) ∧ w = w' := by
  have hp := h.pos
  have hl := h.len
  obtain ⟨b, o, rfl, hb, _, hc⟩ := h.at_
  have hx := hc (min i (n - 1)) (by omega)
  have e1 : l.getD (min i (n - 1)) 0 = atL l i := by unfold atL; rw [hl]
  rw [e1] at hx
  have hmin : min (i : Int) ((n : Int) - 1) = ((min i (n - 1) : Nat) : Int) := by omega
  have hlt : min i (n - 1) < n := by omega
  clear e1 hc hb h hl
  generalize atL l i = x at *
  generalize min i (n - 1) = k at *
  go_enter Try.func42, Try.ntmps42
  go_wp2_with fail
  go_ret
  exact ⟨rfl, rfl⟩
section
variable {B : Nat} {w0 w : World} {c : GrC} {gs : Gs} {b : Nat}
theorem vnot_any (h : LvG B w0 w c gs) (hm : VMk w c b) (a : Nat) (ha : a / 2 < gs.length) (hn : gs.length ≤ 80000) :
    Calls Try.prog 39 #[.pointer (some ⟨b, 0, none⟩), .int .u32 (a : Int)] w (EdgeTo B w0 w c gs 0 (a < 2) fun vals => !sayE vals gs a) := by
  obtain ⟨c0, c1⟩ := hm.cells
  have hg := gnot_any h.at_ a (by omega)
  rw [if_pos ha] at hg
  have HG := Lib.hid hg
  have HF : Hid (∀ w', Below w.heap.size w w' → EdgeTo B w0 w c gs 0 (a < 2) (fun vals => !sayE vals gs a) (.returned (.int .u32 ((turnE a : Nat) : Int))) w') := fun w' hb =>
    ⟨_, gs, c, rfl, ⟨h.wf, Ex.refl _, by rw [turn_div]; exact ha, Nat.le_refl _, fun q => ⟨rfl, turn_cst q⟩, fun vals => say_turn vals gs a⟩, .ofBelow h hb⟩
  clear hg h hm
  go_enter Try.func39, Try.ntmps39
  go_wp2_with fail
  refine HG.out.mono ?_
  rintro e w' ⟨rfl, hb⟩
  have HB := Lib.hid (HF.out w' hb)
  clear hb HF HG
  go_wp2_with fail
  refine (vkept_any _ _).mono ?_
  rintro e w2 ⟨rfl, rfl⟩
  go_wp2_with fail
  go_ret
  exact HB.out
theorem vand_any (h : LvG B w0 w c gs) (hm : VMk w c b) {A : Option Addr} {n cn : Nat} {l : List Nat} (hl : VcAt w c A n l) (hin : AllIn gs l) (hn : gs.length + n ≤ 80000) :
    Calls Try.prog 43 #[.pointer (some ⟨b, 0, none⟩), .slice A n cn] w (EdgeTo B w0 w c gs l.length (Cst l) fun vals => l.all (sayE vals gs)) := by
  obtain ⟨c0, c1⟩ := hm.cells
  have HG := Lib.hid (h.and A n cn l hl.rd hl.ap hin hn)
  have HF : Hid (∀ w' c', LvTo B w0 w w' c c' (andG gs l).2 → EdgeTo B w0 w c gs l.length (Cst l) (fun vals => l.all (sayE vals gs)) (.returned (.int .u32 (((andG gs l).1 : Nat) : Int))) w') := fun w' c' hb => ⟨_, _, c', rfl, res_and h.wf hin, hb⟩
  generalize (andG gs l).1 = r at *
  clear h hm hl
  go_enter Try.func43, Try.ntmps43
  go_wp2_with fail
  refine HG.out.mono ?_
  rintro e w' ⟨rfl, c', hb⟩
  have HB := Lib.hid (HF.out w' c' hb)
  clear hb HF HG
  go_wp2_with fail
  refine (vkept_any _ _).mono ?_
  rintro e w2 ⟨rfl, rfl⟩
  go_wp2_with fail
  go_ret
  exact HB.out
theorem vor_any (h : LvG B w0 w c gs) (hm : VMk w c b) {A : Option Addr} {n cn : Nat} {l : List Nat} (hl : VcAt w c A n l) (hin : AllIn gs l) (hn : gs.length + n ≤ 80000) :
    Calls Try.prog 63 #[.pointer (some ⟨b, 0, none⟩), .slice A n cn] w (EdgeTo B w0 w c gs l.length (Cst l) fun vals => l.any (sayE vals gs)) := by
  obtain ⟨c0, c1⟩ := hm.cells
  have HG := Lib.hid (h.or A n cn l hl.rd hin hn)
  have HF : Hid (∀ w' c', LvTo B w0 w w' c c' (orG gs l).2 → EdgeTo B w0 w c gs l.length (Cst l) (fun vals => l.any (sayE vals gs)) (.returned (.int .u32 (((orG gs l).1 : Nat) : Int))) w') := fun w' c' hb => ⟨_, _, c', rfl, res_or h.wf hin, hb⟩
  generalize (orG gs l).1 = r at *
  clear h hm hl
  go_enter Try.func63, Try.ntmps63
  go_wp2_with fail
  refine HG.out.mono ?_
  rintro e w' ⟨rfl, c', hb⟩
  have HB := Lib.hid (HF.out w' c' hb)
  clear hb HF HG
  go_wp2_with fail
  refine (vkept_any _ _).mono ?_
  rintro e w2 ⟨rfl, rfl⟩
  go_wp2_with fail
  go_ret
  exact HB.out
theorem vsame_any (h : LvG B w0 w c gs) (hm : VMk w c b) (x y : Nat) (hx : x / 2 < gs.length) (hy : y / 2 < gs.length) (hn : gs.length ≤ 80000) :
    Calls Try.prog 41 #[.pointer (some ⟨b, 0, none⟩), .int .u32 (x : Int), .int .u32 (y : Int)] w (EdgeTo B w0 w c gs 4 (x < 2 ∧ y < 2) fun vals => sayE vals gs x == sayE vals gs y) := by
  obtain ⟨c0, c1⟩ := hm.cells
  have HG := Lib.hid (h.same_ x y hx hy hn)
  have HF : Hid (∀ w' c', LvTo B w0 w w' c c' (sameG gs x y).2 → EdgeTo B w0 w c gs 4 (x < 2 ∧ y < 2) (fun vals => sayE vals gs x == sayE vals gs y) (.returned (.int .u32 (((sameG gs x y).1 : Nat) : Int))) w') := fun w' c' hb => ⟨_, _, c', rfl, res_same h.wf hx hy, hb⟩
  generalize (sameG gs x y).1 = r at *
  clear h hm
  go_enter Try.func41, Try.ntmps41
  go_wp2_with fail
  refine HG.out.mono ?_
  rintro e w' ⟨rfl, c', hb⟩
  have HB := Lib.hid (HF.out w' c' hb)
  clear hb HF HG
  go_wp2_with fail
  refine (vkept_any _ _).mono ?_
  rintro e w2 ⟨rfl, rfl⟩
  go_wp2_with fail
  go_ret
  exact HB.out
theorem vchoose_any (h : LvG B w0 w c gs) (hm : VMk w c b) (p x y : Nat) (hp : p / 2 < gs.length) (hx : x / 2 < gs.length) (hy : y / 2 < gs.length) (hn : gs.length ≤ 80000) :
    Calls Try.prog 49 #[.pointer (some ⟨b, 0, none⟩), .int .u32 (p : Int), .int .u32 (x : Int), .int .u32 (y : Int)] w (EdgeTo B w0 w c gs 4 (p < 2 ∧ x < 2 ∧ y < 2) fun vals => if sayE vals gs p then sayE vals gs x else sayE vals gs y) := by
  obtain ⟨c0, c1⟩ := hm.cells
  have HG := Lib.hid (h.if_ p x y hp hx hy hn)
  have HF : Hid (∀ w' c', LvTo B w0 w w' c c' (ifG gs p x y).2 → EdgeTo B w0 w c gs 4 (p < 2 ∧ x < 2 ∧ y < 2) (fun vals => if sayE vals gs p then sayE vals gs x else sayE vals gs y) (.returned (.int .u32 (((ifG gs p x y).1 : Nat) : Int))) w') := fun w' c' hb => ⟨_, _, c', rfl, res_if h.wf hp hx hy, hb⟩
  generalize (ifG gs p x y).1 = r at *
  clear h hm
  go_enter Try.func49, Try.ntmps49
  go_wp2_with fail
  refine HG.out.mono ?_
  rintro e w' ⟨rfl, c', hb⟩
  have HB := Lib.hid (HF.out w' c' hb)
  clear hb HF HG
  go_wp2_with fail
  refine (vkept_any _ _).mono ?_
  rintro e w2 ⟨rfl, rfl⟩
  go_wp2_with fail
  go_ret
  exact HB.out
/-- Of two edges in a new list. -/
theorem vand_two (h : LvG B w0 w c gs) (hm : VMk w c b) (x y : Nat) (hx : x / 2 < gs.length) (hy : y / 2 < gs.length) (hn : gs.length + 2 ≤ 80000) :
    Calls Try.prog 43 #[.pointer (some ⟨b, 0, none⟩), .slice (some ⟨w.heap.size, 0, none⟩) 2 2] (w.alloc (.cells #[.int .u32 (x : Int), .int .u32 (y : Int)] 25)) (EdgeTo B w0 w c gs 2 (x < 2 ∧ y < 2) fun vals => sayE vals gs x && sayE vals gs y) := by
  have hb : Below w.heap.size w (w.alloc (.cells #[.int .u32 (x : Int), .int .u32 (y : Int)] 25)) := (Below.refl _ _).alloc (Nat.le_refl _) _
  have hin : AllIn gs [x, y] := fun q hq => by
    simp only [List.mem_cons, List.not_mem_nil, or_false] at hq
    rcases hq with rfl | rfl <;> assumption
  refine (vand_any (h.below hb) (hm.below hb) (VcAt.made h (l := [x, y]) (Nat.succ_pos _)) hin hn).mono ?_
  rintro e w' ⟨r, gs', c', rfl, hr, hT⟩
  refine ⟨r, gs', c', rfl, hr.congr (Nat.le_refl _) (fun ⟨k1, k2⟩ q hq => ?_) (fun vals => by simp), hT.pre hb⟩
  simp only [List.mem_cons, List.not_mem_nil, or_false] at hq
  rcases hq with rfl | rfl <;> assumption
theorem vor_two (h : LvG B w0 w c gs) (hm : VMk w c b) (x y : Nat) (hx : x / 2 < gs.length) (hy : y / 2 < gs.length) (hn : gs.length + 2 ≤ 80000) :
    Calls Try.prog 63 #[.pointer (some ⟨b, 0, none⟩), .slice (some ⟨w.heap.size, 0, none⟩) 2 2] (w.alloc (.cells #[.int .u32 (x : Int), .int .u32 (y : Int)] 25)) (EdgeTo B w0 w c gs 2 (x < 2 ∧ y < 2) fun vals => sayE vals gs x || sayE vals gs y) := by
  have hb : Below w.heap.size w (w.alloc (.cells #[.int .u32 (x : Int), .int .u32 (y : Int)] 25)) := (Below.refl _ _).alloc (Nat.le_refl _) _
  have hin : AllIn gs [x, y] := fun q hq => by
    simp only [List.mem_cons, List.not_mem_nil, or_false] at hq
    rcases hq with rfl | rfl <;> assumption
  refine (vor_any (h.below hb) (hm.below hb) (VcAt.made h (l := [x, y]) (Nat.succ_pos _)) hin hn).mono ?_
  rintro e w' ⟨r, gs', c', rfl, hr, hT⟩
  refine ⟨r, gs', c', rfl, hr.congr (Nat.le_refl _) (fun ⟨k1, k2⟩ q hq => ?_) (fun vals => by simp), hT.pre hb⟩
  simp only [List.mem_cons, List.not_mem_nil, or_false] at hq
  rcases hq with rfl | rfl <;> assumption
set_option maxHeartbeats 1600000 in
theorem vmost_any (h : LvG B w0 w c gs) (hm : VMk w c b) (x y z : Nat) (hx : x / 2 < gs.length) (hy : y / 2 < gs.length) (hz : z / 2 < gs.length) (hn : gs.length ≤ 70000) :
    Calls Try.prog 38 #[.pointer (some ⟨b, 0, none⟩), .int .u32 (x : Int), .int .u32 (y : Int), .int .u32 (z : Int)] w (EdgeTo B w0 w c gs 8 (x < 2 ∧ y < 2 ∧ z < 2) fun vals => maj (sayE vals gs x) (sayE vals gs y) (sayE vals gs z)) := by
  have H1 := Lib.hid (vand_two h hm x y hx hy (by omega))
  have HM := Lib.hid hm
  have HX : Hid (x / 2 < gs.length ∧ y / 2 < gs.length ∧ z / 2 < gs.length ∧ gs.length ≤ 70000) := ⟨hx, hy, hz, hn⟩
  clear h hm hx hy hz hn
  go_enter Try.func38, Try.ntmps38
  go_wp2_with fail
  refine H1.out.mono ?_
  rintro e w1 ⟨r1, g1, c1, rfl, hr1, hT1⟩
  have HR1 := Lib.hid hr1
  have HT1 := Lib.hid hT1
  have H2 := Lib.hid (vor_two hT1.lv (HM.out.to hT1) x y (by have := HX.out; have := hr1.ex.len; omega) (by have := HX.out; have := hr1.ex.len; omega) (by have := HX.out; have := hr1.len; omega))
  clear hr1 hT1 H1
  go_wp2_with fail
  refine H2.out.mono ?_
  rintro e w2 ⟨r2, g2, c2, rfl, hr2, hT2⟩
  have HR2 := Lib.hid hr2
  have hT2 := HT1.out.trans hT2
  have HT2 := Lib.hid hT2
  have H3 := Lib.hid (vand_two hT2.lv (HM.out.to hT2) r2 z hr2.lt (by have := HX.out; have := HR1.out.ex.len; have := hr2.ex.len; omega) (by have := HX.out; have := HR1.out.len; have := hr2.len; omega))
  clear hr2 hT2 H2 HT1
  go_wp2_with fail
  refine H3.out.mono ?_
  rintro e w3 ⟨r3, g3, c3, rfl, hr3, hT3⟩
  have HR3 := Lib.hid hr3
  have hT3 := HT2.out.trans hT3
  have HT3 := Lib.hid hT3
  have H4 := Lib.hid (vor_two hT3.lv (HM.out.to hT3) r1 r3 (HR1.out.up (HR2.out.ex.trans hr3.ex)) hr3.lt (by have := HX.out; have := HR1.out.len; have := HR2.out.len; have := hr3.len; omega))
  clear hr3 hT3 H3 HT2
  go_wp2_with fail
  refine H4.out.mono ?_
  rintro e w4 ⟨r4, g4, c4, rfl, hr4, hT4⟩
  have HE : Hid (EdgeTo B w0 w c gs 8 (x < 2 ∧ y < 2 ∧ z < 2) (fun vals => maj (sayE vals gs x) (sayE vals gs y) (sayE vals gs z)) (.returned (.int .u32 (r4 : Int))) w4) := by
    have h1 := HR1.out
    have h2 := HR2.out
    have h3 := HR3.out
    obtain ⟨hx, hy, hz, _⟩ := HX.out
    refine ⟨r4, g4, c4, rfl, ⟨hr4.wf, h1.ex.trans (h2.ex.trans (h3.ex.trans hr4.ex)), hr4.lt, by have := h1.len; have := h2.len; have := h3.len; have := hr4.len; omega, fun ⟨k1, k2, k3⟩ => ?_, fun vals => ?_⟩, HT3.out.trans hT4⟩
    · obtain ⟨a1, b1⟩ := h1.cst ⟨k1, k2⟩
      obtain ⟨a2, b2⟩ := h2.cst ⟨k1, k2⟩
      obtain ⟨a3, b3⟩ := h3.cst ⟨b2, k3⟩
      obtain ⟨a4, b4⟩ := hr4.cst ⟨b1, b3⟩
      exact ⟨a4.trans (a3.trans (a2.trans a1)), b4⟩
    · rw [hr4.say, h1.keep (h2.ex.trans h3.ex), h3.say, h2.say, say_ex (h1.ex.trans h2.ex) hz, say_ex h1.ex hx, say_ex h1.ex hy]; rfl
  clear hr4 hT4 H4 HT3 HR1 HR2 HR3 HX HM
  go_wp2_with fail
  go_ret
  exact HE.out
set_option maxHeartbeats 1600000 in
theorem vodd_any (h : LvG B w0 w c gs) (hm : VMk w c b) (x y z : Nat) (hx : x / 2 < gs.length) (hy : y / 2 < gs.length) (hz : z / 2 < gs.length) (hn : gs.length ≤ 70000) :
    Calls Try.prog 62 #[.pointer (some ⟨b, 0, none⟩), .int .u32 (x : Int), .int .u32 (y : Int), .int .u32 (z : Int)] w (EdgeTo B w0 w c gs 8 (x < 2 ∧ y < 2 ∧ z < 2) fun vals => odd3 (sayE vals gs x) (sayE vals gs y) (sayE vals gs z)) := by
  have H1 := Lib.hid (vsame_any h hm x y hx hy (by omega))
  have HM := Lib.hid hm
  have HX : Hid (z / 2 < gs.length ∧ gs.length ≤ 70000) := ⟨hz, hn⟩
  clear h hm hx hy hz hn
  go_enter Try.func62, Try.ntmps62
  go_wp2_with fail
  refine H1.out.mono ?_
  rintro e w1 ⟨r1, g1, c1, rfl, hr1, hT1⟩
  have HR1 := Lib.hid hr1
  have HT1 := Lib.hid hT1
  have H2 := Lib.hid (vsame_any hT1.lv (HM.out.to hT1) r1 z hr1.lt (by have := HX.out; have := hr1.ex.len; omega) (by have := HX.out; have := hr1.len; omega))
  clear hr1 hT1 H1
  go_wp2_with fail
  refine H2.out.mono ?_
  rintro e w2 ⟨r2, g2, c2, rfl, hr2, hT2⟩
  have HE : Hid (EdgeTo B w0 w c gs 8 (x < 2 ∧ y < 2 ∧ z < 2) (fun vals => odd3 (sayE vals gs x) (sayE vals gs y) (sayE vals gs z)) (.returned (.int .u32 (r2 : Int))) w2) := by
    have h1 := HR1.out
    obtain ⟨hz, _⟩ := HX.out
    refine ⟨r2, g2, c2, rfl, ⟨hr2.wf, h1.ex.trans hr2.ex, hr2.lt, by have := h1.len; have := hr2.len; omega, fun ⟨k1, k2, k3⟩ => ?_, fun vals => ?_⟩, HT1.out.trans hT2⟩
    · obtain ⟨a1, b1⟩ := h1.cst ⟨k1, k2⟩
      obtain ⟨a2, b2⟩ := hr2.cst ⟨b1, k3⟩
      exact ⟨a2.trans a1, b2⟩
    · rw [hr2.say, h1.say, say_ex h1.ex hz]; rfl
  clear hr2 hT2 H2 HT1 HR1 HX HM
  go_wp2_with fail
  go_ret
  exact HE.out
/-- What nothing went wrong of is answered. -/
theorem vvec_any (hm : VMk w c b) (v : Value) : Calls Try.prog 34 #[.pointer (some ⟨b, 0, none⟩), v] w fun e w' => e = .returned (.tuple #[v, .int .i64 0]) ∧ w = w' := by
  obtain ⟨c0, c1⟩ := hm.cells
  clear hm
  go_enter Try.func34, Try.ntmps34
  go_wp2_with fail
  go_ret2
  exact ⟨rfl, rfl⟩
theorem vedge_any (hm : VMk w c b) (v : Value) : Calls Try.prog 40 #[.pointer (some ⟨b, 0, none⟩), v] w fun e w' => e = .returned (.tuple #[v, .int .i64 0]) ∧ w = w' := by
  obtain ⟨c0, c1⟩ := hm.cells
  clear hm
  go_enter Try.func40, Try.ntmps40
  go_wp2_with fail
  go_ret2
  exact ⟨rfl, rfl⟩
end
end Go.Proofs.Ytelpoocgmflofaa
