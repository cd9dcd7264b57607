/- The circuits that the laws of knit make: build. -/
import Derived.Test.YtmiifhclcknhdaaKntL
import Derived.Test.YtmiifhclcknhdaaGatA
import Derived.Test.YtmiifhclcknhdaaRows
import Derived.Deep.Slices
import Derived.Deep.Fields
import Derived.ChangeSame
namespace Go.Proofs.Ytmiifhclcknhdaa
open Go.ChangeShapes Go.WideShapes Go.ChangeAt Go.RowKit GatM KntM Go.Lib

/-- The gates to be made, as they came in: three numbers each. -/
def ActsK (w : World) (B : Nat) (A : Option Addr) (n : Nat) : Prop :=
  ∀ j, j < n → ∃ (b o : Nat) (k x y : Int), A = some ⟨b, o, none⟩ ∧ b < B ∧ w.cell? ⟨b, o + j * 3, none⟩ = some (.int .i64 k) ∧ w.cell? ⟨b, o + j * 3 + 1, none⟩ = some (.int .i64 x) ∧ w.cell? ⟨b, o + j * 3 + 2, none⟩ = some (.int .i64 y)
theorem ActsK.below {w w' : World} {B n : Nat} {A : Option Addr} (h : ActsK w B A n) (hb : Below B w w') : ActsK w' B A n := fun j hj => by
  obtain ⟨b, o, k, x, y, e, hlt, c0, c1, c2⟩ := h j hj
  exact ⟨b, o, k, x, y, e, hlt, (hb.cell (p := ⟨b, o + j * 3, none⟩) hlt).trans c0, (hb.cell (p := ⟨b, o + j * 3 + 1, none⟩) hlt).trans c1, (hb.cell (p := ⟨b, o + j * 3 + 2, none⟩) hlt).trans c2⟩
theorem ActsK.mono1 {w : World} {B B' n : Nat} {A : Option Addr} (h : ActsK w B A n) (hB : B ≤ B') : ActsK w B' A n := fun j hj => by
  obtain ⟨b, o, k, x, y, e, hlt, c⟩ := h j hj
  exact ⟨b, o, k, x, y, e, by omega, c⟩
theorem cells_kact : Try.prog.cellsOf 78 = 3 := by kernel_rfl
theorem kone_of {cs : List Value} {i : Nat} {u : Value} (h : (cs.drop i).take 1 = [u]) : cs[i]? = some u := by
  have := congrArg (fun l => l[0]?) h
  simpa [List.getElem?_take, List.getElem?_drop] using this
set_option maxRecDepth 100000 in
/-- The acts that came in. -/
theorem open_kacts {H : Type} {enc : TypeId × Value → H} {W : World} {base : Nat} {v : Value} {d : DataW H} {p : List MemPlace} (hok : Value.okWide Try.prog W .any base 44 v)
    (h : DataW.Trod enc Try.prog W 0 (fun _ => true) true 44 v d p) :
    ∃ A n c, v = .slice A n c ∧ ActsK W W.heap.size A n ∧ n ≤ 9223372036854775807 := by
  obtain ⟨a0, len, cap, rfl⟩ := okWide_slice Try.underlying44 hok
  obtain ⟨fuel, hf⟩ := h
  rcases Go.Deep.open_slice Try.underlying44 hf with ⟨hcs, _⟩ | ⟨a, len', cap', m, n0, D, Pl, hcs, _, hl, hmx, hm, _, hi⟩
  · simp [Value.cells] at hcs
    obtain ⟨rfl, rfl, rfl⟩ := hcs
    exact ⟨none, 0, 0, rfl, fun j hj => by omega, by omega⟩
  · simp [Value.cells] at hcs
    obtain ⟨rfl, rfl, rfl⟩ := hcs
    simp only [if_true] at hm
    have hmax : len ≤ 9223372036854775807 := by unfold maxLen at hmx; omega
    have elem : ∀ j, j < len → ∃ k0 k1 k2 : Int, W.cell? (a.add (j * 3)) = some (.int .i64 k0) ∧ W.cell? (a.add (j * 3 + 1)) = some (.int .i64 k1) ∧ W.cell? (a.add (j * 3 + 2)) = some (.int .i64 k2) := by
     intro j hj
     obtain ⟨cs, hc, ht⟩ := hi j (by omega)
     rw [cells_kact] at hc
     obtain ⟨xs, n1, _, _, _, hxl, hfld⟩ := DataW.trod_struct Try.underlying78 ht
     obtain ⟨_, hcl, hat⟩ := World.cells?_some hc
     have hxs : ∀ i, i < 3 → xs[i]? = some (xs.getD i (.nil, [])) := fun i hi3 => by
       have hlt : i < xs.length := by rw [hxl]; exact hi3
       simp [List.getD, List.getElem?_eq_getElem hlt]
     have field : ∀ (q : IntKind) (i : Nat) (T : TypeId), Try.prog.underlying T = some (.int q) → Try.prog.cellsOf T = 1 → i < 3 → DataW.trod enc Try.prog W 0 (fun _ => true) true n1 T ((cs.drop i).take (Try.prog.cellsOf T)) = xs[i]? → ∃ k, W.cell? (a.add (j * 3 + i)) = some (.int q k) := by
       intro q i T hu h1 hi3 hx
       rw [h1] at hx
       obtain ⟨k, hk, hw⟩ := DataW.trod_int hu (hx.trans (hxs i hi3))
       have e := kone_of hk
       exact ⟨k, by rw [← Go.Deep.add_add, hat i hi3]; exact e⟩
     obtain ⟨k0, h0⟩ := field .i64 0 3 Try.underlying3 (by kernel_rfl) (by omega) (hfld 0 _ rfl)
     obtain ⟨k1, h1⟩ := field .i64 1 3 Try.underlying3 (by kernel_rfl) (by omega) (hfld 1 _ rfl)
     obtain ⟨k2, h2⟩ := field .i64 2 3 Try.underlying3 (by kernel_rfl) (by omega) (hfld 2 _ rfl)
     exact ⟨k0, k1, k2, h0, h1, h2⟩
    obtain ⟨b, off, spot⟩ := a
    refine ⟨some ⟨b, off, spot⟩, len, cap, rfl, fun j hj => ?_, hmax⟩
    obtain ⟨k0, k1, k2, h0, h1, h2⟩ := elem j hj
    obtain ⟨_, _, _, z0, _, _⟩ := elem 0 (by omega)
    have hspot : spot = none := by simpa [Addr.add] using World.cell?_spot z0
    subst hspot
    rw [add_plain] at h0 h1 h2
    exact ⟨b, off, k0, k1, k2, rfl, World.block_lt_of_cell? _ _ h0, h0, h1, h2⟩

/-- A circuit and its edges, e of them, of n gates at most. -/
structure BldC (B : Nat) (w0 : World) (bg : Nat) (v : Value) (e n : Nat) (x : Option Nat) (wr : World) (c : GrC) (gs : Gs) (E : List Nat) (g cap : Nat) : Prop where
  v : v = .slice (some ⟨g, 0, none⟩) e cap
  bg : c.bg = bg
  lv : LvG B w0 wr c gs
  inn : AllIn gs E
  len : E.length = e
  gts : gs.length ≤ n
  row : RowV 25 1 wr g e cap (numF .u32 E)
  no : ¬ c.own g
  lo : B ≤ g
  x : ∀ y, x = some y → y / 2 < gs.length
def BldP (B : Nat) (w0 : World) (bg : Nat) (v : Value) (e n : Nat) (x : Option Nat) (wr : World) : Prop := ∃ c gs E g cap, BldC B w0 bg v e n x wr c gs E g cap
section
variable {B : Nat} {w0 wr w' : World} {bg e n : Nat} {v : Value} {x : Option Nat} {c c' : GrC} {gs gs' : Gs} {E : List Nat} {g cap : Nat}
theorem LvG.keptN (h : LvG B w0 wr c gs) (hB : Below B wr w') (hk : ∀ j, c.own j → w'.heap[j]? = wr.heap[j]?) (hs : wr.heap.size ≤ w'.heap.size) : LvG B w0 w' c gs :=
  ⟨h.at_.same hk, h.wf, h.be.trans hB, h.lo, Nat.le_trans h.hB hs⟩
theorem BldC.below (h : BldC B w0 bg v e n x wr c gs E g cap) (hb : Below wr.heap.size wr w') : BldC B w0 bg v e n x w' c gs E g cap :=
  ⟨h.v, h.bg, h.lv.below hb, h.inn, h.len, h.gts, h.row.same (hb.block _ h.row.lt), h.no, h.lo, h.x⟩
/-- Behind an operation of the circuit's. -/
theorem BldC.op (h : BldC B w0 bg v e n x wr c gs E g cap) {w1 : World} (hb : Below wr.heap.size wr w1) (hT : LvTo B w0 w1 w' c c' gs') (hx : Ex gs gs') {y k : Nat} (hy : y / 2 < gs'.length) (hn : gs'.length ≤ k) : BldP B w0 bg v e k (some y) w' := by
  have h1 := h.below hb
  refine ⟨c', gs', E, g, cap, h.v, hT.bg.trans h.bg, hT.lv, h.inn.ex hx, h.len, hn, h1.row.same (hT.gst g h1.row.lt h.no).1, (hT.gst g h1.row.lt h.no).2, h.lo, fun z hz => by injection hz with hz; rw [← hz]; exact hy⟩
/-- Behind the append of what was made. -/
theorem BldC.push {y : Nat} (h : BldC B w0 bg v e n (some y) wr c gs E g cap) {w4 : World} {g4 c4 : Nat} (hr : RowV 25 1 w4 g4 (e + 1) c4 (appV (numF .u32 E) e [.int .u32 (y : Int)]))
    (hg : onB (some ⟨g, 0, none⟩) g4 ∨ (wr.alloc (.cells #[.int .u32 (y : Int)] 25)).heap.size ≤ g4) (hk : Kf (fun j => onB (some ⟨g, 0, none⟩) j) (wr.alloc (.cells #[.int .u32 (y : Int)] 25)) w4) :
    BldP B w0 bg (.slice (some ⟨g4, 0, none⟩) (e + 1) c4) (e + 1) n none w4 := by
  have hb : Below wr.heap.size wr (wr.alloc (.cells #[.int .u32 (y : Int)] 25)) := (Below.refl _ _).alloc (Nat.le_refl _) _
  have hs : (wr.alloc (.cells #[.int .u32 (y : Int)] 25)).heap.size = wr.heap.size + 1 := by simp
  have hgl := h.row.lt
  have hBs := h.lv.hB
  have hks := hk.size
  have old : ∀ j, j < wr.heap.size → j ≠ g → w4.heap[j]? = wr.heap[j]? := fun j h1 h2 => by
    rw [hk.block j (by omega) (fun e => by rw [onB_some] at e; exact h2 e), hb.block j h1]
  have hBw : Below B wr w4 := ⟨hk.os.trans hb.os, hk.tape.trans hb.tape, hk.output.trans hb.output, by omega, fun j hj => old j (by omega) (by have := h.lo; omega)⟩
  have hl : (E ++ [y]).length = e + 1 := by simp [h.len]
  refine ⟨c, gs, E ++ [y], g4, c4, rfl, h.bg, h.lv.keptN hBw (fun j hj => old j (h.lv.at_.lt hj) (fun e => h.no (e ▸ hj))) (by omega), ?_, hl, h.gts, hr.congr fun j hj => ?_, ?_, ?_, fun z hz => by cases hz⟩
  · intro z hz
    rcases List.mem_append.1 hz with e1 | e1
    · exact h.inn z e1
    · obtain rfl := List.mem_singleton.1 e1; exact h.x _ rfl
  · have := numF_app (k := .u32) (l := E) (x := y) (j := j) (by rw [hl]; omega)
    rwa [Nat.mul_one, h.len] at this
  · rcases hg with e1 | e1
    · rw [onB_some] at e1; have e1 : g4 = g := e1; rw [e1]; exact h.no
    · intro ho; have := h.lv.at_.lt ho; omega
  · rcases hg with e1 | e1
    · rw [onB_some] at e1; have e1 : g4 = g := e1; rw [e1]; exact h.lo
    · omega
end
/-- What build answers. -/
def BuildTo (w : World) (e : Ending) (w' : World) : Prop := ∃ bg c gs E g cap n k, e = .returned (.tuple #[.pointer (some ⟨bg, 0, none⟩), .slice (some ⟨g, 0, none⟩) n cap]) ∧ BldC w.heap.size w bg (.slice (some ⟨g, 0, none⟩) n cap) n k none w' c gs E g cap ∧ 2 ≤ n ∧ n ≤ 40 ∧ k ≤ 200
set_option maxHeartbeats 12800000 in
set_option maxRecDepth 100000 in
theorem kbuild_any (nn : Int) (A : Option Addr) (n c : Nat) (w : World) (hx : ActsK w w.heap.size A n) :
    Calls Try.prog 13 #[.int .i64 nn, .slice A n c] w fun e w' => (e = .returned (.tuple #[.pointer none, .slice none 0 0]) ∧ w = w') ∨ BuildTo w e w' := by
  have HX := Lib.hid hx
  clear hx
  go_enter Try.func13, Try.ntmps13
  by_cases hv0 : nn < 0
  · have t1 : decide (nn < 0) = true := decide_eq_true hv0
    go_wp2_with fail
    go_ret2
    exact .inl ⟨rfl, rfl⟩
  have t1 : decide (nn < 0) = false := decide_eq_false hv0
  by_cases hv1 : 5 < nn
  · have t2 : decide (5 < nn) = true := decide_eq_true hv1
    go_wp2_with fail
    go_ret2
    exact .inl ⟨rfl, rfl⟩
  have t2 : decide (5 < nn) = false := decide_eq_false hv1
  by_cases hv2 : 30 < n
  · have t3 : decide (30 < n) = true := decide_eq_true hv2
    have t4 : decide (30 < (n : Int)) = true := decide_eq_true (by omega)
    go_wp2_with fail
    go_ret2
    exact .inl ⟨rfl, rfl⟩
  have t3 : decide (30 < n) = false := decide_eq_false hv2
  have t4 : decide (30 < (n : Int)) = false := decide_eq_false (by omega)
  obtain ⟨N, rfl⟩ : ∃ N : Nat, nn = (N : Int) := ⟨nn.toNat, by omega⟩
  have hN : N ≤ 5 := by omega
  go_wp2_with fail
  refine (gnew_any w).mono ?_
  intro e w1 hNw
  obtain ⟨c1, rfl, h1⟩ := LvG.new hNw (Below.refl w.heap.size w) (Nat.le_refl _)
  have hsz1 := h1.hB
  obtain ⟨bg, hbg⟩ : ∃ bg, bg = c1.bg := ⟨_, rfl⟩
  have HP0 : Hid (BldP w.heap.size w bg (.slice (some ⟨w1.heap.size, 0, none⟩) 2 2) 2 1 none (w1.alloc (.cells #[.int .u32 0, .int .u32 1] 25))) := by
    have hb : Below w1.heap.size w1 (w1.alloc (.cells #[.int .u32 0, .int .u32 1] 25)) := (Below.refl _ _).alloc (Nat.le_refl _) _
    refine ⟨c1, [(0, 0)], [0, 1], w1.heap.size, 2, rfl, hbg.symm, h1.below hb, ?_, rfl, Nat.le_refl _, ?_, fun ho => ?_, hsz1, fun y hy => by cases hy⟩
    · intro x hx; simp at hx; rcases hx with rfl | rfl <;> decide
    · exact RowV.made (n := 2) (C := #[.int .u32 0, .int .u32 1]) (by omega) rfl fun j hj => by rcases (show j = 0 ∨ j = 1 by omega) with rfl | rfl <;> rfl
    · have := h1.at_.lt ho; omega
  rw [← hbg]
  clear hNw h1 hbg t1 t2 t3 t4 hv0 hv1
  go_wp2_with fail
  go_loopw [8, 7, 9, 10] (fun i v _ _ wr => ∃ k : Nat, i = .int .i64 (k : Int) ∧ k ≤ N ∧ Hid (BldP w.heap.size w bg v (2 + k) (1 + k) none wr)) (fun i _ _ _ _ => N - (intOf i).toNat)
  case atStart => exact ⟨0, rfl, Nat.zero_le _, HP0⟩
  case round =>
    clear HP0
    obtain ⟨k, rfl, hk, HP⟩ := hrel
    by_cases hlt : k < N
    · have tk : decide ((k : Int) < (N : Int)) = true := decide_eq_true (by omega)
      have tk2 : decide (k < N) = true := decide_eq_true hlt
      obtain ⟨c2, gs, E, g, cap, hC⟩ := HP.out
      obtain rfl := hC.v
      have HC := Lib.hid hC
      have HI : Hid (Calls Try.prog 7 #[.pointer (some ⟨bg, 0, none⟩)] wr fun e w' => ∃ y : Nat, y ≤ 1000 ∧ e = .returned (.tuple #[.int .u32 (y : Int), .int .i64 0]) ∧ BldP w.heap.size w bg (.slice (some ⟨g, 0, none⟩) (2 + k) cap) (2 + k) (1 + (k + 1)) (some y) w') := by
        have hg := hC.gts
        have := hC.lv.input (by omega)
        rw [hC.bg] at this
        refine this.mono ?_
        rintro e w' ⟨rfl, c', hT⟩
        refine ⟨2 * gs.length, by omega, by simp, hC.op (Below.refl _ _) hT (Ex.snoc _ _) (by simp) (by simp; omega)⟩
      clear hC HP HC
      go_wp2_with fail
      refine HI.out.mono ?_
      rintro e w3 ⟨y, hy, rfl, hP3⟩
      obtain ⟨c3, gs3, E3, g3, cap3, hC3⟩ := hP3
      have hv3 := hC3.v
      injection hv3 with e1 e2 e3
      injection e1 with e1
      injection e1 with e1
      subst e1; subst e3
      have HSL : Hid (SlV 25 1 (w3.alloc (.cells #[.int .u32 (y : Int)] 25)) (some ⟨g, 0, none⟩) (2 + k) cap (numF .u32 E3)) := .inr ⟨g, rfl, hC3.row.alloc _⟩
      have HF : Hid (∀ w4 g4 c4, RowV 25 1 w4 g4 (2 + k + 1) c4 (appV (numF .u32 E3) (2 + k) [.int .u32 (y : Int)]) → (onB (some ⟨g, 0, none⟩) g4 ∨ (w3.alloc (.cells #[.int .u32 (y : Int)] 25)).heap.size ≤ g4) → Kf (fun j => onB (some ⟨g, 0, none⟩) j) (w3.alloc (.cells #[.int .u32 (y : Int)] 25)) w4 →
          BldP w.heap.size w bg (.slice (some ⟨g4, 0, none⟩) (2 + k + 1) c4) (2 + (k + 1)) (1 + (k + 1)) none w4) := fun w4 g4 c4 a1 a2 a3 => hC3.push a1 a2 a3
      clear hC3 HI
      go_wp2_with (at_builtin; refine wpList_append_sl _ rfl _ _ 46 25 rfl Try.underlying46 info_edge rfl (by decide) (by decide) (some ⟨g, 0, none⟩) (2 + k) cap (numF .u32 E3) rfl HSL.out (by omega) ⟨w3.heap.size, 0, none⟩ 1 1 [.int .u32 (y : Int)] rfl rfl (box_news w3 25 _) (by simp [Value.oneCell']) (by omega) (by omega) ?_)
      intro g4 c4 w4 hr4 hg4 hk4
      have HN := Lib.hid (HF.out w4 g4 c4 (by simpa using hr4) (by rcases hg4 with e | e; exact .inl e; exact .inr (by simpa using e)) (hk4 _ fun j hj => hj))
      clear hr4 hg4 hk4 HF HSL
      go_wp2_with fail
      go_roundw
      case rel => exact ⟨k + 1, by go_num, by omega, HN⟩
      case measure => simp [intOf]; omega
    · have tk : decide ((k : Int) < (N : Int)) = false := decide_eq_false (by omega)
      have tk2 : decide (k < N) = false := decide_eq_false hlt
      obtain rfl : k = N := by omega
      go_wp2_with fail
      have HP1 := HP
      clear HP
      obtain ⟨wo, rfl⟩ : ∃ wo : World, wo = wr := ⟨_, rfl⟩
      go_loopw [45, 7, 12, 13, 14, 15] (fun i v _ _ _ _ wr => ∃ j : Nat, i = .int .i64 (j : Int) ∧ j ≤ n ∧ Hid (BldP w.heap.size w bg v (2 + k + j) (1 + k + 4 * j) none wr)) (fun i _ _ _ _ _ _ => n - (intOf i).toNat)
      case atStart => exact ⟨0, rfl, Nat.zero_le _, HP1⟩
      case round =>
        clear HP1
        obtain ⟨j, rfl, hj, HP⟩ := hrel
        by_cases hlt2 : j < n
        · have tj : decide ((j : Int) < (n : Int)) = true := decide_eq_true (by omega)
          have tj2 : decide (j < n) = true := decide_eq_true hlt2
          obtain ⟨c2, gs, E, g, cap, hC⟩ := HP.out
          obtain rfl := hC.v
          obtain ⟨b, o, kk, x, y, rfl, hb, d0, d1, d2⟩ := HX.out.below hC.lv.be j hlt2
          obtain ⟨e, he⟩ : ∃ e, e = 2 + k + j := ⟨_, rfl⟩
          have hel := hC.len
          rw [← he] at hC hel
          obtain ⟨qa, hqa⟩ : ∃ q, q = clampZ e x := ⟨_, rfl⟩
          have hqal : qa < e := by rw [hqa]; exact clamp_lt (by omega) _
          have hya : max 0 (min x ((e : Int) - 1)) = (qa : Int) := by rw [hqa]; unfold clampZ; omega
          obtain ⟨qb, hqb⟩ : ∃ q, q = clampZ e y := ⟨_, rfl⟩
          have hqbl : qb < e := by rw [hqb]; exact clamp_lt (by omega) _
          have hyb : max 0 (min y ((e : Int) - 1)) = (qb : Int) := by rw [hqb]; unfold clampZ; omega
          have tq : decide ((e : Int) ≤ (qa : Int)) = false := decide_eq_false (by omega)
          have tq2 : decide (e ≤ qa) = false := decide_eq_false (by omega)
          have tr : decide ((e : Int) ≤ (qb : Int)) = false := decide_eq_false (by omega)
          have tr2 : decide (e ≤ qb) = false := decide_eq_false (by omega)
          have ia := in_get hC.inn (j := qa) (by omega)
          have ib := in_get hC.inn (j := qb) (by omega)
          have hgt := hC.gts
          obtain ⟨W1, hW1⟩ : ∃ W1, W1 = wr.alloc (.cells #[.int .i64 kk, .int .i64 x, .int .i64 y] 78) := ⟨_, rfl⟩
          have hb1 : Below wr.heap.size wr W1 := by rw [hW1]; exact (Below.refl _ _).alloc (Nat.le_refl _) _
          have HC1 := Lib.hid (hC.below hb1)
          have x0 : W1.cell? ⟨wr.heap.size, 0, none⟩ = some (.int .i64 kk) := by rw [hW1, Lib.cell_of_heap (blk_new wr _)]; rfl
          have x1 : W1.cell? ⟨wr.heap.size, 1, none⟩ = some (.int .i64 x) := by rw [hW1, Lib.cell_of_heap (blk_new wr _)]; rfl
          have x2 : W1.cell? ⟨wr.heap.size, 2, none⟩ = some (.int .i64 y) := by rw [hW1, Lib.cell_of_heap (blk_new wr _)]; rfl
          have x3 : W1.cell? ⟨g, qa, none⟩ = some (.int .u32 ((E.getD qa 0 : Nat) : Int)) := HC1.out.row.cell (by omega)
          have x4 : W1.cell? ⟨g, qb, none⟩ = some (.int .u32 ((E.getD qb 0 : Nat) : Int)) := HC1.out.row.cell (by omega)
          have hxo := xor_one (a := E.getD qb 0) (by omega)
          -- what is made, in any later world
          have HOP : Hid (∀ W, Below W1.heap.size W1 W →
              (Calls Try.prog 22 #[.pointer (some ⟨bg, 0, none⟩), .slice (some ⟨W.heap.size, 0, none⟩) 2 2] (W.alloc (.cells #[.int .u32 ((E.getD qa 0 : Nat) : Int), .int .u32 ((turnE (E.getD qb 0) : Nat) : Int)] 25)) fun r w' => ∃ z : Nat, r = .returned (.tuple #[.int .u32 (z : Int), .int .i64 0]) ∧ BldP w.heap.size w bg (.slice (some ⟨g, 0, none⟩) e cap) e (1 + k + 4 * (j + 1)) (some z) w') ∧
              (Calls Try.prog 28 #[.pointer (some ⟨bg, 0, none⟩), .slice (some ⟨W.heap.size, 0, none⟩) 2 2] (W.alloc (.cells #[.int .u32 ((E.getD qa 0 : Nat) : Int), .int .u32 ((E.getD qb 0 : Nat) : Int)] 25)) fun r w' => ∃ z : Nat, r = .returned (.tuple #[.int .u32 (z : Int), .int .i64 0]) ∧ BldP w.heap.size w bg (.slice (some ⟨g, 0, none⟩) e cap) e (1 + k + 4 * (j + 1)) (some z) w') ∧
              (Calls Try.prog 29 #[.pointer (some ⟨bg, 0, none⟩), .int .u32 ((E.getD qa 0 : Nat) : Int), .int .u32 ((E.getD qb 0 : Nat) : Int)] W fun r w' => ∃ z : Nat, r = .returned (.tuple #[.int .u32 (z : Int), .int .i64 0]) ∧ BldP w.heap.size w bg (.slice (some ⟨g, 0, none⟩) e cap) e (1 + k + 4 * (j + 1)) (some z) w')) := fun W hW => by
            have hC2 := HC1.out.below hW
            have hin1 : AllIn gs [E.getD qa 0, turnE (E.getD qb 0)] := by
              intro z hz
              simp only [List.mem_cons, List.not_mem_nil, or_false] at hz
              rcases hz with rfl | rfl
              · exact ia
              · rw [turn_div]; exact ib
            have hin2 : AllIn gs [E.getD qa 0, E.getD qb 0] := by
              intro z hz
              simp only [List.mem_cons, List.not_mem_nil, or_false] at hz
              rcases hz with rfl | rfl
              · exact ia
              · exact ib
            have hal : ∀ l : List Nat, Below W.heap.size W (W.alloc (.cells (l.map fun x : Nat => Value.int .u32 (x : Int)).toArray 25)) := fun l => (Below.refl _ _).alloc (Nat.le_refl _) _
            refine ⟨?_, ?_, ?_⟩
            · have hm := and_made hC2.lv.wf hin1
              have hh := (hC2.below (hal [E.getD qa 0, turnE (E.getD qb 0)])).lv.and (some ⟨W.heap.size, 0, none⟩) 2 2 _ (rdn_made .u32 W 25 [E.getD qa 0, turnE (E.getD qb 0)]) hC2.lv.fresh hin1 (by omega)
              rw [hC2.bg] at hh
              refine hh.mono ?_
              rintro r w' ⟨rfl, c', hT⟩
              have hl := hm.len
              simp only [List.length_cons, List.length_nil] at hl
              exact ⟨_, rfl, hC2.op (hal _) hT hm.ex hm.lt (by omega)⟩
            · have hm := or_made hC2.lv.wf hin2
              have hh := (hC2.below (hal [E.getD qa 0, E.getD qb 0])).lv.or (some ⟨W.heap.size, 0, none⟩) 2 2 _ (rdn_made .u32 W 25 [E.getD qa 0, E.getD qb 0]) hin2 (by omega)
              rw [hC2.bg] at hh
              refine hh.mono ?_
              rintro r w' ⟨rfl, c', hT⟩
              have hl := hm.len
              simp only [List.length_cons, List.length_nil] at hl
              exact ⟨_, rfl, hC2.op (hal _) hT hm.ex hm.lt (by omega)⟩
            · have hm := if_made hC2.lv.wf ia ib (b := turnE (E.getD qb 0)) (by rw [turn_div]; exact ib)
              have hh := hC2.lv.same_ _ _ ia ib (by omega)
              rw [hC2.bg] at hh
              refine hh.mono ?_
              rintro r w' ⟨rfl, c', hT⟩
              exact ⟨_, rfl, hC2.op (Below.refl _ _) hT hm.ex hm.lt (Nat.le_trans hm.len (by omega))⟩
          have HDR : Hid (∀ z, Below W1.heap.size W1 (W1.drewN z)) := fun z => below_drewN (Below.refl _ _) z
          have HEE := Lib.hid he
          have he9 : e ≤ 1000 := by omega
          obtain ⟨bx, hbx⟩ : ∃ bx, bx = wr.heap.size := ⟨_, rfl⟩
          rw [← hbx] at x0 x1 x2
          generalize E.getD qa 0 = a at *
          generalize E.getD qb 0 = bb at *
          have hxo2 : bits .xor .u32 (bb : Int) 1 = ((turnE bb : Nat) : Int) := hxo
          clear hC hel ia ib hqa hqb hgt hb1 hxo HC1 HP
          rw [← he]
          go_upto_region 13 with (fail)
          rw [← hW1, ← hbx]
          clear hW1 hbx he
          go_quiet (fail)
          rename_i nq
          obtain ⟨o1, o2, o3⟩ := HOP.out _ (HDR.out nq)
          have HO1 := Lib.hid o1
          have HO2 := Lib.hid o2
          have HO3 := Lib.hid o3
          clear o1 o2 o3 HOP HDR x1 x2 x3 x4 d0 d1 d2 hya hyb tq tq2 tr tr2
          have HPUSH : Hid (∀ (z : Nat) (w3 : World), BldP w.heap.size w bg (.slice (some ⟨g, 0, none⟩) e cap) e (1 + k + 4 * (j + 1)) (some z) w3 → ∃ E3, Hid (SlV 25 1 (w3.alloc (.cells #[.int .u32 (z : Int)] 25)) (some ⟨g, 0, none⟩) e cap (numF .u32 E3)) ∧
              Hid (∀ w4 g4 c4, RowV 25 1 w4 g4 (e + 1) c4 (appV (numF .u32 E3) e [.int .u32 (z : Int)]) → (onB (some ⟨g, 0, none⟩) g4 ∨ (w3.alloc (.cells #[.int .u32 (z : Int)] 25)).heap.size ≤ g4) → Kf (fun j => onB (some ⟨g, 0, none⟩) j) (w3.alloc (.cells #[.int .u32 (z : Int)] 25)) w4 →
                BldP w.heap.size w bg (.slice (some ⟨g4, 0, none⟩) (e + 1) c4) (2 + k + (j + 1)) (1 + k + 4 * (j + 1)) none w4)) := fun z w3 hP3 => by
            obtain ⟨c3, gs3, E3, g3, cap3, hC3⟩ := hP3
            have hv3 := hC3.v
            injection hv3 with e1 e2 e3
            injection e1 with e1
            injection e1 with e1
            subst e1; subst e3
            refine ⟨E3, .inr ⟨g, rfl, hC3.row.alloc _⟩, fun w4 g4 c4 a1 a2 a3 => ?_⟩
            have := hC3.push a1 a2 a3
            rw [show 2 + k + (j + 1) = e + 1 by have := HEE.out; omega]
            exact this
          by_cases k0 : kk = 0
          · have tk0 : (kk == 0) = true := by rw [beq_iff_eq]; exact k0
            clear HO2 HO3
            go_wp2_with fail
            refine HO1.out.mono ?_
            rintro r w3 ⟨z, rfl, hP3⟩
            obtain ⟨E3, HSL, HF⟩ := HPUSH.out z w3 hP3
            clear hP3 HPUSH HO1 x0 hxo2
            go_wp2_with (at_builtin; refine wpList_append_sl _ rfl _ _ 46 25 rfl Try.underlying46 info_edge rfl (by decide) (by decide) (some ⟨g, 0, none⟩) e cap (numF .u32 E3) rfl HSL.out (by omega) ⟨w3.heap.size, 0, none⟩ 1 1 [.int .u32 (z : Int)] rfl rfl (box_news w3 25 _) (by simp [Value.oneCell']) (by omega) (by omega) ?_)
            intro g4 c4 w4 hr4 hg4 hk4
            have HN := Lib.hid (HF.out w4 g4 c4 (by simpa using hr4) (by rcases hg4 with e1 | e1; exact .inl e1; exact .inr (by simpa using e1)) (hk4 _ fun j hj => hj))
            clear hr4 hg4 hk4 HF HSL
            go_wp2_with fail
            go_roundw
            case rel => exact ⟨j + 1, by go_num, by omega, HN⟩
            case measure => simp [intOf]; omega
          · have tk0 : (kk == 0) = false := by rw [beq_eq_false_iff_ne]; exact k0
            by_cases k1 : kk = 1
            · have tk1 : (kk == 1) = true := by rw [beq_iff_eq]; exact k1
              clear HO1 HO3
              go_wp2_with fail
              refine HO2.out.mono ?_
              rintro r w3 ⟨z, rfl, hP3⟩
              obtain ⟨E3, HSL, HF⟩ := HPUSH.out z w3 hP3
              clear hP3 HPUSH HO2 x0 hxo2
              go_wp2_with (at_builtin; refine wpList_append_sl _ rfl _ _ 46 25 rfl Try.underlying46 info_edge rfl (by decide) (by decide) (some ⟨g, 0, none⟩) e cap (numF .u32 E3) rfl HSL.out (by omega) ⟨w3.heap.size, 0, none⟩ 1 1 [.int .u32 (z : Int)] rfl rfl (box_news w3 25 _) (by simp [Value.oneCell']) (by omega) (by omega) ?_)
              intro g4 c4 w4 hr4 hg4 hk4
              have HN := Lib.hid (HF.out w4 g4 c4 (by simpa using hr4) (by rcases hg4 with e1 | e1; exact .inl e1; exact .inr (by simpa using e1)) (hk4 _ fun j hj => hj))
              clear hr4 hg4 hk4 HF HSL
              go_wp2_with fail
              go_roundw
              case rel => exact ⟨j + 1, by go_num, by omega, HN⟩
              case measure => simp [intOf]; omega
            · have tk1 : (kk == 1) = false := by rw [beq_eq_false_iff_ne]; exact k1
              clear HO1 HO2
              go_wp2_with fail
              refine HO3.out.mono ?_
              rintro r w3 ⟨z, rfl, hP3⟩
              obtain ⟨E3, HSL, HF⟩ := HPUSH.out z w3 hP3
              clear hP3 HPUSH HO3 x0 hxo2
              go_wp2_with (at_builtin; refine wpList_append_sl _ rfl _ _ 46 25 rfl Try.underlying46 info_edge rfl (by decide) (by decide) (some ⟨g, 0, none⟩) e cap (numF .u32 E3) rfl HSL.out (by omega) ⟨w3.heap.size, 0, none⟩ 1 1 [.int .u32 (z : Int)] rfl rfl (box_news w3 25 _) (by simp [Value.oneCell']) (by omega) (by omega) ?_)
              intro g4 c4 w4 hr4 hg4 hk4
              have HN := Lib.hid (HF.out w4 g4 c4 (by simpa using hr4) (by rcases hg4 with e1 | e1; exact .inl e1; exact .inr (by simpa using e1)) (hk4 _ fun j hj => hj))
              clear hr4 hg4 hk4 HF HSL
              go_wp2_with fail
              go_roundw
              case rel => exact ⟨j + 1, by go_num, by omega, HN⟩
              case measure => simp [intOf]; omega
        · have tj : decide ((j : Int) < (n : Int)) = false := decide_eq_false (by omega)
          have tj2 : decide (j < n) = false := decide_eq_false hlt2
          obtain rfl : j = n := by omega
          obtain ⟨c2, gs, E, g, cap, hC⟩ := HP.out
          obtain rfl := hC.v
          have HE : Hid (BuildTo w (.returned (.tuple #[.pointer (some ⟨bg, 0, none⟩), .slice (some ⟨g, 0, none⟩) (2 + k + j) cap])) wr) := ⟨bg, c2, gs, E, g, cap, 2 + k + j, 1 + k + 4 * j, rfl, hC, by omega, by omega, by omega⟩
          clear hC HP
          generalize 2 + k + j = e at *
          go_wp2_with fail
          go_ret2
          exact .inr HE.out
end Go.Proofs.Ytmiifhclcknhdaa
