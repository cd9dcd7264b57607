/- WatchRuns is true: the statement Rows.WatchRunsSaid, without a condition. -/
import Derived.Test.YtdecejhobefefaaWrO
import Derived.Test.YtdecejhobefefaaELive
import Derived.Test.YtdecejhobefefaaRows
import Derived.Deep.RegionWith
import Derived.Deep.Slices
import Derived.Deep.Fields
import Derived.Deep.CutBlock
import Derived.ChangeSame
import Derived.Lib.QuietBelow
namespace Go.Proofs.Ytdecejhobefefaa.WRuns
open Go.ChangeShapes Go.WideShapes Go.ChangeAt Go.RowKit LitM TrailM EngM

/-- append(x, y...) of a slice that may be nil to a row of the call's own. -/
theorem wpList_append_src {P : Program} {ops : Array Oper} {rest : List Oper} {o : Oper} {a : Act} {Q : Exit → Act → World → Prop} (w : World) (hgd : o.guard = none) (s x : Operand) (t e : TypeId)
    (ho : o.op = .call { callee := .builtin .append, args := #[s, x], argTypes := #[t, t] }) (ht : P.underlying t = some (.slice e)) {z : Value} {size bytes : Nat}
    (hinfo : (P.info? e).map (fun i => (i.zero, i.size, i.bytes)) = some (some z, size, bytes)) (hzs : z.cells.size = size) (hsz : 0 < size) (hby : bytes ≤ 1000)
    (g n c : Nat) (f : Nat → Value) (hs : a.eval s = .slice (some ⟨g, 0, none⟩) n c) (hrow : RowV e size w g n c f) (hn : n ≤ 100000)
    (A : Option Addr) (m c' : Nat) (f2 : Nat → Value) (hx : a.eval x = .slice A m c') (hsrc : SlV e size w A m c' f2) (h1 : ∀ j, j < m * size → (f2 j).oneCell' = true) (hm : m ≤ 100000)
    (h : ∀ g' c' w', RowV e size w' g' (n + m) c' (appV f (n * size) (cellsV f2 (m * size))) → (g' = g ∨ w.heap.size ≤ g') → Kf (fun k => k = g) w w' → wpList P ops Q rest (a.put o.dst (.slice (some ⟨g', 0, none⟩) (n + m) c')) w') :
    wpList P ops Q (o :: rest) a w :=
  wpList_plain hgd fun K hK => by
    have h2 := step_append_src (ops := ops) (K := K) (Q := Q) (E := False) w hgd s x t e ho ht hinfo hzs hsz hby g n c f hs hrow hn A m c' f2 hx hsrc h1 hm (fun g' c' w' p1 p2 p3 => hK _ _ (h g' c' w' p1 p2 p3))
    have hw : Region.wanted o (yielded ops a.tmps) = true := by simp [Region.wanted, hgd]
    rw [if_pos hw] at h2
    exact h2

theorem info_bl : (Try.prog.info? 4).map (fun i => (i.zero, i.size, i.bytes)) = some (some (.bool false), 1, 1) := by kernel_rfl
/-- An act's box. -/
structure BA (w : World) (q : Pm) (ba : Nat) (k : Int) (Aj : Option Addr) (m cj : Nat) (y : Int) : Prop where
  hh : w.heap[ba]? = some (.cells #[.int .i64 k, .slice Aj m cj, .int .i64 y] 33 (0, 0))
  own : q.own ba = .no
theorem BA.ext {w w' : World} {q q' : Pm} {ba m cj : Nat} {k y : Int} {Aj : Option Addr} (h : BA w q ba k Aj m cj y) (hx : Ext q q' w w') : BA w' q' ba k Aj m cj y := by
  have hb := hx.blk (lt_of_heap h.hh) h.own
  exact ⟨by rw [hb.1]; exact h.hh, hb.2⟩
theorem BA.below {w w' : World} {q : Pm} {ba m cj : Nat} {k y : Int} {Aj : Option Addr} (h : BA w q ba k Aj m cj y) (hb : Below w.heap.size w w') : BA w' q ba k Aj m cj y := ⟨by rw [hb.block ba (lt_of_heap h.hh)]; exact h.hh, h.own⟩
theorem BA.c {w : World} {q : Pm} {ba m cj : Nat} {k y : Int} {Aj : Option Addr} (h : BA w q ba k Aj m cj y) : w.cell? ⟨ba, 0, none⟩ = some (.int .i64 k) ∧ w.cell? ⟨ba, 1, none⟩ = some (.slice Aj m cj) ∧ w.cell? ⟨ba, 2, none⟩ = some (.int .i64 y) := ⟨by rw [Lib.cell_of_heap h.hh]; rfl, by rw [Lib.cell_of_heap h.hh]; rfl, by rw [Lib.cell_of_heap h.hh]; rfl⟩
/-- The record's box. -/
def CB (w : World) (bw n : Nat) (A1 : Option Addr) (l1 c1 : Nat) (A2 : Option Addr) (l2 c2 : Nat) (A3 : Option Addr) (l3 c3 : Nat) : Prop :=
  w.cell? ⟨bw, 0, none⟩ = some (.int .i64 (n : Int)) ∧ w.cell? ⟨bw, 1, none⟩ = some (.slice A1 l1 c1) ∧ w.cell? ⟨bw, 2, none⟩ = some (.slice A2 l2 c2) ∧ w.cell? ⟨bw, 3, none⟩ = some (.slice A3 l3 c3) ∧ ∀ j, w.frozen? ⟨bw, j, none⟩ = false
theorem cb_of {w : World} {bw n : Nat} {A1 A2 A3 : Option Addr} {l1 c1 l2 c2 l3 c3 : Nat} (hh : w.heap[bw]? = some (.cells #[.int .i64 (n : Int), .slice A1 l1 c1, .slice A2 l2 c2, .slice A3 l3 c3] 31 (0, 0))) : CB w bw n A1 l1 c1 A2 l2 c2 A3 l3 c3 :=
  ⟨by rw [Lib.cell_of_heap hh]; rfl, by rw [Lib.cell_of_heap hh]; rfl, by rw [Lib.cell_of_heap hh]; rfl, by rw [Lib.cell_of_heap hh]; rfl, fun j => Lib.frozen_of_heap hh j⟩
/-- How much there is. -/
structure Lim (j : Nat) (S : Eng) (dec : List Int) : Prop where
  n : S.n ≤ 20 + j
  cs : S.cs.length ≤ j
  le : S.le.length ≤ j
theorem Lim.more {j : Nat} {S : Eng} {dec : List Int} (h : Lim j S dec) : Lim (j + 1) S dec := ⟨by have := h.n; omega, by have := h.cs; omega, by have := h.le; omega⟩
/-- Behind an act. -/
def Aft (B : Nat) (w0 : World) (bw b j : Nat) (bv : Value) (wx : World) : Prop :=
  ∃ (br : Bool) (S : Eng) (q : Pm) (all : List (List Int)) (pres : List Bool) (dec : List Int), bv = .bool br ∧ WZ B w0 wx bw b S.n S q all pres dec ∧ Rec S all pres dec ∧ Lim (j + 1) S dec
theorem rdg_rows {w : World} {q : Pm} {B bw c : Nat} {A : Option Addr} {all : List (List Int)} (h : AllZ w q B bw A c all) : RdG w A all.length all := by
  refine ⟨rfl, fun j hj => ?_⟩
  obtain ⟨f, hf, he⟩ := h.row
  obtain ⟨g, rfl, hr⟩ := hf.row (by omega)
  obtain ⟨A', c', e1, e2, _⟩ := he j hj
  have hb := e2.bd
  refine ⟨g, 0, A', c', rfl, ?_, hb.1, hb.2, SlV.rd e2 rfl⟩
  rw [Nat.zero_add, hr.cell (show j < all.length * 1 by omega), e1]
theorem prop_done2 {S : Eng} (hI : Inv S) : Done (propF S).1 (propF S).2 := (inv_prop hI).2.2
theorem decE_n (S : Eng) (l : Int) : (decE S l).n = S.n ∧ (decE S l).cs = S.cs ∧ (decE S l).le.length ≤ S.le.length + 1 := by
  unfold decE decideF
  split
  · exact ⟨rfl, rfl, by simp⟩
  · exact ⟨rfl, rfl, by omega⟩
theorem prop_lim {S : Eng} {dec : List Int} {j : Nat} (hI : Inv S) (h : Lim j S dec) : Lim j (propF S).1 dec ∧ (propF S).1.n = S.n := by
  obtain ⟨_, k, _⟩ := inv_prop hI
  have e1 : (propF S).1.cs.length = S.cs.length := k.cs
  have e2 : (propF S).1.le.length = S.le.length := k.le
  have e3 : (propF S).1.n = S.n := k.n
  exact ⟨⟨by rw [e3]; exact h.n, by rw [e1]; exact h.cs, by rw [e2]; exact h.le⟩, e3⟩
section
variable {B b bw : Nat} {w0 w w1 : World} {S : Eng} {q : Pm} {A1 A2 A3 : Option Addr} {c1 c2 c3 : Nat} {all : List (List Int)} {pres : List Bool} {dec : List Int}
theorem box_set {k : Nat} {v x0 x1 x2 x3 : Value} {C' : Array Value} (hs : Sg B w0 w b S q) (ho : q.own bw = .no) (hb : B ≤ bw) (hh : w.heap[bw]? = some (.cells #[x0, x1, x2, x3] 31 (0, 0))) (hc : (#[x0, x1, x2, x3] : Array Value).set! k v = C') (hz : ZP w q B bw A1 c1 A2 c2 A3 c3 all pres dec) :
    Sg B w0 (w.setCell ⟨bw, k, none⟩ v) b S q ∧ (w.setCell ⟨bw, k, none⟩ v).heap[bw]? = some (.cells C' 31 (0, 0)) ∧ ZP (w.setCell ⟨bw, k, none⟩ v) q B bw A1 c1 A2 c2 A3 c3 all pres dec := by
  have hk : Kf (fun i => i = bw) w (w.setCell ⟨bw, k, none⟩ v) := (Kf.refl (fun i => i = bw) w).set (p := ⟨bw, k, none⟩) (.inl rfl) _
  exact ⟨hs.kept hk (fun i hi => by rw [hi]; exact ⟨ho, hb⟩), by rw [Lib.heap_setCell_same hh, ← hc]; rfl, hz.keep fun i hi hoi hne => ⟨hk.block i hi hne, hoi⟩⟩
theorem app1_all {o : Obj} (hs : Sg B w0 w b S q) (hl : bw < w.heap.size) (hh : w.heap[bw]? = some o) (hz : ZP w q B bw A1 c1 A2 c2 A3 c3 all pres dec) {f : Nat → Value} (hf : SlV 29 1 w A1 all.length c1 f)
    (hj : ∀ j, j < all.length → ∃ A' c', f j = .slice A' (all.getD j []).length c' ∧ SlV 43 1 w A' (all.getD j []).length c' (lsC (all.getD j [])) ∧ ∀ i, onB A' i → q.own i = .no ∧ B ≤ i ∧ i ≠ bw)
    {Ay : Option Addr} {cy g c' : Nat} {ys : List Int} (hy : SlV 43 1 w Ay ys.length cy (lsC ys)) (hyo : Apt q B bw Ay)
    (hr : RowV 29 1 w1 g (all.length + 1) c' (appV f (all.length * 1) [.slice Ay ys.length cy])) (hg : onB A1 g ∨ (w.alloc (.cells #[.slice Ay ys.length cy] 29)).heap.size ≤ g) (hk : ∀ B : Nat → Prop, (∀ j, onB A1 j → B j) → Kf B (w.alloc (.cells #[.slice Ay ys.length cy] 29)) w1) :
    Sg B w0 w1 b S q ∧ w1.heap[bw]? = some o ∧ ZP w1 q B bw (some ⟨g, 0, none⟩) c' A2 c2 A3 c3 (all ++ [ys]) pres dec := by
  have hb := (Below.refl w.heap.size w).alloc (Nat.le_refl _) (.cells #[.slice Ay ys.length cy] 29)
  have hk' := hk (fun i => onB A1 i) (fun i hi => hi)
  have hlA : bw < (w.alloc (.cells #[.slice Ay ys.length cy] 29)).heap.size := by simp; omega
  refine ⟨(hs.below hb).kept hk' (fun i hi => ⟨(hz.al.out i hi).1, (hz.al.out i hi).2.1⟩), ?_, ?_⟩
  · rw [hk'.block bw hlA (fun e => (hz.al.out bw e).2.2 rfl), hb.block bw hl]; exact hh
  · refine (hz.keep fun i hi ho _ => ⟨hb.block i hi, ho⟩).app1 (hs.below hb) hlA (hf.alloc _) (fun j hj' => ?_) (hy.alloc _) hyo hr hg hk'
    obtain ⟨A', c', e1, e2, e3⟩ := hj j hj'
    exact ⟨A', c', e1, e2.alloc _, e3⟩
theorem app2_all {o : Obj} (hs : Sg B w0 w b S q) (hl : bw < w.heap.size) (hh : w.heap[bw]? = some o) (hz : ZP w q B bw A1 c1 A2 c2 A3 c3 all pres dec) {v : Bool} {g c' : Nat}
    (hr : RowV 4 1 w1 g (pres.length + 1) c' (appV (blC pres) (pres.length * 1) [.bool v])) (hg : onB A2 g ∨ (w.alloc (.cells #[.bool v] 4)).heap.size ≤ g) (hk : ∀ B : Nat → Prop, (∀ j, onB A2 j → B j) → Kf B (w.alloc (.cells #[.bool v] 4)) w1) :
    Sg B w0 w1 b S q ∧ w1.heap[bw]? = some o ∧ ZP w1 q B bw A1 c1 (some ⟨g, 0, none⟩) c' A3 c3 all (pres ++ [v]) dec := by
  have hb := (Below.refl w.heap.size w).alloc (Nat.le_refl _) (.cells #[.bool v] 4)
  have hk' := hk (fun i => onB A2 i) (fun i hi => hi)
  have hlA : bw < (w.alloc (.cells #[.bool v] 4)).heap.size := by simp; omega
  refine ⟨(hs.below hb).kept hk' (fun i hi => ⟨(hz.po i hi).1, (hz.po i hi).2.1⟩), ?_, (hz.keep fun i hi ho _ => ⟨hb.block i hi, ho⟩).app2 (hs.below hb) hlA hr hg hk'⟩
  rw [hk'.block bw hlA (fun e => (hz.po bw e).2.2 rfl), hb.block bw hl]; exact hh
end
/-- What a Decide answers. -/
theorem dec_cases {S : Eng} {l : Int} : (fitsB S.n [l] = false ∧ eErr S l = 51 ∧ decE S l = S) ∨ (fitsB S.n [l] = true ∧ eErr S l = 42 ∧ valZ S.L l ≠ 0 ∧ decE S l = S) ∨ (fitsB S.n [l] = true ∧ eErr S l = 0 ∧ valZ S.L l = 0 ∧ decE S l = decideF S l) := by
  have hfb : fitsB S.n [l] = (LitM.one l && decide (varZ l ≤ (S.n : Int))) := by unfold fitsB; simp
  rcases errZ_cases S.n S.L l with ⟨h, e⟩ | ⟨h, e⟩ | ⟨h1, k, h2, _, h4, h5, e⟩
  · refine .inl ⟨?_, by unfold eErr; rw [if_pos e], by unfold decE; rw [if_neg (by rw [e]; decide)]⟩
    rw [hfb]
    rcases h with h | h
    · rw [h]; rfl
    · rw [decide_eq_false (by omega), Bool.and_false]
  · by_cases hf : LitM.one l = false ∨ (S.n : Int) < varZ l
    · exfalso
      unfold errZ at e
      rw [if_pos hf] at e; omega
    · refine .inr (.inl ⟨?_, by unfold eErr; rw [e]; rfl, ?_, by unfold decE; rw [if_neg (by rw [e]; decide)]⟩)
      · rw [hfb]
        have h1 : LitM.one l = true := by cases h : LitM.one l; exact absurd (.inl h) hf; rfl
        rw [h1, decide_eq_true (by omega)]; rfl
      · unfold valZ
        cases hx : findE S.L (varZ l) with
        | none => rw [hx] at h; cases h
        | some x => dsimp only; split <;> omega
  · refine .inr (.inr ⟨?_, by unfold eErr; rw [e]; rfl, by unfold valZ; rw [h5], by unfold decE; rw [if_pos e]⟩)
    rw [hfb, h1, decide_eq_true (by omega)]; rfl
set_option maxHeartbeats 25600000 in
set_option maxRecDepth 100000 in
theorem walk (vars : Int) (A : Option Addr) (n c : Nat) (K : Nat → Int) (C : Nat → List Int) (Y : Nat → Int) (w : World) (hx : RdA w w.heap.size A n K C Y) :
    Calls Try.prog 3 #[.int .i64 vars, .slice A n c] w fun e w' => e = .returned (.bool true) ∧ Below w.heap.size w w' := by
  have HX := Lib.hid hx
  clear hx
  go_enter Try.func3, Try.ntmps3
  go_wp2_with fail
  refine (walive_any w).mono ?_
  rintro e w1 ⟨rfl, hb1⟩
  by_cases hv0 : vars < 0
  · have t1 : decide (vars < 0) = true := decide_eq_true hv0
    go_wp2_with fail
    go_ret
    exact ⟨rfl, hb1⟩
  have t1 : decide (vars < 0) = false := decide_eq_false hv0
  by_cases hv1 : 20 < vars
  · have t2 : decide (20 < vars) = true := decide_eq_true hv1
    go_wp2_with fail
    go_ret
    exact ⟨rfl, hb1⟩
  have t2 : decide (20 < vars) = false := decide_eq_false hv1
  have HG := Lib.hid (great_any (c := c) w1 ((HX.out.below hb1).more hb1.size))
  have HB1 := Lib.hid hb1
  clear hb1
  go_wp2_with fail
  refine HG.out.mono ?_
  rintro e w2 ⟨hb2, hg⟩
  have HB2 : Hid (Below w.heap.size w w2) := HB1.out.trans (hb2.mono HB1.out.size)
  clear hb2 HG
  rcases hg with rfl | ⟨rfl, hn60, hC20⟩
  · go_wp2_with fail
    go_ret
    exact ⟨rfl, HB2.out⟩
  have HC20 := Lib.hid hC20
  have HBW : Hid (∀ W, Below w2.heap.size w2 W → Below w.heap.size w W) := fun W hW => HB2.out.trans (hW.mono HB2.out.size)
  have HXW : Hid (∀ W, Below w2.heap.size w2 W → RdA W w.heap.size A n K C Y) := fun W hW => HX.out.below (HBW.out W hW)
  have HWS : Hid (w.heap.size ≤ w2.heap.size) := HB2.out.size
  obtain ⟨N, rfl⟩ : ∃ N : Nat, vars = (N : Int) := ⟨vars.toNat, by omega⟩
  have hN : N ≤ 20 := by omega
  have HN := Lib.hid (enew_any (N : Int) w2 (by omega))
  clear hC20 HB1 HX hv0 hv1 t1 t2
  go_wp2_with fail
  refine HN.out.mono ?_
  intro e w3 hm
  rw [Int.toNat_natCast] at hm
  obtain ⟨b, q0, rfl, hsg, _⟩ := Sg.make hm (by omega) (Below.refl w2.heap.size w2) (Nat.le_refl _)
  have HWZ : Hid (WZ w2.heap.size w2 (w3.alloc (.cells #[.int .i64 (N : Int), .slice none 0 0, .slice none 0 0, .slice none 0 0] 31)) w3.heap.size b N (newE N) q0 [] [] []) := by
    have hb := (Below.refl w3.heap.size w3).alloc (Nat.le_refl _) (.cells #[.int .i64 (N : Int), .slice none 0 0, .slice none 0 0, .slice none 0 0] 31)
    exact ⟨hsg.below hb, hsg.fresh (Nat.le_refl _), hsg.hs, none, 0, none, 0, none, 0, blk_new w3 _, ⟨⟨⟨fun _ => .int .i64 0, SlV.nil _ _ _ _, fun j hj => by simp at hj⟩, fun i hi => absurd hi (onB_none i)⟩, SlV.nil _ _ _ _, Apt.nil _ _ _, SlV.nil _ _ _ _, Apt.nil _ _ _⟩⟩
  clear hm hsg HN
  go_upto_region 7 with (fail)
  obtain ⟨bw, hbw⟩ : ∃ bw, bw = w3.heap.size := ⟨_, rfl⟩
  obtain ⟨w4, hw4⟩ : ∃ w4, w4 = w3.alloc (.cells #[.int .i64 (N : Int), .slice none 0 0, .slice none 0 0, .slice none 0 0] 31) := ⟨_, rfl⟩
  rw [← hw4, ← hbw]
  rw [← hw4, ← hbw] at HWZ
  clear hw4 hbw
  have HRC : Hid (Rec (newE N) [] [] []) := rec_new N
  have HLI : Hid (Lim 0 (newE N) []) := ⟨by show N ≤ 20 + 0; omega, by simp [newE], by simp [newE]⟩
  go_wp2_with fail
  go_loopw [7, 45] (fun bv iv wr => ∃ (j : Nat) (br : Bool) (S : Eng) (q : Pm) (all : List (List Int)) (pres : List Bool) (dec : List Int), bv = .bool br ∧ iv = .int .i64 (j : Int) ∧ j ≤ n ∧ Hid (WZ w2.heap.size w2 wr bw b S.n S q all pres dec) ∧ Hid (Rec S all pres dec) ∧ Hid (Lim j S dec)) (fun _ iv _ => n - (intOf iv).toNat)
  case atStart => exact ⟨0, false, newE N, q0, [], [], [], rfl, rfl, by omega, HWZ, HRC, HLI⟩
  case round =>
    as_aux_lemma =>
    clear HWZ HRC HLI
    obtain ⟨j, br, S, q, all, pres, dec, rfl, rfl, hj, hW, hR, hL⟩ := hrel
    by_cases hlt : j < n
    case neg =>
      have tj : decide (j < n) = false := decide_eq_false hlt
      have tj2 : decide ((j : Int) < (n : Int)) = false := decide_eq_false (by omega)
      go_wp2_with fail
      go_ret
      exact ⟨rfl, HBW.out _ hW.out.sg.out⟩
    have tj : decide (j < n) = true := decide_eq_true hlt
    have tj2 : decide ((j : Int) < (n : Int)) = true := decide_eq_true (by omega)
    obtain ⟨bx, o, Aj, cj, rfl, hbx, x0, x1, x2, hrd, h32, hlm⟩ := (HXW.out _ hW.out.sg.out).at_ j hlt
    have hl20 := HC20.out j hlt
    have HRD : Hid (∀ W, Below w2.heap.size w2 W → Rd .i32 W W.heap.size Aj (C j).length (C j)) := fun W hW' => by
      obtain ⟨bx', o', Aj', cj', e', hbx', y0, y1, y2, hrd', _⟩ := (HXW.out W hW').at_ j hlt
      injection e' with e'
      injection e' with e1 e2
      subst e1; subst e2
      have h1 := (HXW.out w2 (Below.refl _ _)).at_ j hlt
      obtain ⟨b3, o3, A3', c3', e3, hb3, z0, z1, z2, _⟩ := h1
      injection e3 with e3
      injection e3 with e4 e5
      subst e4; subst e5
      have p1 := (hW.out.sg.out.cell (p := ⟨bx, o + j * 3 + 1, none⟩) (Nat.lt_of_lt_of_le hb3 HWS.out)).trans z1
      have p2 := (hW'.cell (p := ⟨bx, o + j * 3 + 1, none⟩) (Nat.lt_of_lt_of_le hb3 HWS.out)).trans z1
      rw [x1] at p1
      rw [y1] at p2
      rw [← p1] at p2
      injection p2 with p2
      injection p2 with p3 p4 p5
      subst p3
      exact hrd'.more (Nat.le_trans HWS.out hW'.size)
    have H32 := Lib.hid h32
    generalize C j = ls at *
    generalize K j = kk at *
    generalize Y j = y at *
    have HLS : Hid (∀ m, m = ls.length → m ≤ 20) := fun m hm => by omega
    obtain ⟨m, hm⟩ : ∃ m, m = ls.length := ⟨_, rfl⟩
    have hm20 := HLS.out m hm
    rw [← hm] at x1 HRD
    have HM := Lib.hid hm
    have HBA : Hid (BA (wr.alloc (.cells #[.int .i64 kk, .slice Aj m cj, .int .i64 y] 33)) q wr.heap.size kk Aj m cj y) := ⟨blk_new wr _, hW.out.sg.fresh (Nat.le_refl _)⟩
    have HW1 : Hid (WZ w2.heap.size w2 (wr.alloc (.cells #[.int .i64 kk, .slice Aj m cj, .int .i64 y] 33)) bw b S.n S q all pres dec) := hW.out.below ((Below.refl _ _).alloc (Nat.le_refl _) _)
    clear hrd h32 hlm hl20 hm hbx
    go_upto_region 11 with (fail)
    obtain ⟨ba, hba⟩ : ∃ ba, ba = wr.heap.size := ⟨_, rfl⟩
    obtain ⟨wa, hwa⟩ : ∃ wa, wa = wr.alloc (.cells #[.int .i64 kk, .slice Aj m cj, .int .i64 y] 33) := ⟨_, rfl⟩
    rw [← hwa, ← hba]
    rw [← hwa, ← hba] at HBA
    rw [← hwa] at HW1
    clear hwa hba hW x0 x1 x2
    obtain ⟨a0, a1, a2⟩ := HBA.out.c
    have hln := hL.out.n
    have hlc := hL.out.cs
    have hll := hL.out.le
    have e0 := HW1.out.sg.eng.h0
    go_upto_block 2 with (fail)
    go_cut [7] (fun bv wx => Hid (Aft w2.heap.size w2 bw b j bv wx))
    case first =>
      as_aux_lemma =>
      obtain ⟨A1, c1, A2, c2, A3, c3, hh, hz⟩ := HW1.out.mem
      have HH := Lib.hid hh
      have HZ := Lib.hid hz
      have hcb := cb_of hh
      obtain ⟨k0, k1, k2, k3, kf⟩ := hcb
      have HBB : Hid (∀ (w' : World) (q' : Pm) (S' : Eng), Sg w2.heap.size w2 w' b S' q' → Ext q q' wa w' → w'.heap[bw]? = some (.cells #[.int .i64 (S.n : Int), .slice A1 all.length c1, .slice A2 pres.length c2, .slice A3 dec.length c3] 31 (0, 0)) ∧ q'.own bw = .no ∧ ZP w' q' w2.heap.size bw A1 c1 A2 c2 A3 c3 all pres dec ∧ BA w' q' ba kk Aj m cj y) := fun w' q' S' hs hx => by
        have hb := hx.blk HW1.out.lt HW1.out.own
        exact ⟨by rw [hb.1]; exact HH.out, hb.2, HZ.out.keep fun i hi ho _ => hx.blk hi ho, HBA.out.ext hx⟩
      have HLA : Hid (all.length = S.cs.length) := hR.out.al
      have HLP : Hid (pres.length = S.cs.length) := hR.out.pl
      have HLD : Hid (dec.length = S.le.length) := hR.out.dl
      have la1 : all.length ≤ 60 := by have := hR.out.al; omega
      have lp1 : pres.length ≤ 60 := by have := hR.out.pl; omega
      have ld1 : dec.length ≤ 60 := by have := hR.out.dl; omega
      clear hh hz
      by_cases q0 : kk = 0
      · as_aux_lemma =>
        subst q0
        cases br with
        | true =>
          go_wp2_with fail
          go_roundw
          case rel => exact ⟨j + 1, true, S, q, all, pres, dec, by first | rfl | trivial, by go_num, by omega, HW1, hR, hL.out.more⟩
          case measure => simp [intOf]; omega
        | false =>
          have HAd := Lib.hid (HW1.out.sg.add (by omega) Aj m cj ls (HRD.out _ HW1.out.sg.out) H32.out (by omega))
          have HFi : Hid (∀ W, Below w2.heap.size w2 W → Calls Try.prog 13 #[.agg #[.int .i64 (S.n : Int), .slice A1 all.length c1, .slice A2 pres.length c2, .slice A3 dec.length c3], .slice Aj m cj] W fun e w' => e = .returned (.bool (fitsB S.n ls)) ∧ Below W.heap.size W w') := fun W hW => rfits_any W (HRD.out W hW) H32.out (by omega)
          go_wp2_with fail
          refine HAd.out.mono ?_
          rintro e w5 ⟨S5, q5, hA, hs, hx⟩
          obtain ⟨hh5, ho5, hz5, hba5⟩ := HBB.out w5 q5 _ hs hx
          obtain ⟨u0, u1, u2, u3, uf⟩ := cb_of hh5
          obtain ⟨v0, v1, v2⟩ := hba5.c
          have HS5 := Lib.hid hs
          have HFi5 := Lib.hid (HFi.out w5 hs.out)
          have HW5 : Hid (WZ w2.heap.size w2 w5 bw b S.n S5 q5 all pres dec) := ⟨hs, ho5, HW1.out.hb, A1, c1, A2, c2, A3, c3, hh5, hz5⟩
          have HBA5 := Lib.hid hba5
          clear hs hx hh5 ho5 hz5 hba5 HAd HFi k0 k1 k2 k3 kf a0 a1 a2 e0
          rcases hA with ⟨hf, rfl, rfl⟩ | ⟨hf, rfl, ys, hcl, hS5⟩
          · rw [hf] at HFi5
            clear hf
            go_wp2_with fail
            refine HFi5.out.mono ?_
            rintro e w6 ⟨rfl, hb6⟩
            have HW6 := Lib.hid (HW5.out.below hb6)
            clear hb6 HFi5
            go_wp2_with fail
            go_roundw
            case rel => exact ⟨j + 1, false, S5, q5, all, pres, dec, by first | rfl | trivial, by go_num, by omega, HW6, hR, hL.out.more⟩
            case measure => simp [intOf]; omega
          · have hfx := hf
            rw [hf] at HFi5
            rw [show (S.cs.length : Int) = (all.length : Int) by rw [HLA.out]]
            have HCLn := Lib.hid hcl
            have HSE := Lib.hid hS5
            have hone : ∀ x ∈ ls, LitM.one x = true ∧ varZ x ≤ (S.n : Int) := fitsB_iff.1 hfx
            have HONE := Lib.hid hone
            have hyl : ys.length ≤ 20 := by have := clean_le hcl; have := HM.out; omega
            have hyf : ∀ x ∈ ys, LitM.one x = true ∧ varZ x ≤ (S.n : Int) := fun x hx => hone x ((hcl.2 x).1 hx)
            have HR5 : Hid (Rec S5 (all ++ [ys]) (pres ++ [true]) dec) := by rw [hS5]; exact rec_add hR.out _ hyl hyf
            have HN5 : Hid (S5.n = S.n) := by rw [hS5]; rfl
            have HL5 : Hid (Lim (j + 1) S5 dec) := by
              rw [hS5]
              refine ⟨by show S.n ≤ _; omega, ?_, by show S.le.length ≤ _; omega⟩
              show (S.cs ++ [_]).length ≤ _
              rw [List.length_append]
              show S.cs.length + 1 ≤ _
              omega
            have HTH : Hid (thereB S5 (all.length : Int) = true ∧ clsL S5 (all.length : Int) = ys) := by
              have hc : clA S5.cs S.cs.length = ⟨true, ys, 0, 0, 0⟩ := by
                rw [hS5]
                show clA (S.cs ++ [_]) _ = _
                unfold clA
                simp
              have hl : S5.cs.length = S.cs.length + 1 := by rw [hS5]; show (S.cs ++ [_]).length = _; simp
              have ht : thereB S5 (all.length : Int) = true := by
                unfold thereB
                rw [HLA.out]
                simp only [Bool.and_eq_true, decide_eq_true_eq]
                exact ⟨⟨by omega, by omega⟩, by rw [Int.toNat_natCast, hc]⟩
              exact ⟨ht, by unfold clsL; rw [if_pos ht, HLA.out, Int.toNat_natCast, hc]⟩
            have HYL : Hid (∀ k, k = ys.length → k ≤ 20) := fun k hk => by omega
            clear hf hfx hcl hS5 hone hyf
            go_wp2_with fail
            refine HFi5.out.mono ?_
            rintro e w6 ⟨rfl, hb6⟩
            have HW6 := Lib.hid (HW5.out.below hb6)
            have hba6 := HBA5.out.below hb6
            obtain ⟨v0', v1', v2'⟩ := hba6.c
            have HBA6 := Lib.hid hba6
            have HC6 := Lib.hid (rclean_yes Aj m cj ls w6 (HRD.out _ HW6.out.sg.out) (by omega) (List.all_eq_true.2 fun x hx => (HONE.out x hx).1))
            clear hb6 hba6 HFi5 HW5 HBA5 HS5 u0 u1 u2 u3 uf v0 v1 v2
            go_wp2_with fail
            refine HC6.out.mono ?_
            rintro e w7 ⟨v7, ys2, rfl, hown, hcl2, hb7⟩
            obtain rfl : ys2 = ys := hcl2.unique HCLn.out
            obtain ⟨A7, c7, rfl, hsl7, hon7⟩ := hown.sl
            have HW7 := Lib.hid (HW6.out.below hb7)
            have HSL7 : Hid (SlV 43 1 w7 A7 ys2.length c7 (lsC ys2) ∧ Apt q5 w2.heap.size bw A7) := ⟨hsl7, fun i hi => by
              have h1 := hon7 i hi
              have h2 := HW6.out.lt
              have h3 := HW6.out.sg.hs
              exact ⟨HW6.out.sg.fresh h1, by omega, by omega⟩⟩
            have HCls := Lib.hid (clause_u HW7.out.sg.eng HW7.out.sg.inv.small (all.length : Int))
            rw [HTH.out.1, HTH.out.2] at HCls
            clear hown hcl2 hb7 hsl7 hon7 HC6 HW6 v0' v1' v2' HBA6
            go_wp2_with fail
            refine HCls.out.mono ?_
            rintro e w8 ⟨A8, c8, rfl, hsl8, _, hb8⟩
            have HW8 := Lib.hid (HW7.out.below hb8)
            have HSL8 : Hid (SlV 43 1 w8 A7 ys2.length c7 (lsC ys2) ∧ Apt q5 w2.heap.size bw A7) := ⟨HSL7.out.1.below hb8, HSL7.out.2⟩
            obtain ⟨B1, d1, B2, d2, B3, d3, hh8, hz8⟩ := HW8.out.mem
            obtain ⟨u0, u1, u2, u3, uf⟩ := cb_of hh8
            have HH8 := Lib.hid hh8
            have HZ8 := Lib.hid hz8
            have HSm := Lib.hid (same_any A8 A7 ys2.length c8 ys2.length c7 ys2 ys2 w8 _ (SlV.rd hsl8 rfl) (SlV.rd HSL8.out.1 rfl) (by omega) (by omega))
            rw [show sameB ys2 ys2 = true from (sameB_iff _ _).2 rfl] at HSm
            clear hsl8 hb8 hh8 hz8 HCls HW7 HSL7
            go_wp2_with fail
            refine HSm.out.mono ?_
            rintro e w9 ⟨rfl, r9, hr9⟩
            have hb9 : Below w8.heap.size w8 w9 := by rw [hr9]; exact ⟨rfl, rfl, rfl, Nat.le_refl _, fun _ _ => rfl⟩
            have HS9 := Lib.hid (HW8.out.sg.below hb9)
            have HO9 := Lib.hid HW8.out.own
            have HH9 : Hid (w9.heap[bw]? = some (.cells #[.int .i64 (S.n : Int), .slice B1 all.length d1, .slice B2 pres.length d2, .slice B3 dec.length d3] 31 (0, 0))) := by rw [hr9]; exact HH8.out
            have HZ9 : Hid (ZP w9 q5 w2.heap.size bw B1 d1 B2 d2 B3 d3 all pres dec) := HZ8.out.keep fun i hi ho _ => ⟨hb9.block i hi, ho⟩
            have HSL9 : Hid (SlV 43 1 w9 A7 ys2.length c7 (lsC ys2) ∧ Apt q5 w2.heap.size bw A7) := ⟨HSL8.out.1.below hb9, HSL8.out.2⟩
            obtain ⟨u0', u1', u2', u3', uf'⟩ := cb_of HH9.out
            clear hr9 hb9 HSm HW8 HSL8 HH8 HZ8 u0 u1 u2 u3 uf
            obtain ⟨f9, hf9, hj9⟩ := HZ9.out.al.row
            have HF9 := Lib.hid hf9
            have HJ9 := Lib.hid hj9
            clear hf9 hj9
            go_wp2_with (at_builtin; refine wpList_append_sl _ rfl _ _ 27 29 rfl Try.underlying27 info_rrow rfl (by decide) (by decide) B1 all.length d1 f9 rfl (SlV.alloc HF9.out _) (by omega) ⟨w9.heap.size, 0, none⟩ 1 1 [.slice A7 ys2.length c7] rfl rfl (box_news w9 29 [.slice A7 ys2.length c7]) (by intro u hu; simp at hu; subst hu; rfl) (by decide) (by decide) ?_)
            intro g1 e1 w10 hr10 hg10 hk10
            have hlt9 : bw < w9.heap.size := lt_of_heap HH9.out
            obtain ⟨hs10, hh10, hz10⟩ := app1_all HS9.out hlt9 HH9.out HZ9.out HF9.out HJ9.out HSL9.out.1 HSL9.out.2 (by simpa using hr10) (by first | exact hg10 | simpa using hg10) hk10
            obtain ⟨hs11, hh11, hz11⟩ := box_set (k := 1) (v := .slice (some ⟨g1, 0, none⟩) (all.length + 1) e1) hs10 HO9.out HW1.out.hb hh10 rfl hz10
            have HS11 := Lib.hid hs11
            have HH11 := Lib.hid hh11
            have HZ11 := Lib.hid hz11
            obtain ⟨p0, p1, p2, p3, pf⟩ := cb_of hh10
            clear hr10 hg10 hk10 hs10 hh10 hz10 hs11 hh11 hz11 HF9 HJ9 HZ9 HSL9 u0' u1' u2' u3' uf'
            go_upto_region 23 with (fail)
            obtain ⟨w11, hw11⟩ : ∃ w11, w11 = w10.setCell ⟨bw, 1, none⟩ (.slice (some ⟨g1, 0, none⟩) (all.length + 1) e1) := ⟨_, rfl⟩
            rw [← hw11]
            rw [← hw11] at HS11 HH11 HZ11
            clear hw11 p0 p1 p2 p3 pf
            have hh11 : w11.heap[bw]? = some (.cells #[.int .i64 (S.n : Int), .slice (some ⟨g1, 0, none⟩) (all.length + 1) e1, .slice B2 pres.length d2, .slice B3 dec.length d3] 31 (0, 0)) := HH11.out
            obtain ⟨p0, p1, p2, p3, pf⟩ := cb_of hh11
            have HPR := Lib.hid HZ11.out.pr
            clear hh11
            go_wp2_with (at_builtin; refine wpList_append_sl _ rfl _ _ 28 4 rfl Try.underlying28 info_bl rfl (by decide) (by decide) B2 pres.length d2 (blC pres) rfl (SlV.alloc HPR.out _) (by omega) ⟨w11.heap.size, 0, none⟩ 1 1 [.bool true] rfl rfl (box_news w11 4 [.bool true]) (by intro u hu; simp at hu; subst hu; rfl) (by decide) (by decide) ?_)
            intro g2 e2 w12 hr12 hg12 hk12
            have hlt11 : bw < w11.heap.size := lt_of_heap HH11.out
            obtain ⟨hs12, hh12, hz12⟩ := app2_all HS11.out hlt11 HH11.out HZ11.out (by simpa using hr12) (by first | exact hg12 | simpa using hg12) hk12
            have hla : (all ++ [ys2]).length = all.length + 1 := by simp
            have hlp : (pres ++ [true]).length = pres.length + 1 := by simp
            have HE : Hid (Aft w2.heap.size w2 bw b j (.bool false) (w12.setCell ⟨bw, 2, none⟩ (.slice (some ⟨g2, 0, none⟩) (pres.length + 1) e2))) := by
              refine ⟨false, S5, q5, all ++ [ys2], pres ++ [true], dec, rfl, wz_store hs12 HO9.out HW1.out.hb hh12 hz12 ?_, HR5.out, HL5.out⟩
              rw [hla, hlp, HN5.out]; rfl
            obtain ⟨r0, r1, r2, r3, rf⟩ := cb_of (show w12.heap[bw]? = some (.cells #[.int .i64 (S.n : Int), .slice (some ⟨g1, 0, none⟩) (all.length + 1) e1, .slice B2 pres.length d2, .slice B3 dec.length d3] 31 (0, 0)) from hh12)
            clear hr12 hg12 hk12 hs12 hh12 hz12 hla hlp p0 p1 p2 p3 pf HPR
            go_wp2_with fail
            go_meet
            exact HE.out
      by_cases q1 : kk = 1
      · as_aux_lemma =>
        subst q1
        clear q0
        obtain ⟨l, hl⟩ : ∃ l, l = wrap32 y := ⟨_, rfl⟩
        have hlb : -2147483648 ≤ l ∧ l ≤ 2147483647 := by rw [hl]; unfold wrap32; omega
        go_upto_region 26 with (fail)
        rw [← hl]
        clear hl
        cases br with
        | true =>
          go_wp2_with fail
          go_roundw
          case rel => exact ⟨j + 1, true, S, q, all, pres, dec, by first | rfl | trivial, by go_num, by omega, HW1, hR, hL.out.more⟩
          case measure => simp [intOf]; omega
        | false =>
          have HVa := Lib.hid (HW1.out.sg.asks.2.1 l hlb.1 hlb.2)
          have HDe := Lib.hid (HW1.out.sg.decide l hlb.1 hlb.2)
          have HFi : Hid (∀ W : World, Calls Try.prog 13 #[.agg #[.int .i64 (S.n : Int), .slice A1 all.length c1, .slice A2 pres.length c2, .slice A3 dec.length c3], .slice (some ⟨W.heap.size, 0, none⟩) 1 1] (W.alloc (.cells #[.int .i32 l] 43)) fun e w' => e = .returned (.bool (fitsB S.n [l])) ∧ Below W.heap.size W w') := fun W => by
            have hrd : Rd .i32 (W.alloc (.cells #[.int .i32 l] 43)) (W.alloc (.cells #[.int .i32 l] 43)).heap.size (some ⟨W.heap.size, 0, none⟩) 1 [l] := ⟨rfl, fun _ => ⟨W.heap.size, 0, rfl, by simp, fun i hi => by
              obtain rfl : i = 0 := by omega
              rw [Lib.cell_of_heap (blk_new W _)]; rfl⟩⟩
            have hb := (Below.refl W.heap.size W).alloc (Nat.le_refl _) (.cells #[.int .i32 l] 43)
            exact (rfits_any (n := S.n) _ hrd (In32.of (by simpa using hlb)) (by omega)).mono fun e w' ⟨h1, h2⟩ => ⟨h1, hb.trans (h2.mono hb.size)⟩
          have hval : valZ S.L l = 0 ∨ valZ S.L l ≠ 0 := by omega
          rcases dec_cases (S := S) (l := l) with ⟨f1, f2, f3⟩ | ⟨f1, f2, f4, f3⟩ | ⟨f1, f2, f4, f3⟩
          · rw [f1] at HFi
            rw [f2] at HDe
            rw [f3] at HDe
            clear f1 f2 f3 hval
            generalize valZ S.L l = z at *
            go_wp2_with fail
            refine HVa.out.mono ?_
            rintro e w' ⟨rfl, rfl⟩
            go_wp2_with fail
            refine HDe.out.mono ?_
            rintro e w5 ⟨rfl, q5, hs, hx⟩
            obtain ⟨hh5, ho5, hz5, _⟩ := HBB.out w5 q5 _ hs hx
            obtain ⟨u0, u1, u2, u3, uf⟩ := cb_of hh5
            have HW5 : Hid (WZ w2.heap.size w2 w5 bw b S.n S q5 all pres dec) := ⟨hs, ho5, HW1.out.hb, A1, c1, A2, c2, A3, c3, hh5, hz5⟩
            clear hs hx hh5 ho5 hz5 HDe HVa k0 k1 k2 k3 kf a0 a1 a2 e0
            go_wp2_with fail
            refine (HFi.out w5).mono ?_
            rintro e w6 ⟨rfl, hb6⟩
            have HE : Hid (Aft w2.heap.size w2 bw b j (.bool false) w6) := ⟨false, S, q5, all, pres, dec, rfl, HW5.out.below hb6, hR.out, hL.out.more⟩
            clear hb6 HFi u0 u1 u2 u3 uf
            go_wp2_with fail
            go_meet
            exact HE.out
          · have tz : (valZ S.L l != 0) = true := by simpa using f4
            rw [f1] at HFi
            rw [f2] at HDe
            rw [f3] at HDe
            clear f1 f2 f3 f4 hval
            generalize valZ S.L l = z at *
            go_wp2_with fail
            refine HVa.out.mono ?_
            rintro e w' ⟨rfl, rfl⟩
            go_wp2_with fail
            refine HDe.out.mono ?_
            rintro e w5 ⟨rfl, q5, hs, hx⟩
            obtain ⟨hh5, ho5, hz5, _⟩ := HBB.out w5 q5 _ hs hx
            obtain ⟨u0, u1, u2, u3, uf⟩ := cb_of hh5
            have HW5 : Hid (WZ w2.heap.size w2 w5 bw b S.n S q5 all pres dec) := ⟨hs, ho5, HW1.out.hb, A1, c1, A2, c2, A3, c3, hh5, hz5⟩
            clear hs hx hh5 ho5 hz5 HDe HVa k0 k1 k2 k3 kf a0 a1 a2 e0
            go_wp2_with fail
            refine (HFi.out w5).mono ?_
            rintro e w6 ⟨rfl, hb6⟩
            have HE : Hid (Aft w2.heap.size w2 bw b j (.bool false) w6) := ⟨false, S, q5, all, pres, dec, rfl, HW5.out.below hb6, hR.out, hL.out.more⟩
            clear hb6 HFi u0 u1 u2 u3 uf
            go_wp2_with fail
            go_meet
            exact HE.out
          · rw [f4] at HVa
            rw [f1] at HFi
            rw [f2] at HDe
            rw [f3] at HDe
            clear f1 f2 f3 f4 hval
            go_wp2_with fail
            refine HVa.out.mono ?_
            rintro e w' ⟨rfl, rfl⟩
            go_wp2_with fail
            refine HDe.out.mono ?_
            rintro e w5 ⟨rfl, q5, hs, hx⟩
            obtain ⟨hh5, ho5, hz5, _⟩ := HBB.out w5 q5 _ hs hx
            obtain ⟨u0, u1, u2, u3, uf⟩ := cb_of hh5
            have HS5 := Lib.hid hs
            have HH5 := Lib.hid hh5
            have HO5 := Lib.hid ho5
            have HZ5 := Lib.hid hz5
            clear hs hx hh5 ho5 hz5 HDe HVa k0 k1 k2 k3 kf a0 a1 a2 e0
            go_wp2_with fail
            refine (HFi.out w5).mono ?_
            rintro e w6 ⟨rfl, hb6⟩
            have HS6 := Lib.hid (HS5.out.below hb6)
            have hh6 : w6.heap[bw]? = some (.cells #[.int .i64 (S.n : Int), .slice A1 all.length c1, .slice A2 pres.length c2, .slice A3 dec.length c3] 31 (0, 0)) := (hb6.block bw (lt_of_heap HH5.out)).trans HH5.out
            have HH6 := Lib.hid hh6
            have HZ6 : Hid (ZP w6 q5 w2.heap.size bw A1 c1 A2 c2 A3 c3 all pres dec) := HZ5.out.keep fun i hi ho _ => ⟨hb6.block i hi, ho⟩
            obtain ⟨p0, p1, p2, p3, pf⟩ := cb_of hh6
            have HSRC : Hid (SlV 43 1 (w6.alloc (.cells #[] 43)) A3 dec.length c3 (lsC dec)) := HZ6.out.de.alloc _
            have HR0 : Hid (RowV 43 1 (w6.alloc (.cells #[] 43)) w6.heap.size 0 0 (fun _ => .int .i64 0)) := RowV.made (by omega) rfl (fun j hj => by omega)
            have p3a : (w6.alloc (.cells #[] 43)).cell? ⟨bw, 3, none⟩ = some (.slice A3 dec.length c3) := by rw [World.cell?_alloc_lt w6 _ _ (lt_of_heap HH6.out)]; exact p3
            have hlt6 : bw < w6.heap.size := lt_of_heap HH6.out
            clear hb6 hh6 HFi u0 u1 u2 u3 uf HS5 HH5 HZ5
            go_wp2_with (at_builtin; go_loud (refine wpList_append_src _ rfl _ _ 29 43 rfl Try.underlying29 info_tlit rfl (by decide) (by decide) w6.heap.size 0 0 (fun _ => .int .i64 0) rfl HR0.out (by omega) A3 dec.length c3 _ rfl HSRC.out (fun j _ => rfl) (by omega) ?_))
            intro g7 e7 w7 hr7 hg7 hk7
            have HG7 : Hid (w6.heap.size ≤ g7) := by
              rcases hg7 with e | e
              · exact Nat.le_of_eq e.symm
              · have : (w6.alloc (.cells #[] 43)).heap.size = w6.heap.size + 1 := by simp
                unfold Hid; omega
            have HB7 : Hid (Below w6.heap.size w6 w7) := by
              have h1 : Below w6.heap.size w6 (w6.alloc (.cells #[] 43)) := (Below.refl _ _).alloc (Nat.le_refl _) _
              exact h1.trans (hk7.below h1.size (fun i hi => by rw [hi]; exact Nat.le_refl _))
            have HROW7 : Hid (RowV 43 1 w7 g7 dec.length e7 (lsC dec)) := by
              have h1 : RowV 43 1 w7 g7 dec.length e7 (appV (fun _ => .int .i64 0) 0 (cellsV (lsC dec) dec.length)) := by simpa using hr7
              exact h1.congr fun i hi => by
                unfold appV
                rw [if_neg (by omega), Nat.sub_zero, List.getD, cellsV_get _ (show i < dec.length by omega)]; rfl
            have HSL7 : Hid (SlV 43 1 (w7.alloc (.cells #[.int .i32 l] 43)) (some ⟨g7, 0, none⟩) dec.length e7 (lsC dec)) := .inr ⟨g7, rfl, HROW7.out.alloc _⟩
            have hh7 : w7.heap[bw]? = some (.cells #[.int .i64 (S.n : Int), .slice A1 all.length c1, .slice A2 pres.length c2, .slice A3 dec.length c3] 31 (0, 0)) := (HB7.out.block bw (lt_of_heap HH6.out)).trans HH6.out
            obtain ⟨v0, v1, v2, v3, vf⟩ := cb_of hh7
            clear hr7 hg7 hk7 hh7 HR0 HSRC p0 p1 p2 p3 p3a hlt6 pf
            go_wp2_with (at_builtin; refine wpList_append_sl _ rfl _ _ 29 43 rfl Try.underlying29 info_tlit rfl (by decide) (by decide) (some ⟨g7, 0, none⟩) dec.length e7 (lsC dec) rfl HSL7.out (by omega) ⟨w7.heap.size, 0, none⟩ 1 1 [.int .i32 l] rfl rfl (box_news w7 43 [.int .i32 l]) (by intro u hu; simp at hu; subst hu; rfl) (by decide) (by decide) ?_)
            intro g8 e8 w8 hr8 hg8 hk8
            have HG8 : Hid (w6.heap.size ≤ g8) := by
              rcases hg8 with e | e
              · rw [onB_some] at e
                have e : g8 = g7 := e
                rw [e]; exact HG7.out
              · have h1 : (w7.alloc (.cells #[.int .i32 l] 43)).heap.size = w7.heap.size + 1 := by simp
                have h2 := HB7.out.size
                unfold Hid; omega
            have HB8 : Hid (Below w6.heap.size w6 w8) := by
              have h1 : Below w6.heap.size w6 (w7.alloc (.cells #[.int .i32 l] 43)) := HB7.out.alloc HB7.out.size _
              exact h1.trans ((hk8 (fun i => onB (some ⟨g7, 0, none⟩) i) (fun i hi => hi)).below h1.size (fun i hi => by
                rw [onB_some] at hi
                rw [hi]; exact HG7.out))
            have hh8 : w8.heap[bw]? = some (.cells #[.int .i64 (S.n : Int), .slice A1 all.length c1, .slice A2 pres.length c2, .slice A3 dec.length c3] 31 (0, 0)) := (HB8.out.block bw (lt_of_heap HH6.out)).trans HH6.out
            have hld : (dec ++ [l]).length = dec.length + 1 := by simp
            have HE : Hid (Aft w2.heap.size w2 bw b j (.bool false) (w8.setCell ⟨bw, 3, none⟩ (.slice (some ⟨g8, 0, none⟩) (dec.length + 1) e8))) := by
              have hz8 : ZP w8 q5 w2.heap.size bw A1 c1 A2 c2 A3 c3 all pres dec := HZ6.out.keep fun i hi ho _ => ⟨HB8.out.block i hi, ho⟩
              have hrow : RowV 43 1 w8 g8 (dec.length + 1) e8 (lsC (dec ++ [l])) := hr8.congr fun i hi => by
                unfold appV lsC
                by_cases e : i < dec.length
                · rw [if_pos (by omega), List.getD, List.getD, List.getElem?_append_left e]
                · obtain rfl : i = dec.length := by omega
                  rw [if_neg (by omega)]; simp
              have hdl := HLD.out
              refine ⟨false, decideF S l, q5, all, pres, dec ++ [l], rfl, wz_store (HS6.out.below HB8.out) HO5.out HW1.out.hb hh8 (A1 := A1) (A2 := A2) (A3 := some ⟨g8, 0, none⟩) (c1 := c1) (c2 := c2) (c3 := e8) ⟨hz8.al, hz8.pr, hz8.po, .inr ⟨g8, rfl, by rw [hld]; exact hrow⟩, Apt.new HS6.out (lt_of_heap HH6.out) HG8.out⟩ ?_, rec_decide hR.out HW1.out.sg.inv.pre l, ⟨by show S.n ≤ _; omega, by show S.cs.length ≤ _; omega, ?_⟩⟩
              · rw [hld]; rfl
              · show (S.le ++ [_]).length ≤ _
                rw [List.length_append]
                show S.le.length + 1 ≤ _
                omega
            obtain ⟨r0, r1, r2, r3, rf⟩ := cb_of hh8
            clear hr8 hg8 hk8 hh8 hld v0 v1 v2 v3 vf HSL7 HROW7
            go_wp2_with fail
            go_meet
            exact HE.out
      by_cases q2 : kk = 2
      · as_aux_lemma =>
        subst q2
        clear q0 q1
        cases br with
        | true =>
          go_wp2_with fail
          go_roundw
          case rel => exact ⟨j + 1, true, S, q, all, pres, dec, by first | rfl | trivial, by go_num, by omega, HW1, hR, hL.out.more⟩
          case measure => simp [intOf]; omega
        | false =>
          have HP := Lib.hid (HW1.out.sg.prop (by omega))
          have hlim := prop_lim HW1.out.sg.inv hL.out
          have HRp := Lib.hid (rec_prop HW1.out.sg.inv hR.out)
          have HDn := Lib.hid (prop_done2 HW1.out.sg.inv)
          have HLp := Lib.hid hlim.1
          have HNp := Lib.hid hlim.2
          clear hlim
          go_wp2_with fail
          refine HP.out.mono ?_
          rintro e w5 ⟨rfl, q5, hs, hx⟩
          obtain ⟨hh5, ho5, hz5, _⟩ := HBB.out w5 q5 _ hs hx
          have HS5 := Lib.hid hs
          have HH5 := Lib.hid hh5
          have HO5 := Lib.hid ho5
          have HZ5 := Lib.hid hz5
          obtain ⟨u0, u1, u2, u3, _⟩ := cb_of hh5
          generalize propF S = P at *
          obtain ⟨S5, id⟩ := P
          simp only [] at HS5 HRp HDn HLp HNp ⊢
          have HCl := Lib.hid (closed_any HS5.out HRp.out (rdg_rows HZ5.out.al) HZ5.out.pr (by rw [HLP.out, HLA.out]) (by omega) (SlV.rd HZ5.out.de rfl) (by omega) (by rw [HNp.out]; omega) HDn.out (c1 := c1) (c3 := c3))
          rw [HNp.out] at HCl
          clear hs hx hh5 ho5 hz5 HP k0 k1 k2 k3 kf a0 a1 a2 e0
          go_wp2_with fail
          refine HCl.out.mono ?_
          rintro e w6 ⟨rfl, hb6⟩
          have HE : Hid (Aft w2.heap.size w2 bw b j (.bool (decide (0 ≤ id))) w6) := by
            have hw : WZ w2.heap.size w2 w5 bw b S.n S5 q5 all pres dec := ⟨HS5.out, HO5.out, HW1.out.hb, A1, c1, A2, c2, A3, c3, HH5.out, HZ5.out⟩
            have hw6 := hw.below hb6
            rw [← HNp.out] at hw6
            exact ⟨_, S5, q5, all, pres, dec, rfl, hw6, HRp.out, HLp.out.more⟩
          clear hb6 HCl u0 u1 u2 u3
          go_wp2_with fail
          go_meet
          exact HE.out
      by_cases q3 : kk = 3
      · as_aux_lemma =>
        subst q3
        clear q0 q1 q2
        have HBk := Lib.hid (HW1.out.sg.back (by omega) y)
        cases hlv : levB S y with
        | false =>
          rw [hlv] at HBk
          have hy : y < 0 ∨ (dec.length : Int) < y := by
            have := HLD.out
            unfold levB at hlv
            rw [Bool.and_eq_false_iff] at hlv
            rcases hlv with e | e
            · have := of_decide_eq_false e; omega
            · have := of_decide_eq_false e; omega
          go_wp2_with fail
          refine HBk.out.mono ?_
          rintro e w5 ⟨he, q5, hs, hx⟩
          have he : e = .returned (.int .i64 51) := he
          subst he
          have hbe : backE S y = S := by unfold backE; rw [hlv]; rfl
          rw [hbe] at hs
          obtain ⟨hh5, ho5, hz5, hba5⟩ := HBB.out w5 q5 _ hs hx
          obtain ⟨u0, u1, u2, u3, uf⟩ := cb_of hh5
          obtain ⟨v0, v1, v2⟩ := hba5.c
          have HE : Hid (Aft w2.heap.size w2 bw b j (.bool br) w5) := ⟨br, S, q5, all, pres, dec, rfl, ⟨hs, ho5, HW1.out.hb, A1, c1, A2, c2, A3, c3, hh5, hz5⟩, hR.out, hL.out.more⟩
          clear hs hx hbe hh5 ho5 hz5 hba5 HBk k0 k1 k2 k3 kf a0 a1 a2 e0 hlv
          by_cases hy0 : 0 ≤ y
          · have ty0 : decide (0 ≤ y) = true := decide_eq_true hy0
            have ty1 : decide (y ≤ (dec.length : Int)) = false := decide_eq_false (by omega)
            go_wp2_with fail
            go_meet
            exact HE.out
          · have ty0 : decide (0 ≤ y) = false := decide_eq_false hy0
            go_wp2_with fail
            go_meet
            exact HE.out
        | true =>
          rw [hlv] at HBk
          obtain ⟨hy0, hy1⟩ : 0 ≤ y ∧ y ≤ (S.le.length : Int) := by
            unfold levB at hlv
            simp only [Bool.and_eq_true, decide_eq_true_eq] at hlv
            exact hlv
          obtain ⟨k, rfl⟩ := Int.eq_ofNat_of_zero_le hy0
          have hbe : backE S (k : Int) = backF S k := by unfold backE; rw [hlv]; rfl
          rw [hbe] at HBk
          have hkd : k ≤ dec.length := by have := HLD.out; omega
          have hkl : k ≤ S.le.length := by omega
          go_wp2_with fail
          refine HBk.out.mono ?_
          rintro e w5 ⟨he, q5, hs, hx⟩
          have he : e = .returned (.int .i64 0) := he
          subst he
          obtain ⟨hh5, ho5, hz5, hba5⟩ := HBB.out w5 q5 _ hs hx
          obtain ⟨u0, u1, u2, u3, uf⟩ := cb_of hh5
          obtain ⟨v0, v1, v2⟩ := hba5.c
          have hcap := hz5.de.bd
          obtain ⟨hcap1, hcap2⟩ := hcap
          have hkc : k ≤ c3 := by omega
          have HE : Hid (∀ x, Aft w2.heap.size w2 bw b j (.bool x) (w5.setCell ⟨bw, 3, none⟩ (.slice A3 k c3))) := fun x => by
            have hbn := back_n (S := S) k
            have htl : (dec.take k).length = k := by rw [List.length_take]; omega
            refine ⟨x, backF S k, q5, all, pres, dec.take k, rfl, wz_store hs ho5 HW1.out.hb hh5 (A1 := A1) (A2 := A2) (A3 := A3) (c1 := c1) (c2 := c2) (c3 := c3) ⟨hz5.al, hz5.pr, hz5.po, ?_, hz5.ao⟩ ?_, rec_back hR.out HW1.out.sg.inv.pre, ⟨by rw [hbn.1]; omega, by rw [hbn.2]; omega, by rw [back_len hkl]; omega⟩⟩
            · rw [htl]
              rcases hz5.de with ⟨e1, e2, e3⟩ | ⟨g, e1, hr⟩
              · exact .inl ⟨e1, by omega, e3⟩
              · exact .inr ⟨g, e1, (hr.less hkd).congr fun i hi => by unfold lsC; rw [List.getD, List.getD, List.getElem?_take_of_lt (by omega)]⟩
            · rw [htl, hbn.1]; rfl
          clear hs hx hbe hh5 ho5 hz5 hba5 HBk k0 k1 k2 k3 kf a0 a1 a2 e0 hlv
          have tk0 : decide ((0 : Int) ≤ (k : Int)) = true := decide_eq_true (by omega)
          have tk1 : decide ((k : Int) ≤ (dec.length : Int)) = true := decide_eq_true (by omega)
          have tk2 : decide (k ≤ dec.length) = true := decide_eq_true hkd
          cases br with
          | false =>
            go_wp2_with fail
            go_meet
            exact HE.out _
          | true =>
            go_wp2_with fail
            go_meet
            exact HE.out _
      by_cases q4 : kk = 4
      · as_aux_lemma =>
        subst q4
        clear q0 q1 q2 q3
        have HUW : Hid (∀ r, Calls Try.prog 27 #[.pointer (some ⟨q.bt, 0, none⟩)] (wa.drewN r) fun e w' => e = .returned (.int .i64 (S.n : Int)) ∧ w' = wa.drewN r) := fun r =>
          ((HW1.out.sg.below (w' := wa.drewN r) ⟨rfl, rfl, rfl, Nat.le_refl _, fun _ _ => rfl⟩).asks.2.2.2.2.1).mono fun e w' ⟨h1, h2⟩ => ⟨h1, h2.symm⟩
        clear HUW
        go_wp2_with fail
        go_loopw [23, 24] (fun uv xv wl => ∃ (x r : Nat) (u : Bool), uv = .bool u ∧ xv = .int .i64 (x : Int) ∧ 1 ≤ x ∧ x ≤ S.n + 1 ∧ Hid (u = true ↔ ∃ v : Nat, 1 ≤ v ∧ v < x ∧ reaZ S.L (v : Int) = y) ∧ Hid (wl = wa.drewN r)) (fun _ xv _ => S.n + 1 - (intOf xv).toNat)
        case atStart => exact ⟨1, 0, false, rfl, rfl, by omega, by omega, Lib.hid ⟨(fun h => by cases h), (fun ⟨v, h1, h2, _⟩ => by omega)⟩, Lib.hid rfl⟩
        case round =>
          obtain ⟨x, r, u, rfl, rfl, hx1, hx2, hU, hwl⟩ := hrel
          have hbl : Below wa.heap.size wa wr := by rw [hwl.out]; exact ⟨rfl, rfl, rfl, Nat.le_refl _, fun _ _ => rfl⟩
          have HWr := Lib.hid (HW1.out.below hbl)
          have HBr := Lib.hid (HBA.out.below hbl)
          have hhr : wr.heap[bw]? = some (.cells #[.int .i64 (S.n : Int), .slice A1 all.length c1, .slice A2 pres.length c2, .slice A3 dec.length c3] 31 (0, 0)) := (hbl.block bw HW1.out.lt).trans HH.out
          have HHr := Lib.hid hhr
          obtain ⟨u0, u1, u2, u3, uf⟩ := cb_of hhr
          obtain ⟨v0, v1, v2⟩ := HBr.out.c
          have er := HWr.out.sg.eng.h0
          have HDR : Hid (∀ r', ∃ r2, wr.drewN r' = wa.drewN r2) := fun r' => ⟨r + r', by rw [hwl.out, World.drewN_drewN]⟩
          clear hbl hhr hwl k0 k1 k2 k3 kf a0 a1 a2 e0
          by_cases hxn : x ≤ S.n
          · have tx : decide ((x : Int) ≤ (S.n : Int)) = true := decide_eq_true (by omega)
            have tx2 : decide (x ≤ S.n) = true := decide_eq_true hxn
            have HRe : Hid (∀ r', Calls Try.prog 22 #[.pointer (some ⟨q.bt, 0, none⟩), .int .i64 (x : Int)] (wr.drewN r') fun e w' => e = .returned (.int .i64 (reaZ S.L (x : Int))) ∧ w' = wr.drewN r') := fun r' =>
              ((HWr.out.sg.below (w' := wr.drewN r') ⟨rfl, rfl, rfl, Nat.le_refl _, fun _ _ => rfl⟩).asks.2.2.2.1 (x : Int)).mono fun e w' ⟨h1, h2⟩ => ⟨h1, h2.symm⟩
            have HU1 : Hid (u = true → (true = true ↔ ∃ v : Nat, 1 ≤ v ∧ v < x + 1 ∧ reaZ S.L (v : Int) = y)) := fun h => ⟨fun _ => by
              obtain ⟨v, a, b, c⟩ := hU.out.1 h
              exact ⟨v, a, by omega, c⟩, fun _ => rfl⟩
            have HU2 : Hid (reaZ S.L (x : Int) = y → (true = true ↔ ∃ v : Nat, 1 ≤ v ∧ v < x + 1 ∧ reaZ S.L (v : Int) = y)) := fun h => ⟨fun _ => ⟨x, hx1, by omega, h⟩, fun _ => rfl⟩
            have HU3 : Hid (u = false → reaZ S.L (x : Int) ≠ y → (false = true ↔ ∃ v : Nat, 1 ≤ v ∧ v < x + 1 ∧ reaZ S.L (v : Int) = y)) := fun h hne => ⟨(fun h => by cases h), fun ⟨v, a, b, c⟩ => by
              by_cases e : v = x
              · rw [e] at c; exact absurd c hne
              · have := hU.out.2 ⟨v, a, by omega, c⟩
                rw [h] at this; cases this⟩
            have hre : reaZ S.L (x : Int) = y ∨ reaZ S.L (x : Int) ≠ y := by omega
            cases u with
            | true =>
              as_aux_lemma =>
              have HN := Lib.hid (HU1.out rfl)
              clear HU1 HU2 HU3 hre hU
              go_upto_region 52 with (fail)
              go_quiet (first | (go_at_call 22; exact Calls.quiet_of_same (HRe.out _)))
              obtain ⟨r2, hr2⟩ := HDR.out nq
              have HR2 := Lib.hid hr2
              clear hr2
              go_wp2_with fail
              go_roundw
              case rel => exact ⟨x + 1, r2, true, by first | rfl | trivial, by go_num, by omega, by omega, HN, HR2⟩
              case measure => simp [intOf]; omega
            | false =>
              rcases hre with he | he
              · as_aux_lemma =>
                have HN := Lib.hid (HU2.out he)
                rw [he] at HRe
                clear HU1 HU2 HU3 he hU
                go_upto_region 52 with (fail)
                go_quiet (first | (go_at_call 22; exact Calls.quiet_of_same (HRe.out _)))
                obtain ⟨r2, hr2⟩ := HDR.out nq
                have HR2 := Lib.hid hr2
                clear hr2
                go_wp2_with fail
                go_roundw
                case rel => exact ⟨x + 1, r2, true, by first | rfl | trivial, by go_num, by omega, by omega, HN, HR2⟩
                case measure => simp [intOf]; omega
              · as_aux_lemma =>
                have HN := Lib.hid (HU3.out rfl he)
                have tr : (reaZ S.L (x : Int) == y) = false := by rw [beq_eq_false_iff_ne]; exact he
                clear HU1 HU2 HU3 he hU
                generalize reaZ S.L (x : Int) = rz at *
                go_upto_region 52 with (fail)
                go_quiet (first | (go_at_call 22; exact Calls.quiet_of_same (HRe.out _)))
                obtain ⟨r2, hr2⟩ := HDR.out nq
                have HR2 := Lib.hid hr2
                clear hr2
                go_wp2_with fail
                go_roundw
                case rel => exact ⟨x + 1, r2, false, by first | rfl | trivial, by go_num, by omega, by omega, HN, HR2⟩
                case measure => simp [intOf]; omega
          · as_aux_lemma =>
            have tx : decide ((x : Int) ≤ (S.n : Int)) = false := decide_eq_false (by omega)
            have tx2 : decide (x ≤ S.n) = false := decide_eq_false hxn
            have HRO : Hid (remOk S y = (thereB S y && !u)) := by
              unfold Hid remOk
              cases ht : thereB S y with
              | false => rfl
              | true =>
                rw [Bool.true_and, Bool.true_and]
                have ht' := ht
                unfold thereB at ht'
                simp only [Bool.and_eq_true, decide_eq_true_eq] at ht'
                have hl := lean_iff HW1.out.sg.inv (id := y.toNat) (by omega)
                have hu := hU.out
                have hyy : ((y.toNat : Nat) : Int) = y := by omega
                rw [hyy] at hl
                have : leanB S y.toNat = u := by
                  rw [Bool.eq_iff_iff, hl, hu]
                  exact ⟨fun ⟨v, a, b, c⟩ => ⟨v, a, by omega, c⟩, fun ⟨v, a, b, c⟩ => ⟨v, a, by omega, c⟩⟩
                rw [this]
            have HZr : Hid (ZP wr q w2.heap.size bw A1 c1 A2 c2 A3 c3 all pres dec) := by
              have hbl : Below wa.heap.size wa wr := by
                obtain ⟨r2, e⟩ := HDR.out 0
                have e : wr = wa.drewN r2 := e
                rw [e]; exact ⟨rfl, rfl, rfl, Nat.le_refl _, fun _ _ => rfl⟩
              exact HZ.out.keep fun i hi ho _ => ⟨hbl.block i hi, ho⟩
            clear hU HDR
            go_upto_region 53 with (fail)
            go_cut [25] (fun tv wx => tv = .bool (thereB S y) ∧ Hid (WZ w2.heap.size w2 wx bw b S.n S q all pres dec) ∧ Hid (BA wx q ba 4 Aj m cj y) ∧ Hid (wx.heap[bw]? = some (.cells #[.int .i64 (S.n : Int), .slice A1 all.length c1, .slice A2 pres.length c2, .slice A3 dec.length c3] 31 (0, 0))) ∧ Hid (ZP wx q w2.heap.size bw A1 c1 A2 c2 A3 c3 all pres dec))
            case first =>
              as_aux_lemma =>
              by_cases hy0 : 0 ≤ y
              case neg =>
                have ty : decide (0 ≤ y) = false := decide_eq_false hy0
                have HT : Hid (thereB S y = false) := by unfold Hid thereB; rw [ty]; rfl
                go_wp2_with fail
                go_meet
                exact ⟨by rw [HT.out], HWr, HBr, HHr, HZr⟩
              have ty : decide (0 ≤ y) = true := decide_eq_true hy0
              by_cases hyl : y < (all.length : Int)
              case neg =>
                have ty2 : decide (y < (all.length : Int)) = false := decide_eq_false hyl
                have HT : Hid (thereB S y = false) := by
                  have h1 := HLA.out
                  unfold Hid thereB
                  rw [decide_eq_false (show ¬ y < (S.cs.length : Int) by omega), Bool.and_false, Bool.false_and]
                go_wp2_with fail
                go_meet
                exact ⟨by rw [HT.out], HWr, HBr, HHr, HZr⟩
              have ty2 : decide (y < (all.length : Int)) = true := decide_eq_true hyl
              have hpl : y.toNat < pres.length := by have h1 := HLA.out; have h2 := HLP.out; omega
              have hpl2 : y < (pres.length : Int) := by omega
              obtain ⟨gp, hA, hrp⟩ := HZr.out.pr.row (by omega)
              have hpc : wr.cell? ⟨gp, y.toNat, none⟩ = some (.bool (pres.getD y.toNat false)) := hrp.cell (show y.toNat < pres.length * 1 by omega)
              have hbd := hrp.bd
              obtain ⟨hbd1, hbd2⟩ := hbd
              have HT : Hid (thereB S y = pres.getD y.toNat false) := by
                have h1 := HLA.out
                unfold Hid thereB
                rw [decide_eq_true (show (0 : Int) ≤ y by omega), decide_eq_true (show y < (S.cs.length : Int) by omega), hR.out.pr y.toNat (by omega)]; rfl
              rw [hA] at u2
              clear hrp
              generalize pres.getD y.toNat false = pk at *
              go_wp2_with fail
              go_meet
              exact ⟨by rw [HT.out], HWr, HBr, HHr, HZr⟩
            case rest =>
            obtain ⟨rfl, HWc, HBc, HHc, HZc⟩ := hcut
            clear HWr HBr HHr HZr u0 u1 u2 u3 uf v0 v1 v2 er
            obtain ⟨u0, u1, u2, u3, uf⟩ := cb_of HHc.out
            obtain ⟨v0, v1, v2⟩ := HBc.out.c
            have er := HWc.out.sg.eng.h0
            cases br with
            | true =>
              as_aux_lemma =>
              go_wp2_with fail
              go_roundw
              case rel => exact ⟨j + 1, true, S, q, all, pres, dec, by first | rfl | trivial, by go_num, by omega, HWc, hR, hL.out.more⟩
              case measure => simp [intOf]; omega
            | false =>
              as_aux_lemma =>
              have HRm := Lib.hid (HWc.out.sg.remove y)
              have HTC : Hid (thereB S y = true → ∃ k : Nat, y = (k : Int) ∧ k < S.cs.length) := fun ht => by
                unfold thereB at ht
                simp only [Bool.and_eq_true, decide_eq_true_eq] at ht
                exact ⟨y.toNat, by omega, by omega⟩
              have HRE : Hid (remE S y = if (thereB S y && !u) = true then removeF S y.toNat else S) := by unfold Hid remE; rw [HRO.out]
              rw [HRO.out] at HRm
              generalize thereB S y = th at *
              have no : (th && !u) = false → Calls Try.prog 23 #[.pointer (some ⟨b, 0, none⟩), .int .i64 y] wc fun e w' => e = .returned (.int .i64 51) ∧ ∃ q', Hid (Aft w2.heap.size w2 bw b j (.bool false) w') ∧ Hid (Sg w2.heap.size w2 w' b S q') := fun hno => by
                have h := HRm.out
                rw [hno] at h
                refine h.mono fun e w' ⟨he, q', hs, hx⟩ => ⟨he, q', ?_, ?_⟩
                · have hre := HRE.out
                  rw [hno] at hre
                  have hre : remE S y = S := hre
                  rw [hre] at hs
                  exact ⟨false, S, q', all, pres, dec, rfl, HWc.out.ext hs hx, hR.out, hL.out.more⟩
                · have hre := HRE.out
                  rw [hno] at hre
                  have hre : remE S y = S := hre
                  rw [hre] at hs
                  exact hs
              cases th with
              | false =>
                have HNO := Lib.hid (no rfl)
                clear no HRm
                cases u with
                | true =>
                  as_aux_lemma =>
                  go_wp2_with fail
                  refine HNO.out.mono ?_
                  rintro e w6 ⟨rfl, q6, HE, _⟩
                  go_wp2_with fail
                  go_meet
                  exact HE.out
                | false =>
                  as_aux_lemma =>
                  go_wp2_with fail
                  refine HNO.out.mono ?_
                  rintro e w6 ⟨rfl, q6, HE, _⟩
                  go_wp2_with fail
                  go_meet
                  exact HE.out
              | true =>
                cases u with
                | true =>
                  as_aux_lemma =>
                  have HNO := Lib.hid (no rfl)
                  clear no HRm
                  go_wp2_with fail
                  refine HNO.out.mono ?_
                  rintro e w6 ⟨rfl, q6, HE, _⟩
                  go_wp2_with fail
                  go_meet
                  exact HE.out
                | false =>
                  as_aux_lemma =>
                  clear no
                  obtain ⟨k, rfl, hks⟩ := HTC.out rfl
                  have HRE2 : Hid (remE S (k : Int) = removeF S k) := by
                    have h := HRE.out
                    unfold Hid
                    rw [h]; rfl
                  rw [HRE2.out] at HRm
                  have hkp : k < pres.length := by have h2 := HLP.out; omega
                  go_wp2_with fail
                  refine HRm.out.mono ?_
                  rintro e w6 ⟨he, q6, hs, hx⟩
                  have he : e = .returned (.int .i64 0) := he
                  subst he
                  have hb6 := hx.blk (lt_of_heap HHc.out) HWc.out.own
                  have hh6 : w6.heap[bw]? = some (.cells #[.int .i64 (S.n : Int), .slice A1 all.length c1, .slice A2 pres.length c2, .slice A3 dec.length c3] 31 (0, 0)) := hb6.1.trans HHc.out
                  have HS6 := Lib.hid hs
                  have HH6 := Lib.hid hh6
                  have HO6 := Lib.hid hb6.2
                  have HZ6 : Hid (ZP w6 q6 w2.heap.size bw A1 c1 A2 c2 A3 c3 all pres dec) := HZc.out.keep fun i hi ho _ => hx.blk hi ho
                  have HBA6 : Hid (BA w6 q6 ba 4 Aj m cj (k : Int)) := HBc.out.ext hx
                  obtain ⟨p0, p1, p2, p3, pf⟩ := cb_of hh6
                  obtain ⟨gp, hA, hrp⟩ := HZ6.out.pr.row (by omega)
                  subst hA
                  have HRP : Hid (RowV 4 1 (w6.alloc (.cells #[] 4)) gp pres.length c2 (blC pres)) := hrp.alloc _
                  have HR0 : Hid (RowV 4 1 (w6.alloc (.cells #[] 4)) w6.heap.size 0 0 (fun _ => .int .i64 0)) := RowV.made (by omega) rfl (fun j hj => by omega)
                  have p2a : (w6.alloc (.cells #[] 4)).cell? ⟨bw, 2, none⟩ = some (.slice (some ⟨gp, 0, none⟩) pres.length c2) := by rw [World.cell?_alloc_lt w6 _ _ (lt_of_heap HH6.out)]; exact p2
                  clear hs hx hb6 hh6 hrp HRm HHc u0 u1 u2 u3 uf v0 v1 v2 er
                  go_wp2_with (at_builtin; refine wpList_append_src _ rfl _ _ 28 4 rfl Try.underlying28 info_bl rfl (by decide) (by decide) w6.heap.size 0 0 (fun _ => .int .i64 0) rfl HR0.out (by omega) (some ⟨gp, 0, none⟩) pres.length c2 (blC pres) rfl (.inr ⟨gp, rfl, HRP.out⟩) (fun j _ => rfl) (by omega) ?_)
                  intro g7 e7 w7 hr7 hg7 hk7
                  have HG7 : Hid (w6.heap.size ≤ g7) := by
                    rcases hg7 with e | e
                    · exact Nat.le_of_eq e.symm
                    · have : (w6.alloc (.cells #[] 4)).heap.size = w6.heap.size + 1 := by simp
                      unfold Hid; omega
                  have HB7 : Hid (Below w6.heap.size w6 w7) := by
                    have h1 : Below w6.heap.size w6 (w6.alloc (.cells #[] 4)) := (Below.refl _ _).alloc (Nat.le_refl _) _
                    exact h1.trans (hk7.below h1.size (fun i hi => by rw [hi]; exact Nat.le_refl _))
                  have HROW7 : Hid (RowV 4 1 w7 g7 pres.length e7 (blC pres)) := by
                    have h1 : RowV 4 1 w7 g7 pres.length e7 (appV (fun _ => .int .i64 0) 0 (cellsV (blC pres) pres.length)) := by simpa using hr7
                    exact h1.congr fun i hi => by
                      unfold appV
                      rw [if_neg (by omega), Nat.sub_zero, List.getD, cellsV_get _ (show i < pres.length by omega)]; rfl
                  have hh7 : w7.heap[bw]? = some (.cells #[.int .i64 (S.n : Int), .slice A1 all.length c1, .slice (some ⟨gp, 0, none⟩) pres.length c2, .slice A3 dec.length c3] 31 (0, 0)) := (HB7.out.block bw (lt_of_heap HH6.out)).trans HH6.out
                  have hz7 : ZP w7 q6 w2.heap.size bw A1 c1 (some ⟨gp, 0, none⟩) c2 A3 c3 all pres dec := HZ6.out.keep fun i hi ho _ => ⟨HB7.out.block i hi, ho⟩
                  have hz7' : ZP w7 q6 w2.heap.size bw A1 c1 (some ⟨g7, 0, none⟩) e7 A3 c3 all pres dec := ⟨hz7.al, .inr ⟨g7, rfl, HROW7.out⟩, Apt.new HS6.out (lt_of_heap HH6.out) HG7.out, hz7.de, hz7.ao⟩
                  obtain ⟨hs8, hh8, hz8⟩ := box_set (k := 2) (v := .slice (some ⟨g7, 0, none⟩) pres.length e7) (HS6.out.below HB7.out) HO6.out HW1.out.hb hh7 rfl hz7'
                  have hb7 := (HBA6.out.below HB7.out)
                  have hba8 : BA (w7.setCell ⟨bw, 2, none⟩ (.slice (some ⟨g7, 0, none⟩) pres.length e7)) q6 ba 4 Aj m cj (k : Int) := by
                    have hne : bw ≠ ba := fun e => by
                      have h1 := hb7.hh
                      rw [← e, hh7] at h1
                      injection h1 with h1
                      injection h1 with _ h1
                      exact absurd h1 (by decide)
                    exact ⟨by rw [Below.heap_setCell _ _ _ _ (fun e => hne e.symm)]; exact hb7.hh, hb7.own⟩
                  have HS8 := Lib.hid hs8
                  have HH8 := Lib.hid hh8
                  have HZ8 := Lib.hid hz8
                  have HBA8 := Lib.hid hba8
                  obtain ⟨r0, r1, r2, r3, rf⟩ := cb_of hh7
                  clear hr7 hg7 hk7 hh7 hz7 hz7' hs8 hh8 hz8 hb7 hba8 HR0 HRP HZ6 HBA6 p0 p1 p2 p3 pf p2a
                  go_upto_region 60 with (fail)
                  obtain ⟨w8, hw8⟩ : ∃ w8, w8 = w7.setCell ⟨bw, 2, none⟩ (.slice (some ⟨g7, 0, none⟩) pres.length e7) := ⟨_, rfl⟩
                  rw [← hw8]
                  rw [← hw8] at HS8 HH8 HZ8 HBA8
                  clear hw8 r0 r1 r2 r3 rf HROW7
                  obtain ⟨p0, p1, p2, p3, pf⟩ := cb_of (show w8.heap[bw]? = some (.cells #[.int .i64 (S.n : Int), .slice A1 all.length c1, .slice (some ⟨g7, 0, none⟩) pres.length e7, .slice A3 dec.length c3] 31 (0, 0)) from HH8.out)
                  obtain ⟨v0, v1, v2⟩ := HBA8.out.c
                  obtain ⟨g9, hg9, hr9⟩ := HZ8.out.pr.row (by omega)
                  injection hg9 with hg9
                  injection hg9 with hg9
                  subst hg9
                  have hc9 := hr9.cell (show k < pres.length * 1 by omega)
                  have hf9 := hr9.free k
                  have hbd := hr9.bd
                  obtain ⟨hbd1, hbd2⟩ := hbd
                  have HE : Hid (Aft w2.heap.size w2 bw b j (.bool false) (w8.setCell ⟨g7, k, none⟩ (.bool false))) := by
                    have hk9 : Kf (fun i => onB (some ⟨g7, 0, none⟩) i) w8 (w8.setCell ⟨g7, k, none⟩ (.bool false)) := (Kf.refl (fun i => onB (some ⟨g7, 0, none⟩) i) w8).set (p := ⟨g7, k, none⟩) (.inl (by rw [onB_some])) _
                    have hz9 := HZ8.out.set2 rfl hkp false
                    have hls : (pres.set k false).length = pres.length := by simp
                    refine ⟨false, removeF S k, q6, all, pres.set k false, dec, rfl, ⟨HS8.out.kept hk9 (fun i hi => ⟨(HZ8.out.po i hi).1, (HZ8.out.po i hi).2.1⟩), HO6.out, HW1.out.hb, A1, c1, some ⟨g7, 0, none⟩, e7, A3, c3, ?_, hz9⟩, rec_remove hR.out hks, ⟨by show S.n ≤ _; omega, ?_, by show S.le.length ≤ _; omega⟩⟩
                    · rw [hk9.block bw (lt_of_heap HH8.out) (fun e => (HZ8.out.po bw e).2.2 rfl), hls]; exact HH8.out
                    · show (S.cs.set k _).length ≤ _
                      rw [List.length_set]; omega
                  clear hr9
                  unfold blC at hc9
                  generalize pres.getD k false = pk at *
                  go_wp2_with fail
                  go_meet
                  exact HE.out
      by_cases q5 : kk = 5
      · as_aux_lemma =>
        subst q5
        clear q0 q1 q2 q3 q4
        have HGr := Lib.hid (fun W hW => (HW1.out.below (w' := W) hW).sg.grow (by omega))
        have HKW : Hid (∀ W, Below wa.heap.size wa W → W.cell? ⟨b, 0, none⟩ = some (.pointer (some ⟨q.bt, 0, none⟩)) ∧ W.cell? ⟨bw, 0, none⟩ = some (.int .i64 (S.n : Int))) := fun W hW => by
          have h1 := HW1.out.below hW
          have h2 : W.heap[bw]? = _ := (hW.block bw HW1.out.lt).trans HH.out
          exact ⟨h1.sg.eng.h0, (cb_of h2).1⟩
        have hb0 : Below wa.heap.size wa wa.drew := (Below.refl _ _).drew
        have HWN : Hid (IntKind.i64.wrap ((S.n : Int) + 1) = (S.n : Int) + 1) := IntWalk.i64_in _ (by omega)
        go_upto_region 62 with (fail)
        go_cut [283] (fun tv wx => tv = .bool false ∧ ∃ q', Hid (Sg w2.heap.size w2 wx b (growF S) q') ∧ Hid (wx.heap[bw]? = some (.cells #[.int .i64 (S.n : Int), .slice A1 all.length c1, .slice A2 pres.length c2, .slice A3 dec.length c3] 31 (0, 0)) ∧ q'.own bw = .no ∧ ZP wx q' w2.heap.size bw A1 c1 A2 c2 A3 c3 all pres dec))
        case first =>
          have e0d : wa.drew.cell? ⟨b, 0, none⟩ = some (.pointer (some ⟨q.bt, 0, none⟩)) := e0
          have k0d : wa.drew.cell? ⟨bw, 0, none⟩ = some (.int .i64 (S.n : Int)) := k0
          have HGd := Lib.hid (HGr.out wa.drew hb0)
          have HEX : Hid (Ext q q wa wa.drew) := Ext.below HW1.out.sg.eng hb0
          refine wp_region_any (by kernel_rfl) ?_
          change wpAny _ _ _ _ _ _ _ (World.drew _)
          refine wpAny_take (i := 0) (v := ?_) rfl (by kernel_rfl) (by kernel_rfl) (by kernel_rfl) (fun _ _ _ h => h) (Or.inl ⟨by kernel_rfl, ?_⟩) ?_
          rotate_left 1
          · (intro w; go_simp <;> with_reducible rfl)
          go_simp
          refine wpAny_take (i := 1) (v := ?_) rfl (by kernel_rfl) (by kernel_rfl) (by kernel_rfl) (fun _ _ _ h => h) (Or.inl ⟨by kernel_rfl, ?_⟩) ?_
          rotate_left 1
          · (intro w; go_simp <;> with_reducible rfl)
          go_simp
          refine wpAny_take (i := 2) (v := ?_) rfl (by kernel_rfl) (by kernel_rfl) (by kernel_rfl) (fun _ _ _ h => h) (Or.inl ⟨by kernel_rfl, ?_⟩) ?_
          rotate_left 1
          · (intro w; go_simp <;> with_reducible rfl)
          go_simp
          refine wpAny_take (i := 5) (v := ?_) rfl (by kernel_rfl) (by kernel_rfl) (by kernel_rfl) (fun _ _ _ h => h) (Or.inl ⟨by kernel_rfl, ?_⟩) ?_
          rotate_left 1
          · (intro w; go_simp <;> with_reducible rfl)
          go_simp
          refine wpAny_ready (rs := [3, 6]) (by kernel_rfl) (by simp) ?_
          refine AllReady.cons rfl (fun K hK => ?_) ?_
          ·
            go_simp
            refine hK _ _ ?_; clear hK K
            refine wpAny_ready (rs := [4, 6]) (by kernel_rfl) (by simp) ?_
            refine AllReady.cons rfl (fun K hK => ?_) ?_
            ·
              go_simp
              go_wp2_with ((go_at_call 24; refine HGd.out.mono ?_; rintro e wq ⟨rfl, q5, hs, hx⟩; have hbt := hx.bt; have hx2 := HEX.out.trans hx; obtain ⟨hh5, ho5, hz5, _⟩ := HBB.out wq q5 _ hs hx2; have x2 := (cb_of hh5).1; have HS5 := Lib.hid hs; have HB5 := Lib.hid (And.intro hh5 (And.intro ho5 hz5)); clear hs hx hx2 hbt hh5 ho5 hz5))
              first | (refine hK _ _ ?_; clear hK K) | skip
              refine wpAny_ready (rs := [6]) (by kernel_rfl) (by simp) ?_
              refine AllReady.cons rfl (fun K hK => ?_) ?_
              ·
                go_simp
                refine hK _ _ ?_; clear hK K
                refine wpAny_take (i := 7) (v := ?_) rfl (by kernel_rfl) (by kernel_rfl) (by kernel_rfl) (fun _ _ _ h => h) (Or.inl ⟨by kernel_rfl, ?_⟩) ?_
                rotate_left 1
                · (intro w; go_simp <;> with_reducible rfl)
                go_simp
                refine wpAny_take (i := 8) (v := ?_) rfl (by kernel_rfl) (by kernel_rfl) (by kernel_rfl) (fun _ _ _ h => h) (Or.inl ⟨by kernel_rfl, ?_⟩) ?_
                rotate_left 1
                · (intro w; go_simp <;> with_reducible rfl)
                go_simp
                refine wpAny_done (by kernel_rfl) ?_ _
                go_wp2_with fail; go_meet; exact ⟨by first | rfl | trivial | (rw [HWN.out]; simp), q5, HS5, HB5⟩
              exact AllReady.nil
            refine AllReady.cons rfl (fun K hK => ?_) ?_
            ·
              go_simp
              refine hK _ _ ?_; clear hK K
              refine wpAny_take (i := 7) (v := ?_) rfl (by kernel_rfl) (by kernel_rfl) (by kernel_rfl) (fun _ _ _ h => h) (Or.inl ⟨by kernel_rfl, ?_⟩) ?_
              rotate_left 1
              · (intro w; go_simp <;> with_reducible rfl)
              go_simp
              refine wpAny_ready (rs := [4]) (by kernel_rfl) (by simp) ?_
              refine AllReady.cons rfl (fun K hK => ?_) ?_
              ·
                go_simp
                go_wp2_with ((go_at_call 24; refine HGd.out.mono ?_; rintro e wq ⟨rfl, q5, hs, hx⟩; have hbt := hx.bt; have hx2 := HEX.out.trans hx; obtain ⟨hh5, ho5, hz5, _⟩ := HBB.out wq q5 _ hs hx2; have x2 := (cb_of hh5).1; have HS5 := Lib.hid hs; have HB5 := Lib.hid (And.intro hh5 (And.intro ho5 hz5)); clear hs hx hx2 hbt hh5 ho5 hz5))
                first | (refine hK _ _ ?_; clear hK K) | skip
                refine wpAny_take (i := 8) (v := ?_) rfl (by kernel_rfl) (by kernel_rfl) (by kernel_rfl) (fun _ _ _ h => h) (Or.inl ⟨by kernel_rfl, ?_⟩) ?_
                rotate_left 1
                · (intro w; go_simp <;> with_reducible rfl)
                go_simp
                refine wpAny_done (by kernel_rfl) ?_ _
                go_wp2_with fail; go_meet; exact ⟨by first | rfl | trivial | (rw [HWN.out]; simp), q5, HS5, HB5⟩
              exact AllReady.nil
            exact AllReady.nil
          refine AllReady.cons rfl (fun K hK => ?_) ?_
          ·
            go_simp
            refine hK _ _ ?_; clear hK K
            refine wpAny_take (i := 7) (v := ?_) rfl (by kernel_rfl) (by kernel_rfl) (by kernel_rfl) (fun _ _ _ h => h) (Or.inl ⟨by kernel_rfl, ?_⟩) ?_
            rotate_left 1
            · (intro w; go_simp <;> with_reducible rfl)
            go_simp
            refine wpAny_ready (rs := [3]) (by kernel_rfl) (by simp) ?_
            refine AllReady.cons rfl (fun K hK => ?_) ?_
            ·
              go_simp
              refine hK _ _ ?_; clear hK K
              refine wpAny_ready (rs := [4]) (by kernel_rfl) (by simp) ?_
              refine AllReady.cons rfl (fun K hK => ?_) ?_
              ·
                go_simp
                go_wp2_with ((go_at_call 24; refine HGd.out.mono ?_; rintro e wq ⟨rfl, q5, hs, hx⟩; have hbt := hx.bt; have hx2 := HEX.out.trans hx; obtain ⟨hh5, ho5, hz5, _⟩ := HBB.out wq q5 _ hs hx2; have x2 := (cb_of hh5).1; have HS5 := Lib.hid hs; have HB5 := Lib.hid (And.intro hh5 (And.intro ho5 hz5)); clear hs hx hx2 hbt hh5 ho5 hz5))
                first | (refine hK _ _ ?_; clear hK K) | skip
                refine wpAny_take (i := 8) (v := ?_) rfl (by kernel_rfl) (by kernel_rfl) (by kernel_rfl) (fun _ _ _ h => h) (Or.inl ⟨by kernel_rfl, ?_⟩) ?_
                rotate_left 1
                · (intro w; go_simp <;> with_reducible rfl)
                go_simp
                refine wpAny_done (by kernel_rfl) ?_ _
                go_wp2_with fail; go_meet; exact ⟨by first | rfl | trivial | (rw [HWN.out]; simp), q5, HS5, HB5⟩
              exact AllReady.nil
            exact AllReady.nil
          exact AllReady.nil
        case rest =>
        obtain ⟨rfl, q5, HS5, HB5⟩ := hcut
        obtain ⟨u0, u1, u2, u3, uf⟩ := cb_of HB5.out.1
        have HE : Hid (Aft w2.heap.size w2 bw b j (.bool br) (wc.setCell ⟨bw, 0, none⟩ (.int .i64 ((S.n : Int) + 1)))) := by
          refine ⟨br, growF S, q5, all, pres, dec, rfl, wz_store HS5.out HB5.out.2.1 HW1.out.hb HB5.out.1 HB5.out.2.2 ?_, rec_grow hR.out, ⟨by show S.n + 1 ≤ _; omega, by show S.cs.length ≤ _; omega, by show S.le.length ≤ _; omega⟩⟩
          have e : ((growF S).n : Int) = (S.n : Int) + 1 := by show (((S.n + 1 : Nat)) : Int) = _; omega
          rw [e]; rfl
        clear k0 k1 k2 k3 kf a0 a1 a2 e0 HWN HGr HKW hb0
        go_wp2_with fail
        go_meet
        exact HE.out
      have z0 : (kk == 0) = false := by rw [beq_eq_false_iff_ne]; exact q0
      have z1 : (kk == 1) = false := by rw [beq_eq_false_iff_ne]; exact q1
      have z2 : (kk == 2) = false := by rw [beq_eq_false_iff_ne]; exact q2
      have z3 : (kk == 3) = false := by rw [beq_eq_false_iff_ne]; exact q3
      have z4 : (kk == 4) = false := by rw [beq_eq_false_iff_ne]; exact q4
      have z5 : (kk == 5) = false := by rw [beq_eq_false_iff_ne]; exact q5
      have HE : Hid (Aft w2.heap.size w2 bw b j (.bool br) wa) := ⟨br, S, q, all, pres, dec, rfl, HW1.out, hR.out, hL.out.more⟩
      go_wp2_with fail
      go_meet
      exact HE.out
    case rest =>
    as_aux_lemma =>
    obtain ⟨br2, S2, q2, all2, pres2, dec2, rfl, hw2, hr2, hl2⟩ := hcut.out
    obtain ⟨B1, d1, B2, d2, B3, d3, hh2, hz2⟩ := hw2.mem
    obtain ⟨u0, u1, u2, u3, uf⟩ := cb_of hh2
    have e2 := hw2.sg.eng.h0
    have HDp : Hid (∀ r, Calls Try.prog 25 #[.pointer (some ⟨q2.bt, 0, none⟩)] (wc.drewN r) fun e w' => e = .returned (.int .i64 (dec2.length : Int)) ∧ w' = wc.drewN r) := fun r => by
      have h := (hw2.sg.below (w' := wc.drewN r) ⟨rfl, rfl, rfl, Nat.le_refl _, fun _ _ => rfl⟩).asks.2.2.2.2.2
      rw [← hr2.dl] at h
      exact h.mono fun e w' ⟨h1, h2⟩ => ⟨h1, h2.symm⟩
    have HVs : Hid (∀ r, Calls Try.prog 27 #[.pointer (some ⟨q2.bt, 0, none⟩)] (wc.drewN r) fun e w' => e = .returned (.int .i64 (S2.n : Int)) ∧ w' = wc.drewN r) := fun r =>
      ((hw2.sg.below (w' := wc.drewN r) ⟨rfl, rfl, rfl, Nat.le_refl _, fun _ _ => rfl⟩).asks.2.2.2.2.1).mono fun e w' ⟨h1, h2⟩ => ⟨h1, h2.symm⟩
    have HLn : Hid (∀ r, Calls Try.prog 26 #[.pointer (some ⟨b, 0, none⟩)] (wc.drewN r) fun e w' => e = .returned (.int .i64 (all2.length : Int)) ∧ w' = wc.drewN r) := fun r => by
      have h := elen_any (hw2.sg.below (w' := wc.drewN r) ⟨rfl, rfl, rfl, Nat.le_refl _, fun _ _ => rfl⟩).eng
      rw [← hr2.al] at h
      exact h.mono fun e w' ⟨h1, h2⟩ => ⟨h1, h2.symm⟩
    have HWN : Hid (∀ r, WZ w2.heap.size w2 (wc.drewN r) bw b S2.n S2 q2 all2 pres2 dec2) := fun r => hw2.below ⟨rfl, rfl, rfl, Nat.le_refl _, fun _ _ => rfl⟩
    have HR2 := Lib.hid hr2
    have HL2 := Lib.hid hl2
    clear hw2 hr2 hl2 hh2 hz2 hcut
    go_upto_region 65 with (fail)
    go_quiet (first | (go_at_call 25; exact Calls.quiet_of_same (HDp.out _)) | (go_at_call 26; exact Calls.quiet_of_same (HLn.out _)) | (go_at_call 27; exact Calls.quiet_of_same (HVs.out _)))
    go_wp2_with fail
    go_roundw
    case rel => exact ⟨j + 1, br2, S2, q2, all2, pres2, dec2, by first | rfl | trivial, by go_num, by omega, HWN.out _, HR2, HL2⟩
    case measure => simp [intOf]; omega
set_option maxHeartbeats 800000 in
set_option maxRecDepth 100000 in
theorem lifted (os : Os) (started : os.Started) (H : Type) (enc : TypeId × Value → H) :
    ReturnsInHanded {} Try.checked os 3 .any (Rows.watchRunsSpec.pre6 enc Try.prog Try.f3 Rows.watchRunsRow.domain false) (Rows.watchRunsSpec.post enc Try.prog Try.f3 false true false false) := by
  refine returnsInHanded_of_change (C := Try.checked) own_knob5 started (by kernel_rfl) Try.func3
    (ChangeSpec.witness6 (enc := enc) (C := Try.checked) false ⟨#[], #[.int .i64 0, .slice none 0 0], []⟩ 8 (by kernel_rfl) (by kernel_rfl) (by kernel_rfl) (by kernel_rfl)) ?_
  intro W base args ds gs before hval0 hW _ _
  have hval : ∀ (j : Nat) t v, Try.f3.params[j]? = some t → args[j]? = some v → Value.okWide Try.prog W .any base t v := hval0
  have hW' := hW
  obtain ⟨p, q, hA0, hV, rfl, _, _⟩ := hW
  have hA : DataW.TrodAll enc Try.prog W 0 (fun _ => true) true Try.f3.params.toList args.toList ds p := hA0
  rw [Try.params3] at hA hval
  obtain ⟨v0, v1, d0, d1, p0, p1, rfl, rfl, rfl, h0, h1⟩ := trodAll_two hA
  obtain ⟨rfl, rfl⟩ := trodVars_none hV
  obtain ⟨a0, rfl, rfl, rfl, w0⟩ := open_int Try.underlying3 (hval 0 3 v0 rfl rfl) h0
  obtain ⟨A1, n1, c1, K1, C1, Y1, rfl, hR1, _⟩ := open_acts (hval 1 22 v1 rfl rfl) h1
  clear hA0 hval0
  simp only [List.append_nil, List.nil_append] at hW'
  have hlt1 : ∀ y ∈ p1, y.block < W.heap.size := fun y hy => by simpa using hW'.lt y (by simp [hy])
  refine (walk a0 A1 n1 c1 K1 C1 Y1 W hR1).mono fun e W' ⟨he, hB⟩ => ?_
  subst he
  exact ⟨_, rfl, _, _, _, [], _, [], hW', trodAll_mk1 (shut_bool Try.underlying4 true), trodAll_mk2 (shut_int Try.underlying3 w0) (Below.trod laid_out (by kernel_rfl) (of_decide_eq_true (by kernel_rfl)) h1 hB hlt1), rfl, hB.frame _, fun h => by cases h⟩

theorem proved : Rows.WatchRunsSaid :=
  OpenClaim.holds_of_wide 3 Try.f3 rfl rfl rfl rfl rfl rfl rfl ⟨rfl, rfl, rfl, rfl, rfl⟩ rfl rfl rfl rfl rfl (by kernel_rfl) Try.func3 (by kernel_rfl)
    (of_decide_eq_true (by kernel_rfl)) (by unfold Func.isWrapper; first | (rw [if_pos (by decide +kernel)]; kernel_rfl) | (rw [if_neg (by decide +kernel)]; exact ⟨rfl, rfl⟩))
    (fun os started H enc _ => lifted os started H enc)
end Go.Proofs.Ytdecejhobefefaa.WRuns
namespace Go.Proofs.Ytdecejhobefefaa
theorem watchRuns_holds : Rows.WatchRunsSaid := WRuns.proved
#print axioms watchRuns_holds
end Go.Proofs.Ytdecejhobefefaa
