/- A law's acts, one behind the other: what is made of them, in plain words and in memory; the acts that came in. -/
import Derived.Test.YtelpoocgmflofaaGdo
import Derived.Test.YtelpoocgmflofaaGrig
import Derived.Test.YtelpoocgmflofaaRows
import Derived.ProofKit
import Derived.OpenShut
import Derived.SizedLaws
import Derived.Deep.Slices
import Derived.Deep.Fields
import Derived.ChangeSame
namespace Go.Proofs.Ytelpoocgmflofaa
open Go.ChangeShapes Go.WideShapes Go.ChangeAt Go.RowKit GatM LitM

abbrev St := Gs × List Nat × List Nat
def stepS (s : St) (k : Int) (ps : List Int) : St := ((actG s.1 k (argE s.2.1 ps)).2, s.2.1 ++ [(actG s.1 k (argE s.2.1 ps)).1], s.2.2 ++ [actT k (argT s.2.2 ps)])
def runS (n : Nat) (K : Nat → Int) (P : Nat → List Int) : Nat → St
  | 0 => (startG n, startE n, startT n)
  | j + 1 => stepS (runS n K P j) (K j) (P j)
/-- What holds of all that is made. -/
structure OkS (s : St) (m e : Nat) : Prop where
  wf : Wf s.1
  agr : Agr s.1 s.2.1 s.2.2
  one : s.2.1.getD 1 0 = 1
  len : s.2.1.length = e
  gts : s.1.length ≤ m
theorem startIns : ∀ n, (insL (startG n)).length = n
  | 0 => rfl
  | n + 1 => by
    show (insL (startG n ++ [(0, 0)])).length = _
    rw [insL_snoc, if_pos ⟨by rw [startG_len]; omega, rfl⟩, List.length_append, startIns n]; rfl
theorem startWf : ∀ n, Wf (startG n)
  | 0 => wf_new
  | n + 1 => (startWf n).input
theorem start_says (n r : Nat) (hn : n < 6) : sayE (rowV r) (startG n ++ [(0, 0)]) (2 * (startG n).length) = decide (r / 2 ^ n % 2 = 1) := by
  have h1 : 2 * (startG n).length / 2 = (startG n).length := by omega
  have h2 : odd (2 * (startG n).length) = false := by unfold odd; rw [decide_eq_false]; omega
  unfold sayE
  rw [h1, h2, tru_in (by rw [startG_len]; omega) (getG_end _ _)]
  unfold inV plcG
  rw [List.take_left, startIns, rowV_get r n hn]
  simp
theorem startAgr : ∀ n, n ≤ 6 → Agr (startG n) (startE n) (startT n)
  | 0, _ => by
    refine ⟨rfl, fun x hx => ?_, fun x hx => ?_, fun r hr j hj => ?_⟩
    · simp [startE] at hx; rcases hx with rfl | rfl <;> decide
    · simp [startT] at hx; rcases hx with rfl | rfl <;> decide
    · rcases (show j = 0 ∨ j = 1 by have : j < 2 := hj; omega) with q | q <;> subst q
      · show Nat.testBit 0 r = sayE (rowV r) [(0, 0)] 0
        rw [say_false wf_new]; simp
      · show Nat.testBit 18446744073709551615 r = sayE (rowV r) [(0, 0)] 1
        rw [say_true wf_new, ones_bit hr]
  | n + 1, h => by
    refine ((startAgr n (by omega)).ex (Ex.snoc _ (0, 0))).snoc ?_ (inp_lt n (by omega)) fun r hr => ?_
    · show 2 * (startG n).length / 2 < (startG n ++ [(0, 0)]).length
      simp
    · rw [start_says n r (by omega)]; exact inp_bit n (by omega) r hr
theorem getD_app2 {l : List Nat} {x j : Nat} (h : j < l.length) : (l ++ [x]).getD j 0 = l.getD j 0 := getD_app1 h
theorem startOne : ∀ n, (startE n).getD 1 0 = 1
  | 0 => rfl
  | n + 1 => by
    show (startE n ++ [_]).getD 1 0 = 1
    rw [getD_app1 (by rw [startE_len]; omega)]; exact startOne n
theorem okStart (n : Nat) (hn : n ≤ 6) : OkS (startG n, startE n, startT n) (n + 1) (n + 2) := ⟨startWf n, startAgr n hn, startOne n, startE_len n, by rw [startG_len]; exact Nat.le_refl _⟩
theorem argE_len (E : List Nat) (ps : List Int) : (argE E ps).length = max 3 ps.length := by unfold argE; rw [padL_len, List.length_map]
section
variable {s : St} {m e : Nat} {k : Int} {ps : List Int}
theorem OkS.args (h : OkS s m e) (he : 2 ≤ e) (ps : List Int) : Agr s.1 (argE s.2.1 ps) (argT s.2.2 ps) := h.agr.args h.wf (by rw [h.len]; exact he) h.one ps
theorem OkS.made (h : OkS s m e) (he : 2 ≤ e) : Made s.1 (actG s.1 k (argE s.2.1 ps)) (max 3 ps.length + 1) := by
  have := act_made (k := k) h.wf (h.args he ps).inn (by rw [argE_len]; omega)
  rwa [argE_len] at this
theorem OkS.step (h : OkS s m e) (he : 2 ≤ e) (hp : ps.length ≤ 10) : OkS (stepS s k ps) (m + 11) (e + 1) := by
  have hm := h.made (k := k) (ps := ps) he
  have ha := h.args he ps
  refine ⟨hm.wf, (h.agr.ex hm.ex).snoc hm.lt ?_ fun r hr => act_says h.wf ha (by rw [argE_len]; omega) r hr, ?_, by simp [stepS, h.len], ?_⟩
  · refine actT_lt ha.u64 ?_
    rw [ha.len, argE_len]; omega
  · show (s.2.1 ++ [_]).getD 1 0 = 1
    rw [getD_app1 (by rw [h.len]; omega)]; exact h.one
  · have h1 := hm.len
    have h2 := h.gts
    show (actG s.1 k (argE s.2.1 ps)).2.length ≤ _
    omega
end
theorem okRun (n : Nat) (hn : n ≤ 6) (K : Nat → Int) (P : Nat → List Int) : ∀ j, (∀ i, i < j → (P i).length ≤ 10) → OkS (runS n K P j) (n + 1 + 11 * j) (n + 2 + j)
  | 0, _ => okStart n hn
  | j + 1, h => by
    have := (okRun n hn K P j fun i hi => h i (by omega)).step (k := K j) (ps := P j) (by omega) (h j (by omega))
    exact this
theorem runIns (n : Nat) (K : Nat → Int) (P : Nat → List Int) : ∀ j, insL (runS n K P j).1 = insL (startG n)
  | 0 => rfl
  | j + 1 => (act_ins (gs := (runS n K P j).1)).trans (runIns n K P j)

/-- A maker at bk in which s stands. -/
def MAt (w1 : World) (bk : Nat) (s : St) (wr : World) : Prop := ∃ k c, k.bk = bk ∧ Mkr w1.heap.size w1 wr k c s.1 s.2.1 s.2.2
theorem StAt.at_ {w1 wr : World} {bk n : Nat} (h : StAt w1 bk n wr) : MAt w1 bk (startG n, startE n, startT n) wr := h
theorem MAt.below {w1 wr w' : World} {bk : Nat} {s : St} (h : MAt w1 bk s wr) (hb : Below wr.heap.size wr w') : MAt w1 bk s w' := by
  obtain ⟨k, c, h1, h2⟩ := h
  exact ⟨k, c, h1, h2.below hb⟩
theorem MAt.do_ {w1 wr : World} {bk m e : Nat} {s : St} (h : MAt w1 bk s wr) (ho : OkS s m e) (he : 2 ≤ e) (he2 : e ≤ 1000) (hm : m ≤ 60000) (kind : Int) (Ap : Option Addr) (np cp : Nat) (ps : List Int) (hp : Rd .i64 wr wr.heap.size Ap np ps) (hnp : np ≤ 10) :
    Calls Try.prog 31 #[.pointer (some ⟨bk, 0, none⟩), .agg #[.int .i64 kind, .slice Ap np cp]] wr fun e w' => e = .returned (.bool true) ∧ MAt w1 bk (stepS s kind ps) w' := by
  obtain ⟨k, c, rfl, h2⟩ := h
  refine (gdo_any h2 ho.agr.len (by rw [ho.len]; exact he) ho.agr.inn ho.agr.u64 (by rw [ho.len]; exact he2) (Nat.le_trans ho.gts hm) kind Ap np cp ps hp hnp).mono ?_
  rintro e w' ⟨rfl, k', c', hT⟩
  exact ⟨rfl, k', c', hT.bk, hT.at_⟩

/-- The acts that came in: K their kinds, P their parts. -/
structure RdQ (w : World) (B : Nat) (A : Option Addr) (n : Nat) (K : Nat → Int) (P : Nat → List Int) : Prop where
  at_ : ∀ j, j < n → ∃ b o Aj cj, A = some ⟨b, o, none⟩ ∧ b < B ∧ w.cell? ⟨b, o + j * 2, none⟩ = some (.int .i64 (K j)) ∧ w.cell? ⟨b, o + j * 2 + 1, none⟩ = some (.slice Aj (P j).length cj) ∧ Rd .i64 w B Aj (P j).length (P j) ∧ (P j).length ≤ 9223372036854775807
theorem RdQ.belo {w w' : World} {A : Option Addr} {n : Nat} {K : Nat → Int} {P : Nat → List Int} (h : RdQ w w.heap.size A n K P) (hb : Below w.heap.size w w') : RdQ w' w'.heap.size A n K P :=
  ⟨fun j hj => by
    obtain ⟨b, o, Aj, cj, h1, h2, h3, h4, h5, h6⟩ := h.at_ j hj
    exact ⟨b, o, Aj, cj, h1, Nat.lt_of_lt_of_le h2 hb.size, (hb.cell (p := ⟨b, o + j * 2, none⟩) h2).trans h3, (hb.cell (p := ⟨b, o + j * 2 + 1, none⟩) h2).trans h4, (h5.below hb).more hb.size, h6⟩⟩
theorem cells_act : Try.prog.cellsOf 61 = 2 := by kernel_rfl
theorem cells_int : Try.prog.cellsOf 3 = 1 := by kernel_rfl
theorem cells_ints : Try.prog.cellsOf 59 = 1 := by kernel_rfl
theorem one_of {cs : List Value} {i : Nat} {u : Value} (h : (cs.drop i).take 1 = [u]) : cs[i]? = some u := by
  have := congrArg (fun l => l[0]?) h
  simpa [List.getElem?_take, List.getElem?_drop] using this
theorem add_plain (b o j : Nat) : ((⟨b, o, none⟩ : Addr).add j) = ⟨b, o + j, none⟩ := by unfold Addr.add; split <;> simp_all
set_option maxRecDepth 100000 in
theorem open_acts {H : Type} {enc : TypeId × Value → H} {W : World} {base : Nat} {v : Value} {d : DataW H} {p : List MemPlace} (hok : Value.okWide Try.prog W .any base 56 v)
    (h : DataW.Trod enc Try.prog W 0 (fun _ => true) true 56 v d p) :
    ∃ A n c K P, v = .slice A n c ∧ RdQ W W.heap.size A n K P ∧ n ≤ 9223372036854775807 := by
  obtain ⟨a0, len, cap, rfl⟩ := okWide_slice Try.underlying56 hok
  obtain ⟨fuel, hf⟩ := h
  rcases Go.Deep.open_slice Try.underlying56 hf with ⟨hcs, _⟩ | ⟨a, len', cap', m, n0, D, Pl, hcs, _, hl, hmx, hm, _, hi⟩
  · simp [Value.cells] at hcs
    obtain ⟨rfl, rfl, rfl⟩ := hcs
    exact ⟨none, 0, 0, fun _ => 0, fun _ => [], rfl, ⟨fun j hj => by omega⟩, by omega⟩
  · simp [Value.cells] at hcs
    obtain ⟨rfl, rfl, rfl⟩ := hcs
    simp only [if_true] at hm
    have hmax : len ≤ 9223372036854775807 := by unfold maxLen at hmx; omega
    have elem : ∀ j, j < len → ∃ (k0 : Int) (xs : List Int), ∃ Aj cj, W.cell? (a.add (j * 2)) = some (.int .i64 k0) ∧ W.cell? (a.add (j * 2 + 1)) = some (.slice Aj xs.length cj) ∧ Rd .i64 W W.heap.size Aj xs.length xs ∧ xs.length ≤ 9223372036854775807 := by
     intro j hj
     obtain ⟨cs, hc, ht⟩ := hi j (by omega)
     rw [cells_act] at hc
     obtain ⟨xs, n1, _, _, _, hxl, hfld⟩ := DataW.trod_struct Try.underlying61 ht
     obtain ⟨_, hcl, hat⟩ := World.cells?_some hc
     have hxs : ∀ i, i < 2 → xs[i]? = some (xs.getD i (.nil, [])) := fun i hi3 => by
       have hlt : i < xs.length := by rw [hxl]; exact hi3
       simp [List.getD, List.getElem?_eq_getElem hlt]
     have e0 : DataW.trod enc Try.prog W 0 (fun _ => true) true n1 3 ((cs.drop 0).take (Try.prog.cellsOf 3)) = xs[0]? := hfld 0 _ rfl
     rw [cells_int, hxs 0 (by omega)] at e0
     obtain ⟨k0, hk0, _⟩ := DataW.trod_int Try.underlying3 e0
     have h0 : W.cell? (a.add (j * 2)) = some (.int .i64 k0) := by
       have e := one_of hk0
       have := hat 0 (by omega)
       rw [Go.Deep.add_add, Nat.add_zero] at this
       rw [this]; exact e
     have e1 : DataW.trod enc Try.prog W 0 (fun _ => true) true n1 59 ((cs.drop 1).take (Try.prog.cellsOf 59)) = xs[1]? := hfld 1 _ rfl
     rw [cells_ints, hxs 1 (by omega)] at e1
     rcases open_ints Try.underlying59 Try.underlying3 cells_int e1 with ⟨hcs1, _⟩ | ⟨a1, len1, cap1, zs, hcs1, _, hl1, hmx1, hz1, _, hcell1, hwz1⟩
     · have e := one_of hcs1
       exact ⟨k0, [], none, 0, h0, by rw [← Go.Deep.add_add, hat 1 (by omega)]; exact e, Rd.nil, by simp⟩
     · have e := one_of hcs1
       simp only [if_true] at hz1
       have hm1 : len1 ≤ 9223372036854775807 := by unfold maxLen at hmx1; omega
       have hlz : (zs.take len1).length = len1 := by simp; omega
       refine ⟨k0, zs.take len1, some a1, cap1, h0, by rw [hlz, ← Go.Deep.add_add, hat 1 (by omega)]; exact e, ?_, by rw [hlz]; exact hm1⟩
       rw [hlz]
       refine ⟨hlz, fun hn => ?_⟩
       obtain ⟨b1, o1, s1⟩ := a1
       have hc0 := hcell1 0 (by omega)
       have hs1 : s1 = none := by simpa [Addr.add] using World.cell?_spot hc0
       subst hs1
       refine ⟨b1, o1, rfl, World.block_lt_of_cell? _ _ (by rw [add_plain] at hc0; exact hc0), fun i hi' => ?_⟩
       have := hcell1 i (by omega)
       rw [add_plain] at this
       rw [this]
       simp [List.getD, hi']
    obtain ⟨b, off, spot⟩ := a
    have ch : ∀ j, ∃ z : Int × List Int, j < len → ∃ Aj cj, W.cell? ((⟨b, off, spot⟩ : Addr).add (j * 2)) = some (.int .i64 z.1) ∧ W.cell? ((⟨b, off, spot⟩ : Addr).add (j * 2 + 1)) = some (.slice Aj z.2.length cj) ∧ Rd .i64 W W.heap.size Aj z.2.length z.2 ∧ z.2.length ≤ 9223372036854775807 := fun j => by
      by_cases hj : j < len
      · obtain ⟨k0, xs, h⟩ := elem j hj
        exact ⟨(k0, xs), fun _ => h⟩
      · exact ⟨(0, []), fun e => absurd e hj⟩
    obtain ⟨z, hz⟩ := Classical.axiomOfChoice ch
    refine ⟨some ⟨b, off, spot⟩, len, cap, fun j => (z j).1, fun j => (z j).2, rfl, ⟨fun j hj => ?_⟩, hmax⟩
    obtain ⟨Aj, cj, h0, h1, h2, h3⟩ := hz j hj
    obtain ⟨_, _, y0, _⟩ := hz 0 (by omega)
    have hspot : spot = none := by simpa [Addr.add] using World.cell?_spot y0
    subst hspot
    rw [add_plain] at h0 h1
    exact ⟨b, off, Aj, cj, rfl, World.block_lt_of_cell? _ _ h0, h0, h1, h2, h3⟩
end Go.Proofs.Ytelpoocgmflofaa
