/- What WatchRuns opens (acts), an engine's Remove and Grow, and the law's record in memory beside the engine. -/
import Derived.Test.YtdecejhobefefaaWrC
import Derived.Test.YtdecejhobefefaaWrF
import Derived.Deep.DeepCutAuto
import Derived.ChangeSame
namespace Go.Proofs.Ytdecejhobefefaa
open Go.ChangeShapes Go.WideShapes Go.ChangeAt Go.RowKit LitM TrailM EngM

theorem cells_act : Try.prog.cellsOf 33 = 3 := by kernel_rfl
theorem one_of {cs : List Value} {i : Nat} {u : Value} (h : (cs.drop i).take 1 = [u]) : cs[i]? = some u := by
  have := congrArg (fun l => l[0]?) h
  simpa [List.getElem?_take, List.getElem?_drop] using this
set_option maxRecDepth 100000 in
/-- The acts that came in. -/
theorem open_acts {H : Type} {enc : TypeId × Value → H} {W : World} {base : Nat} {v : Value} {d : DataW H} {p : List MemPlace} (hok : Value.okWide Try.prog W .any base 22 v)
    (h : DataW.Trod enc Try.prog W 0 (fun _ => true) true 22 v d p) :
    ∃ A n c K C Y, v = .slice A n c ∧ RdA W W.heap.size A n K C Y ∧ n ≤ 9223372036854775807 := by
  obtain ⟨a0, len, cap, rfl⟩ := okWide_slice Try.underlying22 hok
  obtain ⟨fuel, hf⟩ := h
  rcases Go.Deep.open_slice Try.underlying22 hf with ⟨hcs, _⟩ | ⟨a, len', cap', m, n0, D, Pl, hcs, _, hl, hmx, hm, _, hi⟩
  · simp [Value.cells] at hcs
    obtain ⟨rfl, rfl, rfl⟩ := hcs
    exact ⟨none, 0, 0, fun _ => 0, fun _ => [], fun _ => 0, rfl, ⟨fun j hj => by omega⟩, by omega⟩
  · simp [Value.cells] at hcs
    obtain ⟨rfl, rfl, rfl⟩ := hcs
    simp only [if_true] at hm
    have hmax : len ≤ 9223372036854775807 := by unfold maxLen at hmx; omega
    have elem : ∀ j, j < len → ∃ (k0 : Int) (xs : List Int) (k2 : Int), ∃ Aj cj, W.cell? (a.add (j * 3)) = some (.int .i64 k0) ∧ W.cell? (a.add (j * 3 + 1)) = some (.slice Aj xs.length cj) ∧ W.cell? (a.add (j * 3 + 2)) = some (.int .i64 k2) ∧ Rd .i32 W W.heap.size Aj xs.length xs ∧ In32 xs ∧ xs.length ≤ 9223372036854775807 := by
     intro j hj
     obtain ⟨cs, hc, ht⟩ := hi j (by omega)
     rw [cells_act] at hc
     obtain ⟨xs, n1, _, _, _, hxl, hfld⟩ := DataW.trod_struct Try.underlying33 ht
     obtain ⟨_, hcl, hat⟩ := World.cells?_some hc
     have hxs : ∀ i, i < 3 → xs[i]? = some (xs.getD i (.nil, [])) := fun i hi3 => by
       have hlt : i < xs.length := by rw [hxl]; exact hi3
       simp [List.getD, List.getElem?_eq_getElem hlt]
     have field : ∀ (q : IntKind) (i : Nat) (T : TypeId), Try.prog.underlying T = some (.int q) → Try.prog.cellsOf T = 1 → i < 3 → DataW.trod enc Try.prog W 0 (fun _ => true) true n1 T ((cs.drop i).take (Try.prog.cellsOf T)) = xs[i]? → ∃ k : Int, (Lit.int q k).wf = true ∧ W.cell? (a.add (j * 3 + i)) = some (.int q k) := by
       intro q i T hu h1 hi3 hx
       rw [h1] at hx
       obtain ⟨k, hk, hw⟩ := DataW.trod_int hu (hx.trans (hxs i hi3))
       have e := one_of hk
       exact ⟨k, hw.2, by rw [← Go.Deep.add_add, hat i hi3]; exact e⟩
     obtain ⟨k0, _, h0⟩ := field .i64 0 3 Try.underlying3 (by kernel_rfl) (by omega) (hfld 0 _ rfl)
     obtain ⟨k2, _, h2⟩ := field .i64 2 3 Try.underlying3 (by kernel_rfl) (by omega) (hfld 2 _ rfl)
     have e1 : DataW.trod enc Try.prog W 0 (fun _ => true) true n1 29 ((cs.drop 1).take (Try.prog.cellsOf 29)) = xs[1]? := hfld 1 _ rfl
     rw [cells_row, hxs 1 (by omega)] at e1
     rcases open_ints Try.underlying29 Try.underlying43 cells_lit e1 with ⟨hcs1, _⟩ | ⟨a1, len1, cap1, zs, hcs1, _, hl1, hmx1, hz1, _, hcell1, hwz1⟩
     · have e := one_of hcs1
       exact ⟨k0, [], k2, none, 0, h0, by rw [← Go.Deep.add_add, hat 1 (by omega)]; exact e, h2, Rd.nil, In32.of (by simp), by simp⟩
     · have e := one_of hcs1
       simp only [if_true] at hz1
       have hm1 : len1 ≤ 9223372036854775807 := by unfold maxLen at hmx1; omega
       have hlz : (zs.take len1).length = len1 := by simp; omega
       exact ⟨k0, zs.take len1, k2, some a1, cap1, h0, by rw [hlz, ← Go.Deep.add_add, hat 1 (by omega)]; exact e, h2, by rw [hlz]; exact rd_of hl1 hz1 (fun e => by cases e) (fun a' ha' c hc => by cases ha'; exact hcell1 c (by omega)), In32.of fun x hx => i32_of (hwz1 x (List.mem_of_mem_take hx)), by rw [hlz]; exact hm1⟩
    obtain ⟨b, off, spot⟩ := a
    have ch : ∀ j, ∃ z : Int × List Int × Int, j < len → ∃ Aj cj, W.cell? ((⟨b, off, spot⟩ : Addr).add (j * 3)) = some (.int .i64 z.1) ∧ W.cell? ((⟨b, off, spot⟩ : Addr).add (j * 3 + 1)) = some (.slice Aj z.2.1.length cj) ∧ W.cell? ((⟨b, off, spot⟩ : Addr).add (j * 3 + 2)) = some (.int .i64 z.2.2) ∧ Rd .i32 W W.heap.size Aj z.2.1.length z.2.1 ∧ In32 z.2.1 ∧ z.2.1.length ≤ 9223372036854775807 := fun j => by
      by_cases hj : j < len
      · obtain ⟨k0, xs, k2, h⟩ := elem j hj
        exact ⟨(k0, xs, k2), fun _ => h⟩
      · exact ⟨(0, [], 0), fun e => absurd e hj⟩
    obtain ⟨z, hz⟩ := Classical.axiomOfChoice ch
    refine ⟨some ⟨b, off, spot⟩, len, cap, fun j => (z j).1, fun j => (z j).2.1, fun j => (z j).2.2, rfl, ⟨fun j hj => ?_⟩, hmax⟩
    obtain ⟨Aj, cj, h0, h1, h2, h3, h4, h5⟩ := hz j hj
    obtain ⟨_, _, y0, _⟩ := hz 0 (by omega)
    have hspot : spot = none := by simpa [Addr.add] using World.cell?_spot y0
    subst hspot
    rw [add_plain] at h0 h1 h2
    exact ⟨b, off, Aj, cj, rfl, World.block_lt_of_cell? _ _ h0, h0, h1, h2, h3, h4, h5⟩
section
variable {B b bw : Nat} {w0 w w' : World} {S S' : Eng} {q q' : Pm} {all : List (List Int)} {pres : List Bool} {dec : List Int}
theorem Sg.remove (h : Sg B w0 w b S q) (id : Int) :
    Calls Try.prog 23 #[.pointer (some ⟨b, 0, none⟩), .int .i64 id] w fun e w' => e = .returned (.int .i64 (if remOk S id = true then 0 else 51)) ∧ ∃ q', Sg B w0 w' b (remE S id) q' ∧ Ext q q' w w' := by
  refine (remove_any h.eng h.inv.small id).mono fun e w' ht => ?_
  unfold remE
  rcases ht with ⟨a, e1, hE', hX⟩ | ⟨a, e1, q', hE', hX⟩
  · rw [if_neg (by rw [a]; simp), if_neg (by rw [a]; simp)]
    exact ⟨e1, q, h.to hE' h.inv hX, hX⟩
  · rw [if_pos a, if_pos a]
    obtain ⟨r1, r2⟩ := remOk_lt a
    exact ⟨e1, q', h.to hE' (inv_remove h.inv r1 r2) hX, hX⟩
theorem E6.trailGrow {d : Nat} (h : E6 w b q S d) {F : Nat → Prop} (hF : ∀ k, F k → q.own k = .trail) {n' d' : Nat} {L' : List Ent} (hT : TrailTo F w w' q.bt n' d' L') :
    ∃ own', E6 w' b { q with own := own' } { S with n := n', L := L' } d' ∧ Ext q { q with own := own' } w w' := by
  obtain ⟨F', hT', hN, hK⟩ := hT
  have hK' : Kf (fun k => q.own k = .trail) w w' := hK.mono fun x hx => .inl (hF x hx)
  classical
  have hc : Chg (fun o => o = .trail) q.own (fun k => if F' k then .trail else q.own k) w w' := ⟨hK', fun k hk => by
    by_cases e : F' k
    · simp only [if_pos e]
      rcases hN k e with x | x
      · exact (hF k x).symm
      · omega
    · simp only [if_neg e], fun k hk => by
    have hn : ¬ F' k := fun e => by have := hT'.foot k e; omega
    simp only [if_neg hn]; exact h.fr k (Nat.le_trans hK.size hk)⟩
  refine ⟨fun k => if F' k then .trail else q.own k, ⟨h.head_kept hc (by simp), h.ob_kept hc, ⟨F', hT', fun k hk => by simp only [if_pos hk]⟩, h.cl.kept hc (by simp), fun i hi => (h.lc i hi).kept hc (by simp), h.lo.kept hc (by simp), h.wa.kept hc (by simp), fun p hp => (h.wb p hp).kept hc (by simp), h.le.kept hc (by simp), fun k hk => (h.lb k hk).kept hc (by simp), hc.fr⟩, hc.ext (by simp) rfl rfl⟩
theorem Sg.grow (h : Sg B w0 w b S q) (hn : S.n + 1 ≤ 90000) :
    Calls Try.prog 24 #[.pointer (some ⟨q.bt, 0, none⟩)] w fun e w' => e = .returned (.int .i64 ((S.n : Int) + 1)) ∧ ∃ q', Sg B w0 w' b (growF S) q' ∧ Ext q q' w w' := by
  obtain ⟨F, hT, hF⟩ := h.eng.tr
  refine (tgrow_any w hT (by omega)).mono fun e w' ⟨he, ht⟩ => ⟨he, ?_⟩
  obtain ⟨own', hE, hX⟩ := h.eng.trailGrow hF ht
  exact ⟨_, h.to hE (inv_grow h.inv hn) hX, hX⟩
/-- None of the engine's blocks, nor the record's box. -/
def Apt (q : Pm) (B bw : Nat) (A : Option Addr) : Prop := ∀ i, onB A i → q.own i = .no ∧ B ≤ i ∧ i ≠ bw
theorem Apt.nil (q : Pm) (B bw : Nat) : Apt q B bw none := fun i hi => absurd hi (onB_none i)
theorem Apt.new {g : Nat} (hs : Sg B w0 w b S q) (hl : bw < w.heap.size) (hg : w.heap.size ≤ g) : Apt q B bw (some ⟨g, 0, none⟩) := fun i hi => by
  rw [onB_some] at hi
  have hi : i = g := hi
  rw [hi]
  exact ⟨hs.fresh hg, Nat.le_trans hs.hs hg, by omega⟩
/-- The record's parts. -/
structure ZP (w : World) (q : Pm) (B bw : Nat) (A1 : Option Addr) (c1 : Nat) (A2 : Option Addr) (c2 : Nat) (A3 : Option Addr) (c3 : Nat) (all : List (List Int)) (pres : List Bool) (dec : List Int) : Prop where
  al : AllZ w q B bw A1 c1 all
  pr : SlV 4 1 w A2 pres.length c2 (blC pres)
  po : Apt q B bw A2
  de : SlV 43 1 w A3 dec.length c3 (lsC dec)
  ao : Apt q B bw A3
variable {A1 A2 A3 : Option Addr} {c1 c2 c3 : Nat}
theorem ZP.keep (h : ZP w q B bw A1 c1 A2 c2 A3 c3 all pres dec) (hk : ∀ i, i < w.heap.size → q.own i = .no → i ≠ bw → w'.heap[i]? = w.heap[i]? ∧ q'.own i = .no) : ZP w' q' B bw A1 c1 A2 c2 A3 c3 all pres dec :=
  ⟨h.al.keep hk, h.pr.same fun i hi => (hk i (h.pr.lt i hi) (h.po i hi).1 (h.po i hi).2.2).1, fun i hi => ⟨(hk i (h.pr.lt i hi) (h.po i hi).1 (h.po i hi).2.2).2, (h.po i hi).2⟩,
   h.de.same fun i hi => (hk i (h.de.lt i hi) (h.ao i hi).1 (h.ao i hi).2.2).1, fun i hi => ⟨(hk i (h.de.lt i hi) (h.ao i hi).1 (h.ao i hi).2.2).2, (h.ao i hi).2⟩⟩
/-- A clause more. -/
theorem ZP.app1 (h : ZP w q B bw A1 c1 A2 c2 A3 c3 all pres dec) (hs : Sg B w0 w b S q) (hl : bw < w.heap.size) {f : Nat → Value} (hf : SlV 29 1 w A1 all.length c1 f)
    (hj : ∀ j, j < all.length → ∃ A' c', f j = .slice A' (all.getD j []).length c' ∧ SlV 43 1 w A' (all.getD j []).length c' (lsC (all.getD j [])) ∧ ∀ i, onB A' i → q.own i = .no ∧ B ≤ i ∧ i ≠ bw)
    {Ay : Option Addr} {cy g c' : Nat} {ys : List Int} {w1 : World} (hy : SlV 43 1 w Ay ys.length cy (lsC ys)) (hyo : Apt q B bw Ay)
    (hr : RowV 29 1 w1 g (all.length + 1) c' (appV f (all.length * 1) [.slice Ay ys.length cy])) (hg : onB A1 g ∨ w.heap.size ≤ g) (hk : Kf (fun i => onB A1 i) w w1) :
    ZP w1 q B bw (some ⟨g, 0, none⟩) c' A2 c2 A3 c3 (all ++ [ys]) pres dec := by
  have ho := h.al.out
  refine ⟨⟨⟨appV f (all.length * 1) [.slice Ay ys.length cy], .inr ⟨g, rfl, by rw [show (all ++ [ys]).length = all.length + 1 by simp]; exact hr⟩, fun j hj' => ?_⟩, fun i hi => ?_⟩, h.pr.kept hk (fun i hi hn => SlV.apart hf h.pr (by decide) hn hi), h.po, h.de.kept hk (fun i hi hn => SlV.apart hf h.de (by decide) hn hi), h.ao⟩
  · have hl : (all ++ [ys]).length = all.length + 1 := by simp
    by_cases e : j < all.length
    · obtain ⟨A', c', e1, e2, e3⟩ := hj j e
      have hgd : (all ++ [ys]).getD j [] = all.getD j [] := by rw [List.getD, List.getD, List.getElem?_append_left e]
      rw [hgd]
      refine ⟨A', c', ?_, e2.kept hk (fun i hi hn => SlV.apart hf e2 (by decide) hn hi), e3⟩
      unfold appV; rw [if_pos (by omega)]; exact e1
    · have e2 : j = all.length := by omega
      subst e2
      have hgd : (all ++ [ys]).getD all.length [] = ys := by simp
      rw [hgd]
      refine ⟨Ay, cy, ?_, hy.kept hk (fun i hi hn => SlV.apart hf hy (by decide) hn hi), hyo⟩
      unfold appV; rw [if_neg (by omega)]; simp
  · rcases hg with e | e
    · rw [onB_some] at hi
      have hi : i = g := hi
      rw [hi]; exact ho g e
    · exact Apt.new hs hl e i hi
/-- A Boolean more. -/
theorem ZP.app2 (h : ZP w q B bw A1 c1 A2 c2 A3 c3 all pres dec) (hs : Sg B w0 w b S q) (hl : bw < w.heap.size) {g c' : Nat} {v : Bool} {w1 : World}
    (hr : RowV 4 1 w1 g (pres.length + 1) c' (appV (blC pres) (pres.length * 1) [.bool v])) (hg : onB A2 g ∨ w.heap.size ≤ g) (hk : Kf (fun i => onB A2 i) w w1) :
    ZP w1 q B bw A1 c1 (some ⟨g, 0, none⟩) c' A3 c3 all (pres ++ [v]) dec := by
  obtain ⟨f, hf, hj⟩ := h.al.row
  refine ⟨⟨⟨f, hf.kept hk (fun i hi hn => SlV.apart h.pr hf (by decide) hn hi), fun j hj' => ?_⟩, h.al.out⟩, .inr ⟨g, rfl, ?_⟩, fun i hi => ?_, h.de.kept hk (fun i hi hn => SlV.apart h.pr h.de (by decide) hn hi), h.ao⟩
  · obtain ⟨A', c', e1, e2, e3⟩ := hj j hj'
    exact ⟨A', c', e1, e2.kept hk (fun i hi hn => SlV.apart h.pr e2 (by decide) hn hi), e3⟩
  · rw [show (pres ++ [v]).length = pres.length + 1 by simp]
    refine hr.congr fun j hj => ?_
    unfold appV blC
    by_cases e : j < pres.length
    · rw [if_pos (by omega), List.getD, List.getD, List.getElem?_append_left e]
    · obtain rfl : j = pres.length := by omega
      rw [if_neg (by omega)]; simp
  · rcases hg with e | e
    · rw [onB_some] at hi
      have hi : i = g := hi
      rw [hi]; exact h.po g e
    · exact Apt.new hs hl e i hi
/-- A Boolean is written. -/
theorem ZP.set2 (h : ZP w q B bw A1 c1 A2 c2 A3 c3 all pres dec) {g k : Nat} (hA : A2 = some ⟨g, 0, none⟩) (hkl : k < pres.length) (v : Bool) :
    ZP (w.setCell ⟨g, k, none⟩ (.bool v)) q B bw A1 c1 A2 c2 A3 c3 all (pres.set k v) dec := by
  obtain ⟨f, hf, hj⟩ := h.al.row
  have hk : Kf (fun i => onB A2 i) w (w.setCell ⟨g, k, none⟩ (.bool v)) := (Kf.refl _ w).set (.inl (by rw [hA, onB_some])) _
  refine ⟨⟨⟨f, hf.kept hk (fun i hi hn => SlV.apart h.pr hf (by decide) hn hi), fun j hj' => ?_⟩, h.al.out⟩, ?_, h.po, h.de.kept hk (fun i hi hn => SlV.apart h.pr h.de (by decide) hn hi), h.ao⟩
  · obtain ⟨A', c', e1, e2, e3⟩ := hj j hj'
    exact ⟨A', c', e1, e2.kept hk (fun i hi hn => SlV.apart h.pr e2 (by decide) hn hi), e3⟩
  · obtain ⟨g', e, hr⟩ := h.pr.row (by omega)
    rw [hA] at e
    injection e with e
    injection e with e
    subst e
    refine .inr ⟨g, hA, ?_⟩
    rw [List.length_set]
    refine (hr.set (show k < pres.length * 1 by omega) (.bool v)).congr fun j hj => ?_
    unfold updV blC
    by_cases e : j = k
    · subst e; simp [hkl]
    · rw [if_neg e, List.getD, List.getD, List.getElem?_set_ne (fun e2 => e e2.symm)]
/-- The law's record in memory, beside its engine. -/
structure WZ (B : Nat) (w0 w : World) (bw b n : Nat) (S : Eng) (q : Pm) (all : List (List Int)) (pres : List Bool) (dec : List Int) : Prop where
  sg : Sg B w0 w b S q
  own : q.own bw = .no
  hb : B ≤ bw
  mem : ∃ A1 c1 A2 c2 A3 c3, w.heap[bw]? = some (.cells #[.int .i64 (n : Int), .slice A1 all.length c1, .slice A2 pres.length c2, .slice A3 dec.length c3] 31 (0, 0)) ∧ ZP w q B bw A1 c1 A2 c2 A3 c3 all pres dec
variable {n : Nat}
theorem WZ.lt (h : WZ B w0 w bw b n S q all pres dec) : bw < w.heap.size := by obtain ⟨_, _, _, _, _, _, hh, _⟩ := h.mem; exact lt_of_heap hh
theorem WZ.ext (h : WZ B w0 w bw b n S q all pres dec) (hs : Sg B w0 w' b S' q') (hx : Ext q q' w w') : WZ B w0 w' bw b n S' q' all pres dec := by
  obtain ⟨A1, c1, A2, c2, A3, c3, hh, hz⟩ := h.mem
  have hb := hx.blk h.lt h.own
  exact ⟨hs, hb.2, h.hb, A1, c1, A2, c2, A3, c3, by rw [hb.1]; exact hh, hz.keep fun i hi ho _ => hx.blk hi ho⟩
theorem WZ.below (h : WZ B w0 w bw b n S q all pres dec) (hb : Below w.heap.size w w') : WZ B w0 w' bw b n S q all pres dec := by
  obtain ⟨A1, c1, A2, c2, A3, c3, hh, hz⟩ := h.mem
  exact ⟨h.sg.below hb, h.own, h.hb, A1, c1, A2, c2, A3, c3, by rw [hb.block bw h.lt]; exact hh, hz.keep fun i hi ho _ => ⟨hb.block i hi, ho⟩⟩
/-- A store into the record's box. -/
theorem wz_store {k : Nat} {v x0 x1 x2 x3 : Value} (hs : Sg B w0 w b S q) (ho : q.own bw = .no) (hb : B ≤ bw) (hh : w.heap[bw]? = some (.cells #[x0, x1, x2, x3] 31 (0, 0))) (hz : ZP w q B bw A1 c1 A2 c2 A3 c3 all pres dec)
    (hc : (#[x0, x1, x2, x3] : Array Value).set! k v = #[.int .i64 (n : Int), .slice A1 all.length c1, .slice A2 pres.length c2, .slice A3 dec.length c3]) : WZ B w0 (w.setCell ⟨bw, k, none⟩ v) bw b n S q all pres dec := by
  have hk : Kf (fun i => i = bw) w (w.setCell ⟨bw, k, none⟩ v) := (Kf.refl (fun i => i = bw) w).set (p := ⟨bw, k, none⟩) (.inl rfl) _
  refine ⟨hs.kept hk (fun i hi => by rw [hi]; exact ⟨ho, hb⟩), ho, hb, A1, c1, A2, c2, A3, c3, ?_, hz.keep fun i hi hoi hne => ⟨hk.block i hi hne, hoi⟩⟩
  rw [Lib.heap_setCell_same hh, ← hc]; rfl
end
end Go.Proofs.Ytdecejhobefefaa
