/- A Knit in memory, with its sink and the clauses that it got: each block has one owner; what stays behind a change. -/
import Derived.Test.YtmiifhclcknhdaaKntM
import Derived.Test.YtmiifhclcknhdaaAppZ
import Derived.Test.YtmiifhclcknhdaaGliv
import Derived.Test.YtmiifhclcknhdaaWOpn
namespace Go.Proofs.Ytmiifhclcknhdaa
open Go.RowKit GatM KntM

/-- Literals as cells. -/
def zF (l : List Int) (j : Nat) : Value := .int .i32 (l.getD j 0)
def vrF (K : List Nat) (j : Nat) : Value := .int .i32 ((vr K j : Nat) : Int)
/-- Its addresses; whose each block is (0: not its; 1 the Knit, 2 the sink, 3 the variables, 4 the spare ones, 5 the clauses' row, 6 a clause). -/
structure KnC where
  bk : Nat
  bs : Nat
  Av : Option Addr
  cv : Nat
  As : Option Addr
  cs : Nat
  Ac : Option Addr
  cc : Nat
  own : Nat → Nat
/-- What it holds: the graph's block; the variables' length, whose they are; how many are known; the spare ones; the sink's variables, its most, its clauses. -/
structure KnS where
  bg : Nat
  m : Nat
  K : List Nat
  kn : Nat
  S : List Nat
  nv : Nat
  M : Nat
  F : List (List Int)
def KnC.kV (q : KnC) (s : KnS) : Array Value := #[.pointer (some ⟨s.bg, 0, none⟩), .iface 31 (.pointer (some ⟨q.bs, 0, none⟩)), .slice q.Av s.m q.cv, .int .i64 (s.kn : Int), .slice q.As s.S.length q.cs]
def KnC.sV (q : KnC) (s : KnS) : Array Value := #[.int .i64 (s.nv : Int), .slice q.Ac s.F.length q.cc, .int .i64 (s.M : Int)]
/-- Each clause stands in a block of its own. -/
def ClsF (w : World) (own : Nat → Nat) (F : List (List Int)) (f : Nat → Value) : Prop :=
  ∀ j, j < F.length → ∃ b c, f j = .slice (some ⟨b, 0, none⟩) (F.getD j []).length c ∧ own b = 6 ∧ RowV 38 1 w b (F.getD j []).length c (zF (F.getD j []))
structure KnAt (w : World) (q : KnC) (s : KnS) : Prop where
  hk : w.heap[q.bk]? = some (.cells (q.kV s) 71 (0, 0))
  hs : w.heap[q.bs]? = some (.cells (q.sV s) 36 (0, 0))
  vs : SlV 38 1 w q.Av s.m q.cv (vrF s.K) ∧ ∀ k, onB q.Av k → q.own k = 3
  sp : SlO 38 w q.As s.S.length q.cs (numF .i32 s.S) ∧ ∀ k, onB q.As k → q.own k = 4
  cl : ∃ f, (SlV 60 1 w q.Ac s.F.length q.cc f ∧ ∀ k, onB q.Ac k → q.own k = 5) ∧ ClsF w q.own s.F f
  ok : q.own q.bk = 1
  os : q.own q.bs = 2
  fr : ∀ k, w.heap.size ≤ k → q.own k = 0
/-- Only the blocks of O's owners are other ones; what was owned has its owner still. -/
structure KChg (O : Nat → Prop) (own own' : Nat → Nat) (w w' : World) : Prop where
  kf : Kf (fun k => O (own k)) w w'
  old : ∀ k, k < w.heap.size → own' k = own k
  fr : ∀ k, w'.heap.size ≤ k → own' k = 0
/-- What a call leaves: others' blocks are as they were. -/
structure KnTo (w w' : World) (q q' : KnC) : Prop where
  kf : Kf (fun k => q.own k ≠ 0) w w'
  nw : ∀ k, q'.own k ≠ 0 → q.own k ≠ 0 ∨ w.heap.size ≤ k
  bk : q'.bk = q.bk
  bs : q'.bs = q.bs
def relabN (own : Nat → Nat) (g o : Nat) : Nat → Nat := fun k => if k = g then o else own k
theorem relabN_at (own : Nat → Nat) (g o : Nat) : relabN own g o g = o := by simp [relabN]
theorem relabN_old {own : Nat → Nat} {g o k : Nat} (h : own g = o ∨ k ≠ g) : relabN own g o k = own k := by
  unfold relabN
  by_cases e : k = g
  · rw [if_pos e]
    rcases h with h | h
    · rw [e, h]
    · exact absurd e h
  · rw [if_neg e]
section
variable {w w' w2 : World} {q q' q2 : KnC} {s s' : KnS} {O : Nat → Prop} {own' : Nat → Nat}
theorem KnTo.refl (w : World) (q : KnC) : KnTo w w q q := ⟨Kf.refl _ _, fun _ h => .inl h, rfl, rfl⟩
theorem KnTo.trans (h : KnTo w w' q q') (k : KnTo w' w2 q' q2) : KnTo w w2 q q2 :=
  ⟨h.kf.trans k.kf fun x hx => h.nw x hx, fun x hx => by
    rcases k.nw x hx with e | e
    · exact h.nw x e
    · exact .inr (Nat.le_trans h.kf.size e), k.bk.trans h.bk, k.bs.trans h.bs⟩
theorem KnTo.ofBelow (hb : Below w.heap.size w w') : KnTo w w' q q := ⟨Kf.of_below hb, fun _ h => .inl h, rfl, rfl⟩
/-- Blocks of others stay, and stay theirs. -/
theorem KnTo.other (h : KnTo w w' q q') {k : Nat} (hk : k < w.heap.size) (ho : q.own k = 0) : w'.heap[k]? = w.heap[k]? ∧ q'.own k = 0 :=
  ⟨h.kf.block k hk (fun e => e ho), Classical.byContradiction fun e => by
    rcases h.nw k e with y | y
    · exact y ho
    · omega⟩
theorem KnAt.ltk (h : KnAt w q s) : q.bk < w.heap.size := lt_of_heap h.hk
theorem KnAt.lts (h : KnAt w q s) : q.bs < w.heap.size := lt_of_heap h.hs
theorem KnAt.lt (h : KnAt w q s) {k : Nat} (hk : q.own k ≠ 0) : k < w.heap.size := by
  rcases Nat.lt_or_ge k w.heap.size with e | e
  · exact e
  · exact absurd (h.fr k e) hk
theorem KnAt.nes (h : KnAt w q s) : q.bk ≠ q.bs := fun e => by have := h.ok; rw [e, h.os] at this; cases this
theorem KnAt.cells (h : KnAt w q s) : w.cell? ⟨q.bk, 0, none⟩ = some (.pointer (some ⟨s.bg, 0, none⟩)) ∧ w.cell? ⟨q.bk, 1, none⟩ = some (.iface 31 (.pointer (some ⟨q.bs, 0, none⟩))) ∧ w.cell? ⟨q.bk, 2, none⟩ = some (.slice q.Av s.m q.cv) ∧
    w.cell? ⟨q.bk, 3, none⟩ = some (.int .i64 (s.kn : Int)) ∧ w.cell? ⟨q.bk, 4, none⟩ = some (.slice q.As s.S.length q.cs) ∧ ∀ j, w.frozen? ⟨q.bk, j, none⟩ = false := by
  have hh := h.hk
  refine ⟨?_, ?_, ?_, ?_, ?_, fun j => Lib.frozen_of_heap hh j⟩
  all_goals (rw [Lib.cell_of_heap hh]; rfl)
theorem KnAt.scells (h : KnAt w q s) : w.cell? ⟨q.bs, 0, none⟩ = some (.int .i64 (s.nv : Int)) ∧ w.cell? ⟨q.bs, 1, none⟩ = some (.slice q.Ac s.F.length q.cc) ∧ w.cell? ⟨q.bs, 2, none⟩ = some (.int .i64 (s.M : Int)) ∧ ∀ j, w.frozen? ⟨q.bs, j, none⟩ = false := by
  have hh := h.hs
  refine ⟨?_, ?_, ?_, fun j => Lib.frozen_of_heap hh j⟩
  all_goals (rw [Lib.cell_of_heap hh]; rfl)
theorem KnAt.chg (h : KnAt w q s) (hk : Kf (fun k => O (q.own k)) w w') : KChg O q.own q.own w w' := ⟨hk, fun _ _ => rfl, fun k e => h.fr k (Nat.le_trans hk.size e)⟩
theorem KnAt.chg_new (h : KnAt w q s) {g o : Nat} (hk : Kf (fun k => O (q.own k)) w w') (hg : q.own g = o ∨ w.heap.size ≤ g) (hl : g < w'.heap.size) : KChg O q.own (relabN q.own g o) w w' :=
  ⟨hk, fun k hk' => relabN_old (hg.imp id fun e => by omega), fun k e => by
    have := hk.size
    rw [relabN_old (.inr (by omega))]; exact h.fr k (by omega)⟩
theorem KChg.to (hc : KChg O q.own own' w w') (ho : ¬ O 0) (h1 : q'.own = own') (h2 : q'.bk = q.bk) (h3 : q'.bs = q.bs) : KnTo w w' q q' :=
  ⟨hc.kf.mono fun x hx => .inl (fun e => ho (by rw [e] at hx; exact hx)), fun k hk => by
    rcases Nat.lt_or_ge k w.heap.size with e | e
    · left; rw [h1, hc.old k e] at hk; exact hk
    · exact .inr e, h2, h3⟩
theorem KnAt.blk (h : KnAt w q s) (hc : KChg O q.own own' w w') {k o : Nat} (hk : q.own k = o) (h0 : o ≠ 0) (ho : ¬ O o) : w'.heap[k]? = w.heap[k]? ∧ own' k = o := by
  have hlt := h.lt (by rw [hk]; exact h0)
  exact ⟨hc.kf.block k hlt (fun e => ho (by rw [hk] at e; exact e)), by rw [hc.old k hlt]; exact hk⟩
theorem KnAt.hk_kept (h : KnAt w q s) (hc : KChg O q.own own' w w') (ho : ¬ O 1) : w'.heap[q.bk]? = some (.cells (q.kV s) 71 (0, 0)) := by
  rw [(h.blk hc h.ok (by decide) ho).1]; exact h.hk
theorem KnAt.hs_kept (h : KnAt w q s) (hc : KChg O q.own own' w w') (ho : ¬ O 2) : w'.heap[q.bs]? = some (.cells (q.sV s) 36 (0, 0)) := by
  rw [(h.blk hc h.os (by decide) ho).1]; exact h.hs
theorem KnAt.ok_kept (h : KnAt w q s) (hc : KChg O q.own own' w w') : own' q.bk = 1 := by rw [hc.old _ h.ltk]; exact h.ok
theorem KnAt.os_kept (h : KnAt w q s) (hc : KChg O q.own own' w w') : own' q.bs = 2 := by rw [hc.old _ h.lts]; exact h.os
theorem KnAt.vs_kept (h : KnAt w q s) (hc : KChg O q.own own' w w') (ho : ¬ O 3) : SlV 38 1 w' q.Av s.m q.cv (vrF s.K) ∧ ∀ k, onB q.Av k → own' k = 3 :=
  ⟨h.vs.1.same fun k hk => (h.blk hc (h.vs.2 k hk) (by decide) ho).1, fun k hk => by rw [hc.old k (h.vs.1.lt k hk)]; exact h.vs.2 k hk⟩
theorem KnAt.sp_kept (h : KnAt w q s) (hc : KChg O q.own own' w w') (ho : ¬ O 4) : SlO 38 w' q.As s.S.length q.cs (numF .i32 s.S) ∧ ∀ k, onB q.As k → own' k = 4 :=
  ⟨h.sp.1.same fun k hk => (h.blk hc (h.sp.2 k hk) (by decide) ho).1, fun k hk => by rw [hc.old k (h.sp.1.lt k hk)]; exact h.sp.2 k hk⟩
theorem KnAt.cls_kept (h : KnAt w q s) (hc : KChg O q.own own' w w') (ho : ¬ O 6) {f : Nat → Value} (hf : ClsF w q.own s.F f) : ClsF w' own' s.F f := fun j hj => by
  obtain ⟨b, c, e1, e2, e3⟩ := hf j hj
  obtain ⟨p1, p2⟩ := h.blk hc e2 (by decide) ho
  exact ⟨b, c, e1, p2, e3.same p1⟩
theorem KnAt.cl_kept (h : KnAt w q s) (hc : KChg O q.own own' w w') (ho : ¬ O 5) (ho6 : ¬ O 6) : ∃ f, (SlV 60 1 w' q.Ac s.F.length q.cc f ∧ ∀ k, onB q.Ac k → own' k = 5) ∧ ClsF w' own' s.F f := by
  obtain ⟨f, ⟨h1, h2⟩, h3⟩ := h.cl
  exact ⟨f, ⟨h1.same fun k hk => (h.blk hc (h2 k hk) (by decide) ho).1, fun k hk => by rw [hc.old k (h1.lt k hk)]; exact h2 k hk⟩, h.cls_kept hc ho6 h3⟩
/-- Others wrote. -/
theorem KnAt.kept (h : KnAt w q s) (hk : Kf (fun k => q.own k = 0) w w') : KnAt w' q s := by
  have hc : KChg (fun o => o = 0) q.own q.own w w' := h.chg hk
  exact ⟨h.hk_kept hc (by simp), h.hs_kept hc (by simp), h.vs_kept hc (by simp), h.sp_kept hc (by simp), h.cl_kept hc (by simp) (by simp), h.ok, h.os, hc.fr⟩
theorem KnAt.below (h : KnAt w q s) (hb : Below w.heap.size w w') : KnAt w' q s := h.kept ((Kf.of_below hb).mono fun _ hx => .inl hx)
/-- The Knit's own block is written. -/
theorem KnAt.setk (h : KnAt w q s) (i : Nat) (v : Value) (hq : q'.own = q.own) (h1 : q'.bk = q.bk) (h2 : q'.bs = q.bs) (hv : (q.kV s).setIfInBounds i v = q'.kV s') (hs : q'.sV s' = q.sV s)
    (hvs : SlV 38 1 (w.setCell ⟨q.bk, i, none⟩ v) q'.Av s'.m q'.cv (vrF s'.K) ∧ ∀ k, onB q'.Av k → q.own k = 3)
    (hsp : SlO 38 (w.setCell ⟨q.bk, i, none⟩ v) q'.As s'.S.length q'.cs (numF .i32 s'.S) ∧ ∀ k, onB q'.As k → q.own k = 4) (hF : s'.F = s.F) (hA : q'.Ac = q.Ac) (hcc : q'.cc = q.cc) :
    KnAt (w.setCell ⟨q.bk, i, none⟩ v) q' s' ∧ KnTo w (w.setCell ⟨q.bk, i, none⟩ v) q q' := by
  have hk : Kf (fun k => (fun o => o = 1) (q.own k)) w (w.setCell ⟨q.bk, i, none⟩ v) := (Kf.refl _ w).set (.inl h.ok) v
  have hc : KChg (fun o => o = 1) q.own q.own w (w.setCell ⟨q.bk, i, none⟩ v) := h.chg hk
  refine ⟨⟨?_, ?_, by rw [hq]; exact hvs, by rw [hq]; exact hsp, ?_, by rw [hq, h1]; exact h.ok, by rw [hq, h2]; exact h.os, by rw [hq]; exact hc.fr⟩, hc.to (by simp) hq h1 h2⟩
  · rw [h1, Lib.heap_setCell_same h.hk, hv]
  · rw [h2, hs]; exact h.hs_kept hc (by simp)
  · rw [hF, hA, hcc, hq]; exact h.cl_kept hc (by simp) (by simp)
/-- One sink's variable more. -/
theorem KnAt.var (h : KnAt w q s) : KnAt (w.setCell ⟨q.bs, 0, none⟩ (.int .i64 ((s.nv + 1 : Nat) : Int))) q { s with nv := s.nv + 1 } ∧ KnTo w (w.setCell ⟨q.bs, 0, none⟩ (.int .i64 ((s.nv + 1 : Nat) : Int))) q q := by
  have hk : Kf (fun k => (fun o => o = 2) (q.own k)) w (w.setCell ⟨q.bs, 0, none⟩ (.int .i64 ((s.nv + 1 : Nat) : Int))) := (Kf.refl _ w).set (.inl h.os) _
  have hc := h.chg (O := fun o => o = 2) hk
  refine ⟨⟨h.hk_kept hc (by simp), ?_, h.vs_kept hc (by simp), h.sp_kept hc (by simp), h.cl_kept hc (by simp) (by simp), h.ok, h.os, hc.fr⟩, hc.to (by simp) rfl rfl rfl⟩
  rw [Lib.heap_setCell_same h.hs]; rfl
theorem zF_row {cl : List Int} {j : Nat} : appV (fun _ => Value.int .i64 0) 0 (cellsV (zF cl) cl.length) j = zF cl j ∨ cl.length ≤ j := by
  rcases Nat.lt_or_ge j cl.length with e | e
  · left
    unfold appV
    rw [if_neg (by omega), Nat.sub_zero, List.getD, cellsV_get _ e]; rfl
  · exact .inr e
/-- One clause more, which stands in block g. -/
theorem KnAt.addC (h : KnAt w q s) {f : Nat → Value} (hf : (SlV 60 1 w q.Ac s.F.length q.cc f ∧ ∀ k, onB q.Ac k → q.own k = 5) ∧ ClsF w q.own s.F f) {cl : List Int} {W1 Wx w4 : World} {g c g2 c2 : Nat} (hb1 : Below w.heap.size w W1)
    (hg : w.heap.size ≤ g) (hr : RowV 38 1 W1 g cl.length c (zF cl)) (hbx : Below W1.heap.size W1 Wx)
    (hr2 : RowV 60 1 w4 g2 (s.F.length + 1) c2 (appV f (s.F.length * 1) [.slice (some ⟨g, 0, none⟩) cl.length c])) (hg2 : onB q.Ac g2 ∨ Wx.heap.size ≤ g2) (hk : Kf (fun k => onB q.Ac k) Wx w4) :
    (w4.cell? ⟨q.bs, 1, none⟩ = some (.slice q.Ac s.F.length q.cc) ∧ w4.frozen? ⟨q.bs, 1, none⟩ = false) ∧ ∃ q', KnAt (w4.setCell ⟨q.bs, 1, none⟩ (.slice (some ⟨g2, 0, none⟩) (s.F.length + 1) c2)) q' { s with F := s.F ++ [cl] } ∧ KnTo w (w4.setCell ⟨q.bs, 1, none⟩ (.slice (some ⟨g2, 0, none⟩) (s.F.length + 1) c2)) q q' := by
  have hs1 := hb1.size
  have hsx := hbx.size
  have hs4 := hk.size
  have hg1 : g < W1.heap.size := hr.lt
  have hlA : ∀ k, onB q.Ac k → k < w.heap.size := hf.1.1.lt
  have hbs : ¬ onB q.Ac q.bs := fun e => by have := hf.1.2 _ e; rw [h.os] at this; cases this
  have K1 : Kf (fun k => (fun o => o = 2 ∨ o = 5) (q.own k)) w w4 := ((Kf.of_below hb1).trans ((Kf.of_below hbx).trans hk fun x hx => .inl hx) (fun x hx => .inl hx)).mono fun x hx => .inl (.inr (hf.1.2 x hx))
  have K2 := K1.set (p := ⟨q.bs, 1, none⟩) (.inl (.inl h.os)) (.slice (some ⟨g2, 0, none⟩) (s.F.length + 1) c2)
  have hg2' : q.own g2 = 5 ∨ w.heap.size ≤ g2 := hg2.imp (hf.1.2 g2) (fun e => by omega)
  have hl2 : g2 < w4.heap.size := hr2.lt
  have hne : g2 ≠ g := by
    rintro rfl
    rcases hg2 with e | e
    · have := hlA _ e; omega
    · omega
  have hns : q.bs ≠ g2 := by
    intro e
    rcases hg2' with y | y
    · rw [← e, h.os] at y; cases y
    · have := h.lts; omega
  have hc1 : KChg (fun o => o = 2 ∨ o = 5) q.own (relabN q.own g2 5) w (w4.setCell ⟨q.bs, 1, none⟩ (.slice (some ⟨g2, 0, none⟩) (s.F.length + 1) c2)) := h.chg_new K2 hg2' (by simp only [World.setCell, Array.size_modify]; exact hl2)
  have hc : KChg (fun o => o = 2 ∨ o = 5) q.own (relabN (relabN q.own g2 5) g 6) w (w4.setCell ⟨q.bs, 1, none⟩ (.slice (some ⟨g2, 0, none⟩) (s.F.length + 1) c2)) :=
    ⟨K2, fun k hk' => by rw [relabN_old (.inr (by omega))]; exact hc1.old k hk', fun k e => by
      have e2 : w4.heap.size ≤ k := by simpa [World.setCell, Array.size_modify] using e
      rw [relabN_old (.inr (by omega))]; exact hc1.fr k e⟩
  have e0 : w4.heap[q.bs]? = some (.cells (q.sV s) 36 (0, 0)) := by
    rw [hk.block q.bs (by have := h.lts; omega) hbs, hbx.block _ (by have := h.lts; omega), hb1.block _ h.lts]; exact h.hs
  refine ⟨⟨by rw [Lib.cell_of_heap e0]; rfl, Lib.frozen_of_heap e0 _⟩, { q with own := relabN (relabN q.own g2 5) g 6, Ac := some ⟨g2, 0, none⟩, cc := c2 }, ⟨h.hk_kept hc (by simp), ?_, h.vs_kept hc (by simp), h.sp_kept hc (by simp), ?_, h.ok_kept hc, h.os_kept hc, hc.fr⟩, hc.to (by simp) rfl rfl rfl⟩
  · rw [Lib.heap_setCell_same e0]
    unfold KnC.sV
    simp
  · have hl : (s.F ++ [cl]).length = s.F.length + 1 := by simp
    refine ⟨appV f (s.F.length * 1) [.slice (some ⟨g, 0, none⟩) cl.length c], ⟨?_, fun k hk' => ?_⟩, fun j hj => ?_⟩
    · show SlV _ 1 _ (some ⟨g2, 0, none⟩) (s.F ++ [cl]).length c2 _
      rw [hl]
      exact .inr ⟨g2, rfl, hr2.other (a := ⟨q.bs, 1, none⟩) hns _⟩
    · have hk' : onB (some ⟨g2, 0, none⟩) k := hk'
      rw [onB_some] at hk'
      have hk' : k = g2 := hk'
      subst hk'
      show relabN (relabN q.own k 5) g 6 k = 5
      rw [relabN_old (.inr hne), relabN_at]
    · have hj : j < s.F.length + 1 := by rw [← hl]; exact hj
      show ∃ b c', appV f (s.F.length * 1) [.slice (some ⟨g, 0, none⟩) cl.length c] j = _ ∧ relabN (relabN q.own g2 5) g 6 b = 6 ∧ RowV _ 1 _ b ((s.F ++ [cl]).getD j []).length c' (zF ((s.F ++ [cl]).getD j []))
      by_cases e : j < s.F.length
      · have e1 : (s.F ++ [cl]).getD j [] = s.F.getD j [] := by rw [List.getD, List.getD, List.getElem?_append_left e]
        rw [e1]
        have e2 : appV f (s.F.length * 1) [.slice (some ⟨g, 0, none⟩) cl.length c] j = f j := by unfold appV; rw [if_pos (by omega)]
        rw [e2]
        exact h.cls_kept hc (by simp) hf.2 j e
      · obtain rfl : j = s.F.length := by omega
        have e1 : (s.F ++ [cl]).getD s.F.length [] = cl := by rw [List.getD, List.getElem?_append_right (Nat.le_refl _)]; simp
        rw [e1]
        refine ⟨g, c, ?_, relabN_at _ _ _, hr.same ?_⟩
        · unfold appV; rw [if_neg (by omega), Nat.mul_one, Nat.sub_self]; rfl
        · rw [Below.heap_setCell _ _ _ _ (show g ≠ q.bs by have := h.lts; omega), hk.block g (by omega) (fun e => by have := hlA _ e; omega), hbx.block g hg1]
end
end Go.Proofs.Ytmiifhclcknhdaa
