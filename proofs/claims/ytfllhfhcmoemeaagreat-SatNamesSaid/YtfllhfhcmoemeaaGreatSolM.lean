/- A solver in memory: its struct, its engine, its rank, its pace, the values that are tried. Contracts of Vars, full, has, Conflicts. A solver's put, Add, Core, Model: contracts. A solver's New and Var: contracts. -/
import Derived.Test.YtfllhfhcmoemeaaGreatEGo
import Derived.Test.YtfllhfhcmoemeaaGreatRankA
import Derived.Test.YtfllhfhcmoemeaaGreatPacP
import Derived.Deep.QuietTactic
import Derived.BigQuiet
import Derived.Deep.DeepCutAuto
import Derived.Shelf.SlicesE.IndexFunc
import Derived.Test.YtfllhfhcmoemeaaGreatRevC
import Derived.BigRegion
import Derived.Laws.AppendOwnNone
import Derived.Deep.RegionHeld3
import Derived.Deep.RegionWith
namespace Go.Proofs.YtfllhfhcmoemeaaGreat
open Go.Shelf Go.RowKit Go.Lib Go.Sort LitM TrailM EngM

section
variable {B b : Nat} {w0 w w' : World} {S : Eng} {q : Pm}
theorem E6.trailGrow {d : Nat} (h : E6 w b q S d) {F : Nat → Prop} (hF : ∀ k, F k → q.own k = .trail) {n' d' : Nat} {L' : List Ent} (hT : TrailTo F w w' q.bt n' d' L') :
    ∃ own', E6 w' b { q with own := own' } { S with n := n', L := L' } d' ∧ Ext q { q with own := own' } w w' := by
  obtain ⟨F', hT', hN, hK⟩ := hT
  have hK' : Kf (fun k => q.own k = .trail) w w' := hK.mono fun x hx => .inl (hF x hx)
  classical
  have hc : Chg (fun o => o = .trail) q.own (fun k => if F' k then .trail else q.own k) w w' := ⟨hK', fun k hk => by
    by_cases e : F' k
    · simp only [if_pos e]
      rcases hN k e with x | x
      · exact (hF k x).symm
      · omega
    · simp only [if_neg e], fun k hk => by
    have hn : ¬ F' k := fun e => by have := hT'.foot k e; omega
    simp only [if_neg hn]; exact h.fr k (Nat.le_trans hK.size hk)⟩
  refine ⟨fun k => if F' k then .trail else q.own k, ⟨h.head_kept hc (by simp), h.ob_kept hc, ⟨F', hT', fun k hk => by simp only [if_pos hk]⟩, h.cl.kept hc (by simp), fun i hi => (h.lc i hi).kept hc (by simp), h.lo.kept hc (by simp), h.wa.kept hc (by simp), fun p hp => (h.wb p hp).kept hc (by simp), h.le.kept hc (by simp), fun k hk => (h.lb k hk).kept hc (by simp), hc.fr⟩, hc.ext (by simp) rfl rfl⟩
theorem Sg.grow (h : Sg B w0 w b S q) (hn : S.n + 1 ≤ 90000) :
    Calls Tryz.prog 35 #[.pointer (some ⟨q.bt, 0, none⟩)] w fun e w' => e = .returned (.int .i64 ((S.n : Int) + 1)) ∧ ∃ q', Sg B w0 w' b (growF S) q' ∧ Ext q q' w w' := by
  obtain ⟨F, hT, hF⟩ := h.eng.tr
  refine (tgrow_any w hT (by omega)).mono fun e w' ⟨he, ht⟩ => ⟨he, ?_⟩
  obtain ⟨own', hE, hX⟩ := h.eng.trailGrow hF ht
  exact ⟨_, h.to hE (inv_grow h.inv hn) hX, hX⟩
end
/-- Booleans as values. -/
def boC (bs : List Bool) (j : Nat) : Value := .bool (bs.getD j false)
/-- What a solver's struct holds (gm: blocks beside it that it leaves alone). -/
structure SolC where
  sd : Int
  bp : Nat
  be : Nat
  br : Nat
  by_ : Int
  vA : Option Addr
  vc : Nat
  many : Int
  les : Value
  log : Value
  con : Bool
  mod : Value
  core : Value
  gm : Nat → Option Obj
def SolC.cells (c : SolC) (n : Nat) : Array Value := #[.int .u64 c.sd, .pointer (some ⟨c.bp, 0, none⟩), .pointer (some ⟨c.be, 0, none⟩), .pointer (some ⟨c.br, 0, none⟩), .int .i64 c.by_, .slice c.vA n c.vc, .int .i64 c.many, c.les, c.log, .bool c.con, c.mod, c.core]
/-- A solver of a law's own: at block bs; its engine S, its rank (F: that one's blocks; scores, who waits), the values that are tried. -/
structure SolG (B : Nat) (w0 w : World) (bs : Nat) (c : SolC) (S : Eng) (q : Pm) (F : Nat → Prop) (nr : Nat) (sc : Nat → Int) (wt : Nat → Bool) (vs : List Bool) : Prop where
  hh : w.heap[bs]? = some (.cells (c.cells vs.length) 61 (0, 0))
  eng : Sg B w0 w c.be S q
  rk : RankAt w c.br F nr sc wt
  pc : ∃ u r k s n, PaceAt w c.bp c.sd u r k s n ∧ 0 ≤ k ∧ k ≤ 100000
  vr : SlV 4 1 w c.vA vs.length c.vc (boC vs)
  sd0 : 0 ≤ c.sd ∧ c.sd ≤ 18446744073709551615
  ob : q.own bs = .no ∧ ¬ F bs ∧ B ≤ bs ∧ bs ≠ c.bp ∧ ¬ onB c.vA bs
  op : q.own c.bp = .no ∧ ¬ F c.bp ∧ B ≤ c.bp ∧ ¬ onB c.vA c.bp
  oF : ∀ k, F k → q.own k = .no ∧ B ≤ k ∧ ¬ onB c.vA k
  ov : ∀ k, onB c.vA k → q.own k = .no ∧ B ≤ k
  gu : ∀ k o, c.gm k = some o → w.heap[k]? = some o ∧ q.own k = .no ∧ ¬ F k ∧ k ≠ bs ∧ k ≠ c.bp ∧ ¬ onB c.vA k
section
variable {B bs : Nat} {w0 w w' : World} {c : SolC} {S S' : Eng} {q q' : Pm} {F : Nat → Prop} {nr nr' : Nat} {sc : Nat → Int} {wt : Nat → Bool} {vs : List Bool}
theorem SolG.lt (h : SolG B w0 w bs c S q F nr sc wt vs) : bs < w.heap.size := lt_of_heap h.hh
theorem SolG.ltp (h : SolG B w0 w bs c S q F nr sc wt vs) : c.bp < w.heap.size := by
  obtain ⟨u, r, k, s, n, hp, _⟩ := h.pc
  exact hp.lt
/-- The struct's cells. -/
theorem SolG.cells (h : SolG B w0 w bs c S q F nr sc wt vs) : w.cell? ⟨bs, 0, none⟩ = some (.int .u64 c.sd) ∧ w.cell? ⟨bs, 1, none⟩ = some (.pointer (some ⟨c.bp, 0, none⟩)) ∧ w.cell? ⟨bs, 2, none⟩ = some (.pointer (some ⟨c.be, 0, none⟩)) ∧ w.cell? ⟨bs, 3, none⟩ = some (.pointer (some ⟨c.br, 0, none⟩)) ∧ w.cell? ⟨bs, 4, none⟩ = some (.int .i64 c.by_) ∧ w.cell? ⟨bs, 5, none⟩ = some (.slice c.vA vs.length c.vc) ∧ w.cell? ⟨bs, 6, none⟩ = some (.int .i64 c.many) ∧ w.cell? ⟨bs, 7, none⟩ = some c.les ∧ w.cell? ⟨bs, 8, none⟩ = some c.log ∧ w.cell? ⟨bs, 9, none⟩ = some (.bool c.con) ∧ w.cell? ⟨bs, 10, none⟩ = some c.mod ∧ w.cell? ⟨bs, 11, none⟩ = some c.core ∧ (∀ j, w.frozen? ⟨bs, j, none⟩ = false) := by
  have hh := h.hh
  refine ⟨?_, ?_, ?_, ?_, ?_, ?_, ?_, ?_, ?_, ?_, ?_, ?_, fun j => Lib.frozen_of_heap hh j⟩
  all_goals (rw [Lib.cell_of_heap hh]; rfl)
/-- The engine's cell that holds its trail. -/
theorem SolG.e0 (h : SolG B w0 w bs c S q F nr sc wt vs) : w.cell? ⟨c.be, 0, none⟩ = some (.pointer (some ⟨q.bt, 0, none⟩)) := h.eng.eng.h0
/-- Where nothing that was there has changed. -/
theorem SolG.below (h : SolG B w0 w bs c S q F nr sc wt vs) (hb : Below w.heap.size w w') : SolG B w0 w' bs c S q F nr sc wt vs := by
  obtain ⟨u, r, k, s, n, hp, hk⟩ := h.pc
  exact ⟨by rw [hb.block bs h.lt]; exact h.hh, h.eng.below hb, h.rk.below hb, ⟨u, r, k, s, n, hp.same (hb.block _ hp.lt), hk⟩, h.vr.below hb, h.sd0, h.ob, h.op, h.oF, h.ov, fun k o e => by
    obtain ⟨g1, g2⟩ := h.gu k o e
    exact ⟨by rw [hb.block k (lt_of_heap g1)]; exact g1, g2⟩⟩
theorem SolG.drewN (h : SolG B w0 w bs c S q F nr sc wt vs) (r : Nat) : SolG B w0 (w.drewN r) bs c S q F nr sc wt vs := h.below ⟨rfl, rfl, rfl, Nat.le_refl _, fun _ _ => rfl⟩
/-- Behind a call of the engine's. -/
theorem SolG.ext (h : SolG B w0 w bs c S q F nr sc wt vs) (hs : Sg B w0 w' c.be S' q') (hx : Ext q q' w w') : SolG B w0 w' bs c S' q' F nr sc wt vs := by
  obtain ⟨u, r, k, s, n, hp, hk⟩ := h.pc
  have b1 := hx.blk h.lt h.ob.1
  have b2 := hx.blk h.ltp h.op.1
  have hd : ∀ k, F k → ¬ (fun k => q.own k ≠ .no) k := fun k hF e => e (h.oF k hF).1
  have v1 := hx.sl (fun j hj => (h.ov j hj).1) h.vr
  refine ⟨by rw [b1.1]; exact h.hh, hs, h.rk.kept hx.kf hd, ⟨u, r, k, s, n, hp.same b2.1, hk⟩, v1.1, h.sd0, ⟨b1.2, h.ob.2⟩, ⟨b2.2, h.op.2⟩, fun k hF => ⟨by rw [hx.old k (h.rk.foot k hF)]; exact (h.oF k hF).1, (h.oF k hF).2⟩, fun k hk => ⟨v1.2 k hk, (h.ov k hk).2⟩, fun k o e => ?_⟩
  obtain ⟨g1, g2, g3⟩ := h.gu k o e
  have g4 := hx.blk (lt_of_heap g1) g2
  exact ⟨by rw [g4.1]; exact g1, g4.2, g3⟩
/-- Behind a call of the rank's. -/
theorem SolG.rank {sc' : Nat → Int} {wt' : Nat → Bool} (h : SolG B w0 w bs c S q F nr sc wt vs) (hr : RankTo F w w' c.br nr' sc' wt') : ∃ F', SolG B w0 w' bs c S q F' nr' sc' wt' vs ∧ Kf F w w' ∧ (∀ k, F' k → F k ∨ w.heap.size ≤ k) := by
  obtain ⟨F', hr', hf, hk⟩ := hr
  obtain ⟨u, r, k, s, n, hp, hkk⟩ := h.pc
  have out : ∀ k, k < w.heap.size → ¬ F k → ¬ F' k := fun k hk hF e => by
    rcases hf k e with x | x
    · exact hF x
    · omega
  refine ⟨F', ⟨by rw [hk.block bs h.lt h.ob.2.1]; exact h.hh, h.eng.kept hk (fun k hF => ⟨(h.oF k hF).1, (h.oF k hF).2.1⟩), hr', ⟨u, r, k, s, n, hp.same (hk.block _ hp.lt h.op.2.1), hkk⟩, h.vr.same fun j hj => hk.block j (h.vr.lt j hj) (fun e => (h.oF j e).2.2 hj), h.sd0, ⟨h.ob.1, out bs h.lt h.ob.2.1, h.ob.2.2⟩, ⟨h.op.1, out _ h.ltp h.op.2.1, h.op.2.2⟩, fun k hF => ?_, h.ov, fun k o e => ?_⟩, hk, hf⟩
  · rcases hf k hF with x | x
    · exact h.oF k x
    · exact ⟨h.eng.fresh x, Nat.le_trans h.eng.hs x, fun e => by have := h.vr.lt k e; omega⟩
  · obtain ⟨g1, g2, g3, g4⟩ := h.gu k o e
    exact ⟨by rw [hk.block k (lt_of_heap g1) g3]; exact g1, g2, out k (lt_of_heap g1) g3, g4⟩
/-- A store into the struct. -/
theorem SolG.store {c' : SolC} {k : Nat} {v : Value} (h : SolG B w0 w bs c S q F nr sc wt vs) (hc : (c.cells vs.length).set! k v = c'.cells vs.length) (h1 : c'.sd = c.sd) (h2 : c'.bp = c.bp) (h3 : c'.be = c.be) (h4 : c'.br = c.br) (h5 : c'.vA = c.vA) (h6 : c'.vc = c.vc) (h7 : c'.gm = c.gm) :
    SolG B w0 (w.setCell ⟨bs, k, none⟩ v) bs c' S q F nr sc wt vs := by
  have hk : Kf (fun i => i = bs) w (w.setCell ⟨bs, k, none⟩ v) := (Kf.refl (fun i => i = bs) w).set (p := ⟨bs, k, none⟩) (.inl rfl) _
  obtain ⟨u, r, kk, s, n, hp, hkk⟩ := h.pc
  have e1 := h.eng.kept hk (fun i hi => by rw [hi]; exact ⟨h.ob.1, h.ob.2.2.1⟩)
  have e2 := h.rk.kept hk (fun i hi e => by rw [e] at hi; exact h.ob.2.1 hi)
  have e3 := hp.same (hk.block _ hp.lt (fun e => h.ob.2.2.2.1 e.symm))
  have e4 : SlV 4 1 (w.setCell ⟨bs, k, none⟩ v) c.vA vs.length c.vc (boC vs) := h.vr.same fun j hj => hk.block j (h.vr.lt j hj) (fun e => by rw [e] at hj; exact h.ob.2.2.2.2 hj)
  have o1 := h.ob
  have o2 := h.op
  have o3 := h.oF
  have o4 := h.ov
  have o5 := h.sd0
  have hh := h.hh
  rw [← h3] at e1
  rw [← h4] at e2
  rw [← h1, ← h2] at e3
  rw [← h5, ← h6] at e4
  rw [← h2, ← h5] at o1
  rw [← h2, ← h5] at o2
  rw [← h5] at o3 o4
  rw [← h1] at o5
  exact ⟨by rw [Lib.heap_setCell_same hh, ← hc]; rfl, e1, e2, ⟨u, r, kk, s, n, e3, hkk⟩, e4, o5, o1, o2, o3, o4, fun k o e => by
    rw [h7] at e
    obtain ⟨g1, g2, g3, g4, g5, g6⟩ := h.gu k o e
    rw [h2, h5]
    exact ⟨by rw [hk.block k (lt_of_heap g1) g4]; exact g1, g2, g3, g4, g5, g6⟩⟩
end
/-- A solver of a law's own whose parts are of one size. -/
structure Sol (B : Nat) (w0 w : World) (bs : Nat) (c : SolC) (S : Eng) (q : Pm) (F : Nat → Prop) (sc : Nat → Int) (wt : Nat → Bool) (vs : List Bool) : Prop where
  g : SolG B w0 w bs c S q F S.n sc wt vs
  ln : vs.length = S.n ∧ S.n ≤ 900
section
variable {B bs : Nat} {w0 w w' : World} {c : SolC} {S S' : Eng} {q q' : Pm} {F : Nat → Prop} {sc : Nat → Int} {wt : Nat → Bool} {vs : List Bool}
theorem Sol.eng (h : Sol B w0 w bs c S q F sc wt vs) : Sg B w0 w c.be S q := h.g.eng
theorem Sol.lt (h : Sol B w0 w bs c S q F sc wt vs) : bs < w.heap.size := h.g.lt
theorem Sol.cells (h : Sol B w0 w bs c S q F sc wt vs) : w.cell? ⟨bs, 0, none⟩ = some (.int .u64 c.sd) ∧ w.cell? ⟨bs, 1, none⟩ = some (.pointer (some ⟨c.bp, 0, none⟩)) ∧ w.cell? ⟨bs, 2, none⟩ = some (.pointer (some ⟨c.be, 0, none⟩)) ∧ w.cell? ⟨bs, 3, none⟩ = some (.pointer (some ⟨c.br, 0, none⟩)) ∧ w.cell? ⟨bs, 4, none⟩ = some (.int .i64 c.by_) ∧ w.cell? ⟨bs, 5, none⟩ = some (.slice c.vA vs.length c.vc) ∧ w.cell? ⟨bs, 6, none⟩ = some (.int .i64 c.many) ∧ w.cell? ⟨bs, 7, none⟩ = some c.les ∧ w.cell? ⟨bs, 8, none⟩ = some c.log ∧ w.cell? ⟨bs, 9, none⟩ = some (.bool c.con) ∧ w.cell? ⟨bs, 10, none⟩ = some c.mod ∧ w.cell? ⟨bs, 11, none⟩ = some c.core ∧ (∀ j, w.frozen? ⟨bs, j, none⟩ = false) := h.g.cells
theorem Sol.e0 (h : Sol B w0 w bs c S q F sc wt vs) : w.cell? ⟨c.be, 0, none⟩ = some (.pointer (some ⟨q.bt, 0, none⟩)) := h.g.e0
theorem Sol.below (h : Sol B w0 w bs c S q F sc wt vs) (hb : Below w.heap.size w w') : Sol B w0 w' bs c S q F sc wt vs := ⟨h.g.below hb, h.ln⟩
theorem Sol.drewN (h : Sol B w0 w bs c S q F sc wt vs) (r : Nat) : Sol B w0 (w.drewN r) bs c S q F sc wt vs := ⟨h.g.drewN r, h.ln⟩
theorem Sol.ext (h : Sol B w0 w bs c S q F sc wt vs) (hs : Sg B w0 w' c.be S' q') (hx : Ext q q' w w') (hn : S'.n = S.n) : Sol B w0 w' bs c S' q' F sc wt vs :=
  ⟨by rw [hn]; exact h.g.ext hs hx, by rw [hn]; exact h.ln⟩
theorem Sol.rank {sc' : Nat → Int} {wt' : Nat → Bool} (h : Sol B w0 w bs c S q F sc wt vs) (hr : RankTo F w w' c.br S.n sc' wt') : ∃ F', Sol B w0 w' bs c S q F' sc' wt' vs ∧ Kf F w w' ∧ (∀ k, F' k → F k ∨ w.heap.size ≤ k) := by
  obtain ⟨F', h1, h2, h3⟩ := h.g.rank hr
  exact ⟨F', ⟨h1, h.ln⟩, h2, h3⟩
theorem Sol.store {c' : SolC} {k : Nat} {v : Value} (h : Sol B w0 w bs c S q F sc wt vs) (hc : (c.cells vs.length).set! k v = c'.cells vs.length) (h1 : c'.sd = c.sd) (h2 : c'.bp = c.bp) (h3 : c'.be = c.be) (h4 : c'.br = c.br) (h5 : c'.vA = c.vA) (h6 : c'.vc = c.vc) (h7 : c'.gm = c.gm) :
    Sol B w0 (w.setCell ⟨bs, k, none⟩ v) bs c' S q F sc wt vs := ⟨h.g.store hc h1 h2 h3 h4 h5 h6 h7, h.ln⟩
end
section
variable {B bs : Nat} {w0 w w' : World} {c : SolC} {S S' : Eng} {q q' : Pm} {F : Nat → Prop} {sc : Nat → Int} {wt : Nat → Bool} {vs : List Bool}
set_option maxHeartbeats 1600000 in
theorem svars_any (h : Sol B w0 w bs c S q F sc wt vs) : Calls Tryz.prog 45 #[.pointer (some ⟨bs, 0, none⟩)] w fun e w' => e = .returned (.int .i64 (S.n : Int)) ∧ w' = w := by
  obtain ⟨_, _, c2, _⟩ := h.cells
  have e0 := h.e0
  have HV := Lib.hid h.eng.asks.2.2.2.2.1
  clear h
  go_enter Tryz.func45, Tryz.ntmps45
  go_wp2_with fail
  refine HV.out.mono ?_
  rintro e w' ⟨rfl, rfl⟩
  go_wp2_with fail
  go_ret
  exact ⟨rfl, rfl⟩
set_option maxHeartbeats 1600000 in
theorem sconf_any (h : Sol B w0 w bs c S q F sc wt vs) : Calls Tryz.prog 25 #[.pointer (some ⟨bs, 0, none⟩)] w fun e w' => (∃ k : Int, e = .returned (.int .i64 k) ∧ 0 ≤ k ∧ k ≤ 100000) ∧ w' = w := by
  obtain ⟨_, c1, _⟩ := h.cells
  obtain ⟨u, r, k, s, n, hp, hk⟩ := h.g.pc
  have HC := Lib.hid (conflicts_any hp)
  have HK := Lib.hid hk
  clear h hp hk
  go_enter Tryz.func25, Tryz.ntmps25
  go_wp2_with fail
  refine HC.out.mono ?_
  rintro e w' ⟨rfl, rfl⟩
  go_wp2_with fail
  go_ret
  exact ⟨⟨k, rfl, HK.out⟩, rfl⟩
set_option maxHeartbeats 1600000 in
theorem sfull_any (h : Sol B w0 w bs c S q F sc wt vs) (hm : c.many < 1048576) : Calls Tryz.prog 23 #[.pointer (some ⟨bs, 0, none⟩)] w fun e w' => e = .returned (.bool false) ∧ w' = w := by
  obtain ⟨_, _, _, _, _, _, c6, _⟩ := h.cells
  have t1 : decide (1048576 ≤ c.many) = false := decide_eq_false (by omega)
  clear h
  generalize c.many = m at *
  go_enter Tryz.func23, Tryz.ntmps23
  go_wp2_with fail
  go_ret
  exact ⟨rfl, rfl⟩
set_option maxHeartbeats 1600000 in
theorem shas1_any {W : World} {x0 : Nat} (h : Sol B w0 W bs c S q F sc wt vs) (hb : W.cell? ⟨x0, 0, none⟩ = some (.pointer (some ⟨bs, 0, none⟩))) (l : Int) (l0 : -2147483648 ≤ l) (l1 : l ≤ 2147483647) :
    Calls Tryz.prog 43 #[.int .i32 l, .pointer (some ⟨x0, 0, none⟩)] W fun e w' => e = .returned (.bool (decide ((S.n : Int) < varZ l))) ∧ ∃ r, w' = W.drewN r := by
  have HVq : Hid (∀ V : World, Calls Tryz.prog 44 #[.int .i32 l] V fun e w' => e = .returned (.int .i64 (varZ l)) ∧ w' = V) := fun V => (var_any l V l0 l1).mono fun e w' ⟨h1, h2⟩ => ⟨h1, h2.symm⟩
  have HV : Hid (∀ r, Calls Tryz.prog 45 #[.pointer (some ⟨bs, 0, none⟩)] (W.drewN r) fun e w' => e = .returned (.int .i64 (S.n : Int)) ∧ w' = W.drewN r) := fun r => svars_any (h.drewN r)
  clear h
  generalize S.n = n at *
  generalize varZ l = v at *
  go_enter Tryz.func43, Tryz.ntmps43
  go_upto_region 1 with (fail)
  go_quiet (first | (go_at_call 44; exact Calls.quiet_of_same (HVq.out _)) | (go_at_call 45; exact Calls.quiet_of_same (HV.out _)))
  go_wp2_with fail
  go_ret
  exact ⟨rfl, _, rfl⟩
theorem eg_shas1 : ∀ args w, (callFunc 43 args).run Tryz.prog w = .ok (.enter 43 args) w := enters_of Tryz.func43 (by kernel_rfl) rfl
/-- ContainsFunc by has$1. -/
theorem containsSol {x0 : Nat} (h : Sol B w0 w bs c S q F sc wt vs) (hb : w.cell? ⟨x0, 0, none⟩ = some (.pointer (some ⟨bs, 0, none⟩))) (hx : x0 < w.heap.size) (A : Option Addr) (n cp Bk : Nat) (xs : List Int) (hr : Rd .i32 w Bk A n xs) (ha : allOne xs = true) (hm : n ≤ 9223372036854775807) :
    Calls Tryz.prog 42 #[.slice A n cp, .func (.func 43) #[] #[.pointer (some ⟨x0, 0, none⟩)]] w fun e w' => e = .returned (.bool (xs.any fun x => decide ((S.n : Int) < varZ x))) ∧ ∃ r, w' = w.drewN r := by
  obtain ⟨ls, rfl⟩ := to_L1 xs ha
  have hl := hr.len
  by_cases h0 : n = 0
  · subst h0
    have : ls = [] := by simpa using hl
    subst this
    have := AnyE.slices_ContainsFunc_empty Tryz.containsF A cp (.func (.func 43) #[] #[.pointer (some ⟨x0, 0, none⟩)]) w
    change Calls Tryz.prog 42 _ _ _ at this
    exact this.mono fun e w' ⟨he, hw⟩ => ⟨he, 0, hw⟩
  · obtain ⟨g, o, rfl, hgB, hc⟩ := hr.at_ (by omega)
    have hp : PredAt Tryz.prog 43 #[.pointer (some ⟨x0, 0, none⟩)] encL (fun x : L1 => decide ((S.n : Int) < varZ x.val)) w := fun W x hW => by
      have := shas1_any (h.below hW) ((hW.cell (p := ⟨x0, 0, none⟩) hx).trans hb) x.val x.bd.1 x.bd.2
      exact this
    have := AnyE.slices_ContainsFunc Tryz.containsF encL (fun x : L1 => decide ((S.n : Int) < varZ x.val)) 43 #[.pointer (some ⟨x0, 0, none⟩)] eg_shas1 g o n cp ls w hp (by simp at hl; omega) hm (fun j hj => by
      rw [hc j (by simp at hl; omega)]
      rw [getElem!_pos ls j hj, getD_lt (by simpa using hj)]
      simp [encL])
    change Calls Tryz.prog 42 _ _ _ at this
    refine this.mono fun e w' ⟨he, hw⟩ => ⟨?_, hw⟩
    rw [he]
    congr 2
    rw [List.take_of_length_le (by simp at hl; omega), List.any_map]; rfl
set_option maxHeartbeats 3200000 in
set_option maxRecDepth 100000 in
theorem shas_any (h : Sol B w0 w bs c S q F sc wt vs) (A : Option Addr) (n cp : Nat) (xs : List Int) (hr : Rd .i32 w w.heap.size A n xs) (h32 : In32 xs) (hm : n ≤ 9223372036854775807) :
    Calls Tryz.prog 22 #[.pointer (some ⟨bs, 0, none⟩), .slice A n cp] w fun e w' => e = .returned (.bool (fitsB S.n xs)) ∧ Below w.heap.size w w' := by
  obtain ⟨W, hW⟩ : ∃ W, W = w.alloc (.cells #[.pointer (some ⟨bs, 0, none⟩)] 22) := ⟨_, rfl⟩
  have hB : Below w.heap.size w W := by rw [hW]; exact (Below.refl _ _).alloc (Nat.le_refl _) _
  have hs : W.heap.size = w.heap.size + 1 := by rw [hW]; simp
  have hr1 : Rd .i32 W W.heap.size A n xs := ⟨hr.len, fun h0 => by
    obtain ⟨g, o, e, hg, hc⟩ := hr.at_ h0
    exact ⟨g, o, e, by omega, fun j hj => (hB.cell (p := ⟨g, o + j, none⟩) hg).trans (hc j hj)⟩⟩
  have hbx : W.cell? ⟨w.heap.size, 0, none⟩ = some (.pointer (some ⟨bs, 0, none⟩)) := by rw [hW, Lib.cell_of_heap (blk_new w _)]; rfl
  have HR := Lib.hid (right_any A n cp xs W hr1 h32 hm)
  have HB := Lib.hid hB
  have HW := Lib.hid hW
  by_cases ha : allOne xs = true
  · have HC := Lib.hid (containsSol (h.below hB) hbx (by omega) A n cp W.heap.size xs hr1 ha hm)
    have HE : Hid (fitsB S.n xs = !(xs.any fun x => decide ((S.n : Int) < varZ x))) := by
      unfold Hid
      rw [Bool.eq_iff_iff, fitsB_iff]
      simp only [Bool.not_eq_true', List.any_eq_false, decide_eq_true_eq]
      constructor
      · intro hx x hm; have := (hx x hm).2; omega
      · intro hx x hm; exact ⟨allOne_mem ha hm, by have := hx x hm; omega⟩
    rw [HE.out]
    rw [ha] at HR
    clear h hr hr1 hW hB hbx
    generalize (xs.any fun x => decide ((S.n : Int) < varZ x)) = y at *
    go_enter Tryz.func22, Tryz.ntmps22
    go_upto_region 1 with (fail)
    rw [← HW.out]
    go_wp2_with ((go_at_call 41; refine HR.out.mono ?_; rintro e w' ⟨rfl, rfl⟩))
    refine HC.out.mono ?_
    rintro e w' ⟨rfl, r, rfl⟩
    go_wp2_with fail
    go_ret
    exact ⟨rfl, pbelow_drewN HB.out r⟩
  · have ha : allOne xs = false := by simpa using ha
    have HE : Hid (fitsB S.n xs = false) := by
      unfold Hid
      rw [Bool.eq_false_iff]
      intro e
      have := fitsB_iff.1 e
      have h2 : allOne xs = true := by unfold allOne; rw [List.all_eq_true]; exact fun x hx => (this x hx).1
      rw [h2] at ha; cases ha
    rw [HE.out]
    rw [ha] at HR
    clear h hr hr1 hW hB hbx
    go_enter Tryz.func22, Tryz.ntmps22
    go_upto_region 1 with (fail)
    rw [← HW.out]
    go_wp2_with ((go_at_call 41; refine HR.out.mono ?_; rintro e w' ⟨rfl, rfl⟩))
    go_ret
    exact ⟨rfl, HB.out⟩
end
end Go.Proofs.YtfllhfhcmoemeaaGreat
namespace Go.Proofs.YtfllhfhcmoemeaaGreat
open Go.Shelf Go.RowKit Go.Lib Go.Sort LitM TrailM EngM

section
variable {B bs : Nat} {w0 w w' : World} {c : SolC} {S S' : Eng} {q q' : Pm} {F : Nat → Prop} {sc : Nat → Int} {wt : Nat → Bool} {vs : List Bool}
/-- What put leaves: a clause more. -/
def SPutTo (B : Nat) (w0 : World) (bs : Nat) (c : SolC) (S : Eng) (F : Nat → Prop) (sc : Nat → Int) (wt : Nat → Bool) (vs : List Bool) (xs : List Int) (w' : World) : Prop :=
  ∃ ys q', IsClean xs ys ∧ Sol B w0 w' bs { c with many := c.many + 1 } (addF S ys (bothB xs)) q' F sc wt vs
theorem store_many (h : Sol B w0 w bs c S q F sc wt vs) : Sol B w0 (w.setCell ⟨bs, 6, none⟩ (.int .i64 (c.many + 1))) bs { c with many := c.many + 1 } S q F sc wt vs :=
  h.store rfl rfl rfl rfl rfl rfl rfl rfl
set_option maxHeartbeats 3200000 in
set_option maxRecDepth 100000 in
theorem sput_any (h : Sol B w0 w bs c S q F sc wt vs) (hcn : S.cs.length ≤ 20000) (hm0 : 0 ≤ c.many) (hm : c.many < 1048576) (A : Option Addr) (n cp : Nat) (xs : List Int) (hr : Rd .i32 w w.heap.size A n xs) (h32 : In32 xs) (hl : n ≤ 10000) (hf : fitsB S.n xs = true) (hne : ¬ onB A bs) :
    Calls Tryz.prog 24 #[.pointer (some ⟨bs, 0, none⟩), .slice A n cp] w fun e w' => e = .returned (.int .i64 (S.cs.length : Int)) ∧ SPutTo B w0 bs c S F sc wt vs xs w' := by
  obtain ⟨_, _, c2, _, _, _, c6, _, _, _, _, _, cf⟩ := h.cells
  have HL := Lib.hid (elen_any h.eng.eng)
  have HS1 := Lib.hid (store_many h)
  have hr1 : Rd .i32 (w.setCell ⟨bs, 6, none⟩ (.int .i64 (c.many + 1))) (w.setCell ⟨bs, 6, none⟩ (.int .i64 (c.many + 1))).heap.size A n xs := ⟨hr.len, fun h0 => by
    obtain ⟨g, o, e, hg, hc⟩ := hr.at_ h0
    have hgb : g ≠ bs := fun e' => hne (by rw [e, onB_some]; exact e'.symm)
    have hk : Kf (fun i => i = bs) w (w.setCell ⟨bs, 6, none⟩ (.int .i64 (c.many + 1))) := (Kf.refl (fun i => i = bs) w).set (p := ⟨bs, 6, none⟩) (.inl rfl) _
    exact ⟨g, o, e, by simpa using hg, fun j hj => (hk.cell (p := ⟨g, o + j, none⟩) hg hgb).trans (hc j hj)⟩⟩
  have HA := Lib.hid (HS1.out.eng.add hcn A n cp xs hr1 h32 hl)
  have HF := Lib.hid hf
  have tl : ((S.cs.length : Int) == 1048576) = false := by rw [beq_eq_false_iff_ne]; omega
  have HWN : Hid (IntKind.i64.wrap (c.many + 1) = c.many + 1) := IntWalk.i64_in _ (by omega)
  clear h hr hr1 hf
  go_enter Tryz.func24, Tryz.ntmps24
  go_wp2_with fail
  refine HL.out.mono ?_
  rintro e w' ⟨rfl, rfl⟩
  go_upto_region 4 with (fail)
  try rw [HWN.out]
  obtain ⟨w1, hw1⟩ : ∃ w1, w1 = w.setCell ⟨bs, 6, none⟩ (.int .i64 (c.many + 1)) := ⟨_, rfl⟩
  rw [← hw1]
  rw [← hw1] at HS1 HA
  clear hw1 c2 c6 cf
  obtain ⟨_, _, c2, _⟩ := HS1.out.cells
  have c2 : w1.cell? ⟨bs, 2, none⟩ = some (.pointer (some ⟨c.be, 0, none⟩)) := c2
  go_wp2_with fail
  refine HA.out.mono ?_
  rintro e w2 ⟨S', q', hA, hs, hx⟩
  rcases hA with ⟨hf, _, _⟩ | ⟨_, rfl, ys, hcl, rfl⟩
  · rw [HF.out] at hf; cases hf
  have HE : Hid (SPutTo B w0 bs c S F sc wt vs xs w2) := ⟨ys, q', hcl, HS1.out.ext hs hx rfl⟩
  clear hcl hs hx
  go_wp2_with fail
  go_ret
  exact ⟨rfl, HE.out⟩
set_option maxHeartbeats 3200000 in
set_option maxRecDepth 100000 in
theorem sadd_yes (h : Sol B w0 w bs c S q F sc wt vs) (hcn : S.cs.length ≤ 20000) (hm0 : 0 ≤ c.many) (hm : c.many < 1048576) (A : Option Addr) (n cp : Nat) (xs : List Int) (hr : Rd .i32 w w.heap.size A n xs) (h32 : In32 xs) (hl : n ≤ 10000) (hf : fitsB S.n xs = true) (hne : ¬ onB A bs) :
    Calls Tryz.prog 9 #[.pointer (some ⟨bs, 0, none⟩), .slice A n cp] w fun e w' => e = .returned (.int .i64 0) ∧ SPutTo B w0 bs c S F sc wt vs xs w' := by
  have HH := Lib.hid (shas_any h A n cp xs hr h32 (by omega))
  rw [hf] at HH
  have HN : Hid (∀ W, Below w.heap.size w W → Sol B w0 W bs c S q F sc wt vs ∧ Rd .i32 W W.heap.size A n xs) := fun W hW => ⟨h.below hW, (hr.below hW).more hW.size⟩
  clear h hr
  go_enter Tryz.func9, Tryz.ntmps9
  go_wp2_with fail
  refine HH.out.mono ?_
  rintro e w1 ⟨rfl, hb⟩
  obtain ⟨h1, r1⟩ := HN.out w1 hb
  have HF := Lib.hid (sfull_any h1 hm)
  have HP := Lib.hid (sput_any h1 hcn hm0 hm A n cp xs r1 h32 hl hf hne)
  clear hb h1 r1 HH HN
  go_wp2_with fail
  refine HF.out.mono ?_
  rintro e w' ⟨rfl, rfl⟩
  go_wp2_with fail
  refine HP.out.mono ?_
  rintro e w2 ⟨rfl, hE⟩
  have HE := Lib.hid hE
  clear hE
  go_wp2_with fail
  go_ret
  exact ⟨rfl, HE.out⟩
set_option maxHeartbeats 3200000 in
theorem sadd_no (h : Sol B w0 w bs c S q F sc wt vs) (A : Option Addr) (n cp : Nat) (xs : List Int) (hr : Rd .i32 w w.heap.size A n xs) (h32 : In32 xs) (hl : n ≤ 10000) (hf : fitsB S.n xs = false) :
    Calls Tryz.prog 9 #[.pointer (some ⟨bs, 0, none⟩), .slice A n cp] w fun e w' => e = .returned (.int .i64 81) ∧ Below w.heap.size w w' := by
  have HH := Lib.hid (shas_any h A n cp xs hr h32 (by omega))
  rw [hf] at HH
  clear h hr
  go_enter Tryz.func9, Tryz.ntmps9
  go_wp2_with fail
  refine HH.out.mono ?_
  rintro e w1 ⟨rfl, hb⟩
  have HB := Lib.hid hb
  clear hb
  go_wp2_with fail
  go_ret
  exact ⟨rfl, HB.out⟩
end
theorem info_bool : (Tryz.prog.info? 4).map (fun i => (i.zero, i.size, i.bytes)) = some (some (.bool false), 1, 1) := by kernel_rfl
theorem boC_one (bs : List Bool) (n : Nat) : ∀ u ∈ cellsV (boC bs) n, u.oneCell' = true := fun u hu => by
  unfold cellsV at hu
  rw [List.mem_map] at hu
  obtain ⟨j, _, rfl⟩ := hu
  rfl
theorem src_bool {w : World} {g n c : Nat} {f : Nat → Value} (h : RowV 4 1 w g n c f) : ∀ j u, (cellsV f n)[j]? = some u → w.cell? ((⟨g, 0, none⟩ : Addr).add j) = some u := fun j u hu => by
  have hj : j < n := by
    have := (List.getElem?_eq_some_iff.1 hu).1
    simpa [cellsV] using this
  have h2 := h.cell (show j < n * 1 by omega)
  rw [cellsV_get f hj] at hu
  injection hu with hu
  rw [← hu, ← h2]
  congr 1
  simp [Addr.add]
  omega
/-- What a copy of Booleans leaves. -/
def BoolsTo (n : Nat) (bs : List Bool) (w : World) (e : Ending) (w' : World) : Prop :=
  ∃ A c, e = .returned (.slice A n c) ∧ SlV 4 1 w' A n c (boC bs) ∧ (∀ k, onB A k → w.heap.size ≤ k) ∧ Below w.heap.size w w'
set_option maxHeartbeats 1600000 in
set_option maxRecDepth 100000 in
theorem clone_bool (w : World) (g n c : Nat) (bs : List Bool) (h : RowV 4 1 w g n c (boC bs)) (h0 : 0 < n) (hn : n ≤ 100000) :
    Calls Tryz.prog 31 #[.slice (some ⟨g, 0, none⟩) n c] w (BoolsTo n bs w) := by
  have HR := Lib.hid (h.alloc (.cells #[] 4))
  have HS : Hid (SlV 4 1 (w.alloc (.cells #[] 4)) (some ⟨w.heap.size, 0, none⟩) 0 0 (fun _ => .int .i32 0)) := .inr ⟨w.heap.size, rfl, RowV.made (by omega) rfl (fun j hj => by omega)⟩
  have hb : Below w.heap.size w (w.alloc (.cells #[] 4)) := (Below.refl _ _).alloc (Nat.le_refl _) _
  have HB := Lib.hid hb
  have HBD := Lib.hid h.bd
  clear h hb
  have tn := fun W : World => Lib.run_eql_slice_some_nil (P := Tryz.prog) W (t := 40) ⟨g, 0, none⟩ n c Tryz.underlying40
  go_enter Tryz.func31, Tryz.ntmps31
  go_wp2_with (at_builtin; refine wpList_append_sl _ rfl _ _ 40 4 rfl Tryz.underlying40 info_bool rfl (by decide) (by decide) (some ⟨w.heap.size, 0, none⟩) 0 0 _ rfl HS.out (by omega) ⟨g, 0, none⟩ n c (cellsV (boC bs) n) rfl (by simp [cellsV]) (src_bool HR.out) (boC_one bs n) (by omega) h0 ?_)
  intro g' c' w2 hr hg hk
  have HE : Hid (BoolsTo n bs w (.returned (.slice (some ⟨g', 0, none⟩) n c')) w2) := by
    have hk2 := hk (fun k => w.heap.size ≤ k) (fun j hj => by rw [onB_some] at hj; exact Nat.le_of_eq hj.symm)
    have hr2 : RowV 4 1 w2 g' n c' (boC bs) := by
      refine RowV.congr hr fun j hj => ?_
      unfold appV
      rw [if_neg (by omega), Nat.sub_zero, List.getD, cellsV_get _ (show j < n by omega)]; rfl
    refine ⟨some ⟨g', 0, none⟩, c', rfl, .inr ⟨g', rfl, hr2⟩, fun k hk => ?_, HB.out.trans (hk2.below (by simp) (fun x hx => hx))⟩
    rw [onB_some] at hk
    rw [hk]
    rcases hg with e | e
    · rw [onB_some] at e; exact Nat.le_of_eq e.symm
    · have : w.heap.size + 1 ≤ g' := by simpa using e
      show w.heap.size ≤ g'
      omega
  clear hr hg hk tn
  go_wp2_with fail
  go_ret
  exact HE.out
set_option maxHeartbeats 1600000 in
set_option maxRecDepth 100000 in
theorem clone_nob (w : World) :
    Calls Tryz.prog 31 #[.slice none 0 0] w (BoolsTo 0 [] w) := by
  have tn : ∀ (w : World) (a : Option Addr) (n c n' c' : Nat), (binOp .eql 40 (.slice a n c) (.slice none n' c')).run Tryz.prog w = .ok (.bool a.isNone) w := fun w a n c n' c' => Lib.run_eql_slice_nil (P := Tryz.prog) w 40 4 a n c n' c' Tryz.underlying40
  go_enter Tryz.func31, Tryz.ntmps31
  go_wp2_with fail
  go_ret
  exact ⟨none, 0, rfl, SlV.nil _ _ _ _, fun k hk => absurd hk (onB_none k), Below.refl _ _⟩
end Go.Proofs.YtfllhfhcmoemeaaGreat
namespace Go.Proofs.YtfllhfhcmoemeaaGreat
open Go.Shelf Go.RowKit Go.Lib Go.Sort LitM TrailM EngM

/-- A solver without variables and clauses. -/
def solN (sd : Int) (bp be br : Nat) : SolC := ⟨sd, bp, be, br, 1, none, 0, 0, .slice none 0 0, .slice none 0 0, false, .slice none 0 0, .slice none 0 0, fun _ => none⟩
/-- What New leaves. -/
def SNewTo (B : Nat) (w0 : World) (sd : Int) (e : Ending) (w' : World) : Prop :=
  ∃ bs bp be br q F, e = .returned (.pointer (some ⟨bs, 0, none⟩)) ∧ Sol B w0 w' bs (solN sd bp be br) (newE 0) q F (fun _ => 0) (fun _ => true) []
theorem sol_new {W0 w1 w2 w3 : World} {B bp be br : Nat} {w0 : World} {sd u r : Int} {q : Pm} {F : Nat → Prop} (hB : B ≤ W0.heap.size)
    (hp : PaceAt w1 bp sd u r 0 0 0) (p1 : W0.heap.size ≤ bp) (b1 : Below W0.heap.size W0 w1) (he : Sg B w0 w2 be (newE 0) q) (e1 : ∀ k, q.own k ≠ .no → w1.heap.size ≤ k) (b2 : Below w1.heap.size w1 w2)
    (hr : RankAt w3 br F 0 (fun _ => 0) (fun _ => true)) (r1 : ∀ k, F k → w2.heap.size ≤ k) (b3 : Below w2.heap.size w2 w3) (hsd : 0 ≤ sd ∧ sd ≤ 18446744073709551615) :
    Sol B w0 (w3.alloc (.cells ((solN sd bp be br).cells 0) 61)) w3.heap.size (solN sd bp be br) (newE 0) q F (fun _ => 0) (fun _ => true) [] := by
  have ba := (Below.refl w3.heap.size w3).alloc (Nat.le_refl _) (.cells ((solN sd bp be br).cells 0) 61)
  have z1 := hp.lt
  have s1 := b1.size
  have s2 := b2.size
  have s3 := b3.size
  have he3 := (he.below b3).below ba
  have own : ∀ k, w1.heap.size ≤ k ∨ q.own k = .no := fun k => by
    by_cases e : q.own k = .no
    · exact .inr e
    · exact .inl (e1 k e)
  have p2 : q.own bp = .no := (own bp).resolve_left (by omega)
  have hp3 : PaceAt (w3.alloc (.cells ((solN sd bp be br).cells 0) 61)) bp sd u r 0 0 0 := hp.same (by rw [ba.block bp (by omega), b3.block bp (by omega), b2.block bp z1])
  refine ⟨⟨blk_new w3 _, he3, hr.below ba, ⟨u, r, 0, 0, 0, hp3, by omega, by omega⟩, SlV.nil _ _ _ _, hsd, ⟨(he.below b3).fresh (Nat.le_refl _), fun e => ?_, by omega, by show w3.heap.size ≠ bp; omega, onB_none _⟩, ⟨p2, fun e => ?_, by show B ≤ bp; omega, onB_none _⟩, fun k hF => ⟨he.fresh (r1 k hF), by have := r1 k hF; omega, onB_none _⟩, fun k hk => absurd hk (onB_none k), fun k o e => by cases e⟩, ⟨rfl, by show (0 : Nat) ≤ 900; omega⟩⟩
  · have := hr.foot _ e; omega
  · have := r1 _ e
    have : w2.heap.size ≤ bp := this
    omega
set_option maxHeartbeats 3200000 in
set_option maxRecDepth 100000 in
theorem snew_any (w : World) (sd u r : Int) (hsd : 0 ≤ sd ∧ sd ≤ 18446744073709551615) :
    Calls Tryz.prog 8 #[.agg #[.int .u64 sd, .int .i64 u, .int .i64 r]] w (SNewTo w.heap.size w sd) := by
  obtain ⟨W0, hW0⟩ : ∃ W0, W0 = (w.alloc (.cells #[.int .u64 sd, .int .i64 u, .int .i64 r] 26)).drew := ⟨_, rfl⟩
  have hB0 : Below w.heap.size w W0 := by rw [hW0]; exact ((Below.refl _ _).alloc (Nat.le_refl _) _).drew
  have hz0 : W0.heap[w.heap.size]? = some (.cells #[.int .u64 sd, .int .i64 u, .int .i64 r] 26 (0, 0)) := by rw [hW0]; exact blk_new w _
  have hzl := lt_of_heap hz0
  have HC : Hid (∀ W, Below W0.heap.size W0 W → W.cell? ⟨w.heap.size, 0, none⟩ = some (.int .u64 sd) ∧ W.cell? ⟨w.heap.size, 1, none⟩ = some (.int .i64 u) ∧ W.cell? ⟨w.heap.size, 2, none⟩ = some (.int .i64 r)) := fun W hW => by
    have h := (hW.block _ hzl).trans hz0
    exact ⟨by rw [Lib.cell_of_heap h]; rfl, by rw [Lib.cell_of_heap h]; rfl, by rw [Lib.cell_of_heap h]; rfl⟩
  have HP : Hid (∀ W, Below W0.heap.size W0 W → Calls Tryz.prog 19 #[.agg #[.int .u64 sd, .int .i64 u, .int .i64 r]] W fun e w' => ∃ b, e = .returned (.pointer (some ⟨b, 0, none⟩)) ∧ Hid (PaceAt w' b sd (winZ u) (winZ r) 0 0 0 ∧ W0.heap.size ≤ b ∧ Below W.heap.size W w') ∧ Below W0.heap.size W0 w') := fun W hW =>
    (pnew_any W sd u r).mono fun e w' ⟨b, h1, h2, h3, h4⟩ => ⟨b, h1, ⟨h2, Nat.le_trans hW.size h3, h4⟩, hW.trans (h4.mono hW.size)⟩
  have HE : Hid (∀ W, Below W0.heap.size W0 W → Calls Tryz.prog 20 #[.int .i64 0] W fun e w' => ∃ b q, e = .returned (.pointer (some ⟨b, 0, none⟩)) ∧ Hid (Sg w.heap.size w w' b (newE 0) q ∧ (∀ k, q.own k ≠ .no → W.heap.size ≤ k) ∧ Below W.heap.size W w') ∧ Below W0.heap.size W0 w') := fun W hW =>
    (enew_any 0 W (by omega)).mono fun e w' hm => by
      have hWw : Below w.heap.size w W := hB0.trans (hW.mono hB0.size)
      obtain ⟨b, q, h1, h2, h3, h4⟩ := Sg.make hm (by decide) hWw hWw.size
      exact ⟨b, q, h1, ⟨h2, h4, h3⟩, hW.trans (h3.mono hW.size)⟩
  have HR : Hid (∀ W, Below W0.heap.size W0 W → Calls Tryz.prog 21 #[.int .i64 0] W fun e w' => ∃ b F, e = .returned (.pointer (some ⟨b, 0, none⟩)) ∧ Hid (RankAt w' b F 0 (fun _ => 0) (fun _ => true) ∧ (∀ k, F k → W.heap.size ≤ k) ∧ Below W.heap.size W w') ∧ Below W0.heap.size W0 w') := fun W hW =>
    (rknew_any 0 W (by omega)).mono fun e w' ⟨b, F, h1, h2, h3, h4⟩ => ⟨b, F, h1, ⟨h2, h3, h4⟩, hW.trans (h4.mono hW.size)⟩
  have HB0 := Lib.hid hB0
  have HSD := Lib.hid hsd
  have HW0 := Lib.hid hW0
  have hb0 : Below W0.heap.size W0 (w.alloc (.cells #[.int .u64 sd, .int .i64 u, .int .i64 r] 26)).drew := by rw [← hW0]; exact Below.refl _ _
  have hx0 := HC.out _ hb0
  clear hB0 hsd hW0 hz0 hzl
  go_enter Tryz.func8, Tryz.ntmps8
  go_upto_region 1 with (fail)
  go_region_held3 (fun W => Below W0.heap.size W0 W ∧ W.cell? ⟨w.heap.size, 0, none⟩ = some (.int .u64 sd) ∧ W.cell? ⟨w.heap.size, 1, none⟩ = some (.int .i64 u) ∧ W.cell? ⟨w.heap.size, 2, none⟩ = some (.int .i64 r))
    (first | exact ⟨by assumption, HC.out _ (by assumption)⟩ | exact ⟨hb0, hx0⟩ | exact ⟨hB3.alloc hB3.size _, HC.out _ (hB3.alloc hB3.size _)⟩)
    (first | (go_at_call 19; with_reducible refine (HP.out _ (by assumption)).mono ?_; rintro e w1 ⟨bp, rfl, hP, hB1⟩) | (go_at_call 20; with_reducible refine (HE.out _ (by assumption)).mono ?_; rintro e w2 ⟨be, q, rfl, hE, hB2⟩) | (go_at_call 21; with_reducible refine (HR.out _ (by assumption)).mono ?_; rintro e w3 ⟨br, F, rfl, hR, hB3⟩))
  all_goals
    have HF : Hid (SNewTo w.heap.size w sd (.returned (.pointer (some ⟨w3.heap.size, 0, none⟩))) (w3.alloc (.cells ((solN sd bp be br).cells 0) 61))) :=
      ⟨w3.heap.size, bp, be, br, q, F, rfl, sol_new (W0 := W0) HB0.out.size hP.out.1 hP.out.2.1 (by rw [HW0.out]; exact hP.out.2.2) hE.out.1 hE.out.2.1 hE.out.2.2 hR.out.1 hR.out.2.1 hR.out.2.2 HSD.out⟩
    clear hP hE hR
    go_wp2_with fail
    go_ret
    exact HF.out
end Go.Proofs.YtfllhfhcmoemeaaGreat
