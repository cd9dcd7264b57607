/- A search in memory; the contracts of reason, found, Model, Core, and of back where there is nothing to go back over. -/
import Derived.Test.YtfllhfhcmoemeaaGreatSolV
import Derived.Test.YtfllhfhcmoemeaaGreatLrnD
import Derived.Deep.RegionHeld3
import Derived.Deep.RegionWith
namespace Go.Proofs.YtfllhfhcmoemeaaGreat
open Go.Shelf Go.RowKit Go.Lib Go.Sort LitM TrailM EngM

/-- A search beside its solver. -/
structure Srch (B : Nat) (w0 w : World) (bs bh : Nat) (c : SolC) (S : Eng) (q : Pm) (F : Nat → Prop) (sc : Nat → Int) (wt : Nat → Bool) (vs : List Bool) (A : Option Addr) (n cp : Nat) (ak bud bef : Int) : Prop where
  s : Sol B w0 w bs c S q F sc wt vs
  hx : w.heap[bh]? = some (.cells #[.pointer (some ⟨bs, 0, none⟩), .slice A n cp, .int .i64 ak, .int .i64 bud, .int .i64 bef] 65 (0, 0))
  ox : q.own bh = .no ∧ ¬ F bh ∧ B ≤ bh ∧ bh ≠ bs ∧ bh ≠ c.bp ∧ ¬ onB c.vA bh
section
variable {B bs bh n cp : Nat} {w0 w w' : World} {c : SolC} {S S' : Eng} {q q' : Pm} {F : Nat → Prop} {sc : Nat → Int} {wt : Nat → Bool} {vs : List Bool} {A : Option Addr} {ak bud bef : Int}
theorem Srch.lt (h : Srch B w0 w bs bh c S q F sc wt vs A n cp ak bud bef) : bh < w.heap.size := lt_of_heap h.hx
theorem Srch.cells (h : Srch B w0 w bs bh c S q F sc wt vs A n cp ak bud bef) : w.cell? ⟨bh, 0, none⟩ = some (.pointer (some ⟨bs, 0, none⟩)) ∧ w.cell? ⟨bh, 1, none⟩ = some (.slice A n cp) ∧ w.cell? ⟨bh, 2, none⟩ = some (.int .i64 ak) ∧ w.cell? ⟨bh, 3, none⟩ = some (.int .i64 bud) ∧ w.cell? ⟨bh, 4, none⟩ = some (.int .i64 bef) ∧ ∀ j, w.frozen? ⟨bh, j, none⟩ = false := by
  have hh := h.hx
  refine ⟨?_, ?_, ?_, ?_, ?_, fun j => Lib.frozen_of_heap hh j⟩
  all_goals (rw [Lib.cell_of_heap hh]; rfl)
theorem Srch.below (h : Srch B w0 w bs bh c S q F sc wt vs A n cp ak bud bef) (hb : Below w.heap.size w w') : Srch B w0 w' bs bh c S q F sc wt vs A n cp ak bud bef :=
  ⟨h.s.below hb, by rw [hb.block bh h.lt]; exact h.hx, h.ox⟩
theorem Srch.drewN (h : Srch B w0 w bs bh c S q F sc wt vs A n cp ak bud bef) (r : Nat) : Srch B w0 (w.drewN r) bs bh c S q F sc wt vs A n cp ak bud bef := h.below ⟨rfl, rfl, rfl, Nat.le_refl _, fun _ _ => rfl⟩
theorem Srch.ext (h : Srch B w0 w bs bh c S q F sc wt vs A n cp ak bud bef) (hs : Sg B w0 w' c.be S' q') (hx : Ext q q' w w') (hn : S'.n = S.n) : Srch B w0 w' bs bh c S' q' F sc wt vs A n cp ak bud bef := by
  have b1 := hx.blk h.lt h.ox.1
  exact ⟨h.s.ext hs hx hn, by rw [b1.1]; exact h.hx, b1.2, h.ox.2⟩
theorem Srch.rank {sc' : Nat → Int} {wt' : Nat → Bool} (h : Srch B w0 w bs bh c S q F sc wt vs A n cp ak bud bef) (hr : RankTo F w w' c.br S.n sc' wt') : ∃ F', Srch B w0 w' bs bh c S q F' sc' wt' vs A n cp ak bud bef := by
  obtain ⟨F', h1, h2, h3⟩ := h.s.rank hr
  refine ⟨F', h1, by rw [h2.block bh h.lt h.ox.2.1]; exact h.hx, h.ox.1, fun e => ?_, h.ox.2.2⟩
  rcases h3 bh e with x | x
  · exact h.ox.2.1 x
  · have := h.lt; omega
/-- A store into the solver's struct. -/
theorem Srch.store {c' : SolC} {k : Nat} {v : Value} (h : Srch B w0 w bs bh c S q F sc wt vs A n cp ak bud bef) (hc : (c.cells vs.length).set! k v = c'.cells vs.length) (h1 : c'.sd = c.sd) (h2 : c'.bp = c.bp) (h3 : c'.be = c.be) (h4 : c'.br = c.br) (h5 : c'.vA = c.vA) (h6 : c'.vc = c.vc) (h7 : c'.gm = c.gm) :
    Srch B w0 (w.setCell ⟨bs, k, none⟩ v) bs bh c' S q F sc wt vs A n cp ak bud bef := by
  refine ⟨h.s.store hc h1 h2 h3 h4 h5 h6 h7, ?_, ?_⟩
  · rw [Below.heap_setCell _ _ _ _ (fun e => h.ox.2.2.2.1 e)]; exact h.hx
  · rw [h2, h5]; exact h.ox
set_option maxHeartbeats 3200000 in
set_option maxRecDepth 100000 in
theorem sreason_any (h : Srch B w0 w bs bh c S q F sc wt vs A n cp ak bud bef) (l : Int) (l0 : -2147483648 ≤ l) (l1 : l ≤ 2147483647) :
    Calls Tryz.prog 112 #[.pointer (some ⟨bh, 0, none⟩), .int .i32 l] w fun e w' => ∃ A' c', e = .returned (.slice A' (reaL S (varZ l)).length c') ∧ SlV 29 1 w' A' (reaL S (varZ l)).length c' (lsC (reaL S (varZ l))) ∧ (∀ k, onB A' k → w.heap.size ≤ k) ∧ Below w.heap.size w w' := by
  have hI := h.s.eng.inv
  have hn := hI.small.n
  have HC : Hid (∀ W, Below w.heap.size w W → W.cell? ⟨bh, 0, none⟩ = some (.pointer (some ⟨bs, 0, none⟩)) ∧ W.cell? ⟨bs, 2, none⟩ = some (.pointer (some ⟨c.be, 0, none⟩)) ∧ W.cell? ⟨c.be, 0, none⟩ = some (.pointer (some ⟨q.bt, 0, none⟩))) := fun W hW => by
    have h' := h.below hW
    obtain ⟨a0, _⟩ := h'.cells
    obtain ⟨_, _, b2, _⟩ := h'.s.cells
    exact ⟨a0, b2, h'.s.e0⟩
  have HVq : Hid (∀ V : World, Calls Tryz.prog 44 #[.int .i32 l] V fun e w' => e = .returned (.int .i64 (varZ l)) ∧ w' = V) := fun V => (var_any l V l0 l1).mono fun e w' ⟨h1, h2⟩ => ⟨h1, h2.symm⟩
  have HV : Hid (∀ W, Below w.heap.size w W → Calls Tryz.prog 132 #[.pointer (some ⟨q.bt, 0, none⟩), .int .i64 (varZ l)] W fun e w' => e = .returned (.int .i64 (reaZ S.L (varZ l))) ∧ w' = W) := fun W hW =>
    ((h.below hW).s.eng.asks.2.2.2.1 (varZ l)).mono fun e w' ⟨h1, h2⟩ => ⟨h1, h2.symm⟩
  obtain ⟨t1, t2, t3, t4⟩ := rea_there hI (varZ l)
  have HCl : Hid (∀ W, Below w.heap.size w W → Calls Tryz.prog 64 #[.pointer (some ⟨c.be, 0, none⟩), .int .i64 (reaZ S.L (varZ l))] W fun e w' => ∃ A c, e = .returned (.tuple #[.slice A (reaL S (varZ l)).length c, .bool (decide (0 ≤ reaZ S.L (varZ l)))]) ∧ Hid (SlV 29 1 w' A (reaL S (varZ l)).length c (lsC (reaL S (varZ l))) ∧ (∀ k, onB A k → w.heap.size ≤ k)) ∧ Below w.heap.size w w') := fun W hW => by
    refine (eclause_any (h.below hW).s.eng.eng hI.small (reaZ S.L (varZ l))).mono fun e w' ht => ?_
    rcases ht with ⟨a, e1, rfl⟩ | ⟨a, A, c, e1, e2, e3, e4⟩
    · rw [t1] at a
      have hr := t3 (of_decide_eq_false a)
      refine ⟨none, 0, by rw [e1, hr, a]; rfl, ⟨?_, fun k hk => absurd hk (onB_none k)⟩, hW⟩
      rw [hr]; exact SlV.nil _ _ _ _
    · rw [t1] at a
      have hr := t4 (of_decide_eq_true a)
      refine ⟨A, c, by rw [e1, hr, a], ⟨by rw [hr]; exact e2, fun k hk => Nat.le_trans hW.size (e3 k hk)⟩, hW.trans (e4.mono hW.size)⟩
  have hc0 := HC.out w (Below.refl _ _)
  clear h t1 t2 t3 t4
  generalize reaZ S.L (varZ l) = z at *
  generalize reaL S (varZ l) = rl at *
  generalize varZ l = v at *
  go_enter Tryz.func112, Tryz.ntmps112
  go_upto_region 1 with (fail)
  have hb0 : Below w.heap.size w w.drew := (Below.refl _ _).drew
  go_region_held3 (fun W => Below w.heap.size w W ∧ W.cell? ⟨bh, 0, none⟩ = some (.pointer (some ⟨bs, 0, none⟩)) ∧ W.cell? ⟨bs, 2, none⟩ = some (.pointer (some ⟨c.be, 0, none⟩)) ∧ W.cell? ⟨c.be, 0, none⟩ = some (.pointer (some ⟨q.bt, 0, none⟩)))
    (first | exact ⟨by assumption, HC.out _ (by assumption)⟩ | exact ⟨hb0, hc0⟩)
    (first | (go_at_call 44; refine (HVq.out _).mono ?_; rintro e wq ⟨rfl, rfl⟩) | (go_at_call 132; with_reducible refine (HV.out _ (by assumption)).mono ?_; rintro e wq ⟨rfl, rfl⟩) | (go_at_call 64; with_reducible refine (HCl.out _ (by assumption)).mono ?_; rintro e wq ⟨A', c', rfl, hSl, hBq⟩))
  all_goals (go_wp2_with fail; go_ret; exact ⟨A', c', rfl, hSl.out.1, hSl.out.2, by assumption⟩)
/-- No level to go back over. -/
theorem sback_none (h : Sol B w0 w bs c S q F sc wt vs) (hd : S.le = []) :
    Calls Tryz.prog 27 #[.pointer (some ⟨bs, 0, none⟩), .int .i64 0] w fun e w' => e = .returned (.tuple #[]) ∧ Below w.heap.size w w' := by
  obtain ⟨W, hW⟩ : ∃ W, W = (w.alloc (.cells #[.pointer (some ⟨bs, 0, none⟩)] 22)).alloc (.cells #[.int .i64 0] 3) := ⟨_, rfl⟩
  have hB : Below w.heap.size w W := by rw [hW]; exact ((Below.refl _ _).alloc (Nat.le_refl _) _).alloc (by simp) _
  have h' := h.below hB
  obtain ⟨_, _, b2, _⟩ := h'.cells
  have e0 := h'.e0
  have HD : Hid (∀ r, Calls Tryz.prog 53 #[.pointer (some ⟨q.bt, 0, none⟩)] (W.drewN r) fun e w' => e = .returned (.int .i64 0) ∧ w' = W.drewN r) := fun r => by
    have := (h'.drewN r).eng.asks.2.2.2.2.2
    rw [hd] at this
    exact this.mono fun e w' ⟨h1, h2⟩ => ⟨h1, h2.symm⟩
  have HB := Lib.hid hB
  have x0 : W.cell? ⟨w.heap.size, 0, none⟩ = some (.pointer (some ⟨bs, 0, none⟩)) := by
    rw [hW, World.cell?_alloc_lt _ _ _ (by simp), Lib.cell_of_heap (blk_new w _)]; rfl
  have x1 : W.cell? ⟨w.heap.size + 1, 0, none⟩ = some (.int .i64 0) := by
    have := blk_new (w.alloc (.cells #[.pointer (some ⟨bs, 0, none⟩)] 22)) (.cells #[.int .i64 0] 3)
    rw [World.size_alloc] at this
    rw [hW, Lib.cell_of_heap this]; rfl
  have HW := Lib.hid hW
  clear h h' hB hW
  go_enter Tryz.func27, Tryz.ntmps27
  go_upto_region 1 with (fail)
  rw [← HW.out]
  go_quiet (first | (go_at_call 53; exact Calls.quiet_of_same (HD.out _)))
  go_wp2_with fail
  refine bodyPost_ret (v := .tuple #[]) (by simp [results, Tryz.results27, go_sem]) rfl ?_
  exact ⟨rfl, pbelow_drewN HB.out _⟩
/-- What a copy of literals leaves. -/
theorem score_core {Ac : Option Addr} {cc : Nat} {xs : List Int} (h : Sol B w0 w bs c S q F sc wt vs) (hc : c.core = .slice Ac xs.length cc) (hr : Rd .i32 w w.heap.size Ac xs.length xs) (hA : Ac = none → xs.length = 0) (hn : xs.length ≤ 10000) :
    Calls Tryz.prog 16 #[.pointer (some ⟨bs, 0, none⟩)] w fun e w' => ∃ v, e = .returned v ∧ CopyTo xs.length xs w v w' := by
  obtain ⟨_, _, _, _, _, _, _, _, _, _, _, c11, _⟩ := h.cells
  have HC := Lib.hid (copy_any Ac xs.length cc xs w hr hA (by omega))
  rw [hc] at c11
  clear h hr hA hc
  go_enter Tryz.func16, Tryz.ntmps16
  go_wp2_with fail
  refine HC.out.mono ?_
  rintro e w1 ⟨v, rfl, hv⟩
  have HV := Lib.hid hv
  clear hv HC
  go_wp2_with fail
  go_ret
  exact ⟨_, rfl, HV.out⟩
theorem smodel_any {Am : Option Addr} {cm : Nat} {ms : List Bool} (h : Sol B w0 w bs c S q F sc wt vs) (hc : c.mod = .slice Am ms.length cm) (hr : SlV 4 1 w Am ms.length cm (boC ms)) (hz : Am = none ∨ 0 < ms.length) (hn : ms.length ≤ 10000) :
    Calls Tryz.prog 14 #[.pointer (some ⟨bs, 0, none⟩)] w (BoolsTo ms.length ms w) := by
  obtain ⟨_, _, _, _, _, _, _, _, _, _, c10, _⟩ := h.cells
  rw [hc] at c10
  have HC : Hid (Calls Tryz.prog 31 #[.slice Am ms.length cm] w (BoolsTo ms.length ms w)) := by
    rcases hr with ⟨e1, e2, e3⟩ | ⟨g, e1, hr⟩
    · have : ms = [] := List.eq_nil_of_length_eq_zero e2
      subst this
      rw [e1, e3]; exact clone_nob w
    · rw [e1]
      by_cases h0 : 0 < ms.length
      · exact clone_bool w g ms.length cm ms hr h0 (by omega)
      · rcases hz with e | e
        · rw [e1] at e; cases e
        · exact absurd e h0
  clear h hr hc
  go_enter Tryz.func14, Tryz.ntmps14
  go_wp2_with fail
  refine HC.out.mono ?_
  rintro e w1 ⟨A', c', rfl, h1, h2, h3⟩
  have HV := Lib.hid (And.intro h1 (And.intro h2 h3))
  clear h1 h2 h3 HC
  go_wp2_with fail
  go_ret
  exact ⟨_, _, rfl, HV.out.1, HV.out.2.1, HV.out.2.2⟩
end
end Go.Proofs.YtfllhfhcmoemeaaGreat
