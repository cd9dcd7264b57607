/- A circuit's contracts: Parts, Input, New, And. -/
import Derived.Test.YtmiifhclcknhdaaGrtC
import Derived.Laws.StructEq
import Derived.DeepKeys
namespace Go.Proofs.Ytmiifhclcknhdaa
open Go.RowKit GatM

set_option maxRecDepth 100000 in
theorem pair_equal {p q : Nat × Nat} (hp : SmlP p) (hq : SmlP q) (W : World) : (Op.equalIn 10000 67 (pairV p) (pairV q)).run Try.prog W = .ok (decide (p = q)) W := by
  obtain ⟨r, hr, hi⟩ := run_equal_deep W (m := 2) (by omega) (g_arr.at 0) g_arr.wide (g_key hp) (g_key hq)
  have e : r = decide (p = q) := by
    rw [Bool.eq_iff_iff, hi, decide_eq_true_iff]
    exact ⟨fun h => klP_inj hp hq h, fun h => by rw [h]⟩
  rw [← e]; exact hr
theorem guard_pair : Try.prog.eqGuardType Try.prog.depth 67 = false := by kernel_rfl
theorem wf_sml {gs : Gs} (h : Wf gs) (hn : gs.length ≤ 90000) {i : Nat} (hi : i < gs.length) : SmlP (getG gs i) := by
  by_cases e : getG gs i = (0, 0)
  · rw [e]; exact ⟨by decide, by decide⟩
  · have := h.and_ i hi e
    exact ⟨by omega, by omega⟩
/-- Is it an AND? -/
def andB (gs : Gs) (i : Nat) : Bool := decide (getG gs i ≠ (0, 0))
set_option maxHeartbeats 1600000 in
set_option maxRecDepth 100000 in
theorem gparts_any {w : World} {c : GrC} {gs mp : Gs} {ins : List Nat} (h : GrAt w c gs ins mp) (hw : Wf gs) (hn : gs.length ≤ 90000) (i : Nat) (hi : i < gs.length) :
    Calls Try.prog 18 #[.pointer (some ⟨c.bg, 0, none⟩), .int .i64 (i : Int)] w fun e w' => e = .returned (.tuple #[.int .u32 (((getG gs i).1 : Nat) : Int), .int .u32 (((getG gs i).2 : Nat) : Int), .bool (andB gs i)]) ∧ Below w.heap.size w w' := by
  obtain ⟨c0, _, _, _⟩ := h.cells
  have HL := Lib.hid (glen_any h)
  have hbd := h.ga.bd
  obtain ⟨hb1, hb2⟩ := hbd
  have x0 : w.cell? ⟨c.g, i * 2, none⟩ = some (.int .u32 (((getG gs i).1 : Nat) : Int)) := by
    rw [h.ga.cell (show i * 2 < gs.length * 2 by omega)]
    unfold gatesF
    rw [if_pos (by omega), show i * 2 / 2 = i by omega]
  have x1 : w.cell? ⟨c.g, i * 2 + 1, none⟩ = some (.int .u32 (((getG gs i).2 : Nat) : Int)) := by
    rw [h.ga.cell (show i * 2 + 1 < gs.length * 2 by omega)]
    unfold gatesF
    rw [if_neg (by omega), show (i * 2 + 1) / 2 = i by omega]
  have hq : ∀ W, (Op.equalIn 10000 67 (.agg #[.int .u32 (((getG gs i).1 : Nat) : Int), .int .u32 (((getG gs i).2 : Nat) : Int)]) (.agg #[.int .u32 0, .int .u32 0])).run Try.prog W = .ok (!andB gs i) W := fun W => by
    have := pair_equal (wf_sml hw hn hi) (q := (0, 0)) ⟨by decide, by decide⟩ W
    rw [show (!andB gs i) = decide (getG gs i = (0, 0)) from by unfold andB; simp]
    exact this
  have hgd := guard_pair
  have t0 : decide ((i : Int) < 0) = false := decide_eq_false (by omega)
  have t1 : decide ((gs.length : Int) ≤ (i : Int)) = false := decide_eq_false (by omega)
  have t2 : decide (gs.length ≤ i) = false := decide_eq_false (by omega)
  generalize andB gs i = bb at *
  generalize (getG gs i).1 = x at *
  generalize (getG gs i).2 = y at *
  clear h
  go_enter Try.func18, Try.ntmps18
  go_wp2_with fail
  refine HL.out.mono ?_
  rintro e w' ⟨rfl, rfl⟩
  go_upto_region 4 with (fail)
  go_quiet (fail)
  have HB : Hid (∀ q, Below w.heap.size w ((w.alloc (.cells #[.int .u32 (x : Int), .int .u32 (y : Int)] 67)).drewN q)) := fun q => below_drewN ((Below.refl _ _).alloc (Nat.le_refl _) _) q
  go_wp2_with fail
  go_ret3
  exact ⟨rfl, HB.out _⟩
theorem info_edge : (Try.prog.info? 25).map (fun i => (i.zero, i.size, i.bytes)) = some (some (.int .u32 0), 1, 4) := by kernel_rfl
/-- The map tells of no INPUT. -/
theorem GrAt.mpInput {w : World} {c : GrC} {gs mp : Gs} {ins : List Nat} (h : GrAt w c gs ins mp) : GrAt w c gs ins (mp ++ [(0, 0)]) :=
  ⟨h.hd, h.ga, h.ia, h.ma.input, by have := h.nb; simp; omega⟩
/-- Behind the append to the INPUTS, and the store. -/
theorem GrAt.pushI {w Wx w4 : World} {c : GrC} {gs mp : Gs} {ins : List Nat} (h : GrAt w c gs ins mp) (hb : Below w.heap.size w Wx) {x g4 c4 : Nat} (hr : RowV 25 1 w4 g4 (ins.length + 1) c4 (appV (numF .u32 ins) (ins.length * 1) [.int .u32 (x : Int)]))
    (hg : onB c.Ai g4 ∨ Wx.heap.size ≤ g4) (hk : Kf (fun k => onB c.Ai k) Wx w4) : GrTo w (w4.setCell ⟨c.bg, 1, none⟩ (.slice (some ⟨g4, 0, none⟩) (ins.length + 1) c4)) c { c with Ai := some ⟨g4, 0, none⟩, ci := c4 } gs (ins ++ [x]) mp := by
  have hx := h.below hb
  have hne : c.bg ≠ g4 := by
    rcases hg with e | e
    · exact fun e2 => h.ne_i.1 (e2 ▸ e)
    · have := lt_of_heap hx.hd; omega
  have hl : (ins ++ [x]).length = ins.length + 1 := by simp
  have h4 : ∀ k, c.own k → ¬ onB c.Ai k → w4.heap[k]? = Wx.heap[k]? := fun k ho e => hk.block k (hx.lt ho) e
  have hbg4 : w4.heap[c.bg]? = some (.cells (c.cells gs.length ins.length) 64 (0, 0)) := by rw [h4 _ (.inl rfl) h.ne_i.1]; exact hx.hd
  have ho : ∀ k, k ≠ c.bg → (w4.setCell ⟨c.bg, 1, none⟩ (.slice (some ⟨g4, 0, none⟩) (ins.length + 1) c4)).heap[k]? = w4.heap[k]? := fun k e => Below.heap_setCell _ _ _ _ e
  refine ⟨⟨?_, ?_, ?_, ?_, h.nb⟩, rfl, ?_, fun k hk' => ?_⟩
  · rw [Lib.heap_setCell_same hbg4, hl]; rfl
  · refine h.ga.same ?_
    show (w4.setCell ⟨c.bg, 1, none⟩ _).heap[c.g]? = _
    rw [ho _ (fun e => h.ne_g e.symm), h4 _ (.inr (.inl rfl)) h.ne_i.2]
    exact hb.block _ h.ga.lt
  · show SlV 25 1 _ (some ⟨g4, 0, none⟩) (ins ++ [x]).length c4 _
    rw [hl]
    exact .inr ⟨g4, rfl, (hr.other (a := ⟨c.bg, 1, none⟩) hne _).congr fun j hj => numF_app (by rw [hl]; omega)⟩
  · refine h.ma.same ?_
    rw [ho _ (fun e => h.ne_m.1 e.symm), h4 _ (.inr (.inr (.inr rfl))) h.ne_m.2.2]
    exact hb.block _ h.ma.lt
  · exact ((Kf.of_below hb).trans (hk.mono (G := c.own) fun x hx => .inl (.inr (.inr (.inl hx)))) (fun _ hx => .inl hx)).set (.inl (.inl rfl)) _
  · rcases hk' with e | e | e | e
    · exact .inl (.inl e)
    · exact .inl (.inr (.inl e))
    · have e : onB (some ⟨g4, 0, none⟩) k := e
      rw [onB_some] at e
      have e : k = g4 := e
      rcases hg with e2 | e2
      · exact .inl (.inr (.inr (.inl (e ▸ e2))))
      · exact .inr (by rw [e]; exact Nat.le_trans hb.size e2)
    · exact .inl (.inr (.inr (.inr e)))
set_option maxHeartbeats 1600000 in
set_option maxRecDepth 100000 in
theorem ginput_any {w : World} {c : GrC} {gs : Gs} {ins : List Nat} (h : GrAt w c gs ins gs) (hn : gs.length ≤ 90000) (hi : ins.length ≤ 90000) :
    Calls Try.prog 7 #[.pointer (some ⟨c.bg, 0, none⟩)] w fun e w' => e = .returned (.tuple #[.int .u32 (2 * (gs.length : Int)), .int .i64 0]) ∧ ∃ c', GrTo w w' c c' (gs ++ [(0, 0)]) (ins ++ [2 * gs.length]) (gs ++ [(0, 0)]) := by
  have HA := Lib.hid (gadd_any h hn 0 0)
  simp only [pairV] at HA
  clear h
  go_enter Try.func7, Try.ntmps7
  go_wp2_with fail
  refine HA.out.mono ?_
  rintro e w1 ⟨rfl, c1, hT⟩
  have hb0 := hT.bg
  have h1 := hT.at_.mpInput
  obtain ⟨_, d1, _, _⟩ := h1.cells
  rw [hb0] at d1
  have hlt : c.bg < w1.heap.size := by rw [← hb0]; exact h1.lt (.inl rfl)
  have hb1 : Below w1.heap.size w1 (w1.alloc (.cells #[.int .u32 (2 * (gs.length : Int))] 25)) := (Below.refl _ _).alloc (Nat.le_refl _) _
  have HSL : Hid (SlV 25 1 (w1.alloc (.cells #[.int .u32 (2 * (gs.length : Int))] 25)) c1.Ai ins.length c1.ci (numF .u32 ins)) := h1.ia.below hb1
  have HF : Hid (∀ w4 g4 c4, RowV 25 1 w4 g4 (ins.length + 1) c4 (appV (numF .u32 ins) ins.length [.int .u32 (2 * (gs.length : Int))]) → (onB c1.Ai g4 ∨ (w1.alloc (.cells #[.int .u32 (2 * (gs.length : Int))] 25)).heap.size ≤ g4) → Kf (fun k => onB c1.Ai k) (w1.alloc (.cells #[.int .u32 (2 * (gs.length : Int))] 25)) w4 →
      w4.cell? ⟨c.bg, 1, none⟩ = some (.slice c1.Ai ins.length c1.ci) ∧ w4.frozen? ⟨c.bg, 1, none⟩ = false ∧ GrTo w (w4.setCell ⟨c.bg, 1, none⟩ (.slice (some ⟨g4, 0, none⟩) (ins.length + 1) c4)) c { c1 with Ai := some ⟨g4, 0, none⟩, ci := c4 } (gs ++ [(0, 0)]) (ins ++ [2 * gs.length]) (gs ++ [(0, 0)])) := fun w4 g4 c4 a1 a2 a3 => by
    rw [show (2 * (gs.length : Int)) = ((2 * gs.length : Nat) : Int) by omega] at a1 a2 a3
    have e : w4.heap[c.bg]? = some (.cells (c1.cells (gs ++ [(0, 0)]).length ins.length) 64 (0, 0)) := by
      rw [a3.block c.bg (by simp; omega) (by rw [← hb0]; exact h1.ne_i.1), Below.heap_alloc _ _ _ hlt, ← hb0]; exact h1.hd
    refine ⟨by rw [Lib.cell_of_heap e]; rfl, Lib.frozen_of_heap e _, ?_⟩
    have hP := h1.pushI (x := 2 * gs.length) ((Below.refl _ _).alloc (Nat.le_refl _) _) (by rw [Nat.mul_one]; exact a1) a2 a3
    rw [← hb0]
    exact ⟨hP.at_, hP.bg.trans hb0, hT.kf.trans hP.kf hT.new, fun k hk => by
      rcases hP.new k hk with y | y
      · exact hT.new k y
      · exact .inr (Nat.le_trans hT.kf.size y)⟩
  clear hT h1 hb0 HA hb1
  go_wp2_with (at_builtin; refine wpList_append_sl _ rfl _ _ 46 25 rfl Try.underlying46 info_edge rfl (by decide) (by decide) c1.Ai ins.length c1.ci (numF .u32 ins) rfl HSL.out (by omega) ⟨w1.heap.size, 0, none⟩ 1 1 [.int .u32 (2 * (gs.length : Int))] rfl rfl (box_news w1 25 _) (by simp [Value.oneCell']) (by omega) (by omega) ?_)
  intro g4 c4 w4 hr4 hg4 hk4
  obtain ⟨d0, d2, hF⟩ := HF.out w4 g4 c4 hr4 (by rcases hg4 with e | e; exact .inl e; exact .inr (by simpa using e)) (hk4 _ fun j hj => hj)
  have HF2 := Lib.hid hF
  clear hr4 hg4 hk4 HF HSL hF
  go_wp2_with fail
  go_ret2
  exact ⟨rfl, _, HF2.out⟩
/-- A circuit that is made. -/
def NewTo (w : World) (e : Ending) (w' : World) : Prop := ∃ c : GrC, e = .returned (.pointer (some ⟨c.bg, 0, none⟩)) ∧ GrAt w' c [(0, 0)] [] [(0, 0)] ∧ Below w.heap.size w w' ∧ ∀ k, c.own k → w.heap.size ≤ k
set_option maxHeartbeats 1600000 in
set_option maxRecDepth 100000 in
theorem gnew_any (w : World) : Calls Try.prog 6 #[] w (NewTo w) := by
  obtain ⟨C, hC1, hC2, hmk⟩ := make_sl (P := Try.prog) 61 67 Try.underlying61 info_pair rfl (by decide) (by decide) 1 (by omega)
  have hmk2 : (Instr.makeSlice 61 (.int .i64 1) (.int .i64 1)).run Try.prog w = .ok (.slice (some ⟨w.heap.size, 0, none⟩) 1 1) (w.alloc (.cells C 67)) := hmk w
  have hmm := @run_makeMap Try.prog
  have hW : Hid (∀ W, W = ((w.alloc (.cells C 67)).alloc (.map #[] 0)).alloc (.cells #[.slice (some ⟨w.heap.size, 0, none⟩) 1 1, .slice none 0 0, .map (some (w.heap.size + 1))] 64) → NewTo w (.returned (.pointer (some ⟨w.heap.size + 2, 0, none⟩))) W) := fun W e => by
    refine ⟨⟨w.heap.size + 2, w.heap.size, 1, none, 0, w.heap.size + 1, 0⟩, rfl, ⟨?_, ?_, ?_, ?_, Nat.zero_le _⟩, ?_, fun k hk => ?_⟩
    · show W.heap[w.heap.size + 1 + 1]? = _
      have := blk_new ((w.alloc (.cells C 67)).alloc (.map #[] 0)) (.cells #[.slice (some ⟨w.heap.size, 0, none⟩) 1 1, .slice none 0 0, .map (some (w.heap.size + 1))] 64)
      rw [← e] at this
      have this : W.heap[w.heap.size + 1 + 1]? = some (.cells #[.slice (some ⟨w.heap.size, 0, none⟩) 1 1, .slice none 0 0, .map (some (w.heap.size + 1))] 64 (0, 0)) := by simpa using this
      exact this
    · have h0 : RowV 67 2 (w.alloc (.cells C 67)) w.heap.size 1 1 (gatesF [(0, 0)]) := RowV.made (by omega) hC1 fun j hj => by
        rw [hC2 j hj]
        rcases (show j = 0 ∨ j = 1 by omega) with q | q <;> subst q <;> rfl
      rw [e]
      exact (h0.alloc _).alloc _
    · exact .inl ⟨rfl, rfl, rfl⟩
    · rw [e]
      have h0 := MapP.made (w.alloc (.cells C 67))
      refine (show MapP _ (w.heap.size + 1) 0 [(0, 0)] from ?_)
      have h0 : MapP ((w.alloc (.cells C 67)).alloc (.map #[] 0)) (w.heap.size + 1) 0 [(0, 0)] := by simpa using h0
      exact h0.same (Below.heap_alloc _ _ _ h0.lt)
    · rw [e]
      exact (((Below.refl _ _).alloc (Nat.le_refl _) _).alloc (by simp) _).alloc (by simp; omega) _
    · rcases hk with e | e | e | e
      · rw [e]; exact Nat.le_add_right _ _
      · exact Nat.le_of_eq e.symm
      · exact absurd e (onB_none _)
      · rw [e]; exact Nat.le_add_right _ _
  clear hC1 hC2 hmk
  go_enter Try.func6, Try.ntmps6
  go_wp2_with fail
  go_ret
  exact hW.out _ rfl
end Go.Proofs.Ytmiifhclcknhdaa
