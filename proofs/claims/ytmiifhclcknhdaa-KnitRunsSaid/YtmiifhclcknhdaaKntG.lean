/- A Knit's search for the gates that have no variable: the closure that meets an edge. -/
import Derived.Test.YtmiifhclcknhdaaKntF
import Derived.Test.YtmiifhclcknhdaaGcon
namespace Go.Proofs.Ytmiifhclcknhdaa
open Go.RowKit GatM KntM Go.Lib

/-- A map's element as it stands. -/
def rawU (v : Value) : Option (DataW Value × List MemPlace) := some (.held v, [])
theorem kint_keyed : Maps.Keyed Try.prog 3 := Maps.int_keyed Try.underlying3
theorem zero_unit (w : World) : (zeroValue 100).run Try.prog w = .ok (.agg #[]) w := by kernel_rfl
theorem kkey {n : Nat} (h : n ≤ 100000) : keyOf Try.prog 3 (.int .i64 (n : Int)) = some (.int .i64 (n : Int)) :=
  Maps.keyOf_int_mk Try.underlying3 (by simp [Lit.wf, IntKind.min, IntKind.max, IntKind.bits, IntKind.signed]; omega)
/-- The map has just these numbers. -/
def MetM (w : World) (bm n : Nat) (C : List Nat) : Prop := ∃ D : DataW Value, w.ownsMap Try.prog 3 rawU bm n D ∧ ∀ k : Nat, Maps.has D (.int .i64 (k : Int)) = decide (k ∈ C) ∧ D.atKey (.int .i64 (k : Int)) (.held (.agg #[])) = .held (.agg #[])
section
variable {w w' : World} {bm n : Nat} {C : List Nat}
theorem MetM.made (w : World) : MetM (w.alloc (.map #[] 0)) w.heap.size 0 [] :=
  ⟨_, World.ownsMap_made _ _ _ _, fun k => ⟨by simp [Maps.has], by simp [DataW.atKey]⟩⟩
theorem MetM.same (h : MetM w bm n C) (hb : w'.heap[bm]? = w.heap[bm]?) : MetM w' bm n C := by
  obtain ⟨D, ⟨es, clock, h1, h2⟩, k⟩ := h
  exact ⟨D, ⟨es, clock, by rw [hb]; exact h1, h2⟩, k⟩
theorem MetM.lt (h : MetM w bm n C) : bm < w.heap.size := by obtain ⟨D, h, _⟩ := h; exact h.lt
theorem MetM.obj (h : MetM w bm n C) : ∃ es clock, w.heap[bm]? = some (.map es clock) := by
  obtain ⟨D, ⟨es, clock, h1, _⟩, _⟩ := h
  exact ⟨es, clock, h1⟩
theorem MetM.look (h : MetM w bm n C) {k : Nat} (hk : k ≤ 100000) : (Instr.lookup 99 (.map (some bm)) (.int .i64 (k : Int)) true).run Try.prog w = .ok (.tuple #[.agg #[], .bool (decide (k ∈ C))]) w := by
  obtain ⟨D, h1, h2⟩ := h
  obtain ⟨k1, k2⟩ := h2 k
  obtain ⟨v, ps, hrun, hv⟩ := h1.look_ok kint_keyed Try.underlying99 (zero_unit w) (zd := .held (.agg #[])) (zp := []) rfl (kkey hk)
  have hv : v = .agg #[] := by
    have e1 : DataW.held v = D.atKey (.int .i64 (k : Int)) (.held (.agg #[])) := congrArg Prod.fst (Option.some.inj hv)
    rw [k2] at e1
    exact DataW.held.inj e1
  rw [← k1, ← hv]; exact hrun
theorem MetM.put (h : MetM w bm n C) (hn : n < maxLen) {k : Nat} (hk : k ≤ 100000) :
    ∃ w', (Instr.mapUpdate 99 (.map (some bm)) (.int .i64 (k : Int)) (.agg #[])).run Try.prog w = .ok () w' ∧ MetM w' bm (n + 1) (C ++ [k]) ∧ Kf (fun j => j = bm) w w' := by
  obtain ⟨D, h1, h2⟩ := h
  obtain ⟨w', hrun, k1, k2⟩ := h1.store kint_keyed Try.underlying99 hn (kkey hk) (val := .agg #[]) (d := .held (.agg #[])) (ps := []) rfl
  refine ⟨w', hrun, ⟨_, k1, fun i => ?_⟩, (Kf.refl (fun j => j = bm) w).grown k2.grown (fun g hg' => by injection hg' with hg'; exact .inl hg'.symm)⟩
  obtain ⟨a1, a2⟩ := h2 i
  by_cases e : i = k
  · subst e
    exact ⟨by rw [decide_eq_true (by simp)]; exact Maps.has_put_same h1.isMap (kint_keyed.key (kkey hk)) _, Maps.atKey_put_same h1.isMap (kint_keyed.key (kkey hk)) _ _⟩
  · have hne : (Lit.int .i64 (i : Int)) ≠ .int .i64 (k : Int) := fun h => e (by have := (Lit.int.inj h).2; omega)
    exact ⟨by rw [Maps.has_put_other hne, a1, decide_eq_decide]; simp [e], by rw [Maps.atKey_put_other hne]; exact a2⟩
end
/-- The search in memory: the variables met (at b5), k (at b2), gates (at b6). -/
structure UnAt (B : Nat) (w0 w : World) (bk b5 b2 b6 bm : Nat) (Ac : Option Addr) (cc : Nat) (C : List Nat) : Prop where
  v5 : w.heap[b5]? = some (.cells #[.map (some bm)] 99 (0, 0))
  v2 : w.heap[b2]? = some (.cells #[.pointer (some ⟨bk, 0, none⟩)] 29 (0, 0))
  v6 : w.heap[b6]? = some (.cells #[.slice Ac C.length cc] 45 (0, 0))
  mp : ∃ n, n ≤ C.length ∧ MetM w bm n C
  rw : SlN .i64 3 w Ac cc C
  lo : B ≤ b5 ∧ B ≤ b2 ∧ B ≤ b6 ∧ B ≤ bm
  la : ∀ k, onB Ac k → B ≤ k
  be : Below B w0 w
section
variable {B : Nat} {w0 w w' : World} {bk b5 b2 b6 bm : Nat} {Ac : Option Addr} {cc : Nat} {C : List Nat}
theorem UnAt.cells (h : UnAt B w0 w bk b5 b2 b6 bm Ac cc C) : w.cell? ⟨b5, 0, none⟩ = some (.map (some bm)) ∧ w.cell? ⟨b2, 0, none⟩ = some (.pointer (some ⟨bk, 0, none⟩)) ∧ w.cell? ⟨b6, 0, none⟩ = some (.slice Ac C.length cc) ∧ w.frozen? ⟨b6, 0, none⟩ = false :=
  ⟨by rw [Lib.cell_of_heap h.v5]; rfl, by rw [Lib.cell_of_heap h.v2]; rfl, by rw [Lib.cell_of_heap h.v6]; rfl, Lib.frozen_of_heap h.v6 _⟩
theorem UnAt.hB (h : UnAt B w0 w bk b5 b2 b6 bm Ac cc C) : B ≤ w.heap.size := by have := lt_of_heap h.v5; have := h.lo.1; omega
theorem UnAt.below (h : UnAt B w0 w bk b5 b2 b6 bm Ac cc C) (hb : Below w.heap.size w w') : UnAt B w0 w' bk b5 b2 b6 bm Ac cc C := by
  obtain ⟨n, h1, h2⟩ := h.mp
  exact ⟨by rw [hb.block _ (lt_of_heap h.v5)]; exact h.v5, by rw [hb.block _ (lt_of_heap h.v2)]; exact h.v2, by rw [hb.block _ (lt_of_heap h.v6)]; exact h.v6, ⟨n, h1, h2.same (hb.block _ h2.lt)⟩, SlV.below h.rw hb, h.lo, h.la, h.be.trans (hb.mono h.hB)⟩
/-- A number that wasn't met is marked, and put behind the others. -/
theorem UnAt.push (h : UnAt B w0 w bk b5 b2 b6 bm Ac cc C) {n m : Nat} {w2 Wx w4 : World} (hM : MetM w2 bm m (C ++ [n])) (hm : m ≤ C.length + 1) (hk2 : Kf (fun k => k = bm) w w2) (hb : Below w2.heap.size w2 Wx) {g4 c4 : Nat}
    (hr : RowV 3 1 w4 g4 (C.length + 1) c4 (appV (numF .i64 C) C.length [.int .i64 (n : Int)])) (hg : onB Ac g4 ∨ Wx.heap.size ≤ g4) (hk : Kf (fun k => onB Ac k) Wx w4) :
    (w4.cell? ⟨b6, 0, none⟩ = some (.slice Ac C.length cc) ∧ w4.frozen? ⟨b6, 0, none⟩ = false) ∧ UnAt B w0 (w4.setCell ⟨b6, 0, none⟩ (.slice (some ⟨g4, 0, none⟩) (C.length + 1) c4)) bk b5 b2 b6 bm (some ⟨g4, 0, none⟩) c4 (C ++ [n]) := by
  have hl : (C ++ [n]).length = C.length + 1 := by simp
  have hs2 := hk2.size
  have hsx := hb.size
  have hs4 := hk.size
  obtain ⟨m0, _, hm0⟩ := h.mp
  obtain ⟨es, clk, hob⟩ := hm0.obj
  have n5 : b5 ≠ bm := fun e => by have := h.v5; rw [e, hob] at this; cases this
  have n2 : b2 ≠ bm := fun e => by have := h.v2; rw [e, hob] at this; cases this
  have n6 : b6 ≠ bm := fun e => by have := h.v6; rw [e, hob] at this; cases this
  have n56 : b5 ≠ b6 := apart h.v5 h.v6 (by decide)
  have n26 : b2 ≠ b6 := apart h.v2 h.v6 (by decide)
  have na : ∀ k, onB Ac k → k ≠ b5 ∧ k ≠ b2 ∧ k ≠ b6 ∧ k ≠ bm := fun k hk => by
    rcases h.rw with ⟨e, _⟩ | ⟨g, e, cur, h3, _⟩
    · rw [e] at hk; exact absurd hk (onB_none k)
    · rw [e, onB_some] at hk
      have hk : k = g := hk
      subst hk
      exact ⟨apart h3 h.v5 (by decide), apart h3 h.v2 (by decide), apart h3 h.v6 (by decide), fun e => by rw [e, hob] at h3; cases h3⟩
  have old : ∀ k, k < w.heap.size → k ≠ bm → ¬ onB Ac k → w4.heap[k]? = w.heap[k]? := fun k h1 h2 h3 => by
    rw [hk.block k (by omega) h3, hb.block k (by omega)]
    exact hk2.block k h1 h2
  have l5 := lt_of_heap h.v5
  have l2 := lt_of_heap h.v2
  have l6 := lt_of_heap h.v6
  have e6 : w4.heap[b6]? = some (.cells #[.slice Ac C.length cc] 45 (0, 0)) := by rw [old _ l6 n6 (fun e => (na _ e).2.2.1 rfl)]; exact h.v6
  have hne : b6 ≠ g4 := by
    obtain ⟨cur, h3, _⟩ := hr
    exact apart e6 h3 (by decide)
  have ho : ∀ k, k ≠ b6 → (w4.setCell ⟨b6, 0, none⟩ (.slice (some ⟨g4, 0, none⟩) (C.length + 1) c4)).heap[k]? = w4.heap[k]? := fun k e => Below.heap_setCell _ _ _ _ e
  refine ⟨⟨by rw [Lib.cell_of_heap e6]; rfl, Lib.frozen_of_heap e6 _⟩, ⟨?_, ?_, ?_, ⟨m, by rw [hl]; exact hm, ?_⟩, ?_, h.lo, ?_, ?_⟩⟩
  · rw [ho _ n56, old _ l5 n5 (fun e => (na _ e).1 rfl)]; exact h.v5
  · rw [ho _ n26, old _ l2 n2 (fun e => (na _ e).2.1 rfl)]; exact h.v2
  · rw [Lib.heap_setCell_same e6, hl]; rfl
  · refine hM.same ?_
    rw [ho _ n6.symm, hk.block _ (by have := hM.lt; omega) (fun e => (na _ e).2.2.2 rfl)]
    exact hb.block _ hM.lt
  · show SlV 3 1 _ (some ⟨g4, 0, none⟩) (C ++ [n]).length c4 _
    rw [hl]
    exact .inr ⟨g4, rfl, (hr.other (a := ⟨b6, 0, none⟩) hne _).congr fun j hj => by
      have := numF_app (k := .i64) (l := C) (x := n) (j := j) (by rw [hl]; omega)
      rwa [Nat.mul_one] at this⟩
  · exact fun k hk' => by
      rw [onB_some] at hk'
      have hk' : k = g4 := hk'
      rcases hg with e | e
      · rw [hk']; exact h.la _ e
      · have := h.hB; omega
  · refine (h.be.trans ?_).setCell h.lo.2.2.1 _
    refine ⟨(hk.os.trans hb.os).trans hk2.os, (hk.tape.trans hb.tape).trans hk2.tape, (hk.output.trans hb.output).trans hk2.output, by omega, fun k hk' => ?_⟩
    exact old k (by have := h.hB; omega) (fun e => by have := h.lo.2.2.2; omega) (fun e => by have := h.la k e; omega)
end
def UnmTo (B : Nat) (w0 : World) (bk b5 b2 b6 bm : Nat) (C : List Nat) (w' : World) : Prop := ∃ Ac cc, UnAt B w0 w' bk b5 b2 b6 bm Ac cc C
set_option maxHeartbeats 3200000 in
set_option maxRecDepth 100000 in
theorem kmeet_any {w0 w : World} {q : KnC} {s : KnS} (hq : KnAt w0 q s) {b5 b2 b6 bm : Nat} {C : List Nat} (hP : UnmTo w0.heap.size w0 q.bk b5 b2 b6 bm C w) (hC : C.length ≤ 90000) (e : Nat) (he : e < 4294967296) (h9 : e / 2 ≤ 90000)
    (h0 : s.m ≤ e / 2 → e / 2 ∉ s.K) (hK : s.K.length ≤ 90000) :
    Calls Try.prog 53 #[.int .u32 (e : Int), .pointer (some ⟨b5, 0, none⟩), .pointer (some ⟨b2, 0, none⟩), .pointer (some ⟨b6, 0, none⟩)] w fun r w' => r = .returned (.tuple #[]) ∧ UnmTo w0.heap.size w0 q.bk b5 b2 b6 bm (meetK s.K C (e / 2)) w' := by
  obtain ⟨Ac, cc, h⟩ := hP
  have HN := Lib.hid (knum_any e w he)
  have HV : Hid (∀ W, Below w.heap.size w W → Calls Try.prog 16 #[.pointer (some ⟨q.bk, 0, none⟩), .int .i64 ((e / 2 : Nat) : Int)] W fun r w' => r = .returned (.int .i64 ((vr s.K (e / 2) : Nat) : Int)) ∧ W = w') := fun W hW =>
    kVar_any (hq.below (h.be.trans (hW.mono h.hB))) (e / 2) (by omega) h0 hK
  obtain ⟨c5, c2, c6, f6⟩ := h.cells
  obtain ⟨mn, hmn, hmt⟩ := h.mp
  have hlook := fun W (hW : Below w.heap.size w W) => (hmt.same (hW.block _ hmt.lt)).look (k := e / 2) (by omega)
  have hlook0 := hlook w (Below.refl _ _)
  have HSAME : Hid (meetK s.K C (e / 2) = C → ∀ W, Below w.heap.size w W → UnmTo w0.heap.size w0 q.bk b5 b2 b6 bm (meetK s.K C (e / 2)) W) := fun e1 W hW => by rw [e1]; exact ⟨Ac, cc, h.below hW⟩
  have hbd : Below w.heap.size w (w.alloc (.cells #[] 100)) := (Below.refl _ _).alloc (Nat.le_refl _) _
  obtain ⟨e5, e2, e6', _⟩ := (h.below hbd).cells
  have HUN := Lib.hid h
  have hvz := @vr_pos s.K (e / 2)
  have hvz0 := @vr_zero s.K (e / 2)
  have HME : Hid (meetK s.K C (e / 2) = if e / 2 ∈ s.K ∨ e / 2 ∈ C then C else C ++ [e / 2]) := rfl
  generalize meetK s.K C (e / 2) = C2 at *
  generalize vr s.K (e / 2) = v at *
  generalize e / 2 = n at *
  by_cases hin : n ∈ C
  · rw [decide_eq_true hin] at hlook0
    have HE := Lib.hid (HSAME.out (by rw [HME.out, if_pos (.inr hin)]))
    clear h hq hmt hlook HSAME hvz hvz0 hin HUN
    go_enter Try.func53, Try.ntmps53
    go_wp2_with fail
    refine HN.out.mono ?_
    rintro r w' ⟨rfl, rfl⟩
    go_wp2_with fail
    go_end0
    exact ⟨rfl, HE.out _ (by assumption)⟩
  · rw [decide_eq_false hin] at hlook0
    by_cases hnk : n ∈ s.K
    · have HE := Lib.hid (HSAME.out (by rw [HME.out, if_pos (.inl hnk)]))
      have tv : ((v : Int) == 0) = false := by rw [beq_eq_false_iff_ne]; have := hvz.2 hnk; omega
      have tv2 : (v == 0) = false := by rw [beq_eq_false_iff_ne]; exact hvz.2 hnk
      have HVV := Lib.hid (HV.out _ hbd)
      clear h hq hmt hlook HSAME hvz hvz0 hin HUN HV
      go_enter Try.func53, Try.ntmps53
      go_wp2_with fail
      refine HN.out.mono ?_
      rintro r w' ⟨rfl, rfl⟩
      go_wp2_with fail
      refine HVV.out.mono ?_
      rintro r w' ⟨rfl, rfl⟩
      go_wp2_with fail
      go_end0
      exact ⟨rfl, HE.out _ (by assumption)⟩
    · have hC2 : C2 = C ++ [n] := by rw [HME.out, if_neg]; rintro (e1 | e1); exact hnk e1; exact hin e1
      have tv : v = 0 := hvz0 hnk
      have HVV : Hid (Calls Try.prog 16 #[.pointer (some ⟨q.bk, 0, none⟩), .int .i64 (n : Int)] (w.alloc (.cells #[] 100)) fun r w' => r = .returned (.int .i64 0) ∧ w.alloc (.cells #[] 100) = w') := by
        have := HV.out _ hbd
        rw [tv] at this; exact this
      obtain ⟨w2, hput, hm2, hk2⟩ := (hmt.same (hbd.block _ hmt.lt)).put (by unfold maxLen; omega) (k := n) (by omega)
      have h1 := HUN.out.below hbd
      have e6 : w2.heap[b6]? = some (.cells #[.slice Ac C.length cc] 45 (0, 0)) := by
        rw [hk2.block _ (lt_of_heap h1.v6) (fun e => by
          obtain ⟨_, _, hm0⟩ := h1.mp
          obtain ⟨es, clk, hob⟩ := hm0.obj
          have := h1.v6
          rw [e, hob] at this; cases this)]
        exact h1.v6
      have d6 : w2.cell? ⟨b6, 0, none⟩ = some (.slice Ac C.length cc) := by rw [Lib.cell_of_heap e6]; rfl
      have hb1 : Below w2.heap.size w2 (w2.alloc (.cells #[.int .i64 (n : Int)] 3)) := (Below.refl _ _).alloc (Nat.le_refl _) _
      have HSL : Hid (SlV 3 1 (w2.alloc (.cells #[.int .i64 (n : Int)] 3)) Ac C.length cc (numF .i64 C)) := by
        refine SlV.below (SlV.same h1.rw fun j hj => ?_) hb1
        exact hk2.block j (h1.rw.lt j hj) (fun e => by
          obtain ⟨_, _, hm0⟩ := h1.mp
          obtain ⟨es, clk, hob⟩ := hm0.obj
          rcases h1.rw with ⟨e2, _⟩ | ⟨g, e2, cur, h3, _⟩
          · rw [e2] at hj; exact absurd hj (onB_none j)
          · rw [e2, onB_some] at hj
            have hj : j = g := hj
            rw [← hj, e, hob] at h3; cases h3)
      have HF : Hid (∀ w4 g4 c4, RowV 3 1 w4 g4 (C.length + 1) c4 (appV (numF .i64 C) C.length [.int .i64 (n : Int)]) → (onB Ac g4 ∨ (w2.alloc (.cells #[.int .i64 (n : Int)] 3)).heap.size ≤ g4) → Kf (fun k => onB Ac k) (w2.alloc (.cells #[.int .i64 (n : Int)] 3)) w4 →
          w4.cell? ⟨b6, 0, none⟩ = some (.slice Ac C.length cc) ∧ w4.frozen? ⟨b6, 0, none⟩ = false ∧ UnmTo w0.heap.size w0 q.bk b5 b2 b6 bm C2 (w4.setCell ⟨b6, 0, none⟩ (.slice (some ⟨g4, 0, none⟩) (C.length + 1) c4))) := fun w4 g4 c4 a1 a2 a3 => by
        obtain ⟨⟨p1, p2⟩, p3⟩ := h1.push hm2 (by omega) hk2 hb1 a1 a2 a3
        exact ⟨p1, p2, _, _, by rw [hC2]; exact p3⟩
      clear h hq hmt hlook HSAME hvz hvz0 hin HUN HV hnk tv h1 hm2 hk2 e6 hb1 hC2 HME hmn
      go_enter Try.func53, Try.ntmps53
      go_wp2_with fail
      refine HN.out.mono ?_
      rintro r w' ⟨rfl, rfl⟩
      go_wp2_with fail
      refine HVV.out.mono ?_
      rintro r w' ⟨rfl, rfl⟩
      go_wp2_with (at_builtin; refine wpList_append_sl _ rfl _ _ 45 3 rfl Try.underlying45 info_gint rfl (by decide) (by decide) Ac C.length cc (numF .i64 C) rfl HSL.out (by omega) ⟨w2.heap.size, 0, none⟩ 1 1 [.int .i64 (n : Int)] rfl rfl (box_news w2 3 _) (by simp [Value.oneCell']) (by omega) (by omega) ?_)
      intro g4 c4 w4 hr4 hg4 hk4
      obtain ⟨d0, d2, hF⟩ := HF.out w4 g4 c4 (by simpa using hr4) (by rcases hg4 with e | e; exact .inl e; exact .inr (by simpa using e)) (hk4 _ fun j hj => hj)
      have HF2 := Lib.hid hF
      clear hr4 hg4 hk4 HF HSL hF
      go_wp2_with fail
      go_end0
      exact ⟨rfl, HF2.out⟩
end Go.Proofs.Ytmiifhclcknhdaa
