/- A team of one member in memory: its struct, its member, its engine, its rows. A team of one member: contracts of newest, trace, tell, loosen, decide, propagate. A team of one member: contracts of propagate, deny, settle, follows. -/
import Derived.Test.YtkckodpfhlpkgaaGreatPrfM
import Derived.Deep.QuietTactic
import Derived.BigQuiet
import Derived.Deep.DeepCutAuto
import Derived.Deep.RegionHeld3
import Derived.Deep.RegionWith
import Derived.Laws.AppendOwnNone
namespace Go.Proofs.YtkckodpfhlpkgaaGreat
open Go.RowKit LitM TrailM EngM

/-- Whose a block is. -/
inductive Tl where
  | no | team | memb | mrow | prow | nrow
/-- What a team holds. -/
structure TmC where
  bt : Nat
  bm : Nat
  be : Nat
  vars : Int
  room : Int
  gr : Nat
  cr : Nat
  Ap : Option Addr
  cp : Nat
  np : Nat
  pl : Nat → Option Nat
  gone : Int
  settled : Bool
  stuck : Bool
  steps : Int
  An : Option Addr
  cn : Nat
  nums : List Nat
  depth : Int
  tl : Nat → Tl
  tr : Bool
def TmC.tcells (c : TmC) : Array Value := #[.int .i64 c.vars, .int .i64 c.room, .slice (some ⟨c.gr, 0, none⟩) 1 c.cr, .slice c.Ap c.np c.cp, .int .i64 c.gone, .bool c.settled, .bool c.stuck, .bool c.tr, .int .i64 c.steps, .slice none 0 0]
def TmC.mcells (c : TmC) : Array Value := #[.pointer (some ⟨c.be, 0, none⟩), .slice c.An c.nums.length c.cn, .int .i64 0, .int .i64 c.depth, .int .i64 0]
/-- Where the clauses are, by their numbers. -/
def plV (bm : Nat) (pl : Nat → Option Nat) (j : Nat) : Value := if j % 2 = 0 then (if (pl (j / 2)).isSome = true then .pointer (some ⟨bm, 0, none⟩) else .pointer none) else .int .i64 ((pl (j / 2)).getD 0 : Nat)
/-- A team of a law's own. -/
structure TmG (B : Nat) (w0 w : World) (c : TmC) (S : Eng) (q : Pm) : Prop where
  th : w.heap[c.bt]? = some (.cells c.tcells 56 (0, 0))
  mh : w.heap[c.bm]? = some (.cells c.mcells 67 (0, 0))
  eng : Sg B w0 w c.be S q
  mr : RowV 62 1 w c.gr 1 c.cr (fun _ => .pointer (some ⟨c.bm, 0, none⟩))
  pr : SlV 123 2 w c.Ap c.np c.cp (plV c.bm c.pl)
  nr : SlV 3 1 w c.An c.nums.length c.cn (natC c.nums)
  lt : c.tl c.bt = .team
  lm : c.tl c.bm = .memb
  lr : c.tl c.gr = .mrow
  lp : ∀ k, onB c.Ap k → c.tl k = .prow
  ln : ∀ k, onB c.An k → c.tl k = .nrow
  lo : ∀ k, c.tl k ≠ .no → q.own k = .no ∧ B ≤ k ∧ k < w.heap.size
  len : c.nums.length = S.cs.length
/-- What a team's call leaves of all else. -/
structure TExt (tl : Nat → Tl) (q q' : Pm) (w w' : World) : Prop where
  old : ∀ k, k < w.heap.size → q'.own k = q.own k
  kf : Kf (fun k => q.own k ≠ .no ∨ tl k ≠ .no) w w'
section
variable {B : Nat} {w0 w w' : World} {c : TmC} {S S' : Eng} {q q' q'' : Pm} {tl : Nat → Tl}
theorem TExt.refl (tl : Nat → Tl) (q : Pm) (w : World) : TExt tl q q w w := ⟨fun _ _ => rfl, Kf.refl _ _⟩
theorem TExt.trans {w1 : World} (h : TExt tl q q' w w1) (k : TExt tl q' q'' w1 w') : TExt tl q q'' w w' :=
  ⟨fun j hj => (k.old j (Nat.lt_of_lt_of_le hj h.kf.size)).trans (h.old j hj), h.kf.trans k.kf fun x hx => by
    rcases Nat.lt_or_ge x w.heap.size with e | e
    · rcases hx with y | y
      · exact .inl (.inl (by rw [← h.old x e]; exact y))
      · exact .inl (.inr y)
    · exact .inr e⟩
theorem TExt.ext (h : Ext q q' w w') : TExt tl q q' w w' := ⟨h.old, h.kf.mono fun _ hx => .inl (.inl hx)⟩
theorem TExt.below (hb : Below w.heap.size w w') : TExt tl q q w w' := ⟨fun _ _ => rfl, Kf.of_below hb⟩
theorem TExt.set {p : Addr} (hp : tl p.block ≠ .no) (v : Value) : TExt tl q q w (w.setCell p v) := ⟨fun _ _ => rfl, (Kf.refl _ _).set (.inl (.inr hp)) v⟩
theorem TmG.cells (h : TmG B w0 w c S q) : (w.cell? ⟨c.bt, 0, none⟩ = some (.int .i64 c.vars) ∧ w.cell? ⟨c.bt, 1, none⟩ = some (.int .i64 c.room) ∧ w.cell? ⟨c.bt, 2, none⟩ = some (.slice (some ⟨c.gr, 0, none⟩) 1 c.cr) ∧ w.cell? ⟨c.bt, 3, none⟩ = some (.slice c.Ap c.np c.cp) ∧ w.cell? ⟨c.bt, 4, none⟩ = some (.int .i64 c.gone) ∧ w.cell? ⟨c.bt, 5, none⟩ = some (.bool c.settled) ∧ w.cell? ⟨c.bt, 6, none⟩ = some (.bool c.stuck) ∧ w.cell? ⟨c.bt, 7, none⟩ = some (.bool c.tr)) ∧
    (w.cell? ⟨c.bm, 0, none⟩ = some (.pointer (some ⟨c.be, 0, none⟩)) ∧ w.cell? ⟨c.bm, 1, none⟩ = some (.slice c.An c.nums.length c.cn) ∧ w.cell? ⟨c.bm, 2, none⟩ = some (.int .i64 0) ∧ w.cell? ⟨c.bm, 3, none⟩ = some (.int .i64 c.depth) ∧ w.cell? ⟨c.bm, 4, none⟩ = some (.int .i64 0)) ∧
    w.cell? ⟨c.gr, 0, none⟩ = some (.pointer (some ⟨c.bm, 0, none⟩)) ∧ w.cell? ⟨c.be, 0, none⟩ = some (.pointer (some ⟨q.bt, 0, none⟩)) ∧ (∀ j, w.frozen? ⟨c.bt, j, none⟩ = false) ∧ (∀ j, w.frozen? ⟨c.bm, j, none⟩ = false) := by
  have h1 := h.th
  have h2 := h.mh
  refine ⟨⟨?_, ?_, ?_, ?_, ?_, ?_, ?_, ?_⟩, ⟨?_, ?_, ?_, ?_, ?_⟩, ?_, h.eng.eng.h0, fun j => Lib.frozen_of_heap h1 j, fun j => Lib.frozen_of_heap h2 j⟩
  iterate 8 (rw [Lib.cell_of_heap h1]; rfl)
  iterate 5 (rw [Lib.cell_of_heap h2]; rfl)
  exact h.mr.cell (j := 0) (by omega)
theorem TmG.lts (h : TmG B w0 w c S q) : c.bt < w.heap.size ∧ c.bm < w.heap.size ∧ c.gr < w.heap.size := ⟨lt_of_heap h.th, lt_of_heap h.mh, h.mr.lt⟩
/-- Where the team's own blocks stay. -/
theorem TmG.same (h : TmG B w0 w c S q) (hE : Sg B w0 w' c.be S' q') (hk : ∀ k, c.tl k ≠ .no → w'.heap[k]? = w.heap[k]? ∧ q'.own k = .no) (hs : w.heap.size ≤ w'.heap.size) (hl : S'.cs.length = S.cs.length) : TmG B w0 w' c S' q' :=
  ⟨by rw [(hk c.bt (by rw [h.lt]; intro e; cases e)).1]; exact h.th, by rw [(hk c.bm (by rw [h.lm]; intro e; cases e)).1]; exact h.mh, hE,
    h.mr.same (hk c.gr (by rw [h.lr]; intro e; cases e)).1, h.pr.same fun j hj => (hk j (by rw [h.lp j hj]; intro e; cases e)).1, h.nr.same fun j hj => (hk j (by rw [h.ln j hj]; intro e; cases e)).1,
    h.lt, h.lm, h.lr, h.lp, h.ln, fun k hk' => ⟨(hk k hk').2, (h.lo k hk').2.1, by have := (h.lo k hk').2.2; omega⟩, h.len.trans hl.symm⟩
theorem TmG.below (h : TmG B w0 w c S q) (hb : Below w.heap.size w w') : TmG B w0 w' c S q :=
  h.same (h.eng.below hb) (fun k hk => ⟨hb.block k (h.lo k hk).2.2, (h.lo k hk).1⟩) hb.size rfl
theorem TmG.drewN (h : TmG B w0 w c S q) (r : Nat) : TmG B w0 (w.drewN r) c S q := h.below ⟨rfl, rfl, rfl, Nat.le_refl _, fun _ _ => rfl⟩
theorem TmG.kept {F : Nat → Prop} (h : TmG B w0 w c S q) (hk : Kf F w w') (hF : ∀ k, F k → q.own k = .no ∧ c.tl k = .no ∧ B ≤ k) : TmG B w0 w' c S q :=
  h.same (h.eng.kept hk fun k e => ⟨(hF k e).1, (hF k e).2.2⟩) (fun k hn => ⟨hk.block k (h.lo k hn).2.2 (fun e => hn (hF k e).2.1), (h.lo k hn).1⟩) hk.size rfl
/-- Behind a call of the engine's. -/
theorem TmG.ext (h : TmG B w0 w c S q) (hE : Sg B w0 w' c.be S' q') (hX : Ext q q' w w') (hl : S'.cs.length = S.cs.length) : TmG B w0 w' c S' q' :=
  h.same hE (fun k hk => hX.blk (h.lo k hk).2.2 (h.lo k hk).1) hX.kf.size hl
/-- A store into the team's struct. -/
theorem TmG.tset {c' : TmC} {k : Nat} {v : Value} (h : TmG B w0 w c S q) (hc : c.tcells.set! k v = c'.tcells) (h1 : c'.bt = c.bt) (h2 : c'.bm = c.bm) (h3 : c'.be = c.be) (h4 : c'.gr = c.gr) (h5 : c'.cr = c.cr) (h6 : c'.Ap = c.Ap) (h7 : c'.cp = c.cp) (h8 : c'.np = c.np) (h9 : c'.pl = c.pl) (h10 : c'.An = c.An) (h11 : c'.cn = c.cn) (h12 : c'.nums = c.nums) (h13 : c'.depth = c.depth) (h14 : c'.tl = c.tl) :
    TmG B w0 (w.setCell ⟨c.bt, k, none⟩ v) c' S q ∧ TExt c.tl q q w (w.setCell ⟨c.bt, k, none⟩ v) := by
  have hlt := h.lt
  have hk : Kf (fun i => i = c.bt) w (w.setCell ⟨c.bt, k, none⟩ v) := (Kf.refl (fun i => i = c.bt) w).set (p := ⟨c.bt, k, none⟩) (.inl rfl) _
  have hne : ∀ j, c.tl j ≠ .team → j ≠ c.bt := fun j hj e => hj (by rw [e]; exact hlt)
  have hm : c'.mcells = c.mcells := by unfold TmC.mcells; rw [h3, h10, h11, h12, h13]
  have hob := h.lo c.bt (by rw [hlt]; intro e; cases e)
  refine ⟨⟨?_, ?_, ?_, ?_, ?_, ?_, by rw [h1, h14]; exact h.lt, by rw [h2, h14]; exact h.lm, by rw [h4, h14]; exact h.lr, by rw [h6, h14]; exact h.lp, by rw [h10, h14]; exact h.ln, fun j hj => ?_, by rw [h12]; exact h.len⟩, ⟨fun _ _ => rfl, hk.mono fun x hx => .inl (.inr (by rw [hx, hlt]; intro e; cases e))⟩⟩
  · rw [h1, ← hc]; exact Lib.heap_setCell_same h.th _
  · rw [h2, hm, hk.block c.bm h.lts.2.1 (hne _ (by rw [h.lm]; intro e; cases e))]; exact h.mh
  · rw [h3]; exact h.eng.kept hk fun i hi => by rw [hi]; exact ⟨hob.1, hob.2.1⟩
  · rw [h4, h5, h2]; exact h.mr.same (hk.block c.gr h.lts.2.2 (hne _ (by rw [h.lr]; intro e; cases e)))
  · rw [h6, h7, h8, h9, h2]; exact h.pr.same fun j hj => hk.block j (h.pr.lt j hj) (hne _ (by rw [h.lp j hj]; intro e; cases e))
  · rw [h10, h11, h12]; exact h.nr.same fun j hj => hk.block j (h.nr.lt j hj) (hne _ (by rw [h.ln j hj]; intro e; cases e))
  · rw [h14] at hj
    have := h.lo j hj
    exact ⟨this.1, this.2.1, Nat.lt_of_lt_of_le this.2.2 hk.size⟩
/-- A store into the member's struct. -/
theorem TmG.mset {c' : TmC} {k : Nat} {v : Value} (h : TmG B w0 w c S q) (hc : c.mcells.set! k v = c'.mcells) (h1 : c'.bt = c.bt) (h2 : c'.bm = c.bm) (h3 : c'.be = c.be) (h4 : c'.gr = c.gr) (h5 : c'.cr = c.cr) (h6 : c'.Ap = c.Ap) (h7 : c'.cp = c.cp) (h8 : c'.np = c.np) (h9 : c'.pl = c.pl) (h10 : c'.An = c.An) (h11 : c'.cn = c.cn) (h12 : c'.nums = c.nums) (h14 : c'.tl = c.tl) (h15 : c'.tcells = c.tcells) :
    TmG B w0 (w.setCell ⟨c.bm, k, none⟩ v) c' S q ∧ TExt c.tl q q w (w.setCell ⟨c.bm, k, none⟩ v) := by
  have hlm := h.lm
  have hk : Kf (fun i => i = c.bm) w (w.setCell ⟨c.bm, k, none⟩ v) := (Kf.refl (fun i => i = c.bm) w).set (p := ⟨c.bm, k, none⟩) (.inl rfl) _
  have hne : ∀ j, c.tl j ≠ .memb → j ≠ c.bm := fun j hj e => hj (by rw [e]; exact hlm)
  have hob := h.lo c.bm (by rw [hlm]; intro e; cases e)
  refine ⟨⟨?_, ?_, ?_, ?_, ?_, ?_, by rw [h1, h14]; exact h.lt, by rw [h2, h14]; exact h.lm, by rw [h4, h14]; exact h.lr, by rw [h6, h14]; exact h.lp, by rw [h10, h14]; exact h.ln, fun j hj => ?_, by rw [h12]; exact h.len⟩, ⟨fun _ _ => rfl, hk.mono fun x hx => .inl (.inr (by rw [hx, hlm]; intro e; cases e))⟩⟩
  · rw [h1, h15, hk.block c.bt h.lts.1 (hne _ (by rw [h.lt]; intro e; cases e))]; exact h.th
  · rw [h2, ← hc]; exact Lib.heap_setCell_same h.mh _
  · rw [h3]; exact h.eng.kept hk fun i hi => by rw [hi]; exact ⟨hob.1, hob.2.1⟩
  · rw [h4, h5, h2]; exact h.mr.same (hk.block c.gr h.lts.2.2 (hne _ (by rw [h.lr]; intro e; cases e)))
  · rw [h6, h7, h8, h9, h2]; exact h.pr.same fun j hj => hk.block j (h.pr.lt j hj) (hne _ (by rw [h.lp j hj]; intro e; cases e))
  · rw [h10, h11, h12]; exact h.nr.same fun j hj => hk.block j (h.nr.lt j hj) (hne _ (by rw [h.ln j hj]; intro e; cases e))
  · rw [h14] at hj
    have := h.lo j hj
    exact ⟨this.1, this.2.1, Nat.lt_of_lt_of_le this.2.2 hk.size⟩
theorem Sg.remove {b : Nat} (h : Sg B w0 w b S q) (id : Int) :
    Calls Tryz.prog 68 #[.pointer (some ⟨b, 0, none⟩), .int .i64 id] w fun e w' => e = .returned (.int .i64 (if remOk S id = true then 0 else 51)) ∧ ∃ q', Sg B w0 w' b (remE S id) q' ∧ Ext q q' w w' := by
  refine (remove_any h.eng h.inv.small id).mono fun e w' ht => ?_
  unfold remE
  rcases ht with ⟨a, e1, hE', hX⟩ | ⟨a, e1, q', hE', hX⟩
  · rw [if_neg (by rw [a]; simp), if_neg (by rw [a]; simp)]
    exact ⟨e1, q, h.to hE' h.inv hX, hX⟩
  · rw [if_pos a, if_pos a]
    obtain ⟨r1, r2⟩ := remOk_lt a
    exact ⟨e1, q', h.to hE' (inv_remove h.inv r1 r2) hX, hX⟩
end
/-- How many clauses there are stays. -/
theorem len_dec (S : Eng) (l : Int) : (decE S l).cs.length = S.cs.length := by unfold decE; split <;> rfl
theorem len_back (S : Eng) (v : Int) : (backE S v).cs.length = S.cs.length := by
  unfold backE
  split
  · unfold backF; split <;> rfl
  · rfl
theorem len_prop {S : Eng} (h : Inv S) : (propF S).1.cs.length = S.cs.length := (inv_prop h).2.1.cs
theorem len_rem (S : Eng) (v : Int) : (remE S v).cs.length = S.cs.length := by
  unfold remE
  split
  · show (S.cs.set _ _).length = _; simp
  · rfl
end Go.Proofs.YtkckodpfhlpkgaaGreat
namespace Go.Proofs.YtkckodpfhlpkgaaGreat
open Go.RowKit LitM TrailM EngM

section
variable {B : Nat} {w0 w w' : World} {c : TmC} {S S' : Eng} {q q' : Pm}
set_option maxHeartbeats 1600000 in
theorem tnewest_any (h : TmG B w0 w c S q) : Calls Tryz.prog 35 #[.pointer (some ⟨c.bt, 0, none⟩)] w fun e w' => e = .returned (.pointer (some ⟨c.bm, 0, none⟩)) ∧ ∃ r, w' = w.drewN r := by
  obtain ⟨⟨t0, t1, t2, _⟩, _, r0, _⟩ := h.cells
  have hb := h.mr.bd
  obtain ⟨hb1, hb2⟩ := hb
  clear h
  go_enter Tryz.func35, Tryz.ntmps35
  go_upto_region 1 with (fail)
  go_quiet (fail)
  go_wp2_with fail
  go_ret
  exact ⟨rfl, _, rfl⟩
set_option maxHeartbeats 1600000 in
theorem ttrace_any (h : TmG B w0 w c S q) (htr : c.tr = false) (x y : Value) : Calls Tryz.prog 37 #[.pointer (some ⟨c.bt, 0, none⟩), x, y] w fun e w' => e = .returned (.tuple #[]) ∧ w = w' := by
  obtain ⟨⟨_, _, _, _, _, _, _, t7⟩, _⟩ := h.cells
  rw [htr] at t7
  clear h htr
  go_enter Tryz.func37, Tryz.ntmps37
  go_wp2_with fail
  refine bodyPost_ret (v := .tuple #[]) (by simp [results, Tryz.results37, go_sem]) rfl ?_
  exact ⟨rfl, rfl⟩
set_option maxHeartbeats 1600000 in
theorem ttell_any (h : TmG B w0 w c S q) (x : Value) : Calls Tryz.prog 42 #[.pointer (some ⟨c.bt, 0, none⟩), x] w fun e w' => e = .returned (.bool false) ∧ w = w' := by
  obtain ⟨⟨_, _, t2, _⟩, _⟩ := h.cells
  clear h
  go_enter Tryz.func42, Tryz.ntmps42
  go_wp2_with fail
  go_ret
  exact ⟨rfl, rfl⟩
/-- What a call of the team's leaves, where the team's own things stay. -/
def TeTo (B : Nat) (w0 w : World) (c : TmC) (S' : Eng) (q : Pm) (w' : World) : Prop := ∃ q', TmG B w0 w' c S' q' ∧ TExt c.tl q q' w w'
set_option maxHeartbeats 3200000 in
set_option maxRecDepth 100000 in
theorem tloosen_any (h : TmG B w0 w c S q) (hcn : S.cs.length ≤ 20000) : Calls Tryz.prog 33 #[.pointer (some ⟨c.bt, 0, none⟩)] w fun e w' => e = .returned (.tuple #[]) ∧ TeTo B w0 w { c with settled := false } (backE S 0) q w' := by
  obtain ⟨⟨_, _, t2, _⟩, ⟨m0, _⟩, r0, _⟩ := h.cells
  have hb := h.mr.bd
  obtain ⟨hb1, hb2⟩ := hb
  have HB := Lib.hid (h.eng.back hcn 0)
  have HH := Lib.hid h
  clear h hcn
  go_enter Tryz.func33, Tryz.ntmps33
  go_wp2_with fail
  go_loopw [9] (fun v wr => Hid ((v = .int .i64 0 ∧ w = wr) ∨ (v = .int .i64 1 ∧ ∃ q', TmG B w0 wr c (backE S 0) q' ∧ TExt c.tl q q' w wr))) (fun v _ => (5 - intOf v).toNat)
  case atStart => exact Lib.hid (.inl ⟨rfl, rfl⟩)
  case round =>
    rcases hrel.out with ⟨rfl, rfl⟩ | ⟨rfl, q1, h1, x1⟩
    · clear hrel
      go_wp2_with fail
      refine HB.out.mono ?_
      rintro e w1 ⟨rfl, q1, hs, hx⟩
      have h1 := HH.out.ext hs hx (len_back _ _)
      obtain ⟨_, ⟨n0, _, n2, _⟩, _, _, _, nf⟩ := h1.cells
      obtain ⟨h2, x2⟩ := h1.mset (c' := c) (k := 2) (v := .int .i64 0) rfl rfl rfl rfl rfl rfl rfl rfl rfl rfl rfl rfl rfl rfl rfl
      have H2 := Lib.hid h2
      have X2 := Lib.hid ((TExt.ext hx).trans x2)
      clear h1 hs hx h2 x2 HB
      go_wp2_with fail
      go_roundw
      case rel => exact Lib.hid (.inr ⟨rfl, q1, H2.out, X2.out⟩)
      case measure => simp [intOf]
    · clear hrel
      obtain ⟨⟨_, _, _, _, _, u5, _⟩, _, _, _, uf, _⟩ := h1.cells
      obtain ⟨h2, x2⟩ := h1.tset (c' := { c with settled := false }) (k := 5) (v := .bool false) rfl rfl rfl rfl rfl rfl rfl rfl rfl rfl rfl rfl rfl rfl rfl
      have H2 := Lib.hid h2
      have X2 := Lib.hid (x1.trans x2)
      clear h1 x1 h2 x2
      go_wp2_with fail
      go_end0
      exact ⟨rfl, q1, H2.out, X2.out⟩
set_option maxHeartbeats 3200000 in
set_option maxRecDepth 100000 in
theorem tdecide_any (h : TmG B w0 w c S q) (l : Int) (l0 : -2147483648 ≤ l) (l1 : l ≤ 2147483647) : Calls Tryz.prog 38 #[.pointer (some ⟨c.bt, 0, none⟩), .int .i32 l] w fun e w' => (∃ r, e = .returned (.bool r)) ∧ TeTo B w0 w c (decE S l) q w' := by
  obtain ⟨⟨_, _, t2, _⟩, ⟨m0, _⟩, r0, _⟩ := h.cells
  have hb := h.mr.bd
  obtain ⟨hb1, hb2⟩ := hb
  have HB := Lib.hid (h.eng.decide l l0 l1)
  have HH := Lib.hid h
  clear h
  generalize eErr S l = er at *
  go_enter Tryz.func38, Tryz.ntmps38
  go_wp2_with fail
  go_loopw [5, 13] (fun u v wr => Hid ((u = .bool false ∧ v = .int .i64 0 ∧ w = wr) ∨ (∃ r, u = .bool r ∧ v = .int .i64 1 ∧ ∃ q', TmG B w0 wr c (decE S l) q' ∧ TExt c.tl q q' w wr))) (fun _ v _ => (5 - intOf v).toNat)
  case atStart => exact Lib.hid (.inl ⟨rfl, rfl, rfl⟩)
  case round =>
    rcases hrel.out with ⟨rfl, rfl, rfl⟩ | ⟨r, rfl, rfl, hh⟩
    · clear hrel
      go_wp2_with fail
      refine HB.out.mono ?_
      rintro e w1 ⟨rfl, q1, hs, hx⟩
      have H1 : Hid (∃ q', TmG B w0 w1 c (decE S l) q' ∧ TExt c.tl q q' w w1) := ⟨q1, HH.out.ext hs hx (len_dec _ _), TExt.ext hx⟩
      clear hs hx HB
      cases he : (er == 0) with
      | false =>
        go_wp2_with fail
        go_roundw
        case rel => exact Lib.hid (.inr ⟨_, rfl, rfl, H1.out⟩)
        case measure => simp [intOf]
      | true =>
        go_wp2_with fail
        go_roundw
        case rel => exact Lib.hid (.inr ⟨_, rfl, rfl, H1.out⟩)
        case measure => simp [intOf]
    · have H1 := Lib.hid hh
      clear hrel hh
      go_wp2_with fail
      go_ret
      exact ⟨⟨r, rfl⟩, H1.out⟩
end
end Go.Proofs.YtkckodpfhlpkgaaGreat
namespace Go.Proofs.YtkckodpfhlpkgaaGreat
open Go.RowKit LitM TrailM EngM

section
variable {B : Nat} {w0 w w' : World} {c : TmC} {S S' : Eng} {q q' : Pm}
set_option maxHeartbeats 3200000 in
set_option maxRecDepth 100000 in
theorem tpropagate_any (h : TmG B w0 w c S q) (hcn : S.cs.length ≤ 20000) (htr : c.tr = true → (propF S).2 = -1) : Calls Tryz.prog 22 #[.pointer (some ⟨c.bt, 0, none⟩)] w fun e w' => e = .returned (.bool (decide ((propF S).2 ≠ -1))) ∧ TeTo B w0 w c (propF S).1 q w' := by
  obtain ⟨⟨_, _, t2, _⟩, ⟨m0, _⟩, r0, _⟩ := h.cells
  have hb := h.mr.bd
  obtain ⟨hb1, hb2⟩ := hb
  have HB := Lib.hid (h.eng.prop hcn)
  have HH := Lib.hid h
  have hip := inv_prop h.eng.inv
  have hl := len_prop h.eng.inv
  cases hid : decide ((propF S).2 ≠ -1) with
  | false =>
    have hid2 : (propF S).2 = -1 := by have := of_decide_eq_false hid; omega
    rw [hid2] at HB
    have HL := Lib.hid hl
    clear h hcn hip hl hid hid2 htr
    go_enter Tryz.func22, Tryz.ntmps22
    go_wp2_with fail
    go_loopw [3] (fun v wr => Hid ((v = .bool true ∧ w = wr) ∨ (v = .bool false ∧ ∃ q', TmG B w0 wr c (propF S).1 q' ∧ TExt c.tl q q' w wr))) (fun v _ => match v with | .bool true => 1 | _ => 0)
    case atStart => exact Lib.hid (.inl ⟨rfl, rfl⟩)
    case round =>
      rcases hrel.out with ⟨rfl, rfl⟩ | ⟨rfl, hh⟩
      · clear hrel
        go_wp2_with fail
        go_loopw [3, 15] (fun u v wr => u = .bool false ∧ Hid ((v = .int .i64 0 ∧ w = wr) ∨ (v = .int .i64 1 ∧ ∃ q', TmG B w0 wr c (propF S).1 q' ∧ TExt c.tl q q' w wr))) (fun _ v _ => (5 - intOf v).toNat)
        case atStart => exact ⟨rfl, Lib.hid (.inl ⟨rfl, rfl⟩)⟩
        case round =>
          obtain ⟨rfl, hrel⟩ := hrel
          rcases hrel.out with ⟨rfl, rfl⟩ | ⟨rfl, hh⟩
          · clear hrel
            go_wp2_with fail
            refine HB.out.mono ?_
            rintro e w1 ⟨rfl, q1, hs, hx⟩
            have h1 := HH.out.ext hs hx HL.out
            have HT := Lib.hid (ttell_any h1 (.pointer (some ⟨c.bm, 0, none⟩)))
            have H1 : Hid (∃ q', TmG B w0 w1 c (propF S).1 q' ∧ TExt c.tl q q' w w1) := ⟨q1, h1, TExt.ext hx⟩
            clear hs hx HB h1
            go_wp2_with fail
            refine HT.out.mono ?_
            rintro e w2 ⟨rfl, rfl⟩
            go_wp2_with fail
            go_roundw
            case rel => exact ⟨rfl, Lib.hid (.inr ⟨rfl, H1.out⟩)⟩
            case measure => simp [intOf]
          · have H1 := Lib.hid hh
            clear hrel hh
            go_wp2_with fail
            go_roundw
            case rel => exact Lib.hid (.inr ⟨rfl, H1.out⟩)
            case measure => simp
      · have H1 := Lib.hid hh
        clear hrel hh
        go_wp2_with fail
        go_ret
        exact ⟨rfl, H1.out⟩
  | true =>
    have htr2 : c.tr = false := by
      cases e : c.tr with
      | false => rfl
      | true => exact absurd (htr e) (of_decide_eq_true hid)
    have HTF := Lib.hid htr2
    clear htr htr2
    have hc : Conf (propF S).1 (propF S).2 := by
      rcases hip.2.2 with ⟨e, _⟩ | e
      · exact absurd e (of_decide_eq_true hid)
      · exact e
    obtain ⟨id, e1, e2, e3, _⟩ := hc
    rw [e1] at HB
    have t1 : ((id : Int) != -1) = true := by rw [bne_iff_ne]; omega
    have hlen := h.len
    have HL := Lib.hid hl
    have hidn : id < c.nums.length := by omega
    have HTH : Hid (thereB (propF S).1 (id : Int) = true) := by unfold Hid thereB; simp [e2, e3]
    clear h hcn hip hid hl hlen e1 e2 e3
    go_enter Tryz.func22, Tryz.ntmps22
    go_wp2_with fail
    go_loopw [3] (fun v wr => v = .bool true ∧ w = wr) (fun _ _ => 0)
    case atStart => exact ⟨rfl, rfl⟩
    case round =>
      obtain ⟨rfl, rfl⟩ := hrel
      go_wp2_with fail
      go_loopw [3, 15] (fun u v wr => u = .bool false ∧ v = .int .i64 0 ∧ w = wr) (fun _ _ _ => 0)
      case atStart => exact ⟨rfl, rfl, rfl⟩
      case round =>
        obtain ⟨rfl, rfl, rfl⟩ := hrel
        go_wp2_with fail
        refine HB.out.mono ?_
        rintro e w1 ⟨rfl, q1, hs, hx⟩
        have h1 := HH.out.ext hs hx HL.out
        obtain ⟨_, ⟨n0, n1, _⟩, _⟩ := h1.cells
        have HCl := Lib.hid (h1.eng.clause (id : Int))
        have H1 := Lib.hid h1
        have X1 : Hid (TExt c.tl q q1 w w1) := TExt.ext hx
        clear hs hx HB h1
        go_wp2_with fail
        refine HCl.out.mono ?_
        intro e w2 ht
        have hcl : ∃ v, e = .returned (.tuple #[v, .bool true]) ∧ Below w1.heap.size w1 w2 := by
          rcases ht with ⟨a, _⟩ | ⟨_, A, cc, e1, _, _, e4⟩
          · rw [HTH.out] at a; cases a
          · exact ⟨_, e1, e4⟩
        obtain ⟨v, rfl, hb2⟩ := hcl
        have h2 := H1.out.below hb2
        obtain ⟨_, ⟨_, k1, _⟩, _⟩ := h2.cells
        obtain ⟨g, hA, hrow⟩ := h2.nr.row (show 0 < c.nums.length by omega)
        rw [hA] at k1
        have hc := hrow.cell (show id < c.nums.length * 1 by omega)
        unfold natC at hc
        have hbd := hrow.bd
        obtain ⟨hbd1, hbd2⟩ := hbd
        have H2 := Lib.hid h2
        have X2 := Lib.hid (X1.out.trans (TExt.below (tl := c.tl) (q := q1) hb2))
        have HTr := Lib.hid (fun (W : World) (hW : Below w2.heap.size w2 W) (x y : Value) => ttrace_any (h2.below hW) HTF.out x y)
        clear ht hb2 h2 hrow H1 X1 HCl n0 n1
        generalize c.nums.getD id 0 = nm at *
        go_wp2_with fail
        refine (HTr.out _ ((Below.refl _ _).alloc (Nat.le_refl _) _) _ _).mono ?_
        rintro e w3 ⟨rfl, rfl⟩
        have H3 := Lib.hid (H2.out.below ((Below.refl _ _).alloc (Nat.le_refl _) (.cells #[.int .i64 (nm : Int)] 3)))
        have X3 := Lib.hid (X2.out.trans (TExt.below (tl := c.tl) (q := q1) ((Below.refl w2.heap.size w2).alloc (Nat.le_refl _) (.cells #[.int .i64 (nm : Int)] 3))))
        clear HTr
        go_wp2_with fail
        go_ret
        exact ⟨rfl, q1, H3.out, X3.out⟩
/-- What deny leaves. -/
theorem denyF_cons (l : Int) (r : List Int) (S : Eng) : denyF (l :: r) S = if valZ S.L l = 1 then (S, true) else denyF r (decE S (notZ l)) := rfl
theorem len_deny : ∀ (cl : List Int) (S : Eng), (denyF cl S).1.cs.length = S.cs.length
  | [], _ => rfl
  | l :: r, S => by
    rw [denyF_cons]
    split
    · rfl
    · rw [len_deny r, len_dec]
set_option maxHeartbeats 3200000 in
set_option maxRecDepth 100000 in
theorem tdeny_any (h : TmG B w0 w c S q) (A : Option Addr) (n cp : Nat) (xs : List Int) (hr : Rd .i32 w w.heap.size A n xs) (h32 : In32 xs) (hn : n ≤ 9223372036854775807) (hap : 0 < n → ∀ k, onB A k → q.own k = .no ∧ c.tl k = .no) (htr : c.tr = true → (denyF xs S).2 = false) :
    Calls Tryz.prog 21 #[.pointer (some ⟨c.bt, 0, none⟩), .slice A n cp] w fun e w' => e = .returned (.bool (denyF xs S).2) ∧ TeTo B w0 w c (denyF xs S).1 q w' := by
  have hl := hr.len
  have HRd : Hid (∀ W q', TExt c.tl q q' w W → Rd .i32 W W.heap.size A n xs) := fun W q' hx => ⟨hr.len, fun h0 => by
    obtain ⟨g, o, e, hg, hc⟩ := hr.at_ h0
    have ho := hap h0 g (by rw [e, onB_some])
    exact ⟨g, o, e, Nat.lt_of_lt_of_le hg hx.kf.size, fun j hj => (hx.kf.cell (p := ⟨g, o + j, none⟩) hg (fun x => by rcases x with y | y; exact y ho.1; exact y ho.2)).trans (hc j hj)⟩⟩
  have HS : Hid (TmG B w0 w c S q) := h
  have H32 := Lib.hid h32
  have HL := Lib.hid hl
  have HTRf := Lib.hid htr
  clear h hr h32 hl hap htr
  go_enter Tryz.func21, Tryz.ntmps21
  go_wp2_with fail
  go_loopw [9] (fun v wr => ∃ k : Nat, v = .int .i64 (k : Int) ∧ k ≤ n ∧ Hid (∃ S' q', TmG B w0 wr c S' q' ∧ TExt c.tl q q' w wr ∧ denyF xs S = denyF (xs.drop k) S')) (fun v _ => n - (intOf v).toNat)
  case atStart => exact ⟨0, rfl, by omega, Lib.hid ⟨S, q, HS.out, TExt.refl _ _ _, rfl⟩⟩
  case round =>
    obtain ⟨k, rfl, hk, hh⟩ := hrel
    obtain ⟨S', q', h', x', hd⟩ := hh.out
    clear hh
    by_cases hlt : k < n
    · have tk : decide ((k : Int) < (n : Int)) = true := decide_eq_true (by omega)
      have tk2 : decide (k < n) = true := decide_eq_true hlt
      have hkl : k < xs.length := by rw [HL.out]; exact hlt
      obtain ⟨g, o, rfl, hg, hc⟩ := (HRd.out wr q' x').get hlt
      have hx32 : -2147483648 ≤ xs.getD k 0 ∧ xs.getD k 0 ≤ 2147483647 := H32.out k
      have hdr : xs.drop k = xs.getD k 0 :: xs.drop (k + 1) := by rw [List.drop_eq_getElem_cons hkl, getD_lt hkl]
      rw [hdr, denyF_cons] at hd
      have HN := Lib.hid (tnewest_any h')
      have HV : Hid (∀ r, Calls Tryz.prog 36 #[.pointer (some ⟨q'.bt, 0, none⟩), .int .i32 (xs.getD k 0)] (wr.drewN r) fun e w' => e = .returned (.int .i64 (valZ S'.L (xs.getD k 0))) ∧ wr.drewN r = w') := fun r => (h'.drewN r).eng.asks.2.1 _ hx32.1 hx32.2
      obtain ⟨_, ⟨m0, _⟩, _, e0, _⟩ := h'.cells
      have HH := Lib.hid h'
      have HX := Lib.hid x'
      have HD := Lib.hid hd
      have HNot := Lib.hid (fun V : World => not_any (xs.getD k 0) V hx32.1 hx32.2)
      have HNB : Hid (-2147483648 ≤ notZ (xs.getD k 0) ∧ notZ (xs.getD k 0) ≤ 2147483647) := by
        unfold Hid notZ
        split
        · rename_i e
          have := (one_iff _).1 e; omega
        · omega
      clear h' x' hd hdr hx32 HS
      generalize xs.getD k 0 = x at *
      by_cases hv : valZ S'.L x = 1
      · rw [if_pos hv] at HD
        rw [hv] at HV
        go_wp2_with fail
        refine HN.out.mono ?_
        rintro e w2 ⟨rfl, r, rfl⟩
        go_wp2_with fail
        refine (HV.out r).mono ?_
        rintro e w2 ⟨rfl, rfl⟩
        have hb3 : Below wr.heap.size wr ((wr.drewN r).alloc (.cells #[.int .i32 x] 34)) := (below_drewN (Below.refl wr.heap.size wr) r).alloc (Nat.le_refl _) _
        have h3 := HH.out.below hb3
        have htr2 : c.tr = false := by
          cases e : c.tr with
          | false => rfl
          | true => have x := HTRf.out e; rw [HD.out] at x; cases x
        have HT := Lib.hid (ttrace_any h3 htr2 (.slice none 0 0) (.slice (some ⟨(wr.drewN r).heap.size, 0, none⟩) 1 1))
        have H3 : Hid (∃ q', TmG B w0 ((wr.drewN r).alloc (.cells #[.int .i32 x] 34)) c S' q' ∧ TExt c.tl q q' w ((wr.drewN r).alloc (.cells #[.int .i32 x] 34))) := ⟨q', h3, HX.out.trans (TExt.below hb3)⟩
        clear hb3 h3 HN HV htr2
        go_wp2_with fail
        refine HT.out.mono ?_
        rintro e w3 ⟨rfl, rfl⟩
        go_wp2_with fail
        go_ret
        rw [HD.out]
        exact ⟨rfl, H3.out⟩
      · rw [if_neg hv] at HD
        have tv : (valZ S'.L x == 1) = false := by rw [beq_eq_false_iff_ne]; exact hv
        generalize valZ S'.L x = vz at *
        go_wp2_with fail
        refine HN.out.mono ?_
        rintro e w2 ⟨rfl, r, rfl⟩
        go_wp2_with fail
        refine (HV.out r).mono ?_
        rintro e w2 ⟨rfl, rfl⟩
        go_wp2_with fail
        refine (HNot.out _).mono ?_
        rintro e w2 ⟨rfl, rfl⟩
        have HDe := Lib.hid (tdecide_any (HH.out.drewN r) (notZ x) HNB.out.1 HNB.out.2)
        clear HN HV HNot
        go_wp2_with fail
        refine HDe.out.mono ?_
        rintro e w3 ⟨⟨r3, rfl⟩, q3, h3, x3⟩
        have H3 : Hid (∃ S' q', TmG B w0 w3 c S' q' ∧ TExt c.tl q q' w w3 ∧ denyF xs S = denyF (xs.drop (k + 1)) S') := ⟨_, q3, h3, (HX.out.trans (TExt.below (w' := wr.drewN r) (below_drewN (Below.refl _ _) r))).trans x3, HD.out⟩
        clear h3 x3 HDe
        go_wp2_with fail
        go_roundw
        case rel => exact ⟨k + 1, by go_num, by omega, H3⟩
        case measure => simp [intOf]; omega
    · have tk : decide ((k : Int) < (n : Int)) = false := decide_eq_false (by omega)
      have hdn : xs.drop k = [] := List.drop_eq_nil_of_le (by rw [HL.out]; omega)
      rw [hdn] at hd
      have HD := Lib.hid hd
      have H3 : Hid (TeTo B w0 w c S' q wr) := ⟨q', h', x'⟩
      clear h' x' hd hdn HS
      go_wp2_with fail
      go_ret
      rw [HD.out]
      exact ⟨rfl, H3.out⟩
end
end Go.Proofs.YtkckodpfhlpkgaaGreat
