/- A team of one member: contracts of add and remove. -/
import Derived.Test.YtkckodpfhlpkgaaGreatTeamS
namespace Go.Proofs.YtkckodpfhlpkgaaGreat
open Go.RowKit LitM TrailM EngM

theorem info_int1 : (Tryz.prog.info? 3).map (fun i => (i.zero, i.size, i.bytes)) = some (some (.int .i64 0), 1, 8) := by kernel_rfl
/-- f, but x at i. -/
def updF {α : Type} (f : Nat → α) (i : Nat) (x : α) : Nat → α := fun k => if k = i then x else f k
/-- What add leaves: the clause is there, by its number. -/
def TAdd (B : Nat) (w0 w : World) (c : TmC) (S : Eng) (q : Pm) (num : Nat) (xs : List Int) (w' : World) : Prop :=
  ∃ An cn tl q' ys, IsClean xs ys ∧ TmG B w0 w' { c with settled := false, nums := c.nums ++ [num], An := An, cn := cn, pl := updF c.pl num (some S.cs.length), tl := tl } (addF S ys (bothB xs)) q' ∧ TExt c.tl q q' w w' ∧ ∀ k, k < w.heap.size → tl k = c.tl k
section
variable {B n : Nat} {w0 w w' : World} {c : TmC} {S S' : Eng} {q q' : Pm}
theorem TExt.trans2 {tl tl2 : Nat → Tl} {w1 : World} {q'' : Pm} (h : TExt tl q q' w w1) (k : TExt tl2 q' q'' w1 w') (e : ∀ j, j < w.heap.size → tl2 j = tl j) : TExt tl q q'' w w' :=
  ⟨fun j hj => (k.old j (Nat.lt_of_lt_of_le hj h.kf.size)).trans (h.old j hj), h.kf.trans k.kf fun x hx => by
    rcases Nat.lt_or_ge x w.heap.size with e2 | e2
    · rcases hx with y | y
      · exact .inl (.inl (by rw [← h.old x e2]; exact y))
      · exact .inl (.inr (by rw [← e x e2]; exact y))
    · exact .inr e2⟩
/-- A number more: the row grew, and was stored. -/
theorem TmG.push (h : TmG B w0 w c S q) {W w2 : World} (hW : Kf (fun k => q.own k ≠ .no) w W) {g' c' num : Nat} (hr : RowV 3 1 w2 g' (c.nums.length + 1) c' (appV (natC c.nums) c.nums.length [.int .i64 (num : Nat)])) (hg : onB c.An g' ∨ W.heap.size ≤ g') (hk : Kf (fun k => onB c.An k) W w2) {S1 : Eng} {q1 : Pm} (hS : Sg B w0 w2 c.be S1 q1) (hq : ∀ k, c.tl k ≠ .no → q1.own k = .no) (hq2 : q1.own g' = .no) (hlen : S1.cs.length = S.cs.length + 1) (hbs : B ≤ w.heap.size) :
    ∃ tl, TmG B w0 (w2.setCell ⟨c.bm, 1, none⟩ (.slice (some ⟨g', 0, none⟩) (c.nums.length + 1) c')) { c with nums := c.nums ++ [num], An := some ⟨g', 0, none⟩, cn := c', tl := tl } S1 q1 ∧ (∀ k, k < w.heap.size → tl k = c.tl k) ∧ Kf (fun k => q.own k ≠ .no ∨ c.tl k ≠ .no) w (w2.setCell ⟨c.bm, 1, none⟩ (.slice (some ⟨g', 0, none⟩) (c.nums.length + 1) c')) := by
  classical
  have hob : ∀ {k o}, c.tl k = o → o ≠ .no → k < w.heap.size := fun e hn => (h.lo _ (by rw [e]; exact hn)).2.2
  have hne : ∀ {k : Nat}, c.tl k ≠ .nrow → ¬ onB c.An k := fun hk e => hk (h.ln _ e)
  have hg' : c.tl g' = .nrow ∨ w.heap.size ≤ g' := by
    rcases hg with e | e
    · exact .inl (h.ln _ e)
    · exact .inr (Nat.le_trans hW.size e)
  have hgs : g' < w2.heap.size := hr.lt
  have hkk : Kf (fun k => q.own k ≠ .no ∨ onB c.An k) w w2 := (hW.mono fun x hx => .inl (.inl hx)).trans hk (fun x hx => .inl (.inr hx))
  have hno : ∀ {k}, c.tl k ≠ .no → ¬ q.own k ≠ .no := fun hk e => e (h.lo _ hk).1
  have hk3 : Kf (fun k => (q.own k ≠ .no ∨ onB c.An k) ∨ k = c.bm) w (w2.setCell ⟨c.bm, 1, none⟩ (.slice (some ⟨g', 0, none⟩) (c.nums.length + 1) c')) := (hkk.mono fun x hx => .inl (.inl hx)).set (.inl (.inr rfl)) _
  have hbm := h.lts.2.1
  have hmb : c.tl c.bm ≠ .nrow := by rw [h.lm]; intro e; cases e
  have hgm : g' ≠ c.bm := by
    rintro rfl
    rcases hg' with e | e
    · rw [h.lm] at e; cases e
    · omega
  have hmh2 : w2.heap[c.bm]? = some (.cells c.mcells 67 (0, 0)) := (hkk.block _ hbm (fun e => by rcases e with e | e; exact hno (by rw [h.lm]; intro e; cases e) e; exact hne hmb e)).trans h.mh
  have htl : ∀ {k}, c.tl k ≠ .no → c.tl k ≠ .nrow → k ≠ c.bm → (w2.setCell ⟨c.bm, 1, none⟩ (.slice (some ⟨g', 0, none⟩) (c.nums.length + 1) c')).heap[k]? = w.heap[k]? := fun h1 h2 h3 =>
    hk3.block _ (h.lo _ h1).2.2 (fun e => by rcases e with (e | e) | e; exact hno h1 e; exact hne h2 e; exact h3 e)
  have tlt : ∀ {k}, c.tl k ≠ .no → (if k = g' then Tl.nrow else c.tl k) = c.tl k := fun {k} hk => by
    by_cases e : k = g'
    · subst e
      rw [if_pos rfl]
      rcases hg' with x | x
      · exact x.symm
      · have := (h.lo k hk).2.2; omega
    · rw [if_neg e]
  refine ⟨fun k => if k = g' then .nrow else c.tl k, ⟨?_, ?_, ?_, ?_, ?_, ?_, ?_, ?_, ?_, fun k hk => ?_, fun k hk => ?_, fun k hk => ?_, ?_⟩, fun k hk => ?_, hk3.mono fun x hx => .inl ?_⟩
  · show (w2.setCell ⟨c.bm, 1, none⟩ _).heap[c.bt]? = _
    rw [htl (by rw [h.lt]; intro e; cases e) (by rw [h.lt]; intro e; cases e) (fun e => by have := h.lm; rw [← e, h.lt] at this; cases this)]
    exact h.th
  · show (w2.setCell ⟨c.bm, 1, none⟩ _).heap[c.bm]? = _
    rw [Lib.heap_setCell_same hmh2]
    unfold TmC.mcells
    simp
  · exact hS.kept ((Kf.refl (fun i => i = c.bm) w2).set (p := ⟨c.bm, 1, none⟩) (.inl rfl) _) (fun i hi => by
      rw [hi]; exact ⟨hq _ (by rw [h.lm]; intro e; cases e), (h.lo _ (by rw [h.lm]; intro e; cases e)).2.1⟩)
  · exact h.mr.same (htl (by rw [h.lr]; intro e; cases e) (by rw [h.lr]; intro e; cases e) (fun e => by have := h.lm; rw [← e, h.lr] at this; cases this))
  · exact h.pr.same fun j hj => htl (by rw [h.lp j hj]; intro e; cases e) (by rw [h.lp j hj]; intro e; cases e) (fun e => by have := h.lm; rw [← e, h.lp j hj] at this; cases this)
  · refine .inr ⟨g', rfl, ?_⟩
    have := hr.other (a := ⟨c.bm, 1, none⟩) (fun e => hgm e.symm) (.slice (some ⟨g', 0, none⟩) (c.nums.length + 1) c')
    rw [show (c.nums ++ [num]).length = c.nums.length + 1 by simp]
    refine this.congr fun j hj => ?_
    unfold appV natC
    by_cases e : j < c.nums.length
    · rw [if_pos e, List.getD, List.getD, List.getElem?_append_left (by omega)]
    · rw [if_neg e]
      obtain rfl : j = c.nums.length := by omega
      simp
  · show (if c.bt = g' then Tl.nrow else c.tl c.bt) = _
    rw [tlt (by rw [h.lt]; intro e; cases e)]; exact h.lt
  · show (if c.bm = g' then Tl.nrow else c.tl c.bm) = _
    rw [tlt (by rw [h.lm]; intro e; cases e)]; exact h.lm
  · show (if c.gr = g' then Tl.nrow else c.tl c.gr) = _
    rw [tlt (by rw [h.lr]; intro e; cases e)]; exact h.lr
  · show (if k = g' then Tl.nrow else c.tl k) = _
    rw [tlt (by rw [h.lp k hk]; intro e; cases e)]; exact h.lp k hk
  · have hk : k = g' := (onB_some _ _).1 hk
    show (if k = g' then Tl.nrow else c.tl k) = _
    rw [if_pos hk]
  · have hk : (if k = g' then Tl.nrow else c.tl k) ≠ .no := hk
    by_cases e : k = g'
    · subst e
      refine ⟨hq2, ?_, by simpa using hgs⟩
      rcases hg' with x | x
      · exact (h.lo k (by rw [x]; intro e; cases e)).2.1
      · omega
    · rw [if_neg e] at hk
      exact ⟨hq k hk, (h.lo k hk).2.1, Nat.lt_of_lt_of_le (h.lo k hk).2.2 hk3.size⟩
  · show (c.nums ++ [num]).length = _
    rw [List.length_append, h.len, hlen]; rfl
  · show (if k = g' then Tl.nrow else c.tl k) = _
    by_cases e : k = g'
    · subst e
      rw [if_pos rfl]
      rcases hg' with x | x
      · exact x.symm
      · omega
    · rw [if_neg e]
  · rcases hx with (e | e) | e
    · exact .inl e
    · refine .inr ?_; rw [h.ln x e]; intro e; cases e
    · refine .inr ?_; rw [e, h.lm]; intro e; cases e
/-- Where a clause is, is stored. -/
theorem TmG.pset {g : Nat} (h : TmG B w0 w c S q) (hA : c.Ap = some ⟨g, 0, none⟩) {num : Nat} (hn : num < c.np) (id : Nat) :
    TmG B w0 ((w.setCell ⟨g, num * 2, none⟩ (.pointer (some ⟨c.bm, 0, none⟩))).setCell ⟨g, num * 2 + 1, none⟩ (.int .i64 (id : Nat))) { c with pl := updF c.pl num (some id) } S q ∧ TExt c.tl q q w ((w.setCell ⟨g, num * 2, none⟩ (.pointer (some ⟨c.bm, 0, none⟩))).setCell ⟨g, num * 2 + 1, none⟩ (.int .i64 (id : Nat))) := by
  have hlp : c.tl g = .prow := h.lp g (by rw [hA, onB_some])
  have hgo := h.lo g (by rw [hlp]; intro e; cases e)
  have hk : Kf (fun i => i = g) w ((w.setCell ⟨g, num * 2, none⟩ (.pointer (some ⟨c.bm, 0, none⟩))).setCell ⟨g, num * 2 + 1, none⟩ (.int .i64 (id : Nat))) := ((Kf.refl (fun i => i = g) w).set (p := ⟨g, num * 2, none⟩) (.inl rfl) _).set (p := ⟨g, num * 2 + 1, none⟩) (.inl rfl) _
  have hne : ∀ {j}, c.tl j ≠ .prow → j ≠ g := fun hj e => hj (by rw [e]; exact hlp)
  have hrow : RowV 123 2 w g c.np c.cp (plV c.bm c.pl) := by
    rcases h.pr with ⟨e, _⟩ | ⟨g2, e, hr⟩
    · rw [hA] at e; cases e
    · rw [hA] at e; injection e with e; injection e with e; subst e; exact hr
  refine ⟨⟨?_, ?_, ?_, ?_, ?_, ?_, h.lt, h.lm, h.lr, h.lp, h.ln, fun j hj => ⟨(h.lo j hj).1, (h.lo j hj).2.1, Nat.lt_of_lt_of_le (h.lo j hj).2.2 hk.size⟩, h.len⟩, ⟨fun _ _ => rfl, hk.mono fun x hx => .inl (.inr (by rw [hx, hlp]; intro e; cases e))⟩⟩
  · show _ = some (Obj.cells c.tcells _ _)
    rw [hk.block c.bt h.lts.1 (hne (by rw [h.lt]; intro e; cases e))]; exact h.th
  · show _ = some (Obj.cells c.mcells _ _)
    rw [hk.block c.bm h.lts.2.1 (hne (by rw [h.lm]; intro e; cases e))]; exact h.mh
  · exact h.eng.kept hk fun i hi => by rw [hi]; exact ⟨hgo.1, hgo.2.1⟩
  · exact h.mr.same (hk.block c.gr h.lts.2.2 (hne (by rw [h.lr]; intro e; cases e)))
  · refine .inr ⟨g, hA, ((hrow.set (show num * 2 < c.np * 2 by omega) _).set (show num * 2 + 1 < c.np * 2 by omega) _).congr fun j hj => ?_⟩
    show plV c.bm (updF c.pl num (some id)) j = _
    by_cases e1 : j = num * 2 + 1
    · subst e1
      rw [updV_at]
      unfold plV updF
      rw [if_neg (by omega), show (num * 2 + 1) / 2 = num by omega, if_pos rfl]; rfl
    · rw [updV_ne _ _ e1]
      by_cases e2 : j = num * 2
      · subst e2
        rw [updV_at]
        unfold plV updF
        rw [if_pos (by omega), show num * 2 / 2 = num by omega, if_pos rfl]; rfl
      · rw [updV_ne _ _ e2]
        unfold plV updF
        rw [if_neg (show ¬ j / 2 = num by omega)]
  · exact h.nr.same fun j hj => hk.block j (h.nr.lt j hj) (hne (by rw [h.ln j hj]; intro e; cases e))
set_option maxHeartbeats 6400000 in
set_option maxRecDepth 100000 in
theorem tadd_any (h : TmG B w0 w c S q) (hcn : S.cs.length ≤ 20000) (hroom : c.room = 1048576) (num : Nat) (hnum : num < c.np) (hnp : c.np ≤ 90000) (A : Option Addr) (m cp : Nat) (xs : List Int) (hr : Rd .i32 w w.heap.size A m xs) (h32 : In32 xs) (hm : m * 4 ≤ 140737488351232) (hf : fitsB S.n xs = true) (hm2 : ∀ ys, IsClean xs ys → ys.length ≤ 10000) :
    Calls Tryz.prog 50 #[.pointer (some ⟨c.bt, 0, none⟩), .int .i64 (num : Nat), .slice A m cp] w fun e w' => e = .returned (.tuple #[]) ∧ TAdd B w0 w c S q num xs w' := by
  obtain ⟨⟨_, t1, t2, _⟩, ⟨m0, m1, _⟩, r0, _⟩ := h.cells
  have hb := h.mr.bd
  obtain ⟨hb1, hb2⟩ := hb
  rw [hroom] at t1
  have hlen := h.len
  have HN := Lib.hid (fun r => tnewest_any (h.drewN r))
  have HA : Hid (∀ r, Calls Tryz.prog 67 #[.pointer (some ⟨c.be, 0, none⟩), .slice A m cp] (w.drewN r) fun e w' => e = .returned (.tuple #[.int .i64 (S.cs.length : Int), .int .i64 0]) ∧ ∃ ys q', IsClean xs ys ∧ Sg B w0 w' c.be (addF S ys (bothB xs)) q' ∧ Ext q q' w w') := fun r => by
    refine ((h.drewN r).eng.addBig hcn A m cp xs (hr.drewN r) h32 hm (fun ys _ => hm2 ys)).mono fun e w' ⟨S', q', hS, hs, hx⟩ => ?_
    rcases hS with ⟨a, _⟩ | ⟨_, e1, ys, hc, rfl⟩
    · rw [hf] at a; cases a
    · exact ⟨e1, ys, q', hc, hs, ⟨hx.old, (Kf.drewN (Kf.refl _ w) r).trans hx.kf (fun x hx => .inl hx), hx.bt⟩⟩
  have tl1 : ((c.nums.length : Int) == 1048576) = false := by rw [beq_eq_false_iff_ne]; omega
  have HH := Lib.hid h
  have HLN := Lib.hid hlen
  clear h hr hroom hf hm2 hlen
  go_enter Tryz.func50, Tryz.ntmps50
  go_upto_region 0 with (fail)
  go_quiet (first | (go_at_call 35; exact Calls.quiet_of (HN.out _)))
  go_wp2_with fail
  refine (HN.out _).mono ?_
  rintro e w1 ⟨rfl, r1, rfl⟩
  go_wp2_with fail
  refine (HA.out _).mono ?_
  rintro e w2 ⟨rfl, ys, q1, hc, hs, hx⟩
  have hns := HH.out.nr
  have hbm := HH.out.lo c.bm (by rw [HH.out.lm]; intro e; cases e)
  have hb2 := (hx.blk hbm.2.2 hbm.1).1
  have k1 : w2.cell? ⟨c.bm, 1, none⟩ = some (.slice c.An c.nums.length c.cn) := (World.cell?_of_block (a := ⟨c.bm, 1, none⟩) hb2).trans m1
  have hAn : ∀ k, onB c.An k → c.tl k ≠ .no := fun k hk => by rw [HH.out.ln k hk]; intro e; cases e
  have hns2 : SlV 3 1 w2 c.An c.nums.length c.cn (natC c.nums) := hns.same fun k hk => (hx.blk (HH.out.lo k (hAn k hk)).2.2 (HH.out.lo k (hAn k hk)).1).1
  have hqq : ∀ k, c.tl k ≠ .no → q1.own k = .no := fun k hk => (hx.blk (HH.out.lo k hk).2.2 (HH.out.lo k hk).1).2
  have HS := Lib.hid hs
  have HX := Lib.hid hx
  have HC := Lib.hid hc
  have HQ := Lib.hid hqq
  have HNS := Lib.hid (hns2.alloc (.cells #[.int .i64 (num : Nat)] 3))
  have hln : c.nums.length ≤ 20000 := by rw [HLN.out]; exact hcn
  have HW : Hid (Kf (fun k => q.own k ≠ .no) w (w2.alloc (.cells #[.int .i64 (num : Nat)] 3))) := hx.kf.alloc _
  clear hs hx hc hqq hns hns2 HA HN m0 m1 t1 hb2
  obtain ⟨hbm1, hbm2, hbm3⟩ := hbm
  have hbm4 : c.bm < w2.heap.size := Nat.lt_of_lt_of_le hbm3 HX.out.kf.size
  go_wp2_with (at_builtin; refine wpList_append_sl _ rfl _ _ 37 3 rfl Tryz.underlying37 info_int1 rfl (by decide) (by decide) c.An c.nums.length c.cn (natC c.nums) rfl HNS.out (by omega) ⟨w2.heap.size, 0, none⟩ 1 1 [.int .i64 (num : Nat)] rfl rfl (box_news w2 3 _) (by simp [Value.oneCell']) (by omega) (by omega) ?_)
  intro g' c' w3 hr3 hg3 hk3
  have hk4 := hk3 (fun k => onB c.An k) (fun j hj => hj)
  have hg4 : onB c.An g' ∨ (w2.alloc (.cells #[.int .i64 (num : Nat)] 3)).heap.size ≤ g' := hg3.imp id (fun e => by simpa using e)
  have hkS : Kf (fun k => onB c.An k) w2 w3 := ((Kf.refl (fun k => onB c.An k) w2).alloc _).trans hk4 (fun x hx => .inl hx)
  have hs3 := HS.out.kept hkS (fun k hk => by
    have := HH.out.ln k hk
    have h2 := HH.out.lo k (by rw [this]; intro e; cases e)
    exact ⟨HQ.out k (by rw [this]; intro e; cases e), h2.2.1⟩)
  have hq2 : q1.own g' = .no := by
    rcases hg4 with e | e
    · exact HQ.out g' (by rw [HH.out.ln g' e]; intro e; cases e)
    · exact HS.out.fresh (by have := e; simp at this; omega)
  obtain ⟨tl, hT, htl, hkT⟩ := HH.out.push HW.out hr3 hg4 hk4 hs3 HQ.out hq2 (by show (S.cs ++ [_]).length = _; simp) HH.out.eng.hs
  have hx3 : TExt c.tl q q1 w (w3.setCell ⟨c.bm, 1, none⟩ (.slice (some ⟨g', 0, none⟩) (c.nums.length + 1) c')) := ⟨HX.out.old, hkT⟩
  have hbw : ¬ onB c.An c.bm := fun e => by have := HH.out.ln _ e; rw [HH.out.lm] at this; cases this
  have j1 : w3.cell? ⟨c.bm, 1, none⟩ = some (.slice c.An c.nums.length c.cn) := (hkS.cell (p := ⟨c.bm, 1, none⟩) hbm4 hbw).trans k1
  have j2 : w3.frozen? ⟨c.bm, 1, none⟩ = false := by
    rw [World.frozen?_of_block (a := ⟨c.bm, 1, none⟩) (hkS.block c.bm hbm4 hbw)]
    rw [World.frozen?_of_block (a := ⟨c.bm, 1, none⟩) (HX.out.kf.block c.bm hbm3 (fun e => e hbm1))]
    exact HH.out.cells.2.2.2.2.2 1
  obtain ⟨g, hA, hrowp⟩ := hT.pr.row (show 0 < c.np by omega)
  have hA : c.Ap = some ⟨g, 0, none⟩ := hA
  obtain ⟨⟨_, _, _, u3, _, u5, _⟩, _, _, _, uf, _⟩ := hT.cells
  have u3 : (w3.setCell ⟨c.bm, 1, none⟩ (.slice (some ⟨g', 0, none⟩) (c.nums.length + 1) c')).cell? ⟨c.bt, 3, none⟩ = some (.slice (some ⟨g, 0, none⟩) c.np c.cp) := by rw [← hA]; exact u3
  have hp1 := hrowp.cell (show num * 2 < c.np * 2 by omega)
  have hp2 := hrowp.cell (show num * 2 + 1 < c.np * 2 by omega)
  have hpf := hrowp.free
  obtain ⟨hpb1, hpb2⟩ := hrowp.bd
  obtain ⟨hT2, hx4⟩ := hT.pset hA hnum S.cs.length
  obtain ⟨⟨_, _, _, _, _, v5, _⟩, _, _, _, vf, _⟩ := hT2.cells
  obtain ⟨hT3, hx5⟩ := hT2.tset (c' := { c with settled := false, nums := c.nums ++ [num], An := some ⟨g', 0, none⟩, cn := c', pl := updF c.pl num (some S.cs.length), tl := tl }) (k := 5) (v := .bool false) rfl rfl rfl rfl rfl rfl rfl rfl rfl rfl rfl rfl rfl rfl rfl
  have hx4 : TExt tl q1 q1 _ _ := hx4
  have hx5 : TExt tl q1 q1 _ _ := hx5
  have HFin := Lib.hid (show TAdd B w0 w c S q num xs _ from ⟨_, _, tl, q1, ys, HC.out, hT3, (hx3.trans2 hx4 htl).trans2 hx5 htl, htl⟩)
  clear hT hx3 hT2 hx4 hT3 hx5 hrowp hk3 hk4 hkS hs3 hr3 hg3 hg4 HW HNS HS HX HQ HH HC htl hkT hbw hbm1 hbm2 hbm3 hbm4 k1
  go_wp2_with fail
  go_end0
  exact ⟨rfl, HFin.out⟩
end
end Go.Proofs.YtkckodpfhlpkgaaGreat
