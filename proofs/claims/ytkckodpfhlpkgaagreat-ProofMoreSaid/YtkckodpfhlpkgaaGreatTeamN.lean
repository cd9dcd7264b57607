/- A team of one member: it is made. -/
import Derived.Test.YtkckodpfhlpkgaaGreatTeamQ
namespace Go.Proofs.YtkckodpfhlpkgaaGreat
open Go.RowKit LitM TrailM EngM

theorem info_mem : (Tryz.prog.info? 62).map (fun i => (i.zero, i.size, i.bytes)) = some (some (.pointer none), 1, 8) := by kernel_rfl
theorem info_place : (Tryz.prog.info? 123).map (fun i => (i.zero, i.size, i.bytes)) = some (some (.agg #[.pointer none, .int .i64 0]), 2, 16) := by kernel_rfl
def memV (be : Nat) : Array Value := #[.pointer (some ⟨be, 0, none⟩), .slice none 0 0, .int .i64 0, .int .i64 0, .int .i64 0]
theorem box_news2 (w : World) (be : Nat) : ∀ j u, [Value.pointer (some ⟨w.heap.size, 0, none⟩)][j]? = some u → ((w.alloc (.cells #[.pointer (some ⟨be, 0, none⟩), .slice none 0 0, .int .i64 0, .int .i64 0, .int .i64 0] 67)).alloc (.cells #[.pointer (some ⟨w.heap.size, 0, none⟩)] 62)).cell? ((⟨w.heap.size + 1, 0, none⟩ : Addr).add j) = some u := by
  have := box_news (w.alloc (.cells #[.pointer (some ⟨be, 0, none⟩), .slice none 0 0, .int .i64 0, .int .i64 0, .int .i64 0] 67)) 62 [Value.pointer (some ⟨w.heap.size, 0, none⟩)]
  simpa using this
theorem below_app {w w' : World} {o o' : Obj} (h : Kf (fun _ => False) ((w.alloc o).alloc o') w') : Below w.heap.size w w' :=
  (((Below.refl w.heap.size w).alloc (Nat.le_refl _) o).alloc (by simp) o').trans (h.below (by simp; omega) (fun x hx => hx.elim))
theorem member_app {w w' : World} {o o' : Obj} (h : Kf (fun _ => False) ((w.alloc o).alloc o') w') : w'.heap[w.heap.size]? = some o := by
  rw [h.block w.heap.size (by simp; omega) (fun e => e), Below.heap_alloc _ _ _ (by simp)]
  exact blk_new w o
/-- What a team's struct is ahead of its member. -/
def t0cells (vars room : Int) (gp np : Nat) (steps : Int) : Array Value := #[.int .i64 vars, .int .i64 room, .slice none 0 0, .slice (some ⟨gp, 0, none⟩) np np, .int .i64 0, .bool false, .bool false, .bool false, .int .i64 steps, .slice none 0 0]
/-- A team that is new. -/
structure NewT (c : TmC) (vars room : Int) (np : Nat) (steps : Int) (bt : Nat) : Prop where
  bt : c.bt = bt
  vars : c.vars = vars
  room : c.room = room
  np : c.np = np
  pl : c.pl = fun _ => none
  gone : c.gone = 0
  settled : c.settled = false
  stuck : c.stuck = false
  steps : c.steps = steps
  nums : c.nums = []
  tr : c.tr = false
section
variable {B : Nat} {w0 w w' : World}
theorem new_team {bt gp np be g4 c4 : Nat} {vars room steps : Int} {w1 w4 : World} {S : Eng} {q : Pm} (hth : w.heap[bt]? = some (.cells (t0cells vars room gp np steps) 56 (0, 0))) (hpr : RowV 123 2 w gp np np (plV 0 fun _ => none)) (hbt : B ≤ bt) (hgp : B ≤ gp) (hne : gp ≠ bt)
    (hb1 : Below w.heap.size w w1) (hq : ∀ k, q.own k ≠ .no → w.heap.size ≤ k) (hs : Sg B w0 w1 be S q) (hb4 : Below w1.heap.size w1 w4)
    (hm4 : w4.heap[w1.heap.size]? = some (.cells #[.pointer (some ⟨be, 0, none⟩), .slice none 0 0, .int .i64 0, .int .i64 0, .int .i64 0] 67 (0, 0)))
    (hr4 : RowV 62 1 w4 g4 1 c4 (appV (fun _ => .pointer none) 0 [.pointer (some ⟨w1.heap.size, 0, none⟩)])) (hg5 : w1.heap.size + 2 ≤ g4) (hcs : S.cs.length = 0) :
    ∃ c, TmG B w0 (w4.setCell ⟨bt, 2, none⟩ (.slice (some ⟨g4, 0, none⟩) 1 c4)) c S q ∧ NewT c vars room np steps bt ∧ Kf (fun k => k = bt) w (w4.setCell ⟨bt, 2, none⟩ (.slice (some ⟨g4, 0, none⟩) 1 c4)) ∧ ∀ k, c.tl k ≠ .no → k = bt ∨ k = gp ∨ w.heap.size ≤ k := by
  classical
  have hbtl := lt_of_heap hth
  have hgpl := hpr.lt
  have hsz := hb1.size
  have hsz4 := hb4.size
  have hb04 : Below w.heap.size w w4 := hb1.trans (hb4.mono hsz)
  have hk : Kf (fun k => k = bt) w4 (w4.setCell ⟨bt, 2, none⟩ (.slice (some ⟨g4, 0, none⟩) 1 c4)) := (Kf.refl (fun k => k = bt) w4).set (p := ⟨bt, 2, none⟩) (.inl rfl) _
  have hth4 : w4.heap[bt]? = some (.cells (t0cells vars room gp np steps) 56 (0, 0)) := (hb04.block bt hbtl).trans hth
  have hmlt := lt_of_heap hm4
  have hrlt := hr4.lt
  have fresh : ∀ k, w1.heap.size ≤ k → q.own k = .no := fun k hk => hs.fresh hk
  have oldno : ∀ k, k < w.heap.size → q.own k = .no := fun k hk => Classical.byContradiction fun e => by have := hq k e; omega
  refine ⟨⟨bt, w1.heap.size, be, vars, room, g4, c4, some ⟨gp, 0, none⟩, np, np, fun _ => none, 0, false, false, steps, none, 0, [], 0, fun k => if k = bt then .team else if k = w1.heap.size then .memb else if k = g4 then .mrow else if k = gp then .prow else .no, false⟩, ⟨?_, ?_, ?_, ?_, ?_, SlV.nil _ _ _ _, ?_, ?_, ?_, fun k hk => ?_, fun k hk => absurd hk (onB_none k), fun k hk => ?_, by simp [hcs]⟩, ⟨rfl, rfl, rfl, rfl, rfl, rfl, rfl, rfl, rfl, rfl, rfl⟩, (Kf.of_below hb04).trans hk (fun x hx => .inl hx), fun k hk => ?_⟩
  · show (w4.setCell ⟨bt, 2, none⟩ _).heap[bt]? = _
    rw [Lib.heap_setCell_same hth4]; rfl
  · show (w4.setCell ⟨bt, 2, none⟩ _).heap[w1.heap.size]? = _
    rw [hk.block _ hmlt (by omega)]; exact hm4
  · exact (hs.below hb4).kept hk (fun i hi => by rw [hi]; exact ⟨oldno bt hbtl, hbt⟩)
  · exact (hr4.same (hk.block _ hrlt (by omega))).congr fun j hj => by
      obtain rfl : j = 0 := by omega
      rfl
  · exact .inr ⟨gp, rfl, ((hpr.same (hb04.block gp hgpl)).same (hk.block gp (by omega) hne)).congr fun j hj => by unfold plV; simp⟩
  · show (if bt = bt then Tl.team else _) = _
    rw [if_pos rfl]
  · show (if w1.heap.size = bt then Tl.team else _) = _
    rw [if_neg (by omega), if_pos rfl]
  · show (if g4 = bt then Tl.team else _) = _
    rw [if_neg (show ¬ g4 = bt by omega), if_neg (show ¬ g4 = w1.heap.size by omega), if_pos rfl]
  · have hk : k = gp := (onB_some _ _).1 hk
    subst hk
    show (if k = bt then Tl.team else _) = _
    rw [if_neg hne, if_neg (by omega), if_neg (by omega), if_pos rfl]
  · have hk2 : (if k = bt then Tl.team else if k = w1.heap.size then .memb else if k = g4 then .mrow else if k = gp then .prow else .no) ≠ .no := hk
    have hs4 : (w4.setCell ⟨bt, 2, none⟩ (.slice (some ⟨g4, 0, none⟩) 1 c4)).heap.size = w4.heap.size := by simp [World.setCell]
    rw [hs4]
    by_cases e1 : k = bt
    · subst e1; exact ⟨oldno k hbtl, hbt, by omega⟩
    · rw [if_neg e1] at hk2
      by_cases e2 : k = w1.heap.size
      · subst e2; exact ⟨fresh _ (Nat.le_refl _), by omega, hmlt⟩
      · rw [if_neg e2] at hk2
        by_cases e3 : k = g4
        · subst e3; exact ⟨fresh _ (by omega), by omega, hrlt⟩
        · rw [if_neg e3] at hk2
          by_cases e4 : k = gp
          · subst e4; exact ⟨oldno k hgpl, hgp, by omega⟩
          · rw [if_neg e4] at hk2; exact absurd rfl hk2
  · have hk2 : (if k = bt then Tl.team else if k = w1.heap.size then .memb else if k = g4 then .mrow else if k = gp then .prow else .no) ≠ .no := hk
    by_cases e1 : k = bt
    · exact .inl e1
    · rw [if_neg e1] at hk2
      by_cases e2 : k = w1.heap.size
      · exact .inr (.inr (by omega))
      · rw [if_neg e2] at hk2
        by_cases e3 : k = g4
        · exact .inr (.inr (by omega))
        · rw [if_neg e3] at hk2
          by_cases e4 : k = gp
          · exact .inr (.inl e4)
          · rw [if_neg e4] at hk2; exact absurd rfl hk2
/-- What enlist leaves. -/
def EnlTo (B : Nat) (w0 w : World) (bt gp np : Nat) (vars room steps : Int) (w' : World) : Prop :=
  ∃ c q, TmG B w0 w' c (newE (vars + 1).toNat) q ∧ NewT c vars room np steps bt ∧ Kf (fun k => k = bt) w w' ∧ (∀ k, q.own k ≠ .no → w.heap.size ≤ k) ∧ ∀ k, c.tl k ≠ .no → k = bt ∨ k = gp ∨ w.heap.size ≤ k
set_option maxHeartbeats 6400000 in
set_option maxRecDepth 100000 in
theorem tenlist_any {bt gp np : Nat} {vars room steps : Int} (hv0 : 0 ≤ vars) (hv : vars ≤ 10000) (hs0 : B ≤ w.heap.size) (hB0 : Below B w0 w) (hth : w.heap[bt]? = some (.cells (t0cells vars room gp np steps) 56 (0, 0))) (hpr : RowV 123 2 w gp np np (plV 0 fun _ => none)) (hbt : B ≤ bt) (hgp : B ≤ gp) (hne : gp ≠ bt) :
    Calls Tryz.prog 48 #[.pointer (some ⟨bt, 0, none⟩)] w fun e w' => e = .returned (.tuple #[]) ∧ EnlTo B w0 w bt gp np vars room steps w' := by
  have hbtl := lt_of_heap hth
  have c0 : w.cell? ⟨bt, 0, none⟩ = some (.int .i64 vars) := by rw [Lib.cell_of_heap hth]; rfl
  have c2 : w.cell? ⟨bt, 2, none⟩ = some (.slice none 0 0) := by rw [Lib.cell_of_heap hth]; rfl
  have f2 : w.frozen? ⟨bt, 2, none⟩ = false := Lib.frozen_of_heap hth 2
  have HNw : Hid (∀ V, Below w.heap.size w V → Calls Tryz.prog 64 #[.int .i64 (IntKind.i64.wrap (vars + 1))] V fun e w' => ∃ be q, e = .returned (.pointer (some ⟨be, 0, none⟩)) ∧ Sg B w0 w' be (newE (vars + 1).toNat) q ∧ Below w.heap.size w w' ∧ ∀ k, q.own k ≠ .no → w.heap.size ≤ k) := fun V hV => by
    rw [show IntKind.i64.wrap (vars + 1) = vars + 1 from IntWalk.i64_in _ (by omega)]
    refine (enew_any (vars + 1) V (by omega)).mono fun e w' he => ?_
    obtain ⟨b, q, e1, hs, hb, hq⟩ := Sg.make (B := B) (w0 := w0) he (by omega) (hB0.trans (hV.mono hs0)) (Nat.le_trans hs0 hV.size)
    exact ⟨b, q, e1, hs, hV.trans (hb.mono hV.size), fun k hk => Nat.le_trans hV.size (hq k hk)⟩
  have HEN : Hid (∀ {w1 w4 : World} {be g4 c4 : Nat} {q : Pm}, Below w.heap.size w w1 → (∀ k, q.own k ≠ .no → w.heap.size ≤ k) → Sg B w0 w1 be (newE (vars + 1).toNat) q → Below w1.heap.size w1 w4 → w4.heap[w1.heap.size]? = some (.cells #[.pointer (some ⟨be, 0, none⟩), .slice none 0 0, .int .i64 0, .int .i64 0, .int .i64 0] 67 (0, 0)) → RowV 62 1 w4 g4 1 c4 (appV (fun _ => .pointer none) 0 [.pointer (some ⟨w1.heap.size, 0, none⟩)]) → w1.heap.size + 2 ≤ g4 → EnlTo B w0 w bt gp np vars room steps (w4.setCell ⟨bt, 2, none⟩ (.slice (some ⟨g4, 0, none⟩) 1 c4))) := fun {w1 w4 be g4 c4 q} a1 a2 a3 a4 a5 a6 a7 => by
    obtain ⟨c, h1, h2, h3, h4⟩ := new_team hth hpr hbt hgp hne a1 a2 a3 a4 a5 a6 a7 rfl
    exact ⟨c, q, h1, h2, h3, a2, h4⟩
  have hbt : bt < w.heap.size := hbtl
  have hb5 : Below w.heap.size w w.drew := (Below.refl _ _).drew
  clear hth hpr hgp hne hB0 hs0 hbtl
  go_enter Tryz.func48, Tryz.ntmps48
  refine wp_region_any (by kernel_rfl) ?_
  change wpAny _ _ _ _ _ _ _ (World.drew _)
  refine wpAny_take (i := 0) (v := ?_) rfl (by kernel_rfl) (by kernel_rfl) (by kernel_rfl) (fun _ _ _ h => h) (Or.inl ⟨by kernel_rfl, ?_⟩) ?_
  rotate_left 1
  · (intro w; go_simp <;> with_reducible rfl)
  go_simp
  refine wpAny_take (i := 1) (v := ?_) rfl (by kernel_rfl) (by kernel_rfl) (by kernel_rfl) (fun _ _ _ h => h) (Or.inl ⟨by kernel_rfl, ?_⟩) ?_
  rotate_left 1
  · (intro w; go_simp <;> with_reducible rfl)
  go_simp
  refine wpAny_take (i := 2) (v := ?_) rfl (by kernel_rfl) (by kernel_rfl) (by kernel_rfl) (fun _ _ _ h => h) (Or.inl ⟨by kernel_rfl, ?_⟩) ?_
  rotate_left 1
  · (intro w; go_simp <;> with_reducible rfl)
  go_simp
  refine wpAny_take (i := 3) (v := ?_) rfl (by kernel_rfl) (by kernel_rfl) (by kernel_rfl) (fun _ _ _ h => h) (Or.inl ⟨by kernel_rfl, ?_⟩) ?_
  rotate_left 1
  · (intro w; go_simp <;> with_reducible rfl)
  go_simp
  refine wpAny_take (i := 5) (v := ?_) rfl (by kernel_rfl) (by kernel_rfl) (by kernel_rfl) (fun _ _ _ h => h) (Or.inl ⟨by kernel_rfl, ?_⟩) ?_
  rotate_left 1
  · (intro w; go_simp <;> with_reducible rfl)
  go_simp
  refine wpAny_take (i := 6) (v := ?_) rfl (by kernel_rfl) (by kernel_rfl) (by kernel_rfl) (fun _ _ _ h => h) (Or.inl ⟨by kernel_rfl, ?_⟩) ?_
  rotate_left 1
  · (intro w; go_simp <;> with_reducible rfl)
  go_simp
  refine wpAny_take (i := 7) (v := ?_) rfl (by kernel_rfl) (by kernel_rfl) (by kernel_rfl) (fun _ _ _ h => h) (Or.inl ⟨by kernel_rfl, ?_⟩) ?_
  rotate_left 1
  · (intro w; go_simp <;> with_reducible rfl)
  go_simp
  refine wpAny_ready (rs := [4, 8]) (by kernel_rfl) (by simp) ?_
  refine AllReady.cons rfl (fun K hK => ?_) ?_
  ·
    go_simp
    refine hK _ _ ?_; clear hK K
    refine wpAny_ready (rs := [8]) (by kernel_rfl) (by simp) ?_
    refine AllReady.cons rfl (fun K hK => ?_) ?_
    ·
      go_simp
      refine hK _ _ ?_; clear hK K
      refine wpAny_take (i := 9) (v := ?_) rfl (by kernel_rfl) (by kernel_rfl) (by kernel_rfl) (fun _ _ _ h => h) (Or.inl ⟨by kernel_rfl, ?_⟩) ?_
      rotate_left 1
      · (intro w; go_simp <;> with_reducible rfl)
      go_simp
      refine wpAny_ready (rs := [10]) (by kernel_rfl) (by simp) ?_
      refine AllReady.cons rfl (fun K hK => ?_) ?_
      ·
        go_simp
        go_wp2_with (first | (go_at_call 64; refine (HNw.out _ (by assumption)).mono ?_; rintro e w1 ⟨be, q, rfl, hs, hb1, hq⟩; have c2 : w1.cell? ⟨bt, 2, none⟩ = some (.slice none 0 0) := (hb1.cell (p := ⟨bt, 2, none⟩) hbt).trans c2; have f2 : w1.frozen? ⟨bt, 2, none⟩ = false := (World.frozen?_of_block (a := ⟨bt, 2, none⟩) (hb1.block bt hbt)).trans f2; have hbt1 : bt < w1.heap.size := Nat.lt_of_lt_of_le hbt hb1.size))
        first | (refine hK _ _ ?_; clear hK K) | skip
        refine wpAny_take (i := 11) (v := ?_) rfl (by kernel_rfl) (by kernel_rfl) (by kernel_rfl) (fun _ _ _ h => h) (Or.inl ⟨by kernel_rfl, ?_⟩) ?_
        rotate_left 1
        · (intro w; go_simp <;> with_reducible rfl)
        go_simp
        refine wpAny_ready (rs := [12]) (by kernel_rfl) (by simp) ?_
        refine AllReady.cons rfl (fun K hK => ?_) ?_
        ·
          go_simp
          refine hK _ _ ?_; clear hK K
          refine wpAny_ready (rs := [13]) (by kernel_rfl) (by simp) ?_
          refine AllReady.cons rfl (fun K hK => ?_) ?_
          ·
            go_simp
            refine hK _ _ ?_; clear hK K
            refine wpAny_ready (rs := [14]) (by kernel_rfl) (by simp) ?_
            refine AllReady.cons rfl (fun K hK => ?_) ?_
            ·
              refine step_append_sl _ rfl _ _ 53 62 rfl Tryz.underlying53 info_mem rfl (by decide) (by decide) none 0 0 (fun _ => .pointer none) rfl (SlV.nil _ _ _ _) (by omega) ⟨w1.heap.size + 1, 0, none⟩ 1 1 [.pointer (some ⟨w1.heap.size, 0, none⟩)] rfl rfl (box_news2 w1 be) (by simp [Value.oneCell']) (by omega) (by omega) ?_
              intro g4 c4 w4 hr4 hg4 hk4
              have hk5 := hk4 (fun _ => False) (fun j hj => (onB_none j hj).elim)
              have hb4 : Below w1.heap.size w1 w4 := below_app hk5
              have hg5 : w1.heap.size + 2 ≤ g4 := hg4.elim (fun e => (onB_none _ e).elim) (fun e => by simpa using e)
              have hm4 : w4.heap[w1.heap.size]? = some (.cells #[.pointer (some ⟨be, 0, none⟩), .slice none 0 0, .int .i64 0, .int .i64 0, .int .i64 0] 67 (0, 0)) := member_app hk5
              have c2 : w4.cell? ⟨bt, 2, none⟩ = some (.slice none 0 0) := (hb4.cell (p := ⟨bt, 2, none⟩) hbt1).trans c2
              have f2 : w4.frozen? ⟨bt, 2, none⟩ = false := (World.frozen?_of_block (a := ⟨bt, 2, none⟩) (hb4.block bt hbt1)).trans f2
              refine hK _ _ ?_; clear hK K
              refine wpAny_take (i := 15) (v := ?_) rfl (by kernel_rfl) (by kernel_rfl) (by kernel_rfl) (fun _ _ _ h => h) (Or.inl ⟨by kernel_rfl, ?_⟩) ?_
              rotate_left 1
              · (intro w; go_simp <;> with_reducible rfl)
              go_simp
              refine wpAny_take (i := 16) (v := ?_) rfl (by kernel_rfl) (by kernel_rfl) (by kernel_rfl) (fun _ _ _ h => h) (Or.inl ⟨by kernel_rfl, ?_⟩) ?_
              rotate_left 1
              · (intro w; go_simp <;> with_reducible rfl)
              go_simp
              refine wpAny_ready (rs := [17]) (by kernel_rfl) (by simp) ?_
              refine AllReady.cons rfl (fun K hK => ?_) ?_
              ·
                go_simp
                refine hK _ _ ?_; clear hK K
                refine wpAny_done (by kernel_rfl) ?_ _
                have HFin := Lib.hid (HEN.out hb1 hq hs hb4 hm4 hr4 hg5)
                clear hs hb1 hq hb4 hm4 hr4 hg5 hk4 hk5 hg4
                go_wp2_with fail
                go_end0
                exact ⟨rfl, HFin.out⟩
              exact AllReady.nil
            exact AllReady.nil
          exact AllReady.nil
        exact AllReady.nil
      exact AllReady.nil
    exact AllReady.nil
  refine AllReady.cons rfl (fun K hK => ?_) ?_
  ·
    go_simp
    refine hK _ _ ?_; clear hK K
    refine wpAny_take (i := 9) (v := ?_) rfl (by kernel_rfl) (by kernel_rfl) (by kernel_rfl) (fun _ _ _ h => h) (Or.inl ⟨by kernel_rfl, ?_⟩) ?_
    rotate_left 1
    · (intro w; go_simp <;> with_reducible rfl)
    go_simp
    refine wpAny_ready (rs := [4, 10]) (by kernel_rfl) (by simp) ?_
    refine AllReady.cons rfl (fun K hK => ?_) ?_
    ·
      go_simp
      refine hK _ _ ?_; clear hK K
      refine wpAny_ready (rs := [10]) (by kernel_rfl) (by simp) ?_
      refine AllReady.cons rfl (fun K hK => ?_) ?_
      ·
        go_simp
        go_wp2_with (first | (go_at_call 64; refine (HNw.out _ (by assumption)).mono ?_; rintro e w1 ⟨be, q, rfl, hs, hb1, hq⟩; have c2 : w1.cell? ⟨bt, 2, none⟩ = some (.slice none 0 0) := (hb1.cell (p := ⟨bt, 2, none⟩) hbt).trans c2; have f2 : w1.frozen? ⟨bt, 2, none⟩ = false := (World.frozen?_of_block (a := ⟨bt, 2, none⟩) (hb1.block bt hbt)).trans f2; have hbt1 : bt < w1.heap.size := Nat.lt_of_lt_of_le hbt hb1.size))
        first | (refine hK _ _ ?_; clear hK K) | skip
        refine wpAny_take (i := 11) (v := ?_) rfl (by kernel_rfl) (by kernel_rfl) (by kernel_rfl) (fun _ _ _ h => h) (Or.inl ⟨by kernel_rfl, ?_⟩) ?_
        rotate_left 1
        · (intro w; go_simp <;> with_reducible rfl)
        go_simp
        refine wpAny_ready (rs := [12]) (by kernel_rfl) (by simp) ?_
        refine AllReady.cons rfl (fun K hK => ?_) ?_
        ·
          go_simp
          refine hK _ _ ?_; clear hK K
          refine wpAny_ready (rs := [13]) (by kernel_rfl) (by simp) ?_
          refine AllReady.cons rfl (fun K hK => ?_) ?_
          ·
            go_simp
            refine hK _ _ ?_; clear hK K
            refine wpAny_ready (rs := [14]) (by kernel_rfl) (by simp) ?_
            refine AllReady.cons rfl (fun K hK => ?_) ?_
            ·
              refine step_append_sl _ rfl _ _ 53 62 rfl Tryz.underlying53 info_mem rfl (by decide) (by decide) none 0 0 (fun _ => .pointer none) rfl (SlV.nil _ _ _ _) (by omega) ⟨w1.heap.size + 1, 0, none⟩ 1 1 [.pointer (some ⟨w1.heap.size, 0, none⟩)] rfl rfl (box_news2 w1 be) (by simp [Value.oneCell']) (by omega) (by omega) ?_
              intro g4 c4 w4 hr4 hg4 hk4
              have hk5 := hk4 (fun _ => False) (fun j hj => (onB_none j hj).elim)
              have hb4 : Below w1.heap.size w1 w4 := below_app hk5
              have hg5 : w1.heap.size + 2 ≤ g4 := hg4.elim (fun e => (onB_none _ e).elim) (fun e => by simpa using e)
              have hm4 : w4.heap[w1.heap.size]? = some (.cells #[.pointer (some ⟨be, 0, none⟩), .slice none 0 0, .int .i64 0, .int .i64 0, .int .i64 0] 67 (0, 0)) := member_app hk5
              have c2 : w4.cell? ⟨bt, 2, none⟩ = some (.slice none 0 0) := (hb4.cell (p := ⟨bt, 2, none⟩) hbt1).trans c2
              have f2 : w4.frozen? ⟨bt, 2, none⟩ = false := (World.frozen?_of_block (a := ⟨bt, 2, none⟩) (hb4.block bt hbt1)).trans f2
              refine hK _ _ ?_; clear hK K
              refine wpAny_take (i := 15) (v := ?_) rfl (by kernel_rfl) (by kernel_rfl) (by kernel_rfl) (fun _ _ _ h => h) (Or.inl ⟨by kernel_rfl, ?_⟩) ?_
              rotate_left 1
              · (intro w; go_simp <;> with_reducible rfl)
              go_simp
              refine wpAny_take (i := 16) (v := ?_) rfl (by kernel_rfl) (by kernel_rfl) (by kernel_rfl) (fun _ _ _ h => h) (Or.inl ⟨by kernel_rfl, ?_⟩) ?_
              rotate_left 1
              · (intro w; go_simp <;> with_reducible rfl)
              go_simp
              refine wpAny_ready (rs := [17]) (by kernel_rfl) (by simp) ?_
              refine AllReady.cons rfl (fun K hK => ?_) ?_
              ·
                go_simp
                refine hK _ _ ?_; clear hK K
                refine wpAny_done (by kernel_rfl) ?_ _
                have HFin := Lib.hid (HEN.out hb1 hq hs hb4 hm4 hr4 hg5)
                clear hs hb1 hq hb4 hm4 hr4 hg5 hk4 hk5 hg4
                go_wp2_with fail
                go_end0
                exact ⟨rfl, HFin.out⟩
              exact AllReady.nil
            exact AllReady.nil
          exact AllReady.nil
        exact AllReady.nil
      exact AllReady.nil
    refine AllReady.cons rfl (fun K hK => ?_) ?_
    ·
      go_simp
      go_wp2_with (first | (go_at_call 64; refine (HNw.out _ (by assumption)).mono ?_; rintro e w1 ⟨be, q, rfl, hs, hb1, hq⟩; have c2 : w1.cell? ⟨bt, 2, none⟩ = some (.slice none 0 0) := (hb1.cell (p := ⟨bt, 2, none⟩) hbt).trans c2; have f2 : w1.frozen? ⟨bt, 2, none⟩ = false := (World.frozen?_of_block (a := ⟨bt, 2, none⟩) (hb1.block bt hbt)).trans f2; have hbt1 : bt < w1.heap.size := Nat.lt_of_lt_of_le hbt hb1.size))
      first | (refine hK _ _ ?_; clear hK K) | skip
      refine wpAny_take (i := 11) (v := ?_) rfl (by kernel_rfl) (by kernel_rfl) (by kernel_rfl) (fun _ _ _ h => h) (Or.inl ⟨by kernel_rfl, ?_⟩) ?_
      rotate_left 1
      · (intro w; go_simp <;> with_reducible rfl)
      go_simp
      refine wpAny_ready (rs := [4, 12]) (by kernel_rfl) (by simp) ?_
      refine AllReady.cons rfl (fun K hK => ?_) ?_
      ·
        go_simp
        refine hK _ _ ?_; clear hK K
        refine wpAny_ready (rs := [12]) (by kernel_rfl) (by simp) ?_
        refine AllReady.cons rfl (fun K hK => ?_) ?_
        ·
          go_simp
          refine hK _ _ ?_; clear hK K
          refine wpAny_ready (rs := [13]) (by kernel_rfl) (by simp) ?_
          refine AllReady.cons rfl (fun K hK => ?_) ?_
          ·
            go_simp
            refine hK _ _ ?_; clear hK K
            refine wpAny_ready (rs := [14]) (by kernel_rfl) (by simp) ?_
            refine AllReady.cons rfl (fun K hK => ?_) ?_
            ·
              refine step_append_sl _ rfl _ _ 53 62 rfl Tryz.underlying53 info_mem rfl (by decide) (by decide) none 0 0 (fun _ => .pointer none) rfl (SlV.nil _ _ _ _) (by omega) ⟨w1.heap.size + 1, 0, none⟩ 1 1 [.pointer (some ⟨w1.heap.size, 0, none⟩)] rfl rfl (box_news2 w1 be) (by simp [Value.oneCell']) (by omega) (by omega) ?_
              intro g4 c4 w4 hr4 hg4 hk4
              have hk5 := hk4 (fun _ => False) (fun j hj => (onB_none j hj).elim)
              have hb4 : Below w1.heap.size w1 w4 := below_app hk5
              have hg5 : w1.heap.size + 2 ≤ g4 := hg4.elim (fun e => (onB_none _ e).elim) (fun e => by simpa using e)
              have hm4 : w4.heap[w1.heap.size]? = some (.cells #[.pointer (some ⟨be, 0, none⟩), .slice none 0 0, .int .i64 0, .int .i64 0, .int .i64 0] 67 (0, 0)) := member_app hk5
              have c2 : w4.cell? ⟨bt, 2, none⟩ = some (.slice none 0 0) := (hb4.cell (p := ⟨bt, 2, none⟩) hbt1).trans c2
              have f2 : w4.frozen? ⟨bt, 2, none⟩ = false := (World.frozen?_of_block (a := ⟨bt, 2, none⟩) (hb4.block bt hbt1)).trans f2
              refine hK _ _ ?_; clear hK K
              refine wpAny_take (i := 15) (v := ?_) rfl (by kernel_rfl) (by kernel_rfl) (by kernel_rfl) (fun _ _ _ h => h) (Or.inl ⟨by kernel_rfl, ?_⟩) ?_
              rotate_left 1
              · (intro w; go_simp <;> with_reducible rfl)
              go_simp
              refine wpAny_take (i := 16) (v := ?_) rfl (by kernel_rfl) (by kernel_rfl) (by kernel_rfl) (fun _ _ _ h => h) (Or.inl ⟨by kernel_rfl, ?_⟩) ?_
              rotate_left 1
              · (intro w; go_simp <;> with_reducible rfl)
              go_simp
              refine wpAny_ready (rs := [17]) (by kernel_rfl) (by simp) ?_
              refine AllReady.cons rfl (fun K hK => ?_) ?_
              ·
                go_simp
                refine hK _ _ ?_; clear hK K
                refine wpAny_done (by kernel_rfl) ?_ _
                have HFin := Lib.hid (HEN.out hb1 hq hs hb4 hm4 hr4 hg5)
                clear hs hb1 hq hb4 hm4 hr4 hg5 hk4 hk5 hg4
                go_wp2_with fail
                go_end0
                exact ⟨rfl, HFin.out⟩
              exact AllReady.nil
            exact AllReady.nil
          exact AllReady.nil
        exact AllReady.nil
      refine AllReady.cons rfl (fun K hK => ?_) ?_
      ·
        go_simp
        refine hK _ _ ?_; clear hK K
        refine wpAny_ready (rs := [4, 13]) (by kernel_rfl) (by simp) ?_
        refine AllReady.cons rfl (fun K hK => ?_) ?_
        ·
          go_simp
          refine hK _ _ ?_; clear hK K
          refine wpAny_ready (rs := [13]) (by kernel_rfl) (by simp) ?_
          refine AllReady.cons rfl (fun K hK => ?_) ?_
          ·
            go_simp
            refine hK _ _ ?_; clear hK K
            refine wpAny_ready (rs := [14]) (by kernel_rfl) (by simp) ?_
            refine AllReady.cons rfl (fun K hK => ?_) ?_
            ·
              refine step_append_sl _ rfl _ _ 53 62 rfl Tryz.underlying53 info_mem rfl (by decide) (by decide) none 0 0 (fun _ => .pointer none) rfl (SlV.nil _ _ _ _) (by omega) ⟨w1.heap.size + 1, 0, none⟩ 1 1 [.pointer (some ⟨w1.heap.size, 0, none⟩)] rfl rfl (box_news2 w1 be) (by simp [Value.oneCell']) (by omega) (by omega) ?_
              intro g4 c4 w4 hr4 hg4 hk4
              have hk5 := hk4 (fun _ => False) (fun j hj => (onB_none j hj).elim)
              have hb4 : Below w1.heap.size w1 w4 := below_app hk5
              have hg5 : w1.heap.size + 2 ≤ g4 := hg4.elim (fun e => (onB_none _ e).elim) (fun e => by simpa using e)
              have hm4 : w4.heap[w1.heap.size]? = some (.cells #[.pointer (some ⟨be, 0, none⟩), .slice none 0 0, .int .i64 0, .int .i64 0, .int .i64 0] 67 (0, 0)) := member_app hk5
              have c2 : w4.cell? ⟨bt, 2, none⟩ = some (.slice none 0 0) := (hb4.cell (p := ⟨bt, 2, none⟩) hbt1).trans c2
              have f2 : w4.frozen? ⟨bt, 2, none⟩ = false := (World.frozen?_of_block (a := ⟨bt, 2, none⟩) (hb4.block bt hbt1)).trans f2
              refine hK _ _ ?_; clear hK K
              refine wpAny_take (i := 15) (v := ?_) rfl (by kernel_rfl) (by kernel_rfl) (by kernel_rfl) (fun _ _ _ h => h) (Or.inl ⟨by kernel_rfl, ?_⟩) ?_
              rotate_left 1
              · (intro w; go_simp <;> with_reducible rfl)
              go_simp
              refine wpAny_take (i := 16) (v := ?_) rfl (by kernel_rfl) (by kernel_rfl) (by kernel_rfl) (fun _ _ _ h => h) (Or.inl ⟨by kernel_rfl, ?_⟩) ?_
              rotate_left 1
              · (intro w; go_simp <;> with_reducible rfl)
              go_simp
              refine wpAny_ready (rs := [17]) (by kernel_rfl) (by simp) ?_
              refine AllReady.cons rfl (fun K hK => ?_) ?_
              ·
                go_simp
                refine hK _ _ ?_; clear hK K
                refine wpAny_done (by kernel_rfl) ?_ _
                have HFin := Lib.hid (HEN.out hb1 hq hs hb4 hm4 hr4 hg5)
                clear hs hb1 hq hb4 hm4 hr4 hg5 hk4 hk5 hg4
                go_wp2_with fail
                go_end0
                exact ⟨rfl, HFin.out⟩
              exact AllReady.nil
            exact AllReady.nil
          exact AllReady.nil
        refine AllReady.cons rfl (fun K hK => ?_) ?_
        ·
          go_simp
          refine hK _ _ ?_; clear hK K
          refine wpAny_ready (rs := [4]) (by kernel_rfl) (by simp) ?_
          refine AllReady.cons rfl (fun K hK => ?_) ?_
          ·
            go_simp
            refine hK _ _ ?_; clear hK K
            refine wpAny_ready (rs := [14]) (by kernel_rfl) (by simp) ?_
            refine AllReady.cons rfl (fun K hK => ?_) ?_
            ·
              refine step_append_sl _ rfl _ _ 53 62 rfl Tryz.underlying53 info_mem rfl (by decide) (by decide) none 0 0 (fun _ => .pointer none) rfl (SlV.nil _ _ _ _) (by omega) ⟨w1.heap.size + 1, 0, none⟩ 1 1 [.pointer (some ⟨w1.heap.size, 0, none⟩)] rfl rfl (box_news2 w1 be) (by simp [Value.oneCell']) (by omega) (by omega) ?_
              intro g4 c4 w4 hr4 hg4 hk4
              have hk5 := hk4 (fun _ => False) (fun j hj => (onB_none j hj).elim)
              have hb4 : Below w1.heap.size w1 w4 := below_app hk5
              have hg5 : w1.heap.size + 2 ≤ g4 := hg4.elim (fun e => (onB_none _ e).elim) (fun e => by simpa using e)
              have hm4 : w4.heap[w1.heap.size]? = some (.cells #[.pointer (some ⟨be, 0, none⟩), .slice none 0 0, .int .i64 0, .int .i64 0, .int .i64 0] 67 (0, 0)) := member_app hk5
              have c2 : w4.cell? ⟨bt, 2, none⟩ = some (.slice none 0 0) := (hb4.cell (p := ⟨bt, 2, none⟩) hbt1).trans c2
              have f2 : w4.frozen? ⟨bt, 2, none⟩ = false := (World.frozen?_of_block (a := ⟨bt, 2, none⟩) (hb4.block bt hbt1)).trans f2
              refine hK _ _ ?_; clear hK K
              refine wpAny_take (i := 15) (v := ?_) rfl (by kernel_rfl) (by kernel_rfl) (by kernel_rfl) (fun _ _ _ h => h) (Or.inl ⟨by kernel_rfl, ?_⟩) ?_
              rotate_left 1
              · (intro w; go_simp <;> with_reducible rfl)
              go_simp
              refine wpAny_take (i := 16) (v := ?_) rfl (by kernel_rfl) (by kernel_rfl) (by kernel_rfl) (fun _ _ _ h => h) (Or.inl ⟨by kernel_rfl, ?_⟩) ?_
              rotate_left 1
              · (intro w; go_simp <;> with_reducible rfl)
              go_simp
              refine wpAny_ready (rs := [17]) (by kernel_rfl) (by simp) ?_
              refine AllReady.cons rfl (fun K hK => ?_) ?_
              ·
                go_simp
                refine hK _ _ ?_; clear hK K
                refine wpAny_done (by kernel_rfl) ?_ _
                have HFin := Lib.hid (HEN.out hb1 hq hs hb4 hm4 hr4 hg5)
                clear hs hb1 hq hb4 hm4 hr4 hg5 hk4 hk5 hg4
                go_wp2_with fail
                go_end0
                exact ⟨rfl, HFin.out⟩
              exact AllReady.nil
            exact AllReady.nil
          exact AllReady.nil
        exact AllReady.nil
      exact AllReady.nil
    exact AllReady.nil
  exact AllReady.nil
/-- What newTeam leaves. -/
def NtmTo (B : Nat) (w0 w : World) (vars room : Int) (np : Nat) (steps : Int) (e : Ending) (w' : World) : Prop :=
  ∃ c q, e = .returned (.pointer (some ⟨c.bt, 0, none⟩)) ∧ TmG B w0 w' c (newE (vars + 1).toNat) q ∧ NewT c vars room np steps c.bt ∧ Below w.heap.size w w' ∧ (∀ k, q.own k ≠ .no → w.heap.size ≤ k) ∧ ∀ k, c.tl k ≠ .no → w.heap.size ≤ k
set_option maxHeartbeats 6400000 in
set_option maxRecDepth 100000 in
theorem tnewTeam_any {vars room : Int} {given steps : Nat} (hv0 : 0 ≤ vars) (hv : vars ≤ 10000) (hg : given ≤ 40000) (hst : steps ≤ 40000) (hs0 : B ≤ w.heap.size) (hB0 : Below B w0 w) :
    Calls Tryz.prog 29 #[.int .i64 vars, .int .i64 (given : Nat), .int .i64 (steps : Nat), .int .i64 room] w (NtmTo B w0 w vars room (given + steps) (given : Nat)) := by
  obtain ⟨C, k1, k2, hmk⟩ := make_sl (P := Tryz.prog) 54 123 Tryz.underlying54 info_place rfl (by decide) (by decide) (given + steps) (by omega)
  rw [Int.natCast_add] at hmk
  have hrow : RowV 123 2 (w.alloc (.cells C 123)) w.heap.size (given + steps) (given + steps) (plV 0 fun _ => none) := RowV.made (by omega) k1 (fun j hj => by
    rw [k2 j hj]
    unfold plV
    by_cases e : j % 2 = 0
    · rw [e, if_pos rfl]; rfl
    · rw [show j % 2 = 1 by omega, if_neg (by omega)]; rfl)
  obtain ⟨W, hW⟩ : ∃ W, W = (w.alloc (.cells C 123)).alloc (.cells (t0cells vars room w.heap.size (given + steps) (given : Nat)) 56) := ⟨_, rfl⟩
  have hbW : Below w.heap.size w W := by rw [hW]; exact ((Below.refl _ _).alloc (Nat.le_refl _) _).alloc (by simp) _
  have hth : W.heap[w.heap.size + 1]? = some (.cells (t0cells vars room w.heap.size (given + steps) (given : Nat)) 56 (0, 0)) := by
    have := blk_new (w.alloc (.cells C 123)) (.cells (t0cells vars room w.heap.size (given + steps) (given : Nat)) 56)
    rw [World.size_alloc] at this
    rw [hW]; exact this
  have hr2 : RowV 123 2 W w.heap.size (given + steps) (given + steps) (plV 0 fun _ => none) := by rw [hW]; exact hrow.alloc _
  have hlW : W.heap.size = w.heap.size + 2 := by rw [hW]; simp
  have HE := Lib.hid (tenlist_any (B := B) (w0 := w0) hv0 hv (Nat.le_trans hs0 hbW.size) (hB0.trans (hbW.mono hs0)) hth hr2 (by omega) hs0 (by omega))
  have HW := Lib.hid hW
  have HBW := Lib.hid hbW
  clear hrow hth hr2 hW k1 k2 hbW
  unfold t0cells at HW
  go_enter Tryz.func29, Tryz.ntmps29
  go_upto_region 2 with (fail)
  rw [← HW.out]
  go_wp2_with fail
  refine HE.out.mono ?_
  rintro e w2 ⟨rfl, c, q, h1, h2, h3, h4, h5⟩
  have hbt := h2.bt
  have HFin : Hid (NtmTo B w0 w vars room (given + steps) (given : Nat) (.returned (.pointer (some ⟨w.heap.size + 1, 0, none⟩))) w2) := by
    refine ⟨c, q, by rw [hbt], h1, by rw [hbt]; exact h2, HBW.out.trans (h3.below HBW.out.size (fun x hx => by rw [hx]; omega)), fun k hk => by have := h4 k hk; omega, fun k hk => ?_⟩
    rcases h5 k hk with e | e | e <;> omega
  clear h1 h2 h3 h4 h5 hbt HE
  go_wp2_with fail
  go_ret
  exact HFin.out
end
end Go.Proofs.YtkckodpfhlpkgaaGreat
