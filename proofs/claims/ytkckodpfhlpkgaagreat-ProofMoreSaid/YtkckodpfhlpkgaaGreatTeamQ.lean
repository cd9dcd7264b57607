/- A team of one member: the contract of remove. -/
import Derived.Test.YtkckodpfhlpkgaaGreatTeamR
namespace Go.Proofs.YtkckodpfhlpkgaaGreat
open Go.RowKit LitM TrailM EngM

/-- The same clauses but one. -/
structure But (S S' : Eng) (id : Nat) : Prop where
  n : S'.n = S.n
  cs : S'.cs.length = S.cs.length
  one : (clA S'.cs id).pr = false
  cl : ∀ i, i ≠ id → (clA S'.cs i).pr = (clA S.cs i).pr ∧ (clA S'.cs i).ls = (clA S.cs i).ls
theorem But.has {S S' : Eng} {id : Nat} (h : But S S' id) {c : List Int} (hc : hasE S' c) : hasE S c := by
  obtain ⟨i, hi, hp, hl⟩ := hc
  by_cases e : i = id
  · subst e; rw [h.one] at hp; cases hp
  · exact ⟨i, by rw [← h.cs]; exact hi, by rw [← (h.cl i e).1]; exact hp, by rw [← (h.cl i e).2]; exact hl⟩
theorem but_rem {S : Eng} {id : Nat} (hi : id < S.cs.length) : But S (removeF S id) id := by
  have hc : ∀ i, clA (removeF S id).cs i = if i = id then Cl.gone else clA S.cs i := fun i => clA_set hi Cl.gone i
  refine ⟨rfl, by show (S.cs.set _ _).length = _; simp, by rw [hc, if_pos rfl]; rfl, fun i hne => by rw [hc, if_neg hne]; exact ⟨rfl, rfl⟩⟩
/-- What remove leaves. -/
def TRem (B : Nat) (w0 w : World) (c : TmC) (S : Eng) (q : Pm) (n id : Nat) (w' : World) : Prop :=
  ∃ (s : Bool × Int × Eng) (q' : Pm), TmG B w0 w' { c with settled := s.1, gone := s.2.1, stuck := false } s.2.2 q' ∧ TExt c.tl q q' w w' ∧ TmOk { c with settled := s.1, gone := s.2.1, stuck := false } s.2.2 n ∧ But S s.2.2 id
section
variable {B n : Nat} {w0 w w' : World} {c : TmC} {S S' S'' : Eng} {q q' : Pm}
theorem rem_ok (ho : TmOk c S n) {id : Nat} (hi : id < S.cs.length) (hr : remOk S (id : Int) = true) {s : Bool} {g : Int} (hs : s = true → c.settled = true) : TmOk { c with settled := s, gone := g, stuck := false } (remE S (id : Int)) n ∧ But S (remE S (id : Int)) id := by
  have hb : But S (removeF S id) id := but_rem hi
  obtain ⟨_, r2⟩ := remOk_lt hr
  have he : remE S (id : Int) = removeF S id := by unfold remE; rw [if_pos hr]; rfl
  rw [he]
  refine ⟨⟨⟨inv_remove ho.E.inv hi r2, ho.E.nn, fun c' hc => ho.E.vr c' (hb.has hc), ho.E.dec, ho.E.lv1, ho.E.nb⟩, ho.v, fun e => ho.d (hs e), (fun e => by cases e)⟩, hb⟩
theorem back_none (hE : TeamE S n) : (backE S 0).L = [] := by
  have h0 : Went S S (n + 1 : Int) 0 (fun _ => False) := Went.start hE.inv (Nat.zero_le _) hE.dec hE.lv1
  obtain ⟨_, _, _, _, _, _, b7⟩ := h0.back
  have b7 : ∀ x ∈ (backE S 0).L, 1 ≤ x.lv ∧ x.lv ≤ 0 := b7
  match h : (backE S 0).L with
  | [] => rfl
  | x :: r => have := b7 x (by rw [h]; simp); omega
theorem back_ok (ho : TmOk c S n) : TmOk { c with settled := false } (backE S 0) n ∧ Alike S (backE S 0) := by
  have h0 : Went S S (n + 1 : Int) 0 (fun _ => False) := Went.start ho.E.inv (Nat.zero_le _) ho.E.dec ho.E.lv1
  obtain ⟨b1, b2, b3, b4, b5, b6, b7⟩ := h0.back
  have hal : Alike S (backE S 0) := ⟨b2, b3, b4⟩
  exact ⟨⟨ho.E.like hal b1 b6 (fun x hx => (b7 x hx).1), ho.v, (fun e => by cases e), fun e cl => (Rup.iff hal.has).2 (ho.s e cl)⟩, hal⟩
theorem rem_back (ho : TmOk c S n) {id : Nat} (hi : id < S.cs.length) (hp : (clA S.cs id).pr = true) : remOk (backE S 0) (id : Int) = true := by
  obtain ⟨_, hal⟩ := back_ok ho
  have hi2 : id < (backE S 0).cs.length := by rw [hal.cs]; exact hi
  have hp2 : (clA (backE S 0).cs id).pr = true := by rw [(hal.cl id).1]; exact hp
  unfold remOk thereB leanB
  rw [back_none ho.E]
  have : ((clA (backE S 0).cs id).ls.any fun l => reaZ [] (varZ l) == (id : Int)) = false := by
    rw [List.any_eq_false]
    intro l _
    unfold reaZ findE
    simp
  simp [hi2, hp2, this]
theorem But.back {id : Nat} (hal : Alike S S') (h : But S' S'' id) : But S S'' id :=
  ⟨h.n.trans hal.n, h.cs.trans hal.cs, h.one, fun i hi => ⟨(h.cl i hi).1.trans (hal.cl i).1, (h.cl i hi).2.trans (hal.cl i).2⟩⟩
set_option maxHeartbeats 6400000 in
set_option maxRecDepth 100000 in
theorem tremove_any (h : TmG B w0 w c S q) (ho : TmOk c S n) (hcn : S.cs.length ≤ 20000) (num id : Nat) (hnum : num < c.np) (hnp : c.np ≤ 90000) (hpl : c.pl num = some id) (hi : id < S.cs.length) (hp : (clA S.cs id).pr = true) :
    Calls Tryz.prog 51 #[.pointer (some ⟨c.bt, 0, none⟩), .int .i64 (num : Nat)] w fun e w' => e = .returned (.tuple #[]) ∧ TRem B w0 w c S q n id w' := by
  obtain ⟨⟨_, _, _, t3, _⟩, ⟨m0, _⟩, _⟩ := h.cells
  obtain ⟨g, hA, hrow⟩ := h.pr.row (show 0 < c.np by omega)
  rw [hA] at t3
  have p0 := hrow.cell (show num * 2 < c.np * 2 by omega)
  have p1 := hrow.cell (show num * 2 + 1 < c.np * 2 by omega)
  have e0 : plV c.bm c.pl (num * 2) = .pointer (some ⟨c.bm, 0, none⟩) := by
    unfold plV
    rw [if_pos (by omega), show num * 2 / 2 = num by omega, hpl]; rfl
  have e1 : plV c.bm c.pl (num * 2 + 1) = .int .i64 (id : Nat) := by
    unfold plV
    rw [if_neg (by omega), show (num * 2 + 1) / 2 = num by omega, hpl]; rfl
  rw [e0] at p0
  rw [e1] at p1
  obtain ⟨hpb1, hpb2⟩ := hrow.bd
  obtain ⟨W, hW⟩ : ∃ W, W = w.alloc (.cells #[.pointer (some ⟨c.bm, 0, none⟩), .int .i64 (id : Nat)] 123) := ⟨_, rfl⟩
  have hbW : Below w.heap.size w W := by rw [hW]; exact (Below.refl _ _).alloc (Nat.le_refl _) _
  have hRm : ∀ V, Below W.heap.size W V → Calls Tryz.prog 68 #[.pointer (some ⟨c.be, 0, none⟩), .int .i64 (id : Nat)] V fun e w' => e = .returned (.int .i64 (if remOk S (id : Int) = true then 0 else 51)) ∧ ∃ q', TmG B w0 w' c (remE S (id : Int)) q' ∧ TExt c.tl q q' W w' := fun V hV =>
    have hV2 : Below w.heap.size w V := hbW.trans (hV.mono hbW.size)
    ((h.below hV2).eng.remove (id : Int)).mono fun e w' ⟨he, q', hs, hx⟩ => ⟨he, q', (h.below hV2).ext hs hx (len_rem _ _), (TExt.below hV).trans (TExt.ext hx)⟩
  have hxW : TExt c.tl q q w W := TExt.below hbW
  have x0 : W.cell? ⟨w.heap.size, 0, none⟩ = some (.pointer (some ⟨c.bm, 0, none⟩)) := by rw [hW, Lib.cell_of_heap (blk_new w _)]; rfl
  have x1 : W.cell? ⟨w.heap.size, 1, none⟩ = some (.int .i64 (id : Nat)) := by rw [hW, Lib.cell_of_heap (blk_new w _)]; rfl
  have m0W : W.cell? ⟨c.bm, 0, none⟩ = some (.pointer (some ⟨c.be, 0, none⟩)) := (hbW.cell (p := ⟨c.bm, 0, none⟩) h.lts.2.1).trans m0
  have hbl : w.heap.size < W.heap.size := by rw [hW]; simp
  have hb5 : Below W.heap.size W W.drew := (Below.refl _ _).drew
  have HXW := Lib.hid hxW
  have HW := Lib.hid hW
  cases hro : remOk S (id : Int) with
  | true =>
    obtain ⟨k1, k2⟩ := rem_ok ho hi hro (s := c.settled) (g := wrap64 (c.gone + 1)) (fun e => e)
    have HK := Lib.hid (And.intro k1 k2)
    rw [hro] at hRm
    have HRm := Lib.hid hRm
    clear h ho hcn hpl hi hp hrow e0 e1 hRm hxW k1 k2 hro hbW hW
    go_enter Tryz.func51, Tryz.ntmps51
    go_upto_region 1 with (fail)
    rw [← HW.out]
    refine wp_region_any (by kernel_rfl) ?_
    change wpAny _ _ _ _ _ _ _ (World.drew _)
    refine wpAny_take (i := 0) (v := ?_) rfl (by kernel_rfl) (by kernel_rfl) (by kernel_rfl) (fun _ _ _ h => h) (Or.inl ⟨by kernel_rfl, ?_⟩) ?_
    rotate_left 1
    · (intro w; go_simp <;> with_reducible rfl)
    go_simp
    refine wpAny_take (i := 5) (v := ?_) rfl (by kernel_rfl) (by kernel_rfl) (by kernel_rfl) (fun _ _ _ h => h) (Or.inl ⟨by kernel_rfl, ?_⟩) ?_
    rotate_left 1
    · (intro w; go_simp <;> with_reducible rfl)
    go_simp
    refine wpAny_ready (rs := [1, 6]) (by kernel_rfl) (by simp) ?_
    refine AllReady.cons rfl (fun K hK => ?_) ?_
    ·
      go_simp
      refine hK _ _ ?_; clear hK K
      refine wpAny_take (i := 2) (v := ?_) rfl (by kernel_rfl) (by kernel_rfl) (by kernel_rfl) (fun _ _ _ h => h) (Or.inl ⟨by kernel_rfl, ?_⟩) ?_
      rotate_left 1
      · (intro w; go_simp <;> with_reducible rfl)
      go_simp
      refine wpAny_take (i := 3) (v := ?_) rfl (by kernel_rfl) (by kernel_rfl) (by kernel_rfl) (fun _ _ _ h => h) (Or.inl ⟨by kernel_rfl, ?_⟩) ?_
      rotate_left 1
      · (intro w; go_simp <;> with_reducible rfl)
      go_simp
      refine wpAny_ready (rs := [4, 6]) (by kernel_rfl) (by simp) ?_
      refine AllReady.cons rfl (fun K hK => ?_) ?_
      ·
        go_simp
        refine hK _ _ ?_; clear hK K
        refine wpAny_ready (rs := [6]) (by kernel_rfl) (by simp) ?_
        refine AllReady.cons rfl (fun K hK => ?_) ?_
        ·
          go_simp
          refine hK _ _ ?_; clear hK K
          refine wpAny_ready (rs := [7]) (by kernel_rfl) (by simp) ?_
          refine AllReady.cons rfl (fun K hK => ?_) ?_
          ·
            go_simp
            go_wp2_with (first | (go_at_call 68; refine (HRm.out _ (by assumption)).mono ?_; rintro e w2 ⟨rfl, q2, h2, x2⟩))
            first | (refine hK _ _ ?_; clear hK K) | skip
            refine wpAny_take (i := 8) (v := ?_) rfl (by kernel_rfl) (by kernel_rfl) (by kernel_rfl) (fun _ _ _ h => h) (Or.inl ⟨by kernel_rfl, ?_⟩) ?_
            rotate_left 1
            · (intro w; go_simp <;> with_reducible rfl)
            go_simp
            refine wpAny_done (by kernel_rfl) ?_ _
            obtain ⟨⟨_, _, _, _, u4, _, u6, _⟩, _, _, _, uf, _⟩ := h2.cells
            obtain ⟨h3, x3⟩ := h2.tset (c' := { c with  gone := wrap64 (c.gone + 1) }) (k := 4) (v := .int .i64 (wrap64 (c.gone + 1))) rfl rfl rfl rfl rfl rfl rfl rfl rfl rfl rfl rfl rfl rfl rfl
            obtain ⟨⟨_, _, _, _, _, _, v6, _⟩, _, _, _, vf, _⟩ := h3.cells
            obtain ⟨h4, x4⟩ := h3.tset (c' := { c with  gone := wrap64 (c.gone + 1), stuck := false }) (k := 6) (v := .bool false) rfl rfl rfl rfl rfl rfl rfl rfl rfl rfl rfl rfl rfl rfl rfl
            have HFin := Lib.hid (show TRem B w0 w c S q n id _ from ⟨(c.settled, wrap64 (c.gone + 1), remE S (id : Int)), q2, h4, (((HXW.out).trans x2).trans x3).trans x4, HK.out⟩)
            clear h2 x2 h3 x3 h4 x4
            go_wp2_with fail
            go_end0
            exact ⟨rfl, HFin.out⟩
          exact AllReady.nil
        exact AllReady.nil
      refine AllReady.cons rfl (fun K hK => ?_) ?_
      ·
        go_simp
        refine hK _ _ ?_; clear hK K
        refine wpAny_ready (rs := [4]) (by kernel_rfl) (by simp) ?_
        refine AllReady.cons rfl (fun K hK => ?_) ?_
        ·
          go_simp
          refine hK _ _ ?_; clear hK K
          refine wpAny_ready (rs := [7]) (by kernel_rfl) (by simp) ?_
          refine AllReady.cons rfl (fun K hK => ?_) ?_
          ·
            go_simp
            go_wp2_with (first | (go_at_call 68; refine (HRm.out _ (by assumption)).mono ?_; rintro e w2 ⟨rfl, q2, h2, x2⟩))
            first | (refine hK _ _ ?_; clear hK K) | skip
            refine wpAny_take (i := 8) (v := ?_) rfl (by kernel_rfl) (by kernel_rfl) (by kernel_rfl) (fun _ _ _ h => h) (Or.inl ⟨by kernel_rfl, ?_⟩) ?_
            rotate_left 1
            · (intro w; go_simp <;> with_reducible rfl)
            go_simp
            refine wpAny_done (by kernel_rfl) ?_ _
            obtain ⟨⟨_, _, _, _, u4, _, u6, _⟩, _, _, _, uf, _⟩ := h2.cells
            obtain ⟨h3, x3⟩ := h2.tset (c' := { c with  gone := wrap64 (c.gone + 1) }) (k := 4) (v := .int .i64 (wrap64 (c.gone + 1))) rfl rfl rfl rfl rfl rfl rfl rfl rfl rfl rfl rfl rfl rfl rfl
            obtain ⟨⟨_, _, _, _, _, _, v6, _⟩, _, _, _, vf, _⟩ := h3.cells
            obtain ⟨h4, x4⟩ := h3.tset (c' := { c with  gone := wrap64 (c.gone + 1), stuck := false }) (k := 6) (v := .bool false) rfl rfl rfl rfl rfl rfl rfl rfl rfl rfl rfl rfl rfl rfl rfl
            have HFin := Lib.hid (show TRem B w0 w c S q n id _ from ⟨(c.settled, wrap64 (c.gone + 1), remE S (id : Int)), q2, h4, (((HXW.out).trans x2).trans x3).trans x4, HK.out⟩)
            clear h2 x2 h3 x3 h4 x4
            go_wp2_with fail
            go_end0
            exact ⟨rfl, HFin.out⟩
          exact AllReady.nil
        exact AllReady.nil
      exact AllReady.nil
    refine AllReady.cons rfl (fun K hK => ?_) ?_
    ·
      go_simp
      refine hK _ _ ?_; clear hK K
      refine wpAny_ready (rs := [1]) (by kernel_rfl) (by simp) ?_
      refine AllReady.cons rfl (fun K hK => ?_) ?_
      ·
        go_simp
        refine hK _ _ ?_; clear hK K
        refine wpAny_take (i := 2) (v := ?_) rfl (by kernel_rfl) (by kernel_rfl) (by kernel_rfl) (fun _ _ _ h => h) (Or.inl ⟨by kernel_rfl, ?_⟩) ?_
        rotate_left 1
        · (intro w; go_simp <;> with_reducible rfl)
        go_simp
        refine wpAny_take (i := 3) (v := ?_) rfl (by kernel_rfl) (by kernel_rfl) (by kernel_rfl) (fun _ _ _ h => h) (Or.inl ⟨by kernel_rfl, ?_⟩) ?_
        rotate_left 1
        · (intro w; go_simp <;> with_reducible rfl)
        go_simp
        refine wpAny_ready (rs := [4]) (by kernel_rfl) (by simp) ?_
        refine AllReady.cons rfl (fun K hK => ?_) ?_
        ·
          go_simp
          refine hK _ _ ?_; clear hK K
          refine wpAny_ready (rs := [7]) (by kernel_rfl) (by simp) ?_
          refine AllReady.cons rfl (fun K hK => ?_) ?_
          ·
            go_simp
            go_wp2_with (first | (go_at_call 68; refine (HRm.out _ (by assumption)).mono ?_; rintro e w2 ⟨rfl, q2, h2, x2⟩))
            first | (refine hK _ _ ?_; clear hK K) | skip
            refine wpAny_take (i := 8) (v := ?_) rfl (by kernel_rfl) (by kernel_rfl) (by kernel_rfl) (fun _ _ _ h => h) (Or.inl ⟨by kernel_rfl, ?_⟩) ?_
            rotate_left 1
            · (intro w; go_simp <;> with_reducible rfl)
            go_simp
            refine wpAny_done (by kernel_rfl) ?_ _
            obtain ⟨⟨_, _, _, _, u4, _, u6, _⟩, _, _, _, uf, _⟩ := h2.cells
            obtain ⟨h3, x3⟩ := h2.tset (c' := { c with  gone := wrap64 (c.gone + 1) }) (k := 4) (v := .int .i64 (wrap64 (c.gone + 1))) rfl rfl rfl rfl rfl rfl rfl rfl rfl rfl rfl rfl rfl rfl rfl
            obtain ⟨⟨_, _, _, _, _, _, v6, _⟩, _, _, _, vf, _⟩ := h3.cells
            obtain ⟨h4, x4⟩ := h3.tset (c' := { c with  gone := wrap64 (c.gone + 1), stuck := false }) (k := 6) (v := .bool false) rfl rfl rfl rfl rfl rfl rfl rfl rfl rfl rfl rfl rfl rfl rfl
            have HFin := Lib.hid (show TRem B w0 w c S q n id _ from ⟨(c.settled, wrap64 (c.gone + 1), remE S (id : Int)), q2, h4, (((HXW.out).trans x2).trans x3).trans x4, HK.out⟩)
            clear h2 x2 h3 x3 h4 x4
            go_wp2_with fail
            go_end0
            exact ⟨rfl, HFin.out⟩
          exact AllReady.nil
        exact AllReady.nil
      exact AllReady.nil
    exact AllReady.nil
  | false =>
    obtain ⟨j1, j2⟩ := back_ok ho
    have hr2 := rem_back ho hi hp
    have hi2 : id < (backE S 0).cs.length := by rw [j2.cs]; exact hi
    obtain ⟨k1, k2⟩ := rem_ok (c := { c with settled := false }) j1 hi2 hr2 (s := false) (g := wrap64 (c.gone + 1)) (fun e => by cases e)
    have HK : Hid (TmOk { c with settled := false, gone := wrap64 (c.gone + 1), stuck := false } (remE (backE S 0) (id : Int)) n ∧ But S (remE (backE S 0) (id : Int)) id) := ⟨k1, k2.back j2⟩
    have hre : remE S (id : Int) = S := by unfold remE; rw [hro]; simp
    rw [hro, hre] at hRm
    have HRm := Lib.hid hRm
    have HH := Lib.hid h
    have HCN := Lib.hid hcn
    have HR2 := Lib.hid hr2
    clear h ho hcn hpl hi hp hrow e0 e1 hRm hxW k1 k2 hro hbW hW hre j1 j2 hi2 hr2
    go_enter Tryz.func51, Tryz.ntmps51
    go_upto_region 1 with (fail)
    rw [← HW.out]
    refine wp_region_any (by kernel_rfl) ?_
    change wpAny _ _ _ _ _ _ _ (World.drew _)
    refine wpAny_take (i := 0) (v := ?_) rfl (by kernel_rfl) (by kernel_rfl) (by kernel_rfl) (fun _ _ _ h => h) (Or.inl ⟨by kernel_rfl, ?_⟩) ?_
    rotate_left 1
    · (intro w; go_simp <;> with_reducible rfl)
    go_simp
    refine wpAny_take (i := 5) (v := ?_) rfl (by kernel_rfl) (by kernel_rfl) (by kernel_rfl) (fun _ _ _ h => h) (Or.inl ⟨by kernel_rfl, ?_⟩) ?_
    rotate_left 1
    · (intro w; go_simp <;> with_reducible rfl)
    go_simp
    refine wpAny_ready (rs := [1, 6]) (by kernel_rfl) (by simp) ?_
    refine AllReady.cons rfl (fun K hK => ?_) ?_
    ·
      go_simp
      refine hK _ _ ?_; clear hK K
      refine wpAny_take (i := 2) (v := ?_) rfl (by kernel_rfl) (by kernel_rfl) (by kernel_rfl) (fun _ _ _ h => h) (Or.inl ⟨by kernel_rfl, ?_⟩) ?_
      rotate_left 1
      · (intro w; go_simp <;> with_reducible rfl)
      go_simp
      refine wpAny_take (i := 3) (v := ?_) rfl (by kernel_rfl) (by kernel_rfl) (by kernel_rfl) (fun _ _ _ h => h) (Or.inl ⟨by kernel_rfl, ?_⟩) ?_
      rotate_left 1
      · (intro w; go_simp <;> with_reducible rfl)
      go_simp
      refine wpAny_ready (rs := [4, 6]) (by kernel_rfl) (by simp) ?_
      refine AllReady.cons rfl (fun K hK => ?_) ?_
      ·
        go_simp
        refine hK _ _ ?_; clear hK K
        refine wpAny_ready (rs := [6]) (by kernel_rfl) (by simp) ?_
        refine AllReady.cons rfl (fun K hK => ?_) ?_
        ·
          go_simp
          refine hK _ _ ?_; clear hK K
          refine wpAny_ready (rs := [7]) (by kernel_rfl) (by simp) ?_
          refine AllReady.cons rfl (fun K hK => ?_) ?_
          ·
            go_simp
            go_wp2_with (first | (go_at_call 68; refine (HRm.out _ (by assumption)).mono ?_; rintro e w2 ⟨rfl, q2, h2, x2⟩))
            first | (refine hK _ _ ?_; clear hK K) | skip
            refine wpAny_take (i := 8) (v := ?_) rfl (by kernel_rfl) (by kernel_rfl) (by kernel_rfl) (fun _ _ _ h => h) (Or.inl ⟨by kernel_rfl, ?_⟩) ?_
            rotate_left 1
            · (intro w; go_simp <;> with_reducible rfl)
            go_simp
            refine wpAny_done (by kernel_rfl) ?_ _
            have HLo := Lib.hid (tloosen_any h2 HCN.out)
            have X2 := Lib.hid (HXW.out.trans x2)
            have hq0 : q2.own w.heap.size = .no ∧ c.tl w.heap.size = .no := by
              have hn : c.tl w.heap.size = .no := Classical.byContradiction fun e => by
                have := (HH.out.lo _ e).2.2; omega
              exact ⟨by rw [x2.old _ hbl]; exact HH.out.eng.fresh (Nat.le_refl _), hn⟩
            have hq0W : q.own w.heap.size = .no := HH.out.eng.fresh (Nat.le_refl _)
            have y0 : w2.heap[w.heap.size]? = W.heap[w.heap.size]? := x2.kf.block _ hbl (fun e => by rcases e with e | e; exact e hq0W; exact e hq0.2)
            have hbl2 : w.heap.size < w2.heap.size := Nat.lt_of_lt_of_le hbl x2.kf.size
            clear h2 x2 HRm hb5
            go_wp2_with fail
            refine HLo.out.mono ?_
            rintro e w3 ⟨rfl, q3, h3, x3⟩
            have x3 : TExt c.tl q2 q3 w2 w3 := x3
            have y1 : w3.heap[w.heap.size]? = w2.heap[w.heap.size]? := x3.kf.block _ hbl2 (fun e => by rcases e with e | e; exact e hq0.1; exact e hq0.2)
            have z0 : w3.cell? ⟨w.heap.size, 0, none⟩ = some (.pointer (some ⟨c.bm, 0, none⟩)) := (World.cell?_of_block (a := ⟨w.heap.size, 0, none⟩) (y1.trans y0)).trans x0
            have z1 : w3.cell? ⟨w.heap.size, 1, none⟩ = some (.int .i64 (id : Nat)) := (World.cell?_of_block (a := ⟨w.heap.size, 1, none⟩) (y1.trans y0)).trans x1
            obtain ⟨_, ⟨n0, _⟩, _⟩ := h3.cells
            have hRb : ∀ V, Below w3.heap.size w3 V → Calls Tryz.prog 68 #[.pointer (some ⟨c.be, 0, none⟩), .int .i64 (id : Nat)] V fun e w' => e = .returned (.int .i64 0) ∧ ∃ q', TmG B w0 w' { c with settled := false } (remE (backE S 0) (id : Int)) q' ∧ TExt c.tl q3 q' w3 w' := fun V hV => by
              refine ((h3.below hV).eng.remove (id : Int)).mono fun e w' ⟨he, q', hs, hx⟩ => ⟨?_, q', (h3.below hV).ext hs hx (len_rem _ _), (TExt.below hV).trans (TExt.ext hx)⟩
              rw [he, HR2.out]; rfl
            have HRb := Lib.hid hRb
            have X4 := Lib.hid (X2.out.trans x3)
            have hb6 : Below w3.heap.size w3 w3.drew := (Below.refl _ _).drew
            clear h3 x3 hRb HLo X2 y0 y1 x0 x1 m0W
            go_upto_region 3 with (fail)
            refine wp_region_any (by kernel_rfl) ?_
            change wpAny _ _ _ _ _ _ _ (World.drew _)
            refine wpAny_take (i := 0) (v := ?_) rfl (by kernel_rfl) (by kernel_rfl) (by kernel_rfl) (fun _ _ _ h => h) (Or.inl ⟨by kernel_rfl, ?_⟩) ?_
            rotate_left 1
            · (intro w; go_simp <;> with_reducible rfl)
            go_simp
            refine wpAny_take (i := 5) (v := ?_) rfl (by kernel_rfl) (by kernel_rfl) (by kernel_rfl) (fun _ _ _ h => h) (Or.inl ⟨by kernel_rfl, ?_⟩) ?_
            rotate_left 1
            · (intro w; go_simp <;> with_reducible rfl)
            go_simp
            refine wpAny_ready (rs := [1, 6]) (by kernel_rfl) (by simp) ?_
            refine AllReady.cons rfl (fun K hK => ?_) ?_
            ·
              go_simp
              refine hK _ _ ?_; clear hK K
              refine wpAny_take (i := 2) (v := ?_) rfl (by kernel_rfl) (by kernel_rfl) (by kernel_rfl) (fun _ _ _ h => h) (Or.inl ⟨by kernel_rfl, ?_⟩) ?_
              rotate_left 1
              · (intro w; go_simp <;> with_reducible rfl)
              go_simp
              refine wpAny_take (i := 3) (v := ?_) rfl (by kernel_rfl) (by kernel_rfl) (by kernel_rfl) (fun _ _ _ h => h) (Or.inl ⟨by kernel_rfl, ?_⟩) ?_
              rotate_left 1
              · (intro w; go_simp <;> with_reducible rfl)
              go_simp
              refine wpAny_ready (rs := [4, 6]) (by kernel_rfl) (by simp) ?_
              refine AllReady.cons rfl (fun K hK => ?_) ?_
              ·
                go_simp
                refine hK _ _ ?_; clear hK K
                refine wpAny_ready (rs := [6]) (by kernel_rfl) (by simp) ?_
                refine AllReady.cons rfl (fun K hK => ?_) ?_
                ·
                  go_simp
                  refine hK _ _ ?_; clear hK K
                  refine wpAny_ready (rs := [7]) (by kernel_rfl) (by simp) ?_
                  refine AllReady.cons rfl (fun K hK => ?_) ?_
                  ·
                    go_simp
                    go_wp2_with (first | (go_at_call 68; refine (HRb.out _ (by assumption)).mono ?_; rintro e w2 ⟨rfl, q2, h2, x2⟩))
                    first | (refine hK _ _ ?_; clear hK K) | skip
                    refine wpAny_done (by kernel_rfl) ?_ _
                    obtain ⟨⟨_, _, _, _, u4, _, u6, _⟩, _, _, _, uf, _⟩ := h2.cells
                    obtain ⟨h3, x3⟩ := h2.tset (c' := { c with settled := false, gone := wrap64 (c.gone + 1) }) (k := 4) (v := .int .i64 (wrap64 (c.gone + 1))) rfl rfl rfl rfl rfl rfl rfl rfl rfl rfl rfl rfl rfl rfl rfl
                    obtain ⟨⟨_, _, _, _, _, _, v6, _⟩, _, _, _, vf, _⟩ := h3.cells
                    obtain ⟨h4, x4⟩ := h3.tset (c' := { c with settled := false, gone := wrap64 (c.gone + 1), stuck := false }) (k := 6) (v := .bool false) rfl rfl rfl rfl rfl rfl rfl rfl rfl rfl rfl rfl rfl rfl rfl
                    have HFin := Lib.hid (show TRem B w0 w c S q n id _ from ⟨(false, wrap64 (c.gone + 1), remE (backE S 0) (id : Int)), q2, h4, (((X4.out).trans x2).trans x3).trans x4, HK.out⟩)
                    clear h2 x2 h3 x3 h4 x4
                    go_wp2_with fail
                    go_end0
                    exact ⟨rfl, HFin.out⟩
                  exact AllReady.nil
                exact AllReady.nil
              refine AllReady.cons rfl (fun K hK => ?_) ?_
              ·
                go_simp
                refine hK _ _ ?_; clear hK K
                refine wpAny_ready (rs := [4]) (by kernel_rfl) (by simp) ?_
                refine AllReady.cons rfl (fun K hK => ?_) ?_
                ·
                  go_simp
                  refine hK _ _ ?_; clear hK K
                  refine wpAny_ready (rs := [7]) (by kernel_rfl) (by simp) ?_
                  refine AllReady.cons rfl (fun K hK => ?_) ?_
                  ·
                    go_simp
                    go_wp2_with (first | (go_at_call 68; refine (HRb.out _ (by assumption)).mono ?_; rintro e w2 ⟨rfl, q2, h2, x2⟩))
                    first | (refine hK _ _ ?_; clear hK K) | skip
                    refine wpAny_done (by kernel_rfl) ?_ _
                    obtain ⟨⟨_, _, _, _, u4, _, u6, _⟩, _, _, _, uf, _⟩ := h2.cells
                    obtain ⟨h3, x3⟩ := h2.tset (c' := { c with settled := false, gone := wrap64 (c.gone + 1) }) (k := 4) (v := .int .i64 (wrap64 (c.gone + 1))) rfl rfl rfl rfl rfl rfl rfl rfl rfl rfl rfl rfl rfl rfl rfl
                    obtain ⟨⟨_, _, _, _, _, _, v6, _⟩, _, _, _, vf, _⟩ := h3.cells
                    obtain ⟨h4, x4⟩ := h3.tset (c' := { c with settled := false, gone := wrap64 (c.gone + 1), stuck := false }) (k := 6) (v := .bool false) rfl rfl rfl rfl rfl rfl rfl rfl rfl rfl rfl rfl rfl rfl rfl
                    have HFin := Lib.hid (show TRem B w0 w c S q n id _ from ⟨(false, wrap64 (c.gone + 1), remE (backE S 0) (id : Int)), q2, h4, (((X4.out).trans x2).trans x3).trans x4, HK.out⟩)
                    clear h2 x2 h3 x3 h4 x4
                    go_wp2_with fail
                    go_end0
                    exact ⟨rfl, HFin.out⟩
                  exact AllReady.nil
                exact AllReady.nil
              exact AllReady.nil
            refine AllReady.cons rfl (fun K hK => ?_) ?_
            ·
              go_simp
              refine hK _ _ ?_; clear hK K
              refine wpAny_ready (rs := [1]) (by kernel_rfl) (by simp) ?_
              refine AllReady.cons rfl (fun K hK => ?_) ?_
              ·
                go_simp
                refine hK _ _ ?_; clear hK K
                refine wpAny_take (i := 2) (v := ?_) rfl (by kernel_rfl) (by kernel_rfl) (by kernel_rfl) (fun _ _ _ h => h) (Or.inl ⟨by kernel_rfl, ?_⟩) ?_
                rotate_left 1
                · (intro w; go_simp <;> with_reducible rfl)
                go_simp
                refine wpAny_take (i := 3) (v := ?_) rfl (by kernel_rfl) (by kernel_rfl) (by kernel_rfl) (fun _ _ _ h => h) (Or.inl ⟨by kernel_rfl, ?_⟩) ?_
                rotate_left 1
                · (intro w; go_simp <;> with_reducible rfl)
                go_simp
                refine wpAny_ready (rs := [4]) (by kernel_rfl) (by simp) ?_
                refine AllReady.cons rfl (fun K hK => ?_) ?_
                ·
                  go_simp
                  refine hK _ _ ?_; clear hK K
                  refine wpAny_ready (rs := [7]) (by kernel_rfl) (by simp) ?_
                  refine AllReady.cons rfl (fun K hK => ?_) ?_
                  ·
                    go_simp
                    go_wp2_with (first | (go_at_call 68; refine (HRb.out _ (by assumption)).mono ?_; rintro e w2 ⟨rfl, q2, h2, x2⟩))
                    first | (refine hK _ _ ?_; clear hK K) | skip
                    refine wpAny_done (by kernel_rfl) ?_ _
                    obtain ⟨⟨_, _, _, _, u4, _, u6, _⟩, _, _, _, uf, _⟩ := h2.cells
                    obtain ⟨h3, x3⟩ := h2.tset (c' := { c with settled := false, gone := wrap64 (c.gone + 1) }) (k := 4) (v := .int .i64 (wrap64 (c.gone + 1))) rfl rfl rfl rfl rfl rfl rfl rfl rfl rfl rfl rfl rfl rfl rfl
                    obtain ⟨⟨_, _, _, _, _, _, v6, _⟩, _, _, _, vf, _⟩ := h3.cells
                    obtain ⟨h4, x4⟩ := h3.tset (c' := { c with settled := false, gone := wrap64 (c.gone + 1), stuck := false }) (k := 6) (v := .bool false) rfl rfl rfl rfl rfl rfl rfl rfl rfl rfl rfl rfl rfl rfl rfl
                    have HFin := Lib.hid (show TRem B w0 w c S q n id _ from ⟨(false, wrap64 (c.gone + 1), remE (backE S 0) (id : Int)), q2, h4, (((X4.out).trans x2).trans x3).trans x4, HK.out⟩)
                    clear h2 x2 h3 x3 h4 x4
                    go_wp2_with fail
                    go_end0
                    exact ⟨rfl, HFin.out⟩
                  exact AllReady.nil
                exact AllReady.nil
              exact AllReady.nil
            exact AllReady.nil
          exact AllReady.nil
        exact AllReady.nil
      refine AllReady.cons rfl (fun K hK => ?_) ?_
      ·
        go_simp
        refine hK _ _ ?_; clear hK K
        refine wpAny_ready (rs := [4]) (by kernel_rfl) (by simp) ?_
        refine AllReady.cons rfl (fun K hK => ?_) ?_
        ·
          go_simp
          refine hK _ _ ?_; clear hK K
          refine wpAny_ready (rs := [7]) (by kernel_rfl) (by simp) ?_
          refine AllReady.cons rfl (fun K hK => ?_) ?_
          ·
            go_simp
            go_wp2_with (first | (go_at_call 68; refine (HRm.out _ (by assumption)).mono ?_; rintro e w2 ⟨rfl, q2, h2, x2⟩))
            first | (refine hK _ _ ?_; clear hK K) | skip
            refine wpAny_take (i := 8) (v := ?_) rfl (by kernel_rfl) (by kernel_rfl) (by kernel_rfl) (fun _ _ _ h => h) (Or.inl ⟨by kernel_rfl, ?_⟩) ?_
            rotate_left 1
            · (intro w; go_simp <;> with_reducible rfl)
            go_simp
            refine wpAny_done (by kernel_rfl) ?_ _
            have HLo := Lib.hid (tloosen_any h2 HCN.out)
            have X2 := Lib.hid (HXW.out.trans x2)
            have hq0 : q2.own w.heap.size = .no ∧ c.tl w.heap.size = .no := by
              have hn : c.tl w.heap.size = .no := Classical.byContradiction fun e => by
                have := (HH.out.lo _ e).2.2; omega
              exact ⟨by rw [x2.old _ hbl]; exact HH.out.eng.fresh (Nat.le_refl _), hn⟩
            have hq0W : q.own w.heap.size = .no := HH.out.eng.fresh (Nat.le_refl _)
            have y0 : w2.heap[w.heap.size]? = W.heap[w.heap.size]? := x2.kf.block _ hbl (fun e => by rcases e with e | e; exact e hq0W; exact e hq0.2)
            have hbl2 : w.heap.size < w2.heap.size := Nat.lt_of_lt_of_le hbl x2.kf.size
            clear h2 x2 HRm hb5
            go_wp2_with fail
            refine HLo.out.mono ?_
            rintro e w3 ⟨rfl, q3, h3, x3⟩
            have x3 : TExt c.tl q2 q3 w2 w3 := x3
            have y1 : w3.heap[w.heap.size]? = w2.heap[w.heap.size]? := x3.kf.block _ hbl2 (fun e => by rcases e with e | e; exact e hq0.1; exact e hq0.2)
            have z0 : w3.cell? ⟨w.heap.size, 0, none⟩ = some (.pointer (some ⟨c.bm, 0, none⟩)) := (World.cell?_of_block (a := ⟨w.heap.size, 0, none⟩) (y1.trans y0)).trans x0
            have z1 : w3.cell? ⟨w.heap.size, 1, none⟩ = some (.int .i64 (id : Nat)) := (World.cell?_of_block (a := ⟨w.heap.size, 1, none⟩) (y1.trans y0)).trans x1
            obtain ⟨_, ⟨n0, _⟩, _⟩ := h3.cells
            have hRb : ∀ V, Below w3.heap.size w3 V → Calls Tryz.prog 68 #[.pointer (some ⟨c.be, 0, none⟩), .int .i64 (id : Nat)] V fun e w' => e = .returned (.int .i64 0) ∧ ∃ q', TmG B w0 w' { c with settled := false } (remE (backE S 0) (id : Int)) q' ∧ TExt c.tl q3 q' w3 w' := fun V hV => by
              refine ((h3.below hV).eng.remove (id : Int)).mono fun e w' ⟨he, q', hs, hx⟩ => ⟨?_, q', (h3.below hV).ext hs hx (len_rem _ _), (TExt.below hV).trans (TExt.ext hx)⟩
              rw [he, HR2.out]; rfl
            have HRb := Lib.hid hRb
            have X4 := Lib.hid (X2.out.trans x3)
            have hb6 : Below w3.heap.size w3 w3.drew := (Below.refl _ _).drew
            clear h3 x3 hRb HLo X2 y0 y1 x0 x1 m0W
            go_upto_region 3 with (fail)
            refine wp_region_any (by kernel_rfl) ?_
            change wpAny _ _ _ _ _ _ _ (World.drew _)
            refine wpAny_take (i := 0) (v := ?_) rfl (by kernel_rfl) (by kernel_rfl) (by kernel_rfl) (fun _ _ _ h => h) (Or.inl ⟨by kernel_rfl, ?_⟩) ?_
            rotate_left 1
            · (intro w; go_simp <;> with_reducible rfl)
            go_simp
            refine wpAny_take (i := 5) (v := ?_) rfl (by kernel_rfl) (by kernel_rfl) (by kernel_rfl) (fun _ _ _ h => h) (Or.inl ⟨by kernel_rfl, ?_⟩) ?_
            rotate_left 1
            · (intro w; go_simp <;> with_reducible rfl)
            go_simp
            refine wpAny_ready (rs := [1, 6]) (by kernel_rfl) (by simp) ?_
            refine AllReady.cons rfl (fun K hK => ?_) ?_
            ·
              go_simp
              refine hK _ _ ?_; clear hK K
              refine wpAny_take (i := 2) (v := ?_) rfl (by kernel_rfl) (by kernel_rfl) (by kernel_rfl) (fun _ _ _ h => h) (Or.inl ⟨by kernel_rfl, ?_⟩) ?_
              rotate_left 1
              · (intro w; go_simp <;> with_reducible rfl)
              go_simp
              refine wpAny_take (i := 3) (v := ?_) rfl (by kernel_rfl) (by kernel_rfl) (by kernel_rfl) (fun _ _ _ h => h) (Or.inl ⟨by kernel_rfl, ?_⟩) ?_
              rotate_left 1
              · (intro w; go_simp <;> with_reducible rfl)
              go_simp
              refine wpAny_ready (rs := [4, 6]) (by kernel_rfl) (by simp) ?_
              refine AllReady.cons rfl (fun K hK => ?_) ?_
              ·
                go_simp
                refine hK _ _ ?_; clear hK K
                refine wpAny_ready (rs := [6]) (by kernel_rfl) (by simp) ?_
                refine AllReady.cons rfl (fun K hK => ?_) ?_
                ·
                  go_simp
                  refine hK _ _ ?_; clear hK K
                  refine wpAny_ready (rs := [7]) (by kernel_rfl) (by simp) ?_
                  refine AllReady.cons rfl (fun K hK => ?_) ?_
                  ·
                    go_simp
                    go_wp2_with (first | (go_at_call 68; refine (HRb.out _ (by assumption)).mono ?_; rintro e w2 ⟨rfl, q2, h2, x2⟩))
                    first | (refine hK _ _ ?_; clear hK K) | skip
                    refine wpAny_done (by kernel_rfl) ?_ _
                    obtain ⟨⟨_, _, _, _, u4, _, u6, _⟩, _, _, _, uf, _⟩ := h2.cells
                    obtain ⟨h3, x3⟩ := h2.tset (c' := { c with settled := false, gone := wrap64 (c.gone + 1) }) (k := 4) (v := .int .i64 (wrap64 (c.gone + 1))) rfl rfl rfl rfl rfl rfl rfl rfl rfl rfl rfl rfl rfl rfl rfl
                    obtain ⟨⟨_, _, _, _, _, _, v6, _⟩, _, _, _, vf, _⟩ := h3.cells
                    obtain ⟨h4, x4⟩ := h3.tset (c' := { c with settled := false, gone := wrap64 (c.gone + 1), stuck := false }) (k := 6) (v := .bool false) rfl rfl rfl rfl rfl rfl rfl rfl rfl rfl rfl rfl rfl rfl rfl
                    have HFin := Lib.hid (show TRem B w0 w c S q n id _ from ⟨(false, wrap64 (c.gone + 1), remE (backE S 0) (id : Int)), q2, h4, (((X4.out).trans x2).trans x3).trans x4, HK.out⟩)
                    clear h2 x2 h3 x3 h4 x4
                    go_wp2_with fail
                    go_end0
                    exact ⟨rfl, HFin.out⟩
                  exact AllReady.nil
                exact AllReady.nil
              refine AllReady.cons rfl (fun K hK => ?_) ?_
              ·
                go_simp
                refine hK _ _ ?_; clear hK K
                refine wpAny_ready (rs := [4]) (by kernel_rfl) (by simp) ?_
                refine AllReady.cons rfl (fun K hK => ?_) ?_
                ·
                  go_simp
                  refine hK _ _ ?_; clear hK K
                  refine wpAny_ready (rs := [7]) (by kernel_rfl) (by simp) ?_
                  refine AllReady.cons rfl (fun K hK => ?_) ?_
                  ·
                    go_simp
                    go_wp2_with (first | (go_at_call 68; refine (HRb.out _ (by assumption)).mono ?_; rintro e w2 ⟨rfl, q2, h2, x2⟩))
                    first | (refine hK _ _ ?_; clear hK K) | skip
                    refine wpAny_done (by kernel_rfl) ?_ _
                    obtain ⟨⟨_, _, _, _, u4, _, u6, _⟩, _, _, _, uf, _⟩ := h2.cells
                    obtain ⟨h3, x3⟩ := h2.tset (c' := { c with settled := false, gone := wrap64 (c.gone + 1) }) (k := 4) (v := .int .i64 (wrap64 (c.gone + 1))) rfl rfl rfl rfl rfl rfl rfl rfl rfl rfl rfl rfl rfl rfl rfl
                    obtain ⟨⟨_, _, _, _, _, _, v6, _⟩, _, _, _, vf, _⟩ := h3.cells
                    obtain ⟨h4, x4⟩ := h3.tset (c' := { c with settled := false, gone := wrap64 (c.gone + 1), stuck := false }) (k := 6) (v := .bool false) rfl rfl rfl rfl rfl rfl rfl rfl rfl rfl rfl rfl rfl rfl rfl
                    have HFin := Lib.hid (show TRem B w0 w c S q n id _ from ⟨(false, wrap64 (c.gone + 1), remE (backE S 0) (id : Int)), q2, h4, (((X4.out).trans x2).trans x3).trans x4, HK.out⟩)
                    clear h2 x2 h3 x3 h4 x4
                    go_wp2_with fail
                    go_end0
                    exact ⟨rfl, HFin.out⟩
                  exact AllReady.nil
                exact AllReady.nil
              exact AllReady.nil
            refine AllReady.cons rfl (fun K hK => ?_) ?_
            ·
              go_simp
              refine hK _ _ ?_; clear hK K
              refine wpAny_ready (rs := [1]) (by kernel_rfl) (by simp) ?_
              refine AllReady.cons rfl (fun K hK => ?_) ?_
              ·
                go_simp
                refine hK _ _ ?_; clear hK K
                refine wpAny_take (i := 2) (v := ?_) rfl (by kernel_rfl) (by kernel_rfl) (by kernel_rfl) (fun _ _ _ h => h) (Or.inl ⟨by kernel_rfl, ?_⟩) ?_
                rotate_left 1
                · (intro w; go_simp <;> with_reducible rfl)
                go_simp
                refine wpAny_take (i := 3) (v := ?_) rfl (by kernel_rfl) (by kernel_rfl) (by kernel_rfl) (fun _ _ _ h => h) (Or.inl ⟨by kernel_rfl, ?_⟩) ?_
                rotate_left 1
                · (intro w; go_simp <;> with_reducible rfl)
                go_simp
                refine wpAny_ready (rs := [4]) (by kernel_rfl) (by simp) ?_
                refine AllReady.cons rfl (fun K hK => ?_) ?_
                ·
                  go_simp
                  refine hK _ _ ?_; clear hK K
                  refine wpAny_ready (rs := [7]) (by kernel_rfl) (by simp) ?_
                  refine AllReady.cons rfl (fun K hK => ?_) ?_
                  ·
                    go_simp
                    go_wp2_with (first | (go_at_call 68; refine (HRb.out _ (by assumption)).mono ?_; rintro e w2 ⟨rfl, q2, h2, x2⟩))
                    first | (refine hK _ _ ?_; clear hK K) | skip
                    refine wpAny_done (by kernel_rfl) ?_ _
                    obtain ⟨⟨_, _, _, _, u4, _, u6, _⟩, _, _, _, uf, _⟩ := h2.cells
                    obtain ⟨h3, x3⟩ := h2.tset (c' := { c with settled := false, gone := wrap64 (c.gone + 1) }) (k := 4) (v := .int .i64 (wrap64 (c.gone + 1))) rfl rfl rfl rfl rfl rfl rfl rfl rfl rfl rfl rfl rfl rfl rfl
                    obtain ⟨⟨_, _, _, _, _, _, v6, _⟩, _, _, _, vf, _⟩ := h3.cells
                    obtain ⟨h4, x4⟩ := h3.tset (c' := { c with settled := false, gone := wrap64 (c.gone + 1), stuck := false }) (k := 6) (v := .bool false) rfl rfl rfl rfl rfl rfl rfl rfl rfl rfl rfl rfl rfl rfl rfl
                    have HFin := Lib.hid (show TRem B w0 w c S q n id _ from ⟨(false, wrap64 (c.gone + 1), remE (backE S 0) (id : Int)), q2, h4, (((X4.out).trans x2).trans x3).trans x4, HK.out⟩)
                    clear h2 x2 h3 x3 h4 x4
                    go_wp2_with fail
                    go_end0
                    exact ⟨rfl, HFin.out⟩
                  exact AllReady.nil
                exact AllReady.nil
              exact AllReady.nil
            exact AllReady.nil
          exact AllReady.nil
        exact AllReady.nil
      exact AllReady.nil
    refine AllReady.cons rfl (fun K hK => ?_) ?_
    ·
      go_simp
      refine hK _ _ ?_; clear hK K
      refine wpAny_ready (rs := [1]) (by kernel_rfl) (by simp) ?_
      refine AllReady.cons rfl (fun K hK => ?_) ?_
      ·
        go_simp
        refine hK _ _ ?_; clear hK K
        refine wpAny_take (i := 2) (v := ?_) rfl (by kernel_rfl) (by kernel_rfl) (by kernel_rfl) (fun _ _ _ h => h) (Or.inl ⟨by kernel_rfl, ?_⟩) ?_
        rotate_left 1
        · (intro w; go_simp <;> with_reducible rfl)
        go_simp
        refine wpAny_take (i := 3) (v := ?_) rfl (by kernel_rfl) (by kernel_rfl) (by kernel_rfl) (fun _ _ _ h => h) (Or.inl ⟨by kernel_rfl, ?_⟩) ?_
        rotate_left 1
        · (intro w; go_simp <;> with_reducible rfl)
        go_simp
        refine wpAny_ready (rs := [4]) (by kernel_rfl) (by simp) ?_
        refine AllReady.cons rfl (fun K hK => ?_) ?_
        ·
          go_simp
          refine hK _ _ ?_; clear hK K
          refine wpAny_ready (rs := [7]) (by kernel_rfl) (by simp) ?_
          refine AllReady.cons rfl (fun K hK => ?_) ?_
          ·
            go_simp
            go_wp2_with (first | (go_at_call 68; refine (HRm.out _ (by assumption)).mono ?_; rintro e w2 ⟨rfl, q2, h2, x2⟩))
            first | (refine hK _ _ ?_; clear hK K) | skip
            refine wpAny_take (i := 8) (v := ?_) rfl (by kernel_rfl) (by kernel_rfl) (by kernel_rfl) (fun _ _ _ h => h) (Or.inl ⟨by kernel_rfl, ?_⟩) ?_
            rotate_left 1
            · (intro w; go_simp <;> with_reducible rfl)
            go_simp
            refine wpAny_done (by kernel_rfl) ?_ _
            have HLo := Lib.hid (tloosen_any h2 HCN.out)
            have X2 := Lib.hid (HXW.out.trans x2)
            have hq0 : q2.own w.heap.size = .no ∧ c.tl w.heap.size = .no := by
              have hn : c.tl w.heap.size = .no := Classical.byContradiction fun e => by
                have := (HH.out.lo _ e).2.2; omega
              exact ⟨by rw [x2.old _ hbl]; exact HH.out.eng.fresh (Nat.le_refl _), hn⟩
            have hq0W : q.own w.heap.size = .no := HH.out.eng.fresh (Nat.le_refl _)
            have y0 : w2.heap[w.heap.size]? = W.heap[w.heap.size]? := x2.kf.block _ hbl (fun e => by rcases e with e | e; exact e hq0W; exact e hq0.2)
            have hbl2 : w.heap.size < w2.heap.size := Nat.lt_of_lt_of_le hbl x2.kf.size
            clear h2 x2 HRm hb5
            go_wp2_with fail
            refine HLo.out.mono ?_
            rintro e w3 ⟨rfl, q3, h3, x3⟩
            have x3 : TExt c.tl q2 q3 w2 w3 := x3
            have y1 : w3.heap[w.heap.size]? = w2.heap[w.heap.size]? := x3.kf.block _ hbl2 (fun e => by rcases e with e | e; exact e hq0.1; exact e hq0.2)
            have z0 : w3.cell? ⟨w.heap.size, 0, none⟩ = some (.pointer (some ⟨c.bm, 0, none⟩)) := (World.cell?_of_block (a := ⟨w.heap.size, 0, none⟩) (y1.trans y0)).trans x0
            have z1 : w3.cell? ⟨w.heap.size, 1, none⟩ = some (.int .i64 (id : Nat)) := (World.cell?_of_block (a := ⟨w.heap.size, 1, none⟩) (y1.trans y0)).trans x1
            obtain ⟨_, ⟨n0, _⟩, _⟩ := h3.cells
            have hRb : ∀ V, Below w3.heap.size w3 V → Calls Tryz.prog 68 #[.pointer (some ⟨c.be, 0, none⟩), .int .i64 (id : Nat)] V fun e w' => e = .returned (.int .i64 0) ∧ ∃ q', TmG B w0 w' { c with settled := false } (remE (backE S 0) (id : Int)) q' ∧ TExt c.tl q3 q' w3 w' := fun V hV => by
              refine ((h3.below hV).eng.remove (id : Int)).mono fun e w' ⟨he, q', hs, hx⟩ => ⟨?_, q', (h3.below hV).ext hs hx (len_rem _ _), (TExt.below hV).trans (TExt.ext hx)⟩
              rw [he, HR2.out]; rfl
            have HRb := Lib.hid hRb
            have X4 := Lib.hid (X2.out.trans x3)
            have hb6 : Below w3.heap.size w3 w3.drew := (Below.refl _ _).drew
            clear h3 x3 hRb HLo X2 y0 y1 x0 x1 m0W
            go_upto_region 3 with (fail)
            refine wp_region_any (by kernel_rfl) ?_
            change wpAny _ _ _ _ _ _ _ (World.drew _)
            refine wpAny_take (i := 0) (v := ?_) rfl (by kernel_rfl) (by kernel_rfl) (by kernel_rfl) (fun _ _ _ h => h) (Or.inl ⟨by kernel_rfl, ?_⟩) ?_
            rotate_left 1
            · (intro w; go_simp <;> with_reducible rfl)
            go_simp
            refine wpAny_take (i := 5) (v := ?_) rfl (by kernel_rfl) (by kernel_rfl) (by kernel_rfl) (fun _ _ _ h => h) (Or.inl ⟨by kernel_rfl, ?_⟩) ?_
            rotate_left 1
            · (intro w; go_simp <;> with_reducible rfl)
            go_simp
            refine wpAny_ready (rs := [1, 6]) (by kernel_rfl) (by simp) ?_
            refine AllReady.cons rfl (fun K hK => ?_) ?_
            ·
              go_simp
              refine hK _ _ ?_; clear hK K
              refine wpAny_take (i := 2) (v := ?_) rfl (by kernel_rfl) (by kernel_rfl) (by kernel_rfl) (fun _ _ _ h => h) (Or.inl ⟨by kernel_rfl, ?_⟩) ?_
              rotate_left 1
              · (intro w; go_simp <;> with_reducible rfl)
              go_simp
              refine wpAny_take (i := 3) (v := ?_) rfl (by kernel_rfl) (by kernel_rfl) (by kernel_rfl) (fun _ _ _ h => h) (Or.inl ⟨by kernel_rfl, ?_⟩) ?_
              rotate_left 1
              · (intro w; go_simp <;> with_reducible rfl)
              go_simp
              refine wpAny_ready (rs := [4, 6]) (by kernel_rfl) (by simp) ?_
              refine AllReady.cons rfl (fun K hK => ?_) ?_
              ·
                go_simp
                refine hK _ _ ?_; clear hK K
                refine wpAny_ready (rs := [6]) (by kernel_rfl) (by simp) ?_
                refine AllReady.cons rfl (fun K hK => ?_) ?_
                ·
                  go_simp
                  refine hK _ _ ?_; clear hK K
                  refine wpAny_ready (rs := [7]) (by kernel_rfl) (by simp) ?_
                  refine AllReady.cons rfl (fun K hK => ?_) ?_
                  ·
                    go_simp
                    go_wp2_with (first | (go_at_call 68; refine (HRb.out _ (by assumption)).mono ?_; rintro e w2 ⟨rfl, q2, h2, x2⟩))
                    first | (refine hK _ _ ?_; clear hK K) | skip
                    refine wpAny_done (by kernel_rfl) ?_ _
                    obtain ⟨⟨_, _, _, _, u4, _, u6, _⟩, _, _, _, uf, _⟩ := h2.cells
                    obtain ⟨h3, x3⟩ := h2.tset (c' := { c with settled := false, gone := wrap64 (c.gone + 1) }) (k := 4) (v := .int .i64 (wrap64 (c.gone + 1))) rfl rfl rfl rfl rfl rfl rfl rfl rfl rfl rfl rfl rfl rfl rfl
                    obtain ⟨⟨_, _, _, _, _, _, v6, _⟩, _, _, _, vf, _⟩ := h3.cells
                    obtain ⟨h4, x4⟩ := h3.tset (c' := { c with settled := false, gone := wrap64 (c.gone + 1), stuck := false }) (k := 6) (v := .bool false) rfl rfl rfl rfl rfl rfl rfl rfl rfl rfl rfl rfl rfl rfl rfl
                    have HFin := Lib.hid (show TRem B w0 w c S q n id _ from ⟨(false, wrap64 (c.gone + 1), remE (backE S 0) (id : Int)), q2, h4, (((X4.out).trans x2).trans x3).trans x4, HK.out⟩)
                    clear h2 x2 h3 x3 h4 x4
                    go_wp2_with fail
                    go_end0
                    exact ⟨rfl, HFin.out⟩
                  exact AllReady.nil
                exact AllReady.nil
              refine AllReady.cons rfl (fun K hK => ?_) ?_
              ·
                go_simp
                refine hK _ _ ?_; clear hK K
                refine wpAny_ready (rs := [4]) (by kernel_rfl) (by simp) ?_
                refine AllReady.cons rfl (fun K hK => ?_) ?_
                ·
                  go_simp
                  refine hK _ _ ?_; clear hK K
                  refine wpAny_ready (rs := [7]) (by kernel_rfl) (by simp) ?_
                  refine AllReady.cons rfl (fun K hK => ?_) ?_
                  ·
                    go_simp
                    go_wp2_with (first | (go_at_call 68; refine (HRb.out _ (by assumption)).mono ?_; rintro e w2 ⟨rfl, q2, h2, x2⟩))
                    first | (refine hK _ _ ?_; clear hK K) | skip
                    refine wpAny_done (by kernel_rfl) ?_ _
                    obtain ⟨⟨_, _, _, _, u4, _, u6, _⟩, _, _, _, uf, _⟩ := h2.cells
                    obtain ⟨h3, x3⟩ := h2.tset (c' := { c with settled := false, gone := wrap64 (c.gone + 1) }) (k := 4) (v := .int .i64 (wrap64 (c.gone + 1))) rfl rfl rfl rfl rfl rfl rfl rfl rfl rfl rfl rfl rfl rfl rfl
                    obtain ⟨⟨_, _, _, _, _, _, v6, _⟩, _, _, _, vf, _⟩ := h3.cells
                    obtain ⟨h4, x4⟩ := h3.tset (c' := { c with settled := false, gone := wrap64 (c.gone + 1), stuck := false }) (k := 6) (v := .bool false) rfl rfl rfl rfl rfl rfl rfl rfl rfl rfl rfl rfl rfl rfl rfl
                    have HFin := Lib.hid (show TRem B w0 w c S q n id _ from ⟨(false, wrap64 (c.gone + 1), remE (backE S 0) (id : Int)), q2, h4, (((X4.out).trans x2).trans x3).trans x4, HK.out⟩)
                    clear h2 x2 h3 x3 h4 x4
                    go_wp2_with fail
                    go_end0
                    exact ⟨rfl, HFin.out⟩
                  exact AllReady.nil
                exact AllReady.nil
              exact AllReady.nil
            refine AllReady.cons rfl (fun K hK => ?_) ?_
            ·
              go_simp
              refine hK _ _ ?_; clear hK K
              refine wpAny_ready (rs := [1]) (by kernel_rfl) (by simp) ?_
              refine AllReady.cons rfl (fun K hK => ?_) ?_
              ·
                go_simp
                refine hK _ _ ?_; clear hK K
                refine wpAny_take (i := 2) (v := ?_) rfl (by kernel_rfl) (by kernel_rfl) (by kernel_rfl) (fun _ _ _ h => h) (Or.inl ⟨by kernel_rfl, ?_⟩) ?_
                rotate_left 1
                · (intro w; go_simp <;> with_reducible rfl)
                go_simp
                refine wpAny_take (i := 3) (v := ?_) rfl (by kernel_rfl) (by kernel_rfl) (by kernel_rfl) (fun _ _ _ h => h) (Or.inl ⟨by kernel_rfl, ?_⟩) ?_
                rotate_left 1
                · (intro w; go_simp <;> with_reducible rfl)
                go_simp
                refine wpAny_ready (rs := [4]) (by kernel_rfl) (by simp) ?_
                refine AllReady.cons rfl (fun K hK => ?_) ?_
                ·
                  go_simp
                  refine hK _ _ ?_; clear hK K
                  refine wpAny_ready (rs := [7]) (by kernel_rfl) (by simp) ?_
                  refine AllReady.cons rfl (fun K hK => ?_) ?_
                  ·
                    go_simp
                    go_wp2_with (first | (go_at_call 68; refine (HRb.out _ (by assumption)).mono ?_; rintro e w2 ⟨rfl, q2, h2, x2⟩))
                    first | (refine hK _ _ ?_; clear hK K) | skip
                    refine wpAny_done (by kernel_rfl) ?_ _
                    obtain ⟨⟨_, _, _, _, u4, _, u6, _⟩, _, _, _, uf, _⟩ := h2.cells
                    obtain ⟨h3, x3⟩ := h2.tset (c' := { c with settled := false, gone := wrap64 (c.gone + 1) }) (k := 4) (v := .int .i64 (wrap64 (c.gone + 1))) rfl rfl rfl rfl rfl rfl rfl rfl rfl rfl rfl rfl rfl rfl rfl
                    obtain ⟨⟨_, _, _, _, _, _, v6, _⟩, _, _, _, vf, _⟩ := h3.cells
                    obtain ⟨h4, x4⟩ := h3.tset (c' := { c with settled := false, gone := wrap64 (c.gone + 1), stuck := false }) (k := 6) (v := .bool false) rfl rfl rfl rfl rfl rfl rfl rfl rfl rfl rfl rfl rfl rfl rfl
                    have HFin := Lib.hid (show TRem B w0 w c S q n id _ from ⟨(false, wrap64 (c.gone + 1), remE (backE S 0) (id : Int)), q2, h4, (((X4.out).trans x2).trans x3).trans x4, HK.out⟩)
                    clear h2 x2 h3 x3 h4 x4
                    go_wp2_with fail
                    go_end0
                    exact ⟨rfl, HFin.out⟩
                  exact AllReady.nil
                exact AllReady.nil
              exact AllReady.nil
            exact AllReady.nil
          exact AllReady.nil
        exact AllReady.nil
      exact AllReady.nil
    exact AllReady.nil
end
end Go.Proofs.YtkckodpfhlpkgaaGreat
