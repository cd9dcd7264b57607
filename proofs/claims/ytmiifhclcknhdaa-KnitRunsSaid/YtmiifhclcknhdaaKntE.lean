/- A Knit's name: the gates get variables. -/
import Derived.Test.YtmiifhclcknhdaaKntD
import Derived.StillTailTactics
namespace Go.Proofs.Ytmiifhclcknhdaa
open Go.RowKit GatM KntM Go.Lib

theorem step_append_run {P : Program} {ops : Array Oper} {o : Oper} {a : Act} {K : Act → World → Prop} {Q : Exit → Act → World → Prop} {E : Prop} (w : World) (hgd : o.guard = none) (s x : Operand) (t tn : TypeId)
    (ho : o.op = .call { callee := .builtin .append, args := #[s, x], argTypes := #[t, tn] }) (vs vx : Value) (hs : a.eval s = vs) (hx : a.eval x = vx)
    (v' : Value) (w' : World) (hr : (Builtin.append_ #[t, tn] o.type #[vs, vx]).run P w = .ok v' w') (h : K (a.put o.dst v') w') : if Region.wanted o (yielded ops a.tmps) = true then Oper.wp P o a w K Q else E := by
  have hw : Region.wanted o (yielded ops a.tmps) = true := by simp [Region.wanted, hgd]
  rw [if_pos hw]
  exact wp_append_run w s x t tn ho vs vx hs hx v' w' hr h
section
variable {w w' : World} {q : KnC} {s : KnS}
/-- The variables' row has grown. -/
theorem KnAt.grow (h : KnAt w q s) {v0 v4 : World} (hb : Below w.heap.size w v0) {m c4 : Nat} {A' : Option Addr} (hr : SlV 38 1 v4 A' (s.m + m) c4 (fun j => if j < s.m then vrF s.K j else .int .i32 0))
    (hA : ∀ k, onB A' k → onB q.Av k ∨ v0.heap.size ≤ k) (hk : Kf (fun k => onB q.Av k) v0 v4) (hK : ∀ n ∈ s.K, n < s.m) :
    (v4.cell? ⟨q.bk, 2, none⟩ = some (.slice q.Av s.m q.cv) ∧ v4.frozen? ⟨q.bk, 2, none⟩ = false) ∧ ∃ q', KnAt (v4.setCell ⟨q.bk, 2, none⟩ (.slice A' (s.m + m) c4)) q' { s with m := s.m + m } ∧ KnTo w (v4.setCell ⟨q.bk, 2, none⟩ (.slice A' (s.m + m) c4)) q q' := by
  have hsb := hb.size
  have hsk := hk.size
  have hbk : ¬ onB q.Av q.bk := fun e => by have := h.vs.2 _ e; rw [h.ok] at this; cases this
  have K1 : Kf (fun k => (fun o => o = 1 ∨ o = 3) (q.own k)) w v4 := ((Kf.of_below hb).trans hk fun x hx => .inl hx).mono fun x hx => .inl (.inr (h.vs.2 x hx))
  have K2 := K1.set (p := ⟨q.bk, 2, none⟩) (.inl (.inl h.ok)) (.slice A' (s.m + m) c4)
  have e0 : v4.heap[q.bk]? = some (.cells (q.kV s) 71 (0, 0)) := by rw [hk.block q.bk (by have := h.ltk; omega) hbk, hb.block _ h.ltk]; exact h.hk
  refine ⟨⟨by rw [Lib.cell_of_heap e0]; rfl, Lib.frozen_of_heap e0 _⟩, ?_⟩
  obtain ⟨own', hc, hn, hne⟩ : ∃ own', KChg (fun o => o = 1 ∨ o = 3) q.own own' w (v4.setCell ⟨q.bk, 2, none⟩ (.slice A' (s.m + m) c4)) ∧ (∀ k, onB A' k → own' k = 3) ∧ ∀ k, onB A' k → k ≠ q.bk := by
    rcases hr with ⟨rfl, _⟩ | ⟨g, rfl, hr⟩
    · exact ⟨q.own, h.chg K2, fun k hk => absurd hk (onB_none k), fun k hk => absurd hk (onB_none k)⟩
    · have hg' : q.own g = 3 ∨ w.heap.size ≤ g := by
        rcases hA g ((onB_some _ _).2 rfl) with e | e
        · exact .inl (h.vs.2 _ e)
        · exact .inr (by omega)
      refine ⟨relabN q.own g 3, h.chg_new K2 hg' (by simp only [World.setCell, Array.size_modify]; exact hr.lt), fun k hk => ?_, fun k hk => ?_⟩
      · rw [onB_some] at hk
        have hk : k = g := hk
        rw [hk, relabN_at]
      · rw [onB_some] at hk
        have hk : k = g := hk
        rintro rfl
        rw [← hk] at hg'
        rcases hg' with e | e
        · rw [h.ok] at e; cases e
        · have := h.ltk; omega
  refine ⟨{ q with own := own', Av := A', cv := c4 }, ⟨?_, h.hs_kept hc (by simp), ⟨?_, hn⟩, h.sp_kept hc (by simp), h.cl_kept hc (by simp) (by simp), h.ok_kept hc, h.os_kept hc, hc.fr⟩, hc.to (by simp) rfl rfl rfl⟩
  · rw [Lib.heap_setCell_same e0]
    unfold KnC.kV
    simp
  · show SlV _ 1 _ A' (s.m + m) c4 (vrF s.K)
    refine (SlV.same hr fun k hk' => Below.heap_setCell _ _ _ _ (hne k hk')).congr fun j hj => ?_
    by_cases e : j < s.m
    · rw [if_pos e]
    · rw [if_neg e]
      unfold vrF
      rw [vr_zero fun hm => e (hK j hm)]; rfl
/-- A gate gets the next variable. -/
theorem KnAt.setv (h : KnAt w q s) {g n v : Nat} {K' : List Nat} (hA : q.Av = some ⟨g, 0, none⟩) (hn : n < s.m) (hv : ∀ j, vrF K' j = updV (vrF s.K) n (.int .i32 (v : Int)) j) :
    KnAt (w.setCell ⟨g, n, none⟩ (.int .i32 (v : Int))) q { s with K := K' } ∧ KnTo w (w.setCell ⟨g, n, none⟩ (.int .i32 (v : Int))) q q := by
  have hg : q.own g = 3 := h.vs.2 g (by rw [hA]; exact (onB_some _ _).2 rfl)
  have hk : Kf (fun k => (fun o => o = 3) (q.own k)) w (w.setCell ⟨g, n, none⟩ (.int .i32 (v : Int))) := (Kf.refl _ w).set (.inl hg) _
  have hc : KChg (fun o => o = 3) q.own q.own w _ := h.chg hk
  refine ⟨⟨h.hk_kept hc (by simp), h.hs_kept hc (by simp), ⟨?_, h.vs.2⟩, h.sp_kept hc (by simp), h.cl_kept hc (by simp) (by simp), h.ok, h.os, hc.fr⟩, hc.to (by simp) rfl rfl rfl⟩
  obtain ⟨g', e, hr⟩ := h.vs.1.row (by omega)
  rw [hA] at e
  injection e with e
  injection e with e
  subst e
  show SlV _ 1 _ q.Av s.m q.cv (vrF K')
  rw [hA]
  exact .inr ⟨g, rfl, (hr.set (j := n) (by omega) _).congr fun j _ => hv j⟩
theorem vrF_step {K D : List Nat} (h : (K ++ D).Nodup) {i : Nat} (hi : i < D.length) (j : Nat) : vrF (K ++ D.take (i + 1)) j = updV (vrF (K ++ D.take i)) (D.getD i 0) (.int .i32 ((K.length + 1 + i : Nat) : Int)) j := by
  have e : D.take (i + 1) = D.take i ++ [D.getD i 0] := by
    rw [List.take_succ_eq_append_getElem hi]; simp [List.getD, List.getElem?_eq_getElem hi]
  have hx : D.getD i 0 ∉ K ++ D.take i := by
    have e2 : D.getD i 0 = D[i] := by simp [List.getD, List.getElem?_eq_getElem hi]
    have h3 : K ++ D = (K ++ D.take i) ++ (D[i] :: D.drop (i + 1)) := by
      rw [List.append_assoc, ← List.drop_eq_getElem_cons hi, List.take_append_drop]
    rw [h3, List.nodup_append] at h
    intro hm
    rw [e2] at hm
    exact h.2.2 _ hm _ (List.mem_cons_self ..) rfl
  have hl : (K ++ D.take i).length = K.length + i := by simp; omega
  unfold vrF updV
  rw [e, ← List.append_assoc, vr_snoc hx, hl]
  by_cases e2 : j = D.getD i 0
  · rw [if_pos e2, if_pos e2]; congr 2; omega
  · rw [if_neg e2, if_neg e2]
/-- Its loop. -/
def NamP (w : World) (q : KnC) (s : KnS) (L : Nat) (D : List Nat) (i : Nat) (wr : World) : Prop := ∃ q', KnAt wr q' { s with m := L, K := s.K ++ D.take i } ∧ KnTo w wr q q'
/-- What name leaves. -/
def NamTo (w : World) (q : KnC) (s : KnS) (L : Nat) (D : List Nat) (w' : World) : Prop := ∃ q', KnAt w' q' { s with m := L, K := s.K ++ D, kn := s.kn + D.length, S := [] } ∧ KnTo w w' q q'
set_option maxHeartbeats 6400000 in
set_option maxRecDepth 100000 in
theorem kname_any (h : KnAt w q s) {c : GrC} {gs mp : Gs} {ins : List Nat} (hgr : GrAt w c gs ins mp) (hbg : s.bg = c.bg) {m : Nat} (hgl : gs.length = s.m + m) (hL : gs.length ≤ 90000) (hK : ∀ n ∈ s.K, n < s.m)
    {D : List Nat} (hS : s.S = upN s.K.length D.length) (hnd : (s.K ++ D).Nodup) (hD : ∀ x ∈ D, x < gs.length) (hkn : s.kn ≤ 90000) (A : Option Addr) (cD : Nat) (hA : RdN .i64 w w.heap.size A D.length D) (hAo : ∀ k, onB A k → q.own k = 0) (hDl : D.length ≤ 90000) (hKl : s.K.length ≤ 90000) :
    Calls Try.prog 39 #[.pointer (some ⟨q.bk, 0, none⟩), .slice A D.length cD] w fun e w' => e = .returned (.tuple #[]) ∧ NamTo w q s gs.length D w' := by
  obtain ⟨v0, hv0⟩ : ∃ v0, v0 = w.drew := ⟨_, rfl⟩
  have hb0 : Below w.heap.size w v0 := by rw [hv0]; exact (Below.refl _ _).drew
  have h0 := h.below hb0
  obtain ⟨c0, _, c2, _, _, cf⟩ := h0.cells
  obtain ⟨A', c4, v4, hrun, hr4, hA4, hk4⟩ := run_append_zs (P := Try.prog) v0 60 3 60 38 .i64 .i64 Try.underlying60 Try.underlying3 info_klit (z0 := .int .i32 0) rfl rfl (by decide) q.Av s.m q.cv (vrF s.K) h0.vs.1 (by omega) m (by omega)
  obtain ⟨⟨d2, d3⟩, q1, h1, t1⟩ := h.grow hb0 hr4 hA4 (hk4 _ fun j hj => hj) hK
  have HE1 : Hid (NamP w q s gs.length D 0 (v4.setCell ⟨q.bk, 2, none⟩ (.slice A' (s.m + m) c4))) := ⟨q1, by rw [hgl, List.take_zero, List.append_nil]; exact h1, t1⟩
  have HRUN := Lib.hid hrun
  have HLEN := Lib.hid (glen_any (hgr.below (by rw [hv0]; exact (Below.refl _ _).drew) : GrAt v0 c gs ins mp))
  rw [hbg] at c0
  rw [hgl] at HLEN
  have HV0 := Lib.hid hv0
  have HND := Lib.hid hnd
  have HA := Lib.hid hA
  have HAO := Lib.hid hAo
  have HDD := Lib.hid hD
  have HGL := Lib.hid hgl
  have HSE := Lib.hid hS
  have hsm : s.m ≤ 90000 := by omega
  have hm9 : m ≤ 90000 := by omega
  clear h h0 hgr hbg hgl hK hS hnd hD hA hAo hrun hr4 hA4 hk4 h1 t1 hb0 hv0 cf
  go_enter Try.func39, Try.ntmps39
  go_upto_region 0 with (fail)
  go_cut [] (fun wx => Hid (NamP w q s gs.length D 0 wx))
  case first =>
    refine wp_region_any (by kernel_rfl) ?_
    change wpAny _ _ _ _ _ _ _ (World.drew _)
    rw [← HV0.out]
    refine wpAny_take (i := 0) (v := ?_) rfl (by kernel_rfl) (by kernel_rfl) (by kernel_rfl) (fun _ _ _ h => h) (Or.inl ⟨by kernel_rfl, ?_⟩) ?_
    rotate_left 1
    · (intro w; go_simp <;> with_reducible rfl)
    go_simp
    refine wpAny_take (i := 1) (v := ?_) rfl (by kernel_rfl) (by kernel_rfl) (by kernel_rfl) (fun _ _ _ h => h) (Or.inl ⟨by kernel_rfl, ?_⟩) ?_
    rotate_left 1
    · (intro w; go_simp <;> with_reducible rfl)
    go_simp
    refine wpAny_take (i := 2) (v := ?_) rfl (by kernel_rfl) (by kernel_rfl) (by kernel_rfl) (fun _ _ _ h => h) (Or.inl ⟨by kernel_rfl, ?_⟩) ?_
    rotate_left 1
    · (intro w; go_simp <;> with_reducible rfl)
    go_simp
    refine wpAny_take (i := 3) (v := ?_) rfl (by kernel_rfl) (by kernel_rfl) (by kernel_rfl) (fun _ _ _ h => h) (Or.inl ⟨by kernel_rfl, ?_⟩) ?_
    rotate_left 1
    · (intro w; go_simp <;> with_reducible rfl)
    go_simp
    refine wpAny_take (i := 5) (v := ?_) rfl (by kernel_rfl) (by kernel_rfl) (by kernel_rfl) (fun _ _ _ h => h) (Or.inl ⟨by kernel_rfl, ?_⟩) ?_
    rotate_left 1
    · (intro w; go_simp <;> with_reducible rfl)
    go_simp
    refine wpAny_take (i := 6) (v := ?_) rfl (by kernel_rfl) (by kernel_rfl) (by kernel_rfl) (fun _ _ _ h => h) (Or.inl ⟨by kernel_rfl, ?_⟩) ?_
    rotate_left 1
    · (intro w; go_simp <;> with_reducible rfl)
    go_simp
    refine wpAny_take (i := 7) (v := ?_) rfl (by kernel_rfl) (by kernel_rfl) (by kernel_rfl) (fun _ _ _ h => h) (Or.inl ⟨by kernel_rfl, ?_⟩) ?_
    rotate_left 1
    · (intro w; go_simp <;> with_reducible rfl)
    go_simp
    refine wpAny_take (i := 10) (v := ?_) rfl (by kernel_rfl) (by kernel_rfl) (by kernel_rfl) (fun _ _ _ h => h) (Or.inl ⟨by kernel_rfl, ?_⟩) ?_
    rotate_left 1
    · (intro w; go_simp <;> with_reducible rfl)
    go_simp
    refine wpAny_take (i := 11) (v := ?_) rfl (by kernel_rfl) (by kernel_rfl) (by kernel_rfl) (fun _ _ _ h => h) (Or.inl ⟨by kernel_rfl, ?_⟩) ?_
    rotate_left 1
    · (intro w; go_simp <;> with_reducible rfl)
    go_simp
    refine wpAny_take (i := 12) (v := ?_) rfl (by kernel_rfl) (by kernel_rfl) (by kernel_rfl) (fun _ _ _ h => h) (Or.inl ⟨by kernel_rfl, ?_⟩) ?_
    rotate_left 1
    · (intro w; go_simp <;> with_reducible rfl)
    go_simp
    refine wpAny_ready (rs := [4, 8, 13]) (by kernel_rfl) (by simp) ?_
    refine AllReady.cons rfl (fun K hK => ?_) ?_
    ·
      go_simp
      refine hK _ _ ?_; clear hK K
      refine wpAny_ready (rs := [8, 13]) (by kernel_rfl) (by simp) ?_
      refine AllReady.cons rfl (fun K hK => ?_) ?_
      ·
        go_simp
        refine hK _ _ ?_; clear hK K
        refine wpAny_ready (rs := [9, 13]) (by kernel_rfl) (by simp) ?_
        refine AllReady.cons rfl (fun K hK => ?_) ?_
        ·
          go_simp
          go_wp2_with ((go_at_call 15; refine HLEN.out.mono ?_; rintro e2 w' ⟨rfl, rfl⟩))
          first | (refine hK _ _ ?_; clear hK K) | skip
          refine wpAny_ready (rs := [13]) (by kernel_rfl) (by simp) ?_
          refine AllReady.cons rfl (fun K hK => ?_) ?_
          ·
            go_simp
            refine hK _ _ ?_; clear hK K
            refine wpAny_take (i := 14) (v := ?_) rfl (by kernel_rfl) (by kernel_rfl) (by kernel_rfl) (fun _ _ _ h => h) (Or.inl ⟨by kernel_rfl, ?_⟩) ?_
            rotate_left 1
            · (intro w; go_simp <;> with_reducible rfl)
            go_simp
            refine wpAny_take (i := 15) (v := ?_) rfl (by kernel_rfl) (by kernel_rfl) (by kernel_rfl) (fun _ _ _ h => h) (Or.inl ⟨by kernel_rfl, ?_⟩) ?_
            rotate_left 1
            · (intro w; go_simp <;> with_reducible rfl)
            go_simp
            refine wpAny_ready (rs := [16]) (by kernel_rfl) (by simp) ?_
            refine AllReady.cons rfl (fun K hK => ?_) ?_
            ·
              refine step_append_run v0 rfl _ _ 60 3 rfl (.slice q.Av s.m q.cv) (.int .i64 (m : Int)) rfl (by simp [Act.eval]; rw [IntKind.wrap_i64]; omega) (.slice A' (s.m + m) c4) v4 HRUN.out ?_
              refine hK _ _ ?_; clear hK K
              refine wpAny_take (i := 17) (v := ?_) rfl (by kernel_rfl) (by kernel_rfl) (by kernel_rfl) (fun _ _ _ h => h) (Or.inl ⟨by kernel_rfl, ?_⟩) ?_
              rotate_left 1
              · (intro w; go_simp <;> with_reducible rfl)
              go_simp
              refine wpAny_take (i := 18) (v := ?_) rfl (by kernel_rfl) (by kernel_rfl) (by kernel_rfl) (fun _ _ _ h => h) (Or.inl ⟨by kernel_rfl, ?_⟩) ?_
              rotate_left 1
              · (intro w; go_simp <;> with_reducible rfl)
              go_simp
              refine wpAny_ready (rs := [19]) (by kernel_rfl) (by simp) ?_
              refine AllReady.cons rfl (fun K hK => ?_) ?_
              ·
                go_simp
                refine hK _ _ ?_; clear hK K
                refine wpAny_done (by kernel_rfl) ?_ _
                clear c0 c2 d2 d3
                go_wp2_with fail
                go_meet
                exact HE1.out
              exact AllReady.nil
            exact AllReady.nil
          exact AllReady.nil
        refine AllReady.cons rfl (fun K hK => ?_) ?_
        ·
          go_simp
          refine hK _ _ ?_; clear hK K
          refine wpAny_take (i := 14) (v := ?_) rfl (by kernel_rfl) (by kernel_rfl) (by kernel_rfl) (fun _ _ _ h => h) (Or.inl ⟨by kernel_rfl, ?_⟩) ?_
          rotate_left 1
          · (intro w; go_simp <;> with_reducible rfl)
          go_simp
          refine wpAny_ready (rs := [9]) (by kernel_rfl) (by simp) ?_
          refine AllReady.cons rfl (fun K hK => ?_) ?_
          ·
            go_simp
            go_wp2_with ((go_at_call 15; refine HLEN.out.mono ?_; rintro e2 w' ⟨rfl, rfl⟩))
            first | (refine hK _ _ ?_; clear hK K) | skip
            refine wpAny_take (i := 15) (v := ?_) rfl (by kernel_rfl) (by kernel_rfl) (by kernel_rfl) (fun _ _ _ h => h) (Or.inl ⟨by kernel_rfl, ?_⟩) ?_
            rotate_left 1
            · (intro w; go_simp <;> with_reducible rfl)
            go_simp
            refine wpAny_ready (rs := [16]) (by kernel_rfl) (by simp) ?_
            refine AllReady.cons rfl (fun K hK => ?_) ?_
            ·
              refine step_append_run v0 rfl _ _ 60 3 rfl (.slice q.Av s.m q.cv) (.int .i64 (m : Int)) rfl (by simp [Act.eval]; rw [IntKind.wrap_i64]; omega) (.slice A' (s.m + m) c4) v4 HRUN.out ?_
              refine hK _ _ ?_; clear hK K
              refine wpAny_take (i := 17) (v := ?_) rfl (by kernel_rfl) (by kernel_rfl) (by kernel_rfl) (fun _ _ _ h => h) (Or.inl ⟨by kernel_rfl, ?_⟩) ?_
              rotate_left 1
              · (intro w; go_simp <;> with_reducible rfl)
              go_simp
              refine wpAny_take (i := 18) (v := ?_) rfl (by kernel_rfl) (by kernel_rfl) (by kernel_rfl) (fun _ _ _ h => h) (Or.inl ⟨by kernel_rfl, ?_⟩) ?_
              rotate_left 1
              · (intro w; go_simp <;> with_reducible rfl)
              go_simp
              refine wpAny_ready (rs := [19]) (by kernel_rfl) (by simp) ?_
              refine AllReady.cons rfl (fun K hK => ?_) ?_
              ·
                go_simp
                refine hK _ _ ?_; clear hK K
                refine wpAny_done (by kernel_rfl) ?_ _
                clear c0 c2 d2 d3
                go_wp2_with fail
                go_meet
                exact HE1.out
              exact AllReady.nil
            exact AllReady.nil
          exact AllReady.nil
        exact AllReady.nil
      refine AllReady.cons rfl (fun K hK => ?_) ?_
      ·
        go_simp
        refine hK _ _ ?_; clear hK K
        refine wpAny_take (i := 14) (v := ?_) rfl (by kernel_rfl) (by kernel_rfl) (by kernel_rfl) (fun _ _ _ h => h) (Or.inl ⟨by kernel_rfl, ?_⟩) ?_
        rotate_left 1
        · (intro w; go_simp <;> with_reducible rfl)
        go_simp
        refine wpAny_ready (rs := [8]) (by kernel_rfl) (by simp) ?_
        refine AllReady.cons rfl (fun K hK => ?_) ?_
        ·
          go_simp
          refine hK _ _ ?_; clear hK K
          refine wpAny_ready (rs := [9]) (by kernel_rfl) (by simp) ?_
          refine AllReady.cons rfl (fun K hK => ?_) ?_
          ·
            go_simp
            go_wp2_with ((go_at_call 15; refine HLEN.out.mono ?_; rintro e2 w' ⟨rfl, rfl⟩))
            first | (refine hK _ _ ?_; clear hK K) | skip
            refine wpAny_take (i := 15) (v := ?_) rfl (by kernel_rfl) (by kernel_rfl) (by kernel_rfl) (fun _ _ _ h => h) (Or.inl ⟨by kernel_rfl, ?_⟩) ?_
            rotate_left 1
            · (intro w; go_simp <;> with_reducible rfl)
            go_simp
            refine wpAny_ready (rs := [16]) (by kernel_rfl) (by simp) ?_
            refine AllReady.cons rfl (fun K hK => ?_) ?_
            ·
              refine step_append_run v0 rfl _ _ 60 3 rfl (.slice q.Av s.m q.cv) (.int .i64 (m : Int)) rfl (by simp [Act.eval]; rw [IntKind.wrap_i64]; omega) (.slice A' (s.m + m) c4) v4 HRUN.out ?_
              refine hK _ _ ?_; clear hK K
              refine wpAny_take (i := 17) (v := ?_) rfl (by kernel_rfl) (by kernel_rfl) (by kernel_rfl) (fun _ _ _ h => h) (Or.inl ⟨by kernel_rfl, ?_⟩) ?_
              rotate_left 1
              · (intro w; go_simp <;> with_reducible rfl)
              go_simp
              refine wpAny_take (i := 18) (v := ?_) rfl (by kernel_rfl) (by kernel_rfl) (by kernel_rfl) (fun _ _ _ h => h) (Or.inl ⟨by kernel_rfl, ?_⟩) ?_
              rotate_left 1
              · (intro w; go_simp <;> with_reducible rfl)
              go_simp
              refine wpAny_ready (rs := [19]) (by kernel_rfl) (by simp) ?_
              refine AllReady.cons rfl (fun K hK => ?_) ?_
              ·
                go_simp
                refine hK _ _ ?_; clear hK K
                refine wpAny_done (by kernel_rfl) ?_ _
                clear c0 c2 d2 d3
                go_wp2_with fail
                go_meet
                exact HE1.out
              exact AllReady.nil
            exact AllReady.nil
          exact AllReady.nil
        exact AllReady.nil
      exact AllReady.nil
    refine AllReady.cons rfl (fun K hK => ?_) ?_
    ·
      go_simp
      refine hK _ _ ?_; clear hK K
      refine wpAny_ready (rs := [4, 9, 13]) (by kernel_rfl) (by simp) ?_
      refine AllReady.cons rfl (fun K hK => ?_) ?_
      ·
        go_simp
        refine hK _ _ ?_; clear hK K
        refine wpAny_ready (rs := [9, 13]) (by kernel_rfl) (by simp) ?_
        refine AllReady.cons rfl (fun K hK => ?_) ?_
        ·
          go_simp
          go_wp2_with ((go_at_call 15; refine HLEN.out.mono ?_; rintro e2 w' ⟨rfl, rfl⟩))
          first | (refine hK _ _ ?_; clear hK K) | skip
          refine wpAny_ready (rs := [13]) (by kernel_rfl) (by simp) ?_
          refine AllReady.cons rfl (fun K hK => ?_) ?_
          ·
            go_simp
            refine hK _ _ ?_; clear hK K
            refine wpAny_take (i := 14) (v := ?_) rfl (by kernel_rfl) (by kernel_rfl) (by kernel_rfl) (fun _ _ _ h => h) (Or.inl ⟨by kernel_rfl, ?_⟩) ?_
            rotate_left 1
            · (intro w; go_simp <;> with_reducible rfl)
            go_simp
            refine wpAny_take (i := 15) (v := ?_) rfl (by kernel_rfl) (by kernel_rfl) (by kernel_rfl) (fun _ _ _ h => h) (Or.inl ⟨by kernel_rfl, ?_⟩) ?_
            rotate_left 1
            · (intro w; go_simp <;> with_reducible rfl)
            go_simp
            refine wpAny_ready (rs := [16]) (by kernel_rfl) (by simp) ?_
            refine AllReady.cons rfl (fun K hK => ?_) ?_
            ·
              refine step_append_run v0 rfl _ _ 60 3 rfl (.slice q.Av s.m q.cv) (.int .i64 (m : Int)) rfl (by simp [Act.eval]; rw [IntKind.wrap_i64]; omega) (.slice A' (s.m + m) c4) v4 HRUN.out ?_
              refine hK _ _ ?_; clear hK K
              refine wpAny_take (i := 17) (v := ?_) rfl (by kernel_rfl) (by kernel_rfl) (by kernel_rfl) (fun _ _ _ h => h) (Or.inl ⟨by kernel_rfl, ?_⟩) ?_
              rotate_left 1
              · (intro w; go_simp <;> with_reducible rfl)
              go_simp
              refine wpAny_take (i := 18) (v := ?_) rfl (by kernel_rfl) (by kernel_rfl) (by kernel_rfl) (fun _ _ _ h => h) (Or.inl ⟨by kernel_rfl, ?_⟩) ?_
              rotate_left 1
              · (intro w; go_simp <;> with_reducible rfl)
              go_simp
              refine wpAny_ready (rs := [19]) (by kernel_rfl) (by simp) ?_
              refine AllReady.cons rfl (fun K hK => ?_) ?_
              ·
                go_simp
                refine hK _ _ ?_; clear hK K
                refine wpAny_done (by kernel_rfl) ?_ _
                clear c0 c2 d2 d3
                go_wp2_with fail
                go_meet
                exact HE1.out
              exact AllReady.nil
            exact AllReady.nil
          exact AllReady.nil
        refine AllReady.cons rfl (fun K hK => ?_) ?_
        ·
          go_simp
          refine hK _ _ ?_; clear hK K
          refine wpAny_take (i := 14) (v := ?_) rfl (by kernel_rfl) (by kernel_rfl) (by kernel_rfl) (fun _ _ _ h => h) (Or.inl ⟨by kernel_rfl, ?_⟩) ?_
          rotate_left 1
          · (intro w; go_simp <;> with_reducible rfl)
          go_simp
          refine wpAny_ready (rs := [9]) (by kernel_rfl) (by simp) ?_
          refine AllReady.cons rfl (fun K hK => ?_) ?_
          ·
            go_simp
            go_wp2_with ((go_at_call 15; refine HLEN.out.mono ?_; rintro e2 w' ⟨rfl, rfl⟩))
            first | (refine hK _ _ ?_; clear hK K) | skip
            refine wpAny_take (i := 15) (v := ?_) rfl (by kernel_rfl) (by kernel_rfl) (by kernel_rfl) (fun _ _ _ h => h) (Or.inl ⟨by kernel_rfl, ?_⟩) ?_
            rotate_left 1
            · (intro w; go_simp <;> with_reducible rfl)
            go_simp
            refine wpAny_ready (rs := [16]) (by kernel_rfl) (by simp) ?_
            refine AllReady.cons rfl (fun K hK => ?_) ?_
            ·
              refine step_append_run v0 rfl _ _ 60 3 rfl (.slice q.Av s.m q.cv) (.int .i64 (m : Int)) rfl (by simp [Act.eval]; rw [IntKind.wrap_i64]; omega) (.slice A' (s.m + m) c4) v4 HRUN.out ?_
              refine hK _ _ ?_; clear hK K
              refine wpAny_take (i := 17) (v := ?_) rfl (by kernel_rfl) (by kernel_rfl) (by kernel_rfl) (fun _ _ _ h => h) (Or.inl ⟨by kernel_rfl, ?_⟩) ?_
              rotate_left 1
              · (intro w; go_simp <;> with_reducible rfl)
              go_simp
              refine wpAny_take (i := 18) (v := ?_) rfl (by kernel_rfl) (by kernel_rfl) (by kernel_rfl) (fun _ _ _ h => h) (Or.inl ⟨by kernel_rfl, ?_⟩) ?_
              rotate_left 1
              · (intro w; go_simp <;> with_reducible rfl)
              go_simp
              refine wpAny_ready (rs := [19]) (by kernel_rfl) (by simp) ?_
              refine AllReady.cons rfl (fun K hK => ?_) ?_
              ·
                go_simp
                refine hK _ _ ?_; clear hK K
                refine wpAny_done (by kernel_rfl) ?_ _
                clear c0 c2 d2 d3
                go_wp2_with fail
                go_meet
                exact HE1.out
              exact AllReady.nil
            exact AllReady.nil
          exact AllReady.nil
        exact AllReady.nil
      refine AllReady.cons rfl (fun K hK => ?_) ?_
      ·
        go_simp
        go_wp2_with ((go_at_call 15; refine HLEN.out.mono ?_; rintro e2 w' ⟨rfl, rfl⟩))
        first | (refine hK _ _ ?_; clear hK K) | skip
        refine wpAny_ready (rs := [4, 13]) (by kernel_rfl) (by simp) ?_
        refine AllReady.cons rfl (fun K hK => ?_) ?_
        ·
          go_simp
          refine hK _ _ ?_; clear hK K
          refine wpAny_ready (rs := [13]) (by kernel_rfl) (by simp) ?_
          refine AllReady.cons rfl (fun K hK => ?_) ?_
          ·
            go_simp
            refine hK _ _ ?_; clear hK K
            refine wpAny_take (i := 14) (v := ?_) rfl (by kernel_rfl) (by kernel_rfl) (by kernel_rfl) (fun _ _ _ h => h) (Or.inl ⟨by kernel_rfl, ?_⟩) ?_
            rotate_left 1
            · (intro w; go_simp <;> with_reducible rfl)
            go_simp
            refine wpAny_take (i := 15) (v := ?_) rfl (by kernel_rfl) (by kernel_rfl) (by kernel_rfl) (fun _ _ _ h => h) (Or.inl ⟨by kernel_rfl, ?_⟩) ?_
            rotate_left 1
            · (intro w; go_simp <;> with_reducible rfl)
            go_simp
            refine wpAny_ready (rs := [16]) (by kernel_rfl) (by simp) ?_
            refine AllReady.cons rfl (fun K hK => ?_) ?_
            ·
              refine step_append_run v0 rfl _ _ 60 3 rfl (.slice q.Av s.m q.cv) (.int .i64 (m : Int)) rfl (by simp [Act.eval]; rw [IntKind.wrap_i64]; omega) (.slice A' (s.m + m) c4) v4 HRUN.out ?_
              refine hK _ _ ?_; clear hK K
              refine wpAny_take (i := 17) (v := ?_) rfl (by kernel_rfl) (by kernel_rfl) (by kernel_rfl) (fun _ _ _ h => h) (Or.inl ⟨by kernel_rfl, ?_⟩) ?_
              rotate_left 1
              · (intro w; go_simp <;> with_reducible rfl)
              go_simp
              refine wpAny_take (i := 18) (v := ?_) rfl (by kernel_rfl) (by kernel_rfl) (by kernel_rfl) (fun _ _ _ h => h) (Or.inl ⟨by kernel_rfl, ?_⟩) ?_
              rotate_left 1
              · (intro w; go_simp <;> with_reducible rfl)
              go_simp
              refine wpAny_ready (rs := [19]) (by kernel_rfl) (by simp) ?_
              refine AllReady.cons rfl (fun K hK => ?_) ?_
              ·
                go_simp
                refine hK _ _ ?_; clear hK K
                refine wpAny_done (by kernel_rfl) ?_ _
                clear c0 c2 d2 d3
                go_wp2_with fail
                go_meet
                exact HE1.out
              exact AllReady.nil
            exact AllReady.nil
          exact AllReady.nil
        refine AllReady.cons rfl (fun K hK => ?_) ?_
        ·
          go_simp
          refine hK _ _ ?_; clear hK K
          refine wpAny_take (i := 14) (v := ?_) rfl (by kernel_rfl) (by kernel_rfl) (by kernel_rfl) (fun _ _ _ h => h) (Or.inl ⟨by kernel_rfl, ?_⟩) ?_
          rotate_left 1
          · (intro w; go_simp <;> with_reducible rfl)
          go_simp
          refine wpAny_take (i := 15) (v := ?_) rfl (by kernel_rfl) (by kernel_rfl) (by kernel_rfl) (fun _ _ _ h => h) (Or.inl ⟨by kernel_rfl, ?_⟩) ?_
          rotate_left 1
          · (intro w; go_simp <;> with_reducible rfl)
          go_simp
          refine wpAny_ready (rs := [4]) (by kernel_rfl) (by simp) ?_
          refine AllReady.cons rfl (fun K hK => ?_) ?_
          ·
            go_simp
            refine hK _ _ ?_; clear hK K
            refine wpAny_ready (rs := [16]) (by kernel_rfl) (by simp) ?_
            refine AllReady.cons rfl (fun K hK => ?_) ?_
            ·
              refine step_append_run v0 rfl _ _ 60 3 rfl (.slice q.Av s.m q.cv) (.int .i64 (m : Int)) rfl (by simp [Act.eval]; rw [IntKind.wrap_i64]; omega) (.slice A' (s.m + m) c4) v4 HRUN.out ?_
              refine hK _ _ ?_; clear hK K
              refine wpAny_take (i := 17) (v := ?_) rfl (by kernel_rfl) (by kernel_rfl) (by kernel_rfl) (fun _ _ _ h => h) (Or.inl ⟨by kernel_rfl, ?_⟩) ?_
              rotate_left 1
              · (intro w; go_simp <;> with_reducible rfl)
              go_simp
              refine wpAny_take (i := 18) (v := ?_) rfl (by kernel_rfl) (by kernel_rfl) (by kernel_rfl) (fun _ _ _ h => h) (Or.inl ⟨by kernel_rfl, ?_⟩) ?_
              rotate_left 1
              · (intro w; go_simp <;> with_reducible rfl)
              go_simp
              refine wpAny_ready (rs := [19]) (by kernel_rfl) (by simp) ?_
              refine AllReady.cons rfl (fun K hK => ?_) ?_
              ·
                go_simp
                refine hK _ _ ?_; clear hK K
                refine wpAny_done (by kernel_rfl) ?_ _
                clear c0 c2 d2 d3
                go_wp2_with fail
                go_meet
                exact HE1.out
              exact AllReady.nil
            exact AllReady.nil
          exact AllReady.nil
        exact AllReady.nil
      refine AllReady.cons rfl (fun K hK => ?_) ?_
      ·
        go_simp
        refine hK _ _ ?_; clear hK K
        refine wpAny_take (i := 14) (v := ?_) rfl (by kernel_rfl) (by kernel_rfl) (by kernel_rfl) (fun _ _ _ h => h) (Or.inl ⟨by kernel_rfl, ?_⟩) ?_
        rotate_left 1
        · (intro w; go_simp <;> with_reducible rfl)
        go_simp
        refine wpAny_ready (rs := [4, 9]) (by kernel_rfl) (by simp) ?_
        refine AllReady.cons rfl (fun K hK => ?_) ?_
        ·
          go_simp
          refine hK _ _ ?_; clear hK K
          refine wpAny_ready (rs := [9]) (by kernel_rfl) (by simp) ?_
          refine AllReady.cons rfl (fun K hK => ?_) ?_
          ·
            go_simp
            go_wp2_with ((go_at_call 15; refine HLEN.out.mono ?_; rintro e2 w' ⟨rfl, rfl⟩))
            first | (refine hK _ _ ?_; clear hK K) | skip
            refine wpAny_take (i := 15) (v := ?_) rfl (by kernel_rfl) (by kernel_rfl) (by kernel_rfl) (fun _ _ _ h => h) (Or.inl ⟨by kernel_rfl, ?_⟩) ?_
            rotate_left 1
            · (intro w; go_simp <;> with_reducible rfl)
            go_simp
            refine wpAny_ready (rs := [16]) (by kernel_rfl) (by simp) ?_
            refine AllReady.cons rfl (fun K hK => ?_) ?_
            ·
              refine step_append_run v0 rfl _ _ 60 3 rfl (.slice q.Av s.m q.cv) (.int .i64 (m : Int)) rfl (by simp [Act.eval]; rw [IntKind.wrap_i64]; omega) (.slice A' (s.m + m) c4) v4 HRUN.out ?_
              refine hK _ _ ?_; clear hK K
              refine wpAny_take (i := 17) (v := ?_) rfl (by kernel_rfl) (by kernel_rfl) (by kernel_rfl) (fun _ _ _ h => h) (Or.inl ⟨by kernel_rfl, ?_⟩) ?_
              rotate_left 1
              · (intro w; go_simp <;> with_reducible rfl)
              go_simp
              refine wpAny_take (i := 18) (v := ?_) rfl (by kernel_rfl) (by kernel_rfl) (by kernel_rfl) (fun _ _ _ h => h) (Or.inl ⟨by kernel_rfl, ?_⟩) ?_
              rotate_left 1
              · (intro w; go_simp <;> with_reducible rfl)
              go_simp
              refine wpAny_ready (rs := [19]) (by kernel_rfl) (by simp) ?_
              refine AllReady.cons rfl (fun K hK => ?_) ?_
              ·
                go_simp
                refine hK _ _ ?_; clear hK K
                refine wpAny_done (by kernel_rfl) ?_ _
                clear c0 c2 d2 d3
                go_wp2_with fail
                go_meet
                exact HE1.out
              exact AllReady.nil
            exact AllReady.nil
          exact AllReady.nil
        refine AllReady.cons rfl (fun K hK => ?_) ?_
        ·
          go_simp
          go_wp2_with ((go_at_call 15; refine HLEN.out.mono ?_; rintro e2 w' ⟨rfl, rfl⟩))
          first | (refine hK _ _ ?_; clear hK K) | skip
          refine wpAny_take (i := 15) (v := ?_) rfl (by kernel_rfl) (by kernel_rfl) (by kernel_rfl) (fun _ _ _ h => h) (Or.inl ⟨by kernel_rfl, ?_⟩) ?_
          rotate_left 1
          · (intro w; go_simp <;> with_reducible rfl)
          go_simp
          refine wpAny_ready (rs := [4]) (by kernel_rfl) (by simp) ?_
          refine AllReady.cons rfl (fun K hK => ?_) ?_
          ·
            go_simp
            refine hK _ _ ?_; clear hK K
            refine wpAny_ready (rs := [16]) (by kernel_rfl) (by simp) ?_
            refine AllReady.cons rfl (fun K hK => ?_) ?_
            ·
              refine step_append_run v0 rfl _ _ 60 3 rfl (.slice q.Av s.m q.cv) (.int .i64 (m : Int)) rfl (by simp [Act.eval]; rw [IntKind.wrap_i64]; omega) (.slice A' (s.m + m) c4) v4 HRUN.out ?_
              refine hK _ _ ?_; clear hK K
              refine wpAny_take (i := 17) (v := ?_) rfl (by kernel_rfl) (by kernel_rfl) (by kernel_rfl) (fun _ _ _ h => h) (Or.inl ⟨by kernel_rfl, ?_⟩) ?_
              rotate_left 1
              · (intro w; go_simp <;> with_reducible rfl)
              go_simp
              refine wpAny_take (i := 18) (v := ?_) rfl (by kernel_rfl) (by kernel_rfl) (by kernel_rfl) (fun _ _ _ h => h) (Or.inl ⟨by kernel_rfl, ?_⟩) ?_
              rotate_left 1
              · (intro w; go_simp <;> with_reducible rfl)
              go_simp
              refine wpAny_ready (rs := [19]) (by kernel_rfl) (by simp) ?_
              refine AllReady.cons rfl (fun K hK => ?_) ?_
              ·
                go_simp
                refine hK _ _ ?_; clear hK K
                refine wpAny_done (by kernel_rfl) ?_ _
                clear c0 c2 d2 d3
                go_wp2_with fail
                go_meet
                exact HE1.out
              exact AllReady.nil
            exact AllReady.nil
          exact AllReady.nil
        exact AllReady.nil
      exact AllReady.nil
    refine AllReady.cons rfl (fun K hK => ?_) ?_
    ·
      go_simp
      refine hK _ _ ?_; clear hK K
      refine wpAny_take (i := 14) (v := ?_) rfl (by kernel_rfl) (by kernel_rfl) (by kernel_rfl) (fun _ _ _ h => h) (Or.inl ⟨by kernel_rfl, ?_⟩) ?_
      rotate_left 1
      · (intro w; go_simp <;> with_reducible rfl)
      go_simp
      refine wpAny_ready (rs := [4, 8]) (by kernel_rfl) (by simp) ?_
      refine AllReady.cons rfl (fun K hK => ?_) ?_
      ·
        go_simp
        refine hK _ _ ?_; clear hK K
        refine wpAny_ready (rs := [8]) (by kernel_rfl) (by simp) ?_
        refine AllReady.cons rfl (fun K hK => ?_) ?_
        ·
          go_simp
          refine hK _ _ ?_; clear hK K
          refine wpAny_ready (rs := [9]) (by kernel_rfl) (by simp) ?_
          refine AllReady.cons rfl (fun K hK => ?_) ?_
          ·
            go_simp
            go_wp2_with ((go_at_call 15; refine HLEN.out.mono ?_; rintro e2 w' ⟨rfl, rfl⟩))
            first | (refine hK _ _ ?_; clear hK K) | skip
            refine wpAny_take (i := 15) (v := ?_) rfl (by kernel_rfl) (by kernel_rfl) (by kernel_rfl) (fun _ _ _ h => h) (Or.inl ⟨by kernel_rfl, ?_⟩) ?_
            rotate_left 1
            · (intro w; go_simp <;> with_reducible rfl)
            go_simp
            refine wpAny_ready (rs := [16]) (by kernel_rfl) (by simp) ?_
            refine AllReady.cons rfl (fun K hK => ?_) ?_
            ·
              refine step_append_run v0 rfl _ _ 60 3 rfl (.slice q.Av s.m q.cv) (.int .i64 (m : Int)) rfl (by simp [Act.eval]; rw [IntKind.wrap_i64]; omega) (.slice A' (s.m + m) c4) v4 HRUN.out ?_
              refine hK _ _ ?_; clear hK K
              refine wpAny_take (i := 17) (v := ?_) rfl (by kernel_rfl) (by kernel_rfl) (by kernel_rfl) (fun _ _ _ h => h) (Or.inl ⟨by kernel_rfl, ?_⟩) ?_
              rotate_left 1
              · (intro w; go_simp <;> with_reducible rfl)
              go_simp
              refine wpAny_take (i := 18) (v := ?_) rfl (by kernel_rfl) (by kernel_rfl) (by kernel_rfl) (fun _ _ _ h => h) (Or.inl ⟨by kernel_rfl, ?_⟩) ?_
              rotate_left 1
              · (intro w; go_simp <;> with_reducible rfl)
              go_simp
              refine wpAny_ready (rs := [19]) (by kernel_rfl) (by simp) ?_
              refine AllReady.cons rfl (fun K hK => ?_) ?_
              ·
                go_simp
                refine hK _ _ ?_; clear hK K
                refine wpAny_done (by kernel_rfl) ?_ _
                clear c0 c2 d2 d3
                go_wp2_with fail
                go_meet
                exact HE1.out
              exact AllReady.nil
            exact AllReady.nil
          exact AllReady.nil
        exact AllReady.nil
      refine AllReady.cons rfl (fun K hK => ?_) ?_
      ·
        go_simp
        refine hK _ _ ?_; clear hK K
        refine wpAny_ready (rs := [4, 9]) (by kernel_rfl) (by simp) ?_
        refine AllReady.cons rfl (fun K hK => ?_) ?_
        ·
          go_simp
          refine hK _ _ ?_; clear hK K
          refine wpAny_ready (rs := [9]) (by kernel_rfl) (by simp) ?_
          refine AllReady.cons rfl (fun K hK => ?_) ?_
          ·
            go_simp
            go_wp2_with ((go_at_call 15; refine HLEN.out.mono ?_; rintro e2 w' ⟨rfl, rfl⟩))
            first | (refine hK _ _ ?_; clear hK K) | skip
            refine wpAny_take (i := 15) (v := ?_) rfl (by kernel_rfl) (by kernel_rfl) (by kernel_rfl) (fun _ _ _ h => h) (Or.inl ⟨by kernel_rfl, ?_⟩) ?_
            rotate_left 1
            · (intro w; go_simp <;> with_reducible rfl)
            go_simp
            refine wpAny_ready (rs := [16]) (by kernel_rfl) (by simp) ?_
            refine AllReady.cons rfl (fun K hK => ?_) ?_
            ·
              refine step_append_run v0 rfl _ _ 60 3 rfl (.slice q.Av s.m q.cv) (.int .i64 (m : Int)) rfl (by simp [Act.eval]; rw [IntKind.wrap_i64]; omega) (.slice A' (s.m + m) c4) v4 HRUN.out ?_
              refine hK _ _ ?_; clear hK K
              refine wpAny_take (i := 17) (v := ?_) rfl (by kernel_rfl) (by kernel_rfl) (by kernel_rfl) (fun _ _ _ h => h) (Or.inl ⟨by kernel_rfl, ?_⟩) ?_
              rotate_left 1
              · (intro w; go_simp <;> with_reducible rfl)
              go_simp
              refine wpAny_take (i := 18) (v := ?_) rfl (by kernel_rfl) (by kernel_rfl) (by kernel_rfl) (fun _ _ _ h => h) (Or.inl ⟨by kernel_rfl, ?_⟩) ?_
              rotate_left 1
              · (intro w; go_simp <;> with_reducible rfl)
              go_simp
              refine wpAny_ready (rs := [19]) (by kernel_rfl) (by simp) ?_
              refine AllReady.cons rfl (fun K hK => ?_) ?_
              ·
                go_simp
                refine hK _ _ ?_; clear hK K
                refine wpAny_done (by kernel_rfl) ?_ _
                clear c0 c2 d2 d3
                go_wp2_with fail
                go_meet
                exact HE1.out
              exact AllReady.nil
            exact AllReady.nil
          exact AllReady.nil
        refine AllReady.cons rfl (fun K hK => ?_) ?_
        ·
          go_simp
          go_wp2_with ((go_at_call 15; refine HLEN.out.mono ?_; rintro e2 w' ⟨rfl, rfl⟩))
          first | (refine hK _ _ ?_; clear hK K) | skip
          refine wpAny_take (i := 15) (v := ?_) rfl (by kernel_rfl) (by kernel_rfl) (by kernel_rfl) (fun _ _ _ h => h) (Or.inl ⟨by kernel_rfl, ?_⟩) ?_
          rotate_left 1
          · (intro w; go_simp <;> with_reducible rfl)
          go_simp
          refine wpAny_ready (rs := [4]) (by kernel_rfl) (by simp) ?_
          refine AllReady.cons rfl (fun K hK => ?_) ?_
          ·
            go_simp
            refine hK _ _ ?_; clear hK K
            refine wpAny_ready (rs := [16]) (by kernel_rfl) (by simp) ?_
            refine AllReady.cons rfl (fun K hK => ?_) ?_
            ·
              refine step_append_run v0 rfl _ _ 60 3 rfl (.slice q.Av s.m q.cv) (.int .i64 (m : Int)) rfl (by simp [Act.eval]; rw [IntKind.wrap_i64]; omega) (.slice A' (s.m + m) c4) v4 HRUN.out ?_
              refine hK _ _ ?_; clear hK K
              refine wpAny_take (i := 17) (v := ?_) rfl (by kernel_rfl) (by kernel_rfl) (by kernel_rfl) (fun _ _ _ h => h) (Or.inl ⟨by kernel_rfl, ?_⟩) ?_
              rotate_left 1
              · (intro w; go_simp <;> with_reducible rfl)
              go_simp
              refine wpAny_take (i := 18) (v := ?_) rfl (by kernel_rfl) (by kernel_rfl) (by kernel_rfl) (fun _ _ _ h => h) (Or.inl ⟨by kernel_rfl, ?_⟩) ?_
              rotate_left 1
              · (intro w; go_simp <;> with_reducible rfl)
              go_simp
              refine wpAny_ready (rs := [19]) (by kernel_rfl) (by simp) ?_
              refine AllReady.cons rfl (fun K hK => ?_) ?_
              ·
                go_simp
                refine hK _ _ ?_; clear hK K
                refine wpAny_done (by kernel_rfl) ?_ _
                clear c0 c2 d2 d3
                go_wp2_with fail
                go_meet
                exact HE1.out
              exact AllReady.nil
            exact AllReady.nil
          exact AllReady.nil
        exact AllReady.nil
      exact AllReady.nil
    exact AllReady.nil
  case rest =>
  have HP0 : Hid (NamP w q s gs.length D 0 wc) := hcut
  clear hcut HE1 HRUN HLEN HV0 c0 c2 d2 d3
  go_wp2_with fail
  go_loopw [27, 4, 5] (fun v _ _ wr => ∃ i : Nat, v = .int .i64 (i : Int) ∧ i ≤ D.length ∧ Hid (NamP w q s gs.length D i wr)) (fun v _ _ _ => D.length - (intOf v).toNat)
  case atStart => exact ⟨0, rfl, Nat.zero_le _, HP0⟩
  case round =>
    clear HP0
    obtain ⟨i, rfl, hi, HP⟩ := hrel
    by_cases hlt : i < D.length
    · have ti : decide ((i : Int) < (D.length : Int)) = true := decide_eq_true (by omega)
      have ti2 : decide (i < D.length) = true := decide_eq_true hlt
      have ti3 : decide ((D.length : Int) ≤ (i : Int)) = false := decide_eq_false (by omega)
      have ti4 : decide (D.length ≤ i) = false := decide_eq_false (by omega)
      obtain ⟨q1, h1, t1⟩ := HP.out
      obtain ⟨b, o, rfl, hb, hc⟩ := HA.out.get hlt
      have hc' : wr.cell? ⟨b, o + i, none⟩ = some (.int .i64 ((D.getD i 0 : Nat) : Int)) := (World.cell?_of_block (t1.other hb (HAO.out b ((onB_some _ _).2 rfl))).1).trans hc
      have hDi : D.getD i 0 < gs.length := HDD.out _ (ngetD hlt)
      obtain ⟨_, _, y2, _, y4, _⟩ := h1.cells
      obtain ⟨gv, hAv, hrv⟩ := h1.vs.1.row (show 0 < gs.length by omega)
      obtain ⟨gp, op, hAs, y3⟩ := h1.sp.1.get (j := i) (show i < s.S.length by rw [HSE.out, upN_len]; exact hlt)
      have e3 : numF .i32 s.S i = .int .i32 ((s.K.length + 1 + i : Nat) : Int) := by unfold numF; rw [HSE.out, upN_get hlt]
      have z3 : wr.cell? ⟨gp, op + i, none⟩ = some (.int .i32 ((s.K.length + 1 + i : Nat) : Int)) := by rw [← e3]; exact y3
      have z2 : wr.cell? ⟨q1.bk, 2, none⟩ = some (.slice q1.Av gs.length q1.cv) := y2
      have z4 : wr.cell? ⟨q1.bk, 4, none⟩ = some (.slice q1.As s.S.length q1.cs) := y4
      rw [HSE.out, upN_len] at z4
      rw [hAs] at z4
      rw [hAv] at z2
      have z0 : wr.cell? ⟨gv, D.getD i 0, none⟩ = some (vrF (s.K ++ D.take i) (D.getD i 0)) := hrv.cell (show D.getD i 0 < gs.length * 1 by omega)
      have z1 : wr.frozen? ⟨gv, D.getD i 0, none⟩ = false := hrv.free _
      have HN2 : Hid (∀ wx, wx = wr.drew → NamP w q s gs.length D (i + 1) (wx.setCell ⟨gv, D.getD i 0, none⟩ (.int .i32 ((s.K.length + 1 + i : Nat) : Int)))) := fun wx ewx => by
        have hbx : Below wr.heap.size wr wx := by rw [ewx]; exact (Below.refl _ _).drew
        have h2 := h1.below hbx
        obtain ⟨p1, p2⟩ := h2.setv (K' := s.K ++ D.take (i + 1)) hAv hDi (vrF_step HND.out hlt)
        exact ⟨q1, p1, t1.trans ((KnTo.ofBelow hbx).trans p2)⟩
      rw [t1.bk] at z2 z4
      have tn : decide ((gs.length : Int) ≤ ((D.getD i 0 : Nat) : Int)) = false := decide_eq_false (by omega)
      have tn2 : decide (gs.length ≤ D.getD i 0) = false := decide_eq_false (by omega)
      generalize vrF (s.K ++ D.take i) (D.getD i 0) = vo at *
      have hvn : s.K.length + 1 + i ≤ 190000 := by omega
      generalize s.K.length + 1 + i = vn at *
      clear h1 t1 hc hb hrv hAv hAs e3 y2 y3 y4
      generalize D.getD i 0 = n at *
      generalize gs.length = gl at *
      generalize D.length = dl at *
      go_upto_region 4 with (fail)
      refine wp_region_any (by kernel_rfl) ?_
      change wpAny _ _ _ _ _ _ _ (World.drew _)
      obtain ⟨wx, hwx⟩ : ∃ wx, wx = wr.drew := ⟨_, rfl⟩
      have HN3 := Lib.hid (HN2.out wx hwx)
      replace z0 : wx.cell? ⟨gv, n, none⟩ = some vo := by rw [hwx]; exact z0
      replace z1 : wx.frozen? ⟨gv, n, none⟩ = false := by rw [hwx]; exact z1
      replace z2 : wx.cell? ⟨q.bk, 2, none⟩ = some (.slice (some ⟨gv, 0, none⟩) gl q1.cv) := by rw [hwx]; exact z2
      replace z3 : wx.cell? ⟨gp, op + i, none⟩ = some (.int .i32 (vn : Int)) := by rw [hwx]; exact z3
      replace z4 : wx.cell? ⟨q.bk, 4, none⟩ = some (.slice (some ⟨gp, op, none⟩) dl q1.cs) := by rw [hwx]; exact z4
      rw [← hwx]
      clear hwx HN2 hc'
      refine wpAny_take (i := 0) (v := ?_) rfl (by kernel_rfl) (by kernel_rfl) (by kernel_rfl) (fun _ _ _ h => h) (Or.inl ⟨by kernel_rfl, ?_⟩) ?_
      rotate_left 1
      · (intro w; go_simp <;> with_reducible rfl)
      go_simp
      refine wpAny_take (i := 1) (v := ?_) rfl (by kernel_rfl) (by kernel_rfl) (by kernel_rfl) (fun _ _ _ h => h) (Or.inl ⟨by kernel_rfl, ?_⟩) ?_
      rotate_left 1
      · (intro w; go_simp <;> with_reducible rfl)
      go_simp
      refine wpAny_take (i := 2) (v := ?_) rfl (by kernel_rfl) (by kernel_rfl) (by kernel_rfl) (fun _ _ _ h => h) (Or.inl ⟨by kernel_rfl, ?_⟩) ?_
      rotate_left 1
      · (intro w; go_simp <;> with_reducible rfl)
      go_simp
      refine wpAny_take (i := 4) (v := ?_) rfl (by kernel_rfl) (by kernel_rfl) (by kernel_rfl) (fun _ _ _ h => h) (Or.inl ⟨by kernel_rfl, ?_⟩) ?_
      rotate_left 1
      · (intro w; go_simp <;> with_reducible rfl)
      go_simp
      refine wpAny_take (i := 5) (v := ?_) rfl (by kernel_rfl) (by kernel_rfl) (by kernel_rfl) (fun _ _ _ h => h) (Or.inl ⟨by kernel_rfl, ?_⟩) ?_
      rotate_left 1
      · (intro w; go_simp <;> with_reducible rfl)
      go_simp
      refine wpAny_take (i := 6) (v := ?_) rfl (by kernel_rfl) (by kernel_rfl) (by kernel_rfl) (fun _ _ _ h => h) (Or.inl ⟨by kernel_rfl, ?_⟩) ?_
      rotate_left 1
      · (intro w; go_simp <;> with_reducible rfl)
      go_simp
      refine wpAny_take (i := 7) (v := ?_) rfl (by kernel_rfl) (by kernel_rfl) (by kernel_rfl) (fun _ _ _ h => h) (Or.inl ⟨by kernel_rfl, ?_⟩) ?_
      rotate_left 1
      · (intro w; go_simp <;> with_reducible rfl)
      go_simp
      refine wpAny_take (i := 9) (v := ?_) rfl (by kernel_rfl) (by kernel_rfl) (by kernel_rfl) (fun _ _ _ h => h) (Or.inl ⟨by kernel_rfl, ?_⟩) ?_
      rotate_left 1
      · (intro w; go_simp <;> with_reducible rfl)
      go_simp
      refine wpAny_ready (rs := [3, 8]) (by kernel_rfl) (by simp) ?_
      refine AllReady.cons rfl (fun K hK => ?_) ?_
      ·
        go_simp
        refine hK _ _ ?_; clear hK K
        refine wpAny_ready (rs := [8]) (by kernel_rfl) (by simp) ?_
        refine AllReady.cons rfl (fun K hK => ?_) ?_
        ·
          go_simp
          refine hK _ _ ?_; clear hK K
          refine wpAny_ready (rs := [10]) (by kernel_rfl) (by simp) ?_
          refine AllReady.cons rfl (fun K hK => ?_) ?_
          ·
            go_simp
            refine hK _ _ ?_; clear hK K
            refine wpAny_ready (rs := [11]) (by kernel_rfl) (by simp) ?_
            refine AllReady.cons rfl (fun K hK => ?_) ?_
            ·
              go_simp
              refine hK _ _ ?_; clear hK K
              refine wpAny_ready (rs := [12]) (by kernel_rfl) (by simp) ?_
              refine AllReady.cons rfl (fun K hK => ?_) ?_
              ·
                go_simp
                refine hK _ _ ?_; clear hK K
                refine wpAny_ready (rs := [13]) (by kernel_rfl) (by simp) ?_
                refine AllReady.cons rfl (fun K hK => ?_) ?_
                ·
                  go_simp
                  refine hK _ _ ?_; clear hK K
                  refine wpAny_done (by kernel_rfl) ?_ _
                  clear z0 z1 z2 z3 z4
                  go_wp2_with fail
                  go_roundw
                  case rel => exact ⟨i + 1, by go_num, by omega, HN3⟩
                  case measure => simp [intOf]; omega
                exact AllReady.nil
              exact AllReady.nil
            exact AllReady.nil
          exact AllReady.nil
        exact AllReady.nil
      refine AllReady.cons rfl (fun K hK => ?_) ?_
      ·
        go_simp
        refine hK _ _ ?_; clear hK K
        refine wpAny_ready (rs := [3, 10]) (by kernel_rfl) (by simp) ?_
        refine AllReady.cons rfl (fun K hK => ?_) ?_
        ·
          go_simp
          refine hK _ _ ?_; clear hK K
          refine wpAny_ready (rs := [10]) (by kernel_rfl) (by simp) ?_
          refine AllReady.cons rfl (fun K hK => ?_) ?_
          ·
            go_simp
            refine hK _ _ ?_; clear hK K
            refine wpAny_ready (rs := [11]) (by kernel_rfl) (by simp) ?_
            refine AllReady.cons rfl (fun K hK => ?_) ?_
            ·
              go_simp
              refine hK _ _ ?_; clear hK K
              refine wpAny_ready (rs := [12]) (by kernel_rfl) (by simp) ?_
              refine AllReady.cons rfl (fun K hK => ?_) ?_
              ·
                go_simp
                refine hK _ _ ?_; clear hK K
                refine wpAny_ready (rs := [13]) (by kernel_rfl) (by simp) ?_
                refine AllReady.cons rfl (fun K hK => ?_) ?_
                ·
                  go_simp
                  refine hK _ _ ?_; clear hK K
                  refine wpAny_done (by kernel_rfl) ?_ _
                  clear z0 z1 z2 z3 z4
                  go_wp2_with fail
                  go_roundw
                  case rel => exact ⟨i + 1, by go_num, by omega, HN3⟩
                  case measure => simp [intOf]; omega
                exact AllReady.nil
              exact AllReady.nil
            exact AllReady.nil
          exact AllReady.nil
        refine AllReady.cons rfl (fun K hK => ?_) ?_
        ·
          go_simp
          refine hK _ _ ?_; clear hK K
          refine wpAny_ready (rs := [3, 11]) (by kernel_rfl) (by simp) ?_
          refine AllReady.cons rfl (fun K hK => ?_) ?_
          ·
            go_simp
            refine hK _ _ ?_; clear hK K
            refine wpAny_ready (rs := [11]) (by kernel_rfl) (by simp) ?_
            refine AllReady.cons rfl (fun K hK => ?_) ?_
            ·
              go_simp
              refine hK _ _ ?_; clear hK K
              refine wpAny_ready (rs := [12]) (by kernel_rfl) (by simp) ?_
              refine AllReady.cons rfl (fun K hK => ?_) ?_
              ·
                go_simp
                refine hK _ _ ?_; clear hK K
                refine wpAny_ready (rs := [13]) (by kernel_rfl) (by simp) ?_
                refine AllReady.cons rfl (fun K hK => ?_) ?_
                ·
                  go_simp
                  refine hK _ _ ?_; clear hK K
                  refine wpAny_done (by kernel_rfl) ?_ _
                  clear z0 z1 z2 z3 z4
                  go_wp2_with fail
                  go_roundw
                  case rel => exact ⟨i + 1, by go_num, by omega, HN3⟩
                  case measure => simp [intOf]; omega
                exact AllReady.nil
              exact AllReady.nil
            exact AllReady.nil
          refine AllReady.cons rfl (fun K hK => ?_) ?_
          ·
            go_simp
            refine hK _ _ ?_; clear hK K
            refine wpAny_ready (rs := [3]) (by kernel_rfl) (by simp) ?_
            refine AllReady.cons rfl (fun K hK => ?_) ?_
            ·
              go_simp
              refine hK _ _ ?_; clear hK K
              refine wpAny_ready (rs := [12]) (by kernel_rfl) (by simp) ?_
              refine AllReady.cons rfl (fun K hK => ?_) ?_
              ·
                go_simp
                refine hK _ _ ?_; clear hK K
                refine wpAny_ready (rs := [13]) (by kernel_rfl) (by simp) ?_
                refine AllReady.cons rfl (fun K hK => ?_) ?_
                ·
                  go_simp
                  refine hK _ _ ?_; clear hK K
                  refine wpAny_done (by kernel_rfl) ?_ _
                  clear z0 z1 z2 z3 z4
                  go_wp2_with fail
                  go_roundw
                  case rel => exact ⟨i + 1, by go_num, by omega, HN3⟩
                  case measure => simp [intOf]; omega
                exact AllReady.nil
              exact AllReady.nil
            exact AllReady.nil
          exact AllReady.nil
        exact AllReady.nil
      exact AllReady.nil
    · obtain rfl : i = D.length := by omega
      obtain ⟨q1, h1, t1⟩ := HP.out
      rw [List.take_length] at h1
      obtain ⟨_, _, _, y3, y4, cf⟩ := h1.cells
      have z3 : wr.cell? ⟨q1.bk, 3, none⟩ = some (.int .i64 (s.kn : Int)) := y3
      have z4 : wr.cell? ⟨q1.bk, 4, none⟩ = some (.slice q1.As s.S.length q1.cs) := y4
      have f3 := cf 3
      have f4 := cf 4
      rw [HSE.out, upN_len] at z4
      have hsl : SlO 38 wr q1.As D.length q1.cs (numF .i32 s.S) := by
        have := h1.sp.1
        rw [show ({ s with m := gs.length, K := s.K ++ D } : KnS).S.length = D.length by rw [show ({ s with m := gs.length, K := s.K ++ D } : KnS).S = s.S from rfl, HSE.out, upN_len]] at this
        exact this
      obtain ⟨hdr, hdo⟩ := hsl.dropped (Nat.le_refl D.length)
      rw [Nat.sub_self] at hdr
      have hcd := hsl.bd
      have HE : Hid (∀ A2 c2, A2 = (if q1.cs = D.length then q1.As else q1.As.map (·.add D.length)) → c2 = q1.cs - D.length → ∀ z : Int, z = (s.kn : Int) + (D.length : Int) →
          NamTo w q s gs.length D ((wr.setCell ⟨q1.bk, 4, none⟩ (.slice A2 0 c2)).setCell ⟨q1.bk, 3, none⟩ (.int .i64 z))) := fun A2 c2 e1 e2 z e3 => by
        rw [← e1, ← e2] at hdr
        rw [← e1] at hdo
        have hso : SlO 38 (wr.setCell ⟨q1.bk, 4, none⟩ (.slice A2 0 c2)) A2 0 c2 (numF .i32 []) := (hdr.same fun k hk => Below.heap_setCell _ _ _ _ (fun e => by have := h1.sp.2 k (hdo k hk); rw [e, h1.ok] at this; cases this)).congr fun j hj => by omega
        have hvs : SlV 38 1 (wr.setCell ⟨q1.bk, 4, none⟩ (.slice A2 0 c2)) q1.Av gs.length q1.cv (vrF (s.K ++ D)) := h1.vs.1.other (fun e => by have := h1.vs.2 _ e; rw [h1.ok] at this; cases this) _
        obtain ⟨k1, u1⟩ := h1.setk (q' := { q1 with As := A2, cs := c2 }) (s' := { s with m := gs.length, K := s.K ++ D, S := [] }) 4 (.slice A2 0 c2) rfl rfl rfl (by unfold KnC.kV; simp) rfl ⟨hvs, h1.vs.2⟩ ⟨hso, fun k hk => h1.sp.2 k (hdo k hk)⟩ rfl rfl rfl
        obtain ⟨k2, u2⟩ := k1.setk (q' := { q1 with As := A2, cs := c2 }) (s' := { s with m := gs.length, K := s.K ++ D, S := [], kn := s.kn + D.length }) 3 (.int .i64 z) rfl rfl rfl (by unfold KnC.kV; simp [e3]) rfl
          ⟨k1.vs.1.other (fun e => by have := k1.vs.2 _ e; rw [k1.ok] at this; cases this) _, k1.vs.2⟩ ⟨k1.sp.1.same fun k hk => Below.heap_setCell _ _ _ _ (fun e => by have := k1.sp.2 k hk; rw [e, k1.ok] at this; cases this), k1.sp.2⟩ rfl rfl rfl
        exact ⟨_, k2, t1.trans (u1.trans u2)⟩
      have hbk := t1.bk
      have hform : q1.cs = D.length ∨ ∃ g o, q1.As = some ⟨g, o, none⟩ := by
        rcases hsl with ⟨_, e1, e2⟩ | ⟨g, o, cur, e, _⟩
        · exact .inl (by omega)
        · exact .inr ⟨g, o, e⟩
      rw [hbk] at z3 z4 f3 f4 HE
      have HSL := Lib.hid hsl
      have HFO := Lib.hid hform
      have ti : decide ((D.length : Int) < (D.length : Int)) = false := decide_eq_false (by omega)
      have ti2 : decide (D.length < D.length) = false := decide_eq_false (by omega)
      generalize hA1 : q1.As = A1 at *
      generalize q1.cs = c1 at *
      clear h1 t1 cf y3 y4 hdr hdo hbk hA1 HSE HP hsl hform HA HDD HND HGL
      generalize D.length = dl at *
      by_cases ec : c1 = dl
      · subst ec
        clear HFO HSL
        have HE2 := Lib.hid (HE.out A1 0 (by rw [if_pos rfl]) (by omega))
        clear HE
        go_wp2_with fail
        go_end0
        exact ⟨rfl, HE2.out _ (by omega)⟩
      · obtain ⟨g, o, rfl⟩ : ∃ g o, A1 = some ⟨g, o, none⟩ := HFO.out.resolve_left ec
        have HE2 := Lib.hid (HE.out (some ⟨g, o + dl, none⟩) (c1 - dl) (by rw [if_neg ec, Option.map_some]; unfold Addr.add; split <;> simp_all) rfl)
        have hcd2 : dl < c1 := by omega
        clear HE HFO HSL
        go_wp2_with fail
        go_end0
        exact ⟨rfl, HE2.out _ (by omega)⟩
end
end Go.Proofs.Ytmiifhclcknhdaa
