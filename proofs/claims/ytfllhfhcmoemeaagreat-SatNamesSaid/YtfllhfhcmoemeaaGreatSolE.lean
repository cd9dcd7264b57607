/- A search's decide, where the first literal that is assumed is false: the contract. -/
import Derived.Test.YtfllhfhcmoemeaaGreatSolD
namespace Go.Proofs.YtfllhfhcmoemeaaGreat
open Go.Shelf Go.RowKit Go.Lib Go.Sort LitM TrailM EngM

section
variable {B bs bh n cp : Nat} {w0 w w' : World} {c : SolC} {S S' : Eng} {q q' : Pm} {F : Nat → Prop} {sc : Nat → Int} {wt : Nat → Bool} {vs : List Bool} {A : Option Addr} {ak bud bef : Int}
/-- What blame answers where nothing was decided: the literal that is false, alone. -/
def BlaTo (l : Int) (w : World) (e : Ending) (w' : World) : Prop :=
  ∃ g cc, e = .returned (.slice (some ⟨g, 0, none⟩) 1 cc) ∧ Rd .i32 w' w'.heap.size (some ⟨g, 0, none⟩) 1 [l] ∧ w.heap.size ≤ g ∧ Below w.heap.size w w'
/-- What decide leaves where the first literal that is assumed is false. -/
def NoTo (B : Nat) (w0 : World) (bs : Nat) (c : SolC) (S : Eng) (q : Pm) (F : Nat → Prop) (sc : Nat → Int) (wt : Nat → Bool) (vs : List Bool) (l : Int) (w' : World) : Prop :=
  ∃ g cc lv, Sol B w0 w' bs { c with core := .slice (some ⟨g, 0, none⟩) 1 cc, con := true, many := c.many + 1, log := lv } S q F sc wt vs ∧ Rd .i32 w' w'.heap.size (some ⟨g, 0, none⟩) 1 [l] ∧ g ≠ bs
theorem sno_fin {g cc : Nat} {l : Int} (h : Srch B w0 w bs bh c S q F sc wt vs A n cp 0 bud bef) (l0 : -2147483648 ≤ l) (l1 : l ≤ 2147483647) (hcon : c.con = false) (hlog : c.log = .slice none 0 0) (hm0 : 0 ≤ c.many) (hm1 : c.many ≤ 2000000) (hr : Rd .i32 w w.heap.size (some ⟨g, 0, none⟩) 1 [l]) (hgb : g ≠ bs) :
    Calls Tryz.prog 75 #[.pointer (some ⟨bs, 0, none⟩), .slice (some ⟨g, 0, none⟩) 1 cc] w fun e w' => e = .returned (.tuple #[]) ∧ NoTo B w0 bs c S q F sc wt vs l w' := by
  refine (sconclude_new h.s hcon hlog hm0 hm1 (some ⟨g, 0, none⟩) 1 cc [l] hr (In32.of (by simpa using And.intro l0 l1)) (by omega) (fun e => by rw [onB_some] at e; exact hgb e.symm)).mono ?_
  rintro e w6 ⟨he, ⟨lv, hS6⟩, hk6⟩
  refine ⟨he, g, cc, lv, hS6, ⟨hr.len, fun h0 => ?_⟩, hgb⟩
  obtain ⟨g', o', e', hg', hc'⟩ := hr.at_ h0
  have hg2 : g' = g := by injection e' with e'; injection e' with e'; exact e'.symm
  refine ⟨g', o', e', Nat.lt_of_lt_of_le hg' hk6.size, fun j hj => ?_⟩
  rw [hk6.cell (p := ⟨g', o' + j, none⟩) hg' (by show ¬ g' = bs; rw [hg2]; exact hgb)]
  exact hc' j hj
set_option maxHeartbeats 12800000 in
set_option maxRecDepth 100000 in
theorem sdecide_no (h : Srch B w0 w bs bh c S q F sc wt vs A n cp 0 bud bef) (hn : 0 < n) (hm : n ≤ 10000) (xs : List Int) (l : Int) (hr : Rd .i32 w w.heap.size A n xs) (hx : xs.getD 0 0 = l) (l0 : -2147483648 ≤ l) (l1 : l ≤ 2147483647) (hv : valZ S.L l = -1)
    (hbl : ∀ W, Srch B w0 W bs bh c S q F sc wt vs A n cp 0 bud bef → Calls Tryz.prog 81 #[.pointer (some ⟨bh, 0, none⟩), .int .i32 l] W (BlaTo l W)) (hcon : c.con = false) (hlog : c.log = .slice none 0 0) (hm0 : 0 ≤ c.many) (hm1 : c.many ≤ 2000000) :
    Calls Tryz.prog 52 #[.pointer (some ⟨bh, 0, none⟩)] w fun e w' => e = .returned (.int .i64 2) ∧ NoTo B w0 bs c S q F sc wt vs l w' := by
  have HH := Lib.hid h
  have HR := Lib.hid hr
  have HX := Lib.hid hx
  have HBL := Lib.hid hbl
  have HCON := Lib.hid hcon
  have HLOG := Lib.hid hlog
  have HV := Lib.hid hv
  obtain ⟨_, a1, a2, _⟩ := h.cells
  have tn : decide ((0 : Int) < (n : Int)) = true := decide_eq_true (by omega)
  have tn2 : decide (0 < n) = true := decide_eq_true hn
  clear h hr hx hbl hcon hlog hv
  go_enter Tryz.func52, Tryz.ntmps52
  go_wp2_with fail
  go_loopw [3] (fun _ wl => w = wl) (fun _ _ => 0)
  case atStart => rfl
  case round =>
    subst hrel
    go_upto_region 1 with (fail)
    go_quiet (fail)
    have HH := Lib.hid (HH.out.drewN nq)
    have HR := Lib.hid (HR.out.drewN nq)
    obtain ⟨w1, hw1⟩ : ∃ w1, w1 = w.drewN nq := ⟨_, rfl⟩
    rw [← hw1]
    rw [← hw1] at HH
    have HR1 : Hid (Rd .i32 w1 w1.heap.size A n xs) := by
      have hh := HR.out
      rw [hw1]; exact hh
    clear hw1 a1 a2 HR
    go_upto_region 3 with (fail)
    obtain ⟨_, a1, a2, _⟩ := HH.out.cells
    obtain ⟨g, o, hA, _, hc⟩ := HR1.out.get (show 0 < n by omega)
    rw [HX.out, Nat.add_zero] at hc
    rw [hA] at a1
    go_quiet (fail)
    have HH := Lib.hid (HH.out.drewN nq)
    obtain ⟨w2, hw2⟩ : ∃ w2, w2 = w1.drewN nq := ⟨_, rfl⟩
    rw [← hw2]
    rw [← hw2] at HH
    clear hw2 a1 a2 hc hA HR1 HX
    obtain ⟨a0, _⟩ := HH.out.cells
    obtain ⟨_, _, b2, _⟩ := HH.out.s.cells
    have be := HH.out.s.e0
    have HVl := Lib.hid (HH.out.s.eng.asks.2.1 l l0 l1)
    rw [HV.out] at HVl
    go_wp2_with fail
    refine HVl.out.mono ?_
    rintro e w' ⟨rfl, rfl⟩
    have hSd : Srch B w0 w2.drew bs bh c S q F sc wt vs A n cp 0 bud bef := HH.out.drewN 1
    have HSD := Lib.hid hSd
    have HBd := Lib.hid (HBL.out _ hSd)
    have HLL : Hid (In32 [l] ∧ bs < w2.drew.heap.size) := ⟨In32.of (by simpa using And.intro l0 l1), hSd.s.lt⟩
    clear hSd HVl HBL b2 be
    go_upto_region 6 with (fail)
    refine wp_region_any (by kernel_rfl) ?_
    change wpAny _ _ _ _ _ _ _ (World.drew _)
    refine wpAny_take (i := 0) (v := ?_) rfl (by kernel_rfl) (by kernel_rfl) (by kernel_rfl) (fun _ _ _ h => h) (Or.inl ⟨by kernel_rfl, ?_⟩) ?_
    rotate_left 1
    · (intro w; go_simp <;> with_reducible rfl)
    go_simp
    refine wpAny_take (i := 1) (v := ?_) rfl (by kernel_rfl) (by kernel_rfl) (by kernel_rfl) (fun _ _ _ h => h) (Or.inl ⟨by kernel_rfl, ?_⟩) ?_
    rotate_left 1
    · (intro w; go_simp <;> with_reducible rfl)
    go_simp
    refine wpAny_take (i := 2) (v := ?_) rfl (by kernel_rfl) (by kernel_rfl) (by kernel_rfl) (fun _ _ _ h => h) (Or.inl ⟨by kernel_rfl, ?_⟩) ?_
    rotate_left 1
    · (intro w; go_simp <;> with_reducible rfl)
    go_simp
    refine wpAny_take (i := 4) (v := ?_) rfl (by kernel_rfl) (by kernel_rfl) (by kernel_rfl) (fun _ _ _ h => h) (Or.inl ⟨by kernel_rfl, ?_⟩) ?_
    rotate_left 1
    · (intro w; go_simp <;> with_reducible rfl)
    go_simp
    refine wpAny_take (i := 5) (v := ?_) rfl (by kernel_rfl) (by kernel_rfl) (by kernel_rfl) (fun _ _ _ h => h) (Or.inl ⟨by kernel_rfl, ?_⟩) ?_
    rotate_left 1
    · (intro w; go_simp <;> with_reducible rfl)
    go_simp
    refine wpAny_ready (rs := [3, 6]) (by kernel_rfl) (by simp) ?_
    refine AllReady.cons rfl (fun K hK => ?_) ?_
    ·
      go_simp
      refine hK _ _ ?_; clear hK K
      refine wpAny_ready (rs := [6]) (by kernel_rfl) (by simp) ?_
      refine AllReady.cons rfl (fun K hK => ?_) ?_
      ·
        go_simp
        go_wp2_with ((go_at_call 81; refine HBd.out.mono ?_; rintro e w5 ⟨g5, cc, rfl, hr5, hg5, hb5⟩; have hS5 := HSD.out.below hb5; obtain ⟨x0, _⟩ := hS5.cells; have hgb : g5 ≠ bs := by { have := HLL.out.2; omega }; have HCl := Lib.hid (sno_fin (cc := cc) hS5 l0 l1 HCON.out HLOG.out hm0 hm1 hr5 hgb); clear hr5 hg5 hb5 hS5 hgb))
        first | (refine hK _ _ ?_; clear hK K) | skip
        refine wpAny_ready (rs := [7]) (by kernel_rfl) (by simp) ?_
        refine AllReady.cons rfl (fun K hK => ?_) ?_
        ·
          go_simp
          go_wp2_with ((go_at_call 75; refine HCl.out.mono ?_; rintro e w6 ⟨rfl, hfin⟩; have HFIN := Lib.hid hfin; clear hfin))
          first | (refine hK _ _ ?_; clear hK K) | skip
          refine wpAny_done (by kernel_rfl) ?_ _
          go_wp2_with fail; go_ret; exact ⟨rfl, HFIN.out⟩
        exact AllReady.nil
      exact AllReady.nil
    refine AllReady.cons rfl (fun K hK => ?_) ?_
    ·
      go_simp
      go_wp2_with ((go_at_call 81; refine HBd.out.mono ?_; rintro e w5 ⟨g5, cc, rfl, hr5, hg5, hb5⟩; have hS5 := HSD.out.below hb5; obtain ⟨x0, _⟩ := hS5.cells; have hgb : g5 ≠ bs := by { have := HLL.out.2; omega }; have HCl := Lib.hid (sno_fin (cc := cc) hS5 l0 l1 HCON.out HLOG.out hm0 hm1 hr5 hgb); clear hr5 hg5 hb5 hS5 hgb))
      first | (refine hK _ _ ?_; clear hK K) | skip
      refine wpAny_ready (rs := [3]) (by kernel_rfl) (by simp) ?_
      refine AllReady.cons rfl (fun K hK => ?_) ?_
      ·
        go_simp
        refine hK _ _ ?_; clear hK K
        refine wpAny_ready (rs := [7]) (by kernel_rfl) (by simp) ?_
        refine AllReady.cons rfl (fun K hK => ?_) ?_
        ·
          go_simp
          go_wp2_with ((go_at_call 75; refine HCl.out.mono ?_; rintro e w6 ⟨rfl, hfin⟩; have HFIN := Lib.hid hfin; clear hfin))
          first | (refine hK _ _ ?_; clear hK K) | skip
          refine wpAny_done (by kernel_rfl) ?_ _
          go_wp2_with fail; go_ret; exact ⟨rfl, HFIN.out⟩
        exact AllReady.nil
      exact AllReady.nil
    exact AllReady.nil
end
end Go.Proofs.YtfllhfhcmoemeaaGreat
