/- A search's decide, where all that waits has a value, and where the first literal that is assumed is false: contracts. -/
import Derived.Test.YtfllhfhcmoemeaaGreatSolK
import Derived.Deep.RegionWith
import Derived.Deep.LoopGhost
namespace Go.Proofs.YtfllhfhcmoemeaaGreat
open Go.Shelf Go.RowKit Go.Lib Go.Sort LitM TrailM EngM

theorem cntB_same {wt wt' : Nat → Bool} {n : Nat} (h : ∀ v, 1 ≤ v → v ≤ n → wt' v = wt v) : cntB wt' n = cntB wt n := by
  induction n with
  | zero => rfl
  | succ n ih => unfold cntB; rw [ih fun v h1 h2 => h v h1 (by omega), h (n + 1) (by omega) (by omega)]
theorem cntB_off {wt : Nat → Bool} {n v : Nat} (h1 : 1 ≤ v) (h2 : v ≤ n) (h : wt v = true) : cntB (HeapM.upd wt v false) n + 1 = cntB wt n := by
  induction n with
  | zero => omega
  | succ n ih =>
    unfold cntB
    by_cases e : v = n + 1
    · subst e
      rw [HeapM.upd_at, if_neg (by simp), if_pos h, cntB_same fun u _ hu => HeapM.upd_ne _ _ (by omega)]
    · have := ih (by omega)
      rw [HeapM.upd_ne _ _ (show n + 1 ≠ v by omega)]; omega
/-- A literal that has a value isn't decided. -/
theorem dec_set {S : Eng} {l : Int} (h1 : LitM.one l = true) (h2 : varZ l ≤ S.n) (h3 : valZ S.L l ≠ 0) : eErr S l = 42 ∧ decE S l = S := by
  rcases errZ_cases S.n S.L l with ⟨h, e⟩ | ⟨h, e⟩ | ⟨_, k, _, _, _, h5, e⟩
  · rcases h with h | h
    · rw [h1] at h; cases h
    · omega
  · have he : errZ S.n S.L l ≠ 0 := by
      intro e0
      unfold errZ at e0
      rw [if_neg (by rw [h1]; rintro (h | h); cases h; omega)] at e0
      unfold valZ at h3
      cases hx : findE S.L (varZ l) with
      | none => rw [hx] at h3; exact h3 rfl
      | some x => rw [hx] at e0; simp at e0
    exact ⟨by unfold eErr; rw [e]; rfl, by unfold decE; rw [if_neg he]⟩
  · unfold valZ at h3
    rw [h5] at h3
    exact absurd rfl h3
section
variable {B bs bh n cp : Nat} {w0 w w' : World} {c : SolC} {S S' : Eng} {q q' : Pm} {F : Nat → Prop} {sc : Nat → Int} {wt : Nat → Bool} {vs : List Bool} {A : Option Addr} {ak bud bef : Int}
/-- What decide leaves where all have values. -/
def YesTo (B : Nat) (w0 : World) (bs : Nat) (c : SolC) (S : Eng) (vs : List Bool) (w' : World) : Prop :=
  ∃ g q' F' sc' wt', Sol B w0 w' bs { c with mod := .slice (some ⟨g, 0, none⟩) S.n S.n } S q' F' sc' wt' vs ∧ RowV 4 1 w' g S.n S.n (boC (foundL S))
set_option maxHeartbeats 12800000 in
set_option maxRecDepth 100000 in
theorem sdecide_yes (h : Srch B w0 w bs bh c S q F sc wt vs A 0 cp 0 bud bef) (hw : ∀ v : Nat, 1 ≤ v → v ≤ S.n → wt v = true → valZ S.L (v : Int) ≠ 0 ∧ valZ S.L (-(v : Int)) ≠ 0) :
    Calls Tryz.prog 52 #[.pointer (some ⟨bh, 0, none⟩)] w fun e w' => e = .returned (.int .i64 1) ∧ YesTo B w0 bs c S vs w' := by
  have HH := Lib.hid h
  have HLN := Lib.hid h.s.ln
  have HW := Lib.hid hw
  obtain ⟨_, a1, a2, _⟩ := h.cells
  clear h hw
  go_enter Tryz.func52, Tryz.ntmps52
  go_wp2_with fail
  go_loopw [3] (fun _ wl => w = wl) (fun _ _ => 0)
  case atStart => rfl
  case round =>
    subst hrel
    go_upto_region 1 with (fail)
    go_quiet (fail)
    have HH := Lib.hid (HH.out.drewN nq)
    obtain ⟨w1, hw1⟩ : ∃ w1, w1 = w.drewN nq := ⟨_, rfl⟩
    rw [← hw1]
    rw [← hw1] at HH
    clear hw1 a1 a2
    go_wp2_with fail
    go_loopg [4, 5, 6] (cntB wt S.n) (fun gg _ _ _ wr => ∃ q' F' sc' wt', Hid (Srch B w0 wr bs bh c S q' F' sc' wt' vs A 0 cp 0 bud bef) ∧ Hid (gg = cntB wt' S.n) ∧ Hid (∀ v : Nat, 1 ≤ v → v ≤ S.n → wt' v = true → valZ S.L (v : Int) ≠ 0 ∧ valZ S.L (-(v : Int)) ≠ 0))
    case atStart => exact ⟨q, F, sc, wt, HH, Lib.hid rfl, HW⟩
    case round =>
      obtain ⟨q2, F2, sc2, wt2, hS, hg, hW2⟩ := hrel
      clear HH HW
      obtain ⟨a0, _⟩ := hS.out.cells
      obtain ⟨_, _, _, b3, _⟩ := hS.out.s.cells
      have hnn := HLN.out
      by_cases hc0 : cntB wt2 S.n = 0
      · have HP := Lib.hid (none_pops wr hS.out.s.g.rk hc0)
        clear hg hW2
        go_wp2_with fail
        refine HP.out.mono ?_
        rintro e w' ⟨rfl, rfl⟩
        have hSd : Srch B w0 wr.drew bs bh c S q2 F2 sc2 wt2 vs A 0 cp 0 bud bef := hS.out.drewN 1
        have HFo : Hid (Calls Tryz.prog 84 #[.pointer (some ⟨bh, 0, none⟩)] wr.drew fun e w' => ∃ g, e = .returned (.slice (some ⟨g, 0, none⟩) S.n S.n) ∧ RowV 4 1 w' g S.n S.n (boC (foundL S)) ∧ wr.heap.size ≤ g ∧ Below wr.drew.heap.size wr.drew w') :=
          (sfound_any hSd).mono fun e w' ⟨h1, h2, h3⟩ => ⟨_, h1, h2, Nat.le_refl _, h3⟩
        have HC2 : Hid (∀ W, Below wr.drew.heap.size wr.drew W → Srch B w0 W bs bh c S q2 F2 sc2 wt2 vs A 0 cp 0 bud bef) := fun W hW => hSd.below hW
        clear hSd HP
        go_upto_region 13 with (fail)
        refine wp_region_any (by kernel_rfl) ?_
        change wpAny _ _ _ _ _ _ _ (World.drew _)
        refine wpAny_take (i := 0) (v := ?_) rfl (by kernel_rfl) (by kernel_rfl) (by kernel_rfl) (fun _ _ _ h => h) (Or.inl ⟨by kernel_rfl, ?_⟩) ?_
        rotate_left 1
        · (intro w; go_simp <;> with_reducible rfl)
        go_simp
        refine wpAny_take (i := 1) (v := ?_) rfl (by kernel_rfl) (by kernel_rfl) (by kernel_rfl) (fun _ _ _ h => h) (Or.inl ⟨by kernel_rfl, ?_⟩) ?_
        rotate_left 1
        · (intro w; go_simp <;> with_reducible rfl)
        go_simp
        refine wpAny_take (i := 2) (v := ?_) rfl (by kernel_rfl) (by kernel_rfl) (by kernel_rfl) (fun _ _ _ h => h) (Or.inl ⟨by kernel_rfl, ?_⟩) ?_
        rotate_left 1
        · (intro w; go_simp <;> with_reducible rfl)
        go_simp
        refine wpAny_take (i := 4) (v := ?_) rfl (by kernel_rfl) (by kernel_rfl) (by kernel_rfl) (fun _ _ _ h => h) (Or.inl ⟨by kernel_rfl, ?_⟩) ?_
        rotate_left 1
        · (intro w; go_simp <;> with_reducible rfl)
        go_simp
        refine wpAny_ready (rs := [3, 5]) (by kernel_rfl) (by simp) ?_
        refine AllReady.cons rfl (fun K hK => ?_) ?_
        ·
          go_simp
          refine hK _ _ ?_; clear hK K
          refine wpAny_ready (rs := [5]) (by kernel_rfl) (by simp) ?_
          refine AllReady.cons rfl (fun K hK => ?_) ?_
          ·
            go_simp
            go_wp2_with ((go_at_call 84; refine HFo.out.mono ?_; rintro e w5 ⟨g5, rfl, hrow, hg5, hb5⟩; have hS5 := HC2.out w5 hb5; obtain ⟨x0, _⟩ := hS5.cells; obtain ⟨_, _, _, _, _, _, _, _, _, _, y10, _, yf⟩ := hS5.s.cells; have HFIN : Hid (YesTo B w0 bs c S vs (w5.setCell ⟨bs, 10, none⟩ (.slice (some ⟨g5, 0, none⟩) S.n S.n))) := ⟨g5, q2, F2, sc2, wt2, hS5.s.store rfl rfl rfl rfl rfl rfl rfl rfl, hrow.other (a := ⟨bs, 10, none⟩) (by have := hS.out.s.lt; show bs ≠ g5; omega) _⟩; clear hS5 hrow hg5 hb5))
            first | (refine hK _ _ ?_; clear hK K) | skip
            refine wpAny_take (i := 6) (v := ?_) rfl (by kernel_rfl) (by kernel_rfl) (by kernel_rfl) (fun _ _ _ h => h) (Or.inl ⟨by kernel_rfl, ?_⟩) ?_
            rotate_left 1
            · (intro w; go_simp <;> with_reducible rfl)
            go_simp
            refine wpAny_take (i := 7) (v := ?_) rfl (by kernel_rfl) (by kernel_rfl) (by kernel_rfl) (fun _ _ _ h => h) (Or.inl ⟨by kernel_rfl, ?_⟩) ?_
            rotate_left 1
            · (intro w; go_simp <;> with_reducible rfl)
            go_simp
            refine wpAny_ready (rs := [8]) (by kernel_rfl) (by simp) ?_
            refine AllReady.cons rfl (fun K hK => ?_) ?_
            ·
              go_simp
              refine hK _ _ ?_; clear hK K
              refine wpAny_done (by kernel_rfl) ?_ _
              go_wp2_with fail; go_ret; exact ⟨rfl, HFIN.out⟩
            exact AllReady.nil
          exact AllReady.nil
        refine AllReady.cons rfl (fun K hK => ?_) ?_
        ·
          go_simp
          go_wp2_with ((go_at_call 84; refine HFo.out.mono ?_; rintro e w5 ⟨g5, rfl, hrow, hg5, hb5⟩; have hS5 := HC2.out w5 hb5; obtain ⟨x0, _⟩ := hS5.cells; obtain ⟨_, _, _, _, _, _, _, _, _, _, y10, _, yf⟩ := hS5.s.cells; have HFIN : Hid (YesTo B w0 bs c S vs (w5.setCell ⟨bs, 10, none⟩ (.slice (some ⟨g5, 0, none⟩) S.n S.n))) := ⟨g5, q2, F2, sc2, wt2, hS5.s.store rfl rfl rfl rfl rfl rfl rfl rfl, hrow.other (a := ⟨bs, 10, none⟩) (by have := hS.out.s.lt; show bs ≠ g5; omega) _⟩; clear hS5 hrow hg5 hb5))
          first | (refine hK _ _ ?_; clear hK K) | skip
          refine wpAny_ready (rs := [3]) (by kernel_rfl) (by simp) ?_
          refine AllReady.cons rfl (fun K hK => ?_) ?_
          ·
            go_simp
            refine hK _ _ ?_; clear hK K
            refine wpAny_take (i := 6) (v := ?_) rfl (by kernel_rfl) (by kernel_rfl) (by kernel_rfl) (fun _ _ _ h => h) (Or.inl ⟨by kernel_rfl, ?_⟩) ?_
            rotate_left 1
            · (intro w; go_simp <;> with_reducible rfl)
            go_simp
            refine wpAny_take (i := 7) (v := ?_) rfl (by kernel_rfl) (by kernel_rfl) (by kernel_rfl) (fun _ _ _ h => h) (Or.inl ⟨by kernel_rfl, ?_⟩) ?_
            rotate_left 1
            · (intro w; go_simp <;> with_reducible rfl)
            go_simp
            refine wpAny_ready (rs := [8]) (by kernel_rfl) (by simp) ?_
            refine AllReady.cons rfl (fun K hK => ?_) ?_
            ·
              go_simp
              refine hK _ _ ?_; clear hK K
              refine wpAny_done (by kernel_rfl) ?_ _
              go_wp2_with fail; go_ret; exact ⟨rfl, HFIN.out⟩
            exact AllReady.nil
          exact AllReady.nil
        exact AllReady.nil
      · have HP := Lib.hid (one_pops wr hS.out.s.g.rk (by omega) (by omega))
        have HG := Lib.hid hg.out
        clear hg
        go_wp2_with fail
        refine HP.out.mono ?_
        rintro e w3 ⟨v, hf, rfl, hrk⟩
        obtain ⟨v1, v2, v3, _⟩ := hf
        obtain ⟨F3, hS3⟩ := hS.out.rank hrk
        obtain ⟨c0, _⟩ := hS3.cells
        obtain ⟨_, _, d2, _, _, d5, _⟩ := hS3.s.cells
        obtain ⟨gv, hvA, hrow⟩ := hS3.s.g.vr.row (by omega)
        have hcell := hrow.cell (show v - 1 < vs.length * 1 by omega)
        have hbd := hrow.bd
        obtain ⟨hbd1, hbd2⟩ := hbd
        rw [hvA] at d5
        have hval := hW2.out v v1 v2 v3
        have HVAL := Lib.hid hval
        have HN : Hid (∀ u : Nat, 1 ≤ u → u ≤ S.n → HeapM.upd wt2 v false u = true → valZ S.L (u : Int) ≠ 0 ∧ valZ S.L (-(u : Int)) ≠ 0) := fun u u1 u2 u3 => by
          by_cases e : u = v
          · rw [e]; exact HVAL.out
          · rw [HeapM.upd_ne _ _ e] at u3; exact hW2.out u u1 u2 u3
        have HCN := Lib.hid (cntB_off v1 v2 v3)
        have HNot := Lib.hid (fun V : World => not_any (v : Int) V (by omega) (by omega))
        have ho : LitM.one (v : Int) = true := (one_iff _).2 (.inl ⟨by omega, by omega⟩)
        have ho2 : LitM.one (-(v : Int)) = true := (one_iff _).2 (.inr ⟨by omega, by omega⟩)
        have hd1 := dec_set (S := S) ho (by rw [varZ_pos (by omega) (by omega)]; omega) hval.1
        have hd2 := dec_set (S := S) ho2 (by rw [varZ_neg (by omega) (by omega)]; omega) hval.2
        have HD1 := Lib.hid (hS3.s.eng.decide (v : Int) (by omega) (by omega))
        have HD2 := Lib.hid (hS3.s.eng.decide (-(v : Int)) (by omega) (by omega))
        rw [not_one ho] at HNot
        rw [hd1.1, hd1.2] at HD1
        rw [hd2.1, hd2.2] at HD2
        have HS3 := Lib.hid hS3
        have hwr : wrap32 (v : Int) = (v : Int) := by unfold wrap32; omega
        have HWR := Lib.hid hwr
        have hv1 : ((v : Int) - 1).toNat = v - 1 := by omega
        have hvb : ∀ b, vs.getD (v - 1) false = b → w3.cell? ⟨gv, v - 1, none⟩ = some (.bool b) := fun b hb => by rw [hcell]; unfold boC; rw [hb]
        clear hW2 hrk hS hS3 hcell hrow hval hd1 hd2 ho ho2 hwr hvA
        cases hb : vs.getD (v - 1) false with
        | true =>
          have hcv := hvb true hb
          clear hvb hb
          go_wp2_with fail
          refine HD1.out.mono ?_
          rintro e w5 ⟨rfl, q5, hs, hx⟩
          have HN5 := Lib.hid (HS3.out.ext hs hx rfl)
          clear hs hx hcv
          go_wp2_with fail
          go_roundg (cntB (HeapM.upd wt2 v false) S.n)
          case rel => exact ⟨q5, F3, sc2, HeapM.upd wt2 v false, HN5, Lib.hid rfl, HN⟩
          case measure => have h1 := HCN.out; have h2 := HG.out; omega
        | false =>
          have hcv := hvb false hb
          clear hvb hb
          go_wp2_with fail
          refine (HNot.out _).mono ?_
          rintro e w' ⟨rfl, rfl⟩
          go_wp2_with fail
          refine HD2.out.mono ?_
          rintro e w5 ⟨rfl, q5, hs, hx⟩
          have HN5 := Lib.hid (HS3.out.ext hs hx rfl)
          clear hs hx hcv
          go_wp2_with fail
          go_roundg (cntB (HeapM.upd wt2 v false) S.n)
          case rel => exact ⟨q5, F3, sc2, HeapM.upd wt2 v false, HN5, Lib.hid rfl, HN⟩
          case measure => have h1 := HCN.out; have h2 := HG.out; omega
end
end Go.Proofs.YtfllhfhcmoemeaaGreat
