/- The contract of an engine's Propagate. -/
import Derived.Test.YtkckodpfhlpkgaaGreatEngW
import Derived.Test.YtkckodpfhlpkgaaGreatERoom
import Derived.Deep.RegionWith
namespace Go.Proofs.YtkckodpfhlpkgaaGreat
open Go.RowKit LitM TrailM EngM

theorem goF_step (k : Nat) (S : Eng) (hlt : S.vi < S.L.length) : goF (k + 1) S = if (visitF S (litA S.L S.vi)).2 = -1 then goF k { (visitF S (litA S.L S.vi)).1 with vi := S.vi + 1 } else visitF S (litA S.L S.vi) := by
  conv => lhs; unfold goF
  rw [if_pos hlt]
theorem goF_stop (k : Nat) (S : Eng) (hlt : ¬ S.vi < S.L.length) : goF k S = (S, -1) := by
  cases k with
  | zero => rfl
  | succ k => unfold goF; rw [if_neg hlt]
/-- How far it was visited is written. -/
theorem E6.setVi {w : World} {b d : Nat} {q : Pm} {S : Eng} (h : E6 w b q S d) (v : Nat) : E6 (w.setCell ⟨b, 4, none⟩ (.int .i64 (v : Int))) b q { S with vi := v } d ∧ Ext q q w (w.setCell ⟨b, 4, none⟩ (.int .i64 (v : Int))) := by
  have hc : Chg (fun o => o = .eng) q.own q.own w (w.setCell ⟨b, 4, none⟩ (.int .i64 (v : Int))) := h.chg ((Kf.refl _ _).set (.inl h.ob) _)
  refine ⟨⟨?_, h.ob, h.tr_kept hc (by simp), h.cl.kept hc (by simp), fun i hi => (h.lc i hi).kept hc (by simp), h.lo.kept hc (by simp), h.wa.kept hc (by simp), fun p hp => (h.wb p hp).kept hc (by simp), h.le.kept hc (by simp), fun k hk => (h.lb k hk).kept hc (by simp), hc.fr⟩, hc.ext (by simp) rfl rfl⟩
  rw [set_head h rfl]
  unfold headV
  simp
/-- What Propagate leaves. -/
def PropTo (w : World) (b : Nat) (q : Pm) (S : Eng) (d : Nat) (e : Ending) (w' : World) : Prop :=
  e = .returned (.int .i64 (propF S).2) ∧ ∃ q', E6 w' b q' (propF S).1 d ∧ Ext q q' w w'
set_option maxHeartbeats 6400000 in
set_option maxRecDepth 100000 in
theorem prop_any {w : World} {b : Nat} {q : Pm} {S : Eng} {d : Nat} (h : E6 w b q S d) (hI : Inv S) (hd : d = S.le.length) (hK : S.cs.length ≤ 20000) :
    Calls Tryz.prog 40 #[.pointer (some ⟨b, 0, none⟩)] w (PropTo w b q S d) := by
  have hs := hI.small
  have HRm := Lib.hid (makeRoom_any h hs.n hs.wl)
  have hIr := inv_room hI
  have hrl := room_len hI
  obtain ⟨a1, a2, _, a4⟩ := inv_sett S.lo (roomF S) hIr rfl hrl
  have HSt : Hid (∀ w2 q2, E6 w2 b q2 (roomF S) d → Calls Tryz.prog 56 #[.pointer (some ⟨b, 0, none⟩)] w2 (SettTo w2 b q2 (roomF S) d)) := fun w2 q2 h2 => settle_any h2 hIr.small hd hK (Nat.le_of_eq hrl.symm)
  obtain ⟨P, hP⟩ : ∃ P, P = propF S := ⟨_, rfl⟩
  unfold PropTo
  rw [← hP]
  unfold propF at hP
  unfold SettTo at HSt
  rw [show (roomF S).lo = S.lo from rfl] at HSt
  generalize settF S.lo (roomF S) = R at *
  have HP := Lib.hid hP
  have hR : R.2 = -1 ∨ (R.2 ≠ -1 ∧ 0 ≤ R.2 ∧ R.2 ≤ 20000) := by
    rcases a4 with ⟨e, _⟩ | ⟨id, e, hid, _⟩
    · exact .inl e
    · have := a2.cs
      have : (roomF S).cs.length = S.cs.length := rfl
      exact .inr ⟨by omega, by omega, by omega⟩
  have HA1 := Lib.hid a1
  have HA2 := Lib.hid a2
  have HD := Lib.hid hd
  have HRL : Hid (R.1.wa.length = 2 * (R.1.n + 1)) := by unfold Hid; rw [a2.wa, a2.n]; exact hrl
  have HN : Hid (R.1.n = S.n) := a2.n
  have HCS : Hid (R.1.cs.length ≤ 20000) := by have := a2.cs; have e : (roomF S).cs.length = S.cs.length := rfl; unfold Hid; omega
  have HLE : Hid (d = R.1.le.length) := by unfold Hid; rw [a2.le]; exact hd
  clear h hI hs hIr hrl a1 a2 a4 hP hd
  obtain ⟨wo, rfl⟩ : ∃ wo : World, wo = w := ⟨_, rfl⟩
  go_enter Tryz.func40, Tryz.ntmps40
  go_wp2_with fail
  refine HRm.out.mono ?_
  rintro e w1 ⟨rfl, q1, hE1, hX1⟩
  have HS1 := Lib.hid (HSt.out w1 q1 hE1)
  have HX1 := Lib.hid hX1
  clear hE1 hX1 HSt HRm
  go_wp2_with fail
  refine HS1.out.mono ?_
  rintro e w2 ⟨rfl, q2, hE2, hX2⟩
  have HE2 := Lib.hid hE2
  have HX2 := Lib.hid (HX1.out.trans hX2)
  clear hE2 hX2 HS1 HX1
  obtain ⟨R1, R2⟩ := R
  simp only at *
  rcases hR with hR | ⟨hR, hR1, hR2⟩
  · subst hR
    have HPP : Hid (P = goF (S.n + 1) R1) := by unfold Hid; rw [HP.out, if_pos rfl]
    clear HP
    go_wp2_with fail
    go_loopw [4] (fun _ wr => ∃ (k : Nat) (S' : Eng) (q' : Pm), Hid (P = goF k S') ∧ Hid (S'.n ≤ k + S'.vi) ∧ Hid (Inv S') ∧ Hid (E6 wr b q' S' d) ∧ Hid (Ext q q' wo wr) ∧ Hid (Ker R1 S')) (fun _ wr => (S.n : Nat) - (match wr.cell? ⟨b, 4, none⟩ with | some (.int _ v) => v.toNat | _ => 0))
    case atStart => exact ⟨S.n + 1, R1, q2, HPP, by have := HN.out; unfold Hid; omega, HA1, HE2, HX2, Lib.hid (Ker.refl R1)⟩
    case round =>
      obtain ⟨k, S', q', hp, hkn, hI, hE, hX, hKr⟩ := hrel
      have h0 := hE.out.h0
      have h4 := hE.out.h4
      have f4 := hE.out.free 4
      have HEr : Hid (∀ r, E6 (wr.drewN r) b q' S' d ∧ Ext q q' wo (wr.drewN r)) := fun r => ⟨hE.out.drewN r, ⟨hX.out.old, hX.out.kf.drewN r, hX.out.bt⟩⟩
      have hn9 := hI.out.small.n
      have hlen := hI.out.ok.len
      have hvl := hI.out.vi_le
      have HLn : Hid (∀ r, Calls Tryz.prog 57 #[.pointer (some ⟨q'.bt, 0, none⟩)] (wr.drewN r) fun e w' => e = .returned (.int .i64 (S'.L.length : Int)) ∧ w' = wr.drewN r) := fun r => by
        obtain ⟨F, gm, cm, ao, co, az, cz, hQ, hO, _⟩ := (HEr.out r).1.trail
        exact (tlen_nat (wr.drewN r) hQ).mono fun e w' ⟨h1, h2⟩ => ⟨h1, h2.symm⟩
      have hSn : S'.n = S.n := hKr.out.n.trans HN.out
      have HSn := Lib.hid hSn
      by_cases hlt : S'.vi < S'.L.length
      · have ti : decide ((S'.vi : Int) < (S'.L.length : Int)) = true := decide_eq_true (by omega)
        obtain ⟨k', hk'⟩ : ∃ k', k = k' + 1 := ⟨k - 1, by have := hkn.out; omega⟩
        subst hk'
        have hx : S'.L[S'.vi]? = some S'.L[S'.vi] := List.getElem?_eq_getElem hlt
        have hpre := hI.out.pre.one _ (List.getElem_mem hlt)
        have hrl' : S'.wa.length = 2 * (S'.n + 1) := by rw [hKr.out.wa, hKr.out.n]; exact HRL.out
        obtain ⟨v1, v2, v3, v4, v5⟩ := inv_visit hI.out hrl' hx
        have hsm := hI.out.small
        have hob := (one_iff _).1 hpre.1
        have hneg : notZ S'.L[S'.vi].l = -S'.L[S'.vi].l := by unfold notZ; rw [if_pos hpre.1]
        have HVi : Hid (∀ r, Calls Tryz.prog 58 #[.pointer (some ⟨b, 0, none⟩), .int .i32 S'.L[S'.vi].l] (wr.drewN r) (VisTo (wr.drewN r) b q' S' d S'.L[S'.vi].l)) := fun r =>
          visit_any (HEr.out r).1 hsm (by rw [hKr.out.le]; exact HLE.out) (by rw [hKr.out.cs]; exact HCS.out) (Nat.le_of_eq hrl'.symm) _ hpre.1 hpre.2.1 (hI.out.i2 _) (fun id hid hpr => by
            obtain ⟨i3a, i3b, i3c, i3d, _, _⟩ := hI.out.i3 _ id hid hpr
            have hidl := hsm.wa _ (wa_lt hid) id hid
            have hls := hI.out.ls hidl
            have hn1 : LitM.one (notZ S'.L[S'.vi].l) = true := by rw [hneg]; exact one_neg hpre.1
            refine ⟨i3c, i3d, ?_⟩
            rcases i3a with e | e
            · exact .inl (plc_inj hn1 (hls _ i3c).1 e)
            · exact .inr (plc_inj hn1 (hls _ i3d).1 e))
        have HAt : Hid (∀ r, Calls Tryz.prog 59 #[.pointer (some ⟨q'.bt, 0, none⟩), .int .i64 (S'.vi : Int)] (wr.drewN r) fun e w' => e = .returned (.int .i32 S'.L[S'.vi].l) ∧ w' = wr.drewN r) := fun r => by
          obtain ⟨F, gm, cm, ao, co, az, cz, hQ, hO, _⟩ := (HEr.out r).1.trail
          have := tat_nat (wr.drewN r) hQ (S'.vi : Int)
          have e : atZ' S'.L (S'.vi : Int) = S'.L[S'.vi].l := by
            unfold atZ'
            rw [if_pos (by omega), Int.toNat_natCast, litE_at _ hlt]
          rw [e] at this
          exact this.mono fun e w' ⟨h1, h2⟩ => ⟨h1, h2.symm⟩
        have HPs : Hid (P = if (visitF S' S'.L[S'.vi].l).2 = -1 then goF k' { (visitF S' S'.L[S'.vi].l).1 with vi := S'.vi + 1 } else visitF S' S'.L[S'.vi].l) := by
          unfold Hid
          rw [hp.out, goF_step k' S' hlt, litA_at hx]
        have HV5 : Hid (((visitF S' S'.L[S'.vi].l).2 = -1 ∧ Inv { (visitF S' S'.L[S'.vi].l).1 with vi := S'.vi + 1 }) ∨ ((visitF S' S'.L[S'.vi].l).2 ≠ -1)) := by
          rcases v5 with e | ⟨id, e, _⟩
          · exact .inl e
          · exact .inr (by rw [e]; omega)
        have HVn : Hid ((visitF S' S'.L[S'.vi].l).1.n = S'.n ∧ (visitF S' S'.L[S'.vi].l).1.vi = S'.vi ∧ Ker R1 (visitF S' S'.L[S'.vi].l).1) := ⟨v2.n, v3, hKr.out.trans v2⟩
        have hvb : (visitF S' S'.L[S'.vi].l).2 = -1 ∨ 0 ≤ (visitF S' S'.L[S'.vi].l).2 := by
          rcases v5 with ⟨e, _⟩ | ⟨id, e, _⟩
          · exact .inl e
          · exact .inr (by omega)
        unfold VisTo at HVi
        clear v1 v2 v3 v4 v5 hsm hneg hpre hrl' hp hI hE hX hKr hx
        generalize S'.L[S'.vi].l = x at *
        generalize visitF S' x = V at *
        obtain ⟨V1, V2⟩ := V
        simp only at *
        go_upto_region 5 with (fail)
        go_quiet ((go_at_call 57; exact Calls.quiet_of_same (HLn.out _)))
        have hlr : S'.L.length ≤ S.n := by omega
        go_upto_region 6 with (fail)
        go_cut [4] (fun v wx => v = .int .i64 V2 ∧ Hid (∃ q3, E6 wx b q3 V1 d ∧ Ext q q3 wo wx))
        case first =>
          refine wp_region_any (by kernel_rfl) ?_
          change wpAny _ _ _ _ _ _ _ (World.drew _)
          refine wpAny_take (i := 0) (v := ?_) rfl (by kernel_rfl) (by kernel_rfl) (by kernel_rfl) (fun _ _ _ h => h) (Or.inl ⟨by kernel_rfl, ?_⟩) ?_
          rotate_left 1
          · (intro w; go_simp <;> with_reducible rfl)
          go_simp
          refine wpAny_take (i := 1) (v := ?_) rfl (by kernel_rfl) (by kernel_rfl) (by kernel_rfl) (fun _ _ _ h => h) (Or.inl ⟨by kernel_rfl, ?_⟩) ?_
          rotate_left 1
          · (intro w; go_simp <;> with_reducible rfl)
          go_simp
          refine wpAny_take (i := 2) (v := ?_) rfl (by kernel_rfl) (by kernel_rfl) (by kernel_rfl) (fun _ _ _ h => h) (Or.inl ⟨by kernel_rfl, ?_⟩) ?_
          rotate_left 1
          · (intro w; go_simp <;> with_reducible rfl)
          go_simp
          refine wpAny_take (i := 3) (v := ?_) rfl (by kernel_rfl) (by kernel_rfl) (by kernel_rfl) (fun _ _ _ h => h) (Or.inl ⟨by kernel_rfl, ?_⟩) ?_
          rotate_left 1
          · (intro w; go_simp <;> with_reducible rfl)
          go_simp
          refine wpAny_take (i := 5) (v := ?_) rfl (by kernel_rfl) (by kernel_rfl) (by kernel_rfl) (fun _ _ _ h => h) (Or.inl ⟨by kernel_rfl, ?_⟩) ?_
          rotate_left 1
          · (intro w; go_simp <;> with_reducible rfl)
          go_simp
          refine wpAny_take (i := 6) (v := ?_) rfl (by kernel_rfl) (by kernel_rfl) (by kernel_rfl) (fun _ _ _ h => h) (Or.inl ⟨by kernel_rfl, ?_⟩) ?_
          rotate_left 1
          · (intro w; go_simp <;> with_reducible rfl)
          go_simp
          refine wpAny_take (i := 7) (v := ?_) rfl (by kernel_rfl) (by kernel_rfl) (by kernel_rfl) (fun _ _ _ h => h) (Or.inl ⟨by kernel_rfl, ?_⟩) ?_
          rotate_left 1
          · (intro w; go_simp <;> with_reducible rfl)
          go_simp
          refine wpAny_ready (rs := [4, 8]) (by kernel_rfl) (by simp) ?_
          refine AllReady.cons rfl (fun K hK => ?_) ?_
          ·
            go_simp
            refine hK _ _ ?_; clear hK K
            refine wpAny_ready (rs := [8]) (by kernel_rfl) (by simp) ?_
            refine AllReady.cons rfl (fun K hK => ?_) ?_
            ·
              go_simp
              refine hK _ _ ?_; clear hK K
              refine wpAny_ready (rs := [9]) (by kernel_rfl) (by simp) ?_
              refine AllReady.cons rfl (fun K hK => ?_) ?_
              ·
                go_simp
                go_wp2_with ((go_at_call 59; refine (HAt.out (nq + 1)).mono ?_; rintro e w' ⟨rfl, rfl⟩))
                first | (refine hK _ _ ?_; clear hK K) | skip
                refine wpAny_ready (rs := [10]) (by kernel_rfl) (by simp) ?_
                refine AllReady.cons rfl (fun K hK => ?_) ?_
                ·
                  go_simp
                  go_wp2_with ((go_at_call 58; refine (HVi.out (nq + 1)).mono ?_; rintro e w3 ⟨rfl, q3, hE3, hX3⟩; have HF3 := Lib.hid (show _ ∧ _ from ⟨hE3, hX3⟩); clear hE3 hX3))
                  first | (refine hK _ _ ?_; clear hK K) | skip
                  refine wpAny_take (i := 11) (v := ?_) rfl (by kernel_rfl) (by kernel_rfl) (by kernel_rfl) (fun _ _ _ h => h) (Or.inl ⟨by kernel_rfl, ?_⟩) ?_
                  rotate_left 1
                  · (intro w; go_simp <;> with_reducible rfl)
                  go_simp
                  refine wpAny_done (by kernel_rfl) ?_ _
                  go_wp2_with fail; go_meet; exact ⟨rfl, q3, HF3.out.1, (HEr.out (nq + 1)).2.trans HF3.out.2⟩
                exact AllReady.nil
              exact AllReady.nil
            exact AllReady.nil
          refine AllReady.cons rfl (fun K hK => ?_) ?_
          ·
            go_simp
            refine hK _ _ ?_; clear hK K
            refine wpAny_ready (rs := [4]) (by kernel_rfl) (by simp) ?_
            refine AllReady.cons rfl (fun K hK => ?_) ?_
            ·
              go_simp
              refine hK _ _ ?_; clear hK K
              refine wpAny_ready (rs := [9]) (by kernel_rfl) (by simp) ?_
              refine AllReady.cons rfl (fun K hK => ?_) ?_
              ·
                go_simp
                go_wp2_with ((go_at_call 59; refine (HAt.out (nq + 1)).mono ?_; rintro e w' ⟨rfl, rfl⟩))
                first | (refine hK _ _ ?_; clear hK K) | skip
                refine wpAny_ready (rs := [10]) (by kernel_rfl) (by simp) ?_
                refine AllReady.cons rfl (fun K hK => ?_) ?_
                ·
                  go_simp
                  go_wp2_with ((go_at_call 58; refine (HVi.out (nq + 1)).mono ?_; rintro e w3 ⟨rfl, q3, hE3, hX3⟩; have HF3 := Lib.hid (show _ ∧ _ from ⟨hE3, hX3⟩); clear hE3 hX3))
                  first | (refine hK _ _ ?_; clear hK K) | skip
                  refine wpAny_take (i := 11) (v := ?_) rfl (by kernel_rfl) (by kernel_rfl) (by kernel_rfl) (fun _ _ _ h => h) (Or.inl ⟨by kernel_rfl, ?_⟩) ?_
                  rotate_left 1
                  · (intro w; go_simp <;> with_reducible rfl)
                  go_simp
                  refine wpAny_done (by kernel_rfl) ?_ _
                  go_wp2_with fail; go_meet; exact ⟨rfl, q3, HF3.out.1, (HEr.out (nq + 1)).2.trans HF3.out.2⟩
                exact AllReady.nil
              exact AllReady.nil
            exact AllReady.nil
          exact AllReady.nil
        case rest =>
          obtain ⟨rfl, hcut⟩ := hcut
          obtain ⟨q3, hE3, hX3⟩ := hcut.out
          clear hcut
          rcases HV5.out with ⟨e1, e2⟩ | e1
          · subst e1
            have g4 := hE3.h4
            have g4f := hE3.free 4
            rw [HVn.out.2.1] at g4
            have HFN := Lib.hid (show _ ∧ _ from ⟨(hE3.setVi (S'.vi + 1)).1, hX3.trans (hE3.setVi (S'.vi + 1)).2⟩)
            have HG4 : Hid (((wc.setCell ⟨b, 4, none⟩ (.int .i64 ((S'.vi + 1 : Nat) : Int))).cell? ⟨b, 4, none⟩) = some (.int .i64 ((S'.vi + 1 : Nat) : Int))) := by
              have := HFN.out.1.h4
              exact this
            have HPs' : Hid (P = goF k' { V1 with vi := S'.vi + 1 }) := by unfold Hid; rw [HPs.out, if_pos rfl]
            have HI2 := Lib.hid e2
            rw [show ((S'.vi + 1 : Nat) : Int) = (S'.vi : Int) + 1 from by omega] at HFN HG4
            clear hE3 hX3 e2 HPs HV5
            go_wp2_with fail
            go_roundw
            case rel => exact ⟨k', { V1 with vi := S'.vi + 1 }, q3, HPs', by have := hkn.out; have := HVn.out.1; show V1.n ≤ k' + (S'.vi + 1); omega, HI2, HFN.out.1, HFN.out.2, HVn.out.2.2.trans (ker_vi _ _)⟩
            case measure =>
              rw [HG4.out, h4]
              simp only
              omega
          · have hv2 : 0 ≤ V2 := by rcases hvb with e | e; exact absurd e e1; exact e
            have tb : (V2 != -1) = true := by simpa using e1
            have hPP : P = (V1, V2) := by rw [HPs.out, if_neg e1]
            have HFN := Lib.hid (show _ ∧ _ from ⟨hE3, hX3⟩)
            subst hPP
            clear hE3 hX3 HPs HV5
            go_wp2_with fail
            go_ret
            exact ⟨rfl, q3, HFN.out.1, HFN.out.2⟩
      · have ti : decide ((S'.vi : Int) < (S'.L.length : Int)) = false := decide_eq_false (by omega)
        have hPP : P = (S', -1) := by rw [hp.out, goF_stop k S' hlt]
        subst hPP
        clear hp hI hE hX hKr
        go_upto_region 5 with (fail)
        go_quiet ((go_at_call 57; exact Calls.quiet_of_same (HLn.out _)))
        go_wp2_with fail
        go_ret
        exact ⟨rfl, q', (HEr.out _).1, (HEr.out _).2⟩
  · have tb : (R2 != -1) = true := by simpa using hR
    have hPP : P = (R1, R2) := by rw [HP.out, if_neg hR]
    subst hPP
    clear HP HA1 HA2
    go_wp2_with fail
    go_ret
    exact ⟨rfl, q2, HE2.out, HX2.out⟩
end Go.Proofs.YtkckodpfhlpkgaaGreat
