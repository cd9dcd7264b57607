/- The contract of an engine's settle: all loose clauses are looked at. -/
import Derived.Test.YtkckodpfhlpkgaaGreatEFast
import Derived.Test.YtkckodpfhlpkgaaGreatEngS
import Derived.Test.YtkckodpfhlpkgaaGreatShelf
import Derived.Shelf.SlicesG.Delete
import Derived.Lib.RowBridge
namespace Go.Proofs.YtkckodpfhlpkgaaGreat
open Go.Shelf Go.RowKit Go.Lib Go.Sort LitM TrailM EngM

/-- A row that is put anew. -/
theorem RowV.put {T : TypeId} {w : World} {g n c : Nat} {f : Nat → Value} (h : RowV T 1 w g n c f) (m : Nat) (d : Array Int) (hd : d.size = n) :
    RowV T 1 (putRow (Value.int .i64) (Sort.ahead w m) g 0 d) g n c (fun j => .int .i64 (d[j]!)) := by
  obtain ⟨cur, hh, h1, h2, h3, h4⟩ := h
  refine ⟨putCells (Value.int .i64) 0 d cur, ?_, h1, h2, by simp [putCells, h3], fun j hj => ?_⟩
  · unfold putRow mapBlock
    simp only [Array.getElem?_modify, if_true]
    show Option.map _ (w.heap[g]?) = _
    rw [hh]; rfl
  · have := h4 j hj
    unfold putCells
    rw [Array.getElem?_mapIdx, this]
    simp only [Option.map_some]
    rw [if_pos (by omega)]; simp
theorem kf_put {w : World} {g m : Nat} (d : Array Int) : Kf (fun k => k = g) w (putRow (Value.int .i64) (Sort.ahead w m) g 0 d) := by
  refine ⟨rfl, rfl, rfl, ?_, fun k hk hne => ?_⟩
  · simp [putRow, mapBlock, Sort.ahead]
  · unfold putRow mapBlock
    simp only [Array.getElem?_modify]
    rw [if_neg (fun e => hne e.symm)]; rfl
/-- What slices.Delete of the first i leaves. -/
def DelTo (g n c i : Nat) (l : List Nat) (w : World) (e : Ending) (w' : World) : Prop :=
  e = .returned (.slice (some ⟨g, 0, none⟩) (n - i) c) ∧ RowV 3 1 w' g (n - i) c (natC (l.drop i)) ∧ Kf (fun k => k = g) w w'
theorem delete_head {w : World} {g n c i : Nat} {l : List Nat} (h : RowV 3 1 w g n c (natC l)) (hl : l.length = n) (hi : i ≤ n) :
    Calls Tryz.prog 74 #[.slice (some ⟨g, 0, none⟩) n c, .int .i64 0, .int .i64 (i : Int)] w (DelTo g n c i l w) := by
  have hc := h.bd
  have hH : Holds (Value.int .i64) w g 0 (l.map (Int.ofNat)).toArray := fun j hj => by
    have hj : j < n := by simpa [hl] using hj
    refine ⟨?_, by rw [Nat.zero_add]; exact h.free j⟩
    rw [Nat.zero_add, h.cell (show j < n * 1 by omega)]
    unfold natC
    rw [getElem!_pos _ j (by simp; omega), List.getD, List.getElem?_eq_getElem (by omega)]
    simp
  have hD := AnyG.slices_Delete_int Tryz.deleteI g 0 c 0 i (l.map Int.ofNat) w hH (by simp; omega) (by omega) (Nat.zero_le _) (by simp; omega)
  have hsz : (l.map Int.ofNat).length = n := by simp [hl]
  rw [hsz] at hD
  change Calls Tryz.prog 74 _ _ _ at hD
  refine Calls.mono hD fun e w' ⟨he, m, hw⟩ => ?_
  refine ⟨by rw [he, Nat.sub_zero], ?_, by rw [hw]; exact kf_put _⟩
  rw [hw]
  refine ((h.put m _ (by simp; omega)).less (show n - i ≤ n by omega)).congr fun j hj => ?_
  unfold natC
  have hj : j < n - i := by omega
  rw [getElem!_pos _ j (by simp; omega), List.getD, List.getElem?_drop, List.getElem?_eq_getElem (by omega)]
  simp only [Nat.sub_zero, List.take_zero, List.nil_append]
  rw [List.getElem_toArray, List.getElem_append_left (by simp; omega)]
  simp
/-- The engine's head is written: its loose ones. -/
theorem E6.setLo {w w' : World} {b d : Nat} {q : Pm} {S : Eng} (h : E6 w b q S d) {own' : Nat → Owner} {lo' : List Nat} {A' : Option Addr} {c' : Nat} (hc : Chg (fun o => o = .loose ∨ o = .eng) q.own own' w w')
    (hh : w'.heap[b]? = some (.cells (headV { q with Al := A', cl := c' } { S with lo := lo' }) 81 (0, 0))) (hp : Part w' own' .loose 3 1 A' lo'.length c' (natC lo')) :
    E6 w' b { q with own := own', Al := A', cl := c' } { S with lo := lo' } d ∧ Ext q { q with own := own', Al := A', cl := c' } w w' :=
  ⟨⟨hh, h.ob_kept hc, h.tr_kept hc (by simp), h.cl.kept hc (by simp), fun i hi => (h.lc i hi).kept hc (by simp), hp, h.wa.kept hc (by simp), fun p hp => (h.wb p hp).kept hc (by simp), h.le.kept hc (by simp), fun k hk => (h.lb k hk).kept hc (by simp), hc.fr⟩, hc.ext (by simp) rfl rfl⟩
theorem set_head2 {w : World} {b : Nat} {q : Pm} {S : Eng} {d : Nat} (h : E6 w b q S d) (w2 : World) (hb : w2.heap[b]? = w.heap[b]?) (A' : Option Addr) (c' : Nat) (lo' : List Nat) :
    (w2.setCell ⟨b, 2, none⟩ (.slice A' lo'.length c')).heap[b]? = some (.cells (headV { q with Al := A', cl := c' } { S with lo := lo' }) 81 (0, 0)) := by
  rw [Lib.heap_setCell_same (hb.trans h.head)]; rfl
theorem settF_cons (id : Nat) (r : List Nat) (S : Eng) : settF (id :: r) S = if (fastF S id).2 = true then settF r (fastF S id).1 else ({ (fastF S id).1 with lo := id :: r }, id) := rfl
/-- What settle leaves. -/
def SettTo (w : World) (b : Nat) (q : Pm) (S : Eng) (d : Nat) (e : Ending) (w' : World) : Prop :=
  e = .returned (.int .i64 (settF S.lo S).2) ∧ ∃ q', E6 w' b q' (settF S.lo S).1 d ∧ Ext q q' w w'
set_option maxHeartbeats 6400000 in
set_option maxRecDepth 100000 in
theorem settle_any {w : World} {b : Nat} {q : Pm} {S : Eng} {d K : Nat} (h : E6 w b q S d) (hS : Sf S K) (hd : d = S.le.length) (hK : K ≤ 20000) (hwa : 2 * (S.n + 1) ≤ S.wa.length) :
    Calls Tryz.prog 56 #[.pointer (some ⟨b, 0, none⟩)] w (SettTo w b q S d) := by
  have h2 := h.h2
  have HE := Lib.hid h
  have HS := Lib.hid hS
  have HD := Lib.hid hd
  have hln := hS.ln
  have hcl := h.lo.1.bd
  obtain ⟨hcl1, hcl2⟩ := hcl
  obtain ⟨R, hR⟩ : ∃ R, R = settF S.lo S := ⟨_, rfl⟩
  unfold SettTo
  rw [← hR]
  have HR := Lib.hid hR
  have HW := Lib.hid hwa
  clear hR h hS hd
  obtain ⟨wo, rfl⟩ : ∃ wo : World, wo = w := ⟨_, rfl⟩
  go_enter Tryz.func56, Tryz.ntmps56
  go_wp2_with fail
  go_loopw [3, 4, 10] (fun _ _ v wr => ∃ (i : Nat) (S' : Eng) (q' : Pm), v = .int .i64 (i : Int) ∧ i ≤ S.lo.length ∧ Hid (R = settF (S.lo.drop i) S') ∧ Hid (E6 wr b q' S' d) ∧ Hid (Ext q q' wo wr) ∧ Hid (Sf S' (K + 2 * i)) ∧ Hid (Kep S S') ∧ Hid (q'.Al = q.Al ∧ q'.cl = q.cl)) (fun _ _ v _ => S.lo.length - (intOf v).toNat)
  case atStart => exact ⟨0, S, q, rfl, by omega, HR, HE, Lib.hid (Ext.refl _ _), HS, Lib.hid (Kep.refl S), Lib.hid ⟨rfl, rfl⟩⟩
  case round =>
    obtain ⟨i, S', q', rfl, hil, hr, hE, hX, hSf, hKp, hQ⟩ := hrel
    by_cases hlt : i < S.lo.length
    · have ti : decide ((i : Int) < (S.lo.length : Int)) = true := decide_eq_true (by omega)
      obtain ⟨gl, hA, hrow⟩ := HE.out.lo.1.row (by omega)
      obtain ⟨id, hid⟩ : ∃ id, id = S.lo[i] := ⟨_, rfl⟩
      have hlo' := hKp.out.lo
      have hrow' : RowV 3 1 wr gl S.lo.length q.cl (natC S.lo) := by
        obtain ⟨g2, e2, r2⟩ := hE.out.lo.1.row (by rw [hlo']; omega)
        rw [hQ.out.1, hA] at e2
        injection e2 with e2
        injection e2 with e2
        subst e2
        rw [hlo', hQ.out.2] at r2
        exact r2
      have ci : wr.cell? ⟨gl, i, none⟩ = some (.int .i64 (id : Int)) := by
        rw [hrow'.cell (show i < S.lo.length * 1 by omega)]
        unfold natC
        rw [List.getD, List.getElem?_eq_getElem hlt, hid]; rfl
      have hidl : id < S'.cs.length := by rw [hKp.out.cs]; exact HS.out.lo id (by rw [hid]; exact List.getElem_mem hlt)
      have hw' : 2 * (S'.n + 1) ≤ S'.wa.length := by rw [hKp.out.n, hKp.out.wa]; exact HW.out
      have hd' : d = S'.le.length := by rw [hKp.out.le]; exact HD.out
      have HF := Lib.hid (fasten_any hE.out hSf.out hd' (by omega) hw' hidl)
      have hdrop : S.lo.drop i = id :: S.lo.drop (i + 1) := by rw [hid]; exact List.drop_eq_getElem_cons hlt
      have HRs : Hid (R = if (fastF S' id).2 = true then settF (S.lo.drop (i + 1)) (fastF S' id).1 else ({ (fastF S' id).1 with lo := S.lo.drop i }, (id : Int))) := by
        unfold Hid
        rw [hr.out, hdrop, settF_cons]
      have HSf : Hid (Sf (fastF S' id).1 (K + 2 * (i + 1))) := by
        refine (fastF_sf hSf.out hidl (fun l hl => plc_lt hl hw')).mono (by omega)
      have HKp : Hid (Kep S (fastF S' id).1) := hKp.out.trans (fastF_kep S' id)
      rw [hA] at h2
      clear hrow hlo' hrow' hidl hw' hd' hdrop hr hid hSf
      rw [hA]
      go_wp2_with fail
      refine HF.out.mono ?_
      rintro e w2 ⟨rfl, q2, hE2, hX2, hA2, hc2⟩
      have HE2 := Lib.hid hE2
      have HX2 := Lib.hid (hX.out.trans hX2)
      have HQ2 : Hid (q2.Al = q.Al ∧ q2.cl = q.cl) := ⟨hA2.trans hQ.out.1, hc2.trans hQ.out.2⟩
      clear hE2 hX2 hA2 hc2 hE hX hQ HF
      cases hb : (fastF S' id).2 with
      | true =>
        rw [if_pos hb] at HRs
        clear hb
        go_wp2_with fail
        go_roundw
        case rel => exact ⟨i + 1, _, q2, by go_num, by omega, HRs, HE2, HX2, HSf, HKp, by have := HQ2.out; rw [hA] at this; exact this⟩
        case measure => simp [intOf]; omega
      | false =>
        rw [if_neg (by rw [hb]; simp)] at HRs
        clear hb
        have hS2l := HKp.out.lo
        have g2 : w2.cell? ⟨b, 2, none⟩ = some (.slice (some ⟨gl, 0, none⟩) S.lo.length q.cl) := by
          have := HE2.out.h2
          rw [hS2l, HQ2.out.1, HQ2.out.2, hA] at this
          exact this
        have hrow2 : RowV 3 1 w2 gl S.lo.length q.cl (natC S.lo) := by
          obtain ⟨g2, e2, r2⟩ := HE2.out.lo.1.row (by rw [hS2l]; omega)
          rw [HQ2.out.1, hA] at e2
          injection e2 with e2
          injection e2 with e2
          subst e2
          rw [hS2l, HQ2.out.2] at r2
          exact r2
        have HDl := Lib.hid (delete_head hrow2 rfl (i := i) (by omega))
        have ogl : q2.own gl = .loose := HE2.out.lo.2 gl (by rw [HQ2.out.1, hA, onB_some])
        have HEND : Hid (∀ w3, RowV 3 1 w3 gl (S.lo.length - i) q.cl (natC (S.lo.drop i)) → Kf (fun k => k = gl) w2 w3 → w3.cell? ⟨b, 2, none⟩ = some (.slice (some ⟨gl, 0, none⟩) S.lo.length q.cl) ∧ w3.frozen? ⟨b, 2, none⟩ = false ∧
            ∃ q3, E6 (w3.setCell ⟨b, 2, none⟩ (.slice (some ⟨gl, 0, none⟩) (S.lo.length - i) q.cl)) b q3 { (fastF S' id).1 with lo := S.lo.drop i } d ∧ Ext q q3 wo (w3.setCell ⟨b, 2, none⟩ (.slice (some ⟨gl, 0, none⟩) (S.lo.length - i) q.cl))) := fun w3 hr3 hk3 => by
          have hne : b ≠ gl := fun e => by have := HE2.out.ob; rw [e, ogl] at this; cases this
          have hb3 := hk3.block b HE2.out.lt hne
          refine ⟨(World.cell?_of_block (a := ⟨b, 2, none⟩) hb3).trans g2, ?_, ?_⟩
          · rw [World.frozen?_of_block (a := ⟨b, 2, none⟩) hb3]; exact HE2.out.free 2
          · have hll : (S.lo.drop i).length = S.lo.length - i := by simp
            have K1 : Kf (fun k => q2.own k = .loose ∨ q2.own k = .eng) w2 w3 := hk3.mono fun x hx => .inl (.inl (by rw [hx]; exact ogl))
            have hc := HE2.out.chg (O := fun o => o = .loose ∨ o = .eng) (K1.set (p := ⟨b, 2, none⟩) (.inl (.inr HE2.out.ob)) (.slice (some ⟨gl, 0, none⟩) (S.lo.length - i) q.cl))
            obtain ⟨e1, e2⟩ := HE2.out.setLo hc (lo' := S.lo.drop i) (A' := some ⟨gl, 0, none⟩) (c' := q.cl) (by rw [← hll]; exact set_head2 HE2.out w3 hb3 _ _ _) ⟨.inr ⟨gl, rfl, by rw [hll]; exact hr3.other hne _⟩, fun j hj => by
              rw [onB_some] at hj; have hj : j = gl := hj; subst hj; exact ogl⟩
            exact ⟨_, e1, HX2.out.trans e2⟩
        clear hrow2 hS2l HE2 HX2 HKp HSf ogl
        go_wp2_with fail
        refine HDl.out.mono ?_
        rintro e w3 ⟨rfl, hr3, hk3⟩
        obtain ⟨x1, x2, q3, x3, x4⟩ := HEND.out w3 hr3 hk3
        have HX := Lib.hid (show _ ∧ _ from ⟨x3, x4⟩)
        clear hr3 hk3 x3 x4 HEND HDl
        have hRR := HRs.out
        subst hRR
        go_wp2_with fail
        go_ret
        exact ⟨rfl, q3, HX.out.1, HX.out.2⟩
    · have ti : decide ((i : Int) < (S.lo.length : Int)) = false := decide_eq_false (by omega)
      have hdrop : S.lo.drop i = [] := List.drop_eq_nil_of_le (by omega)
      have hRR : R = ({ S' with lo := [] }, -1) := by rw [hr.out, hdrop]; rfl
      have hlo' := hKp.out.lo
      have g2 : wr.cell? ⟨b, 2, none⟩ = some (.slice q.Al S.lo.length q.cl) := by
        have := hE.out.h2
        rw [hlo', hQ.out.1, hQ.out.2] at this
        exact this
      have f2 := hE.out.free 2
      have HEND : Hid (∃ q3, E6 (wr.setCell ⟨b, 2, none⟩ (.slice q.Al 0 q.cl)) b q3 { S' with lo := [] } d ∧ Ext q q3 wo (wr.setCell ⟨b, 2, none⟩ (.slice q.Al 0 q.cl))) := by
        have hc := hE.out.chg (O := fun o => o = .loose ∨ o = .eng) ((Kf.refl _ _).set (p := ⟨b, 2, none⟩) (.inl (.inr hE.out.ob)) (.slice q.Al 0 q.cl))
        have hp := hE.out.lo
        rw [hQ.out.1, hQ.out.2] at hp
        have hbl : ¬ onB q.Al b := fun e => by have := hp.2 b e; rw [hE.out.ob] at this; cases this
        obtain ⟨e1, e2⟩ := hE.out.setLo hc (lo' := []) (A' := q.Al) (c' := q.cl) (set_head2 hE.out wr rfl _ _ []) ⟨by
          rcases hp.1 with ⟨h1, _, h3⟩ | ⟨g, h1, h4⟩
          · exact .inl ⟨h1, rfl, h3⟩
          · refine .inr ⟨g, h1, ((h4.less (Nat.zero_le _)).congr (fun j hj => by simp at hj)).other (fun e => hbl ?_) _⟩
            rw [h1, onB_some]; exact e, hp.2⟩
        exact ⟨_, e1, hX.out.trans e2⟩
      obtain ⟨q3, x1, x2⟩ := HEND.out
      have HX := Lib.hid (show _ ∧ _ from ⟨x1, x2⟩)
      subst hRR
      clear hr hE hX hSf hKp hQ hdrop hlo' HEND x1 x2
      go_wp2_with fail
      go_ret
      exact ⟨rfl, q3, HX.out.1, HX.out.2⟩
end Go.Proofs.YtkckodpfhlpkgaaGreat
