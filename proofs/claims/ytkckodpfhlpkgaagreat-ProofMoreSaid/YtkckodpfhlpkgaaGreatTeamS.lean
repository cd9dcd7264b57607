/- A team of one member: contracts of settle, follows. -/
import Derived.Test.YtkckodpfhlpkgaaGreatTeamD
namespace Go.Proofs.YtkckodpfhlpkgaaGreat
open Go.RowKit LitM TrailM EngM

/-- The same clauses. -/
structure Alike (S S' : Eng) : Prop where
  n : S'.n = S.n
  cs : S'.cs.length = S.cs.length
  cl : ∀ i, (clA S'.cs i).pr = (clA S.cs i).pr ∧ (clA S'.cs i).ls = (clA S.cs i).ls
theorem Alike.refl (S : Eng) : Alike S S := ⟨rfl, rfl, fun _ => ⟨rfl, rfl⟩⟩
theorem Alike.trans {S S' S'' : Eng} (h : Alike S S') (k : Alike S' S'') : Alike S S'' := ⟨k.n.trans h.n, k.cs.trans h.cs, fun i => ⟨(k.cl i).1.trans (h.cl i).1, (k.cl i).2.trans (h.cl i).2⟩⟩
theorem Alike.has {S S' : Eng} (h : Alike S S') (c : List Int) : hasE S' c ↔ hasE S c := by
  constructor
  · rintro ⟨i, hi, hp, hl⟩
    exact ⟨i, by rw [← h.cs]; exact hi, by rw [← (h.cl i).1]; exact hp, by rw [← (h.cl i).2]; exact hl⟩
  · rintro ⟨i, hi, hp, hl⟩
    exact ⟨i, by rw [h.cs]; exact hi, by rw [(h.cl i).1]; exact hp, by rw [(h.cl i).2]; exact hl⟩
theorem Went.alike {S S' : Eng} {N : Int} {d : Nat} {D : Int → Prop} (h : Went S S' N d D) : Alike S S' := ⟨h.n, h.cs, h.cl⟩
theorem TeamE.like {S S' : Eng} {n : Nat} (h : TeamE S n) (k : Alike S S') (hI : Inv S') (hd : ∀ x ∈ S'.L, x.rs < 0 → x.l = (n + 1 : Int)) (hl : ∀ x ∈ S'.L, 1 ≤ x.lv) : TeamE S' n :=
  ⟨hI, k.n.trans h.nn, fun c hc => h.vr c ((k.has c).1 hc), hd, hl, h.nb⟩
/-- What a team knows. -/
structure TmOk (c : TmC) (S : Eng) (n : Nat) : Prop where
  E : TeamE S n
  v : c.vars = (n : Int)
  d : c.settled = true → ∃ d : Nat, c.depth = (d : Int) ∧ 1 ≤ d ∧ d ≤ S.le.length
  s : c.stuck = true → ∀ cl, Rup (hasE S) cl
/-- What settle and follows leave: the same clauses. -/
def SetTo (B : Nat) (w0 w : World) (c : TmC) (S : Eng) (q : Pm) (n : Nat) (b : Bool) (w' : World) : Prop :=
  ∃ s k d S' q', TmG B w0 w' { c with settled := s, stuck := k, depth := d } S' q' ∧ TExt c.tl q q' w w' ∧ TmOk { c with settled := s, stuck := k, depth := d } S' n ∧ Alike S S' ∧ (b = true → s = true)
/-- What settle leaves. -/
def SttTo (B : Nat) (w0 w : World) (c : TmC) (S : Eng) (q : Pm) (n : Nat) (e : Ending) (w' : World) : Prop := ∃ b, e = .returned (.bool b) ∧ SetTo B w0 w c S q n b w' ∧ (b = false → ∀ cl, Rup (hasE S) cl)
section
variable {B n : Nat} {w0 w w' : World} {c : TmC} {S S' : Eng} {q q' : Pm}
set_option maxHeartbeats 6400000 in
set_option maxRecDepth 100000 in
theorem tsettle_any (h : TmG B w0 w c S q) (ho : TmOk c S n) (hcn : S.cs.length ≤ 20000) (htr : c.tr = true → ∃ cl, ¬ Rup (hasE S) cl) :
    Calls Tryz.prog 20 #[.pointer (some ⟨c.bt, 0, none⟩)] w (SttTo B w0 w c S q n) := by
  obtain ⟨⟨t0, _, t2, _, _, t5, t6, _⟩, ⟨m0, _⟩, r0, _⟩ := h.cells
  by_cases hss : c.settled = true ∨ c.stuck = true
  · have H1 : Hid (SetTo B w0 w c S q n (!c.stuck) w) := by
      refine ⟨c.settled, c.stuck, c.depth, S, q, h, TExt.refl _ _ _, ho, Alike.refl S, fun e => ?_⟩
      rcases hss with x | x
      · exact x
      · rw [x] at e; cases e
    have H2 : Hid ((!c.stuck) = false → ∀ cl, Rup (hasE S) cl) := fun e => ho.s (by cases hx : c.stuck <;> simp_all)
    clear h ho m0 r0 t0 t2 htr
    generalize c.stuck = k at *
    generalize c.settled = s at *
    have hor : (s || k) = true := by rcases hss with e | e <;> simp [e]
    clear hss
    go_enter Tryz.func20, Tryz.ntmps20
    cases s with
    | true =>
      go_wp2_with fail
      go_ret
      exact ⟨_, rfl, H1.out, H2.out⟩
    | false =>
      have hk : k = true := by simpa using hor
      subst hk
      go_wp2_with fail
      go_ret
      exact ⟨_, rfl, H1.out, H2.out⟩
  have hs : c.settled = false := by cases hx : c.settled <;> simp_all
  have hk : c.stuck = false := by cases hx : c.stuck <;> simp_all
  clear hss
  have hb := h.mr.bd
  obtain ⟨hb1, hb2⟩ := hb
  obtain ⟨hwn, hle1, hbase⟩ := ho.E.base
  have hn := ho.E.nb
  have HLE := Lib.hid hle1
  clear hle1
  have hd1 : len_dec S (n + 1 : Int) = len_dec S (n + 1 : Int) := rfl
  rw [ho.v] at t0
  rw [hs] at t5
  rw [hk] at t6
  have HDec : Hid (∀ W, Below w.heap.size w W → Calls Tryz.prog 32 #[.pointer (some ⟨c.be, 0, none⟩), .int .i32 (IntKind.i32.wrap (IntKind.i64.wrap ((n : Int) + 1)))] W fun e w' => (∃ r, e = .returned (.int .i64 r)) ∧ ∃ q', TmG B w0 w' c (decE S ((n : Int) + 1)) q' ∧ TExt c.tl q q' w w') := fun W hW => by
    rw [show IntKind.i32.wrap (IntKind.i64.wrap ((n : Int) + 1)) = (n : Int) + 1 by simp [IntKind.wrap, IntKind.bits, IntKind.signed]; omega]
    exact ((h.below hW).eng.decide ((n : Int) + 1) (by omega) (by omega)).mono fun e w' ⟨he, q', hs, hx⟩ => ⟨⟨_, he⟩, q', (h.below hW).ext hs hx (len_dec _ _), (TExt.below hW).trans (TExt.ext hx)⟩
  have HPr : Hid (∀ W q', TmG B w0 W c (decE S ((n : Int) + 1)) q' → Calls Tryz.prog 22 #[.pointer (some ⟨c.bt, 0, none⟩)] W fun e w' => e = .returned (.bool (decide ((propF (decE S ((n : Int) + 1))).2 ≠ -1))) ∧ TeTo B w0 W c (propF (decE S ((n : Int) + 1))).1 q' w') := fun W q' hW => tpropagate_any hW (by rw [len_dec]; exact hcn) (fun e => Classical.byContradiction fun x => (htr e).elim fun cl hcl => hcl (hbase x cl))
  have hcn3 : (propF (decE S ((n : Int) + 1))).1.cs.length ≤ 20000 := by rw [hwn.cs]; exact hcn
  have HCN := Lib.hid hcn3
  have HW := Lib.hid hwn
  have HBS := Lib.hid hbase
  have HH := Lib.hid h
  have HO := Lib.hid ho
  clear h hcn hwn hbase hd1 hcn3 ho htr
  generalize decE S ((n : Int) + 1) = S1 at *
  generalize (propF S1).2 = id at *
  generalize (propF S1).1 = S2 at *
  go_enter Tryz.func20, Tryz.ntmps20
  go_wp2_with fail
  go_loopw [27] (fun v wr => Hid ((v = .int .i64 0 ∧ w = wr) ∨ (v = .int .i64 1 ∧ ∃ q', TmG B w0 wr c S1 q' ∧ TExt c.tl q q' w wr))) (fun v _ => (5 - intOf v).toNat)
  case atStart => exact Lib.hid (.inl ⟨rfl, rfl⟩)
  case round =>
    rcases hrel.out with ⟨rfl, rfl⟩ | ⟨rfl, q1, h1, x1⟩
    · clear hrel
      have hb0 : Below w.heap.size w w.drew := (Below.refl _ _).drew
      go_upto_region 6 with (fail)
      refine wp_region_any (by kernel_rfl) ?_
      change wpAny _ _ _ _ _ _ _ (World.drew _)
      refine wpAny_take (i := 0) (v := ?_) rfl (by kernel_rfl) (by kernel_rfl) (by kernel_rfl) (fun _ _ _ h => h) (Or.inl ⟨by kernel_rfl, ?_⟩) ?_
      rotate_left 1
      · (intro w; go_simp <;> with_reducible rfl)
      go_simp
      refine wpAny_take (i := 1) (v := ?_) rfl (by kernel_rfl) (by kernel_rfl) (by kernel_rfl) (fun _ _ _ h => h) (Or.inl ⟨by kernel_rfl, ?_⟩) ?_
      rotate_left 1
      · (intro w; go_simp <;> with_reducible rfl)
      go_simp
      refine wpAny_take (i := 2) (v := ?_) rfl (by kernel_rfl) (by kernel_rfl) (by kernel_rfl) (fun _ _ _ h => h) (Or.inl ⟨by kernel_rfl, ?_⟩) ?_
      rotate_left 1
      · (intro w; go_simp <;> with_reducible rfl)
      go_simp
      refine wpAny_take (i := 4) (v := ?_) rfl (by kernel_rfl) (by kernel_rfl) (by kernel_rfl) (fun _ _ _ h => h) (Or.inl ⟨by kernel_rfl, ?_⟩) ?_
      rotate_left 1
      · (intro w; go_simp <;> with_reducible rfl)
      go_simp
      refine wpAny_take (i := 5) (v := ?_) rfl (by kernel_rfl) (by kernel_rfl) (by kernel_rfl) (fun _ _ _ h => h) (Or.inl ⟨by kernel_rfl, ?_⟩) ?_
      rotate_left 1
      · (intro w; go_simp <;> with_reducible rfl)
      go_simp
      refine wpAny_take (i := 6) (v := ?_) rfl (by kernel_rfl) (by kernel_rfl) (by kernel_rfl) (fun _ _ _ h => h) (Or.inl ⟨by kernel_rfl, ?_⟩) ?_
      rotate_left 1
      · (intro w; go_simp <;> with_reducible rfl)
      go_simp
      refine wpAny_ready (rs := [3, 7]) (by kernel_rfl) (by simp) ?_
      refine AllReady.cons rfl (fun K hK => ?_) ?_
      ·
        go_simp
        refine hK _ _ ?_; clear hK K
        refine wpAny_ready (rs := [7]) (by kernel_rfl) (by simp) ?_
        refine AllReady.cons rfl (fun K hK => ?_) ?_
        ·
          go_simp
          refine hK _ _ ?_; clear hK K
          refine wpAny_take (i := 8) (v := ?_) rfl (by kernel_rfl) (by kernel_rfl) (by kernel_rfl) (fun _ _ _ h => h) (Or.inl ⟨by kernel_rfl, ?_⟩) ?_
          rotate_left 1
          · (intro w; go_simp <;> with_reducible rfl)
          go_simp
          refine wpAny_take (i := 9) (v := ?_) rfl (by kernel_rfl) (by kernel_rfl) (by kernel_rfl) (fun _ _ _ h => h) (Or.inl ⟨by kernel_rfl, ?_⟩) ?_
          rotate_left 1
          · (intro w; go_simp <;> with_reducible rfl)
          go_simp
          refine wpAny_ready (rs := [10]) (by kernel_rfl) (by simp) ?_
          refine AllReady.cons rfl (fun K hK => ?_) ?_
          ·
            go_simp
            go_wp2_with (first | (go_at_call 32; refine (HDec.out _ (by assumption)).mono ?_; rintro e w1 ⟨⟨r, rfl⟩, hh⟩))
            first | (refine hK _ _ ?_; clear hK K) | skip
            refine wpAny_done (by kernel_rfl) ?_ _
            have H1 := Lib.hid hh
            clear hh hb0
            go_wp2_with fail
            go_roundw
            case rel => exact Lib.hid (.inr ⟨rfl, H1.out⟩)
            case measure => simp [intOf]
          exact AllReady.nil
        exact AllReady.nil
      refine AllReady.cons rfl (fun K hK => ?_) ?_
      ·
        go_simp
        refine hK _ _ ?_; clear hK K
        refine wpAny_take (i := 8) (v := ?_) rfl (by kernel_rfl) (by kernel_rfl) (by kernel_rfl) (fun _ _ _ h => h) (Or.inl ⟨by kernel_rfl, ?_⟩) ?_
        rotate_left 1
        · (intro w; go_simp <;> with_reducible rfl)
        go_simp
        refine wpAny_take (i := 9) (v := ?_) rfl (by kernel_rfl) (by kernel_rfl) (by kernel_rfl) (fun _ _ _ h => h) (Or.inl ⟨by kernel_rfl, ?_⟩) ?_
        rotate_left 1
        · (intro w; go_simp <;> with_reducible rfl)
        go_simp
        refine wpAny_ready (rs := [3]) (by kernel_rfl) (by simp) ?_
        refine AllReady.cons rfl (fun K hK => ?_) ?_
        ·
          go_simp
          refine hK _ _ ?_; clear hK K
          refine wpAny_ready (rs := [10]) (by kernel_rfl) (by simp) ?_
          refine AllReady.cons rfl (fun K hK => ?_) ?_
          ·
            go_simp
            go_wp2_with (first | (go_at_call 32; refine (HDec.out _ (by assumption)).mono ?_; rintro e w1 ⟨⟨r, rfl⟩, hh⟩))
            first | (refine hK _ _ ?_; clear hK K) | skip
            refine wpAny_done (by kernel_rfl) ?_ _
            have H1 := Lib.hid hh
            clear hh hb0
            go_wp2_with fail
            go_roundw
            case rel => exact Lib.hid (.inr ⟨rfl, H1.out⟩)
            case measure => simp [intOf]
          exact AllReady.nil
        exact AllReady.nil
      exact AllReady.nil
    · clear hrel HDec
      have HP1 := Lib.hid (HPr.out _ _ h1)
      have X1 := Lib.hid x1
      clear h1 x1 HPr
      cases hid : decide (id ≠ -1) with
      | true =>
        rw [hid] at HP1
        have HR := Lib.hid (HBS.out (of_decide_eq_true hid))
        clear hid HBS
        go_wp2_with fail
        refine HP1.out.mono ?_
        rintro e w2 ⟨rfl, q2, h2, x2⟩
        obtain ⟨⟨_, _, _, _, _, _, u6, _⟩, _, _, _, uf, _⟩ := h2.cells
        obtain ⟨h3, x3⟩ := h2.tset (c' := { c with stuck := true }) (k := 6) (v := .bool true) rfl rfl rfl rfl rfl rfl rfl rfl rfl rfl rfl rfl rfl rfl rfl
        have HLo := Lib.hid (tloosen_any h3 HCN.out)
        have X3 := Lib.hid ((X1.out.trans x2).trans x3)
        clear h2 x2 h3 x3 HP1
        go_wp2_with fail
        refine HLo.out.mono ?_
        rintro e w4 ⟨rfl, q4, h4, x4⟩
        have H4 : Hid (SetTo B w0 w c S q n false w4) := by
          obtain ⟨b1, b2, b3, b4, b5, b6, b7⟩ := HW.out.back
          have hal : Alike S (backE S2 0) := ⟨b2, b3, b4⟩
          refine ⟨false, true, c.depth, backE S2 0, q4, h4, X3.out.trans x4, ⟨HO.out.E.like hal b1 b6 (fun x hx => (b7 x hx).1), HO.out.v, (fun e => by cases e), fun _ cl => (HR.out cl).mono fun c' hc => (hal.has c').2 hc⟩, hal, fun e => by cases e⟩
        clear h4 x4 HLo
        go_wp2_with fail
        go_ret
        exact ⟨_, rfl, H4.out, fun _ => HR.out⟩
      | false =>
        rw [hid] at HP1
        clear hid HBS
        go_wp2_with fail
        refine HP1.out.mono ?_
        rintro e w2 ⟨rfl, q2, h2, x2⟩
        obtain ⟨⟨_, _, u2, _⟩, ⟨n0, n1, n2, n3, n4⟩, s0, e0, _, nf⟩ := h2.cells
        have HDp : Hid (∀ W, Below w2.heap.size w2 W → Calls Tryz.prog 34 #[.pointer (some ⟨q2.bt, 0, none⟩)] W fun e w' => e = .returned (.int .i64 (S2.le.length : Int)) ∧ w' = W) := fun W hW => ((h2.below hW).eng.asks.2.2.2.2.2).mono fun e w' ⟨a, b⟩ => ⟨a, b.symm⟩
        have hb5 : Below w2.heap.size w2 w2.drew := (Below.refl _ _).drew
        have h3 := h2.below hb5
        obtain ⟨h4, x4⟩ := h3.mset (c' := { c with depth := (S2.le.length : Int) }) (k := 3) (v := .int .i64 (S2.le.length : Int)) rfl rfl rfl rfl rfl rfl rfl rfl rfl rfl rfl rfl rfl rfl rfl
        obtain ⟨h5, x5⟩ := h4.mset (c' := { c with depth := (S2.le.length : Int) }) (k := 4) (v := .int .i64 0) rfl rfl rfl rfl rfl rfl rfl rfl rfl rfl rfl rfl rfl rfl rfl
        have H5 := Lib.hid h5
        have X5 := Lib.hid ((((X1.out.trans x2).trans (TExt.below hb5)).trans x4).trans x5)
        have hb := h2.mr.bd
        obtain ⟨hb1', hb2'⟩ := hb
        have H2 := Lib.hid h2
        clear h2 x2 HP1 h3 h4 x4 h5 x5 X1
        have HSK := Lib.hid hk
        obtain ⟨dl, hdl⟩ : ∃ dl, dl = (S2.le.length : Int) := ⟨_, rfl⟩
        have HDL := Lib.hid hdl
        rw [← hdl] at HDp H5
        rw [← hdl] at X5
        clear hdl
        go_wp2_with fail
        go_loopw [55] (fun v wr => Hid ((v = .int .i64 0 ∧ w2 = wr) ∨ (v = .int .i64 1 ∧ ∃ q', TmG B w0 wr { c with depth := dl } S2 q' ∧ TExt c.tl q q' w wr))) (fun v _ => (5 - intOf v).toNat)
        case atStart => exact Lib.hid (.inl ⟨rfl, rfl⟩)
        case round =>
          rcases hrel.out with ⟨rfl, rfl⟩ | ⟨rfl, q3, h3, x3⟩
          · clear hrel
            go_upto_region 15 with (fail)
            refine wp_region_any (by kernel_rfl) ?_
            change wpAny _ _ _ _ _ _ _ (World.drew _)
            refine wpAny_take (i := 0) (v := ?_) rfl (by kernel_rfl) (by kernel_rfl) (by kernel_rfl) (fun _ _ _ h => h) (Or.inl ⟨by kernel_rfl, ?_⟩) ?_
            rotate_left 1
            · (intro w; go_simp <;> with_reducible rfl)
            go_simp
            refine wpAny_take (i := 1) (v := ?_) rfl (by kernel_rfl) (by kernel_rfl) (by kernel_rfl) (fun _ _ _ h => h) (Or.inl ⟨by kernel_rfl, ?_⟩) ?_
            rotate_left 1
            · (intro w; go_simp <;> with_reducible rfl)
            go_simp
            refine wpAny_take (i := 2) (v := ?_) rfl (by kernel_rfl) (by kernel_rfl) (by kernel_rfl) (fun _ _ _ h => h) (Or.inl ⟨by kernel_rfl, ?_⟩) ?_
            rotate_left 1
            · (intro w; go_simp <;> with_reducible rfl)
            go_simp
            refine wpAny_take (i := 3) (v := ?_) rfl (by kernel_rfl) (by kernel_rfl) (by kernel_rfl) (fun _ _ _ h => h) (Or.inl ⟨by kernel_rfl, ?_⟩) ?_
            rotate_left 1
            · (intro w; go_simp <;> with_reducible rfl)
            go_simp
            refine wpAny_take (i := 4) (v := ?_) rfl (by kernel_rfl) (by kernel_rfl) (by kernel_rfl) (fun _ _ _ h => h) (Or.inl ⟨by kernel_rfl, ?_⟩) ?_
            rotate_left 1
            · (intro w; go_simp <;> with_reducible rfl)
            go_simp
            refine wpAny_take (i := 10) (v := ?_) rfl (by kernel_rfl) (by kernel_rfl) (by kernel_rfl) (fun _ _ _ h => h) (Or.inl ⟨by kernel_rfl, ?_⟩) ?_
            rotate_left 1
            · (intro w; go_simp <;> with_reducible rfl)
            go_simp
            refine wpAny_take (i := 11) (v := ?_) rfl (by kernel_rfl) (by kernel_rfl) (by kernel_rfl) (fun _ _ _ h => h) (Or.inl ⟨by kernel_rfl, ?_⟩) ?_
            rotate_left 1
            · (intro w; go_simp <;> with_reducible rfl)
            go_simp
            refine wpAny_take (i := 12) (v := ?_) rfl (by kernel_rfl) (by kernel_rfl) (by kernel_rfl) (fun _ _ _ h => h) (Or.inl ⟨by kernel_rfl, ?_⟩) ?_
            rotate_left 1
            · (intro w; go_simp <;> with_reducible rfl)
            go_simp
            refine wpAny_ready (rs := [5, 13]) (by kernel_rfl) (by simp) ?_
            refine AllReady.cons rfl (fun K hK => ?_) ?_
            ·
              go_simp
              refine hK _ _ ?_; clear hK K
              refine wpAny_take (i := 6) (v := ?_) rfl (by kernel_rfl) (by kernel_rfl) (by kernel_rfl) (fun _ _ _ h => h) (Or.inl ⟨by kernel_rfl, ?_⟩) ?_
              rotate_left 1
              · (intro w; go_simp <;> with_reducible rfl)
              go_simp
              refine wpAny_take (i := 7) (v := ?_) rfl (by kernel_rfl) (by kernel_rfl) (by kernel_rfl) (fun _ _ _ h => h) (Or.inl ⟨by kernel_rfl, ?_⟩) ?_
              rotate_left 1
              · (intro w; go_simp <;> with_reducible rfl)
              go_simp
              refine wpAny_ready (rs := [8, 13]) (by kernel_rfl) (by simp) ?_
              refine AllReady.cons rfl (fun K hK => ?_) ?_
              ·
                go_simp
                refine hK _ _ ?_; clear hK K
                refine wpAny_ready (rs := [9, 13]) (by kernel_rfl) (by simp) ?_
                refine AllReady.cons rfl (fun K hK => ?_) ?_
                ·
                  go_simp
                  go_wp2_with (first | (go_at_call 34; refine (HDp.out _ (by assumption)).mono ?_; rintro e w3 ⟨rfl, rfl⟩))
                  first | (refine hK _ _ ?_; clear hK K) | skip
                  refine wpAny_ready (rs := [13]) (by kernel_rfl) (by simp) ?_
                  refine AllReady.cons rfl (fun K hK => ?_) ?_
                  ·
                    go_simp
                    refine hK _ _ ?_; clear hK K
                    refine wpAny_take (i := 14) (v := ?_) rfl (by kernel_rfl) (by kernel_rfl) (by kernel_rfl) (fun _ _ _ h => h) (Or.inl ⟨by kernel_rfl, ?_⟩) ?_
                    rotate_left 1
                    · (intro w; go_simp <;> with_reducible rfl)
                    go_simp
                    refine wpAny_take (i := 15) (v := ?_) rfl (by kernel_rfl) (by kernel_rfl) (by kernel_rfl) (fun _ _ _ h => h) (Or.inl ⟨by kernel_rfl, ?_⟩) ?_
                    rotate_left 1
                    · (intro w; go_simp <;> with_reducible rfl)
                    go_simp
                    refine wpAny_take (i := 16) (v := ?_) rfl (by kernel_rfl) (by kernel_rfl) (by kernel_rfl) (fun _ _ _ h => h) (Or.inl ⟨by kernel_rfl, ?_⟩) ?_
                    rotate_left 1
                    · (intro w; go_simp <;> with_reducible rfl)
                    go_simp
                    refine wpAny_ready (rs := [17]) (by kernel_rfl) (by simp) ?_
                    refine AllReady.cons rfl (fun K hK => ?_) ?_
                    ·
                      go_simp
                      refine hK _ _ ?_; clear hK K
                      refine wpAny_take (i := 18) (v := ?_) rfl (by kernel_rfl) (by kernel_rfl) (by kernel_rfl) (fun _ _ _ h => h) (Or.inl ⟨by kernel_rfl, ?_⟩) ?_
                      rotate_left 1
                      · (intro w; go_simp <;> with_reducible rfl)
                      go_simp
                      refine wpAny_take (i := 19) (v := ?_) rfl (by kernel_rfl) (by kernel_rfl) (by kernel_rfl) (fun _ _ _ h => h) (Or.inl ⟨by kernel_rfl, ?_⟩) ?_
                      rotate_left 1
                      · (intro w; go_simp <;> with_reducible rfl)
                      go_simp
                      refine wpAny_take (i := 20) (v := ?_) rfl (by kernel_rfl) (by kernel_rfl) (by kernel_rfl) (fun _ _ _ h => h) (Or.inl ⟨by kernel_rfl, ?_⟩) ?_
                      rotate_left 1
                      · (intro w; go_simp <;> with_reducible rfl)
                      go_simp
                      refine wpAny_ready (rs := [21]) (by kernel_rfl) (by simp) ?_
                      refine AllReady.cons rfl (fun K hK => ?_) ?_
                      ·
                        go_simp
                        refine hK _ _ ?_; clear hK K
                        refine wpAny_done (by kernel_rfl) ?_ _
                        clear HDp hb5
                        go_wp2_with fail
                        go_roundw
                        case rel => exact Lib.hid (.inr ⟨rfl, q2, H5.out, X5.out⟩)
                        case measure => simp [intOf]
                      exact AllReady.nil
                    exact AllReady.nil
                  exact AllReady.nil
                refine AllReady.cons rfl (fun K hK => ?_) ?_
                ·
                  go_simp
                  refine hK _ _ ?_; clear hK K
                  refine wpAny_ready (rs := [9]) (by kernel_rfl) (by simp) ?_
                  refine AllReady.cons rfl (fun K hK => ?_) ?_
                  ·
                    go_simp
                    go_wp2_with (first | (go_at_call 34; refine (HDp.out _ (by assumption)).mono ?_; rintro e w3 ⟨rfl, rfl⟩))
                    first | (refine hK _ _ ?_; clear hK K) | skip
                    refine wpAny_take (i := 14) (v := ?_) rfl (by kernel_rfl) (by kernel_rfl) (by kernel_rfl) (fun _ _ _ h => h) (Or.inl ⟨by kernel_rfl, ?_⟩) ?_
                    rotate_left 1
                    · (intro w; go_simp <;> with_reducible rfl)
                    go_simp
                    refine wpAny_take (i := 15) (v := ?_) rfl (by kernel_rfl) (by kernel_rfl) (by kernel_rfl) (fun _ _ _ h => h) (Or.inl ⟨by kernel_rfl, ?_⟩) ?_
                    rotate_left 1
                    · (intro w; go_simp <;> with_reducible rfl)
                    go_simp
                    refine wpAny_take (i := 16) (v := ?_) rfl (by kernel_rfl) (by kernel_rfl) (by kernel_rfl) (fun _ _ _ h => h) (Or.inl ⟨by kernel_rfl, ?_⟩) ?_
                    rotate_left 1
                    · (intro w; go_simp <;> with_reducible rfl)
                    go_simp
                    refine wpAny_ready (rs := [17]) (by kernel_rfl) (by simp) ?_
                    refine AllReady.cons rfl (fun K hK => ?_) ?_
                    ·
                      go_simp
                      refine hK _ _ ?_; clear hK K
                      refine wpAny_take (i := 18) (v := ?_) rfl (by kernel_rfl) (by kernel_rfl) (by kernel_rfl) (fun _ _ _ h => h) (Or.inl ⟨by kernel_rfl, ?_⟩) ?_
                      rotate_left 1
                      · (intro w; go_simp <;> with_reducible rfl)
                      go_simp
                      refine wpAny_take (i := 19) (v := ?_) rfl (by kernel_rfl) (by kernel_rfl) (by kernel_rfl) (fun _ _ _ h => h) (Or.inl ⟨by kernel_rfl, ?_⟩) ?_
                      rotate_left 1
                      · (intro w; go_simp <;> with_reducible rfl)
                      go_simp
                      refine wpAny_take (i := 20) (v := ?_) rfl (by kernel_rfl) (by kernel_rfl) (by kernel_rfl) (fun _ _ _ h => h) (Or.inl ⟨by kernel_rfl, ?_⟩) ?_
                      rotate_left 1
                      · (intro w; go_simp <;> with_reducible rfl)
                      go_simp
                      refine wpAny_ready (rs := [21]) (by kernel_rfl) (by simp) ?_
                      refine AllReady.cons rfl (fun K hK => ?_) ?_
                      ·
                        go_simp
                        refine hK _ _ ?_; clear hK K
                        refine wpAny_done (by kernel_rfl) ?_ _
                        clear HDp hb5
                        go_wp2_with fail
                        go_roundw
                        case rel => exact Lib.hid (.inr ⟨rfl, q2, H5.out, X5.out⟩)
                        case measure => simp [intOf]
                      exact AllReady.nil
                    exact AllReady.nil
                  exact AllReady.nil
                exact AllReady.nil
              refine AllReady.cons rfl (fun K hK => ?_) ?_
              ·
                go_simp
                refine hK _ _ ?_; clear hK K
                refine wpAny_ready (rs := [8]) (by kernel_rfl) (by simp) ?_
                refine AllReady.cons rfl (fun K hK => ?_) ?_
                ·
                  go_simp
                  refine hK _ _ ?_; clear hK K
                  refine wpAny_ready (rs := [9]) (by kernel_rfl) (by simp) ?_
                  refine AllReady.cons rfl (fun K hK => ?_) ?_
                  ·
                    go_simp
                    go_wp2_with (first | (go_at_call 34; refine (HDp.out _ (by assumption)).mono ?_; rintro e w3 ⟨rfl, rfl⟩))
                    first | (refine hK _ _ ?_; clear hK K) | skip
                    refine wpAny_take (i := 14) (v := ?_) rfl (by kernel_rfl) (by kernel_rfl) (by kernel_rfl) (fun _ _ _ h => h) (Or.inl ⟨by kernel_rfl, ?_⟩) ?_
                    rotate_left 1
                    · (intro w; go_simp <;> with_reducible rfl)
                    go_simp
                    refine wpAny_take (i := 15) (v := ?_) rfl (by kernel_rfl) (by kernel_rfl) (by kernel_rfl) (fun _ _ _ h => h) (Or.inl ⟨by kernel_rfl, ?_⟩) ?_
                    rotate_left 1
                    · (intro w; go_simp <;> with_reducible rfl)
                    go_simp
                    refine wpAny_take (i := 16) (v := ?_) rfl (by kernel_rfl) (by kernel_rfl) (by kernel_rfl) (fun _ _ _ h => h) (Or.inl ⟨by kernel_rfl, ?_⟩) ?_
                    rotate_left 1
                    · (intro w; go_simp <;> with_reducible rfl)
                    go_simp
                    refine wpAny_ready (rs := [17]) (by kernel_rfl) (by simp) ?_
                    refine AllReady.cons rfl (fun K hK => ?_) ?_
                    ·
                      go_simp
                      refine hK _ _ ?_; clear hK K
                      refine wpAny_take (i := 18) (v := ?_) rfl (by kernel_rfl) (by kernel_rfl) (by kernel_rfl) (fun _ _ _ h => h) (Or.inl ⟨by kernel_rfl, ?_⟩) ?_
                      rotate_left 1
                      · (intro w; go_simp <;> with_reducible rfl)
                      go_simp
                      refine wpAny_take (i := 19) (v := ?_) rfl (by kernel_rfl) (by kernel_rfl) (by kernel_rfl) (fun _ _ _ h => h) (Or.inl ⟨by kernel_rfl, ?_⟩) ?_
                      rotate_left 1
                      · (intro w; go_simp <;> with_reducible rfl)
                      go_simp
                      refine wpAny_take (i := 20) (v := ?_) rfl (by kernel_rfl) (by kernel_rfl) (by kernel_rfl) (fun _ _ _ h => h) (Or.inl ⟨by kernel_rfl, ?_⟩) ?_
                      rotate_left 1
                      · (intro w; go_simp <;> with_reducible rfl)
                      go_simp
                      refine wpAny_ready (rs := [21]) (by kernel_rfl) (by simp) ?_
                      refine AllReady.cons rfl (fun K hK => ?_) ?_
                      ·
                        go_simp
                        refine hK _ _ ?_; clear hK K
                        refine wpAny_done (by kernel_rfl) ?_ _
                        clear HDp hb5
                        go_wp2_with fail
                        go_roundw
                        case rel => exact Lib.hid (.inr ⟨rfl, q2, H5.out, X5.out⟩)
                        case measure => simp [intOf]
                      exact AllReady.nil
                    exact AllReady.nil
                  exact AllReady.nil
                exact AllReady.nil
              exact AllReady.nil
            refine AllReady.cons rfl (fun K hK => ?_) ?_
            ·
              go_simp
              refine hK _ _ ?_; clear hK K
              refine wpAny_ready (rs := [5]) (by kernel_rfl) (by simp) ?_
              refine AllReady.cons rfl (fun K hK => ?_) ?_
              ·
                go_simp
                refine hK _ _ ?_; clear hK K
                refine wpAny_take (i := 6) (v := ?_) rfl (by kernel_rfl) (by kernel_rfl) (by kernel_rfl) (fun _ _ _ h => h) (Or.inl ⟨by kernel_rfl, ?_⟩) ?_
                rotate_left 1
                · (intro w; go_simp <;> with_reducible rfl)
                go_simp
                refine wpAny_take (i := 7) (v := ?_) rfl (by kernel_rfl) (by kernel_rfl) (by kernel_rfl) (fun _ _ _ h => h) (Or.inl ⟨by kernel_rfl, ?_⟩) ?_
                rotate_left 1
                · (intro w; go_simp <;> with_reducible rfl)
                go_simp
                refine wpAny_ready (rs := [8]) (by kernel_rfl) (by simp) ?_
                refine AllReady.cons rfl (fun K hK => ?_) ?_
                ·
                  go_simp
                  refine hK _ _ ?_; clear hK K
                  refine wpAny_ready (rs := [9]) (by kernel_rfl) (by simp) ?_
                  refine AllReady.cons rfl (fun K hK => ?_) ?_
                  ·
                    go_simp
                    go_wp2_with (first | (go_at_call 34; refine (HDp.out _ (by assumption)).mono ?_; rintro e w3 ⟨rfl, rfl⟩))
                    first | (refine hK _ _ ?_; clear hK K) | skip
                    refine wpAny_take (i := 14) (v := ?_) rfl (by kernel_rfl) (by kernel_rfl) (by kernel_rfl) (fun _ _ _ h => h) (Or.inl ⟨by kernel_rfl, ?_⟩) ?_
                    rotate_left 1
                    · (intro w; go_simp <;> with_reducible rfl)
                    go_simp
                    refine wpAny_take (i := 15) (v := ?_) rfl (by kernel_rfl) (by kernel_rfl) (by kernel_rfl) (fun _ _ _ h => h) (Or.inl ⟨by kernel_rfl, ?_⟩) ?_
                    rotate_left 1
                    · (intro w; go_simp <;> with_reducible rfl)
                    go_simp
                    refine wpAny_take (i := 16) (v := ?_) rfl (by kernel_rfl) (by kernel_rfl) (by kernel_rfl) (fun _ _ _ h => h) (Or.inl ⟨by kernel_rfl, ?_⟩) ?_
                    rotate_left 1
                    · (intro w; go_simp <;> with_reducible rfl)
                    go_simp
                    refine wpAny_ready (rs := [17]) (by kernel_rfl) (by simp) ?_
                    refine AllReady.cons rfl (fun K hK => ?_) ?_
                    ·
                      go_simp
                      refine hK _ _ ?_; clear hK K
                      refine wpAny_take (i := 18) (v := ?_) rfl (by kernel_rfl) (by kernel_rfl) (by kernel_rfl) (fun _ _ _ h => h) (Or.inl ⟨by kernel_rfl, ?_⟩) ?_
                      rotate_left 1
                      · (intro w; go_simp <;> with_reducible rfl)
                      go_simp
                      refine wpAny_take (i := 19) (v := ?_) rfl (by kernel_rfl) (by kernel_rfl) (by kernel_rfl) (fun _ _ _ h => h) (Or.inl ⟨by kernel_rfl, ?_⟩) ?_
                      rotate_left 1
                      · (intro w; go_simp <;> with_reducible rfl)
                      go_simp
                      refine wpAny_take (i := 20) (v := ?_) rfl (by kernel_rfl) (by kernel_rfl) (by kernel_rfl) (fun _ _ _ h => h) (Or.inl ⟨by kernel_rfl, ?_⟩) ?_
                      rotate_left 1
                      · (intro w; go_simp <;> with_reducible rfl)
                      go_simp
                      refine wpAny_ready (rs := [21]) (by kernel_rfl) (by simp) ?_
                      refine AllReady.cons rfl (fun K hK => ?_) ?_
                      ·
                        go_simp
                        refine hK _ _ ?_; clear hK K
                        refine wpAny_done (by kernel_rfl) ?_ _
                        clear HDp hb5
                        go_wp2_with fail
                        go_roundw
                        case rel => exact Lib.hid (.inr ⟨rfl, q2, H5.out, X5.out⟩)
                        case measure => simp [intOf]
                      exact AllReady.nil
                    exact AllReady.nil
                  exact AllReady.nil
                exact AllReady.nil
              exact AllReady.nil
            exact AllReady.nil
          · clear hrel
            obtain ⟨⟨_, _, _, _, _, v5, _⟩, _, _, _, vf, _⟩ := h3.cells
            obtain ⟨h4, x4⟩ := h3.tset (c' := { c with settled := true, depth := dl }) (k := 5) (v := .bool true) rfl rfl rfl rfl rfl rfl rfl rfl rfl rfl rfl rfl rfl rfl rfl
            have H6 : Hid (SetTo B w0 w c S q n true (wr.setCell ⟨c.bt, 5, none⟩ (.bool true))) := by
              have hw := HW.out
              refine ⟨true, c.stuck, dl, S2, q3, h4, x3.trans x4, ⟨HO.out.E.like hw.alike hw.inv (fun x hx hr => ?_) hw.lv1, HO.out.v, fun _ => ⟨_, HDL.out, HLE.out, Nat.le_refl _⟩, (fun e => by rw [show ({ c with settled := true, depth := dl } : TmC).stuck = c.stuck from rfl, HSK.out] at e; cases e)⟩, hw.alike, fun _ => rfl⟩
              rcases hw.dec x hx hr with e | ⟨_, e⟩
              · exact e
              · exact e.elim
            clear h3 x3 h4 x4 H5 H2
            go_wp2_with fail
            go_ret
            exact ⟨_, rfl, H6.out, fun e => by cases e⟩
end
end Go.Proofs.YtkckodpfhlpkgaaGreat
