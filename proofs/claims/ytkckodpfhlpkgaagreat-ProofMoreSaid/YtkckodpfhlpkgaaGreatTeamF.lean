/- A team of one member: the contract of follows. -/
import Derived.Test.YtkckodpfhlpkgaaGreatTeamS
namespace Go.Proofs.YtkckodpfhlpkgaaGreat
open Go.RowKit LitM TrailM EngM

/-- What follows leaves. -/
def FlwTo (B : Nat) (w0 w : World) (c : TmC) (S : Eng) (q : Pm) (n : Nat) (xs : List Int) (e : Ending) (w' : World) : Prop := ∃ b, e = .returned (.bool b) ∧ SetTo B w0 w c S q n false w' ∧ (b = true ↔ Rup (hasE S) xs)
theorem Rup.alike {S S' : Eng} (h : Alike S S') {xs : List Int} : Rup (hasE S') xs ↔ Rup (hasE S) xs := Rup.iff h.has
section
variable {B n : Nat} {w0 w w' : World} {c : TmC} {S S' : Eng} {q q' : Pm}
theorem Rd.text {A : Option Addr} {m : Nat} {xs : List Int} {tl : Nat → Tl} (hr : Rd .i32 w w.heap.size A m xs) (hap : 0 < m → ∀ k, onB A k → q.own k = .no ∧ tl k = .no) (hx : TExt tl q q' w w') : Rd .i32 w' w'.heap.size A m xs :=
  ⟨hr.len, fun h0 => by
    obtain ⟨g, o, e, hg, hc⟩ := hr.at_ h0
    have ho := hap h0 g (by rw [e, onB_some])
    exact ⟨g, o, e, Nat.lt_of_lt_of_le hg hx.kf.size, fun j hj => (hx.kf.cell (p := ⟨g, o + j, none⟩) hg (fun x => by rcases x with y | y; exact y ho.1; exact y ho.2)).trans (hc j hj)⟩⟩
set_option maxHeartbeats 6400000 in
set_option maxRecDepth 100000 in
theorem tfollows_any (h : TmG B w0 w c S q) (ho : TmOk c S n) (hcn : S.cs.length ≤ 20000) (A : Option Addr) (m cp : Nat) (xs : List Int) (hr : Rd .i32 w w.heap.size A m xs) (h32 : In32 xs) (hm : m ≤ 9223372036854775807) (hap : 0 < m → ∀ k, onB A k → k < w.heap.size ∧ q.own k = .no ∧ c.tl k = .no) (hx : ∀ l ∈ xs, LitM.one l = true ∧ varZ l ≤ (n : Int)) (htr : c.tr = true → ¬ Rup (hasE S) xs) :
    Calls Tryz.prog 14 #[.pointer (some ⟨c.bt, 0, none⟩), .slice A m cp] w (FlwTo B w0 w c S q n xs) := by
  have HSt := Lib.hid (tsettle_any h ho hcn (fun e => ⟨xs, htr e⟩))
  have HTR := Lib.hid htr
  have HR := Lib.hid hr
  have HAP := Lib.hid hap
  have HXS := Lib.hid hx
  have HC0 := Lib.hid hcn
  clear h ho hr hap hx hcn htr
  go_enter Tryz.func14, Tryz.ntmps14
  go_wp2_with fail
  refine HSt.out.mono ?_
  rintro e w1 ⟨b, rfl, ⟨s, k, d, S1, q1, h1, x1, ho1, al1, hbs⟩, hrup⟩
  cases b with
  | false =>
    have H1 : Hid (SetTo B w0 w c S q n false w1) := ⟨s, k, d, S1, q1, h1, x1, ho1, al1, fun e => by cases e⟩
    have H2 := Lib.hid (hrup rfl xs)
    clear h1 x1 ho1 al1 hbs hrup HSt
    go_wp2_with fail
    go_ret
    exact ⟨_, rfl, H1.out, fun _ => H2.out, fun _ => rfl⟩
  | true =>
    have hs := hbs rfl
    subst hs
    obtain ⟨d0, hd0, hd1, hle⟩ := ho1.d rfl
    obtain ⟨c1, hc1⟩ : ∃ c1 : TmC, c1 = { c with settled := true, stuck := k, depth := d } := ⟨_, rfl⟩
    have htl : c1.tl = c.tl := by rw [hc1]
    have hbt : c1.bt = c.bt := by rw [hc1]
    have htr1 : c1.tr = c.tr := by rw [hc1]
    rw [← hc1] at h1 ho1 hd0
    have HFN : Hid (∀ S2 V q', Went S1 S2 (n + 1 : Int) d0 (fun y => -y ∈ xs) → TmG B w0 V c1 (backE S2 d0) q' → TExt c.tl q q' w V → ∀ b, SetTo B w0 w c S q n b V) := fun S2 V q' hw hV xV b => by
      obtain ⟨b1, b2, b3, b4, b5, b6, b7⟩ := hw.back
      have hal : Alike S1 (backE S2 d0) := ⟨b2, b3, b4⟩
      refine ⟨true, k, d, backE S2 d0, q', by rw [← hc1]; exact hV, xV, ?_, al1.trans hal, fun _ => rfl⟩
      rw [← hc1]
      exact ⟨ho1.E.like hal b1 b6 (fun x hx => (b7 x hx).1), ho1.v, fun _ => ⟨d0, hd0, hd1, by rw [b5]; exact Nat.le_refl _⟩, fun e cl => (Rup.alike hal).2 (ho1.s e cl)⟩
    obtain ⟨f1, f2, f3⟩ := ho1.E.follows hd1 hle HXS.out
    have HF3 := Lib.hid f3
    have HD0 := Lib.hid hd0
    have hcn1 : S1.cs.length ≤ 20000 := by rw [al1.cs]; exact HC0.out
    have HCN := Lib.hid hcn1
    have hr1 : Rd .i32 w1 w1.heap.size A m xs := HR.out.text (fun h0 j hj => (HAP.out h0 j hj).2) x1
    have hap1 : 0 < m → ∀ j, onB A j → q1.own j = .no ∧ c1.tl j = .no := fun h0 j hj => by
      obtain ⟨a1, a2, a3⟩ := HAP.out h0 j hj
      exact ⟨by rw [x1.old j a1]; exact a2, by rw [htl]; exact a3⟩
    have HDn := Lib.hid (tdeny_any h1 A m cp xs hr1 h32 hm hap1 (fun e => by
      cases hq : (denyF xs S1).2 with
      | false => rfl
      | true => exact absurd ((Rup.alike al1).1 (f2 hq)) (HTR.out (htr1 ▸ e))))
    rw [hbt] at HDn
    have HW1 := Lib.hid f1
    have X1 := Lib.hid x1
    have AL := Lib.hid al1
    have F2 := Lib.hid f2
    have HTL := Lib.hid htl
    have HBT := Lib.hid hbt
    have HTR1 := Lib.hid htr1
    clear h1 x1 ho1 al1 hbs hrup HSt f1 f2 f3 hr1 hap1 hcn1 hle hc1 hd0 hd1 HR HAP HXS HC0 htr1
    cases hden : (denyF xs S1).2 with
    | true =>
      rw [hden] at HDn
      have HI0 : Hid (Rup (hasE S) xs) := (Rup.alike AL.out).1 (F2.out hden)
      clear F2 HF3 hden
      go_wp2_with fail
      refine HDn.out.mono ?_
      rintro e w3 ⟨rfl, q3, h3, x3⟩
      rw [HTL.out] at x3
      have x3 := X1.out.trans x3
      obtain ⟨hbd1, hbd2⟩ := h3.mr.bd
      obtain ⟨⟨_, _, t2, _⟩, ⟨m0, _, _, m3, _⟩, r0, _⟩ := h3.cells
      rw [HBT.out] at t2
      have hd3 : c1.depth = (d0 : Int) := HD0.out
      rw [hd3] at m3
      have HBk : Hid (∀ V, Below w3.heap.size w3 V → Calls Tryz.prog 23 #[.pointer (some ⟨c1.be, 0, none⟩), .int .i64 (d0 : Int)] V fun e w' => (∃ r, e = .returned r) ∧ ∃ q', TmG B w0 w' c1 (backE ((denyF xs S1).1) d0) q' ∧ TExt c1.tl q3 q' w3 w') := fun V hV =>
        ((h3.below hV).eng.back (by rw [(HW1.out).cs]; exact HCN.out) (d0 : Int)).mono fun e w' ⟨he, q', hs, hx⟩ => ⟨⟨_, he⟩, q', (h3.below hV).ext hs hx (len_back _ _), (TExt.below hV).trans (TExt.ext hx)⟩
      rw [HTL.out] at HBk
      have hb5 : Below w3.heap.size w3 w3.drew := (Below.refl _ _).drew
      have HFin : Hid (∀ V q', TmG B w0 V c1 (backE ((denyF xs S1).1) d0) q' → TExt c.tl q q' w V → SetTo B w0 w c S q n false V) := fun V q' hV xV => HFN.out _ V q' (HW1.out) hV xV false
      have X3 := Lib.hid x3
      have HI : Hid (true = true ↔ Rup (hasE S) xs) := ⟨fun _ => HI0.out, fun _ => rfl⟩
      clear h3 x3
      go_wp2_with fail
      go_loopw [23] (fun v wr => Hid ((v = .int .i64 0 ∧ w3 = wr) ∨ (v = .int .i64 1 ∧ ∃ q', TmG B w0 wr c1 (backE ((denyF xs S1).1) d0) q' ∧ TExt c.tl q q' w wr))) (fun v _ => (5 - intOf v).toNat)
      case atStart => exact Lib.hid (.inl ⟨rfl, rfl⟩)
      case round =>
        rcases hrel.out with ⟨rfl, rfl⟩ | ⟨rfl, q6, h6, x6⟩
        · clear hrel
          go_upto_region 7 with (fail)
          refine wp_region_any (by kernel_rfl) ?_
          change wpAny _ _ _ _ _ _ _ (World.drew _)
          refine wpAny_take (i := 0) (v := ?_) rfl (by kernel_rfl) (by kernel_rfl) (by kernel_rfl) (fun _ _ _ h => h) (Or.inl ⟨by kernel_rfl, ?_⟩) ?_
          rotate_left 1
          · (intro w; go_simp <;> with_reducible rfl)
          go_simp
          refine wpAny_take (i := 1) (v := ?_) rfl (by kernel_rfl) (by kernel_rfl) (by kernel_rfl) (fun _ _ _ h => h) (Or.inl ⟨by kernel_rfl, ?_⟩) ?_
          rotate_left 1
          · (intro w; go_simp <;> with_reducible rfl)
          go_simp
          refine wpAny_take (i := 2) (v := ?_) rfl (by kernel_rfl) (by kernel_rfl) (by kernel_rfl) (fun _ _ _ h => h) (Or.inl ⟨by kernel_rfl, ?_⟩) ?_
          rotate_left 1
          · (intro w; go_simp <;> with_reducible rfl)
          go_simp
          refine wpAny_take (i := 4) (v := ?_) rfl (by kernel_rfl) (by kernel_rfl) (by kernel_rfl) (fun _ _ _ h => h) (Or.inl ⟨by kernel_rfl, ?_⟩) ?_
          rotate_left 1
          · (intro w; go_simp <;> with_reducible rfl)
          go_simp
          refine wpAny_take (i := 5) (v := ?_) rfl (by kernel_rfl) (by kernel_rfl) (by kernel_rfl) (fun _ _ _ h => h) (Or.inl ⟨by kernel_rfl, ?_⟩) ?_
          rotate_left 1
          · (intro w; go_simp <;> with_reducible rfl)
          go_simp
          refine wpAny_take (i := 6) (v := ?_) rfl (by kernel_rfl) (by kernel_rfl) (by kernel_rfl) (fun _ _ _ h => h) (Or.inl ⟨by kernel_rfl, ?_⟩) ?_
          rotate_left 1
          · (intro w; go_simp <;> with_reducible rfl)
          go_simp
          refine wpAny_take (i := 7) (v := ?_) rfl (by kernel_rfl) (by kernel_rfl) (by kernel_rfl) (fun _ _ _ h => h) (Or.inl ⟨by kernel_rfl, ?_⟩) ?_
          rotate_left 1
          · (intro w; go_simp <;> with_reducible rfl)
          go_simp
          refine wpAny_ready (rs := [3, 8]) (by kernel_rfl) (by simp) ?_
          refine AllReady.cons rfl (fun K hK => ?_) ?_
          ·
            go_simp
            refine hK _ _ ?_; clear hK K
            refine wpAny_ready (rs := [8]) (by kernel_rfl) (by simp) ?_
            refine AllReady.cons rfl (fun K hK => ?_) ?_
            ·
              go_simp
              refine hK _ _ ?_; clear hK K
              refine wpAny_ready (rs := [9]) (by kernel_rfl) (by simp) ?_
              refine AllReady.cons rfl (fun K hK => ?_) ?_
              ·
                go_simp
                go_wp2_with (first | (go_at_call 23; refine (HBk.out _ (by assumption)).mono ?_; rintro e w5 ⟨⟨rb, rfl⟩, q5, h5, x5⟩))
                first | (refine hK _ _ ?_; clear hK K) | skip
                refine wpAny_done (by kernel_rfl) ?_ _
                obtain ⟨_, ⟨_, _, k2, _, k4⟩, _, _, _, kf⟩ := h5.cells
                obtain ⟨h6, x6⟩ := h5.mset (c' := c1) (k := 2) (v := .int .i64 0) rfl rfl rfl rfl rfl rfl rfl rfl rfl rfl rfl rfl rfl rfl rfl
                rw [HTL.out] at x6
                have H6 := Lib.hid h6
                have X6 := Lib.hid ((X3.out.trans x5).trans x6)
                clear HBk hb5 h5 x5 h6 x6
                go_wp2_with fail
                go_roundw
                case rel => exact Lib.hid (.inr ⟨rfl, q5, H6.out, X6.out⟩)
                case measure => simp [intOf]
              exact AllReady.nil
            exact AllReady.nil
          refine AllReady.cons rfl (fun K hK => ?_) ?_
          ·
            go_simp
            refine hK _ _ ?_; clear hK K
            refine wpAny_ready (rs := [3]) (by kernel_rfl) (by simp) ?_
            refine AllReady.cons rfl (fun K hK => ?_) ?_
            ·
              go_simp
              refine hK _ _ ?_; clear hK K
              refine wpAny_ready (rs := [9]) (by kernel_rfl) (by simp) ?_
              refine AllReady.cons rfl (fun K hK => ?_) ?_
              ·
                go_simp
                go_wp2_with (first | (go_at_call 23; refine (HBk.out _ (by assumption)).mono ?_; rintro e w5 ⟨⟨rb, rfl⟩, q5, h5, x5⟩))
                first | (refine hK _ _ ?_; clear hK K) | skip
                refine wpAny_done (by kernel_rfl) ?_ _
                obtain ⟨_, ⟨_, _, k2, _, k4⟩, _, _, _, kf⟩ := h5.cells
                obtain ⟨h6, x6⟩ := h5.mset (c' := c1) (k := 2) (v := .int .i64 0) rfl rfl rfl rfl rfl rfl rfl rfl rfl rfl rfl rfl rfl rfl rfl
                rw [HTL.out] at x6
                have H6 := Lib.hid h6
                have X6 := Lib.hid ((X3.out.trans x5).trans x6)
                clear HBk hb5 h5 x5 h6 x6
                go_wp2_with fail
                go_roundw
                case rel => exact Lib.hid (.inr ⟨rfl, q5, H6.out, X6.out⟩)
                case measure => simp [intOf]
              exact AllReady.nil
            exact AllReady.nil
          exact AllReady.nil
        · have HE := Lib.hid (HFin.out wr q6 h6 x6)
          clear hrel h6 x6
          go_wp2_with fail
          go_ret
          exact ⟨_, rfl, HE.out, by simpa using HI.out⟩
    | false =>
      rw [hden] at HDn
      obtain ⟨g1, g2⟩ := HF3.out hden
      have HW3 := Lib.hid g1
      have HI0 : Hid (decide ((propF (denyF xs S1).1).2 ≠ -1) = true ↔ Rup (hasE S) xs) := by
        refine ⟨fun e => (Rup.alike AL.out).1 (g2.1 (of_decide_eq_true e)), fun e => decide_eq_true (g2.2 ((Rup.alike AL.out).2 e))⟩
      clear F2 HF3 hden g1 g2
      go_wp2_with fail
      refine HDn.out.mono ?_
      rintro e w2 ⟨rfl, q2, h2, x2⟩
      have HPr := Lib.hid (tpropagate_any h2 (by rw [HW1.out.cs]; exact HCN.out) (fun e => Classical.byContradiction fun x => HTR.out (HTR1.out ▸ e) (HI0.out.1 (decide_eq_true x))))
      rw [HBT.out] at HPr
      rw [HTL.out] at x2
      have X2 := Lib.hid (X1.out.trans x2)
      clear h2 x2 HDn
      go_wp2_with fail
      refine HPr.out.mono ?_
      rintro e w3 ⟨rfl, q3, h3, x3⟩
      rw [HTL.out] at x3
      have x3 := X2.out.trans x3
      generalize decide ((propF (denyF xs S1).1).2 ≠ -1) = bb at *
      obtain ⟨hbd1, hbd2⟩ := h3.mr.bd
      obtain ⟨⟨_, _, t2, _⟩, ⟨m0, _, _, m3, _⟩, r0, _⟩ := h3.cells
      rw [HBT.out] at t2
      have hd3 : c1.depth = (d0 : Int) := HD0.out
      rw [hd3] at m3
      have HBk : Hid (∀ V, Below w3.heap.size w3 V → Calls Tryz.prog 23 #[.pointer (some ⟨c1.be, 0, none⟩), .int .i64 (d0 : Int)] V fun e w' => (∃ r, e = .returned r) ∧ ∃ q', TmG B w0 w' c1 (backE ((propF (denyF xs S1).1).1) d0) q' ∧ TExt c1.tl q3 q' w3 w') := fun V hV =>
        ((h3.below hV).eng.back (by rw [(HW3.out).cs]; exact HCN.out) (d0 : Int)).mono fun e w' ⟨he, q', hs, hx⟩ => ⟨⟨_, he⟩, q', (h3.below hV).ext hs hx (len_back _ _), (TExt.below hV).trans (TExt.ext hx)⟩
      rw [HTL.out] at HBk
      have hb5 : Below w3.heap.size w3 w3.drew := (Below.refl _ _).drew
      have HFin : Hid (∀ V q', TmG B w0 V c1 (backE ((propF (denyF xs S1).1).1) d0) q' → TExt c.tl q q' w V → SetTo B w0 w c S q n false V) := fun V q' hV xV => HFN.out _ V q' (HW3.out) hV xV false
      have X3 := Lib.hid x3
      have HI : Hid (bb = true ↔ Rup (hasE S) xs) := HI0.out
      clear h3 x3
      go_wp2_with fail
      go_loopw [23] (fun v wr => Hid ((v = .int .i64 0 ∧ w3 = wr) ∨ (v = .int .i64 1 ∧ ∃ q', TmG B w0 wr c1 (backE ((propF (denyF xs S1).1).1) d0) q' ∧ TExt c.tl q q' w wr))) (fun v _ => (5 - intOf v).toNat)
      case atStart => exact Lib.hid (.inl ⟨rfl, rfl⟩)
      case round =>
        rcases hrel.out with ⟨rfl, rfl⟩ | ⟨rfl, q6, h6, x6⟩
        · clear hrel
          go_upto_region 7 with (fail)
          refine wp_region_any (by kernel_rfl) ?_
          change wpAny _ _ _ _ _ _ _ (World.drew _)
          refine wpAny_take (i := 0) (v := ?_) rfl (by kernel_rfl) (by kernel_rfl) (by kernel_rfl) (fun _ _ _ h => h) (Or.inl ⟨by kernel_rfl, ?_⟩) ?_
          rotate_left 1
          · (intro w; go_simp <;> with_reducible rfl)
          go_simp
          refine wpAny_take (i := 1) (v := ?_) rfl (by kernel_rfl) (by kernel_rfl) (by kernel_rfl) (fun _ _ _ h => h) (Or.inl ⟨by kernel_rfl, ?_⟩) ?_
          rotate_left 1
          · (intro w; go_simp <;> with_reducible rfl)
          go_simp
          refine wpAny_take (i := 2) (v := ?_) rfl (by kernel_rfl) (by kernel_rfl) (by kernel_rfl) (fun _ _ _ h => h) (Or.inl ⟨by kernel_rfl, ?_⟩) ?_
          rotate_left 1
          · (intro w; go_simp <;> with_reducible rfl)
          go_simp
          refine wpAny_take (i := 4) (v := ?_) rfl (by kernel_rfl) (by kernel_rfl) (by kernel_rfl) (fun _ _ _ h => h) (Or.inl ⟨by kernel_rfl, ?_⟩) ?_
          rotate_left 1
          · (intro w; go_simp <;> with_reducible rfl)
          go_simp
          refine wpAny_take (i := 5) (v := ?_) rfl (by kernel_rfl) (by kernel_rfl) (by kernel_rfl) (fun _ _ _ h => h) (Or.inl ⟨by kernel_rfl, ?_⟩) ?_
          rotate_left 1
          · (intro w; go_simp <;> with_reducible rfl)
          go_simp
          refine wpAny_take (i := 6) (v := ?_) rfl (by kernel_rfl) (by kernel_rfl) (by kernel_rfl) (fun _ _ _ h => h) (Or.inl ⟨by kernel_rfl, ?_⟩) ?_
          rotate_left 1
          · (intro w; go_simp <;> with_reducible rfl)
          go_simp
          refine wpAny_take (i := 7) (v := ?_) rfl (by kernel_rfl) (by kernel_rfl) (by kernel_rfl) (fun _ _ _ h => h) (Or.inl ⟨by kernel_rfl, ?_⟩) ?_
          rotate_left 1
          · (intro w; go_simp <;> with_reducible rfl)
          go_simp
          refine wpAny_ready (rs := [3, 8]) (by kernel_rfl) (by simp) ?_
          refine AllReady.cons rfl (fun K hK => ?_) ?_
          ·
            go_simp
            refine hK _ _ ?_; clear hK K
            refine wpAny_ready (rs := [8]) (by kernel_rfl) (by simp) ?_
            refine AllReady.cons rfl (fun K hK => ?_) ?_
            ·
              go_simp
              refine hK _ _ ?_; clear hK K
              refine wpAny_ready (rs := [9]) (by kernel_rfl) (by simp) ?_
              refine AllReady.cons rfl (fun K hK => ?_) ?_
              ·
                go_simp
                go_wp2_with (first | (go_at_call 23; refine (HBk.out _ (by assumption)).mono ?_; rintro e w5 ⟨⟨rb, rfl⟩, q5, h5, x5⟩))
                first | (refine hK _ _ ?_; clear hK K) | skip
                refine wpAny_done (by kernel_rfl) ?_ _
                obtain ⟨_, ⟨_, _, k2, _, k4⟩, _, _, _, kf⟩ := h5.cells
                obtain ⟨h6, x6⟩ := h5.mset (c' := c1) (k := 2) (v := .int .i64 0) rfl rfl rfl rfl rfl rfl rfl rfl rfl rfl rfl rfl rfl rfl rfl
                rw [HTL.out] at x6
                have H6 := Lib.hid h6
                have X6 := Lib.hid ((X3.out.trans x5).trans x6)
                clear HBk hb5 h5 x5 h6 x6
                go_wp2_with fail
                go_roundw
                case rel => exact Lib.hid (.inr ⟨rfl, q5, H6.out, X6.out⟩)
                case measure => simp [intOf]
              exact AllReady.nil
            exact AllReady.nil
          refine AllReady.cons rfl (fun K hK => ?_) ?_
          ·
            go_simp
            refine hK _ _ ?_; clear hK K
            refine wpAny_ready (rs := [3]) (by kernel_rfl) (by simp) ?_
            refine AllReady.cons rfl (fun K hK => ?_) ?_
            ·
              go_simp
              refine hK _ _ ?_; clear hK K
              refine wpAny_ready (rs := [9]) (by kernel_rfl) (by simp) ?_
              refine AllReady.cons rfl (fun K hK => ?_) ?_
              ·
                go_simp
                go_wp2_with (first | (go_at_call 23; refine (HBk.out _ (by assumption)).mono ?_; rintro e w5 ⟨⟨rb, rfl⟩, q5, h5, x5⟩))
                first | (refine hK _ _ ?_; clear hK K) | skip
                refine wpAny_done (by kernel_rfl) ?_ _
                obtain ⟨_, ⟨_, _, k2, _, k4⟩, _, _, _, kf⟩ := h5.cells
                obtain ⟨h6, x6⟩ := h5.mset (c' := c1) (k := 2) (v := .int .i64 0) rfl rfl rfl rfl rfl rfl rfl rfl rfl rfl rfl rfl rfl rfl rfl
                rw [HTL.out] at x6
                have H6 := Lib.hid h6
                have X6 := Lib.hid ((X3.out.trans x5).trans x6)
                clear HBk hb5 h5 x5 h6 x6
                go_wp2_with fail
                go_roundw
                case rel => exact Lib.hid (.inr ⟨rfl, q5, H6.out, X6.out⟩)
                case measure => simp [intOf]
              exact AllReady.nil
            exact AllReady.nil
          exact AllReady.nil
        · have HE := Lib.hid (HFin.out wr q6 h6 x6)
          clear hrel h6 x6
          go_wp2_with fail
          go_ret
          exact ⟨_, rfl, HE.out, by simpa using HI.out⟩
end
end Go.Proofs.YtkckodpfhlpkgaaGreat
