/- A solver's conclude, where nothing was concluded before: the contract. -/
import Derived.Test.YtfllhfhcmoemeaaGreatSolF
namespace Go.Proofs.YtfllhfhcmoemeaaGreat
open Go.Shelf Go.RowKit Go.Lib Go.Sort LitM TrailM EngM

theorem info_step : (Tryz.prog.info? 150).map (fun i => (i.zero, i.size, i.bytes)) = some (some (.agg #[.bool false, .slice none 0 0]), 2, 32) := by kernel_rfl
section
variable {B bs bh n cp : Nat} {w0 w w' : World} {c : SolC} {S S' : Eng} {q q' : Pm} {F : Nat → Prop} {sc : Nat → Int} {wt : Nat → Bool} {vs : List Bool} {A : Option Addr} {ak bud bef : Int}
set_option maxHeartbeats 1600000 in
theorem sretract_no (h : Sol B w0 w bs c S q F sc wt vs) (hc : c.con = false) : Calls Tryz.prog 76 #[.pointer (some ⟨bs, 0, none⟩)] w fun e w' => e = .returned (.tuple #[]) ∧ w = w' := by
  obtain ⟨_, _, _, _, _, _, _, _, _, c9, _⟩ := h.cells
  rw [hc] at c9
  clear h hc
  go_enter Tryz.func76, Tryz.ntmps76
  go_wp2_with fail
  refine bodyPost_ret (v := .tuple #[]) (by simp [results, Tryz.results76, go_sem]) rfl ?_
  exact ⟨rfl, rfl⟩
/-- What conclude leaves. -/
def ConTo (B : Nat) (w0 w : World) (bs : Nat) (c : SolC) (S : Eng) (q : Pm) (F : Nat → Prop) (sc : Nat → Int) (wt : Nat → Bool) (vs : List Bool) (core : Value) (w' : World) : Prop :=
  (∃ lv, Sol B w0 w' bs { c with core := core, con := true, many := c.many + 1, log := lv } S q F sc wt vs) ∧ Kf (fun k => k = bs) w w'
set_option maxHeartbeats 6400000 in
set_option maxRecDepth 100000 in
theorem sconclude_new (h : Sol B w0 w bs c S q F sc wt vs) (hcon : c.con = false) (hlog : c.log = .slice none 0 0) (hm0 : 0 ≤ c.many) (hm1 : c.many ≤ 2000000) (A : Option Addr) (n cp : Nat) (xs : List Int) (hr : Rd .i32 w w.heap.size A n xs) (h32 : In32 xs) (hl : n ≤ 10000) (hne : ¬ onB A bs) :
    Calls Tryz.prog 75 #[.pointer (some ⟨bs, 0, none⟩), .slice A n cp] w fun e w' => e = .returned (.tuple #[]) ∧ ConTo B w0 w bs c S q F sc wt vs (.slice A n cp) w' := by
  obtain ⟨_, _, _, _, _, _, _, _, _, _, _, c11, cf⟩ := h.cells
  have hk1 : Kf (fun i => i = bs) w (w.setCell ⟨bs, 11, none⟩ (.slice A n cp)) := (Kf.refl (fun i => i = bs) w).set (p := ⟨bs, 11, none⟩) (.inl rfl) _
  have h1 : Sol B w0 (w.setCell ⟨bs, 11, none⟩ (.slice A n cp)) bs { c with core := .slice A n cp } S q F sc wt vs := h.store rfl rfl rfl rfl rfl rfl rfl rfl
  have hr1 : Rd .i32 (w.setCell ⟨bs, 11, none⟩ (.slice A n cp)) (w.setCell ⟨bs, 11, none⟩ (.slice A n cp)).heap.size A n xs := ⟨hr.len, fun h0 => by
    obtain ⟨g, o, e, hg, hc⟩ := hr.at_ h0
    have hgb : g ≠ bs := fun e' => hne (by rw [e, onB_some]; exact e'.symm)
    exact ⟨g, o, e, by simpa using hg, fun j hj => (hk1.cell (p := ⟨g, o + j, none⟩) hg hgb).trans (hc j hj)⟩⟩
  obtain ⟨C, k1, k2, hmk⟩ := make_sl (P := Tryz.prog) 37 29 Tryz.underlying37 info_rlit rfl (by decide) (by decide) n (by omega)
  have H1 := Lib.hid h1
  have HR1 := Lib.hid hr1
  have HK1 := Lib.hid hk1
  have H32 := Lib.hid h32
  have HCON := Lib.hid hcon
  have HLOG := Lib.hid hlog
  have HWN : Hid (IntKind.i64.wrap (c.many + 1) = c.many + 1) := IntWalk.i64_in _ (by omega)
  have HCS := Lib.hid k1
  have HC0 : Hid (∀ W : World, RowV 29 1 (W.alloc (.cells C 29)) W.heap.size n n (fun _ => .int .i32 0)) := fun W => RowV.made (by omega) k1 (fun j hj => by rw [k2 j hj]; simp [Nat.mod_one]; rfl)
  clear h hr h1 hr1 hk1 h32 hcon hlog k1 k2
  go_enter Tryz.func75, Tryz.ntmps75
  go_upto_region 1 with (fail)
  obtain ⟨w1, hw1⟩ : ∃ w1, w1 = w.setCell ⟨bs, 11, none⟩ (.slice A n cp) := ⟨_, rfl⟩
  rw [← hw1]
  rw [← hw1] at H1 HR1 HK1
  clear hw1 c11 cf
  have HG0 := Lib.hid (HC0.out w1)
  go_wp2_with fail
  go_loopw [5, 6, 16] (fun _ _ v wr => ∃ (m : Nat) (f : Nat → Value), v = .int .i64 (m : Int) ∧ m ≤ n ∧ Hid (RowV 29 1 wr w1.heap.size n n f) ∧ Hid (Below w1.heap.size w1 wr)) (fun _ _ v _ => n - (intOf v).toNat)
  case atStart => exact ⟨0, _, rfl, by omega, HG0, Lib.hid ((Below.refl _ _).alloc (Nat.le_refl _) _)⟩
  case round =>
    obtain ⟨m, f, rfl, hml, hR, hB⟩ := hrel
    by_cases hlt : m < n
    · have tm : decide ((m : Int) < (n : Int)) = true := decide_eq_true (by omega)
      have hr := HR1.out.below hB.out
      obtain ⟨g, o, e, _, hc⟩ := hr.get hlt
      subst e
      have hxl : -2147483648 ≤ xs.getD m 0 ∧ xs.getD m 0 ≤ 2147483647 := H32.out m
      have HNo := Lib.hid (fun V : World => not_any (xs.getD m 0) V hxl.1 hxl.2)
      have hcm := hR.out.cell (show m < n * 1 by omega)
      have hfm := hR.out.free m
      have HN : Hid (∀ v, RowV 29 1 (wr.setCell ⟨w1.heap.size, m, none⟩ v) w1.heap.size n n (updV f m v) ∧ Below w1.heap.size w1 (wr.setCell ⟨w1.heap.size, m, none⟩ v)) := fun v => ⟨hR.out.set (show m < n * 1 by omega) v, hB.out.setCell (p := ⟨w1.heap.size, m, none⟩) (Nat.le_refl _) _⟩
      clear hr hR hB hxl
      generalize xs.getD m 0 = x at *
      go_wp2_with fail
      refine (HNo.out _).mono ?_
      rintro e w'' ⟨rfl, rfl⟩
      go_wp2_with fail
      go_roundw
      case rel => exact ⟨m + 1, _, by go_num, by omega, Lib.hid (HN.out _).1, Lib.hid (HN.out _).2⟩
      case measure => simp [intOf]; omega
    · have tm : decide ((m : Int) < (n : Int)) = false := decide_eq_false (by omega)
      have h2 := H1.out.below hB.out
      have HKr : Hid (Kf (fun i => i = bs) w wr) := HK1.out.trans (Kf.of_below (F := fun _ => False) hB.out) (fun x hx => hx.elim)
      obtain ⟨_, _, _, _, _, _, d6, _, d8, d9, _, _, df⟩ := h2.cells
      change wr.cell? ⟨bs, 6, none⟩ = some (.int .i64 c.many) at d6
      change wr.cell? ⟨bs, 8, none⟩ = some c.log at d8
      change wr.cell? ⟨bs, 9, none⟩ = some (.bool c.con) at d9
      rw [HCON.out] at d9
      rw [HLOG.out] at d8
      have H2 := Lib.hid h2
      have HRT : Hid (∀ r, Calls Tryz.prog 76 #[.pointer (some ⟨bs, 0, none⟩)] (wr.drewN r) fun e w' => e = .returned (.tuple #[]) ∧ wr.drewN r = w') := fun r => sretract_no (h2.drewN r) HCON.out
      clear h2 hR hB HG0
      go_upto_region 7 with (fail)
      refine wp_region_any (by kernel_rfl) ?_
      change wpAny _ _ _ _ _ _ _ (World.drew _)
      refine wpAny_take (i := 0) (v := ?_) rfl (by kernel_rfl) (by kernel_rfl) (by kernel_rfl) (fun _ _ _ h => h) (Or.inl ⟨by kernel_rfl, ?_⟩) ?_
      rotate_left 1
      · (intro w; go_simp <;> with_reducible rfl)
      go_simp
      refine wpAny_take (i := 1) (v := ?_) rfl (by kernel_rfl) (by kernel_rfl) (by kernel_rfl) (fun _ _ _ h => h) (Or.inl ⟨by kernel_rfl, ?_⟩) ?_
      rotate_left 1
      · (intro w; go_simp <;> with_reducible rfl)
      go_simp
      refine wpAny_take (i := 2) (v := ?_) rfl (by kernel_rfl) (by kernel_rfl) (by kernel_rfl) (fun _ _ _ h => h) (Or.inl ⟨by kernel_rfl, ?_⟩) ?_
      rotate_left 1
      · (intro w; go_simp <;> with_reducible rfl)
      go_simp
      refine wpAny_ready (rs := [3]) (by kernel_rfl) (by simp) ?_
      refine AllReady.cons rfl (fun K hK => ?_) ?_
      ·
        go_simp
        refine hK _ _ ?_; clear hK K
        refine wpAny_take (i := 4) (v := ?_) rfl (by kernel_rfl) (by kernel_rfl) (by kernel_rfl) (fun _ _ _ h => h) (Or.inl ⟨by kernel_rfl, ?_⟩) ?_
        rotate_left 1
        · (intro w; go_simp <;> with_reducible rfl)
        go_simp
        refine wpAny_take (i := 5) (v := undef) rfl (by kernel_rfl) (by kernel_rfl) (by kernel_rfl) (fun _ _ _ h => h) (Or.inr ⟨by kernel_rfl, rfl⟩) ?_
        go_simp
        refine wpAny_take (i := 6) (v := undef) rfl (by kernel_rfl) (by kernel_rfl) (by kernel_rfl) (fun _ _ _ h => h) (Or.inr ⟨by kernel_rfl, rfl⟩) ?_
        go_simp
        refine wpAny_take (i := 7) (v := undef) rfl (by kernel_rfl) (by kernel_rfl) (by kernel_rfl) (fun _ _ _ h => h) (Or.inr ⟨by kernel_rfl, rfl⟩) ?_
        go_simp
        refine wpAny_take (i := 8) (v := undef) rfl (by kernel_rfl) (by kernel_rfl) (by kernel_rfl) (fun _ _ _ h => h) (Or.inr ⟨by kernel_rfl, rfl⟩) ?_
        go_simp
        refine wpAny_take (i := 9) (v := undef) rfl (by kernel_rfl) (by kernel_rfl) (by kernel_rfl) (fun _ _ _ h => h) (Or.inr ⟨by kernel_rfl, rfl⟩) ?_
        go_simp
        refine wpAny_take (i := 10) (v := undef) rfl (by kernel_rfl) (by kernel_rfl) (by kernel_rfl) (fun _ _ _ h => h) (Or.inr ⟨by kernel_rfl, rfl⟩) ?_
        go_simp
        refine wpAny_take (i := 11) (v := undef) rfl (by kernel_rfl) (by kernel_rfl) (by kernel_rfl) (fun _ _ _ h => h) (Or.inr ⟨by kernel_rfl, rfl⟩) ?_
        go_simp
        refine wpAny_take (i := 12) (v := undef) rfl (by kernel_rfl) (by kernel_rfl) (by kernel_rfl) (fun _ _ _ h => h) (Or.inr ⟨by kernel_rfl, rfl⟩) ?_
        go_simp
        refine wpAny_take (i := 13) (v := undef) rfl (by kernel_rfl) (by kernel_rfl) (by kernel_rfl) (fun _ _ _ h => h) (Or.inr ⟨by kernel_rfl, rfl⟩) ?_
        go_simp
        refine wpAny_take (i := 14) (v := undef) rfl (by kernel_rfl) (by kernel_rfl) (by kernel_rfl) (fun _ _ _ h => h) (Or.inr ⟨by kernel_rfl, rfl⟩) ?_
        go_simp
        refine wpAny_take (i := 15) (v := undef) rfl (by kernel_rfl) (by kernel_rfl) (by kernel_rfl) (fun _ _ _ h => h) (Or.inr ⟨by kernel_rfl, rfl⟩) ?_
        go_simp
        refine wpAny_take (i := 16) (v := undef) rfl (by kernel_rfl) (by kernel_rfl) (by kernel_rfl) (fun _ _ _ h => h) (Or.inr ⟨by kernel_rfl, rfl⟩) ?_
        go_simp
        refine wpAny_take (i := 17) (v := undef) rfl (by kernel_rfl) (by kernel_rfl) (by kernel_rfl) (fun _ _ _ h => h) (Or.inr ⟨by kernel_rfl, rfl⟩) ?_
        go_simp
        refine wpAny_take (i := 18) (v := undef) rfl (by kernel_rfl) (by kernel_rfl) (by kernel_rfl) (fun _ _ _ h => h) (Or.inr ⟨by kernel_rfl, rfl⟩) ?_
        go_simp
        refine wpAny_take (i := 19) (v := undef) rfl (by kernel_rfl) (by kernel_rfl) (by kernel_rfl) (fun _ _ _ h => h) (Or.inr ⟨by kernel_rfl, rfl⟩) ?_
        go_simp
        refine wpAny_take (i := 20) (v := ?_) rfl (by kernel_rfl) (by kernel_rfl) (by kernel_rfl) (fun _ _ _ h => h) (Or.inl ⟨by kernel_rfl, ?_⟩) ?_
        rotate_left 1
        · (intro w; go_simp <;> with_reducible rfl)
        go_simp
        refine wpAny_done (by kernel_rfl) ?_ _
        go_wp2_with fail
        refine (HRT.out _).mono ?_
        rintro e w'' ⟨rfl, rfl⟩
        go_upto_region 11 with (fail)
        have h2 := H2.out.drewN 1
        have h3 : Sol B w0 (((wr.drewN 1).setCell ⟨bs, 9, none⟩ (.bool true)).setCell ⟨bs, 6, none⟩ (.int .i64 (c.many + 1))) bs { c with core := .slice A n cp, con := true, many := c.many + 1 } S q F sc wt vs :=
          (h2.store (c' := { c with core := .slice A n cp, con := true }) rfl rfl rfl rfl rfl rfl rfl rfl).store rfl rfl rfl rfl rfl rfl rfl rfl
        have hk3 : Kf (fun i => i = bs) w (((wr.drewN 1).setCell ⟨bs, 9, none⟩ (.bool true)).setCell ⟨bs, 6, none⟩ (.int .i64 (c.many + 1))) := ((HKr.out.drewN 1).set (p := ⟨bs, 9, none⟩) (.inl rfl) _).set (p := ⟨bs, 6, none⟩) (.inl rfl) _
        obtain ⟨w3, hw3⟩ : ∃ w3, w3 = ((wr.drewN 1).setCell ⟨bs, 9, none⟩ (.bool true)).setCell ⟨bs, 6, none⟩ (.int .i64 (c.many + 1)) := ⟨_, rfl⟩
        rw [← hw3]
        rw [← hw3] at h3 hk3
        have H3 := Lib.hid h3
        have HK3 := Lib.hid hk3
        obtain ⟨_, _, _, _, _, _, _, _, e8, _, _, _, ef⟩ := h3.cells
        change w3.cell? ⟨bs, 8, none⟩ = some c.log at e8
        rw [HLOG.out] at e8
        clear h2 h3 hk3 d6 d8 d9 df H2 HRT hw3
        go_wp2_with (at_builtin; refine wpList_append_sl _ rfl _ _ 59 150 rfl Tryz.underlying59 info_step rfl (by decide) (by decide) none 0 0 (fun _ => .int .i64 0) rfl (SlV.nil _ _ _ _) (by omega) ⟨w3.heap.size, 0, none⟩ 1 1 [.bool false, .slice (some ⟨w1.heap.size, 0, none⟩) n n] rfl rfl (box_news w3 150 [.bool false, .slice (some ⟨w1.heap.size, 0, none⟩) n n]) (by intro u hu; simp at hu; rcases hu with rfl | rfl <;> rfl) (by decide) (by decide) ?_)
        intro g5 e5 w5 hr5 hg5 hk5
        have hb5 : Below w3.heap.size w3 w5 := by
          have h1 : Below w3.heap.size w3 (w3.alloc (.cells #[.bool false, .slice (some ⟨w1.heap.size, 0, none⟩) n n] 150)) := (Below.refl _ _).alloc (Nat.le_refl _) _
          exact h1.trans ((hk5 (fun _ => False) (fun j hj => (onB_none j hj).elim)).below h1.size (fun x hx => hx.elim))
        have h5 := H3.out.below hb5
        obtain ⟨_, _, _, _, _, _, _, _, f8, _, _, _, ff⟩ := h5.cells
        have HE : Hid (ConTo B w0 w bs c S q F sc wt vs (.slice A n cp) (w5.setCell ⟨bs, 8, none⟩ (.slice (some ⟨g5, 0, none⟩) 1 e5))) := by
          refine ⟨⟨.slice (some ⟨g5, 0, none⟩) 1 e5, h5.store rfl rfl rfl rfl rfl rfl rfl rfl⟩, ?_⟩
          exact (HK3.out.trans (Kf.of_below (F := fun _ => False) hb5) (fun x hx => hx.elim)).set (p := ⟨bs, 8, none⟩) (.inl rfl) _
        clear hr5 hg5 hk5 hb5 h5 e8 ef
        go_wp2_with fail
        go_end0
        exact ⟨rfl, HE.out⟩
      exact AllReady.nil
end
end Go.Proofs.YtfllhfhcmoemeaaGreat
