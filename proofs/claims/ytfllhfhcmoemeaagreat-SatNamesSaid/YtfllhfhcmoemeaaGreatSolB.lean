/- A search's blame, where each true literal has a reason: the contract. -/
import Derived.Test.YtfllhfhcmoemeaaGreatSolS
import Derived.Test.YtfllhfhcmoemeaaGreatBwd
import Derived.Sort.CutIn
namespace Go.Proofs.YtfllhfhcmoemeaaGreat
open Go.Shelf Go.RowKit Go.Lib LitM TrailM EngM
attribute [local go_sem] Oper.semAt_some

/-- Booleans, the first of them false. -/
def BoF (n : Nat) (f : Nat → Value) : Prop := f 0 = .bool false ∧ ∀ j, j < n + 1 → ∃ b, f j = .bool b
section
variable {B bs bh n cp : Nat} {w0 w w' : World} {c : SolC} {S S' : Eng} {q q' : Pm} {F : Nat → Prop} {sc : Nat → Int} {wt : Nat → Bool} {vs : List Bool} {A : Option Addr} {ak bud bef : Int}
set_option maxHeartbeats 6400000 in
set_option maxRecDepth 100000 in
theorem sblame_any (h : Srch B w0 w bs bh c S q F sc wt vs A n cp ak bud bef) (hall : ∀ x ∈ S.L, reaL S (varZ x.l) ≠ []) (l : Int) (ho : LitM.one l = true) (hv : varZ l ≤ S.n) :
    Calls Tryz.prog 81 #[.pointer (some ⟨bh, 0, none⟩), .int .i32 l] w (BlaTo l w) := by
  have hI := h.s.eng.inv
  have hln := h.s.ln
  have HVs : Hid (∀ W, Below w.heap.size w W → Calls Tryz.prog 45 #[.pointer (some ⟨bs, 0, none⟩)] W fun e w' => e = .returned (.int .i64 (S.n : Int)) ∧ w' = W) := fun W hW => svars_any (h.below hW).s
  have HTr : Hid (∀ W, Below w.heap.size w W → Calls Tryz.prog 55 #[.pointer (some ⟨c.be, 0, none⟩)] W (TruTo S.L W)) := fun W hW => (h.below hW).s.eng.true_
  have HSr := Lib.hid (fun W (hW : Below w.heap.size w W) => h.below hW)
  have HC : Hid (∀ W, Below w.heap.size w W → W.cell? ⟨bh, 0, none⟩ = some (.pointer (some ⟨bs, 0, none⟩)) ∧ W.cell? ⟨bs, 2, none⟩ = some (.pointer (some ⟨c.be, 0, none⟩))) := fun W hW => by
    have h' := h.below hW
    obtain ⟨a0, _⟩ := h'.cells
    obtain ⟨_, _, b2, _⟩ := h'.s.cells
    exact ⟨a0, b2⟩
  obtain ⟨C, k1, k2, hm⟩ := make_sl (P := Tryz.prog) 40 4 Tryz.underlying40 info_bool rfl (by decide) (by decide) (S.n + 1) (by omega)
  have hm' : ∀ w : World, (Instr.makeSlice 40 (.int .i64 ((S.n : Int) + 1)) (.int .i64 ((S.n : Int) + 1))).run Tryz.prog w = .ok (.slice (some ⟨w.heap.size, 0, none⟩) (S.n + 1) (S.n + 1)) (w.alloc (.cells C 4)) := by
    intro w
    have := hm w
    rw [show (((S.n + 1 : Nat)) : Int) = (S.n : Int) + 1 by omega] at this
    exact this
  have HR0 : Hid (∀ W : World, RowV 4 1 (W.alloc (.cells C 4)) W.heap.size (S.n + 1) (S.n + 1) (fun _ => .bool false)) := fun W => RowV.made (by omega) k1 (fun j hj => by rw [k2 j hj]; simp [Nat.mod_one]; rfl)
  obtain ⟨v, hvE⟩ : ∃ v : Nat, varZ l = (v : Int) ∧ 1 ≤ v ∧ v ≤ S.n := ⟨(varZ l).toNat, by have := varZ_ge ho; omega⟩
  obtain ⟨hvE, hv1, hv2⟩ := hvE
  have l32 : -2147483648 ≤ l ∧ l ≤ 2147483647 := by have := (one_iff l).1 ho; omega
  have HVq : Hid (∀ V : World, Calls Tryz.prog 44 #[.int .i32 l] V fun e w' => e = .returned (.int .i64 (v : Int)) ∧ w' = V) := fun V => by rw [← hvE]; exact (var_any l V l32.1 l32.2).mono fun e w' ⟨h1, h2⟩ => ⟨h1, h2.symm⟩
  obtain ⟨W2, hW2⟩ : ∃ W2, W2 = ((w.alloc (.cells #[.pointer (some ⟨bh, 0, none⟩)] 95)).alloc (.cells #[.int .i32 l] 29)).alloc (.cells #[.slice (some ⟨w.heap.size + 1, 0, none⟩) 1 1] 37) := ⟨_, rfl⟩
  have hb2 : Below w.heap.size w W2 := by rw [hW2]; exact (((Below.refl _ _).alloc (Nat.le_refl _) _).alloc (by simp) _).alloc (by simp; omega) _
  obtain ⟨a0, b2⟩ := HC.out W2 hb2
  clear h hm
  refine (callsIn_wide (n := 9)).1 ?_
  refine callsIn_of_wp_marks Tryz.func81 rfl trivial ?_ rfl
  simp only [Tryz.ntmps81, List.size_toArray, List.length_cons, List.length_nil, Nat.reduceAdd, Nat.reduceSub, Array.replicate_succ, Array.replicate_zero, List.push_toArray, List.append_toArray, List.nil_append, List.cons_append]
  refine wpIn_wide.2 ?_
  go_upto_region 2 with (fail)
  have hz2 : W2.heap.size = w.heap.size + 3 := by rw [hW2]; simp
  have x2 : W2.cell? ⟨w.heap.size, 0, none⟩ = some (.pointer (some ⟨bh, 0, none⟩)) := by
    rw [hW2, World.cell?_alloc_lt _ _ _ (by simp; omega), World.cell?_alloc_lt _ _ _ (by simp), Lib.cell_of_heap (blk_new w _)]; rfl
  have y1 : W2.cell? ⟨w.heap.size + 1, 0, none⟩ = some (.int .i32 l) := by
    have := blk_new (w.alloc (.cells #[.pointer (some ⟨bh, 0, none⟩)] 95)) (.cells #[.int .i32 l] 29)
    rw [World.size_alloc] at this
    rw [hW2, World.cell?_alloc_lt _ _ _ (by simp), Lib.cell_of_heap this]; rfl
  have y2 : W2.cell? ⟨w.heap.size + 2, 0, none⟩ = some (.slice (some ⟨w.heap.size + 1, 0, none⟩) 1 1) := by
    have := blk_new ((w.alloc (.cells #[.pointer (some ⟨bh, 0, none⟩)] 95)).alloc (.cells #[.int .i32 l] 29)) (.cells #[.slice (some ⟨w.heap.size + 1, 0, none⟩) 1 1] 37)
    rw [World.size_alloc, World.size_alloc] at this
    rw [hW2, Lib.cell_of_heap this]; rfl
  rw [← hW2]
  have HCV := Lib.hid (HVs.out W2 hb2)
  have HB2 := Lib.hid hb2
  have HZ2 := Lib.hid hz2
  have HY := Lib.hid (And.intro x2 (And.intro y1 y2))
  clear hW2 hb2 hz2 y1 y2
  go_wp2_with fail
  refine HCV.out.mono ?_
  rintro e w' ⟨rfl, hw'⟩
  have hw' := hw'.symm
  subst hw'
  go_upto_region 3 with (fail)
  have hb3 : Below W2.heap.size W2 ((W2.alloc (.cells C 4)).alloc (.cells #[.slice (some ⟨W2.heap.size, 0, none⟩) (S.n + 1) (S.n + 1)] 40)) := ((Below.refl _ _).alloc (Nat.le_refl _) _).alloc (by simp) _
  have hr3 := (HR0.out W2).alloc (.cells #[.slice (some ⟨W2.heap.size, 0, none⟩) (S.n + 1) (S.n + 1)] 40)
  have y3 : ((W2.alloc (.cells C 4)).alloc (.cells #[.slice (some ⟨W2.heap.size, 0, none⟩) (S.n + 1) (S.n + 1)] 40)).cell? ⟨W2.heap.size + 1, 0, none⟩ = some (.slice (some ⟨W2.heap.size, 0, none⟩) (S.n + 1) (S.n + 1)) := by
    have := blk_new (W2.alloc (.cells C 4)) (.cells #[.slice (some ⟨W2.heap.size, 0, none⟩) (S.n + 1) (S.n + 1)] 40)
    rw [World.size_alloc] at this
    rw [Lib.cell_of_heap this]; rfl
  have hz3 : ((W2.alloc (.cells C 4)).alloc (.cells #[.slice (some ⟨W2.heap.size, 0, none⟩) (S.n + 1) (S.n + 1)] 40)).heap.size = W2.heap.size + 2 := by simp
  obtain ⟨W3, hW3⟩ : ∃ W3, W3 = (W2.alloc (.cells C 4)).alloc (.cells #[.slice (some ⟨W2.heap.size, 0, none⟩) (S.n + 1) (S.n + 1)] 40) := ⟨_, rfl⟩
  obtain ⟨gn, hgn⟩ : ∃ gn, gn = W2.heap.size := ⟨_, rfl⟩
  obtain ⟨x5, hx5⟩ : ∃ x5, x5 = w.heap.size + 1 + 1 := ⟨_, rfl⟩
  obtain ⟨g1, hg1⟩ : ∃ g1, g1 = w.heap.size + 1 := ⟨_, rfl⟩
  obtain ⟨xb, hxb⟩ : ∃ xb, xb = w.heap.size := ⟨_, rfl⟩
  obtain ⟨yb, y1, y2⟩ := HY.out
  rw [show w.heap.size + 2 = w.heap.size + 1 + 1 from rfl] at y2
  rw [← hW3] at hb3 hr3 y3 hz3
  rw [← hW3, ← hgn, ← hx5, ← hg1, ← hxb]
  rw [← hgn] at hr3 y3
  rw [← hx5, ← hg1] at y2
  rw [← hg1] at y1
  rw [← hxb] at yb
  have tv : (v : Int) < (S.n : Int) + 1 := by omega
  have hcn := hr3.cell (show v < (S.n + 1) * 1 by omega)
  have hfn := hr3.free v
  have y3d : W3.drew.cell? ⟨gn + 1, 0, none⟩ = some (.slice (some ⟨gn, 0, none⟩) (S.n + 1) (S.n + 1)) := y3
  have HB3 := Lib.hid hb3
  have HZ3 := Lib.hid (show W3.heap.size = gn + 2 ∧ gn = xb + 3 ∧ x5 = xb + 2 ∧ g1 = xb + 1 ∧ xb = w.heap.size by have := HZ2.out; omega)
  have HR3 : Hid (RowV 4 1 (W3.drew.setCell ⟨gn, v, none⟩ (.bool true)) gn (S.n + 1) (S.n + 1) (updV (fun _ => .bool false) v (.bool true))) := RowV.set (w := W3.drew) (hr3.same (by rfl)) (show v < (S.n + 1) * 1 by omega) _
  have HY3 := Lib.hid (show _ ∧ _ ∧ _ ∧ _ from ⟨yb, y1, y2, y3⟩)
  have HBF : Hid (BoF S.n (updV (fun _ => .bool false) v (.bool true))) := ⟨by rw [updV_ne _ _ (by omega)], fun j _ => by
    by_cases e : j = v
    · subst e; exact ⟨true, updV_at _ _ _⟩
    · exact ⟨false, updV_ne _ _ e⟩⟩
  have HB3s : Hid (Below W2.heap.size W2 (W3.drew.setCell ⟨gn, v, none⟩ (.bool true))) := (HB3.out.drew).setCell (p := ⟨gn, v, none⟩) (by have := HZ3.out; have := HZ2.out; show W2.heap.size ≤ gn; omega) _
  have HY3s : Hid ((W3.drew.setCell ⟨gn, v, none⟩ (.bool true)).cell? ⟨gn + 1, 0, none⟩ = some (.slice (some ⟨gn, 0, none⟩) (S.n + 1) (S.n + 1))) := by
    unfold Hid
    rw [World.cell?_setCell_other _ _ _ _ (by intro e; injection e with e; omega)]; exact y3d
  clear hW3 hgn hx5 hg1 hxb hb3 hr3 hz3 HY y1 y2 x2 HR0 hm' a0 b2
  go_cut [22] from 22 to 25 (fun _ wx => ∃ f, Hid (RowV 4 1 wx gn (S.n + 1) (S.n + 1) f) ∧ Hid (BoF S.n f) ∧ Hid (Below W2.heap.size W2 wx) ∧ Hid (wx.cell? ⟨gn + 1, 0, none⟩ = some (.slice (some ⟨gn, 0, none⟩) (S.n + 1) (S.n + 1))))
  case first =>
    refine wp_region_any (by kernel_rfl) ?_
    change wpAny _ _ _ _ _ _ _ (World.drew _)
    refine wpAny_ready (rs := [0, 1]) (by kernel_rfl) (by simp) ?_
    refine AllReady.cons rfl (fun K hK => ?_) ?_
    ·
      go_simp
      refine hK _ _ ?_; clear hK K
      refine wpAny_ready (rs := [1]) (by kernel_rfl) (by simp) ?_
      refine AllReady.cons rfl (fun K hK => ?_) ?_
      ·
        go_simp
        refine hK _ _ ?_; clear hK K
        refine wpAny_ready (rs := [2]) (by kernel_rfl) (by simp) ?_
        refine AllReady.cons rfl (fun K hK => ?_) ?_
        ·
          go_simp
          go_wp2_with ((go_at_call 44; refine (HVq.out _).mono ?_; rintro e wq ⟨rfl, rfl⟩))
          first | (refine hK _ _ ?_; clear hK K) | skip
          refine wpAny_ready (rs := [3]) (by kernel_rfl) (by simp) ?_
          refine AllReady.cons rfl (fun K hK => ?_) ?_
          ·
            go_simp
            refine hK _ _ ?_; clear hK K
            refine wpAny_ready (rs := [4]) (by kernel_rfl) (by simp) ?_
            refine AllReady.cons rfl (fun K hK => ?_) ?_
            ·
              go_simp
              refine hK _ _ ?_; clear hK K
              refine wpAny_done (by kernel_rfl) ?_ _
              go_wp2_with fail
              go_meet
              exact ⟨_, HR3, HBF, HB3s, HY3s⟩
            exact AllReady.nil
          exact AllReady.nil
        exact AllReady.nil
      exact AllReady.nil
    refine AllReady.cons rfl (fun K hK => ?_) ?_
    ·
      go_simp
      refine hK _ _ ?_; clear hK K
      refine wpAny_ready (rs := [0, 2]) (by kernel_rfl) (by simp) ?_
      refine AllReady.cons rfl (fun K hK => ?_) ?_
      ·
        go_simp
        refine hK _ _ ?_; clear hK K
        refine wpAny_ready (rs := [2]) (by kernel_rfl) (by simp) ?_
        refine AllReady.cons rfl (fun K hK => ?_) ?_
        ·
          go_simp
          go_wp2_with ((go_at_call 44; refine (HVq.out _).mono ?_; rintro e wq ⟨rfl, rfl⟩))
          first | (refine hK _ _ ?_; clear hK K) | skip
          refine wpAny_ready (rs := [3]) (by kernel_rfl) (by simp) ?_
          refine AllReady.cons rfl (fun K hK => ?_) ?_
          ·
            go_simp
            refine hK _ _ ?_; clear hK K
            refine wpAny_ready (rs := [4]) (by kernel_rfl) (by simp) ?_
            refine AllReady.cons rfl (fun K hK => ?_) ?_
            ·
              go_simp
              refine hK _ _ ?_; clear hK K
              refine wpAny_done (by kernel_rfl) ?_ _
              go_wp2_with fail
              go_meet
              exact ⟨_, HR3, HBF, HB3s, HY3s⟩
            exact AllReady.nil
          exact AllReady.nil
        exact AllReady.nil
      refine AllReady.cons rfl (fun K hK => ?_) ?_
      ·
        go_simp
        go_wp2_with ((go_at_call 44; refine (HVq.out _).mono ?_; rintro e wq ⟨rfl, rfl⟩))
        first | (refine hK _ _ ?_; clear hK K) | skip
        refine wpAny_ready (rs := [0]) (by kernel_rfl) (by simp) ?_
        refine AllReady.cons rfl (fun K hK => ?_) ?_
        ·
          go_simp
          refine hK _ _ ?_; clear hK K
          refine wpAny_ready (rs := [3]) (by kernel_rfl) (by simp) ?_
          refine AllReady.cons rfl (fun K hK => ?_) ?_
          ·
            go_simp
            refine hK _ _ ?_; clear hK K
            refine wpAny_ready (rs := [4]) (by kernel_rfl) (by simp) ?_
            refine AllReady.cons rfl (fun K hK => ?_) ?_
            ·
              go_simp
              refine hK _ _ ?_; clear hK K
              refine wpAny_done (by kernel_rfl) ?_ _
              go_wp2_with fail
              go_meet
              exact ⟨_, HR3, HBF, HB3s, HY3s⟩
            exact AllReady.nil
          exact AllReady.nil
        exact AllReady.nil
      exact AllReady.nil
    exact AllReady.nil
  case rest =>
  obtain ⟨f0, HR, HBo, HBe, HYc⟩ := hcut
  have hbw : Below w.heap.size w wc := HB2.out.trans (HBe.out.mono HB2.out.size)
  have hx : wc.cell? ⟨xb, 0, none⟩ = some (.pointer (some ⟨bh, 0, none⟩)) := (HBe.out.cell (p := ⟨xb, 0, none⟩) (by have := HZ2.out; have := HZ3.out; show xb < _; omega)).trans HY3.out.1
  obtain ⟨a0, b2⟩ := HC.out wc hbw
  have HT := Lib.hid (HTr.out wc hbw)
  have HBW := Lib.hid hbw
  clear hbw
  go_wp2_with fail
  refine HT.out.mono ?_
  rintro e w5 ⟨rfl, hrow, hb5⟩
  have HROW := Lib.hid hrow
  have HB5 := Lib.hid hb5
  clear hrow hb5 HT hx a0 b2
  go_wp2_with fail
  refine (backward_any _ _ _ w5).mono ?_
  rintro e w6 ⟨rfl, hw6⟩
  have HW6 := Lib.hid hw6
  go_wp2_with fail
  rw [← HW6.out]
  have hrow := HROW.out
  have hs6 : w6.heap.size = w5.heap.size + 1 := by rw [HW6.out]; simp
  have hb6 : Below w5.heap.size w5 w6 := by rw [HW6.out]; exact (Below.refl _ _).alloc (Nat.le_refl _) _
  obtain ⟨zs, hzs⟩ : ∃ zs, zs = S.L.map Ent.l := ⟨_, rfl⟩
  have hzl : zs.length = S.L.length := by rw [hzs]; simp
  have hlen := hI.ok.len
  have hbk : w6.cell? ⟨w5.heap.size, 0, none⟩ = some (.slice (some ⟨wc.heap.size, 0, none⟩) zs.length S.L.length) := by rw [HW6.out, hzl]; exact Lib.cell_of_heap (blk_new w5 _) 0
  have hlt5 : wc.heap.size < w5.heap.size := hrow.lt
  have hgt : ∀ j, j < zs.length → w6.cell? ⟨wc.heap.size, j, none⟩ = some (.int .i32 (zs[j]?.getD 0)) := fun j hj => by
    rw [hb6.cell (p := ⟨wc.heap.size, j, none⟩) hlt5, hrow.cell (show j < S.L.length * 1 by omega)]
    unfold lsC
    rw [← hzs, List.getD]
  have hbe := HBe.out.size
  have hwc6 : Below wc.heap.size wc w6 := HB5.out.trans (hb6.mono HB5.out.size)
  have hr6 : RowV 4 1 w6 gn (S.n + 1) (S.n + 1) f0 := HR.out.same (hwc6.block gn HR.out.lt)
  have hgnl := HR.out.lt
  have HBW6 : Hid (Below w.heap.size w w6) := HBW.out.trans (hwc6.mono HBW.out.size)
  have HYX : Hid (w6.cell? ⟨xb, 0, none⟩ = some (.pointer (some ⟨bh, 0, none⟩)) ∧ w6.cell? ⟨g1, 0, none⟩ = some (.int .i32 l) ∧ w6.cell? ⟨x5, 0, none⟩ = some (.slice (some ⟨g1, 0, none⟩) 1 1) ∧ w6.cell? ⟨gn + 1, 0, none⟩ = some (.slice (some ⟨gn, 0, none⟩) (S.n + 1) (S.n + 1))) := by
    have hz := HZ3.out
    have h2 := HZ2.out
    have hB := HBe.out.trans (hwc6.mono HBe.out.size)
    obtain ⟨p1, p2, p3, _⟩ := HY3.out
    have hlt := World.block_lt_of_cell? _ _ HYc.out
    exact ⟨(hB.cell (p := ⟨xb, 0, none⟩) (by show xb < _; omega)).trans p1, (hB.cell (p := ⟨g1, 0, none⟩) (by show g1 < _; omega)).trans p2, (hB.cell (p := ⟨x5, 0, none⟩) (by show x5 < _; omega)).trans p3, (hwc6.cell (p := ⟨gn + 1, 0, none⟩) hlt).trans HYc.out⟩
  have hlt1 := World.block_lt_of_cell? _ _ HYc.out
  obtain ⟨bk, hbkE⟩ : ∃ bk, bk = w5.heap.size := ⟨_, rfl⟩
  obtain ⟨gt, hgtE⟩ : ∃ gt, gt = wc.heap.size := ⟨_, rfl⟩
  rw [← hbkE] at hbk
  rw [← hgtE] at hbk hgt
  rw [← hbkE, ← hgtE]
  have HSZ : Hid (xb = w.heap.size ∧ g1 = xb + 1 ∧ x5 = xb + 2 ∧ gn = xb + 3 ∧ gn + 1 < gt ∧ gt < bk ∧ w6.heap.size = bk + 1) := by
    have hz := HZ3.out
    have h1 : gn + 1 < wc.heap.size := hlt1
    exact ⟨hz.2.2.2.2, hz.2.2.2.1, hz.2.2.1, hz.2.1, by omega, by omega, by omega⟩
  have HZ := Lib.hid hzs
  have HI := Lib.hid hI
  have HALL := Lib.hid hall
  have HRL : Hid (∀ y, y ∈ S.L → ∀ x ∈ reaL S (varZ y.l), ∃ u : Nat, varZ x = (u : Int) ∧ 1 ≤ u ∧ u ≤ S.n ∧ -2147483648 ≤ x ∧ x ≤ 2147483647) := fun y hy x hx => by
    obtain ⟨t1, t2, t3, t4⟩ := rea_there hI (varZ y.l)
    by_cases h0 : 0 ≤ reaZ S.L (varZ y.l)
    · rw [t4 h0] at hx
      obtain ⟨a, _⟩ := hI.small.cl _ (t2 h0)
      obtain ⟨a1, a2⟩ := a x hx
      have h1 := varZ_ge a1
      have h2 := (one_iff x).1 a1
      exact ⟨(varZ x).toNat, by omega, by omega, by omega, by omega, by omega⟩
    · rw [t3 h0] at hx; cases hx
  have HRLN : Hid (∀ v, (reaL S v).length ≤ 90000) := fun v => by
    obtain ⟨_, t2, t3, t4⟩ := rea_there hI v
    by_cases h0 : 0 ≤ reaZ S.L v
    · rw [t4 h0]; exact (hI.small.cl _ (t2 h0)).2.2.1
    · rw [t3 h0]; simp
  have HR6 := Lib.hid hr6
  have hn9 := hI.small.n
  have HLIT := Lib.hid hI.pre
  clear hrow hs6 hb6 hzs hlt5 hbe hwc6 hr6 hgnl hlt1 hbkE hgtE HROW HB5 HBW HW6 hw6 HYc HBe HR HY3 HB3 HZ3 HZ2 HB2 hall HTr HVs HC y3d y3 hcn hfn yb HB3s HY3s HR3 HBF HCV HVq k1 k2
  refine (wpIn_wide (n := 9)).1 ?_
  refine wpIn_rangeFunc_ownG rfl (by omega) (gf := 86) (lb := #[.pointer (some ⟨bk, 0, none⟩)]) rfl trivial (enters_of Tryz.func86 (by kernel_rfl) rfl)
    (bwd_stops Fence.wide (9 - 1) trivial rfl (by omega) bk gt S.L.length zs (by omega) (by omega) w6 (by have := HSZ.out; omega) (by have := HSZ.out; omega) hbk hgt) KeepB.trans (fun W l o o' h1 h2 h3 h4 => KeepB.put (by have := HSZ.out; omega) (by have := HSZ.out; omega) W l o o' h1 h2 h3 h4) (Below.refl _ _) (fun _ => rfl)
    (fun _ W => ∃ f, Hid (RowV 4 1 W gn (S.n + 1) (S.n + 1) f) ∧ Hid (BoF S.n f) ∧ Hid (Kf (fun k => k = gn) w6 W))
    (fun _ _ _ => False)
    (fun pre A B row hs hg hr => by
      obtain ⟨f, h1, h2, h3⟩ := hs
      have hne : some gn ≠ row := fun e => by have := (hr gn e.symm).1; have := HSZ.out; omega
      exact ⟨f, h1.out.same (hg.block gn h1.out.lt hne), h2, h3.out.grown hg (fun j e => .inr (hr j e).1)⟩)
    (fun c pre A B row hs hg hr => hs)
    ⟨f0, HR6, HBo, Lib.hid (Kf.refl _ _)⟩
    (fun x => { tmps := #[.pointer (some ⟨bh, 0, none⟩), .int .i32 l, .pointer (some ⟨xb, 0, none⟩), undef, .slice none 0 0, .pointer (some ⟨x5, 0, none⟩), .pointer (some ⟨gn + 1, 0, none⟩), undef, .int .i32 (zs[x]?.getD 0), undef, undef, undef, undef, .int .i32 l, .slice (some ⟨g1, 0, none⟩) 1 1, .pointer (some ⟨bh, 0, none⟩), .pointer (some ⟨bh, 0, none⟩), .pointer (some ⟨bh, 0, none⟩), .pointer (some ⟨bs, 0, none⟩), .int .i64 (S.n : Int), .int .i64 ((S.n : Int) + 1), .slice (some ⟨gn, 0, none⟩) (S.n + 1) (S.n + 1), u22, u23, u24, u25, .pointer (some ⟨bh, 0, none⟩), .pointer (some ⟨bh, 0, none⟩), .pointer (some ⟨bh, 0, none⟩), .pointer (some ⟨bs, 0, none⟩), .pointer (some ⟨bs, 0, none⟩), .pointer (some ⟨bs, 2, none⟩), .pointer (some ⟨c.be, 0, none⟩), .slice (some ⟨gt, 0, none⟩) S.L.length S.L.length, .func (.func 86) #[] #[.pointer (some ⟨bk, 0, none⟩)], .int .i64 (x : Int), .int .i32 (zs[x]?.getD 0), undef, undef, undef, undef, undef, undef, undef, undef, undef, undef, undef, undef, undef, undef, undef, undef, undef, undef, undef, undef, undef, undef, undef, undef, undef, undef, undef, undef, undef], defers := [] }) ?assign ?body ?done ?stop
  case assign =>
    intro l x W K hK
    unfold bwE
    gi_wp2
    exact hK
  case body =>
    rintro lp pre x W ⟨f, hRf, hBf, hKf⟩ hpl
    have hnB : ∀ W' : World, Kf (fun k => k = gn) W W' → KeepsFrom w6.heap.size W W' ∧ KeepB bk gt W W' := fun W' hk => by
      have hsz := HSZ.out
      have hw := hKf.out.size
      exact ⟨⟨hk.size, fun k o hB ho _ => (hk.block k (by
        rcases Nat.lt_or_ge k W.heap.size with e | e
        · exact e
        · rw [Array.getElem?_eq_none e] at ho; cases ho) (by omega)).trans ho⟩, hk.block bk (by omega) (by omega), hk.block gt (by omega) (by omega)⟩
    have HFINS : Hid (∀ W' f', Kf (fun k => k = gn) W W' → RowV 4 1 W' gn (S.n + 1) (S.n + 1) f' → BoF S.n f' → ownPostG w6.heap.size (KeepB bk gt) (fun _ W => ∃ f, Hid (RowV 4 1 W gn (S.n + 1) (S.n + 1) f) ∧ Hid (BoF S.n f) ∧ Hid (Kf (fun k => k = gn) w6 W)) (fun _ _ _ => False) (pre ++ [x]) W .normal { tmps := #[], defers := [] } W') := fun W' f' hk hr hb =>
      ⟨(hnB W' hk).1, (hnB W' hk).2, f', hr, hb, hKf.out.trans hk (fun y hy => .inl hy)⟩
    have hcase : (zs[x]?.getD 0 = 0) ∨ ∃ y, S.L[x]? = some y ∧ zs[x]?.getD 0 = y.l := by
      rw [HZ.out, List.getElem?_map]
      cases hx : S.L[x]? with
      | none => exact .inl rfl
      | some y => exact .inr ⟨y, rfl, rfl⟩
    have hlx : -2147483648 ≤ zs[x]?.getD 0 ∧ zs[x]?.getD 0 ≤ 2147483647 := by
      rcases hcase with e | ⟨y, hy, e⟩
      · rw [e]; omega
      · rw [e]; have := (one_iff _).1 (HLIT.out.one y (List.mem_of_getElem? hy)).1; omega
    obtain ⟨u, hu, hun⟩ : ∃ u : Nat, varZ (zs[x]?.getD 0) = (u : Int) ∧ u ≤ S.n := by
      rcases hcase with e | ⟨y, hy, e⟩
      · rw [e]; exact ⟨0, rfl, by omega⟩
      · rw [e]
        have h1 := HLIT.out.one y (List.mem_of_getElem? hy)
        have h2 := varZ_ge h1.1
        exact ⟨(varZ y.l).toNat, by omega, by omega⟩
    have HVx : Hid (∀ V : World, Calls Tryz.prog 44 #[.int .i32 (zs[x]?.getD 0)] V fun e w' => e = .returned (.int .i64 (u : Int)) ∧ V = w') := fun V => by rw [← hu]; exact var_any _ V hlx.1 hlx.2
    obtain ⟨b, hb⟩ := hBf.out.2 u (by omega)
    have hsz := HSZ.out
    have hyx : W.cell? ⟨gn + 1, 0, none⟩ = some (.slice (some ⟨gn, 0, none⟩) (S.n + 1) (S.n + 1)) := (hKf.out.cell (p := ⟨gn + 1, 0, none⟩) (by show gn + 1 < _; omega) (by show ¬ gn + 1 = gn; omega)).trans HYX.out.2.2.2
    have hxb : W.cell? ⟨xb, 0, none⟩ = some (.pointer (some ⟨bh, 0, none⟩)) := (hKf.out.cell (p := ⟨xb, 0, none⟩) (by show xb < _; omega) (by show ¬ xb = gn; omega)).trans HYX.out.1
    have hcu := hRf.out.cell (show u < (S.n + 1) * 1 by omega)
    rw [hb] at hcu
    have tu : (u : Int) < (S.n : Int) + 1 := by omega
    have hBW : Below w.heap.size w W := HBW6.out.trans (hKf.out.below (B := w.heap.size) HBW6.out.size (fun y hy => by rw [hy]; omega))
    cases b with
    | false =>
      have HFIN := Lib.hid (HFINS.out W f (Kf.refl _ _) hRf.out hBf.out)
      clear hnB hcase hu hb hsz hBW hRf hBf hKf HFINS
      generalize zs[x]?.getD 0 = lx at *
      gi_wp2
      refine ⟨trivial, CallsIn.inRound lp ((callsIn_wide.2 (HVx.out W)).mono ?_)⟩
      rintro e w' ⟨rfl, rfl⟩
      gi_wp2
      exact HFIN.out
    | true =>
      obtain ⟨y, hy, hly⟩ : ∃ y, S.L[x]? = some y ∧ zs[x]?.getD 0 = y.l := by
        rcases hcase with e | e
        · have h0 : u = 0 := by
            rw [e] at hu
            have : (0 : Int) = (u : Int) := hu
            omega
          rw [h0, hBf.out.1] at hb
          cases hb
        · exact e
      have hmem := List.mem_of_getElem? hy
      have hne := HALL.out y hmem
      have HRE := Lib.hid (sreason_any (HSr.out W hBW) (zs[x]?.getD 0) hlx.1 hlx.2)
      rw [hly] at HRE
      have HLL := Lib.hid (HRL.out y hmem)
      have HLB := Lib.hid (HRLN.out (varZ y.l))
      have hpos : 0 < (reaL S (varZ y.l)).length := List.length_pos_iff.2 hne
      have HPOS := Lib.hid hpos
      rw [hly] at HVx
      rw [hly]
      generalize reaL S (varZ y.l) = rl at *
      generalize y.l = ly at *
      have hsz6 := hKf.out.size
      have HSZW : Hid (gn < W.heap.size ∧ gn + 1 < W.heap.size) := by unfold Hid; omega
      have tl : ((rl.length : Int) == 0) = false := by rw [beq_eq_false_iff_ne]; omega
      clear hnB hcase hu hb hsz hBW hly hy hmem hne hpos hsz6 hlx
      gi_wp2
      refine ⟨trivial, CallsIn.inRound lp ((callsIn_wide.2 (HVx.out W)).mono ?_)⟩
      rintro e w' ⟨rfl, rfl⟩
      gi_wp2
      refine ⟨trivial, CallsIn.inRound lp ((callsIn_wide.2 HRE.out).mono ?_)⟩
      rintro e w7 ⟨A', c', rfl, hsl, hon, hb7⟩
      obtain ⟨g', hA, hrow⟩ := hsl.row HPOS.out
      subst hA
      have hgg : W.heap.size ≤ g' := hon g' ((onB_some _ _).2 rfl)
      have HROW := Lib.hid hrow
      have HGG : Hid (g' ≠ gn) := by have := HSZW.out; unfold Hid; omega
      have HR7 : Hid (RowV 4 1 w7 gn (S.n + 1) (S.n + 1) f) := hRf.out.same (hb7.block gn HSZW.out.1)
      have HY7 : Hid (w7.cell? ⟨gn + 1, 0, none⟩ = some (.slice (some ⟨gn, 0, none⟩) (S.n + 1) (S.n + 1))) := (hb7.cell (p := ⟨gn + 1, 0, none⟩) HSZW.out.2).trans hyx
      have HS7 : Hid (gn + 1 < w7.heap.size) := Nat.lt_of_lt_of_le HSZW.out.2 hb7.size
      have HK7 : Hid (Kf (fun k => k = gn) W w7) := Kf.of_below hb7
      clear hsl hon hrow hgg hb7 HRE hyx hxb hcu hRf hKf
      gi_wp2
      gi_loopw [12, 56] (fun _ i wr => ∃ (m : Nat) (f' : Nat → Value), i = .int .i64 (m : Int) ∧ m ≤ rl.length ∧ Hid (RowV 4 1 wr gn (S.n + 1) (S.n + 1) f') ∧ Hid (BoF S.n f') ∧ Hid (Kf (fun k => k = gn) w7 wr)) (fun _ i _ => rl.length - (intOf i).toNat)
      case atStart => exact ⟨0, f, rfl, by omega, HR7, hBf, Lib.hid (Kf.refl _ _)⟩
      case round =>
        obtain ⟨m, f', rfl, hml, hRm, hBm, hKm⟩ := hrel
        have hlb := HLB.out
        by_cases hlt : m < rl.length
        · have tm : decide ((m : Int) < (rl.length : Int)) = true := decide_eq_true (by omega)
          have hcm : wr.cell? ⟨g', m, none⟩ = some (.int .i32 (rl.getD m 0)) := by
            rw [hKm.out.cell (p := ⟨g', m, none⟩) HROW.out.lt HGG.out, HROW.out.cell (show m < rl.length * 1 by omega)]; rfl
          have hbd := HROW.out.bd
          obtain ⟨hbd1, hbd2⟩ := hbd
          have hin : rl.getD m 0 ∈ rl := by rw [List.getD, List.getElem?_eq_getElem hlt]; exact List.getElem_mem hlt
          obtain ⟨z, hz, hz1, hz2, hz3, hz4⟩ := HLL.out (rl.getD m 0) hin
          have HVz : Hid (∀ V : World, Calls Tryz.prog 44 #[.int .i32 (rl.getD m 0)] V fun e w' => e = .returned (.int .i64 (z : Int)) ∧ V = w') := fun V => by rw [← hz]; exact var_any _ V hz3 hz4
          have tz : (z : Int) < (S.n : Int) + 1 := by omega
          have hyr : wr.cell? ⟨gn + 1, 0, none⟩ = some (.slice (some ⟨gn, 0, none⟩) (S.n + 1) (S.n + 1)) := (hKm.out.cell (p := ⟨gn + 1, 0, none⟩) HS7.out (by show ¬ gn + 1 = gn; omega)).trans HY7.out
          have hcz := hRm.out.cell (show z < (S.n + 1) * 1 by omega)
          have hfz := hRm.out.free z
          obtain ⟨bz, hbz⟩ := hBm.out.2 z (by omega)
          rw [hbz] at hcz
          have HN : Hid (RowV 4 1 (wr.setCell ⟨gn, z, none⟩ (.bool true)).drew gn (S.n + 1) (S.n + 1) (updV f' z (.bool true)) ∧ BoF S.n (updV f' z (.bool true)) ∧ Kf (fun k => k = gn) w7 (wr.setCell ⟨gn, z, none⟩ (.bool true)).drew) := by
            refine ⟨(hRm.out.set (show z < (S.n + 1) * 1 by omega) _).same (by rfl), ⟨by rw [updV_ne _ _ (by omega)]; exact hBm.out.1, fun j hj => ?_⟩, (hKm.out.set (p := ⟨gn, z, none⟩) (.inl rfl) _).drew⟩
            by_cases e : j = z
            · subst e; exact ⟨true, updV_at _ _ _⟩
            · rw [updV_ne _ _ e]; exact hBm.out.2 j hj
          clear hin hz hRm hBm hKm hbz
          generalize rl.getD m 0 = why at *
          gi_upto_region 14 with (fail)
          refine wpIn_region_any (by kernel_rfl) (any_in lp 7 (no_defer (by kernel_rfl)) (by rintro ⟨_, _, h⟩; exact h) _ _ _ _ ?_)
          change wpAny _ _ _ _ _ _ _ (World.drew _)
          refine wpAny_ready (rs := [0, 1]) (by kernel_rfl) (by simp) ?_
          refine AllReady.cons rfl (fun K hK => ?_) ?_
          ·
            go_simp
            refine hK _ _ ?_; clear hK K
            refine wpAny_ready (rs := [1]) (by kernel_rfl) (by simp) ?_
            refine AllReady.cons rfl (fun K hK => ?_) ?_
            ·
              go_simp
              refine hK _ _ ?_; clear hK K
              refine wpAny_ready (rs := [2]) (by kernel_rfl) (by simp) ?_
              refine AllReady.cons rfl (fun K hK => ?_) ?_
              ·
                go_simp
                go_wp2_with ((go_at_call 44; refine (HVz.out _).mono ?_; rintro e wq ⟨rfl, rfl⟩))
                first | (refine hK _ _ ?_; clear hK K) | skip
                refine wpAny_ready (rs := [3]) (by kernel_rfl) (by simp) ?_
                refine AllReady.cons rfl (fun K hK => ?_) ?_
                ·
                  go_simp
                  refine hK _ _ ?_; clear hK K
                  refine wpAny_ready (rs := [4]) (by kernel_rfl) (by simp) ?_
                  refine AllReady.cons rfl (fun K hK => ?_) ?_
                  ·
                    go_simp
                    refine hK _ _ ?_; clear hK K
                    refine wpAny_done (by kernel_rfl) ?_ _
                    gi_wp2
                    go_roundw
                    case rel => exact ⟨m + 1, _, by go_num, by omega, Lib.hid HN.out.1, Lib.hid HN.out.2.1, Lib.hid HN.out.2.2⟩
                    case measure => simp [intOf]; omega
                  exact AllReady.nil
                exact AllReady.nil
              exact AllReady.nil
            exact AllReady.nil
          refine AllReady.cons rfl (fun K hK => ?_) ?_
          ·
            go_simp
            refine hK _ _ ?_; clear hK K
            refine wpAny_ready (rs := [0, 2]) (by kernel_rfl) (by simp) ?_
            refine AllReady.cons rfl (fun K hK => ?_) ?_
            ·
              go_simp
              refine hK _ _ ?_; clear hK K
              refine wpAny_ready (rs := [2]) (by kernel_rfl) (by simp) ?_
              refine AllReady.cons rfl (fun K hK => ?_) ?_
              ·
                go_simp
                go_wp2_with ((go_at_call 44; refine (HVz.out _).mono ?_; rintro e wq ⟨rfl, rfl⟩))
                first | (refine hK _ _ ?_; clear hK K) | skip
                refine wpAny_ready (rs := [3]) (by kernel_rfl) (by simp) ?_
                refine AllReady.cons rfl (fun K hK => ?_) ?_
                ·
                  go_simp
                  refine hK _ _ ?_; clear hK K
                  refine wpAny_ready (rs := [4]) (by kernel_rfl) (by simp) ?_
                  refine AllReady.cons rfl (fun K hK => ?_) ?_
                  ·
                    go_simp
                    refine hK _ _ ?_; clear hK K
                    refine wpAny_done (by kernel_rfl) ?_ _
                    gi_wp2
                    go_roundw
                    case rel => exact ⟨m + 1, _, by go_num, by omega, Lib.hid HN.out.1, Lib.hid HN.out.2.1, Lib.hid HN.out.2.2⟩
                    case measure => simp [intOf]; omega
                  exact AllReady.nil
                exact AllReady.nil
              exact AllReady.nil
            refine AllReady.cons rfl (fun K hK => ?_) ?_
            ·
              go_simp
              go_wp2_with ((go_at_call 44; refine (HVz.out _).mono ?_; rintro e wq ⟨rfl, rfl⟩))
              first | (refine hK _ _ ?_; clear hK K) | skip
              refine wpAny_ready (rs := [0]) (by kernel_rfl) (by simp) ?_
              refine AllReady.cons rfl (fun K hK => ?_) ?_
              ·
                go_simp
                refine hK _ _ ?_; clear hK K
                refine wpAny_ready (rs := [3]) (by kernel_rfl) (by simp) ?_
                refine AllReady.cons rfl (fun K hK => ?_) ?_
                ·
                  go_simp
                  refine hK _ _ ?_; clear hK K
                  refine wpAny_ready (rs := [4]) (by kernel_rfl) (by simp) ?_
                  refine AllReady.cons rfl (fun K hK => ?_) ?_
                  ·
                    go_simp
                    refine hK _ _ ?_; clear hK K
                    refine wpAny_done (by kernel_rfl) ?_ _
                    gi_wp2
                    go_roundw
                    case rel => exact ⟨m + 1, _, by go_num, by omega, Lib.hid HN.out.1, Lib.hid HN.out.2.1, Lib.hid HN.out.2.2⟩
                    case measure => simp [intOf]; omega
                  exact AllReady.nil
                exact AllReady.nil
              exact AllReady.nil
            exact AllReady.nil
          exact AllReady.nil
        · have tm : decide ((m : Int) < (rl.length : Int)) = false := decide_eq_false (by omega)
          have HFIN := Lib.hid (HFINS.out wr f' (HK7.out.trans hKm.out (fun y hy => .inl hy)) hRm.out hBm.out)
          clear hRm hBm hKm
          gi_wp2
          exact HFIN.out
  case done =>
    rintro D ys W hDs hys ⟨f, hRf, hBf, hKf⟩ hK
    have hsz := HSZ.out
    have hDW := (Array.getElem?_eq_some_iff.1 hK).1
    have hx5 : W.cell? ⟨x5, 0, none⟩ = some (.slice (some ⟨g1, 0, none⟩) 1 1) := (hKf.out.cell (p := ⟨x5, 0, none⟩) (by show x5 < _; omega) (by show ¬ x5 = gn; omega)).trans HYX.out.2.2.1
    have hg1 : W.cell? ⟨g1, 0, none⟩ = some (.int .i32 l) := (hKf.out.cell (p := ⟨g1, 0, none⟩) (by show g1 < _; omega) (by show ¬ g1 = gn; omega)).trans HYX.out.2.1
    have hgr := grownBy_putObj' W D (.deferred none)
    have hfin : BlaTo l w (.returned (.slice (some ⟨g1, 0, none⟩) 1 1)) (W.putObj D (.deferred none)) := by
      refine ⟨g1, 1, rfl, ⟨rfl, fun _ => ⟨g1, 0, rfl, ?_, fun j hj => ?_⟩⟩, by omega, ?_⟩
      · have := hgr.size; have := hKf.out.size; omega
      · obtain rfl : j = 0 := by omega
        rw [World.cell?_of_block (a := ⟨g1, 0, none⟩) (hgr.block g1 (by have := hKf.out.size; omega) (fun e => by injection e with e; omega))]
        exact hg1
      · exact (HBW6.out.trans (hKf.out.below (B := w.heap.size) HBW6.out.size (fun x hx => by rw [hx]; omega))).grown hgr (Nat.le_trans HBW6.out.size hKf.out.size) (fun j e => by injection e with e; have := HBW6.out.size; omega)
    have HFIN := Lib.hid hfin
    clear hfin hg1 hRf hBf hKf hys hsz hDW hgr
    gi_wp2
    go_wp2_with fail
    refine ⟨by simp, .inl ⟨_, _, rfl, run_takeDeferred hK, ?_⟩⟩
    exact ⟨_, by simp [results, Tryz.results81, go_sem], HFIN.out⟩
  case stop =>
    rintro D c pre W _ _ hF
    exact hF.elim
end
end Go.Proofs.YtfllhfhcmoemeaaGreat
