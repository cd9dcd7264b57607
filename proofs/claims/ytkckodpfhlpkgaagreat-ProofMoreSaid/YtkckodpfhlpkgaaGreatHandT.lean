/- A hand's take and walk: contracts. -/
import Derived.Test.YtkckodpfhlpkgaaGreatHandP
namespace Go.Proofs.YtkckodpfhlpkgaaGreat
open Go.RowKit LitM TrailM EngM

section
variable {B n nx k : Nat} {w0 w w' : World} {h : HdC} {c c' : TmC} {S S' : Eng} {q q' : Pm} {m : List Int → Nat}
theorem HOk.mono (H : HOk h c S n nx k m) {nx' k' : Nat} (h1 : nx ≤ nx') (h2 : k ≤ k') : HOk h c S n nx' k' m :=
  ⟨H.t, H.len, H.ok, H.pl, H.cv, fun ys z a b => Nat.lt_of_lt_of_le (H.nx ys z a b) h1, Nat.le_trans H.sz.1 h2, Nat.le_trans H.sz.2.1 h2, fun s => Nat.le_trans (H.sz.2.2 s) h2⟩
/-- A store of nil among the causes. -/
theorem HdG.cset (H : HdG B w0 w h c S q) {gA i : Nat} (hA : h.Ac = some ⟨gA, 0, none⟩) (hi : i < h.nc) : HdG B w0 (w.setCell ⟨gA, i, none⟩ (.slice none 0 0)) h c S q := by
  have hlc := H.lc gA (by rw [hA, onB_some])
  have hk : Kf (fun j => j = gA) w (w.setCell ⟨gA, i, none⟩ (.slice none 0 0)) := (Kf.refl (fun j => j = gA) w).set (p := ⟨gA, i, none⟩) (.inl rfl) _
  have stay : ∀ {j}, h.hl j ≠ .no → h.hl j ≠ .crow → (w.setCell ⟨gA, i, none⟩ (.slice none 0 0)).heap[j]? = w.heap[j]? := fun h1 h2 => hk.block _ (H.lo _ h1).2.2.2 (fun e => h2 (by rw [e]; exact hlc))
  refine ⟨H.tmk hk (fun j e => .inl (by rw [e, hlc]; intro e; cases e)), ?_, H.mp.same (stay (by rw [H.lm]; intro e; cases e) (by rw [H.lm]; intro e; cases e)), ?_, fun s => (H.ls s).same fun j hj => stay (by rw [H.ll s j hj]; intro e; cases e) (by rw [H.ll s j hj]; intro e; cases e), H.lh, H.lm, H.lc, H.ll, fun j hj => ?_, H.tr⟩
  · rw [stay (by rw [H.lh]; intro e; cases e) (by rw [H.lh]; intro e; cases e)]; exact H.hh
  · obtain ⟨g2, e, hr⟩ := H.cr.row (by omega)
    rw [hA] at e; injection e with e; injection e with e; subst e
    exact .inr ⟨gA, hA, (hr.set (show i < h.nc * 1 by omega) _).congr fun j _ => by unfold updV; split <;> rfl⟩
  · have := H.lo j hj
    exact ⟨this.1, this.2.1, this.2.2.1, Nat.lt_of_lt_of_le this.2.2.2 hk.size⟩
theorem HdG.lset (H : HdG B w0 w h c S q) (v : Int) : HdG B w0 (w.setCell ⟨h.bh, 4, none⟩ (.int .i64 v)) { h with last := v } c S q := by
  have hk : Kf (fun j => j = h.bh) w (w.setCell ⟨h.bh, 4, none⟩ (.int .i64 v)) := (Kf.refl (fun j => j = h.bh) w).set (p := ⟨h.bh, 4, none⟩) (.inl rfl) _
  have stay : ∀ {j}, h.hl j ≠ .no → h.hl j ≠ .hand → (w.setCell ⟨h.bh, 4, none⟩ (.int .i64 v)).heap[j]? = w.heap[j]? := fun h1 h2 => hk.block _ (H.lo _ h1).2.2.2 (fun e => h2 (by rw [e]; exact H.lh))
  refine ⟨H.tmk hk (fun j e => .inl (by rw [e, H.lh]; intro e; cases e)), ?_, H.mp.same (stay (by rw [H.lm]; intro e; cases e) (by rw [H.lm]; intro e; cases e)), H.cr.same fun j hj => stay (by rw [H.lc j hj]; intro e; cases e) (by rw [H.lc j hj]; intro e; cases e), fun s => (H.ls s).same fun j hj => stay (by rw [H.ll s j hj]; intro e; cases e) (by rw [H.ll s j hj]; intro e; cases e), H.lh, H.lm, H.lc, H.ll, fun j hj => ?_, H.tr⟩
  · show (w.setCell ⟨h.bh, 4, none⟩ (.int .i64 v)).heap[h.bh]? = _
    rw [Lib.heap_setCell_same H.hh]; rfl
  · have := H.lo j hj
    exact ⟨this.1, this.2.1, this.2.2.1, Nat.lt_of_lt_of_le this.2.2.2 hk.size⟩
theorem few_clean {xs ys : List Int} (hc : IsClean xs ys) (hl : xs.length ≤ 10000) : ys.length ≤ 10000 := Nat.le_trans (clean_le hc) hl
theorem few_all {xs : List Int} (hf : ∀ x ∈ xs, LitM.one x = true ∧ varZ x ≤ (n : Int)) : allOne xs = true := List.all_eq_true.2 fun x hx => (hf x hx).1
/-- What take leaves. -/
def TakTo (B : Nat) (w0 : World) (h : HdC) (c : TmC) (n nx k : Nat) (m : List Int → Nat) (st : Bool × List Int) (e : Ending) (w' : World) : Prop :=
  (e = .returned (.bool false) ∧ ¬ StepOk m st ∧ B ≤ w'.heap.size ∧ Below B w0 w') ∨
  (e = .returned (.bool true) ∧ StepOk m st ∧ ∃ h' c' S' q', HdG B w0 w' h' c' S' q' ∧ HOk h' c' S' n nx (k + 1) (nextM m st) ∧ (h'.bh = h.bh ∧ h'.given = h.given ∧ h'.nc = h.nc ∧ c'.np = c.np ∧ c'.room = c.room))
set_option maxHeartbeats 6400000 in
set_option maxRecDepth 100000 in
theorem htake_gone (H : HdG B w0 w h c S q) (HO : HOk h c S n nx k m) (hnp : c.np ≤ 90000) (hk : k ≤ 15000) (hnx2 : nx ≤ c.np) (i : Int) (A : Option Addr) (mm cp : Nat) (xs : List Int) (hr : Rd .i32 w0 B A mm xs) (hm : mm ≤ 10000) (hf : ∀ x ∈ xs, LitM.one x = true ∧ varZ x ≤ (n : Int)) :
    Calls Tryz.prog 19 #[.pointer (some ⟨h.bh, 0, none⟩), .int .i64 i, .agg #[.bool true, .slice A mm cp]] w (TakTo B w0 h c n nx k m (true, xs)) := by
  have hl := hr.len
  obtain ⟨W, hW⟩ : ∃ W, W = w.alloc (.cells #[.bool true, .slice A mm cp] 41) := ⟨_, rfl⟩
  have hbW : Below w.heap.size w W := by rw [hW]; exact (Below.refl _ _).alloc (Nat.le_refl _) _
  have H1 := H.below hbW
  have hr1 : Rd .i32 W W.heap.size A mm xs := (hr.below H1.tm.eng.out).more H1.tm.eng.hs
  have HR := Lib.hid (hremove_any (n := n) H1 HO.t (Nat.le_trans HO.sz.1 (by omega)) hnp (by have := HO.sz.2.1; omega) (fun s => by have := HO.sz.2.2 s; omega) A mm cp xs hr1 (by omega) (few_all hf) (fun ys hc => few_clean hc (by omega)) (fun ys hc z r hz => by
    have ho := OkC.of hc hf
    have hmm : m ys ≠ 0 := by rw [← HO.len ys ho, hz]; simp
    obtain ⟨z', r', id, a1, a2, a3, a4, a5⟩ := HO.pl ys hmm
    rw [hz] at a1
    injection a1 with a1 _
    subst a1
    exact ⟨Nat.lt_of_lt_of_le (HO.nx ys z ho (by rw [hz]; simp)) hnx2, id, a2, a3, a4⟩))
  have HRes : Hid (∀ e w', HRem B w0 W h c S q n xs e w' → ∃ b, e = .returned (.bool b) ∧ TakTo B w0 h c n nx k m (true, xs) e w') := fun e w' ht => by
    obtain ⟨ys, hc, ht⟩ := ht
    have ho := OkC.of hc hf
    have hcz : clZ xs = ys := clZ_eq hc
    have hlen := HO.len ys ho
    rcases ht with ⟨hz, he, hb⟩ | ⟨z, hz, he, h', s, q', a1, a2, id, a3, a4, a5, a6, _, _⟩ | ⟨hz, he, h', a1, a5, a6, _, _⟩
    · refine ⟨false, he, .inl ⟨he, fun hs => ?_, Nat.le_trans H1.tm.eng.hs hb.size, H1.tm.eng.out.trans (hb.mono H1.tm.eng.hs)⟩⟩
      have hs : m (clZ xs) ≠ 0 := by simpa [StepOk] using hs
      rw [hcz, ← hlen, hz] at hs
      exact hs rfl
    · refine ⟨true, he, .inr ⟨he, ?_, h', _, _, q', a1, ?_, a5.1, a5.2.2.2.1, a5.2.2.2.2.1, rfl, rfl⟩⟩
      · have : m (clZ xs) ≠ 0 := by rw [hcz, ← hlen, hz]; simp
        simpa [StepOk] using this
      · have := HO.gone ho hz a3 a4 a2 a6 a5.2.2.1
        unfold nextM
        rw [if_pos rfl, hcz]
        exact this.mono (Nat.le_refl _) (Nat.le_succ _)
    · refine ⟨true, he, .inr ⟨he, ?_, h', c, S, q, a1, ?_, a5.1, a5.2.2.2.1, a5.2.2.2.2.1, rfl, rfl⟩⟩
      · have : m (clZ xs) ≠ 0 := by rw [hcz, ← hlen]; omega
        simpa [StepOk] using this
      · have := HO.fewer ho hz a6 a5.2.2.1
        unfold nextM
        rw [if_pos rfl, hcz]
        exact this
  have HW := Lib.hid hW
  clear H HO hr hm hf hl H1 hr1 hbW hW
  go_enter Tryz.func19, Tryz.ntmps19
  go_upto_region 1 with (fail)
  rw [← HW.out]
  have x0 : W.cell? ⟨w.heap.size, 0, none⟩ = some (.bool true) := by rw [HW.out, Lib.cell_of_heap (blk_new w _)]; rfl
  have x1 : W.cell? ⟨w.heap.size, 1, none⟩ = some (.slice A mm cp) := by rw [HW.out, Lib.cell_of_heap (blk_new w _)]; rfl
  go_wp2_with fail
  refine HR.out.mono ?_
  intro e w' ht
  obtain ⟨b, rfl, hfin⟩ := HRes.out e w' ht
  have HFin := Lib.hid hfin
  clear ht hfin HR HRes
  go_wp2_with fail
  go_ret
  exact HFin.out
set_option maxHeartbeats 12800000 in
set_option maxRecDepth 100000 in
theorem htake_more (H : HdG B w0 w h c S q) (HO : HOk h c S n nx k m) (hroom : c.room = 1048576) (hnp : c.np ≤ 90000) (hk : k ≤ 15000) {G : Nat} (hG : h.given = (G : Int)) (i : Nat) (hnx : nx ≤ G + i) (hnum : G + i < c.np) (hi : i < h.nc) (A : Option Addr) (mm cp : Nat) (xs : List Int) (hr : Rd .i32 w0 B A mm xs) (h32 : In32 xs) (hm : mm ≤ 10000) (hf : ∀ x ∈ xs, LitM.one x = true ∧ varZ x ≤ (n : Int)) :
    Calls Tryz.prog 19 #[.pointer (some ⟨h.bh, 0, none⟩), .int .i64 (i : Nat), .agg #[.bool false, .slice A mm cp]] w (TakTo B w0 h c n (G + i + 1) k m (false, xs)) := by
  have hl := hr.len
  obtain ⟨W, hW⟩ : ∃ W, W = w.alloc (.cells #[.bool false, .slice A mm cp] 41) := ⟨_, rfl⟩
  have hbW : Below w.heap.size w W := by rw [hW]; exact (Below.refl _ _).alloc (Nat.le_refl _) _
  have H1 := H.below hbW
  have hrd : ∀ {V : World} {c2 : TmC} {S2 : Eng} {q2 : Pm} {h2 : HdC}, HdG B w0 V h2 c2 S2 q2 → Rd .i32 V V.heap.size A mm xs := fun hV => (hr.below hV.tm.eng.out).more hV.tm.eng.hs
  have hgl : 0 < mm → ∀ j, onB A j → j < B := fun h0 j hj => by
    obtain ⟨g, o, e, hg, _⟩ := hr.at_ h0
    rw [e, onB_some] at hj
    rw [hj]; exact hg
  have HFl : Hid (∀ V, Below W.heap.size W V → Calls Tryz.prog 14 #[.pointer (some ⟨c.bt, 0, none⟩), .slice A mm cp] V fun e w' => ∃ b, e = .returned (.bool b) ∧ SetTo B w0 W c S q n false w' ∧ (b = true ↔ Rup (hasE S) xs)) := fun V hV => by
    have H2 := H1.below hV
    refine (tfollows_any (n := n) H2.tm HO.t (Nat.le_trans HO.sz.1 (by omega)) A mm cp xs (hrd H2) h32 (by omega) (fun h0 j hj => ?_) hf (fun e => by rw [H2.tr] at e; cases e)).mono fun e w' ⟨b, he, ⟨s, kk, d, S2, q2, a1, a2, a3⟩, hrup⟩ => ⟨b, he, ⟨s, kk, d, S2, q2, a1, (TExt.below hV).trans a2, a3⟩, hrup⟩
    have hj := hgl h0 j hj
    refine ⟨Nat.lt_of_lt_of_le hj H2.tm.eng.hs, Classical.byContradiction fun e => ?_, Classical.byContradiction fun e => ?_⟩
    · have := H2.tm.eng.own j e; omega
    · have := (H2.tm.lo j e).2.1; omega
  have HAd : Hid (∀ {V : World} {c2 : TmC} {S2 : Eng} {q2 : Pm} {h2 : HdC}, HdG B w0 V h2 c2 S2 q2 → HOk h2 c2 S2 n nx k m → c2.room = 1048576 → c2.np = c.np → Calls Tryz.prog 30 #[.pointer (some ⟨h2.bh, 0, none⟩), .int .i64 (IntKind.i64.wrap ((G : Int) + (i : Int))), .slice A mm cp] V fun e w' => e = .returned (.tuple #[]) ∧ ∃ h' c' S' q', HdG B w0 w' h' c' S' q' ∧ HOk h' c' S' n (G + i + 1) (k + 1) (incM m (clZ xs)) ∧ (h'.bh = h2.bh ∧ h'.given = h2.given ∧ h'.nc = h2.nc ∧ c'.np = c2.np ∧ c'.room = c2.room)) := fun {V c2 S2 q2 h2} HV HOV hr2 hn2 => by
    rw [show IntKind.i64.wrap ((G : Int) + (i : Int)) = ((G + i : Nat) : Int) by rw [show IntKind.i64.wrap ((G : Int) + (i : Int)) = (G : Int) + (i : Int) from IntWalk.i64_in _ (by omega)]; omega]
    refine (hadd_any HV (Nat.le_trans HOV.sz.1 (by omega)) hr2 (G + i) (by omega) (by omega) (by have := HOV.sz.2.1; omega) (fun s => by have := HOV.sz.2.2 s; omega) A mm cp xs (hrd HV) h32 (by omega) (few_all hf) (fitsB_iff.2 fun x hx => ⟨(hf x hx).1, by have := (hf x hx).2; have := HOV.t.E.nn; omega⟩) (fun ys hc => few_clean hc (by omega))).mono fun e w' ⟨he, ht⟩ => ⟨he, ?_⟩
    obtain ⟨ys, h', c', S', q', hc, a1, a2, a3, a4, _, _⟩ := ht
    have ho := OkC.of hc hf
    rw [clZ_eq hc]
    rcases a4 with ⟨b1, rfl, rfl⟩ | ⟨b1, rfl, An, cn, tl, rfl⟩
    · exact ⟨h', c', S', q', a1, HOV.again ho b1 hnx a3 a2.2.2.1, a2.1, a2.2.2.2.1, a2.2.2.2.2.1, rfl, rfl⟩
    · exact ⟨h', _, _, q', a1, HOV.first ho b1 hnx a3 a2.2.2.1 a1.tm.eng.inv, a2.1, a2.2.2.2.1, a2.2.2.2.2.1, rfl, rfl⟩
  have hfr : q.own w.heap.size = .no ∧ c.tl w.heap.size = .no := ⟨H.tm.eng.fresh (Nat.le_refl _), Classical.byContradiction fun e => by have := (H.tm.lo _ e).2.2; omega⟩
  have hWl : w.heap.size < W.heap.size := by rw [hW]; simp
  have x0 : W.cell? ⟨w.heap.size, 0, none⟩ = some (.bool false) := by rw [hW, Lib.cell_of_heap (blk_new w _)]; rfl
  have x1 : W.cell? ⟨w.heap.size, 1, none⟩ = some (.slice A mm cp) := by rw [hW, Lib.cell_of_heap (blk_new w _)]; rfl
  have hhl : h.hl w.heap.size = .no := Classical.byContradiction fun e => by have := (H.lo _ e).2.2.2; omega
  have HX1 : Hid (∀ {V q2}, TExt c.tl q q2 W V → V.cell? ⟨w.heap.size, 1, none⟩ = some (.slice A mm cp)) := fun {V q2} hx => (hx.kf.cell (p := ⟨w.heap.size, 1, none⟩) hWl (fun e => by rcases e with e | e; exact e hfr.1; exact e hfr.2)).trans x1
  obtain ⟨_, d1, _⟩ := H1.cells
  have HIW := Lib.hid (show Rup (hasE S) xs ↔ StepOk m (false, xs) from by
    unfold StepOk
    rw [if_neg (by simp)]
    exact Rup.iff HO.has)
  have HRM := Lib.hid hroom
  have HOK := Lib.hid HO
  have HH1 := Lib.hid H1
  have HGV := Lib.hid hG
  have HHL := Lib.hid hhl
  have HW := Lib.hid hW
  have hb5 : Below W.heap.size W W.drew := (Below.refl _ _).drew
  clear H HO hr hf hl H1 hbW hW hrd hgl hroom hG hhl hnx h32
  go_enter Tryz.func19, Tryz.ntmps19
  go_upto_region 1 with (fail)
  rw [← HW.out]
  go_upto_region 3 with (fail)
  refine wp_region_any (by kernel_rfl) ?_
  change wpAny _ _ _ _ _ _ _ (World.drew _)
  refine wpAny_take (i := 0) (v := ?_) rfl (by kernel_rfl) (by kernel_rfl) (by kernel_rfl) (fun _ _ _ h => h) (Or.inl ⟨by kernel_rfl, ?_⟩) ?_
  rotate_left 1
  · (intro w; go_simp <;> with_reducible rfl)
  go_simp
  refine wpAny_take (i := 1) (v := ?_) rfl (by kernel_rfl) (by kernel_rfl) (by kernel_rfl) (fun _ _ _ h => h) (Or.inl ⟨by kernel_rfl, ?_⟩) ?_
  rotate_left 1
  · (intro w; go_simp <;> with_reducible rfl)
  go_simp
  refine wpAny_take (i := 2) (v := ?_) rfl (by kernel_rfl) (by kernel_rfl) (by kernel_rfl) (fun _ _ _ h => h) (Or.inl ⟨by kernel_rfl, ?_⟩) ?_
  rotate_left 1
  · (intro w; go_simp <;> with_reducible rfl)
  go_simp
  refine wpAny_take (i := 4) (v := ?_) rfl (by kernel_rfl) (by kernel_rfl) (by kernel_rfl) (fun _ _ _ h => h) (Or.inl ⟨by kernel_rfl, ?_⟩) ?_
  rotate_left 1
  · (intro w; go_simp <;> with_reducible rfl)
  go_simp
  refine wpAny_ready (rs := [3, 5]) (by kernel_rfl) (by simp) ?_
  refine AllReady.cons rfl (fun K hK => ?_) ?_
  ·
    go_simp
    refine hK _ _ ?_; clear hK K
    refine wpAny_ready (rs := [5]) (by kernel_rfl) (by simp) ?_
    refine AllReady.cons rfl (fun K hK => ?_) ?_
    ·
      go_simp
      refine hK _ _ ?_; clear hK K
      refine wpAny_ready (rs := [6]) (by kernel_rfl) (by simp) ?_
      refine AllReady.cons rfl (fun K hK => ?_) ?_
      ·
        go_simp
        go_wp2_with (first | (go_at_call 14; refine (HFl.out _ (by assumption)).mono ?_; rintro e w2 ⟨b, rfl, hset, hrup⟩))
        first | (refine hK _ _ ?_; clear hK K) | skip
        refine wpAny_take (i := 7) (v := ?_) rfl (by kernel_rfl) (by kernel_rfl) (by kernel_rfl) (fun _ _ _ h => h) (Or.inl ⟨by kernel_rfl, ?_⟩) ?_
        rotate_left 1
        · (intro w; go_simp <;> with_reducible rfl)
        go_simp
        refine wpAny_done (by kernel_rfl) ?_ _
        clear HFl hb5
        have HRU := Lib.hid (hrup.trans HIW.out)
        obtain ⟨s, kk, d, S2, q2, hT, hx, hok, hal, _⟩ := hset
        have H2 := HH1.out.team hT hx rfl (fun _ _ => rfl)
        have HO2 := HOK.out.alike hal hok
        have y1 := HX1.out hx
        clear hT hok hrup
        cases b with
        | false =>
          have HFin : Hid (TakTo B w0 h c n (G + i + 1) k m (false, xs) (.returned (.bool false)) w2) := .inl ⟨rfl, fun e => (by cases HRU.out.2 e), H2.tm.eng.hs, H2.tm.eng.out⟩
          clear H2 HO2 hal hx y1
          go_wp2_with fail
          go_ret
          exact HFin.out
        | true =>
          obtain ⟨c2, hc2⟩ : ∃ c2 : TmC, c2 = { c with settled := s, stuck := kk, depth := d } := ⟨_, rfl⟩
          have hroom2 : c2.room = c.room := by rw [hc2]
          have hnp2 : c2.np = c.np := by rw [hc2]
          rw [← hc2] at H2 HO2
          obtain ⟨gA, hgA, hrowA⟩ := H2.cr.row (show 0 < h.nc by omega)
          have H4 := (H2.cset hgA hi).lset (i : Int)
          have hxne1 : w.heap.size ≠ gA := fun e => by have := H2.lc gA (by rw [hgA, onB_some]); rw [← e, HHL.out] at this; cases this
          have hxne2 : w.heap.size ≠ h.bh := fun e => by have := H2.lh; rw [← e, HHL.out] at this; cases this
          obtain ⟨d0, d1, d2, d3, d4, df⟩ := H2.cells
          have t9 : w2.cell? ⟨c2.bt, 9, none⟩ = some (.slice none 0 0) := by rw [Lib.cell_of_heap H2.tm.th]; rfl
          rw [hgA] at d3
          have hcA := hrowA.cell (show i < h.nc * 1 by omega)
          have hfA := hrowA.free i
          have hgbh : gA ≠ h.bh := fun e => by have := H2.lc gA (by rw [hgA, onB_some]); rw [e, H2.lh] at this; cases this
          have i4 : (w2.setCell ⟨gA, i, none⟩ (.slice none 0 0)).cell? ⟨h.bh, 4, none⟩ = some (.int .i64 h.last) := by rw [World.cell?_setCell_far _ _ _ _ (by exact hgbh)]; exact d4
          obtain ⟨hbA1, hbA2⟩ := hrowA.bd
          have z1 : ((w2.setCell ⟨gA, i, none⟩ (.slice none 0 0)).setCell ⟨h.bh, 4, none⟩ (.int .i64 (i : Nat))).cell? ⟨w.heap.size, 1, none⟩ = some (.slice A mm cp) := by
            rw [World.cell?_setCell_far _ _ _ _ (by exact fun e => hxne2 e.symm), World.cell?_setCell_far _ _ _ _ (by exact fun e => hxne1 e.symm)]; exact y1
          have HO4 := Lib.hid (HO2.lists (h' := { h with last := (i : Int) }) rfl rfl)
          have HR2 := Lib.hid (hroom2.trans HRM.out)
          have HN2 := Lib.hid hnp2
          obtain ⟨w4, hw4⟩ : ∃ w4, w4 = (w2.setCell ⟨gA, i, none⟩ (.slice none 0 0)).setCell ⟨h.bh, 4, none⟩ (.int .i64 (i : Nat)) := ⟨_, rfl⟩
          rw [← hw4] at H4 z1
          have HW4 := Lib.hid hw4
          have H4h := Lib.hid H4
          clear H2 HO2 hrowA hal hx y1 hw4 hroom2 hnp2 hc2 H4 hxne1 hxne2 hgbh
          go_upto_region 5 with (fail)
          refine wp_region_any (by kernel_rfl) ?_
          change wpAny _ _ _ _ _ _ _ (World.drew _)
          refine wpAny_take (i := 0) (v := ?_) rfl (by kernel_rfl) (by kernel_rfl) (by kernel_rfl) (fun _ _ _ h => h) (Or.inl ⟨by kernel_rfl, ?_⟩) ?_
          rotate_left 1
          · (intro w; go_simp <;> with_reducible rfl)
          go_simp
          refine wpAny_take (i := 1) (v := ?_) rfl (by kernel_rfl) (by kernel_rfl) (by kernel_rfl) (fun _ _ _ h => h) (Or.inl ⟨by kernel_rfl, ?_⟩) ?_
          rotate_left 1
          · (intro w; go_simp <;> with_reducible rfl)
          go_simp
          refine wpAny_take (i := 2) (v := ?_) rfl (by kernel_rfl) (by kernel_rfl) (by kernel_rfl) (fun _ _ _ h => h) (Or.inl ⟨by kernel_rfl, ?_⟩) ?_
          rotate_left 1
          · (intro w; go_simp <;> with_reducible rfl)
          go_simp
          refine wpAny_take (i := 4) (v := ?_) rfl (by kernel_rfl) (by kernel_rfl) (by kernel_rfl) (fun _ _ _ h => h) (Or.inl ⟨by kernel_rfl, ?_⟩) ?_
          rotate_left 1
          · (intro w; go_simp <;> with_reducible rfl)
          go_simp
          refine wpAny_take (i := 5) (v := ?_) rfl (by kernel_rfl) (by kernel_rfl) (by kernel_rfl) (fun _ _ _ h => h) (Or.inl ⟨by kernel_rfl, ?_⟩) ?_
          rotate_left 1
          · (intro w; go_simp <;> with_reducible rfl)
          go_simp
          refine wpAny_take (i := 6) (v := ?_) rfl (by kernel_rfl) (by kernel_rfl) (by kernel_rfl) (fun _ _ _ h => h) (Or.inl ⟨by kernel_rfl, ?_⟩) ?_
          rotate_left 1
          · (intro w; go_simp <;> with_reducible rfl)
          go_simp
          refine wpAny_take (i := 7) (v := ?_) rfl (by kernel_rfl) (by kernel_rfl) (by kernel_rfl) (fun _ _ _ h => h) (Or.inl ⟨by kernel_rfl, ?_⟩) ?_
          rotate_left 1
          · (intro w; go_simp <;> with_reducible rfl)
          go_simp
          refine wpAny_ready (rs := [3, 8]) (by kernel_rfl) (by simp) ?_
          refine AllReady.cons rfl (fun K hK => ?_) ?_
          ·
            go_simp
            refine hK _ _ ?_; clear hK K
            refine wpAny_ready (rs := [8]) (by kernel_rfl) (by simp) ?_
            refine AllReady.cons rfl (fun K hK => ?_) ?_
            ·
              go_simp
              refine hK _ _ ?_; clear hK K
              refine wpAny_take (i := 9) (v := ?_) rfl (by kernel_rfl) (by kernel_rfl) (by kernel_rfl) (fun _ _ _ h => h) (Or.inl ⟨by kernel_rfl, ?_⟩) ?_
              rotate_left 1
              · (intro w; go_simp <;> with_reducible rfl)
              go_simp
              refine wpAny_take (i := 10) (v := ?_) rfl (by kernel_rfl) (by kernel_rfl) (by kernel_rfl) (fun _ _ _ h => h) (Or.inl ⟨by kernel_rfl, ?_⟩) ?_
              rotate_left 1
              · (intro w; go_simp <;> with_reducible rfl)
              go_simp
              refine wpAny_ready (rs := [11]) (by kernel_rfl) (by simp) ?_
              refine AllReady.cons rfl (fun K hK => ?_) ?_
              ·
                go_simp
                refine hK _ _ ?_; clear hK K
                refine wpAny_take (i := 12) (v := ?_) rfl (by kernel_rfl) (by kernel_rfl) (by kernel_rfl) (fun _ _ _ h => h) (Or.inl ⟨by kernel_rfl, ?_⟩) ?_
                rotate_left 1
                · (intro w; go_simp <;> with_reducible rfl)
                go_simp
                refine wpAny_ready (rs := [13]) (by kernel_rfl) (by simp) ?_
                refine AllReady.cons rfl (fun K hK => ?_) ?_
                ·
                  go_simp
                  refine hK _ _ ?_; clear hK K
                  refine wpAny_done (by kernel_rfl) ?_ _
                  go_upto_region 7 with (fail)
                  rw [← HW4.out]
                  obtain ⟨_, _, f2, _⟩ := H4h.out.cells
                  change w4.cell? ⟨h.bh, 2, none⟩ = some (.int .i64 h.given) at f2
                  rw [HGV.out] at f2
                  have HA5 := Lib.hid (fun V (hV : Below w4.heap.size w4 V) => HAd.out (H4h.out.below hV) HO4.out HR2.out HN2.out)
                  have hb7 : Below w4.heap.size w4 w4.drew.drew := (Below.refl _ _).drew.drew
                  clear HAd
                  refine wp_region_any (by kernel_rfl) ?_
                  change wpAny _ _ _ _ _ _ _ (World.drew _)
                  refine wpAny_take (i := 0) (v := ?_) rfl (by kernel_rfl) (by kernel_rfl) (by kernel_rfl) (fun _ _ _ h => h) (Or.inl ⟨by kernel_rfl, ?_⟩) ?_
                  rotate_left 1
                  · (intro w; go_simp <;> with_reducible rfl)
                  go_simp
                  refine wpAny_take (i := 1) (v := ?_) rfl (by kernel_rfl) (by kernel_rfl) (by kernel_rfl) (fun _ _ _ h => h) (Or.inl ⟨by kernel_rfl, ?_⟩) ?_
                  rotate_left 1
                  · (intro w; go_simp <;> with_reducible rfl)
                  go_simp
                  refine wpAny_take (i := 2) (v := ?_) rfl (by kernel_rfl) (by kernel_rfl) (by kernel_rfl) (fun _ _ _ h => h) (Or.inl ⟨by kernel_rfl, ?_⟩) ?_
                  rotate_left 1
                  · (intro w; go_simp <;> with_reducible rfl)
                  go_simp
                  refine wpAny_take (i := 3) (v := ?_) rfl (by kernel_rfl) (by kernel_rfl) (by kernel_rfl) (fun _ _ _ h => h) (Or.inl ⟨by kernel_rfl, ?_⟩) ?_
                  rotate_left 1
                  · (intro w; go_simp <;> with_reducible rfl)
                  go_simp
                  refine wpAny_take (i := 5) (v := ?_) rfl (by kernel_rfl) (by kernel_rfl) (by kernel_rfl) (fun _ _ _ h => h) (Or.inl ⟨by kernel_rfl, ?_⟩) ?_
                  rotate_left 1
                  · (intro w; go_simp <;> with_reducible rfl)
                  go_simp
                  refine wpAny_take (i := 7) (v := ?_) rfl (by kernel_rfl) (by kernel_rfl) (by kernel_rfl) (fun _ _ _ h => h) (Or.inl ⟨by kernel_rfl, ?_⟩) ?_
                  rotate_left 1
                  · (intro w; go_simp <;> with_reducible rfl)
                  go_simp
                  refine wpAny_ready (rs := [4, 8]) (by kernel_rfl) (by simp) ?_
                  refine AllReady.cons rfl (fun K hK => ?_) ?_
                  ·
                    go_simp
                    refine hK _ _ ?_; clear hK K
                    refine wpAny_take (i := 6) (v := ?_) rfl (by kernel_rfl) (by kernel_rfl) (by kernel_rfl) (fun _ _ _ h => h) (Or.inl ⟨by kernel_rfl, ?_⟩) ?_
                    rotate_left 1
                    · (intro w; go_simp <;> with_reducible rfl)
                    go_simp
                    refine wpAny_ready (rs := [8]) (by kernel_rfl) (by simp) ?_
                    refine AllReady.cons rfl (fun K hK => ?_) ?_
                    ·
                      go_simp
                      refine hK _ _ ?_; clear hK K
                      refine wpAny_ready (rs := [9]) (by kernel_rfl) (by simp) ?_
                      refine AllReady.cons rfl (fun K hK => ?_) ?_
                      ·
                        go_simp
                        go_wp2_with (first | (go_at_call 30; refine (HA5.out _ (by assumption)).mono ?_; rintro e w5 ⟨rfl, hfin⟩))
                        first | (refine hK _ _ ?_; clear hK K) | skip
                        refine wpAny_done (by kernel_rfl) ?_ _
                        have HFin : Hid (TakTo B w0 h c n (G + i + 1) k m (false, xs) (.returned (.bool true)) w5) := by
                          obtain ⟨h', c', S', q', b1, b2, b3⟩ := hfin
                          refine .inr ⟨rfl, by simpa using HRU.out, h', c', S', q', b1, ?_, b3.1, b3.2.1, b3.2.2.1, b3.2.2.2.1.trans HN2.out, b3.2.2.2.2.trans (HR2.out.trans HRM.out.symm)⟩
                          unfold nextM
                          rw [if_neg (by simp)]
                          exact b2
                        clear hfin HA5
                        go_wp2_with fail
                        go_ret
                        exact HFin.out
                      exact AllReady.nil
                    exact AllReady.nil
                  refine AllReady.cons rfl (fun K hK => ?_) ?_
                  ·
                    go_simp
                    refine hK _ _ ?_; clear hK K
                    refine wpAny_ready (rs := [4]) (by kernel_rfl) (by simp) ?_
                    refine AllReady.cons rfl (fun K hK => ?_) ?_
                    ·
                      go_simp
                      refine hK _ _ ?_; clear hK K
                      refine wpAny_take (i := 6) (v := ?_) rfl (by kernel_rfl) (by kernel_rfl) (by kernel_rfl) (fun _ _ _ h => h) (Or.inl ⟨by kernel_rfl, ?_⟩) ?_
                      rotate_left 1
                      · (intro w; go_simp <;> with_reducible rfl)
                      go_simp
                      refine wpAny_ready (rs := [9]) (by kernel_rfl) (by simp) ?_
                      refine AllReady.cons rfl (fun K hK => ?_) ?_
                      ·
                        go_simp
                        go_wp2_with (first | (go_at_call 30; refine (HA5.out _ (by assumption)).mono ?_; rintro e w5 ⟨rfl, hfin⟩))
                        first | (refine hK _ _ ?_; clear hK K) | skip
                        refine wpAny_done (by kernel_rfl) ?_ _
                        have HFin : Hid (TakTo B w0 h c n (G + i + 1) k m (false, xs) (.returned (.bool true)) w5) := by
                          obtain ⟨h', c', S', q', b1, b2, b3⟩ := hfin
                          refine .inr ⟨rfl, by simpa using HRU.out, h', c', S', q', b1, ?_, b3.1, b3.2.1, b3.2.2.1, b3.2.2.2.1.trans HN2.out, b3.2.2.2.2.trans (HR2.out.trans HRM.out.symm)⟩
                          unfold nextM
                          rw [if_neg (by simp)]
                          exact b2
                        clear hfin HA5
                        go_wp2_with fail
                        go_ret
                        exact HFin.out
                      exact AllReady.nil
                    exact AllReady.nil
                  exact AllReady.nil
                exact AllReady.nil
              exact AllReady.nil
            exact AllReady.nil
          refine AllReady.cons rfl (fun K hK => ?_) ?_
          ·
            go_simp
            refine hK _ _ ?_; clear hK K
            refine wpAny_take (i := 9) (v := ?_) rfl (by kernel_rfl) (by kernel_rfl) (by kernel_rfl) (fun _ _ _ h => h) (Or.inl ⟨by kernel_rfl, ?_⟩) ?_
            rotate_left 1
            · (intro w; go_simp <;> with_reducible rfl)
            go_simp
            refine wpAny_take (i := 10) (v := ?_) rfl (by kernel_rfl) (by kernel_rfl) (by kernel_rfl) (fun _ _ _ h => h) (Or.inl ⟨by kernel_rfl, ?_⟩) ?_
            rotate_left 1
            · (intro w; go_simp <;> with_reducible rfl)
            go_simp
            refine wpAny_ready (rs := [3, 11]) (by kernel_rfl) (by simp) ?_
            refine AllReady.cons rfl (fun K hK => ?_) ?_
            ·
              go_simp
              refine hK _ _ ?_; clear hK K
              refine wpAny_ready (rs := [11]) (by kernel_rfl) (by simp) ?_
              refine AllReady.cons rfl (fun K hK => ?_) ?_
              ·
                go_simp
                refine hK _ _ ?_; clear hK K
                refine wpAny_take (i := 12) (v := ?_) rfl (by kernel_rfl) (by kernel_rfl) (by kernel_rfl) (fun _ _ _ h => h) (Or.inl ⟨by kernel_rfl, ?_⟩) ?_
                rotate_left 1
                · (intro w; go_simp <;> with_reducible rfl)
                go_simp
                refine wpAny_ready (rs := [13]) (by kernel_rfl) (by simp) ?_
                refine AllReady.cons rfl (fun K hK => ?_) ?_
                ·
                  go_simp
                  refine hK _ _ ?_; clear hK K
                  refine wpAny_done (by kernel_rfl) ?_ _
                  go_upto_region 7 with (fail)
                  rw [← HW4.out]
                  obtain ⟨_, _, f2, _⟩ := H4h.out.cells
                  change w4.cell? ⟨h.bh, 2, none⟩ = some (.int .i64 h.given) at f2
                  rw [HGV.out] at f2
                  have HA5 := Lib.hid (fun V (hV : Below w4.heap.size w4 V) => HAd.out (H4h.out.below hV) HO4.out HR2.out HN2.out)
                  have hb7 : Below w4.heap.size w4 w4.drew.drew := (Below.refl _ _).drew.drew
                  clear HAd
                  refine wp_region_any (by kernel_rfl) ?_
                  change wpAny _ _ _ _ _ _ _ (World.drew _)
                  refine wpAny_take (i := 0) (v := ?_) rfl (by kernel_rfl) (by kernel_rfl) (by kernel_rfl) (fun _ _ _ h => h) (Or.inl ⟨by kernel_rfl, ?_⟩) ?_
                  rotate_left 1
                  · (intro w; go_simp <;> with_reducible rfl)
                  go_simp
                  refine wpAny_take (i := 1) (v := ?_) rfl (by kernel_rfl) (by kernel_rfl) (by kernel_rfl) (fun _ _ _ h => h) (Or.inl ⟨by kernel_rfl, ?_⟩) ?_
                  rotate_left 1
                  · (intro w; go_simp <;> with_reducible rfl)
                  go_simp
                  refine wpAny_take (i := 2) (v := ?_) rfl (by kernel_rfl) (by kernel_rfl) (by kernel_rfl) (fun _ _ _ h => h) (Or.inl ⟨by kernel_rfl, ?_⟩) ?_
                  rotate_left 1
                  · (intro w; go_simp <;> with_reducible rfl)
                  go_simp
                  refine wpAny_take (i := 3) (v := ?_) rfl (by kernel_rfl) (by kernel_rfl) (by kernel_rfl) (fun _ _ _ h => h) (Or.inl ⟨by kernel_rfl, ?_⟩) ?_
                  rotate_left 1
                  · (intro w; go_simp <;> with_reducible rfl)
                  go_simp
                  refine wpAny_take (i := 5) (v := ?_) rfl (by kernel_rfl) (by kernel_rfl) (by kernel_rfl) (fun _ _ _ h => h) (Or.inl ⟨by kernel_rfl, ?_⟩) ?_
                  rotate_left 1
                  · (intro w; go_simp <;> with_reducible rfl)
                  go_simp
                  refine wpAny_take (i := 7) (v := ?_) rfl (by kernel_rfl) (by kernel_rfl) (by kernel_rfl) (fun _ _ _ h => h) (Or.inl ⟨by kernel_rfl, ?_⟩) ?_
                  rotate_left 1
                  · (intro w; go_simp <;> with_reducible rfl)
                  go_simp
                  refine wpAny_ready (rs := [4, 8]) (by kernel_rfl) (by simp) ?_
                  refine AllReady.cons rfl (fun K hK => ?_) ?_
                  ·
                    go_simp
                    refine hK _ _ ?_; clear hK K
                    refine wpAny_take (i := 6) (v := ?_) rfl (by kernel_rfl) (by kernel_rfl) (by kernel_rfl) (fun _ _ _ h => h) (Or.inl ⟨by kernel_rfl, ?_⟩) ?_
                    rotate_left 1
                    · (intro w; go_simp <;> with_reducible rfl)
                    go_simp
                    refine wpAny_ready (rs := [8]) (by kernel_rfl) (by simp) ?_
                    refine AllReady.cons rfl (fun K hK => ?_) ?_
                    ·
                      go_simp
                      refine hK _ _ ?_; clear hK K
                      refine wpAny_ready (rs := [9]) (by kernel_rfl) (by simp) ?_
                      refine AllReady.cons rfl (fun K hK => ?_) ?_
                      ·
                        go_simp
                        go_wp2_with (first | (go_at_call 30; refine (HA5.out _ (by assumption)).mono ?_; rintro e w5 ⟨rfl, hfin⟩))
                        first | (refine hK _ _ ?_; clear hK K) | skip
                        refine wpAny_done (by kernel_rfl) ?_ _
                        have HFin : Hid (TakTo B w0 h c n (G + i + 1) k m (false, xs) (.returned (.bool true)) w5) := by
                          obtain ⟨h', c', S', q', b1, b2, b3⟩ := hfin
                          refine .inr ⟨rfl, by simpa using HRU.out, h', c', S', q', b1, ?_, b3.1, b3.2.1, b3.2.2.1, b3.2.2.2.1.trans HN2.out, b3.2.2.2.2.trans (HR2.out.trans HRM.out.symm)⟩
                          unfold nextM
                          rw [if_neg (by simp)]
                          exact b2
                        clear hfin HA5
                        go_wp2_with fail
                        go_ret
                        exact HFin.out
                      exact AllReady.nil
                    exact AllReady.nil
                  refine AllReady.cons rfl (fun K hK => ?_) ?_
                  ·
                    go_simp
                    refine hK _ _ ?_; clear hK K
                    refine wpAny_ready (rs := [4]) (by kernel_rfl) (by simp) ?_
                    refine AllReady.cons rfl (fun K hK => ?_) ?_
                    ·
                      go_simp
                      refine hK _ _ ?_; clear hK K
                      refine wpAny_take (i := 6) (v := ?_) rfl (by kernel_rfl) (by kernel_rfl) (by kernel_rfl) (fun _ _ _ h => h) (Or.inl ⟨by kernel_rfl, ?_⟩) ?_
                      rotate_left 1
                      · (intro w; go_simp <;> with_reducible rfl)
                      go_simp
                      refine wpAny_ready (rs := [9]) (by kernel_rfl) (by simp) ?_
                      refine AllReady.cons rfl (fun K hK => ?_) ?_
                      ·
                        go_simp
                        go_wp2_with (first | (go_at_call 30; refine (HA5.out _ (by assumption)).mono ?_; rintro e w5 ⟨rfl, hfin⟩))
                        first | (refine hK _ _ ?_; clear hK K) | skip
                        refine wpAny_done (by kernel_rfl) ?_ _
                        have HFin : Hid (TakTo B w0 h c n (G + i + 1) k m (false, xs) (.returned (.bool true)) w5) := by
                          obtain ⟨h', c', S', q', b1, b2, b3⟩ := hfin
                          refine .inr ⟨rfl, by simpa using HRU.out, h', c', S', q', b1, ?_, b3.1, b3.2.1, b3.2.2.1, b3.2.2.2.1.trans HN2.out, b3.2.2.2.2.trans (HR2.out.trans HRM.out.symm)⟩
                          unfold nextM
                          rw [if_neg (by simp)]
                          exact b2
                        clear hfin HA5
                        go_wp2_with fail
                        go_ret
                        exact HFin.out
                      exact AllReady.nil
                    exact AllReady.nil
                  exact AllReady.nil
                exact AllReady.nil
              exact AllReady.nil
            refine AllReady.cons rfl (fun K hK => ?_) ?_
            ·
              go_simp
              refine hK _ _ ?_; clear hK K
              refine wpAny_ready (rs := [3]) (by kernel_rfl) (by simp) ?_
              refine AllReady.cons rfl (fun K hK => ?_) ?_
              ·
                go_simp
                refine hK _ _ ?_; clear hK K
                refine wpAny_take (i := 12) (v := ?_) rfl (by kernel_rfl) (by kernel_rfl) (by kernel_rfl) (fun _ _ _ h => h) (Or.inl ⟨by kernel_rfl, ?_⟩) ?_
                rotate_left 1
                · (intro w; go_simp <;> with_reducible rfl)
                go_simp
                refine wpAny_ready (rs := [13]) (by kernel_rfl) (by simp) ?_
                refine AllReady.cons rfl (fun K hK => ?_) ?_
                ·
                  go_simp
                  refine hK _ _ ?_; clear hK K
                  refine wpAny_done (by kernel_rfl) ?_ _
                  go_upto_region 7 with (fail)
                  rw [← HW4.out]
                  obtain ⟨_, _, f2, _⟩ := H4h.out.cells
                  change w4.cell? ⟨h.bh, 2, none⟩ = some (.int .i64 h.given) at f2
                  rw [HGV.out] at f2
                  have HA5 := Lib.hid (fun V (hV : Below w4.heap.size w4 V) => HAd.out (H4h.out.below hV) HO4.out HR2.out HN2.out)
                  have hb7 : Below w4.heap.size w4 w4.drew.drew := (Below.refl _ _).drew.drew
                  clear HAd
                  refine wp_region_any (by kernel_rfl) ?_
                  change wpAny _ _ _ _ _ _ _ (World.drew _)
                  refine wpAny_take (i := 0) (v := ?_) rfl (by kernel_rfl) (by kernel_rfl) (by kernel_rfl) (fun _ _ _ h => h) (Or.inl ⟨by kernel_rfl, ?_⟩) ?_
                  rotate_left 1
                  · (intro w; go_simp <;> with_reducible rfl)
                  go_simp
                  refine wpAny_take (i := 1) (v := ?_) rfl (by kernel_rfl) (by kernel_rfl) (by kernel_rfl) (fun _ _ _ h => h) (Or.inl ⟨by kernel_rfl, ?_⟩) ?_
                  rotate_left 1
                  · (intro w; go_simp <;> with_reducible rfl)
                  go_simp
                  refine wpAny_take (i := 2) (v := ?_) rfl (by kernel_rfl) (by kernel_rfl) (by kernel_rfl) (fun _ _ _ h => h) (Or.inl ⟨by kernel_rfl, ?_⟩) ?_
                  rotate_left 1
                  · (intro w; go_simp <;> with_reducible rfl)
                  go_simp
                  refine wpAny_take (i := 3) (v := ?_) rfl (by kernel_rfl) (by kernel_rfl) (by kernel_rfl) (fun _ _ _ h => h) (Or.inl ⟨by kernel_rfl, ?_⟩) ?_
                  rotate_left 1
                  · (intro w; go_simp <;> with_reducible rfl)
                  go_simp
                  refine wpAny_take (i := 5) (v := ?_) rfl (by kernel_rfl) (by kernel_rfl) (by kernel_rfl) (fun _ _ _ h => h) (Or.inl ⟨by kernel_rfl, ?_⟩) ?_
                  rotate_left 1
                  · (intro w; go_simp <;> with_reducible rfl)
                  go_simp
                  refine wpAny_take (i := 7) (v := ?_) rfl (by kernel_rfl) (by kernel_rfl) (by kernel_rfl) (fun _ _ _ h => h) (Or.inl ⟨by kernel_rfl, ?_⟩) ?_
                  rotate_left 1
                  · (intro w; go_simp <;> with_reducible rfl)
                  go_simp
                  refine wpAny_ready (rs := [4, 8]) (by kernel_rfl) (by simp) ?_
                  refine AllReady.cons rfl (fun K hK => ?_) ?_
                  ·
                    go_simp
                    refine hK _ _ ?_; clear hK K
                    refine wpAny_take (i := 6) (v := ?_) rfl (by kernel_rfl) (by kernel_rfl) (by kernel_rfl) (fun _ _ _ h => h) (Or.inl ⟨by kernel_rfl, ?_⟩) ?_
                    rotate_left 1
                    · (intro w; go_simp <;> with_reducible rfl)
                    go_simp
                    refine wpAny_ready (rs := [8]) (by kernel_rfl) (by simp) ?_
                    refine AllReady.cons rfl (fun K hK => ?_) ?_
                    ·
                      go_simp
                      refine hK _ _ ?_; clear hK K
                      refine wpAny_ready (rs := [9]) (by kernel_rfl) (by simp) ?_
                      refine AllReady.cons rfl (fun K hK => ?_) ?_
                      ·
                        go_simp
                        go_wp2_with (first | (go_at_call 30; refine (HA5.out _ (by assumption)).mono ?_; rintro e w5 ⟨rfl, hfin⟩))
                        first | (refine hK _ _ ?_; clear hK K) | skip
                        refine wpAny_done (by kernel_rfl) ?_ _
                        have HFin : Hid (TakTo B w0 h c n (G + i + 1) k m (false, xs) (.returned (.bool true)) w5) := by
                          obtain ⟨h', c', S', q', b1, b2, b3⟩ := hfin
                          refine .inr ⟨rfl, by simpa using HRU.out, h', c', S', q', b1, ?_, b3.1, b3.2.1, b3.2.2.1, b3.2.2.2.1.trans HN2.out, b3.2.2.2.2.trans (HR2.out.trans HRM.out.symm)⟩
                          unfold nextM
                          rw [if_neg (by simp)]
                          exact b2
                        clear hfin HA5
                        go_wp2_with fail
                        go_ret
                        exact HFin.out
                      exact AllReady.nil
                    exact AllReady.nil
                  refine AllReady.cons rfl (fun K hK => ?_) ?_
                  ·
                    go_simp
                    refine hK _ _ ?_; clear hK K
                    refine wpAny_ready (rs := [4]) (by kernel_rfl) (by simp) ?_
                    refine AllReady.cons rfl (fun K hK => ?_) ?_
                    ·
                      go_simp
                      refine hK _ _ ?_; clear hK K
                      refine wpAny_take (i := 6) (v := ?_) rfl (by kernel_rfl) (by kernel_rfl) (by kernel_rfl) (fun _ _ _ h => h) (Or.inl ⟨by kernel_rfl, ?_⟩) ?_
                      rotate_left 1
                      · (intro w; go_simp <;> with_reducible rfl)
                      go_simp
                      refine wpAny_ready (rs := [9]) (by kernel_rfl) (by simp) ?_
                      refine AllReady.cons rfl (fun K hK => ?_) ?_
                      ·
                        go_simp
                        go_wp2_with (first | (go_at_call 30; refine (HA5.out _ (by assumption)).mono ?_; rintro e w5 ⟨rfl, hfin⟩))
                        first | (refine hK _ _ ?_; clear hK K) | skip
                        refine wpAny_done (by kernel_rfl) ?_ _
                        have HFin : Hid (TakTo B w0 h c n (G + i + 1) k m (false, xs) (.returned (.bool true)) w5) := by
                          obtain ⟨h', c', S', q', b1, b2, b3⟩ := hfin
                          refine .inr ⟨rfl, by simpa using HRU.out, h', c', S', q', b1, ?_, b3.1, b3.2.1, b3.2.2.1, b3.2.2.2.1.trans HN2.out, b3.2.2.2.2.trans (HR2.out.trans HRM.out.symm)⟩
                          unfold nextM
                          rw [if_neg (by simp)]
                          exact b2
                        clear hfin HA5
                        go_wp2_with fail
                        go_ret
                        exact HFin.out
                      exact AllReady.nil
                    exact AllReady.nil
                  exact AllReady.nil
                exact AllReady.nil
              exact AllReady.nil
            exact AllReady.nil
          exact AllReady.nil
      exact AllReady.nil
    exact AllReady.nil
  refine AllReady.cons rfl (fun K hK => ?_) ?_
  ·
    go_simp
    refine hK _ _ ?_; clear hK K
    refine wpAny_ready (rs := [3]) (by kernel_rfl) (by simp) ?_
    refine AllReady.cons rfl (fun K hK => ?_) ?_
    ·
      go_simp
      refine hK _ _ ?_; clear hK K
      refine wpAny_ready (rs := [6]) (by kernel_rfl) (by simp) ?_
      refine AllReady.cons rfl (fun K hK => ?_) ?_
      ·
        go_simp
        go_wp2_with (first | (go_at_call 14; refine (HFl.out _ (by assumption)).mono ?_; rintro e w2 ⟨b, rfl, hset, hrup⟩))
        first | (refine hK _ _ ?_; clear hK K) | skip
        refine wpAny_take (i := 7) (v := ?_) rfl (by kernel_rfl) (by kernel_rfl) (by kernel_rfl) (fun _ _ _ h => h) (Or.inl ⟨by kernel_rfl, ?_⟩) ?_
        rotate_left 1
        · (intro w; go_simp <;> with_reducible rfl)
        go_simp
        refine wpAny_done (by kernel_rfl) ?_ _
        clear HFl hb5
        have HRU := Lib.hid (hrup.trans HIW.out)
        obtain ⟨s, kk, d, S2, q2, hT, hx, hok, hal, _⟩ := hset
        have H2 := HH1.out.team hT hx rfl (fun _ _ => rfl)
        have HO2 := HOK.out.alike hal hok
        have y1 := HX1.out hx
        clear hT hok hrup
        cases b with
        | false =>
          have HFin : Hid (TakTo B w0 h c n (G + i + 1) k m (false, xs) (.returned (.bool false)) w2) := .inl ⟨rfl, fun e => (by cases HRU.out.2 e), H2.tm.eng.hs, H2.tm.eng.out⟩
          clear H2 HO2 hal hx y1
          go_wp2_with fail
          go_ret
          exact HFin.out
        | true =>
          obtain ⟨c2, hc2⟩ : ∃ c2 : TmC, c2 = { c with settled := s, stuck := kk, depth := d } := ⟨_, rfl⟩
          have hroom2 : c2.room = c.room := by rw [hc2]
          have hnp2 : c2.np = c.np := by rw [hc2]
          rw [← hc2] at H2 HO2
          obtain ⟨gA, hgA, hrowA⟩ := H2.cr.row (show 0 < h.nc by omega)
          have H4 := (H2.cset hgA hi).lset (i : Int)
          have hxne1 : w.heap.size ≠ gA := fun e => by have := H2.lc gA (by rw [hgA, onB_some]); rw [← e, HHL.out] at this; cases this
          have hxne2 : w.heap.size ≠ h.bh := fun e => by have := H2.lh; rw [← e, HHL.out] at this; cases this
          obtain ⟨d0, d1, d2, d3, d4, df⟩ := H2.cells
          have t9 : w2.cell? ⟨c2.bt, 9, none⟩ = some (.slice none 0 0) := by rw [Lib.cell_of_heap H2.tm.th]; rfl
          rw [hgA] at d3
          have hcA := hrowA.cell (show i < h.nc * 1 by omega)
          have hfA := hrowA.free i
          have hgbh : gA ≠ h.bh := fun e => by have := H2.lc gA (by rw [hgA, onB_some]); rw [e, H2.lh] at this; cases this
          have i4 : (w2.setCell ⟨gA, i, none⟩ (.slice none 0 0)).cell? ⟨h.bh, 4, none⟩ = some (.int .i64 h.last) := by rw [World.cell?_setCell_far _ _ _ _ (by exact hgbh)]; exact d4
          obtain ⟨hbA1, hbA2⟩ := hrowA.bd
          have z1 : ((w2.setCell ⟨gA, i, none⟩ (.slice none 0 0)).setCell ⟨h.bh, 4, none⟩ (.int .i64 (i : Nat))).cell? ⟨w.heap.size, 1, none⟩ = some (.slice A mm cp) := by
            rw [World.cell?_setCell_far _ _ _ _ (by exact fun e => hxne2 e.symm), World.cell?_setCell_far _ _ _ _ (by exact fun e => hxne1 e.symm)]; exact y1
          have HO4 := Lib.hid (HO2.lists (h' := { h with last := (i : Int) }) rfl rfl)
          have HR2 := Lib.hid (hroom2.trans HRM.out)
          have HN2 := Lib.hid hnp2
          obtain ⟨w4, hw4⟩ : ∃ w4, w4 = (w2.setCell ⟨gA, i, none⟩ (.slice none 0 0)).setCell ⟨h.bh, 4, none⟩ (.int .i64 (i : Nat)) := ⟨_, rfl⟩
          rw [← hw4] at H4 z1
          have HW4 := Lib.hid hw4
          have H4h := Lib.hid H4
          clear H2 HO2 hrowA hal hx y1 hw4 hroom2 hnp2 hc2 H4 hxne1 hxne2 hgbh
          go_upto_region 5 with (fail)
          refine wp_region_any (by kernel_rfl) ?_
          change wpAny _ _ _ _ _ _ _ (World.drew _)
          refine wpAny_take (i := 0) (v := ?_) rfl (by kernel_rfl) (by kernel_rfl) (by kernel_rfl) (fun _ _ _ h => h) (Or.inl ⟨by kernel_rfl, ?_⟩) ?_
          rotate_left 1
          · (intro w; go_simp <;> with_reducible rfl)
          go_simp
          refine wpAny_take (i := 1) (v := ?_) rfl (by kernel_rfl) (by kernel_rfl) (by kernel_rfl) (fun _ _ _ h => h) (Or.inl ⟨by kernel_rfl, ?_⟩) ?_
          rotate_left 1
          · (intro w; go_simp <;> with_reducible rfl)
          go_simp
          refine wpAny_take (i := 2) (v := ?_) rfl (by kernel_rfl) (by kernel_rfl) (by kernel_rfl) (fun _ _ _ h => h) (Or.inl ⟨by kernel_rfl, ?_⟩) ?_
          rotate_left 1
          · (intro w; go_simp <;> with_reducible rfl)
          go_simp
          refine wpAny_take (i := 4) (v := ?_) rfl (by kernel_rfl) (by kernel_rfl) (by kernel_rfl) (fun _ _ _ h => h) (Or.inl ⟨by kernel_rfl, ?_⟩) ?_
          rotate_left 1
          · (intro w; go_simp <;> with_reducible rfl)
          go_simp
          refine wpAny_take (i := 5) (v := ?_) rfl (by kernel_rfl) (by kernel_rfl) (by kernel_rfl) (fun _ _ _ h => h) (Or.inl ⟨by kernel_rfl, ?_⟩) ?_
          rotate_left 1
          · (intro w; go_simp <;> with_reducible rfl)
          go_simp
          refine wpAny_take (i := 6) (v := ?_) rfl (by kernel_rfl) (by kernel_rfl) (by kernel_rfl) (fun _ _ _ h => h) (Or.inl ⟨by kernel_rfl, ?_⟩) ?_
          rotate_left 1
          · (intro w; go_simp <;> with_reducible rfl)
          go_simp
          refine wpAny_take (i := 7) (v := ?_) rfl (by kernel_rfl) (by kernel_rfl) (by kernel_rfl) (fun _ _ _ h => h) (Or.inl ⟨by kernel_rfl, ?_⟩) ?_
          rotate_left 1
          · (intro w; go_simp <;> with_reducible rfl)
          go_simp
          refine wpAny_ready (rs := [3, 8]) (by kernel_rfl) (by simp) ?_
          refine AllReady.cons rfl (fun K hK => ?_) ?_
          ·
            go_simp
            refine hK _ _ ?_; clear hK K
            refine wpAny_ready (rs := [8]) (by kernel_rfl) (by simp) ?_
            refine AllReady.cons rfl (fun K hK => ?_) ?_
            ·
              go_simp
              refine hK _ _ ?_; clear hK K
              refine wpAny_take (i := 9) (v := ?_) rfl (by kernel_rfl) (by kernel_rfl) (by kernel_rfl) (fun _ _ _ h => h) (Or.inl ⟨by kernel_rfl, ?_⟩) ?_
              rotate_left 1
              · (intro w; go_simp <;> with_reducible rfl)
              go_simp
              refine wpAny_take (i := 10) (v := ?_) rfl (by kernel_rfl) (by kernel_rfl) (by kernel_rfl) (fun _ _ _ h => h) (Or.inl ⟨by kernel_rfl, ?_⟩) ?_
              rotate_left 1
              · (intro w; go_simp <;> with_reducible rfl)
              go_simp
              refine wpAny_ready (rs := [11]) (by kernel_rfl) (by simp) ?_
              refine AllReady.cons rfl (fun K hK => ?_) ?_
              ·
                go_simp
                refine hK _ _ ?_; clear hK K
                refine wpAny_take (i := 12) (v := ?_) rfl (by kernel_rfl) (by kernel_rfl) (by kernel_rfl) (fun _ _ _ h => h) (Or.inl ⟨by kernel_rfl, ?_⟩) ?_
                rotate_left 1
                · (intro w; go_simp <;> with_reducible rfl)
                go_simp
                refine wpAny_ready (rs := [13]) (by kernel_rfl) (by simp) ?_
                refine AllReady.cons rfl (fun K hK => ?_) ?_
                ·
                  go_simp
                  refine hK _ _ ?_; clear hK K
                  refine wpAny_done (by kernel_rfl) ?_ _
                  go_upto_region 7 with (fail)
                  rw [← HW4.out]
                  obtain ⟨_, _, f2, _⟩ := H4h.out.cells
                  change w4.cell? ⟨h.bh, 2, none⟩ = some (.int .i64 h.given) at f2
                  rw [HGV.out] at f2
                  have HA5 := Lib.hid (fun V (hV : Below w4.heap.size w4 V) => HAd.out (H4h.out.below hV) HO4.out HR2.out HN2.out)
                  have hb7 : Below w4.heap.size w4 w4.drew.drew := (Below.refl _ _).drew.drew
                  clear HAd
                  refine wp_region_any (by kernel_rfl) ?_
                  change wpAny _ _ _ _ _ _ _ (World.drew _)
                  refine wpAny_take (i := 0) (v := ?_) rfl (by kernel_rfl) (by kernel_rfl) (by kernel_rfl) (fun _ _ _ h => h) (Or.inl ⟨by kernel_rfl, ?_⟩) ?_
                  rotate_left 1
                  · (intro w; go_simp <;> with_reducible rfl)
                  go_simp
                  refine wpAny_take (i := 1) (v := ?_) rfl (by kernel_rfl) (by kernel_rfl) (by kernel_rfl) (fun _ _ _ h => h) (Or.inl ⟨by kernel_rfl, ?_⟩) ?_
                  rotate_left 1
                  · (intro w; go_simp <;> with_reducible rfl)
                  go_simp
                  refine wpAny_take (i := 2) (v := ?_) rfl (by kernel_rfl) (by kernel_rfl) (by kernel_rfl) (fun _ _ _ h => h) (Or.inl ⟨by kernel_rfl, ?_⟩) ?_
                  rotate_left 1
                  · (intro w; go_simp <;> with_reducible rfl)
                  go_simp
                  refine wpAny_take (i := 3) (v := ?_) rfl (by kernel_rfl) (by kernel_rfl) (by kernel_rfl) (fun _ _ _ h => h) (Or.inl ⟨by kernel_rfl, ?_⟩) ?_
                  rotate_left 1
                  · (intro w; go_simp <;> with_reducible rfl)
                  go_simp
                  refine wpAny_take (i := 5) (v := ?_) rfl (by kernel_rfl) (by kernel_rfl) (by kernel_rfl) (fun _ _ _ h => h) (Or.inl ⟨by kernel_rfl, ?_⟩) ?_
                  rotate_left 1
                  · (intro w; go_simp <;> with_reducible rfl)
                  go_simp
                  refine wpAny_take (i := 7) (v := ?_) rfl (by kernel_rfl) (by kernel_rfl) (by kernel_rfl) (fun _ _ _ h => h) (Or.inl ⟨by kernel_rfl, ?_⟩) ?_
                  rotate_left 1
                  · (intro w; go_simp <;> with_reducible rfl)
                  go_simp
                  refine wpAny_ready (rs := [4, 8]) (by kernel_rfl) (by simp) ?_
                  refine AllReady.cons rfl (fun K hK => ?_) ?_
                  ·
                    go_simp
                    refine hK _ _ ?_; clear hK K
                    refine wpAny_take (i := 6) (v := ?_) rfl (by kernel_rfl) (by kernel_rfl) (by kernel_rfl) (fun _ _ _ h => h) (Or.inl ⟨by kernel_rfl, ?_⟩) ?_
                    rotate_left 1
                    · (intro w; go_simp <;> with_reducible rfl)
                    go_simp
                    refine wpAny_ready (rs := [8]) (by kernel_rfl) (by simp) ?_
                    refine AllReady.cons rfl (fun K hK => ?_) ?_
                    ·
                      go_simp
                      refine hK _ _ ?_; clear hK K
                      refine wpAny_ready (rs := [9]) (by kernel_rfl) (by simp) ?_
                      refine AllReady.cons rfl (fun K hK => ?_) ?_
                      ·
                        go_simp
                        go_wp2_with (first | (go_at_call 30; refine (HA5.out _ (by assumption)).mono ?_; rintro e w5 ⟨rfl, hfin⟩))
                        first | (refine hK _ _ ?_; clear hK K) | skip
                        refine wpAny_done (by kernel_rfl) ?_ _
                        have HFin : Hid (TakTo B w0 h c n (G + i + 1) k m (false, xs) (.returned (.bool true)) w5) := by
                          obtain ⟨h', c', S', q', b1, b2, b3⟩ := hfin
                          refine .inr ⟨rfl, by simpa using HRU.out, h', c', S', q', b1, ?_, b3.1, b3.2.1, b3.2.2.1, b3.2.2.2.1.trans HN2.out, b3.2.2.2.2.trans (HR2.out.trans HRM.out.symm)⟩
                          unfold nextM
                          rw [if_neg (by simp)]
                          exact b2
                        clear hfin HA5
                        go_wp2_with fail
                        go_ret
                        exact HFin.out
                      exact AllReady.nil
                    exact AllReady.nil
                  refine AllReady.cons rfl (fun K hK => ?_) ?_
                  ·
                    go_simp
                    refine hK _ _ ?_; clear hK K
                    refine wpAny_ready (rs := [4]) (by kernel_rfl) (by simp) ?_
                    refine AllReady.cons rfl (fun K hK => ?_) ?_
                    ·
                      go_simp
                      refine hK _ _ ?_; clear hK K
                      refine wpAny_take (i := 6) (v := ?_) rfl (by kernel_rfl) (by kernel_rfl) (by kernel_rfl) (fun _ _ _ h => h) (Or.inl ⟨by kernel_rfl, ?_⟩) ?_
                      rotate_left 1
                      · (intro w; go_simp <;> with_reducible rfl)
                      go_simp
                      refine wpAny_ready (rs := [9]) (by kernel_rfl) (by simp) ?_
                      refine AllReady.cons rfl (fun K hK => ?_) ?_
                      ·
                        go_simp
                        go_wp2_with (first | (go_at_call 30; refine (HA5.out _ (by assumption)).mono ?_; rintro e w5 ⟨rfl, hfin⟩))
                        first | (refine hK _ _ ?_; clear hK K) | skip
                        refine wpAny_done (by kernel_rfl) ?_ _
                        have HFin : Hid (TakTo B w0 h c n (G + i + 1) k m (false, xs) (.returned (.bool true)) w5) := by
                          obtain ⟨h', c', S', q', b1, b2, b3⟩ := hfin
                          refine .inr ⟨rfl, by simpa using HRU.out, h', c', S', q', b1, ?_, b3.1, b3.2.1, b3.2.2.1, b3.2.2.2.1.trans HN2.out, b3.2.2.2.2.trans (HR2.out.trans HRM.out.symm)⟩
                          unfold nextM
                          rw [if_neg (by simp)]
                          exact b2
                        clear hfin HA5
                        go_wp2_with fail
                        go_ret
                        exact HFin.out
                      exact AllReady.nil
                    exact AllReady.nil
                  exact AllReady.nil
                exact AllReady.nil
              exact AllReady.nil
            exact AllReady.nil
          refine AllReady.cons rfl (fun K hK => ?_) ?_
          ·
            go_simp
            refine hK _ _ ?_; clear hK K
            refine wpAny_take (i := 9) (v := ?_) rfl (by kernel_rfl) (by kernel_rfl) (by kernel_rfl) (fun _ _ _ h => h) (Or.inl ⟨by kernel_rfl, ?_⟩) ?_
            rotate_left 1
            · (intro w; go_simp <;> with_reducible rfl)
            go_simp
            refine wpAny_take (i := 10) (v := ?_) rfl (by kernel_rfl) (by kernel_rfl) (by kernel_rfl) (fun _ _ _ h => h) (Or.inl ⟨by kernel_rfl, ?_⟩) ?_
            rotate_left 1
            · (intro w; go_simp <;> with_reducible rfl)
            go_simp
            refine wpAny_ready (rs := [3, 11]) (by kernel_rfl) (by simp) ?_
            refine AllReady.cons rfl (fun K hK => ?_) ?_
            ·
              go_simp
              refine hK _ _ ?_; clear hK K
              refine wpAny_ready (rs := [11]) (by kernel_rfl) (by simp) ?_
              refine AllReady.cons rfl (fun K hK => ?_) ?_
              ·
                go_simp
                refine hK _ _ ?_; clear hK K
                refine wpAny_take (i := 12) (v := ?_) rfl (by kernel_rfl) (by kernel_rfl) (by kernel_rfl) (fun _ _ _ h => h) (Or.inl ⟨by kernel_rfl, ?_⟩) ?_
                rotate_left 1
                · (intro w; go_simp <;> with_reducible rfl)
                go_simp
                refine wpAny_ready (rs := [13]) (by kernel_rfl) (by simp) ?_
                refine AllReady.cons rfl (fun K hK => ?_) ?_
                ·
                  go_simp
                  refine hK _ _ ?_; clear hK K
                  refine wpAny_done (by kernel_rfl) ?_ _
                  go_upto_region 7 with (fail)
                  rw [← HW4.out]
                  obtain ⟨_, _, f2, _⟩ := H4h.out.cells
                  change w4.cell? ⟨h.bh, 2, none⟩ = some (.int .i64 h.given) at f2
                  rw [HGV.out] at f2
                  have HA5 := Lib.hid (fun V (hV : Below w4.heap.size w4 V) => HAd.out (H4h.out.below hV) HO4.out HR2.out HN2.out)
                  have hb7 : Below w4.heap.size w4 w4.drew.drew := (Below.refl _ _).drew.drew
                  clear HAd
                  refine wp_region_any (by kernel_rfl) ?_
                  change wpAny _ _ _ _ _ _ _ (World.drew _)
                  refine wpAny_take (i := 0) (v := ?_) rfl (by kernel_rfl) (by kernel_rfl) (by kernel_rfl) (fun _ _ _ h => h) (Or.inl ⟨by kernel_rfl, ?_⟩) ?_
                  rotate_left 1
                  · (intro w; go_simp <;> with_reducible rfl)
                  go_simp
                  refine wpAny_take (i := 1) (v := ?_) rfl (by kernel_rfl) (by kernel_rfl) (by kernel_rfl) (fun _ _ _ h => h) (Or.inl ⟨by kernel_rfl, ?_⟩) ?_
                  rotate_left 1
                  · (intro w; go_simp <;> with_reducible rfl)
                  go_simp
                  refine wpAny_take (i := 2) (v := ?_) rfl (by kernel_rfl) (by kernel_rfl) (by kernel_rfl) (fun _ _ _ h => h) (Or.inl ⟨by kernel_rfl, ?_⟩) ?_
                  rotate_left 1
                  · (intro w; go_simp <;> with_reducible rfl)
                  go_simp
                  refine wpAny_take (i := 3) (v := ?_) rfl (by kernel_rfl) (by kernel_rfl) (by kernel_rfl) (fun _ _ _ h => h) (Or.inl ⟨by kernel_rfl, ?_⟩) ?_
                  rotate_left 1
                  · (intro w; go_simp <;> with_reducible rfl)
                  go_simp
                  refine wpAny_take (i := 5) (v := ?_) rfl (by kernel_rfl) (by kernel_rfl) (by kernel_rfl) (fun _ _ _ h => h) (Or.inl ⟨by kernel_rfl, ?_⟩) ?_
                  rotate_left 1
                  · (intro w; go_simp <;> with_reducible rfl)
                  go_simp
                  refine wpAny_take (i := 7) (v := ?_) rfl (by kernel_rfl) (by kernel_rfl) (by kernel_rfl) (fun _ _ _ h => h) (Or.inl ⟨by kernel_rfl, ?_⟩) ?_
                  rotate_left 1
                  · (intro w; go_simp <;> with_reducible rfl)
                  go_simp
                  refine wpAny_ready (rs := [4, 8]) (by kernel_rfl) (by simp) ?_
                  refine AllReady.cons rfl (fun K hK => ?_) ?_
                  ·
                    go_simp
                    refine hK _ _ ?_; clear hK K
                    refine wpAny_take (i := 6) (v := ?_) rfl (by kernel_rfl) (by kernel_rfl) (by kernel_rfl) (fun _ _ _ h => h) (Or.inl ⟨by kernel_rfl, ?_⟩) ?_
                    rotate_left 1
                    · (intro w; go_simp <;> with_reducible rfl)
                    go_simp
                    refine wpAny_ready (rs := [8]) (by kernel_rfl) (by simp) ?_
                    refine AllReady.cons rfl (fun K hK => ?_) ?_
                    ·
                      go_simp
                      refine hK _ _ ?_; clear hK K
                      refine wpAny_ready (rs := [9]) (by kernel_rfl) (by simp) ?_
                      refine AllReady.cons rfl (fun K hK => ?_) ?_
                      ·
                        go_simp
                        go_wp2_with (first | (go_at_call 30; refine (HA5.out _ (by assumption)).mono ?_; rintro e w5 ⟨rfl, hfin⟩))
                        first | (refine hK _ _ ?_; clear hK K) | skip
                        refine wpAny_done (by kernel_rfl) ?_ _
                        have HFin : Hid (TakTo B w0 h c n (G + i + 1) k m (false, xs) (.returned (.bool true)) w5) := by
                          obtain ⟨h', c', S', q', b1, b2, b3⟩ := hfin
                          refine .inr ⟨rfl, by simpa using HRU.out, h', c', S', q', b1, ?_, b3.1, b3.2.1, b3.2.2.1, b3.2.2.2.1.trans HN2.out, b3.2.2.2.2.trans (HR2.out.trans HRM.out.symm)⟩
                          unfold nextM
                          rw [if_neg (by simp)]
                          exact b2
                        clear hfin HA5
                        go_wp2_with fail
                        go_ret
                        exact HFin.out
                      exact AllReady.nil
                    exact AllReady.nil
                  refine AllReady.cons rfl (fun K hK => ?_) ?_
                  ·
                    go_simp
                    refine hK _ _ ?_; clear hK K
                    refine wpAny_ready (rs := [4]) (by kernel_rfl) (by simp) ?_
                    refine AllReady.cons rfl (fun K hK => ?_) ?_
                    ·
                      go_simp
                      refine hK _ _ ?_; clear hK K
                      refine wpAny_take (i := 6) (v := ?_) rfl (by kernel_rfl) (by kernel_rfl) (by kernel_rfl) (fun _ _ _ h => h) (Or.inl ⟨by kernel_rfl, ?_⟩) ?_
                      rotate_left 1
                      · (intro w; go_simp <;> with_reducible rfl)
                      go_simp
                      refine wpAny_ready (rs := [9]) (by kernel_rfl) (by simp) ?_
                      refine AllReady.cons rfl (fun K hK => ?_) ?_
                      ·
                        go_simp
                        go_wp2_with (first | (go_at_call 30; refine (HA5.out _ (by assumption)).mono ?_; rintro e w5 ⟨rfl, hfin⟩))
                        first | (refine hK _ _ ?_; clear hK K) | skip
                        refine wpAny_done (by kernel_rfl) ?_ _
                        have HFin : Hid (TakTo B w0 h c n (G + i + 1) k m (false, xs) (.returned (.bool true)) w5) := by
                          obtain ⟨h', c', S', q', b1, b2, b3⟩ := hfin
                          refine .inr ⟨rfl, by simpa using HRU.out, h', c', S', q', b1, ?_, b3.1, b3.2.1, b3.2.2.1, b3.2.2.2.1.trans HN2.out, b3.2.2.2.2.trans (HR2.out.trans HRM.out.symm)⟩
                          unfold nextM
                          rw [if_neg (by simp)]
                          exact b2
                        clear hfin HA5
                        go_wp2_with fail
                        go_ret
                        exact HFin.out
                      exact AllReady.nil
                    exact AllReady.nil
                  exact AllReady.nil
                exact AllReady.nil
              exact AllReady.nil
            refine AllReady.cons rfl (fun K hK => ?_) ?_
            ·
              go_simp
              refine hK _ _ ?_; clear hK K
              refine wpAny_ready (rs := [3]) (by kernel_rfl) (by simp) ?_
              refine AllReady.cons rfl (fun K hK => ?_) ?_
              ·
                go_simp
                refine hK _ _ ?_; clear hK K
                refine wpAny_take (i := 12) (v := ?_) rfl (by kernel_rfl) (by kernel_rfl) (by kernel_rfl) (fun _ _ _ h => h) (Or.inl ⟨by kernel_rfl, ?_⟩) ?_
                rotate_left 1
                · (intro w; go_simp <;> with_reducible rfl)
                go_simp
                refine wpAny_ready (rs := [13]) (by kernel_rfl) (by simp) ?_
                refine AllReady.cons rfl (fun K hK => ?_) ?_
                ·
                  go_simp
                  refine hK _ _ ?_; clear hK K
                  refine wpAny_done (by kernel_rfl) ?_ _
                  go_upto_region 7 with (fail)
                  rw [← HW4.out]
                  obtain ⟨_, _, f2, _⟩ := H4h.out.cells
                  change w4.cell? ⟨h.bh, 2, none⟩ = some (.int .i64 h.given) at f2
                  rw [HGV.out] at f2
                  have HA5 := Lib.hid (fun V (hV : Below w4.heap.size w4 V) => HAd.out (H4h.out.below hV) HO4.out HR2.out HN2.out)
                  have hb7 : Below w4.heap.size w4 w4.drew.drew := (Below.refl _ _).drew.drew
                  clear HAd
                  refine wp_region_any (by kernel_rfl) ?_
                  change wpAny _ _ _ _ _ _ _ (World.drew _)
                  refine wpAny_take (i := 0) (v := ?_) rfl (by kernel_rfl) (by kernel_rfl) (by kernel_rfl) (fun _ _ _ h => h) (Or.inl ⟨by kernel_rfl, ?_⟩) ?_
                  rotate_left 1
                  · (intro w; go_simp <;> with_reducible rfl)
                  go_simp
                  refine wpAny_take (i := 1) (v := ?_) rfl (by kernel_rfl) (by kernel_rfl) (by kernel_rfl) (fun _ _ _ h => h) (Or.inl ⟨by kernel_rfl, ?_⟩) ?_
                  rotate_left 1
                  · (intro w; go_simp <;> with_reducible rfl)
                  go_simp
                  refine wpAny_take (i := 2) (v := ?_) rfl (by kernel_rfl) (by kernel_rfl) (by kernel_rfl) (fun _ _ _ h => h) (Or.inl ⟨by kernel_rfl, ?_⟩) ?_
                  rotate_left 1
                  · (intro w; go_simp <;> with_reducible rfl)
                  go_simp
                  refine wpAny_take (i := 3) (v := ?_) rfl (by kernel_rfl) (by kernel_rfl) (by kernel_rfl) (fun _ _ _ h => h) (Or.inl ⟨by kernel_rfl, ?_⟩) ?_
                  rotate_left 1
                  · (intro w; go_simp <;> with_reducible rfl)
                  go_simp
                  refine wpAny_take (i := 5) (v := ?_) rfl (by kernel_rfl) (by kernel_rfl) (by kernel_rfl) (fun _ _ _ h => h) (Or.inl ⟨by kernel_rfl, ?_⟩) ?_
                  rotate_left 1
                  · (intro w; go_simp <;> with_reducible rfl)
                  go_simp
                  refine wpAny_take (i := 7) (v := ?_) rfl (by kernel_rfl) (by kernel_rfl) (by kernel_rfl) (fun _ _ _ h => h) (Or.inl ⟨by kernel_rfl, ?_⟩) ?_
                  rotate_left 1
                  · (intro w; go_simp <;> with_reducible rfl)
                  go_simp
                  refine wpAny_ready (rs := [4, 8]) (by kernel_rfl) (by simp) ?_
                  refine AllReady.cons rfl (fun K hK => ?_) ?_
                  ·
                    go_simp
                    refine hK _ _ ?_; clear hK K
                    refine wpAny_take (i := 6) (v := ?_) rfl (by kernel_rfl) (by kernel_rfl) (by kernel_rfl) (fun _ _ _ h => h) (Or.inl ⟨by kernel_rfl, ?_⟩) ?_
                    rotate_left 1
                    · (intro w; go_simp <;> with_reducible rfl)
                    go_simp
                    refine wpAny_ready (rs := [8]) (by kernel_rfl) (by simp) ?_
                    refine AllReady.cons rfl (fun K hK => ?_) ?_
                    ·
                      go_simp
                      refine hK _ _ ?_; clear hK K
                      refine wpAny_ready (rs := [9]) (by kernel_rfl) (by simp) ?_
                      refine AllReady.cons rfl (fun K hK => ?_) ?_
                      ·
                        go_simp
                        go_wp2_with (first | (go_at_call 30; refine (HA5.out _ (by assumption)).mono ?_; rintro e w5 ⟨rfl, hfin⟩))
                        first | (refine hK _ _ ?_; clear hK K) | skip
                        refine wpAny_done (by kernel_rfl) ?_ _
                        have HFin : Hid (TakTo B w0 h c n (G + i + 1) k m (false, xs) (.returned (.bool true)) w5) := by
                          obtain ⟨h', c', S', q', b1, b2, b3⟩ := hfin
                          refine .inr ⟨rfl, by simpa using HRU.out, h', c', S', q', b1, ?_, b3.1, b3.2.1, b3.2.2.1, b3.2.2.2.1.trans HN2.out, b3.2.2.2.2.trans (HR2.out.trans HRM.out.symm)⟩
                          unfold nextM
                          rw [if_neg (by simp)]
                          exact b2
                        clear hfin HA5
                        go_wp2_with fail
                        go_ret
                        exact HFin.out
                      exact AllReady.nil
                    exact AllReady.nil
                  refine AllReady.cons rfl (fun K hK => ?_) ?_
                  ·
                    go_simp
                    refine hK _ _ ?_; clear hK K
                    refine wpAny_ready (rs := [4]) (by kernel_rfl) (by simp) ?_
                    refine AllReady.cons rfl (fun K hK => ?_) ?_
                    ·
                      go_simp
                      refine hK _ _ ?_; clear hK K
                      refine wpAny_take (i := 6) (v := ?_) rfl (by kernel_rfl) (by kernel_rfl) (by kernel_rfl) (fun _ _ _ h => h) (Or.inl ⟨by kernel_rfl, ?_⟩) ?_
                      rotate_left 1
                      · (intro w; go_simp <;> with_reducible rfl)
                      go_simp
                      refine wpAny_ready (rs := [9]) (by kernel_rfl) (by simp) ?_
                      refine AllReady.cons rfl (fun K hK => ?_) ?_
                      ·
                        go_simp
                        go_wp2_with (first | (go_at_call 30; refine (HA5.out _ (by assumption)).mono ?_; rintro e w5 ⟨rfl, hfin⟩))
                        first | (refine hK _ _ ?_; clear hK K) | skip
                        refine wpAny_done (by kernel_rfl) ?_ _
                        have HFin : Hid (TakTo B w0 h c n (G + i + 1) k m (false, xs) (.returned (.bool true)) w5) := by
                          obtain ⟨h', c', S', q', b1, b2, b3⟩ := hfin
                          refine .inr ⟨rfl, by simpa using HRU.out, h', c', S', q', b1, ?_, b3.1, b3.2.1, b3.2.2.1, b3.2.2.2.1.trans HN2.out, b3.2.2.2.2.trans (HR2.out.trans HRM.out.symm)⟩
                          unfold nextM
                          rw [if_neg (by simp)]
                          exact b2
                        clear hfin HA5
                        go_wp2_with fail
                        go_ret
                        exact HFin.out
                      exact AllReady.nil
                    exact AllReady.nil
                  exact AllReady.nil
                exact AllReady.nil
              exact AllReady.nil
            exact AllReady.nil
          exact AllReady.nil
      exact AllReady.nil
    exact AllReady.nil
  exact AllReady.nil
end
end Go.Proofs.YtkckodpfhlpkgaaGreat
