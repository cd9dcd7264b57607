/- A circuit's contracts: both. -/
import Derived.Test.YtmiifhclcknhdaaGrtB
namespace Go.Proofs.Ytmiifhclcknhdaa
open Go.RowKit GatM

theorem below_drewN {B : Nat} {w w' : World} (h : Below B w w') (q : Nat) : Below B w (w'.drewN q) := ⟨h.os, h.tape, h.output, h.size, h.block⟩
theorem Kf.toDrew {F : Nat → Prop} {w : World} : Kf F w w.drew := (Kf.refl F w).drew
theorem GrTo.drew {w w' : World} {c c' : GrC} {gs mp : Gs} {ins : List Nat} (h : GrTo w.drew w' c c' gs ins mp) : GrTo w w' c c' gs ins mp := ⟨h.at_, h.bg, Kf.toDrew.trans h.kf (fun _ hx => .inl hx), h.new⟩
/-- The map tells of one gate more. -/
theorem GrAt.mapped {w w2 : World} {c : GrC} {gs mp mp2 : Gs} {ins : List Nat} (h : GrAt w c gs ins mp) (hm : MapP w2 c.bm (c.n + 1) mp2) (hl : mp2.length = mp.length + 1) (hk : Kf (fun k => k = c.bm) w w2) : GrTo w w2 c { c with n := c.n + 1 } gs ins mp2 := by
  obtain ⟨n1, n2, n3⟩ := h.ne_m
  have ho : ∀ k, c.own k → k ≠ c.bm → w2.heap[k]? = w.heap[k]? := fun k hk' e => hk.block k (h.lt hk') e
  refine ⟨⟨?_, ?_, ?_, hm, ?_⟩, rfl, hk.mono fun x hx => .inl (.inr (.inr (.inr hx))), fun k hk' => .inl hk'⟩
  · rw [ho _ (.inl rfl) n1]; exact h.hd
  · exact h.ga.same (ho _ (.inr (.inl rfl)) n2)
  · exact h.ia.same fun j hj => ho j (.inr (.inr (.inl hj))) (fun e => n3 (e ▸ hj))
  · have := h.nb
    show c.n + 1 ≤ _
    omega
set_option maxHeartbeats 3200000 in
set_option maxRecDepth 100000 in
theorem gboth_any {w : World} {c : GrC} {gs : Gs} {ins : List Nat} (h : GrAt w c gs ins gs) (hw : Wf gs) (hn : gs.length ≤ 90000) {a b : Nat} (ha : a / 2 < gs.length) (hb : b / 2 < gs.length) :
    Calls Try.prog 36 #[.pointer (some ⟨c.bg, 0, none⟩), .int .u32 (a : Int), .int .u32 (b : Int)] w fun e w' => e = .returned (.tuple #[.int .u32 (((bothG gs a b).1 : Nat) : Int), .int .i64 0]) ∧ ∃ c', GrTo w w' c c' (bothG gs a b).2 ins (bothG gs a b).2 := by
  obtain ⟨x, hx⟩ : ∃ x, x = min a b := ⟨_, rfl⟩
  obtain ⟨y, hy⟩ : ∃ y, y = max a b := ⟨_, rfl⟩
  have h1 : (if b < a then (b : Int) else (a : Int)) = (x : Int) := by split <;> omega
  have h2 : (if a < b then (b : Int) else (a : Int)) = (y : Int) := by split <;> omega
  have hyl : y / 2 < gs.length := by omega
  have hxl : x / 2 < gs.length := by omega
  have hxy : x ≤ y := by omega
  have HBO : Hid (bothG gs a b = if x = 0 ∨ x = turnE y then (0, gs) else if x = 1 ∨ x = y then (y, gs) else if (x, y) ∈ gs then (2 * gs.idxOf (x, y), gs) else (2 * gs.length, gs ++ [(x, y)])) := by rw [hx, hy]; rfl
  generalize bothG gs a b = r at *
  clear hx hy
  have hb1 : Below w.heap.size w (w.alloc (.cells #[.int .u32 (x : Int), .int .u32 (y : Int)] 67)) := (Below.refl _ _).alloc (Nat.le_refl _) _
  have HB1 := Lib.hid hb1
  have HG := Lib.hid h
  have HW := Lib.hid hw
  have HTY := Lib.hid fun W => (gturn_any y W (by omega)).mono fun e w' (q : _ ∧ W = w') => (show e = _ ∧ w' = W from ⟨q.1, q.2.symm⟩)
  clear h hw hb1
  go_enter Try.func36, Try.ntmps36
  go_upto_region 2 with (fail)
  clear h1 h2 ha hb
  by_cases e0 : x = 0
  · have t0 : ((x : Int) == 0) = true := by rw [beq_iff_eq]; omega
    have HR : Hid (r = (0, gs)) := by unfold Hid; rw [HBO.out, if_pos (.inl e0)]
    clear HBO e0
    go_wp2_with fail
    go_ret2
    exact ⟨by rw [HR.out]; rfl, c, by rw [HR.out]; exact GrTo.of_below HG.out HB1.out⟩
  have t0 : ((x : Int) == 0) = false := by rw [beq_eq_false_iff_ne]; omega
  have HWQ : Hid (∀ nq, ∃ Wq, Wq = (w.alloc (.cells #[.int .u32 (x : Int), .int .u32 (y : Int)] 67)).drewN nq ∧ Below w.heap.size w Wq ∧ Wq.heap[w.heap.size]? = some (.cells #[.int .u32 (x : Int), .int .u32 (y : Int)] 67 (0, 0))) := fun nq =>
    ⟨_, rfl, below_drewN HB1.out nq, blk_new w _⟩
  by_cases e1 : x = turnE y
  · have t1 : ((x : Int) == ((turnE y : Nat) : Int)) = true := by rw [beq_iff_eq]; omega
    have HR : Hid (r = (0, gs)) := by unfold Hid; rw [HBO.out, if_pos (.inr e1)]
    have HE := Lib.hid e1
    clear HBO e1 hxy
    go_upto_region 3 with (fail)
    go_quiet ((go_at_call 41; exact Calls.quiet_of_same (HTY.out _)))
    rename_i nq
    obtain ⟨Wq, hq, hbq, hcq⟩ := HWQ.out nq
    rw [← hq]
    have HBQ := Lib.hid hbq
    clear hq hbq hcq HWQ
    go_wp2_with fail
    go_ret2
    exact ⟨by rw [HR.out]; rfl, c, by rw [HR.out]; exact GrTo.of_below HG.out HBQ.out⟩
  have t1 : ((x : Int) == ((turnE y : Nat) : Int)) = false := by rw [beq_eq_false_iff_ne]; omega
  have HN1 : Hid (¬ (x = 0 ∨ x = turnE y)) := fun e => by rcases e with e | e; exact e0 e; exact e1 e
  have HE0 := Lib.hid e0
  clear e1 e0
  go_upto_region 3 with (fail)
  go_quiet ((go_at_call 41; exact Calls.quiet_of_same (HTY.out _)))
  rename_i nq
  obtain ⟨Wq, hq, hbq, hcq⟩ := HWQ.out nq
  rw [← hq]
  have hs : w.heap.size < Wq.heap.size := lt_of_heap hcq
  have z0 : Wq.cell? ⟨w.heap.size, 0, none⟩ = some (.int .u32 (x : Int)) := by rw [Lib.cell_of_heap hcq]; rfl
  have z1 : Wq.cell? ⟨w.heap.size, 1, none⟩ = some (.int .u32 (y : Int)) := by rw [Lib.cell_of_heap hcq]; rfl
  have HBQ := Lib.hid hbq
  have HCQ := Lib.hid hcq
  clear hq hbq hcq HWQ HTY t1 HB1
  by_cases e2 : x = 1
  · have t2 : ((x : Int) == 1) = true := by rw [beq_iff_eq]; omega
    have HR : Hid (r = (y, gs)) := by unfold Hid; rw [HBO.out, if_neg HN1.out, if_pos (.inl e2)]
    clear HBO e2 hxy
    go_wp2_with fail
    go_ret2
    exact ⟨by rw [HR.out]; rfl, c, by rw [HR.out]; exact GrTo.of_below HG.out HBQ.out⟩
  have t2 : ((x : Int) == 1) = false := by rw [beq_eq_false_iff_ne]; omega
  by_cases e3 : x = y
  · have t3 : ((x : Int) == (y : Int)) = true := by rw [beq_iff_eq]; omega
    have t4 : (x == y) = true := by rw [beq_iff_eq]; exact e3
    have HR : Hid (r = (y, gs)) := by unfold Hid; rw [HBO.out, if_neg HN1.out, if_pos (.inr e3)]
    clear HBO e2 hxy e3
    go_wp2_with fail
    go_ret2
    exact ⟨by rw [HR.out]; rfl, c, by rw [HR.out]; exact GrTo.of_below HG.out HBQ.out⟩
  have t3 : ((x : Int) == (y : Int)) = false := by rw [beq_eq_false_iff_ne]; omega
  have t4 : (x == y) = false := by rw [beq_eq_false_iff_ne]; exact e3
  have HN2 : Hid (¬ (x = 1 ∨ x = y)) := fun e => by rcases e with e | e; exact e2 e; exact e3 e
  clear e2 e3
  have HSM : Hid (SmlP (x, y)) := ⟨by show x < _; omega, by show y < _; omega⟩
  have HP0 : Hid ((x, y) ≠ ((0, 0) : Nat × Nat)) := fun e => HN1.out (.inl (congrArg Prod.fst e))
  have h1 := HG.out.below HBQ.out
  obtain ⟨_, _, c2, _⟩ := h1.cells
  obtain ⟨v, hlk, hv⟩ := (h1.ma.same (w' := Wq.drew) rfl).look HSM.out HP0.out
  have HV := Lib.hid hv
  simp only [pairV] at hlk
  have H1 := Lib.hid h1
  clear h1 hv
  by_cases e4 : (x, y) ∈ gs
  · rw [decide_eq_true e4] at hlk
    have HR : Hid (r = (2 * gs.idxOf (x, y), gs)) := by unfold Hid; rw [HBO.out, if_neg HN1.out, if_neg HN2.out, if_pos e4]
    have HF1 : Hid (Ending.returned (.tuple #[.int .u32 (v : Int), .int .i64 0]) = .returned (.tuple #[.int .u32 ((r.1 : Nat) : Int), .int .i64 0])) := by
      unfold Hid; rw [HR.out, HV.out e4]
    have HF2 : Hid (GrTo w Wq.drew c c r.2 ins r.2) := by unfold Hid; rw [HR.out]; exact GrTo.of_below HG.out HBQ.out.drew
    clear HBO e4 HV
    go_upto_region 8 with (fail)
    refine wp_region_any (by kernel_rfl) ?_
    change wpAny _ _ _ _ _ _ _ (World.drew _)
    refine wpAny_take (i := 0) (v := ?_) rfl (by kernel_rfl) (by kernel_rfl) (by kernel_rfl) (fun _ _ _ h => h) (Or.inl ⟨by kernel_rfl, ?_⟩) ?_
    rotate_left 1
    · (intro w; go_simp <;> with_reducible rfl)
    go_simp
    refine wpAny_take (i := 1) (v := ?_) rfl (by kernel_rfl) (by kernel_rfl) (by kernel_rfl) (fun _ _ _ h => h) (Or.inl ⟨by kernel_rfl, ?_⟩) ?_
    rotate_left 1
    · (intro w; go_simp <;> with_reducible rfl)
    go_simp
    refine wpAny_take (i := 2) (v := ?_) rfl (by kernel_rfl) (by kernel_rfl) (by kernel_rfl) (fun _ _ _ h => h) (Or.inl ⟨by kernel_rfl, ?_⟩) ?_
    rotate_left 1
    · (intro w; go_simp <;> with_reducible rfl)
    go_simp
    refine wpAny_ready (rs := [3, 4]) (by kernel_rfl) (by simp) ?_
    refine AllReady.cons rfl (fun K hK => ?_) ?_
    ·
      go_simp
      refine hK _ _ ?_; clear hK K
      refine wpAny_ready (rs := [4]) (by kernel_rfl) (by simp) ?_
      refine AllReady.cons rfl (fun K hK => ?_) ?_
      ·
        go_simp
        refine hK _ _ ?_; clear hK K
        refine wpAny_ready (rs := [5]) (by kernel_rfl) (by simp) ?_
        refine AllReady.cons rfl (fun K hK => ?_) ?_
        ·
          go_simp
          refine hK _ _ ?_; clear hK K
          refine wpAny_take (i := 6) (v := ?_) rfl (by kernel_rfl) (by kernel_rfl) (by kernel_rfl) (fun _ _ _ h => h) (Or.inl ⟨by kernel_rfl, ?_⟩) ?_
          rotate_left 1
          · (intro w; go_simp <;> with_reducible rfl)
          go_simp
          refine wpAny_take (i := 7) (v := ?_) rfl (by kernel_rfl) (by kernel_rfl) (by kernel_rfl) (fun _ _ _ h => h) (Or.inl ⟨by kernel_rfl, ?_⟩) ?_
          rotate_left 1
          · (intro w; go_simp <;> with_reducible rfl)
          go_simp
          refine wpAny_take (i := 8) (v := ?_) rfl (by kernel_rfl) (by kernel_rfl) (by kernel_rfl) (fun _ _ _ h => h) (Or.inl ⟨by kernel_rfl, ?_⟩) ?_
          rotate_left 1
          · (intro w; go_simp <;> with_reducible rfl)
          go_simp
          refine wpAny_take (i := 9) (v := ?_) rfl (by kernel_rfl) (by kernel_rfl) (by kernel_rfl) (fun _ _ _ h => h) (Or.inl ⟨by kernel_rfl, ?_⟩) ?_
          rotate_left 1
          · (intro w; go_simp <;> with_reducible rfl)
          go_simp
          refine wpAny_take (i := 10) (v := ?_) rfl (by kernel_rfl) (by kernel_rfl) (by kernel_rfl) (fun _ _ _ h => h) (Or.inl ⟨by kernel_rfl, ?_⟩) ?_
          rotate_left 1
          · (intro w; go_simp <;> with_reducible rfl)
          go_simp
          refine wpAny_done (by kernel_rfl) ?_ _
          go_wp2_with fail
          go_ret2
          exact ⟨HF1.out, c, HF2.out⟩
        exact AllReady.nil
      exact AllReady.nil
    refine AllReady.cons rfl (fun K hK => ?_) ?_
    ·
      go_simp
      refine hK _ _ ?_; clear hK K
      refine wpAny_ready (rs := [3]) (by kernel_rfl) (by simp) ?_
      refine AllReady.cons rfl (fun K hK => ?_) ?_
      ·
        go_simp
        refine hK _ _ ?_; clear hK K
        refine wpAny_ready (rs := [5]) (by kernel_rfl) (by simp) ?_
        refine AllReady.cons rfl (fun K hK => ?_) ?_
        ·
          go_simp
          refine hK _ _ ?_; clear hK K
          refine wpAny_take (i := 6) (v := ?_) rfl (by kernel_rfl) (by kernel_rfl) (by kernel_rfl) (fun _ _ _ h => h) (Or.inl ⟨by kernel_rfl, ?_⟩) ?_
          rotate_left 1
          · (intro w; go_simp <;> with_reducible rfl)
          go_simp
          refine wpAny_take (i := 7) (v := ?_) rfl (by kernel_rfl) (by kernel_rfl) (by kernel_rfl) (fun _ _ _ h => h) (Or.inl ⟨by kernel_rfl, ?_⟩) ?_
          rotate_left 1
          · (intro w; go_simp <;> with_reducible rfl)
          go_simp
          refine wpAny_take (i := 8) (v := ?_) rfl (by kernel_rfl) (by kernel_rfl) (by kernel_rfl) (fun _ _ _ h => h) (Or.inl ⟨by kernel_rfl, ?_⟩) ?_
          rotate_left 1
          · (intro w; go_simp <;> with_reducible rfl)
          go_simp
          refine wpAny_take (i := 9) (v := ?_) rfl (by kernel_rfl) (by kernel_rfl) (by kernel_rfl) (fun _ _ _ h => h) (Or.inl ⟨by kernel_rfl, ?_⟩) ?_
          rotate_left 1
          · (intro w; go_simp <;> with_reducible rfl)
          go_simp
          refine wpAny_take (i := 10) (v := ?_) rfl (by kernel_rfl) (by kernel_rfl) (by kernel_rfl) (fun _ _ _ h => h) (Or.inl ⟨by kernel_rfl, ?_⟩) ?_
          rotate_left 1
          · (intro w; go_simp <;> with_reducible rfl)
          go_simp
          refine wpAny_done (by kernel_rfl) ?_ _
          go_wp2_with fail
          go_ret2
          exact ⟨HF1.out, c, HF2.out⟩
        exact AllReady.nil
      exact AllReady.nil
    exact AllReady.nil
  · rw [decide_eq_false e4] at hlk
    have HR : Hid (r = (2 * gs.length, gs ++ [(x, y)])) := by unfold Hid; rw [HBO.out, if_neg HN1.out, if_neg HN2.out, if_neg e4]
    have HF1 : Hid (Ending.returned (.tuple #[.int .u32 (2 * (gs.length : Int)), .int .i64 0]) = .returned (.tuple #[.int .u32 ((r.1 : Nat) : Int), .int .i64 0])) := by
      unfold Hid; rw [HR.out, show ((2 * gs.length, gs ++ [(x, y)]).1 : Nat) = 2 * gs.length from rfl, Int.natCast_mul]; rfl
    have H1D : Hid (GrAt Wq.drew c gs ins gs) := H1.out.same fun _ _ => rfl
    have HAD := Lib.hid (gadd_any H1D.out hn x y)
    simp only [pairV] at HAD
    have hne : ∀ {c' : GrC}, c'.own w.heap.size → GrTo w w c c gs ins gs → c' = c → False := fun ho _ e => by subst e; exact Nat.lt_irrefl _ (HG.out.lt ho)
    have HNE : Hid (¬ c.own w.heap.size) := fun ho => Nat.lt_irrefl _ (HG.out.lt ho)
    clear hne
    have HBX : Hid (∀ w1 c1, GrTo Wq.drew w1 c c1 (gs ++ [(x, y)]) ins gs → w1.cell? ⟨w.heap.size, 0, none⟩ = some (.int .u32 (x : Int)) ∧ w1.cell? ⟨w.heap.size, 1, none⟩ = some (.int .u32 (y : Int))) := fun w1 c1 hT => by
      have e : w1.heap[w.heap.size]? = some (.cells #[.int .u32 (x : Int), .int .u32 (y : Int)] 67 (0, 0)) := by
        rw [(hT.guest (k := w.heap.size) (lt_of_heap HCQ.out) HNE.out).1]; exact HCQ.out
      exact ⟨by rw [Lib.cell_of_heap e]; rfl, by rw [Lib.cell_of_heap e]; rfl⟩
    have HPU : Hid (∀ w1 c1, GrTo Wq.drew w1 c c1 (gs ++ [(x, y)]) ins gs → ∃ w2, (Instr.mapUpdate 62 (.map (some c1.bm)) (.agg #[.int .u32 (x : Int), .int .u32 (y : Int)]) (.int .u32 (2 * (gs.length : Int)))).run Try.prog w1.drew = .ok () w2 ∧ MapP w2 c1.bm (c1.n + 1) (gs ++ [(x, y)]) ∧ Kf (fun k => k = c1.bm) w1 w2) := fun w1 c1 hT => by
      obtain ⟨w2, a1, a2, a3⟩ := (hT.at_.ma.same (w' := w1.drew) rfl).put (by have := hT.at_.nb; unfold maxLen; omega) HSM.out HP0.out e4 rfl (by omega)
      rw [show ((2 * gs.length : Nat) : Int) = 2 * (gs.length : Int) by omega] at a1
      exact ⟨w2, a1, a2, Kf.toDrew.trans a3 (fun _ hx => .inl hx)⟩
    have HFN : Hid (∀ w1 c1 w2, GrTo Wq.drew w1 c c1 (gs ++ [(x, y)]) ins gs → MapP w2 c1.bm (c1.n + 1) (gs ++ [(x, y)]) → Kf (fun k => k = c1.bm) w1 w2 → GrTo w w2 c { c1 with n := c1.n + 1 } r.2 ins r.2) := fun w1 c1 w2 hT hm hk => by
      rw [HR.out]
      exact GrTo.pre HBQ.out.drew (hT.trans (hT.at_.mapped hm (by simp) hk))
    clear HBO e4 HV H1 H1D HG HCQ HBQ HW hxy
    go_upto_region 8 with (fail)
    refine wp_region_any (by kernel_rfl) ?_
    change wpAny _ _ _ _ _ _ _ (World.drew _)
    refine wpAny_take (i := 0) (v := ?_) rfl (by kernel_rfl) (by kernel_rfl) (by kernel_rfl) (fun _ _ _ h => h) (Or.inl ⟨by kernel_rfl, ?_⟩) ?_
    rotate_left 1
    · (intro w; go_simp <;> with_reducible rfl)
    go_simp
    refine wpAny_take (i := 1) (v := ?_) rfl (by kernel_rfl) (by kernel_rfl) (by kernel_rfl) (fun _ _ _ h => h) (Or.inl ⟨by kernel_rfl, ?_⟩) ?_
    rotate_left 1
    · (intro w; go_simp <;> with_reducible rfl)
    go_simp
    refine wpAny_take (i := 2) (v := ?_) rfl (by kernel_rfl) (by kernel_rfl) (by kernel_rfl) (fun _ _ _ h => h) (Or.inl ⟨by kernel_rfl, ?_⟩) ?_
    rotate_left 1
    · (intro w; go_simp <;> with_reducible rfl)
    go_simp
    refine wpAny_ready (rs := [3, 4]) (by kernel_rfl) (by simp) ?_
    refine AllReady.cons rfl (fun K hK => ?_) ?_
    ·
      go_simp
      refine hK _ _ ?_; clear hK K
      refine wpAny_ready (rs := [4]) (by kernel_rfl) (by simp) ?_
      refine AllReady.cons rfl (fun K hK => ?_) ?_
      ·
        go_simp
        refine hK _ _ ?_; clear hK K
        refine wpAny_ready (rs := [5]) (by kernel_rfl) (by simp) ?_
        refine AllReady.cons rfl (fun K hK => ?_) ?_
        ·
          go_simp
          refine hK _ _ ?_; clear hK K
          refine wpAny_take (i := 6) (v := ?_) rfl (by kernel_rfl) (by kernel_rfl) (by kernel_rfl) (fun _ _ _ h => h) (Or.inl ⟨by kernel_rfl, ?_⟩) ?_
          rotate_left 1
          · (intro w; go_simp <;> with_reducible rfl)
          go_simp
          refine wpAny_take (i := 7) (v := ?_) rfl (by kernel_rfl) (by kernel_rfl) (by kernel_rfl) (fun _ _ _ h => h) (Or.inl ⟨by kernel_rfl, ?_⟩) ?_
          rotate_left 1
          · (intro w; go_simp <;> with_reducible rfl)
          go_simp
          refine wpAny_take (i := 8) (v := ?_) rfl (by kernel_rfl) (by kernel_rfl) (by kernel_rfl) (fun _ _ _ h => h) (Or.inl ⟨by kernel_rfl, ?_⟩) ?_
          rotate_left 1
          · (intro w; go_simp <;> with_reducible rfl)
          go_simp
          refine wpAny_take (i := 9) (v := ?_) rfl (by kernel_rfl) (by kernel_rfl) (by kernel_rfl) (fun _ _ _ h => h) (Or.inl ⟨by kernel_rfl, ?_⟩) ?_
          rotate_left 1
          · (intro w; go_simp <;> with_reducible rfl)
          go_simp
          refine wpAny_take (i := 10) (v := ?_) rfl (by kernel_rfl) (by kernel_rfl) (by kernel_rfl) (fun _ _ _ h => h) (Or.inl ⟨by kernel_rfl, ?_⟩) ?_
          rotate_left 1
          · (intro w; go_simp <;> with_reducible rfl)
          go_simp
          refine wpAny_done (by kernel_rfl) ?_ _
          go_wp2_with fail
          refine HAD.out.mono ?_
          rintro e w1 ⟨rfl, c1, hT⟩
          have HT := Lib.hid hT
          clear hT HAD z0 z1 c2 hlk
          obtain ⟨z0, z1⟩ := HBX.out w1 c1 HT.out
          obtain ⟨_, _, c2, _⟩ := HT.out.at_.cells
          rw [HT.out.bg] at c2
          obtain ⟨w2, hmu, hm2, hk2⟩ := HPU.out w1 c1 HT.out
          have HFIN := Lib.hid (HFN.out w1 c1 w2 HT.out hm2 hk2)
          clear hm2 hk2 HPU HBX HFN
          go_upto_region 13 with (fail)
          refine wp_region_any (by kernel_rfl) ?_
          change wpAny _ _ _ _ _ _ _ (World.drew _)
          refine wpAny_take (i := 0) (v := ?_) rfl (by kernel_rfl) (by kernel_rfl) (by kernel_rfl) (fun _ _ _ h => h) (Or.inl ⟨by kernel_rfl, ?_⟩) ?_
          rotate_left 1
          · (intro w; go_simp <;> with_reducible rfl)
          go_simp
          refine wpAny_take (i := 1) (v := ?_) rfl (by kernel_rfl) (by kernel_rfl) (by kernel_rfl) (fun _ _ _ h => h) (Or.inl ⟨by kernel_rfl, ?_⟩) ?_
          rotate_left 1
          · (intro w; go_simp <;> with_reducible rfl)
          go_simp
          refine wpAny_take (i := 2) (v := ?_) rfl (by kernel_rfl) (by kernel_rfl) (by kernel_rfl) (fun _ _ _ h => h) (Or.inl ⟨by kernel_rfl, ?_⟩) ?_
          rotate_left 1
          · (intro w; go_simp <;> with_reducible rfl)
          go_simp
          refine wpAny_take (i := 5) (v := ?_) rfl (by kernel_rfl) (by kernel_rfl) (by kernel_rfl) (fun _ _ _ h => h) (Or.inl ⟨by kernel_rfl, ?_⟩) ?_
          rotate_left 1
          · (intro w; go_simp <;> with_reducible rfl)
          go_simp
          refine wpAny_ready (rs := [3, 4]) (by kernel_rfl) (by simp) ?_
          refine AllReady.cons rfl (fun K hK => ?_) ?_
          ·
            go_simp
            refine hK _ _ ?_; clear hK K
            refine wpAny_ready (rs := [4]) (by kernel_rfl) (by simp) ?_
            refine AllReady.cons rfl (fun K hK => ?_) ?_
            ·
              go_simp
              refine hK _ _ ?_; clear hK K
              refine wpAny_ready (rs := [6]) (by kernel_rfl) (by simp) ?_
              refine AllReady.cons rfl (fun K hK => ?_) ?_
              ·
                go_simp
                refine hK _ _ ?_; clear hK K
                refine wpAny_done (by kernel_rfl) ?_ _
                go_wp2_with fail
                go_ret2
                exact ⟨HF1.out, _, HFIN.out⟩
              exact AllReady.nil
            exact AllReady.nil
          refine AllReady.cons rfl (fun K hK => ?_) ?_
          ·
            go_simp
            refine hK _ _ ?_; clear hK K
            refine wpAny_ready (rs := [3]) (by kernel_rfl) (by simp) ?_
            refine AllReady.cons rfl (fun K hK => ?_) ?_
            ·
              go_simp
              refine hK _ _ ?_; clear hK K
              refine wpAny_ready (rs := [6]) (by kernel_rfl) (by simp) ?_
              refine AllReady.cons rfl (fun K hK => ?_) ?_
              ·
                go_simp
                refine hK _ _ ?_; clear hK K
                refine wpAny_done (by kernel_rfl) ?_ _
                go_wp2_with fail
                go_ret2
                exact ⟨HF1.out, _, HFIN.out⟩
              exact AllReady.nil
            exact AllReady.nil
          exact AllReady.nil
        exact AllReady.nil
      exact AllReady.nil
    refine AllReady.cons rfl (fun K hK => ?_) ?_
    ·
      go_simp
      refine hK _ _ ?_; clear hK K
      refine wpAny_ready (rs := [3]) (by kernel_rfl) (by simp) ?_
      refine AllReady.cons rfl (fun K hK => ?_) ?_
      ·
        go_simp
        refine hK _ _ ?_; clear hK K
        refine wpAny_ready (rs := [5]) (by kernel_rfl) (by simp) ?_
        refine AllReady.cons rfl (fun K hK => ?_) ?_
        ·
          go_simp
          refine hK _ _ ?_; clear hK K
          refine wpAny_take (i := 6) (v := ?_) rfl (by kernel_rfl) (by kernel_rfl) (by kernel_rfl) (fun _ _ _ h => h) (Or.inl ⟨by kernel_rfl, ?_⟩) ?_
          rotate_left 1
          · (intro w; go_simp <;> with_reducible rfl)
          go_simp
          refine wpAny_take (i := 7) (v := ?_) rfl (by kernel_rfl) (by kernel_rfl) (by kernel_rfl) (fun _ _ _ h => h) (Or.inl ⟨by kernel_rfl, ?_⟩) ?_
          rotate_left 1
          · (intro w; go_simp <;> with_reducible rfl)
          go_simp
          refine wpAny_take (i := 8) (v := ?_) rfl (by kernel_rfl) (by kernel_rfl) (by kernel_rfl) (fun _ _ _ h => h) (Or.inl ⟨by kernel_rfl, ?_⟩) ?_
          rotate_left 1
          · (intro w; go_simp <;> with_reducible rfl)
          go_simp
          refine wpAny_take (i := 9) (v := ?_) rfl (by kernel_rfl) (by kernel_rfl) (by kernel_rfl) (fun _ _ _ h => h) (Or.inl ⟨by kernel_rfl, ?_⟩) ?_
          rotate_left 1
          · (intro w; go_simp <;> with_reducible rfl)
          go_simp
          refine wpAny_take (i := 10) (v := ?_) rfl (by kernel_rfl) (by kernel_rfl) (by kernel_rfl) (fun _ _ _ h => h) (Or.inl ⟨by kernel_rfl, ?_⟩) ?_
          rotate_left 1
          · (intro w; go_simp <;> with_reducible rfl)
          go_simp
          refine wpAny_done (by kernel_rfl) ?_ _
          go_wp2_with fail
          refine HAD.out.mono ?_
          rintro e w1 ⟨rfl, c1, hT⟩
          have HT := Lib.hid hT
          clear hT HAD z0 z1 c2 hlk
          obtain ⟨z0, z1⟩ := HBX.out w1 c1 HT.out
          obtain ⟨_, _, c2, _⟩ := HT.out.at_.cells
          rw [HT.out.bg] at c2
          obtain ⟨w2, hmu, hm2, hk2⟩ := HPU.out w1 c1 HT.out
          have HFIN := Lib.hid (HFN.out w1 c1 w2 HT.out hm2 hk2)
          clear hm2 hk2 HPU HBX HFN
          go_upto_region 13 with (fail)
          refine wp_region_any (by kernel_rfl) ?_
          change wpAny _ _ _ _ _ _ _ (World.drew _)
          refine wpAny_take (i := 0) (v := ?_) rfl (by kernel_rfl) (by kernel_rfl) (by kernel_rfl) (fun _ _ _ h => h) (Or.inl ⟨by kernel_rfl, ?_⟩) ?_
          rotate_left 1
          · (intro w; go_simp <;> with_reducible rfl)
          go_simp
          refine wpAny_take (i := 1) (v := ?_) rfl (by kernel_rfl) (by kernel_rfl) (by kernel_rfl) (fun _ _ _ h => h) (Or.inl ⟨by kernel_rfl, ?_⟩) ?_
          rotate_left 1
          · (intro w; go_simp <;> with_reducible rfl)
          go_simp
          refine wpAny_take (i := 2) (v := ?_) rfl (by kernel_rfl) (by kernel_rfl) (by kernel_rfl) (fun _ _ _ h => h) (Or.inl ⟨by kernel_rfl, ?_⟩) ?_
          rotate_left 1
          · (intro w; go_simp <;> with_reducible rfl)
          go_simp
          refine wpAny_take (i := 5) (v := ?_) rfl (by kernel_rfl) (by kernel_rfl) (by kernel_rfl) (fun _ _ _ h => h) (Or.inl ⟨by kernel_rfl, ?_⟩) ?_
          rotate_left 1
          · (intro w; go_simp <;> with_reducible rfl)
          go_simp
          refine wpAny_ready (rs := [3, 4]) (by kernel_rfl) (by simp) ?_
          refine AllReady.cons rfl (fun K hK => ?_) ?_
          ·
            go_simp
            refine hK _ _ ?_; clear hK K
            refine wpAny_ready (rs := [4]) (by kernel_rfl) (by simp) ?_
            refine AllReady.cons rfl (fun K hK => ?_) ?_
            ·
              go_simp
              refine hK _ _ ?_; clear hK K
              refine wpAny_ready (rs := [6]) (by kernel_rfl) (by simp) ?_
              refine AllReady.cons rfl (fun K hK => ?_) ?_
              ·
                go_simp
                refine hK _ _ ?_; clear hK K
                refine wpAny_done (by kernel_rfl) ?_ _
                go_wp2_with fail
                go_ret2
                exact ⟨HF1.out, _, HFIN.out⟩
              exact AllReady.nil
            exact AllReady.nil
          refine AllReady.cons rfl (fun K hK => ?_) ?_
          ·
            go_simp
            refine hK _ _ ?_; clear hK K
            refine wpAny_ready (rs := [3]) (by kernel_rfl) (by simp) ?_
            refine AllReady.cons rfl (fun K hK => ?_) ?_
            ·
              go_simp
              refine hK _ _ ?_; clear hK K
              refine wpAny_ready (rs := [6]) (by kernel_rfl) (by simp) ?_
              refine AllReady.cons rfl (fun K hK => ?_) ?_
              ·
                go_simp
                refine hK _ _ ?_; clear hK K
                refine wpAny_done (by kernel_rfl) ?_ _
                go_wp2_with fail
                go_ret2
                exact ⟨HF1.out, _, HFIN.out⟩
              exact AllReady.nil
            exact AllReady.nil
          exact AllReady.nil
        exact AllReady.nil
      exact AllReady.nil
    exact AllReady.nil
end Go.Proofs.Ytmiifhclcknhdaa
