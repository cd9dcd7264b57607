/- The order of what is learnt: the contract of slices.SortFunc by levels and variables. -/
import Derived.Test.YtdecejhobefefaaLrnS
import Derived.Deep.RegionWith
namespace Go.Proofs.Ytdecejhobefefaa
open Go.Shelf Go.RowKit Go.Lib Go.Sort LitM TrailM EngM

/-- A literal that is false. -/
structure F1 (S : Eng) where
  val : Int
  is : valZ S.L val = -1
def encF {S : Eng} (x : F1 S) : Value := .int .i32 x.val
/-- The order: the greater level first, then the smaller variable. -/
def cfZ (S : Eng) (x y : Int) : Int := if Lib.compareInt (lvl S y) (lvl S x) ≠ 0 then Lib.compareInt (lvl S y) (lvl S x) else Lib.compareInt (varZ x) (varZ y)
def rkZ (S : Eng) (x : Int) : Int := varZ x - lvl S x * 300000
theorem cf_rk (S : Eng) (x y : Int) : (cfZ S x y < 0) ↔ rkZ S x < rkZ S y := by
  have h1 := varZ_bd x
  have h2 := varZ_bd y
  unfold cfZ rkZ Lib.compareInt
  rcases Int.lt_trichotomy (lvl S y) (lvl S x) with e | e | e
  · simp [e] <;> omega
  · rw [e]
    simp only [Int.lt_irrefl, if_false]
    rcases Int.lt_trichotomy (varZ x) (varZ y) with k | k | k
    · simp [k]
    · simp [k]
    · have : ¬ varZ x < varZ y := by omega
      simp [k, this] <;> omega
  · have : ¬ lvl S y < lvl S x := by omega
    simp [e, this] <;> omega
theorem ltF {S : Eng} (x y : F1 S) : ltOf (fun x y : F1 S => cfZ S x.val y.val) x y = decide (rkZ S x.val < rkZ S y.val) := by
  unfold ltOf
  have := cf_rk S x.val y.val
  by_cases h : rkZ S x.val < rkZ S y.val
  · rw [decide_eq_true h, decide_eq_true (this.2 h)]
  · rw [decide_eq_false h, decide_eq_false (fun e => h (this.1 e))]
theorem swoF (S : Eng) : SWO (ltOf fun x y : F1 S => cfZ S x.val y.val) where
  irrefl x := by rw [ltF]; simp
  trans x y z h1 h2 := by rw [ltF] at *; simp at *; omega
  ntrans x y z h1 h2 := by rw [ltF] at *; simp at *; omega
theorem false_same {S : Eng} (hI : Inv S) {x y : Int} (hx : valZ S.L x = -1) (hy : valZ S.L y = -1) (e : varZ x = varZ y) : x = y := by
  obtain ⟨hx1, _⟩ := false_at hI hx
  obtain ⟨hy1, _⟩ := false_at hI hy
  rcases var_eq hx1 hy1 e with h | h
  · exact h
  · exfalso
    have h1 := (val_neg hI.pre hx1).1 hx
    have h2 := (val_neg hI.pre hy1).1 hy
    rw [h, not_not] at h1
    exact tr_both hI.pre hy1 h1 h2
theorem totF {S : Eng} (hI : Inv S) (x y : F1 S) (h1 : ltOf (fun x y : F1 S => cfZ S x.val y.val) x y = false) (h2 : ltOf (fun x y : F1 S => cfZ S x.val y.val) y x = false) : x = y := by
  rw [ltF] at *
  simp at *
  have hb1 := varZ_bd x.val
  have hb2 := varZ_bd y.val
  have hr : rkZ S x.val = rkZ S y.val := by omega
  unfold rkZ at hr
  have : varZ x.val = varZ y.val := by omega
  have := false_same hI x.is y.is this
  cases x; cases y
  simp only [F1.mk.injEq]
  exact this
set_option maxHeartbeats 1600000 in
theorem cmpor_any (w : World) (g : Nat) (x y : Int) (c0 : w.cell? ⟨g, 0, none⟩ = some (.int .i64 x)) (c1 : w.cell? ⟨g, 1, none⟩ = some (.int .i64 y)) :
    Calls Try.prog 90 #[.slice (some ⟨g, 0, none⟩) 2 2] w fun e w' => e = .returned (.int .i64 (if x ≠ 0 then x else y)) ∧ w = w' := by
  by_cases hx : x = 0
  · subst hx
    have t0 : ((0 : Int) != 0) = false := by simp
    by_cases hy : y = 0
    · subst hy
      go_enter Try.func90, Try.ntmps90
      go_wp2_with fail
      refine wp_loop_rounds 3 ?_
      rw [rounds_succ]
      go_wp2_with fail
      rw [rounds_succ]
      go_wp2_with fail
      rw [rounds_succ]
      go_wp2_with fail
      go_ret
      exact ⟨rfl, rfl⟩
    · have ty : (y != 0) = true := by simpa using hy
      go_enter Try.func90, Try.ntmps90
      go_wp2_with fail
      refine wp_loop_rounds 2 ?_
      rw [rounds_succ]
      go_wp2_with fail
      rw [rounds_succ]
      go_wp2_with fail
      go_ret
      exact ⟨rfl, rfl⟩
  · have tx : (x != 0) = true := by simpa using hx
    rw [if_pos hx]
    go_enter Try.func90, Try.ntmps90
    go_wp2_with fail
    refine wp_loop_rounds 1 ?_
    rw [rounds_succ]
    go_wp2_with fail
    go_ret
    exact ⟨rfl, rfl⟩
theorem alloc_grow (W : World) (o : Obj) : W.alloc o = grow W #[o] := by
  unfold grow
  rw [Array.append_singleton]; rfl
set_option maxHeartbeats 3200000 in
set_option maxRecDepth 100000 in
theorem shorten1_any {W : World} {b bd xd : Nat} {q : Pm} {S : Eng} {d : Nat} (h : E6 W b q S d) (hn : S.n ≤ 90000) (hb : W.cell? ⟨bd, 0, none⟩ = some (.pointer (some ⟨b, 0, none⟩))) (c1 : W.cell? ⟨xd, 0, none⟩ = some (.pointer (some ⟨bd, 0, none⟩))) (x y : Int) (x0 : -2147483648 ≤ x) (x1 : x ≤ 2147483647) (y0 : -2147483648 ≤ y) (y1 : y ≤ 2147483647) :
    Calls Try.prog 89 #[.int .i32 x, .int .i32 y, .pointer (some ⟨xd, 0, none⟩)] W fun e w' => e = .returned (.int .i64 (cfZ S x y)) ∧ ∃ r os, w' = grow (W.drewN r) os := by
  have HL : Hid (∀ r z, -2147483648 ≤ z → z ≤ 2147483647 → Calls Try.prog 64 #[.pointer (some ⟨bd, 0, none⟩), .int .i32 z] (W.drewN r) fun e w' => e = .returned (.int .i64 (lvl S z)) ∧ ∃ r2, w' = (W.drewN r).drewN r2) := fun r z z0 z1 => dlevel_any (h.drewN r) hb hn z z0 z1
  have HLy : Hid (∀ r, Calls Try.prog 64 #[.pointer (some ⟨bd, 0, none⟩), .int .i32 y] (W.drewN r) fun e w' => e = .returned (.int .i64 (lvl S y)) ∧ ∃ r2, w' = (W.drewN r).drewN r2) := fun r => HL.out r y y0 y1
  have HLx : Hid (∀ r, Calls Try.prog 64 #[.pointer (some ⟨bd, 0, none⟩), .int .i32 x] (W.drewN r) fun e w' => e = .returned (.int .i64 (lvl S x)) ∧ ∃ r2, w' = (W.drewN r).drewN r2) := fun r => HL.out r x x0 x1
  have HVx : Hid (∀ V : World, Calls Try.prog 47 #[.int .i32 x] V fun e w' => e = .returned (.int .i64 (varZ x)) ∧ V = w') := fun V => var_any x V x0 x1
  have HVy : Hid (∀ V : World, Calls Try.prog 47 #[.int .i32 y] V fun e w' => e = .returned (.int .i64 (varZ y)) ∧ V = w') := fun V => var_any y V y0 y1
  have HC1 : Hid (∀ V : World, Calls Try.prog 91 #[.int .i64 (lvl S y), .int .i64 (lvl S x)] V fun e w' => e = .returned (.int .i64 (Lib.compareInt (lvl S y) (lvl S x))) ∧ w' = V) := fun V => AnyG.cmp_Compare_int Try.cmpL (lvl S y) (lvl S x) V
  have HC2 : Hid (∀ V : World, Calls Try.prog 91 #[.int .i64 (varZ x), .int .i64 (varZ y)] V fun e w' => e = .returned (.int .i64 (Lib.compareInt (varZ x) (varZ y))) ∧ w' = V) := fun V => AnyG.cmp_Compare_int Try.cmpL (varZ x) (varZ y) V
  have HCF : Hid (cfZ S x y = if Lib.compareInt (lvl S y) (lvl S x) ≠ 0 then Lib.compareInt (lvl S y) (lvl S x) else Lib.compareInt (varZ x) (varZ y)) := rfl
  obtain ⟨cf, hcf⟩ : ∃ cf, cf = cfZ S x y := ⟨_, rfl⟩
  rw [← hcf] at HCF ⊢
  clear h HL hb hcf
  generalize Lib.compareInt (lvl S y) (lvl S x) = k1 at *
  generalize Lib.compareInt (varZ x) (varZ y) = k2 at *
  generalize lvl S x = lx at *
  generalize lvl S y = ly at *
  generalize varZ x = vx at *
  generalize varZ y = vy at *
  have HOr : Hid (∀ V : World, Calls Try.prog 90 #[.slice (some ⟨V.heap.size, 0, none⟩) 2 2] (V.alloc (.cells #[.int .i64 k1, .int .i64 k2] 3)) fun e w' => e = .returned (.int .i64 cf) ∧ V.alloc (.cells #[.int .i64 k1, .int .i64 k2] 3) = w') := fun V => by
    rw [HCF.out]
    exact cmpor_any _ _ k1 k2 (Lib.cell_of_heap (blk_new V _) 0) (Lib.cell_of_heap (blk_new V _) 1)
  go_enter Try.func89, Try.ntmps89
  go_upto_region 1 with (fail)
  refine wp_region_any (by kernel_rfl) ?_
  change wpAny _ _ _ _ _ _ _ (World.drew _)
  refine wpAny_take (i := 1) (v := ?_) rfl (by kernel_rfl) (by kernel_rfl) (by kernel_rfl) (fun _ _ _ h => h) (Or.inl ⟨by kernel_rfl, ?_⟩) ?_
  rotate_left 1
  · (intro w; go_simp <;> with_reducible rfl)
  go_simp
  refine wpAny_take (i := 4) (v := ?_) rfl (by kernel_rfl) (by kernel_rfl) (by kernel_rfl) (fun _ _ _ h => h) (Or.inl ⟨by kernel_rfl, ?_⟩) ?_
  rotate_left 1
  · (intro w; go_simp <;> with_reducible rfl)
  go_simp
  refine wpAny_take (i := 7) (v := ?_) rfl (by kernel_rfl) (by kernel_rfl) (by kernel_rfl) (fun _ _ _ h => h) (Or.inl ⟨by kernel_rfl, ?_⟩) ?_
  rotate_left 1
  · (intro w; go_simp <;> with_reducible rfl)
  go_simp
  refine wpAny_take (i := 9) (v := ?_) rfl (by kernel_rfl) (by kernel_rfl) (by kernel_rfl) (fun _ _ _ h => h) (Or.inl ⟨by kernel_rfl, ?_⟩) ?_
  rotate_left 1
  · (intro w; go_simp <;> with_reducible rfl)
  go_simp
  refine wpAny_ready (rs := [0, 3]) (by kernel_rfl) (by simp) ?_
  refine AllReady.cons rfl (fun K hK => ?_) ?_
  ·
    go_simp
    refine hK _ _ ?_; clear hK K
    refine wpAny_ready (rs := [2, 3]) (by kernel_rfl) (by simp) ?_
    refine AllReady.cons rfl (fun K hK => ?_) ?_
    ·
      go_simp
      go_wp2_with ((go_at_call 64; refine (HLy.out _).mono ?_; rintro e w' ⟨rfl, ry, rfl⟩))
      first | (refine hK _ _ ?_; clear hK K) | skip
      refine wpAny_ready (rs := [3]) (by kernel_rfl) (by simp) ?_
      refine AllReady.cons rfl (fun K hK => ?_) ?_
      ·
        go_simp
        refine hK _ _ ?_; clear hK K
        refine wpAny_ready (rs := [5]) (by kernel_rfl) (by simp) ?_
        refine AllReady.cons rfl (fun K hK => ?_) ?_
        ·
          go_simp
          go_wp2_with ((go_at_call 64; refine (HLx.out _).mono ?_; rintro e w' ⟨rfl, rx, rfl⟩))
          first | (refine hK _ _ ?_; clear hK K) | skip
          refine wpAny_ready (rs := [6]) (by kernel_rfl) (by simp) ?_
          refine AllReady.cons rfl (fun K hK => ?_) ?_
          ·
            go_simp
            go_wp2_with ((go_at_call 91; refine (HC1.out _).mono ?_; rintro e w' ⟨rfl, rfl⟩))
            first | (refine hK _ _ ?_; clear hK K) | skip
            refine wpAny_ready (rs := [8]) (by kernel_rfl) (by simp) ?_
            refine AllReady.cons rfl (fun K hK => ?_) ?_
            ·
              go_simp
              go_wp2_with ((go_at_call 47; refine (HVx.out _).mono ?_; rintro e w' ⟨rfl, rfl⟩))
              first | (refine hK _ _ ?_; clear hK K) | skip
              refine wpAny_ready (rs := [10]) (by kernel_rfl) (by simp) ?_
              refine AllReady.cons rfl (fun K hK => ?_) ?_
              ·
                go_simp
                go_wp2_with ((go_at_call 47; refine (HVy.out _).mono ?_; rintro e w' ⟨rfl, rfl⟩))
                first | (refine hK _ _ ?_; clear hK K) | skip
                refine wpAny_ready (rs := [11]) (by kernel_rfl) (by simp) ?_
                refine AllReady.cons rfl (fun K hK => ?_) ?_
                ·
                  go_simp
                  go_wp2_with ((go_at_call 91; refine (HC2.out _).mono ?_; rintro e w' ⟨rfl, rfl⟩))
                  first | (refine hK _ _ ?_; clear hK K) | skip
                  refine wpAny_ready (rs := [12]) (by kernel_rfl) (by simp) ?_
                  refine AllReady.cons rfl (fun K hK => ?_) ?_
                  ·
                    go_simp
                    refine hK _ _ ?_; clear hK K
                    refine wpAny_ready (rs := [13]) (by kernel_rfl) (by simp) ?_
                    refine AllReady.cons rfl (fun K hK => ?_) ?_
                    ·
                      go_simp
                      go_wp2_with ((go_at_call 90; refine (HOr.out _).mono ?_; rintro e w' ⟨rfl, rfl⟩))
                      first | (refine hK _ _ ?_; clear hK K) | skip
                      refine wpAny_ready (rs := [14]) (by kernel_rfl) (by simp) ?_
                      refine AllReady.cons rfl (fun K hK => ?_) ?_
                      ·
                        go_simp
                        refine hK _ _ ?_; clear hK K
                        refine wpAny_done (by kernel_rfl) ?_ _
                        go_wp2_with fail
                        go_ret
                        exact ⟨rfl, _, _, alloc_grow _ _⟩
                      exact AllReady.nil
                    exact AllReady.nil
                  exact AllReady.nil
                exact AllReady.nil
              exact AllReady.nil
            exact AllReady.nil
          exact AllReady.nil
        exact AllReady.nil
      exact AllReady.nil
    refine AllReady.cons rfl (fun K hK => ?_) ?_
    ·
      go_simp
      refine hK _ _ ?_; clear hK K
      refine wpAny_ready (rs := [2]) (by kernel_rfl) (by simp) ?_
      refine AllReady.cons rfl (fun K hK => ?_) ?_
      ·
        go_simp
        go_wp2_with ((go_at_call 64; refine (HLy.out _).mono ?_; rintro e w' ⟨rfl, ry, rfl⟩))
        first | (refine hK _ _ ?_; clear hK K) | skip
        refine wpAny_ready (rs := [5]) (by kernel_rfl) (by simp) ?_
        refine AllReady.cons rfl (fun K hK => ?_) ?_
        ·
          go_simp
          go_wp2_with ((go_at_call 64; refine (HLx.out _).mono ?_; rintro e w' ⟨rfl, rx, rfl⟩))
          first | (refine hK _ _ ?_; clear hK K) | skip
          refine wpAny_ready (rs := [6]) (by kernel_rfl) (by simp) ?_
          refine AllReady.cons rfl (fun K hK => ?_) ?_
          ·
            go_simp
            go_wp2_with ((go_at_call 91; refine (HC1.out _).mono ?_; rintro e w' ⟨rfl, rfl⟩))
            first | (refine hK _ _ ?_; clear hK K) | skip
            refine wpAny_ready (rs := [8]) (by kernel_rfl) (by simp) ?_
            refine AllReady.cons rfl (fun K hK => ?_) ?_
            ·
              go_simp
              go_wp2_with ((go_at_call 47; refine (HVx.out _).mono ?_; rintro e w' ⟨rfl, rfl⟩))
              first | (refine hK _ _ ?_; clear hK K) | skip
              refine wpAny_ready (rs := [10]) (by kernel_rfl) (by simp) ?_
              refine AllReady.cons rfl (fun K hK => ?_) ?_
              ·
                go_simp
                go_wp2_with ((go_at_call 47; refine (HVy.out _).mono ?_; rintro e w' ⟨rfl, rfl⟩))
                first | (refine hK _ _ ?_; clear hK K) | skip
                refine wpAny_ready (rs := [11]) (by kernel_rfl) (by simp) ?_
                refine AllReady.cons rfl (fun K hK => ?_) ?_
                ·
                  go_simp
                  go_wp2_with ((go_at_call 91; refine (HC2.out _).mono ?_; rintro e w' ⟨rfl, rfl⟩))
                  first | (refine hK _ _ ?_; clear hK K) | skip
                  refine wpAny_ready (rs := [12]) (by kernel_rfl) (by simp) ?_
                  refine AllReady.cons rfl (fun K hK => ?_) ?_
                  ·
                    go_simp
                    refine hK _ _ ?_; clear hK K
                    refine wpAny_ready (rs := [13]) (by kernel_rfl) (by simp) ?_
                    refine AllReady.cons rfl (fun K hK => ?_) ?_
                    ·
                      go_simp
                      go_wp2_with ((go_at_call 90; refine (HOr.out _).mono ?_; rintro e w' ⟨rfl, rfl⟩))
                      first | (refine hK _ _ ?_; clear hK K) | skip
                      refine wpAny_ready (rs := [14]) (by kernel_rfl) (by simp) ?_
                      refine AllReady.cons rfl (fun K hK => ?_) ?_
                      ·
                        go_simp
                        refine hK _ _ ?_; clear hK K
                        refine wpAny_done (by kernel_rfl) ?_ _
                        go_wp2_with fail
                        go_ret
                        exact ⟨rfl, _, _, alloc_grow _ _⟩
                      exact AllReady.nil
                    exact AllReady.nil
                  exact AllReady.nil
                exact AllReady.nil
              exact AllReady.nil
            exact AllReady.nil
          exact AllReady.nil
        exact AllReady.nil
      exact AllReady.nil
    exact AllReady.nil
  refine AllReady.cons rfl (fun K hK => ?_) ?_
  ·
    go_simp
    refine hK _ _ ?_; clear hK K
    refine wpAny_ready (rs := [0]) (by kernel_rfl) (by simp) ?_
    refine AllReady.cons rfl (fun K hK => ?_) ?_
    ·
      go_simp
      refine hK _ _ ?_; clear hK K
      refine wpAny_ready (rs := [2]) (by kernel_rfl) (by simp) ?_
      refine AllReady.cons rfl (fun K hK => ?_) ?_
      ·
        go_simp
        go_wp2_with ((go_at_call 64; refine (HLy.out _).mono ?_; rintro e w' ⟨rfl, ry, rfl⟩))
        first | (refine hK _ _ ?_; clear hK K) | skip
        refine wpAny_ready (rs := [5]) (by kernel_rfl) (by simp) ?_
        refine AllReady.cons rfl (fun K hK => ?_) ?_
        ·
          go_simp
          go_wp2_with ((go_at_call 64; refine (HLx.out _).mono ?_; rintro e w' ⟨rfl, rx, rfl⟩))
          first | (refine hK _ _ ?_; clear hK K) | skip
          refine wpAny_ready (rs := [6]) (by kernel_rfl) (by simp) ?_
          refine AllReady.cons rfl (fun K hK => ?_) ?_
          ·
            go_simp
            go_wp2_with ((go_at_call 91; refine (HC1.out _).mono ?_; rintro e w' ⟨rfl, rfl⟩))
            first | (refine hK _ _ ?_; clear hK K) | skip
            refine wpAny_ready (rs := [8]) (by kernel_rfl) (by simp) ?_
            refine AllReady.cons rfl (fun K hK => ?_) ?_
            ·
              go_simp
              go_wp2_with ((go_at_call 47; refine (HVx.out _).mono ?_; rintro e w' ⟨rfl, rfl⟩))
              first | (refine hK _ _ ?_; clear hK K) | skip
              refine wpAny_ready (rs := [10]) (by kernel_rfl) (by simp) ?_
              refine AllReady.cons rfl (fun K hK => ?_) ?_
              ·
                go_simp
                go_wp2_with ((go_at_call 47; refine (HVy.out _).mono ?_; rintro e w' ⟨rfl, rfl⟩))
                first | (refine hK _ _ ?_; clear hK K) | skip
                refine wpAny_ready (rs := [11]) (by kernel_rfl) (by simp) ?_
                refine AllReady.cons rfl (fun K hK => ?_) ?_
                ·
                  go_simp
                  go_wp2_with ((go_at_call 91; refine (HC2.out _).mono ?_; rintro e w' ⟨rfl, rfl⟩))
                  first | (refine hK _ _ ?_; clear hK K) | skip
                  refine wpAny_ready (rs := [12]) (by kernel_rfl) (by simp) ?_
                  refine AllReady.cons rfl (fun K hK => ?_) ?_
                  ·
                    go_simp
                    refine hK _ _ ?_; clear hK K
                    refine wpAny_ready (rs := [13]) (by kernel_rfl) (by simp) ?_
                    refine AllReady.cons rfl (fun K hK => ?_) ?_
                    ·
                      go_simp
                      go_wp2_with ((go_at_call 90; refine (HOr.out _).mono ?_; rintro e w' ⟨rfl, rfl⟩))
                      first | (refine hK _ _ ?_; clear hK K) | skip
                      refine wpAny_ready (rs := [14]) (by kernel_rfl) (by simp) ?_
                      refine AllReady.cons rfl (fun K hK => ?_) ?_
                      ·
                        go_simp
                        refine hK _ _ ?_; clear hK K
                        refine wpAny_done (by kernel_rfl) ?_ _
                        go_wp2_with fail
                        go_ret
                        exact ⟨rfl, _, _, alloc_grow _ _⟩
                      exact AllReady.nil
                    exact AllReady.nil
                  exact AllReady.nil
                exact AllReady.nil
              exact AllReady.nil
            exact AllReady.nil
          exact AllReady.nil
        exact AllReady.nil
      exact AllReady.nil
    exact AllReady.nil
  exact AllReady.nil
end Go.Proofs.Ytdecejhobefefaa
