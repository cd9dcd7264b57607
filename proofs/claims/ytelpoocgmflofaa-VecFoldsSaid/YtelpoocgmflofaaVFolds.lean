/- VecFolds is true: the statement Rows.VecFoldsSaid, without a condition. -/
import Derived.Test.YtelpoocgmflofaaVecX
namespace Go.Proofs.Ytelpoocgmflofaa.VFolds
open Go.ChangeShapes Go.WideShapes Go.ChangeAt Go.RowKit GatM VecM LitM

theorem own_knob : ownKnob Try.prog.godebug = none := by kernel_rfl
theorem laid_out : laidOutB Try.prog = true := by kernel_rfl
theorem pw29 {k : Nat} (h : k ≤ 29) : pw k ≤ 536870912 := by
  have h1 : pw (k + (29 - k)) = 536870912 := by rw [show k + (29 - k) = 29 by omega]; decide
  rw [pw_add] at h1
  have h2 := pw_pos k
  have h3 := pw_pos (29 - k)
  have := Int.mul_le_mul_of_nonneg_left (show 1 ≤ pw (29 - k) by omega) (Int.le_of_lt h2)
  omega
/-- A number of at most 30 bits. -/
theorem small30 {n : Int} (hn : I64 n) {m : Nat} (hm : m = widthZ n n) (h0 : 0 < m) (h : m ≤ 30) : -536870912 ≤ n ∧ n ≤ 536870912 := by
  have h1 := (widthZ_self hn hm h0).2
  obtain ⟨k, rfl⟩ : ∃ k, m = k + 1 := ⟨m - 1, by omega⟩
  have h2 := nB_bd (bitZ n) k
  rw [h1] at h2
  have := pw29 (show k ≤ 29 by omega)
  omega
theorem mul30 {x y : Int} (hx : -536870912 ≤ x ∧ x ≤ 536870912) (hy : -536870912 ≤ y ∧ y ≤ 536870912) : -288230376151711744 ≤ x * y ∧ x * y ≤ 288230376151711744 := by
  have h := Nat.mul_le_mul (show x.natAbs ≤ 536870912 by omega) (show y.natAbs ≤ 536870912 by omega)
  rw [← Int.natAbs_mul] at h
  omega
/-- Of a constant: its edges, or that it can't be. -/
theorem St.con2 {B bg : Nat} {w0 W : World} {gs : Gs} {L : List Vrec} {E : List (Nat × (List Bool → Bool))} (h : St B w0 bg W gs L E) (n : Int) (hn : I64 n) (m : Nat) (hm : m = widthZ n n) : Calls Try.prog 11 #[.int .i64 n] W fun e w' => ∃ A c er, e = .returned (.tuple #[.slice A m c, .int .i64 er]) ∧ Hid (Below B w0 w') ∧ (m = 0 → (er == 0) = false) := by
  refine (vConst_any n hn W).mono fun e w' hc => ?_
  unfold ConTo at hc
  rw [← hm] at hc
  split at hc
  · rename_i h0
    subst h0
    exact ⟨_, _, _, hc.1, by rw [← hc.2]; exact h.be.1, fun _ => by decide⟩
  · rename_i h0
    obtain ⟨g, q1, _, q3, _⟩ := hc
    exact ⟨_, _, _, q1, (h.below q3).be.1, fun q => absurd q h0⟩
set_option maxHeartbeats 12800000 in
set_option maxRecDepth 100000 in
theorem walk (x y m r : Int) (hx : I64 x) (hy : I64 y) (hm : I64 m) (_hr : I64 r) (w : World) :
    Calls Try.prog 6 #[.agg #[.int .i64 x, .int .i64 y], .int .i64 m, .int .i64 r] w fun e w' => e = .returned (.bool true) ∧ Below w.heap.size w w' := by
  obtain ⟨W0, hW0⟩ : ∃ W0, W0 = w.alloc (.cells #[.int .i64 x, .int .i64 y] 37) := ⟨_, rfl⟩
  have hB0 : Below w.heap.size w W0 := by rw [hW0]; exact (Below.refl _ _).alloc (Nat.le_refl _) _
  have hT0 : ∀ W, Below W0.heap.size W0 W → W.cell? ⟨w.heap.size, 0, none⟩ = some (.int .i64 x) ∧ W.cell? ⟨w.heap.size, 1, none⟩ = some (.int .i64 y) := fun W hb => by
    have hs : w.heap.size < W0.heap.size := by rw [hW0]; simp
    have e1 : W0.heap[w.heap.size]? = some (.cells #[.int .i64 x, .int .i64 y] 37 (0, 0)) := by rw [hW0]; exact blk_new w _
    refine ⟨?_, ?_⟩
    all_goals (rw [hb.cell (by exact hs), Lib.cell_of_heap e1]; rfl)
  have HT0 := Lib.hid hT0
  clear hT0
  have HIX := Lib.hid hx
  have HIY := Lib.hid hy
  obtain ⟨hm1', hm2'⟩ := hm
  clear hx hy
  go_enter Try.func6, Try.ntmps6
  go_wp2_with fail
  rw [← hW0]
  refine (valive_any W0).mono ?_
  rintro e w1 ⟨rfl, hb1⟩
  have HBW : Hid (∀ W, Below w1.heap.size w1 W → Below w.heap.size w W) := fun W hW => (hB0.trans (hb1.mono hB0.size)).trans (hW.mono (Nat.le_trans hB0.size hb1.size))
  have HT : Hid (∀ W, Below w1.heap.size w1 W → W.cell? ⟨w.heap.size, 0, none⟩ = some (.int .i64 x) ∧ W.cell? ⟨w.heap.size, 1, none⟩ = some (.int .i64 y)) := fun W hW => HT0.out W (hb1.trans (hW.mono hb1.size))
  clear hW0 hB0 hb1 HT0
  go_wp2_with fail
  refine (gnew_any w1).mono ?_
  intro e w3 hNW
  obtain ⟨bg, rfl, hst⟩ := St.new hNW (Below.refl w1.heap.size w1) (Nat.le_refl _)
  have HS0 : Hid (St w1.heap.size w1 bg w3 (List.replicate 1 (0, 0)) [] []) := hst
  clear hNW hst
  obtain ⟨ma, hma⟩ : ∃ ma, ma = widthZ x x := ⟨_, rfl⟩
  obtain ⟨mb, hmb⟩ : ∃ mb, mb = widthZ y y := ⟨_, rfl⟩
  have HMA := Lib.hid hma
  have HMB := Lib.hid hmb
  have ha32 : ma ≤ 32 := by rw [hma]; unfold widthZ; split <;> omega
  have hb32 : mb ≤ 32 := by rw [hmb]; unfold widthZ; split <;> omega
  clear hma hmb
  obtain ⟨x0, x1⟩ := HT.out _ HS0.out.be.1
  by_cases hgood : 0 < ma ∧ 0 < mb ∧ ma + mb ≤ 32 ∧ ma ≤ 30 ∧ mb ≤ 30
  case neg =>
    have HC1 := Lib.hid (St.con2 HS0.out x HIX.out ma HMA.out)
    go_wp2_with fail
    refine HC1.out.mono ?_
    rintro e1 v1 ⟨A1, c1, er1, rfl, hb1, hz1⟩
    obtain ⟨x0', x1'⟩ := HT.out _ hb1.out
    have HC2 : Hid (∀ W, Below w1.heap.size w1 W → Calls Try.prog 11 #[.int .i64 y] W fun e w' => ∃ A c er, e = .returned (.tuple #[.slice A mb c, .int .i64 er]) ∧ Hid (Below w1.heap.size w1 w') ∧ (mb = 0 → (er == 0) = false)) := fun W hW => by
      refine (vConst_any y HIY.out W).mono fun e w' hc => ?_
      unfold ConTo at hc
      rw [← HMB.out] at hc
      split at hc
      · rename_i h0
        subst h0
        exact ⟨_, _, _, hc.1, by rw [← hc.2]; exact hW, fun _ => by decide⟩
      · rename_i h0
        obtain ⟨g, q1, _, q3, _⟩ := hc
        exact ⟨_, _, _, q1, hW.trans (q3.mono hW.size), fun q => absurd q h0⟩
    have HC3 := Lib.hid (HC2.out v1 hb1.out)
    clear HC1 HC2 HS0 x0 x1
    go_wp2_with fail
    refine HC3.out.mono ?_
    rintro e2 v2 ⟨A2, c2, er2, rfl, hb2, hz2⟩
    have HBE := Lib.hid (HBW.out _ hb2.out)
    clear hb1 hb2 HC3 x0' x1'
    by_cases q1 : (er1 == 0) = true
    · have n1 : 0 < ma := by
        rcases Nat.eq_zero_or_pos ma with q | q
        · rw [hz1 q] at q1; cases q1
        · exact q
      by_cases q2 : (er2 == 0) = true
      · have n2 : 0 < mb := by
          rcases Nat.eq_zero_or_pos mb with q | q
          · rw [hz2 q] at q2; cases q2
          · exact q
        rw [beq_iff_eq] at q1 q2
        subst q1 q2
        clear hz1 hz2
        by_cases q3 : 32 < ma + mb
        · have t3 : decide ((32 : Int) < (ma : Int) + (mb : Int)) = true := decide_eq_true (by omega)
          go_wp2_with fail
          go_ret
          exact ⟨rfl, HBE.out⟩
        · have t3 : decide ((32 : Int) < (ma : Int) + (mb : Int)) = false := decide_eq_false (by omega)
          by_cases q4 : 30 < ma
          · have t4 : decide ((30 : Int) < (ma : Int)) = true := decide_eq_true (by omega)
            have t5 : decide (30 < ma) = true := decide_eq_true q4
            go_wp2_with fail
            go_ret
            exact ⟨rfl, HBE.out⟩
          · have t4 : decide ((30 : Int) < (ma : Int)) = false := decide_eq_false (by omega)
            have t5 : decide (30 < ma) = false := decide_eq_false q4
            have t6 : decide ((30 : Int) < (mb : Int)) = true := decide_eq_true (by omega)
            have t7 : decide (30 < mb) = true := decide_eq_true (by omega)
            clear hgood
            go_wp2_with fail
            go_ret
            exact ⟨rfl, HBE.out⟩
      · have q2' : (er2 == 0) = false := by simpa using q2
        have q1' : er1 = 0 := by simpa using q1
        subst q1'
        have q2n : ¬ er2 = 0 := by simpa using q2
        clear hz1 hz2 hgood q1 q2 n1
        go_wp2_with fail
        go_ret
        exact ⟨rfl, HBE.out⟩
    · have q1' : (er1 == 0) = false := by simpa using q1
      have q1n : ¬ er1 = 0 := by simpa using q1
      clear hz1 hz2 hgood q1
      go_wp2_with fail
      go_ret
      exact ⟨rfl, HBE.out⟩
  obtain ⟨ha0, hb0, hab, ha30, hb30⟩ := hgood
  have hsx := small30 HIX.out HMA.out ha0 ha30
  have hsy := small30 HIY.out HMB.out hb0 hb30
  have hmxy := mul30 hsx hsy
  obtain ⟨sx1, sx2⟩ := hsx
  obtain ⟨sy1, sy2⟩ := hsy
  obtain ⟨sm1, sm2⟩ := hmxy
  have g1 : decide ((32 : Int) < (ma : Int) + (mb : Int)) = false := decide_eq_false (by omega)
  have g2 : decide ((30 : Int) < (ma : Int)) = false := decide_eq_false (by omega)
  have g3 : decide (30 < ma) = false := decide_eq_false (by omega)
  have g4 : decide ((30 : Int) < (mb : Int)) = false := decide_eq_false (by omega)
  have g5 : decide (30 < mb) = false := decide_eq_false (by omega)
  have hw1 : IntKind.i64.wrap (x * y) = x * y := IntWalk.i64_in _ (by omega)
  obtain ⟨M, hM⟩ : ∃ M, M = max ma mb + 1 := ⟨_, rfl⟩
  obtain ⟨T, hT⟩ : ∃ T, T = ma + mb := ⟨_, rfl⟩
  have EM := Lib.hid hM
  have ET := Lib.hid hT
  have bM : M ≤ 31 := by omega
  have bT : T ≤ 32 := by omega
  clear hM hT
  have HC1 := Lib.hid (HS0.out.con x HIX.out ma HMA.out ha0)
  go_wp2_with fail
  refine HC1.out.mono ?_
  rintro e1 v1 ⟨ga, rfl, HS1⟩
  clear HC1 HS0 x0 x1
  obtain ⟨x0, x1⟩ := HT.out _ HS1.out.be.1
  have HC2 := Lib.hid (HS1.out.con y HIY.out mb HMB.out hb0)
  go_wp2_with fail
  refine HC2.out.mono ?_
  rintro e2 v2 ⟨gb, rfl, HS2⟩
  clear HC2 HS1 x0 x1
  have hop := HS2.out.add ma mb (.tail _ (.head _)) (.head _) (by omega) (by omega) (by decide)
  rw [← EM.out] at hop
  have HOP := Lib.hid hop
  clear hop
  go_wp2_with fail
  refine HOP.out.mono ?_
  rintro e3 v3 ⟨gs, cs, ls, gs3, rfl, hl3, hc3, HS3⟩
  clear HOP HS2
  obtain ⟨rfl, _⟩ := hc3 ⟨conL_cst _ _, conL_cst _ _⟩
  clear hc3 hl3
  have hop := HS3.out.times ma mb (.tail _ (.tail _ (.head _))) (.tail _ (.head _)) (by omega) (by decide) 19008 (prod_len (by omega) (by omega)) (prod_len (by omega) (by omega))
  rw [← ET.out] at hop
  have HOP := Lib.hid hop
  clear hop
  go_wp2_with fail
  refine HOP.out.mono ?_
  rintro e4 v4 ⟨gt, ct, lt, gs4, rfl, hl4, hc4, HS4⟩
  clear HOP HS3
  obtain ⟨rfl, _⟩ := hc4 ⟨conL_cst _ _, conL_cst _ _⟩
  clear hc4 hl4
  have HOP := Lib.hid (HS4.out.less ma mb (.tail _ (.tail _ (.tail _ (.head _)))) (.tail _ (.tail _ (.head _))) (by omega) (by omega) (by decide))
  go_wp2_with fail
  refine HOP.out.mono ?_
  rintro e5 v5 ⟨ru, gs5, rfl, hl5, hc5, HS5⟩
  clear HOP HS4
  obtain ⟨rfl, _⟩ := hc5 ⟨conL_cst _ _, conL_cst _ _⟩
  clear hc5 hl5
  have HN1 := Lib.hid (HS5.out.number cs 0 (V := none) (.tail _ (.head _)) RdO.nil (by omega) (by decide))
  go_wp2_with fail
  refine HN1.out.mono ?_
  rintro e6 v6 ⟨rfl, hb6⟩
  have HS6 := Lib.hid (HS5.out.below hb6)
  clear HN1 HS5 hb6
  have HN2 := Lib.hid (HS6.out.number ct 0 (V := none) (.head _) RdO.nil (by omega) (by decide))
  go_wp2_with fail
  refine HN2.out.mono ?_
  rintro e7 v7 ⟨rfl, hb7⟩
  have HS7 := Lib.hid (HS6.out.below hb7)
  clear HN2 HS6 hb7
  have hlen : Calls Try.prog 28 #[.pointer (some ⟨bg, 0, none⟩)] v7 fun e w' => e = .returned (.int .i64 1) ∧ v7 = w' := HS7.out.len_
  have HLEN := Lib.hid hlen
  obtain ⟨x0, x1⟩ := HT.out _ HS7.out.be.1
  clear hlen
  by_cases hm1 : m < 1
  · have t1 : decide (m < 1) = true := decide_eq_true hm1
    have HBE := HBW.out _ HS7.out.be.1
    go_wp2_with fail
    refine HLEN.out.mono ?_
    rintro e w' ⟨rfl, rfl⟩
    go_wp2_with fail
    go_ret
    exact ⟨rfl, HBE⟩
  have t1 : decide (m < 1) = false := decide_eq_false hm1
  by_cases hm12 : 12 < m
  · have t2 : decide (12 < m) = true := decide_eq_true hm12
    have HBE := HBW.out _ HS7.out.be.1
    go_wp2_with fail
    refine HLEN.out.mono ?_
    rintro e w' ⟨rfl, rfl⟩
    go_wp2_with fail
    go_ret
    exact ⟨rfl, HBE⟩
  have t2 : decide (12 < m) = false := decide_eq_false hm12
  obtain ⟨N, rfl⟩ : ∃ N : Nat, m = (N : Int) := ⟨m.toNat, by omega⟩
  have hN1 : 1 ≤ N := by omega
  have hN12 : N ≤ 12 := by omega
  obtain ⟨Q, hQ⟩ : ∃ Q, Q = max N mb + 1 := ⟨_, rfl⟩
  obtain ⟨R, hR⟩ : ∃ R, R = max Q mb + 1 := ⟨_, rfl⟩
  have EQ := Lib.hid hQ
  have ER := Lib.hid hR
  have bQ : Q ≤ 31 := by omega
  have bR : R ≤ 32 := by omega
  have HBI : Hid (∀ W, Calls Try.prog 23 #[.int .i64 r, .int .i64 (N : Int)] W (BitsTo W r N)) := fun W => rbits_any r N (by omega) W
  clear hQ hR hm1 hm12
  go_wp2_with fail
  refine HLEN.out.mono ?_
  rintro e w' ⟨rfl, rfl⟩
  clear HLEN
  have HOP := Lib.hid (HS7.out.input N ⟨hN1, by omega⟩ (by omega) (by omega))
  go_wp2_with fail
  refine HOP.out.mono ?_
  rintro e8 v8 ⟨gx, rfl, HS8⟩
  clear HOP HS7
  have hgs : (List.replicate (1 + N) ((0 : Nat), (0 : Nat))).length ≤ 13 := by rw [List.length_replicate]; omega
  have hop := HS8.out.add N mb (.head _) (.tail _ (.tail _ (.tail _ (.head _)))) (by omega) (by omega) (by omega)
  rw [← EQ.out] at hop
  have HOP := Lib.hid hop
  clear hop
  go_wp2_with fail
  refine HOP.out.mono ?_
  rintro e9 v9 ⟨gmore, cmore, lmore, gs9, rfl, hl9, hc9, HS9⟩
  clear HOP HS8 hc9
  have hop := HS9.out.sub cmore mb (.head _) (.tail _ (.tail _ (.tail _ (.tail _ (.head _))))) (by omega) (by omega) (by omega)
  rw [← ER.out] at hop
  have HOP := Lib.hid hop
  clear hop
  go_wp2_with fail
  refine HOP.out.mono ?_
  rintro e10 v10 ⟨gback, cback, lback, gs10, rfl, hl10, hc10, HS10⟩
  clear HOP HS9 hc10
  have HOP := Lib.hid (HS10.out.equal cback N (.head _) (.tail _ (.tail _ (.head _))) (by omega) (by omega) (by omega))
  go_wp2_with fail
  refine HOP.out.mono ?_
  rintro e11 v11 ⟨rsame, gs11, rfl, hl11, hc11, HS11⟩
  clear HOP HS10 hc11
  go_wp2_with fail
  refine (HBI.out _).mono ?_
  intro e w7 hbt
  obtain ⟨gr, cr, rfl, _, hrd, hb7, _⟩ := hbt.rd
  have hs := HS11.out.below hb7
  have HSB := Lib.hid hs
  have HRD := Lib.hid hrd
  clear hbt hrd hb7 hs HS11 HBI
  have hev := HSB.out.eval cr HRD.out [(rsame, fun vals => decide (nB (inB 1 vals) N + y - y = nB (inB 1 vals) N))] (fun x hx => by
    rw [List.mem_singleton] at hx
    rw [hx]; exact (.head _)) (show 1 ≤ 100 by omega) (by omega)
  have HEV : Hid (Calls Try.prog 27 #[.pointer (some ⟨bg, 0, none⟩), .slice (some ⟨gr, 0, none⟩) N cr, .slice (some ⟨w7.heap.size, 0, none⟩) 1 1] (w7.alloc (.cells #[.int .u32 (rsame : Int)] 25)) fun e w' => ∃ g, e = .returned (.tuple #[.slice (some ⟨g, 0, none⟩) 1 1, .int .i64 0]) ∧ Hid (Below w7.heap.size w7 w') ∧ Hid (w'.cell? ⟨g, 0, none⟩ = some (.bool true))) := hev.mono fun e w' ⟨g, q1, q2, q3, q4⟩ => ⟨g, q1, q2, by
    unfold Hid
    rw [q3.out 0 Nat.zero_lt_one]
    exact congrArg (fun b => some (Value.bool b)) (decide_eq_true (Int.add_sub_cancel _ _))⟩
  clear hev
  go_wp2_with fail
  refine HEV.out.mono ?_
  rintro e w8 ⟨ge, rfl, hb8, HEC⟩
  have HBE : Hid (Below w.heap.size w w8) := HBW.out _ (HSB.out.below hb8.out).be.1
  have y0 := HEC.out
  clear hb8 HEV HSB HRD HEC
  go_wp2_with fail
  go_ret
  exact ⟨rfl, HBE.out⟩
set_option maxHeartbeats 800000 in
set_option maxRecDepth 100000 in
theorem lifted (os : Os) (started : os.Started) (H : Type) (enc : TypeId × Value → H) :
    ReturnsInHanded {} Try.checked os 6 .any (Rows.vecFoldsSpec.pre6 enc Try.prog Try.f6 Rows.vecFoldsRow.domain false) (Rows.vecFoldsSpec.post enc Try.prog Try.f6 false true false false) := by
  refine returnsInHanded_of_change (C := Try.checked) own_knob started (by kernel_rfl) Try.func6
    (ChangeSpec.witness6 (enc := enc) (C := Try.checked) false ⟨#[], #[.agg #[.int .i64 0, .int .i64 0], .int .i64 0, .int .i64 0], []⟩ 8 (by kernel_rfl) (by kernel_rfl) (by kernel_rfl) (by kernel_rfl)) ?_
  intro W base args ds gs before hval0 hW _ _
  have hval : ∀ (j : Nat) t v, Try.f6.params[j]? = some t → args[j]? = some v → Value.okWide Try.prog W .any base t v := hval0
  have hW' := hW
  obtain ⟨p, q, hA0, hV, rfl, _, _⟩ := hW
  have hA : DataW.TrodAll enc Try.prog W 0 (fun _ => true) true Try.f6.params.toList args.toList ds p := hA0
  rw [Try.params6] at hA hval
  obtain ⟨v0, v1, v2, d0, d1, d2, p0, p1, p2, rfl, rfl, rfl, h0, h1, h2⟩ := trodAll_three hA
  obtain ⟨rfl, rfl⟩ := trodVars_none hV
  obtain ⟨x0, y0, rfl, hx0, hy0⟩ := open_w2 (hval 0 37 v0 rfl rfl) h0
  obtain ⟨a1, rfl, rfl, rfl, w1⟩ := open_int Try.underlying3 (hval 1 3 v1 rfl rfl) h1
  obtain ⟨a2, rfl, rfl, rfl, w2⟩ := open_int Try.underlying2 (hval 2 2 v2 rfl rfl) h2
  clear hA0 hval0
  simp only [List.append_nil] at hW'
  have hlt0 : ∀ y ∈ p0, y.block < W.heap.size := fun y hy => by simpa using hW'.lt y (by simp [hy])
  refine (walk x0 y0 a1 a2 hx0 hy0 (bounds_i64 w1) (bounds_i64 w2) W).mono fun e W' ⟨he, hB⟩ => ?_
  subst he
  exact ⟨_, rfl, _, _, _, [], _, [], hW', trodAll_mk1 (shut_bool Try.underlying4 true), trodAll_mk3 (Below.trod laid_out (by kernel_rfl) (of_decide_eq_true (by kernel_rfl)) h0 hB hlt0) (shut_int Try.underlying3 w1) (shut_int Try.underlying2 w2), rfl, hB.frame _, fun h => by cases h⟩

theorem proved : Rows.VecFoldsSaid :=
  OpenClaim.holds_of_wide 6 Try.f6 rfl rfl rfl rfl rfl rfl rfl ⟨rfl, rfl, rfl, rfl, rfl⟩ rfl rfl rfl rfl rfl (by kernel_rfl) Try.func6 (by kernel_rfl)
    (of_decide_eq_true (by kernel_rfl)) (by unfold Func.isWrapper; first | (rw [if_pos (by decide +kernel)]; kernel_rfl) | (rw [if_neg (by decide +kernel)]; exact ⟨rfl, rfl⟩))
    (fun os started H enc _ => lifted os started H enc)
end Go.Proofs.Ytelpoocgmflofaa.VFolds
namespace Go.Proofs.Ytelpoocgmflofaa
theorem vecFolds_holds : Rows.VecFoldsSaid := VFolds.proved
#print axioms vecFolds_holds
end Go.Proofs.Ytelpoocgmflofaa
