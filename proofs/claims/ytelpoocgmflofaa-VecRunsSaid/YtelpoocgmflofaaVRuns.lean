/- VecRuns is true: the statement Rows.VecRunsSaid, without a condition. -/
import Derived.Test.YtelpoocgmflofaaVecY
namespace Go.Proofs.Ytelpoocgmflofaa.VRuns
open Go.ChangeShapes Go.WideShapes Go.ChangeAt Go.RowKit GatM VecM LitM

theorem own_knob : ownKnob Try.prog.godebug = none := by kernel_rfl
theorem laid_out : laidOutB Try.prog = true := by kernel_rfl
/-- A number of at most 16 bits. -/
theorem cut16 (n : Int) {m : Nat} (h1 : 1 ≤ m) (h : m ≤ 16) : -32768 ≤ cutZ n m ∧ cutZ n m ≤ 32767 := by
  obtain ⟨k, rfl⟩ : ∃ k, m = k + 1 := ⟨m - 1, by omega⟩
  have h2 := cut_bd n k
  have hp : pw k ≤ 32768 := by
    have h3 : pw (k + (15 - k)) = 32768 := by rw [show k + (15 - k) = 15 by omega]; decide
    rw [pw_add] at h3
    have h4 := pw_pos k
    have h5 := pw_pos (15 - k)
    have := Int.mul_le_mul_of_nonneg_left (show 1 ≤ pw (15 - k) by omega) (Int.le_of_lt h4)
    omega
  omega
theorem mul16 {x y : Int} (hx : -32768 ≤ x ∧ x ≤ 32767) (hy : -32768 ≤ y ∧ y ≤ 32767) : -1073741824 ≤ x * y ∧ x * y ≤ 1073741824 := by
  have h := Nat.mul_le_mul (show x.natAbs ≤ 32768 by omega) (show y.natAbs ≤ 32768 by omega)
  rw [← Int.natAbs_mul] at h
  omega
theorem cut_self (n : Int) {m : Nat} (h1 : 1 ≤ m) : cutZ (cutZ n m) m = cutZ n m := by
  obtain ⟨k, rfl⟩ : ∃ k, m = k + 1 := ⟨m - 1, by omega⟩
  exact cut_cut n k
theorem rcut_q (n : Int) (m : Nat) (hm : 1 ≤ m ∧ m ≤ 32) (W : World) : Calls Try.prog 22 #[.int .i64 n, .int .i64 (m : Int)] W fun e w' => e = .returned (.int .i64 (cutZ n m)) ∧ w' = W := (rcut_any n m hm W).mono fun _ _ q => ⟨q.1, q.2.symm⟩
section
variable (x y : Int) (b : Bool) {n m : Nat}
theorem row_a (hn : 1 ≤ n) : nB (inB 1 (bitL x n ++ bitL y m ++ [b])) n = cutZ x n :=
  in_bits x (by omega) fun j hj => by
    unfold inB
    rw [show 1 + j - 1 = j by omega, List.append_assoc, List.getD, List.getElem?_append_left (by rw [bitL_len]; exact hj)]
    exact bitL_at x hj
theorem row_b (hm : 1 ≤ m) : nB (inB (1 + n) (bitL x n ++ bitL y m ++ [b])) m = cutZ y m :=
  in_bits y (by omega) fun j hj => by
    unfold inB
    rw [show 1 + n + j - 1 = n + j by omega, List.append_assoc, List.getD, List.getElem?_append_right (by rw [bitL_len]; omega), bitL_len, show n + j - n = j by omega, List.getElem?_append_left (by rw [bitL_len]; exact hj)]
    exact bitL_at y hj
theorem row_c : (bitL x n ++ bitL y m ++ [b]).getD (1 + n + m - 1) false = b := by
  have hl : (bitL x n ++ bitL y m).length = n + m := by rw [List.length_append, bitL_len, bitL_len]
  rw [List.getD, List.getElem?_append_right (by omega), hl, show 1 + n + m - 1 - (n + m) = 0 by omega]
  rfl
end
set_option maxHeartbeats 12800000 in
set_option maxRecDepth 100000 in
theorem walk (x y x2 y2 : Int) (b2 : Bool) (hx : I64 x) (hy : I64 y) (_hx2 : I64 x2) (_hy2 : I64 y2) (w : World) :
    Calls Try.prog 5 #[.agg #[.int .i64 x, .int .i64 y], .agg #[.int .i64 x2, .int .i64 y2], .bool b2] w fun e w' => e = .returned (.bool true) ∧ Below w.heap.size w w' := by
  obtain ⟨W0, hW0⟩ : ∃ W0, W0 = (w.alloc (.cells #[.int .i64 x, .int .i64 y] 42)).alloc (.cells #[.int .i64 x2, .int .i64 y2] 37) := ⟨_, rfl⟩
  have hBa : Below w.heap.size w (w.alloc (.cells #[.int .i64 x, .int .i64 y] 42)) := (Below.refl _ _).alloc (Nat.le_refl _) _
  have hBb : Below (w.alloc (.cells #[.int .i64 x, .int .i64 y] 42)).heap.size (w.alloc (.cells #[.int .i64 x, .int .i64 y] 42)) W0 := by rw [hW0]; exact (Below.refl _ _).alloc (Nat.le_refl _) _
  have hsz : (w.alloc (.cells #[.int .i64 x, .int .i64 y] 42)).heap.size = w.heap.size + 1 := by simp
  have hB0 : Below w.heap.size w W0 := hBa.trans (hBb.mono hBa.size)
  have hT0 : ∀ W, Below W0.heap.size W0 W → W.cell? ⟨w.heap.size, 0, none⟩ = some (.int .i64 x) ∧ W.cell? ⟨w.heap.size, 1, none⟩ = some (.int .i64 y) ∧ W.cell? ⟨w.heap.size + 1, 0, none⟩ = some (.int .i64 x2) ∧ W.cell? ⟨w.heap.size + 1, 1, none⟩ = some (.int .i64 y2) := fun W hb => by
    have hs : w.heap.size + 1 < W0.heap.size := by rw [hW0]; simp
    have e1 : W0.heap[w.heap.size]? = some (.cells #[.int .i64 x, .int .i64 y] 42 (0, 0)) := (hBb.block _ (by rw [hsz]; omega)).trans (blk_new w _)
    have e2 : W0.heap[w.heap.size + 1]? = some (.cells #[.int .i64 x2, .int .i64 y2] 37 (0, 0)) := by rw [hW0, ← hsz]; exact blk_new _ _
    refine ⟨?_, ?_, ?_, ?_⟩
    · rw [hb.cell (p := ⟨w.heap.size, 0, none⟩) (by show w.heap.size < _; omega), Lib.cell_of_heap e1]; rfl
    · rw [hb.cell (p := ⟨w.heap.size, 1, none⟩) (by show w.heap.size < _; omega), Lib.cell_of_heap e1]; rfl
    · rw [hb.cell (p := ⟨w.heap.size + 1, 0, none⟩) hs, Lib.cell_of_heap e2]; rfl
    · rw [hb.cell (p := ⟨w.heap.size + 1, 1, none⟩) hs, Lib.cell_of_heap e2]; rfl
  have HT0 := Lib.hid hT0
  clear hT0 hBa hBb hsz
  go_enter Try.func5, Try.ntmps5
  go_wp2_with fail
  rw [← hW0]
  refine (valive_any W0).mono ?_
  rintro e w1 ⟨rfl, hb1⟩
  have HBW : Hid (∀ W, Below w1.heap.size w1 W → Below w.heap.size w W) := fun W hW => (hB0.trans (hb1.mono hB0.size)).trans (hW.mono (Nat.le_trans hB0.size hb1.size))
  have HT1 : Hid (∀ W, Below w1.heap.size w1 W → W.cell? ⟨w.heap.size, 0, none⟩ = some (.int .i64 x) ∧ W.cell? ⟨w.heap.size, 1, none⟩ = some (.int .i64 y) ∧ W.cell? ⟨w.heap.size + 1, 0, none⟩ = some (.int .i64 x2) ∧ W.cell? ⟨w.heap.size + 1, 1, none⟩ = some (.int .i64 y2)) := fun W hW => HT0.out W (hb1.trans (hW.mono hb1.size))
  have HR1 : Hid (Below w.heap.size w w1) := HBW.out w1 (Below.refl _ _)
  obtain ⟨x00, x01, _, _⟩ := HT1.out w1 (Below.refl _ _)
  obtain ⟨hxa, hxb⟩ := hx
  obtain ⟨hya, hyb⟩ := hy
  clear hW0 hB0 hb1 HT0
  by_cases q0 : x < 1
  · have t0 : decide (x < 1) = true := decide_eq_true q0
    go_wp2_with fail
    go_ret
    exact ⟨rfl, HR1.out⟩
  have t0 : decide (x < 1) = false := decide_eq_false q0
  by_cases q1 : y < 1
  · have t1 : decide (y < 1) = true := decide_eq_true q1
    go_wp2_with fail
    go_ret
    exact ⟨rfl, HR1.out⟩
  have t1 : decide (y < 1) = false := decide_eq_false q1
  by_cases q2 : 16 < x
  · have t2 : decide (16 < x) = true := decide_eq_true q2
    go_wp2_with fail
    go_ret
    exact ⟨rfl, HR1.out⟩
  have t2 : decide (16 < x) = false := decide_eq_false q2
  by_cases q3 : 16 < y
  · have t3 : decide (16 < y) = true := decide_eq_true q3
    go_wp2_with fail
    go_ret
    exact ⟨rfl, HR1.out⟩
  have t3 : decide (16 < y) = false := decide_eq_false q3
  obtain ⟨N0, rfl⟩ : ∃ N0 : Nat, x = (N0 : Int) := ⟨x.toNat, by omega⟩
  obtain ⟨N1, rfl⟩ : ∃ N1 : Nat, y = (N1 : Int) := ⟨y.toNat, by omega⟩
  have HT : Hid (∀ W, Below w1.heap.size w1 W → W.cell? ⟨w.heap.size, 0, none⟩ = some (.int .i64 (N0 : Int)) ∧ W.cell? ⟨w.heap.size, 1, none⟩ = some (.int .i64 (N1 : Int)) ∧ W.cell? ⟨w.heap.size + 1, 0, none⟩ = some (.int .i64 x2) ∧ W.cell? ⟨w.heap.size + 1, 1, none⟩ = some (.int .i64 y2)) := HT1.out
  have b0 : 1 ≤ N0 := by omega
  have b00 : N0 ≤ 16 := by omega
  have b1 : 1 ≤ N1 := by omega
  have b11 : N1 ≤ 16 := by omega
  clear q0 q1 q2 q3 HT1 hxa hxb hya hyb
  go_wp2_with fail
  refine (gnew_any w1).mono ?_
  intro e w3 hNW
  obtain ⟨bg, rfl, hst⟩ := St.new hNW (Below.refl w1.heap.size w1) (Nat.le_refl _)
  have HS0 : Hid (St w1.heap.size w1 bg w3 (List.replicate 1 (0, 0)) [] []) := hst
  clear t0 t1 t2 t3 x00 x01
  clear hNW hst
  obtain ⟨x00, x01, x10, x11⟩ := HT.out _ HS0.out.be.1
  have HOP := Lib.hid (HS0.out.input N0 ⟨b0, by omega⟩ (by omega) (by omega))
  go_wp2_with fail
  refine HOP.out.mono ?_
  rintro e1 v1 ⟨ga, rfl, HS1⟩
  clear HOP HS0
  clear x00 x01 x10 x11
  obtain ⟨x00, x01, x10, x11⟩ := HT.out _ HS1.out.be.1
  have HOP := Lib.hid (HS1.out.input N1 ⟨b1, by omega⟩ (by omega) (by omega))
  go_wp2_with fail
  refine HOP.out.mono ?_
  rintro e2 v2 ⟨gb, rfl, HS2⟩
  clear HOP HS1
  clear x00 x01 x10 x11
  have HOP := Lib.hid (HS2.out.inp (by omega) (by omega))
  go_wp2_with fail
  refine HOP.out.mono ?_
  rintro e3 v3 ⟨rfl, HS3⟩
  clear HOP HS2
  obtain ⟨x00, x01, x10, x11⟩ := HT.out _ HS3.out.be.1
  go_upto_region 11 with (fail)
  go_quiet ((go_at_call 22; exact Calls.quiet_of_same (rcut_q _ _ (by omega) _)))
  have bxa := cut16 x2 b0 b00
  have bya := cut16 y2 b1 b11
  have HSA := Lib.hid (cut_self x2 b0)
  have HSB := Lib.hid (cut_self y2 b1)
  generalize cutZ x2 N0 = xa at *
  generalize cutZ y2 N1 = ya at *
  have bm := mul16 bxa bya
  obtain ⟨bxa1, bxa2⟩ := bxa
  obtain ⟨bya1, bya2⟩ := bya
  obtain ⟨bm1, bm2⟩ := bm
  obtain ⟨V, hV⟩ : ∃ V, V = (v3).drewN nq := ⟨_, rfl⟩
  rw [← hV]
  have HSV0 : Hid (St w1.heap.size w1 bg V (List.replicate (1 + N0 + N1 + 1) (0, 0)) [⟨some ⟨gb, 0, none⟩, N1, inL (1 + N0) N1, fun vals => nB (inB (1 + N0) vals) N1⟩, ⟨some ⟨ga, 0, none⟩, N0, inL 1 N0, fun vals => nB (inB 1 vals) N0⟩] [(2 * (1 + N0 + N1), fun vals => vals.getD (1 + N0 + N1 - 1) false)]) := by
    rw [hV]; exact HS3.out.below (below_drewN (Below.refl _ _) nq)
  clear hV x00 x01 x10 x11 HS3
  obtain ⟨v0, hv0⟩ : ∃ v0, v0 = V.drew := ⟨_, rfl⟩
  have hbV : Below V.heap.size V v0 := by rw [hv0]; exact (Below.refl _ _).drew
  have HVB : Hid (Below w1.heap.size w1 V) := HSV0.out.be.1
  have HS : Hid (∀ W, Below v0.heap.size v0 W → W.cell? ⟨w.heap.size, 0, none⟩ = some (.int .i64 (N0 : Int)) ∧ W.cell? ⟨w.heap.size, 1, none⟩ = some (.int .i64 (N1 : Int))) := fun W hW => by
    obtain ⟨z0, z1, _, _⟩ := HT.out W (HVB.out.trans ((hbV.trans (hW.mono hbV.size)).mono HVB.out.size))
    exact ⟨z0, z1⟩
  have hb0 : Below v0.heap.size v0 v0 := Below.refl _ _
  have HV0 := Lib.hid hv0
  have HBV := Lib.hid hbV
  have HBI1 : Hid (∀ W, Calls Try.prog 23 #[.int .i64 xa, .int .i64 (N0 : Int)] W (BitsTo W xa N0)) := fun W => rbits_any xa N0 (by omega) W
  have HBI2 : Hid (∀ W, Calls Try.prog 23 #[.int .i64 ya, .int .i64 (N1 : Int)] W (BitsTo W ya N1)) := fun W => rbits_any ya N1 (by omega) W
  clear hv0 hbV
  go_upto_region 12 with (fail)
  go_cut [16] (fun v wx => ∃ g c, v = .slice (some ⟨g, 0, none⟩) (N0 + N1 + 1) c ∧ Hid (RowV 4 1 wx g (N0 + N1 + 1) c (fun j => .bool ((bitL xa N0 ++ bitL ya N1 ++ [b2]).getD j false)) ∧ Below V.heap.size V wx ∧ V.heap.size ≤ g))
  case first =>
    as_aux_lemma =>
    refine wp_region_held_drew (S := (fun W => W.cell? ⟨w.heap.size, 0, none⟩ = some (.int .i64 (N0 : Int)) ∧ W.cell? ⟨w.heap.size, 1, none⟩ = some (.int .i64 (N1 : Int)))) (by kernel_rfl) (by rw [← HV0.out]; exact HS.out v0 hb0) (fun hHeld => ?_)
    rw [← HV0.out] at hHeld ⊢
    refine wpAnyH_take (i := 0) (v := ?_) rfl (by kernel_rfl) (by kernel_rfl) (by kernel_rfl) (fun _ _ _ h => h) (Or.inl ⟨by kernel_rfl, ?_⟩) (by assumption) ?_
    rotate_left 1
    · intro w hSw
      (try dsimp only at hSw)
      first | (go_simp; done) | (go_simp; with_reducible rfl)
    go_simp
    refine wpAnyH_take (i := 1) (v := ?_) rfl (by kernel_rfl) (by kernel_rfl) (by kernel_rfl) (fun _ _ _ h => h) (Or.inl ⟨by kernel_rfl, ?_⟩) (by assumption) ?_
    rotate_left 1
    · intro w hSw
      (try dsimp only at hSw)
      first | (go_simp; done) | (go_simp; with_reducible rfl)
    go_simp
    refine wpAnyH_take (i := 2) (v := ?_) rfl (by kernel_rfl) (by kernel_rfl) (by kernel_rfl) (fun _ _ _ h => h) (Or.inl ⟨by kernel_rfl, ?_⟩) (by assumption) ?_
    rotate_left 1
    · intro w hSw
      (try dsimp only at hSw)
      first | (go_simp; done) | (go_simp; with_reducible rfl)
    go_simp
    refine wpAnyH_take (i := 4) (v := ?_) rfl (by kernel_rfl) (by kernel_rfl) (by kernel_rfl) (fun _ _ _ h => h) (Or.inl ⟨by kernel_rfl, ?_⟩) (by assumption) ?_
    rotate_left 1
    · intro w hSw
      (try dsimp only at hSw)
      first | (go_simp; done) | (go_simp; with_reducible rfl)
    go_simp
    refine wpAnyH_take (i := 5) (v := ?_) rfl (by kernel_rfl) (by kernel_rfl) (by kernel_rfl) (fun _ _ _ h => h) (Or.inl ⟨by kernel_rfl, ?_⟩) (by assumption) ?_
    rotate_left 1
    · intro w hSw
      (try dsimp only at hSw)
      first | (go_simp; done) | (go_simp; with_reducible rfl)
    go_simp
    refine wpAnyH_take (i := 6) (v := ?_) rfl (by kernel_rfl) (by kernel_rfl) (by kernel_rfl) (fun _ _ _ h => h) (Or.inl ⟨by kernel_rfl, ?_⟩) (by assumption) ?_
    rotate_left 1
    · intro w hSw
      (try dsimp only at hSw)
      first | (go_simp; done) | (go_simp; with_reducible rfl)
    go_simp
    refine wpAnyH_take (i := 9) (v := ?_) rfl (by kernel_rfl) (by kernel_rfl) (by kernel_rfl) (fun _ _ _ h => h) (Or.inl ⟨by kernel_rfl, ?_⟩) (by assumption) ?_
    rotate_left 1
    · intro w hSw
      (try dsimp only at hSw)
      first | (go_simp; done) | (go_simp; with_reducible rfl)
    go_simp
    refine wpAnyH_ready (rs := [3, 10]) (by kernel_rfl) (by simp) ?_
    refine AllReadyH.cons rfl (fun K hK => ?_) ?_
    ·
      go_simp
      refine (HBI1.out v0).mono ?_
      intro e v1 hbt
      obtain ⟨g1, c1, rfl, hr1, hb, hg1⟩ := hbt
      have hb1 : Below v0.heap.size v0 v1 := hb0.trans (hb.mono hb0.size)
      refine hK.out _ _ (HS.out _ hb1) (fun hHeld => ?_)
      clear hK K
      have hs1 : Below v0.heap.size v0 v1 := hb
      clear hb
      refine wpAnyH_ready (rs := [7, 10]) (by kernel_rfl) (by simp) ?_
      refine AllReadyH.cons rfl (fun K hK => ?_) ?_
      ·
        go_simp
        refine (HBI2.out v1).mono ?_
        intro e v2 hbt
        obtain ⟨g2, c2, rfl, hr2, hb, hg2⟩ := hbt
        have hb2 : Below v0.heap.size v0 v2 := hb1.trans (hb.mono hb1.size)
        refine hK.out _ _ (HS.out _ hb2) (fun hHeld => ?_)
        clear hK K
        have hs2 : Below v1.heap.size v1 v2 := hb
        clear hb
        refine wpAnyH_ready (rs := [8, 10]) (by kernel_rfl) (by simp) ?_
        refine AllReadyH.cons rfl (fun K hK => ?_) ?_
        ·
          have ra := hr1.same (hs2.block g1 hr1.lt)
          have rb := hr2.same ((Below.refl v2.heap.size v2).block g2 hr2.lt)
          have hg10 : v0.heap.size ≤ g1 := Nat.le_trans hb0.size hg1
          refine step_append_src _ rfl _ _ 45 4 rfl Try.underlying45 info_gbool rfl (by decide) (by decide) g1 N0 c1 (fun j => .bool (bitZ xa j)) (by rfl) ra (by omega) (some ⟨g2, 0, none⟩) N1 c2 (fun j => .bool (bitZ ya j)) (by rfl) (.inr ⟨g2, rfl, rb⟩) (fun j _ => rfl) (by omega) ?_
          intro g3 c3 v3 hr3 hg3 hk3
          have hb3 : Below v0.heap.size v0 v3 := hb2.trans (hk3.below hb2.size fun q hq => by rw [hq]; exact hg10)
          refine hK.out _ _ (HS.out _ hb3) (fun hHeld => ?_)
          clear hK K
          have hg30 : v0.heap.size ≤ g3 := by
            rcases hg3 with q | q
            · rw [q]; exact hg10
            · exact Nat.le_trans hb2.size q
          refine wpAnyH_ready (rs := [10]) (by kernel_rfl) (by simp) ?_
          refine AllReadyH.cons rfl (fun K hK => ?_) ?_
          ·
            go_simp
            obtain ⟨v4, hv4⟩ : ∃ v4, v4 = v3.alloc (.cells #[.bool b2] 4) := ⟨_, rfl⟩
            have hb : Below v3.heap.size v3 v4 := by rw [hv4]; exact (Below.refl _ _).alloc (Nat.le_refl _) _
            have hb4 : Below v0.heap.size v0 v4 := hb3.trans (hb.mono hb3.size)
            refine hK.out _ (v3.alloc (.cells #[.bool b2] 4)) (by rw [← hv4]; exact HS.out _ hb4) ?_
            clear hHeld
            intro _
            have hHeld := HS.out v4 hb4
            change wpAnyH _ _ _ _ _ _ _ _ (v3.alloc (.cells #[.bool b2] 4))
            rw [← hv4]
            have hy4 : v4.cell? ⟨v3.heap.size, 0, none⟩ = some (.bool b2) := by rw [hv4, Lib.cell_of_heap (blk_new v3 _)]; rfl
            have hz4 : v3.heap.size < v4.heap.size := by rw [hv4]; simp
            clear hK K hv4
            have hs4 : Below v3.heap.size v3 v4 := hb
            clear hb
            refine wpAnyH_ready (rs := [11]) (by kernel_rfl) (by simp) ?_
            refine AllReadyH.cons rfl (fun K hK => ?_) ?_
            ·
              have hr4 := hr3.same (hs4.block g3 hr3.lt)
              have hyy := hy4
              refine step_append_sl _ rfl _ _ 45 4 rfl Try.underlying45 info_gbool rfl (by decide) (by decide) (some ⟨g3, 0, none⟩) (N0 + N1) c3 _ rfl (.inr ⟨g3, rfl, hr4⟩) (by omega) ⟨v3.heap.size, 0, none⟩ 1 1 [.bool b2] rfl rfl (one_news hyy) (by simp [Value.oneCell']) (by omega) (by omega) ?_
              intro g5 c5 v5 hr5 hg5 hk5
              have hb5 : Below v0.heap.size v0 v5 := hb4.trans ((hk5 (fun k => k = g3) fun j hj => (onB_some _ _).1 hj).below hb4.size fun q hq => by rw [hq]; exact hg30)
              refine hK.out _ _ (HS.out _ hb5) (fun hHeld => ?_)
              clear hK K
              have hg50 : v0.heap.size ≤ g5 := by
                rcases hg5 with q | q
                · rw [(onB_some _ _).1 q]; exact hg30
                · exact Nat.le_trans hb4.size q
              refine wpAnyH_take (i := 12) (v := ?_) rfl (by kernel_rfl) (by kernel_rfl) (by kernel_rfl) (fun _ _ _ h => h) (Or.inl ⟨by kernel_rfl, ?_⟩) (by assumption) ?_
              rotate_left 1
              · intro w hSw
                (try dsimp only at hSw)
                first | (go_simp; done) | (go_simp; with_reducible rfl)
              go_simp
              refine wpAnyH_done (by kernel_rfl) ?_ _
              have HRF : Hid (RowV 4 1 v5 g5 (N0 + N1 + 1) c5 (fun j => .bool ((bitL xa N0 ++ bitL ya N1 ++ [b2]).getD j false)) ∧ Below V.heap.size V v5 ∧ V.heap.size ≤ g5) := ⟨hr5.congr fun j hj => app_three xa ya b2 (by omega), HBV.out.trans (hb5.mono HBV.out.size), Nat.le_trans HBV.out.size hg50⟩
              go_wp2_with fail
              go_meet
              exact ⟨g5, c5, rfl, HRF⟩
            exact AllReadyH.nil
          exact AllReadyH.nil
        refine AllReadyH.cons rfl (fun K hK => ?_) ?_
        ·
          go_simp
          obtain ⟨v3, hv3⟩ : ∃ v3, v3 = v2.alloc (.cells #[.bool b2] 4) := ⟨_, rfl⟩
          have hb : Below v2.heap.size v2 v3 := by rw [hv3]; exact (Below.refl _ _).alloc (Nat.le_refl _) _
          have hb3 : Below v0.heap.size v0 v3 := hb2.trans (hb.mono hb2.size)
          refine hK.out _ (v2.alloc (.cells #[.bool b2] 4)) (by rw [← hv3]; exact HS.out _ hb3) ?_
          clear hHeld
          intro _
          have hHeld := HS.out v3 hb3
          change wpAnyH _ _ _ _ _ _ _ _ (v2.alloc (.cells #[.bool b2] 4))
          rw [← hv3]
          have hy3 : v3.cell? ⟨v2.heap.size, 0, none⟩ = some (.bool b2) := by rw [hv3, Lib.cell_of_heap (blk_new v2 _)]; rfl
          have hz3 : v2.heap.size < v3.heap.size := by rw [hv3]; simp
          clear hK K hv3
          have hs3 : Below v2.heap.size v2 v3 := hb
          clear hb
          refine wpAnyH_ready (rs := [8]) (by kernel_rfl) (by simp) ?_
          refine AllReadyH.cons rfl (fun K hK => ?_) ?_
          ·
            have ra := hr1.same ((hs2.trans (hs3.mono hs2.size)).block g1 hr1.lt)
            have rb := hr2.same (hs3.block g2 hr2.lt)
            have hg10 : v0.heap.size ≤ g1 := Nat.le_trans hb0.size hg1
            refine step_append_src _ rfl _ _ 45 4 rfl Try.underlying45 info_gbool rfl (by decide) (by decide) g1 N0 c1 (fun j => .bool (bitZ xa j)) (by rfl) ra (by omega) (some ⟨g2, 0, none⟩) N1 c2 (fun j => .bool (bitZ ya j)) (by rfl) (.inr ⟨g2, rfl, rb⟩) (fun j _ => rfl) (by omega) ?_
            intro g3 c3 v4 hr3 hg3 hk3
            have hb4 : Below v0.heap.size v0 v4 := hb3.trans (hk3.below hb3.size fun q hq => by rw [hq]; exact hg10)
            refine hK.out _ _ (HS.out _ hb4) (fun hHeld => ?_)
            clear hK K
            have hg30 : v0.heap.size ≤ g3 := by
              rcases hg3 with q | q
              · rw [q]; exact hg10
              · exact Nat.le_trans hb3.size q
            have hyy : v4.cell? ⟨v2.heap.size, 0, none⟩ = some (.bool b2) := by
              rw [hk3.cell (p := ⟨v2.heap.size, 0, none⟩) (by show v2.heap.size < v3.heap.size; have := (Below.refl v3.heap.size v3).size; have := hz3; omega) (fun q => absurd (show v2.heap.size = g1 from q) (Nat.ne_of_gt (by have := hr1.lt; have := hs2.size; omega))), (Below.refl v3.heap.size v3).cell (p := ⟨v2.heap.size, 0, none⟩) (by show v2.heap.size < v3.heap.size; exact hz3)]
              exact hy3
            refine wpAnyH_ready (rs := [11]) (by kernel_rfl) (by simp) ?_
            refine AllReadyH.cons rfl (fun K hK => ?_) ?_
            ·
              have hr4 := hr3
              refine step_append_sl _ rfl _ _ 45 4 rfl Try.underlying45 info_gbool rfl (by decide) (by decide) (some ⟨g3, 0, none⟩) (N0 + N1) c3 _ rfl (.inr ⟨g3, rfl, hr4⟩) (by omega) ⟨v2.heap.size, 0, none⟩ 1 1 [.bool b2] rfl rfl (one_news hyy) (by simp [Value.oneCell']) (by omega) (by omega) ?_
              intro g5 c5 v5 hr5 hg5 hk5
              have hb5 : Below v0.heap.size v0 v5 := hb4.trans ((hk5 (fun k => k = g3) fun j hj => (onB_some _ _).1 hj).below hb4.size fun q hq => by rw [hq]; exact hg30)
              refine hK.out _ _ (HS.out _ hb5) (fun hHeld => ?_)
              clear hK K
              have hg50 : v0.heap.size ≤ g5 := by
                rcases hg5 with q | q
                · rw [(onB_some _ _).1 q]; exact hg30
                · exact Nat.le_trans hb4.size q
              refine wpAnyH_take (i := 12) (v := ?_) rfl (by kernel_rfl) (by kernel_rfl) (by kernel_rfl) (fun _ _ _ h => h) (Or.inl ⟨by kernel_rfl, ?_⟩) (by assumption) ?_
              rotate_left 1
              · intro w hSw
                (try dsimp only at hSw)
                first | (go_simp; done) | (go_simp; with_reducible rfl)
              go_simp
              refine wpAnyH_done (by kernel_rfl) ?_ _
              have HRF : Hid (RowV 4 1 v5 g5 (N0 + N1 + 1) c5 (fun j => .bool ((bitL xa N0 ++ bitL ya N1 ++ [b2]).getD j false)) ∧ Below V.heap.size V v5 ∧ V.heap.size ≤ g5) := ⟨hr5.congr fun j hj => app_three xa ya b2 (by omega), HBV.out.trans (hb5.mono HBV.out.size), Nat.le_trans HBV.out.size hg50⟩
              go_wp2_with fail
              go_meet
              exact ⟨g5, c5, rfl, HRF⟩
            exact AllReadyH.nil
          exact AllReadyH.nil
        exact AllReadyH.nil
      refine AllReadyH.cons rfl (fun K hK => ?_) ?_
      ·
        go_simp
        obtain ⟨v2, hv2⟩ : ∃ v2, v2 = v1.alloc (.cells #[.bool b2] 4) := ⟨_, rfl⟩
        have hb : Below v1.heap.size v1 v2 := by rw [hv2]; exact (Below.refl _ _).alloc (Nat.le_refl _) _
        have hb2 : Below v0.heap.size v0 v2 := hb1.trans (hb.mono hb1.size)
        refine hK.out _ (v1.alloc (.cells #[.bool b2] 4)) (by rw [← hv2]; exact HS.out _ hb2) ?_
        clear hHeld
        intro _
        have hHeld := HS.out v2 hb2
        change wpAnyH _ _ _ _ _ _ _ _ (v1.alloc (.cells #[.bool b2] 4))
        rw [← hv2]
        have hy2 : v2.cell? ⟨v1.heap.size, 0, none⟩ = some (.bool b2) := by rw [hv2, Lib.cell_of_heap (blk_new v1 _)]; rfl
        have hz2 : v1.heap.size < v2.heap.size := by rw [hv2]; simp
        clear hK K hv2
        have hs2 : Below v1.heap.size v1 v2 := hb
        clear hb
        refine wpAnyH_ready (rs := [7]) (by kernel_rfl) (by simp) ?_
        refine AllReadyH.cons rfl (fun K hK => ?_) ?_
        ·
          go_simp
          refine (HBI2.out v2).mono ?_
          intro e v3 hbt
          obtain ⟨g2, c2, rfl, hr2, hb, hg2⟩ := hbt
          have hb3 : Below v0.heap.size v0 v3 := hb2.trans (hb.mono hb2.size)
          refine hK.out _ _ (HS.out _ hb3) (fun hHeld => ?_)
          clear hK K
          have hs3 : Below v2.heap.size v2 v3 := hb
          clear hb
          refine wpAnyH_ready (rs := [8]) (by kernel_rfl) (by simp) ?_
          refine AllReadyH.cons rfl (fun K hK => ?_) ?_
          ·
            have ra := hr1.same ((hs2.trans (hs3.mono hs2.size)).block g1 hr1.lt)
            have rb := hr2.same ((Below.refl v3.heap.size v3).block g2 hr2.lt)
            have hg10 : v0.heap.size ≤ g1 := Nat.le_trans hb0.size hg1
            refine step_append_src _ rfl _ _ 45 4 rfl Try.underlying45 info_gbool rfl (by decide) (by decide) g1 N0 c1 (fun j => .bool (bitZ xa j)) (by rfl) ra (by omega) (some ⟨g2, 0, none⟩) N1 c2 (fun j => .bool (bitZ ya j)) (by rfl) (.inr ⟨g2, rfl, rb⟩) (fun j _ => rfl) (by omega) ?_
            intro g3 c3 v4 hr3 hg3 hk3
            have hb4 : Below v0.heap.size v0 v4 := hb3.trans (hk3.below hb3.size fun q hq => by rw [hq]; exact hg10)
            refine hK.out _ _ (HS.out _ hb4) (fun hHeld => ?_)
            clear hK K
            have hg30 : v0.heap.size ≤ g3 := by
              rcases hg3 with q | q
              · rw [q]; exact hg10
              · exact Nat.le_trans hb3.size q
            have hyy : v4.cell? ⟨v1.heap.size, 0, none⟩ = some (.bool b2) := by
              rw [hk3.cell (p := ⟨v1.heap.size, 0, none⟩) (by show v1.heap.size < v3.heap.size; have := hs3.size; have := hz2; omega) (fun q => absurd (show v1.heap.size = g1 from q) (Nat.ne_of_gt (by have := hr1.lt; have := (Below.refl v1.heap.size v1).size; omega))), hs3.cell (p := ⟨v1.heap.size, 0, none⟩) (by show v1.heap.size < v2.heap.size; exact hz2)]
              exact hy2
            refine wpAnyH_ready (rs := [11]) (by kernel_rfl) (by simp) ?_
            refine AllReadyH.cons rfl (fun K hK => ?_) ?_
            ·
              have hr4 := hr3
              refine step_append_sl _ rfl _ _ 45 4 rfl Try.underlying45 info_gbool rfl (by decide) (by decide) (some ⟨g3, 0, none⟩) (N0 + N1) c3 _ rfl (.inr ⟨g3, rfl, hr4⟩) (by omega) ⟨v1.heap.size, 0, none⟩ 1 1 [.bool b2] rfl rfl (one_news hyy) (by simp [Value.oneCell']) (by omega) (by omega) ?_
              intro g5 c5 v5 hr5 hg5 hk5
              have hb5 : Below v0.heap.size v0 v5 := hb4.trans ((hk5 (fun k => k = g3) fun j hj => (onB_some _ _).1 hj).below hb4.size fun q hq => by rw [hq]; exact hg30)
              refine hK.out _ _ (HS.out _ hb5) (fun hHeld => ?_)
              clear hK K
              have hg50 : v0.heap.size ≤ g5 := by
                rcases hg5 with q | q
                · rw [(onB_some _ _).1 q]; exact hg30
                · exact Nat.le_trans hb4.size q
              refine wpAnyH_take (i := 12) (v := ?_) rfl (by kernel_rfl) (by kernel_rfl) (by kernel_rfl) (fun _ _ _ h => h) (Or.inl ⟨by kernel_rfl, ?_⟩) (by assumption) ?_
              rotate_left 1
              · intro w hSw
                (try dsimp only at hSw)
                first | (go_simp; done) | (go_simp; with_reducible rfl)
              go_simp
              refine wpAnyH_done (by kernel_rfl) ?_ _
              have HRF : Hid (RowV 4 1 v5 g5 (N0 + N1 + 1) c5 (fun j => .bool ((bitL xa N0 ++ bitL ya N1 ++ [b2]).getD j false)) ∧ Below V.heap.size V v5 ∧ V.heap.size ≤ g5) := ⟨hr5.congr fun j hj => app_three xa ya b2 (by omega), HBV.out.trans (hb5.mono HBV.out.size), Nat.le_trans HBV.out.size hg50⟩
              go_wp2_with fail
              go_meet
              exact ⟨g5, c5, rfl, HRF⟩
            exact AllReadyH.nil
          exact AllReadyH.nil
        exact AllReadyH.nil
      exact AllReadyH.nil
    refine AllReadyH.cons rfl (fun K hK => ?_) ?_
    ·
      go_simp
      obtain ⟨v1, hv1⟩ : ∃ v1, v1 = v0.alloc (.cells #[.bool b2] 4) := ⟨_, rfl⟩
      have hb : Below v0.heap.size v0 v1 := by rw [hv1]; exact (Below.refl _ _).alloc (Nat.le_refl _) _
      have hb1 : Below v0.heap.size v0 v1 := hb0.trans (hb.mono hb0.size)
      refine hK.out _ (v0.alloc (.cells #[.bool b2] 4)) (by rw [← hv1]; exact HS.out _ hb1) ?_
      clear hHeld
      intro _
      have hHeld := HS.out v1 hb1
      change wpAnyH _ _ _ _ _ _ _ _ (v0.alloc (.cells #[.bool b2] 4))
      rw [← hv1]
      have hy1 : v1.cell? ⟨v0.heap.size, 0, none⟩ = some (.bool b2) := by rw [hv1, Lib.cell_of_heap (blk_new v0 _)]; rfl
      have hz1 : v0.heap.size < v1.heap.size := by rw [hv1]; simp
      clear hK K hv1
      have hs1 : Below v0.heap.size v0 v1 := hb
      clear hb
      refine wpAnyH_ready (rs := [3]) (by kernel_rfl) (by simp) ?_
      refine AllReadyH.cons rfl (fun K hK => ?_) ?_
      ·
        go_simp
        refine (HBI1.out v1).mono ?_
        intro e v2 hbt
        obtain ⟨g1, c1, rfl, hr1, hb, hg1⟩ := hbt
        have hb2 : Below v0.heap.size v0 v2 := hb1.trans (hb.mono hb1.size)
        refine hK.out _ _ (HS.out _ hb2) (fun hHeld => ?_)
        clear hK K
        have hs2 : Below v1.heap.size v1 v2 := hb
        clear hb
        refine wpAnyH_ready (rs := [7]) (by kernel_rfl) (by simp) ?_
        refine AllReadyH.cons rfl (fun K hK => ?_) ?_
        ·
          go_simp
          refine (HBI2.out v2).mono ?_
          intro e v3 hbt
          obtain ⟨g2, c2, rfl, hr2, hb, hg2⟩ := hbt
          have hb3 : Below v0.heap.size v0 v3 := hb2.trans (hb.mono hb2.size)
          refine hK.out _ _ (HS.out _ hb3) (fun hHeld => ?_)
          clear hK K
          have hs3 : Below v2.heap.size v2 v3 := hb
          clear hb
          refine wpAnyH_ready (rs := [8]) (by kernel_rfl) (by simp) ?_
          refine AllReadyH.cons rfl (fun K hK => ?_) ?_
          ·
            have ra := hr1.same (hs3.block g1 hr1.lt)
            have rb := hr2.same ((Below.refl v3.heap.size v3).block g2 hr2.lt)
            have hg10 : v0.heap.size ≤ g1 := Nat.le_trans hb1.size hg1
            refine step_append_src _ rfl _ _ 45 4 rfl Try.underlying45 info_gbool rfl (by decide) (by decide) g1 N0 c1 (fun j => .bool (bitZ xa j)) (by rfl) ra (by omega) (some ⟨g2, 0, none⟩) N1 c2 (fun j => .bool (bitZ ya j)) (by rfl) (.inr ⟨g2, rfl, rb⟩) (fun j _ => rfl) (by omega) ?_
            intro g3 c3 v4 hr3 hg3 hk3
            have hb4 : Below v0.heap.size v0 v4 := hb3.trans (hk3.below hb3.size fun q hq => by rw [hq]; exact hg10)
            refine hK.out _ _ (HS.out _ hb4) (fun hHeld => ?_)
            clear hK K
            have hg30 : v0.heap.size ≤ g3 := by
              rcases hg3 with q | q
              · rw [q]; exact hg10
              · exact Nat.le_trans hb3.size q
            have hyy : v4.cell? ⟨v0.heap.size, 0, none⟩ = some (.bool b2) := by
              rw [hk3.cell (p := ⟨v0.heap.size, 0, none⟩) (by show v0.heap.size < v3.heap.size; have := (hs2.trans (hs3.mono hs2.size)).size; have := hz1; omega) (fun q => absurd (show v0.heap.size = g1 from q) (Nat.ne_of_lt (by have := (Below.refl v1.heap.size v1).size; have := hz1; omega))), (hs2.trans (hs3.mono hs2.size)).cell (p := ⟨v0.heap.size, 0, none⟩) (by show v0.heap.size < v1.heap.size; exact hz1)]
              exact hy1
            refine wpAnyH_ready (rs := [11]) (by kernel_rfl) (by simp) ?_
            refine AllReadyH.cons rfl (fun K hK => ?_) ?_
            ·
              have hr4 := hr3
              refine step_append_sl _ rfl _ _ 45 4 rfl Try.underlying45 info_gbool rfl (by decide) (by decide) (some ⟨g3, 0, none⟩) (N0 + N1) c3 _ rfl (.inr ⟨g3, rfl, hr4⟩) (by omega) ⟨v0.heap.size, 0, none⟩ 1 1 [.bool b2] rfl rfl (one_news hyy) (by simp [Value.oneCell']) (by omega) (by omega) ?_
              intro g5 c5 v5 hr5 hg5 hk5
              have hb5 : Below v0.heap.size v0 v5 := hb4.trans ((hk5 (fun k => k = g3) fun j hj => (onB_some _ _).1 hj).below hb4.size fun q hq => by rw [hq]; exact hg30)
              refine hK.out _ _ (HS.out _ hb5) (fun hHeld => ?_)
              clear hK K
              have hg50 : v0.heap.size ≤ g5 := by
                rcases hg5 with q | q
                · rw [(onB_some _ _).1 q]; exact hg30
                · exact Nat.le_trans hb4.size q
              refine wpAnyH_take (i := 12) (v := ?_) rfl (by kernel_rfl) (by kernel_rfl) (by kernel_rfl) (fun _ _ _ h => h) (Or.inl ⟨by kernel_rfl, ?_⟩) (by assumption) ?_
              rotate_left 1
              · intro w hSw
                (try dsimp only at hSw)
                first | (go_simp; done) | (go_simp; with_reducible rfl)
              go_simp
              refine wpAnyH_done (by kernel_rfl) ?_ _
              have HRF : Hid (RowV 4 1 v5 g5 (N0 + N1 + 1) c5 (fun j => .bool ((bitL xa N0 ++ bitL ya N1 ++ [b2]).getD j false)) ∧ Below V.heap.size V v5 ∧ V.heap.size ≤ g5) := ⟨hr5.congr fun j hj => app_three xa ya b2 (by omega), HBV.out.trans (hb5.mono HBV.out.size), Nat.le_trans HBV.out.size hg50⟩
              go_wp2_with fail
              go_meet
              exact ⟨g5, c5, rfl, HRF⟩
            exact AllReadyH.nil
          exact AllReadyH.nil
        exact AllReadyH.nil
      exact AllReadyH.nil
    exact AllReadyH.nil
  case rest =>
  as_aux_lemma =>
  obtain ⟨gr, cr, rfl, HRW⟩ := hcut
  have HSV := Lib.hid (HSV0.out.guest HRW.out.2.1 HRW.out.2.2 HRW.out.1.lt)
  have HRX : Hid (∀ W, (gr < W.heap.size ∧ W.heap[gr]? = wc.heap[gr]?) → RdO W W.heap.size (some ⟨gr, 0, none⟩) (N0 + N1 + 1) (bitL xa N0 ++ bitL ya N1 ++ [b2])) := fun W hW => by
    have hr := HRW.out.1.same hW.2
    exact ⟨by rw [List.length_append, List.length_append, bitL_len, bitL_len]; rfl, fun _ => ⟨gr, 0, rfl, hr.lt, fun j hj => by rw [Nat.zero_add, hr.cell (by omega)]⟩⟩
  obtain ⟨ob, hob⟩ : ∃ ob, ob = wc.heap[gr]? := ⟨_, rfl⟩
  rw [← hob] at HSV HRX
  clear HRW HBI1 HBI2 HS HV0 HBV HSV0 hb0 HVB hob
  obtain ⟨M, hM⟩ : ∃ M, M = max N0 N1 := ⟨_, rfl⟩
  obtain ⟨S, hS⟩ : ∃ S, S = max N0 N1 + 1 := ⟨_, rfl⟩
  obtain ⟨T, hT⟩ : ∃ T, T = N0 + N1 := ⟨_, rfl⟩
  have EM := Lib.hid hM
  have ES := Lib.hid hS
  have ET := Lib.hid hT
  have bM : M ≤ 16 := by omega
  have bS : S ≤ 17 := by omega
  have bT : T ≤ 32 := by omega
  have f1 : ((S : Int) == (M : Int) + 1) = true := by rw [beq_iff_eq]; omega
  have f2 : ((T : Int) == (N0 : Int) + (N1 : Int)) = true := by rw [beq_iff_eq]; omega
  have f3 : max (N0 : Int) (N1 : Int) = (M : Int) := by omega
  have hwm : IntKind.i64.wrap (xa * ya) = xa * ya := IntWalk.i64_in _ (by omega)
  have F1 := Lib.hid f1
  have F2 := Lib.hid f2
  have F3 := Lib.hid f3
  have HWM := Lib.hid hwm
  clear hM hS hT f1 f2 f3 hwm
  have hgs : (List.replicate (1 + N0 + N1 + 1) ((0 : Nat), (0 : Nat))).length ≤ 40 := by rw [List.length_replicate]; omega
  have hop := HSV.out.add N0 N1 (.tail _ (.head _)) (.head _) (by omega) (by omega) (by omega)
  rw [← ES.out] at hop
  have HOP := Lib.hid hop
  clear hop
  go_wp2_with fail
  refine HOP.out.mono ?_
  rintro e11 v11 ⟨gsum, csum, lsum, gs11, rfl, hl11, hc11, HS11⟩
  clear HOP HSV hc11
  have hop := HS11.out.sub N0 N1 (.tail _ (.tail _ (.head _))) (.tail _ (.head _)) (by omega) (by omega) (by omega)
  rw [← ES.out] at hop
  have HOP := Lib.hid hop
  clear hop
  go_wp2_with fail
  refine HOP.out.mono ?_
  rintro e12 v12 ⟨gdif, cdif, ldif, gs12, rfl, hl12, hc12, HS12⟩
  clear HOP HS11 hc12
  have hop := HS12.out.times N0 N1 (.tail _ (.tail _ (.tail _ (.head _)))) (.tail _ (.tail _ (.head _))) (by omega) (by omega) 19008 (prod_len (by omega) (by omega)) (prod_len (by omega) (by omega))
  rw [← ET.out] at hop
  have HOP := Lib.hid hop
  clear hop
  go_wp2_with fail
  refine HOP.out.mono ?_
  rintro e13 v13 ⟨gtim, ctim, ltim, gs13, rfl, hl13, hc13, HS13⟩
  clear HOP HS12 hc13
  have HOP := Lib.hid (HS13.out.less N0 N1 (.tail _ (.tail _ (.tail _ (.tail _ (.head _))))) (.tail _ (.tail _ (.tail _ (.head _)))) (by omega) (by omega) (by omega))
  go_wp2_with fail
  refine HOP.out.mono ?_
  rintro e14 v14 ⟨run, gs14, rfl, hl14, hc14, HS14⟩
  clear HOP HS13 hc14
  have HOP := Lib.hid (HS14.out.equal N0 N1 (.tail _ (.tail _ (.tail _ (.tail _ (.head _))))) (.tail _ (.tail _ (.tail _ (.head _)))) (by omega) (by omega) (by omega))
  go_wp2_with fail
  refine HOP.out.mono ?_
  rintro e15 v15 ⟨rsa, gs15, rfl, hl15, hc15, HS15⟩
  clear HOP HS14 hc15
  have hop := HS15.out.choose N0 N1 (.tail _ (.tail _ (.head _))) (.tail _ (.tail _ (.tail _ (.tail _ (.head _))))) (.tail _ (.tail _ (.tail _ (.head _)))) (by omega) (by omega) (by omega)
  rw [← EM.out] at hop
  have HOP := Lib.hid hop
  clear hop
  go_wp2_with fail
  refine HOP.out.mono ?_
  rintro e16 v16 ⟨gone, cone, lone, gs16, rfl, hl16, hc16, HS16⟩
  clear HOP HS15 hc16
  have HA : Hid (nB (inB 1 (bitL xa N0 ++ bitL ya N1 ++ [b2])) N0 = xa) := (row_a xa ya b2 b0).trans HSA.out
  have HB : Hid (nB (inB (1 + N0) (bitL xa N0 ++ bitL ya N1 ++ [b2])) N1 = ya) := (row_b xa ya b2 b1).trans HSB.out
  have HC : Hid ((bitL xa N0 ++ bitL ya N1 ++ [b2]).getD (1 + N0 + N1 - 1) false = b2) := row_c xa ya b2
  have hn := HS16.out.number csum cr (.tail _ (.tail _ (.tail _ (.head _)))) (HRX.out _ HS16.out.row) (by omega) (by omega)
  rw [show (nB (inB 1 (bitL xa N0 ++ bitL ya N1 ++ [b2])) N0 + nB (inB (1 + N0) (bitL xa N0 ++ bitL ya N1 ++ [b2])) N1) = xa + ya from by rw [HA.out, HB.out]] at hn
  have HN := Lib.hid hn
  clear hn
  go_wp2_with fail
  refine HN.out.mono ?_
  rintro e1 wq1 ⟨rfl, hb⟩
  have HU1 := Lib.hid (HS16.out.below hb)
  clear hb HN HS16
  have hn := HU1.out.number cdif cr (.tail _ (.tail _ (.head _))) (HRX.out _ HU1.out.row) (by omega) (by omega)
  rw [show (nB (inB 1 (bitL xa N0 ++ bitL ya N1 ++ [b2])) N0 - nB (inB (1 + N0) (bitL xa N0 ++ bitL ya N1 ++ [b2])) N1) = xa - ya from by rw [HA.out, HB.out]] at hn
  have HN := Lib.hid hn
  clear hn
  go_wp2_with fail
  refine HN.out.mono ?_
  rintro e2 wq2 ⟨rfl, hb⟩
  have HU2 := Lib.hid (HU1.out.below hb)
  clear hb HN HU1
  have hn := HU2.out.number ctim cr (.tail _ (.head _)) (HRX.out _ HU2.out.row) (by omega) (by omega)
  rw [show (nB (inB 1 (bitL xa N0 ++ bitL ya N1 ++ [b2])) N0 * nB (inB (1 + N0) (bitL xa N0 ++ bitL ya N1 ++ [b2])) N1) = xa * ya from by rw [HA.out, HB.out]] at hn
  have HN := Lib.hid hn
  clear hn
  go_wp2_with fail
  refine HN.out.mono ?_
  rintro e3 wq3 ⟨rfl, hb⟩
  have HU3 := Lib.hid (HU2.out.below hb)
  clear hb HN HU2
  have hev := HU3.out.eval cr (HRX.out _ HU3.out.row) [(run, fun vals => decide (nB (inB 1 vals) N0 < nB (inB (1 + N0) vals) N1)), (rsa, fun vals => decide (nB (inB 1 vals) N0 = nB (inB (1 + N0) vals) N1))] (fun x hx => by
    simp only [List.mem_cons, List.not_mem_nil, or_false] at hx
    rcases hx with rfl | rfl
    · exact (.tail _ (.head _))
    · exact (.head _)) (show 2 ≤ 100 by omega) (by omega)
  have HEV : Hid (Calls Try.prog 27 #[.pointer (some ⟨bg, 0, none⟩), .slice (some ⟨gr, 0, none⟩) (N0 + N1 + 1) cr, .slice (some ⟨wq3.heap.size, 0, none⟩) 2 2] (wq3.alloc (.cells #[.int .u32 (run : Int), .int .u32 (rsa : Int)] 25)) fun e w' => ∃ g, e = .returned (.tuple #[.slice (some ⟨g, 0, none⟩) 2 2, .int .i64 0]) ∧ Hid (Below wq3.heap.size wq3 w') ∧ Hid (∀ W2, Below w'.heap.size w' W2 → W2.cell? ⟨g, 0, none⟩ = some (.bool (decide (xa < ya))) ∧ W2.cell? ⟨g, 1, none⟩ = some (.bool (decide (xa = ya))))) := hev.mono fun e w' ⟨g, q1, q2, q3, q4⟩ => ⟨g, q1, q2, fun W2 hW2 => by
    have z0 := q4.out W2 hW2 0 Nat.zero_lt_two
    have z1 := q4.out W2 hW2 1 Nat.one_lt_two
    rw [z0, z1, q3.out 0 Nat.zero_lt_two, q3.out 1 Nat.one_lt_two]
    refine ⟨?_, ?_⟩
    · show some (Value.bool (decide (nB (inB 1 (bitL xa N0 ++ bitL ya N1 ++ [b2])) N0 < nB (inB (1 + N0) (bitL xa N0 ++ bitL ya N1 ++ [b2])) N1))) = _
      rw [HA.out, HB.out]
    · show some (Value.bool (decide (nB (inB 1 (bitL xa N0 ++ bitL ya N1 ++ [b2])) N0 = nB (inB (1 + N0) (bitL xa N0 ++ bitL ya N1 ++ [b2])) N1))) = _
      rw [HA.out, HB.out]⟩
  clear hev
  go_wp2_with fail
  refine HEV.out.mono ?_
  rintro e4 wq4 ⟨ge, rfl, hb, HEC⟩
  have HU4 := Lib.hid (HU3.out.below hb.out)
  clear hb HEV HU3
  have hn := HU4.out.number cone cr (.head _) (HRX.out _ HU4.out.row) (by omega) (by omega)
  rw [show (if (bitL xa N0 ++ bitL ya N1 ++ [b2]).getD (1 + N0 + N1 - 1) false = true then nB (inB 1 (bitL xa N0 ++ bitL ya N1 ++ [b2])) N0 else nB (inB (1 + N0) (bitL xa N0 ++ bitL ya N1 ++ [b2])) N1) = (if b2 then xa else ya) from by rw [HA.out, HB.out, HC.out]] at hn
  obtain ⟨tt, htt⟩ : ∃ tt, tt = (if b2 then xa else ya) := ⟨_, rfl⟩
  rw [← htt] at hn
  have HN := Lib.hid hn
  have HTT := Lib.hid htt
  clear hn htt
  go_wp2_with fail
  refine HN.out.mono ?_
  rintro e5 wq5 ⟨rfl, hb5⟩
  have HBE : Hid (Below w.heap.size w wq5) := HBW.out _ (HU4.out.below hb5).be.1
  obtain ⟨y0, y1⟩ := HEC.out wq5 hb5
  obtain ⟨x00, x01, x10, x11⟩ := HT.out _ (HU4.out.below hb5).be.1
  have f1 := F1.out
  have f2 := F2.out
  have f3 := F3.out
  have hwm := HWM.out
  clear hb5 HN HEC HU4 HRX HA HB HC HT HBW HR1 x10 x11
  obtain ⟨bl, hbl⟩ : ∃ bl, bl = decide (xa < ya) := ⟨_, rfl⟩
  obtain ⟨be, hbe⟩ : ∃ be, be = decide (xa = ya) := ⟨_, rfl⟩
  rw [← hbl] at y0
  rw [← hbe] at y1
  have hl1 : decide (xa < ya) = bl := hbl.symm
  have he1 : decide (xa = ya) = be := hbe.symm
  have he2 : (xa == ya) = be := by rw [hbe, Bool.eq_iff_iff, beq_iff_eq, decide_eq_true_iff]
  clear hbl hbe
  go_upto_if 230 with (fail)
  go_cut [39] (fun v wx => v = .int .i64 tt ∧ wx = wq5)
  case first =>
    as_aux_lemma =>
    cases b2 with
    | true =>
      obtain rfl : tt = xa := HTT.out
      clear HTT
      go_wp2_with fail
      go_meet
      exact ⟨rfl, rfl⟩
    | false =>
      obtain rfl : tt = ya := HTT.out
      clear HTT
      go_wp2_with fail
      go_meet
      exact ⟨rfl, rfl⟩
  case rest =>
  as_aux_lemma =>
  obtain ⟨rfl, rfl⟩ := hcut
  clear HTT
  go_upto_region 30 with (fail)
  clear f3
  go_wp2_with fail
  go_ret
  exact ⟨rfl, HBE.out⟩
set_option maxHeartbeats 800000 in
set_option maxRecDepth 100000 in
theorem lifted (os : Os) (started : os.Started) (H : Type) (enc : TypeId × Value → H) :
    ReturnsInHanded {} Try.checked os 5 .any (Rows.vecRunsSpec.pre6 enc Try.prog Try.f5 Rows.vecRunsRow.domain false) (Rows.vecRunsSpec.post enc Try.prog Try.f5 false true false false) := by
  refine returnsInHanded_of_change (C := Try.checked) own_knob started (by kernel_rfl) Try.func5
    (ChangeSpec.witness6 (enc := enc) (C := Try.checked) false ⟨#[], #[.agg #[.int .i64 0, .int .i64 0], .agg #[.int .i64 0, .int .i64 0], .bool false], []⟩ 8 (by kernel_rfl) (by kernel_rfl) (by kernel_rfl) (by kernel_rfl)) ?_
  intro W base args ds gs before hval0 hW _ _
  have hval : ∀ (j : Nat) t v, Try.f5.params[j]? = some t → args[j]? = some v → Value.okWide Try.prog W .any base t v := hval0
  have hW' := hW
  obtain ⟨p, q, hA0, hV, rfl, _, _⟩ := hW
  have hA : DataW.TrodAll enc Try.prog W 0 (fun _ => true) true Try.f5.params.toList args.toList ds p := hA0
  rw [Try.params5] at hA hval
  obtain ⟨v0, v1, v2, d0, d1, d2, p0, p1, p2, rfl, rfl, rfl, h0, h1, h2⟩ := trodAll_three hA
  obtain ⟨rfl, rfl⟩ := trodVars_none hV
  obtain ⟨x0, y0, rfl, hx0, hy0⟩ := open_v2 (hval 0 42 v0 rfl rfl) h0
  obtain ⟨x1, y1, rfl, hx1, hy1⟩ := open_w2 (hval 1 37 v1 rfl rfl) h1
  obtain ⟨b2, rfl⟩ := open_yes (hval 2 4 v2 rfl rfl) h2
  clear hA0 hval0
  have hlt0 : ∀ y ∈ p0, y.block < W.heap.size := fun y hy => by simpa using hW'.lt y (by simp [hy])
  have hlt1 : ∀ y ∈ p1, y.block < W.heap.size := fun y hy => by simpa using hW'.lt y (by simp [hy])
  have hlt2 : ∀ y ∈ p2, y.block < W.heap.size := fun y hy => by simpa using hW'.lt y (by simp [hy])
  refine (walk x0 y0 x1 y1 b2 hx0 hy0 hx1 hy1 W).mono fun e W' ⟨he, hB⟩ => ?_
  subst he
  exact ⟨_, rfl, _, _, _, [], _, [], hW', trodAll_mk1 (shut_bool Try.underlying4 true), trodAll_mk3 (Below.trod laid_out (by kernel_rfl) (of_decide_eq_true (by kernel_rfl)) h0 hB hlt0) (Below.trod laid_out (by kernel_rfl) (of_decide_eq_true (by kernel_rfl)) h1 hB hlt1) (Below.trod laid_out (by kernel_rfl) (of_decide_eq_true (by kernel_rfl)) h2 hB hlt2), rfl, hB.frame _, fun h => by cases h⟩

theorem proved : Rows.VecRunsSaid :=
  OpenClaim.holds_of_wide 5 Try.f5 rfl rfl rfl rfl rfl rfl rfl ⟨rfl, rfl, rfl, rfl, rfl⟩ rfl rfl rfl rfl rfl (by kernel_rfl) Try.func5 (by kernel_rfl)
    (of_decide_eq_true (by kernel_rfl)) (by unfold Func.isWrapper; first | (rw [if_pos (by decide +kernel)]; kernel_rfl) | (rw [if_neg (by decide +kernel)]; exact ⟨rfl, rfl⟩))
    (fun os started H enc _ => lifted os started H enc)
end Go.Proofs.Ytelpoocgmflofaa.VRuns
namespace Go.Proofs.Ytelpoocgmflofaa
theorem vecRuns_holds : Rows.VecRunsSaid := VRuns.proved
#print axioms vecRuns_holds
end Go.Proofs.Ytelpoocgmflofaa
