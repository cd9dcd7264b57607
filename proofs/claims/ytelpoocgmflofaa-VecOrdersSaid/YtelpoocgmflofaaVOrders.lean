/- VecOrders is true: the statement Rows.VecOrdersSaid, without a condition. -/
import Derived.Test.YtelpoocgmflofaaVecX
namespace Go.Proofs.Ytelpoocgmflofaa.VOrders
open Go.ChangeShapes Go.WideShapes Go.ChangeAt Go.RowKit GatM VecM LitM

theorem own_knob : ownKnob Try.prog.godebug = none := by kernel_rfl
theorem laid_out : laidOutB Try.prog = true := by kernel_rfl
theorem wid1 : (2 : Nat) = widthZ 1 1 := by decide +kernel
/-- How many of the first k are so. -/
def cntQ (q : Nat → Bool) : Nat → Nat
  | 0 => 0
  | k + 1 => cntQ q k + (if q k then 1 else 0)
/-- Just one of three. -/
theorem three (a b : Int) (q : Nat → Bool) (h0 : q 0 = decide (a < b)) (h1 : q 1 = decide (b < a)) (h2 : q 2 = decide (a = b)) : cntQ q 3 = 1 := by
  unfold cntQ cntQ cntQ cntQ
  rw [h0, h1, h2]
  simp only [decide_eq_true_eq]
  split <;> split <;> split <;> omega
set_option maxHeartbeats 12800000 in
set_option maxRecDepth 100000 in
theorem walk (x y x2 y2 : Int) (hx : I64 x) (hy : I64 y) (_hx2 : I64 x2) (_hy2 : I64 y2) (w : World) :
    Calls Try.prog 7 #[.agg #[.int .i64 x, .int .i64 y], .agg #[.int .i64 x2, .int .i64 y2]] w fun e w' => e = .returned (.bool true) ∧ Below w.heap.size w w' := by
  obtain ⟨W0, hW0⟩ : ∃ W0, W0 = (w.alloc (.cells #[.int .i64 x, .int .i64 y] 42)).alloc (.cells #[.int .i64 x2, .int .i64 y2] 37) := ⟨_, rfl⟩
  have hBa : Below w.heap.size w (w.alloc (.cells #[.int .i64 x, .int .i64 y] 42)) := (Below.refl _ _).alloc (Nat.le_refl _) _
  have hBb : Below (w.alloc (.cells #[.int .i64 x, .int .i64 y] 42)).heap.size (w.alloc (.cells #[.int .i64 x, .int .i64 y] 42)) W0 := by rw [hW0]; exact (Below.refl _ _).alloc (Nat.le_refl _) _
  have hsz : (w.alloc (.cells #[.int .i64 x, .int .i64 y] 42)).heap.size = w.heap.size + 1 := by simp
  have hB0 : Below w.heap.size w W0 := hBa.trans (hBb.mono hBa.size)
  have hT0 : ∀ W, Below W0.heap.size W0 W → W.cell? ⟨w.heap.size, 0, none⟩ = some (.int .i64 x) ∧ W.cell? ⟨w.heap.size, 1, none⟩ = some (.int .i64 y) ∧ W.cell? ⟨w.heap.size + 1, 0, none⟩ = some (.int .i64 x2) ∧ W.cell? ⟨w.heap.size + 1, 1, none⟩ = some (.int .i64 y2) := fun W hb => by
    have hs : w.heap.size + 1 < W0.heap.size := by rw [hW0]; simp
    have e1 : W0.heap[w.heap.size]? = some (.cells #[.int .i64 x, .int .i64 y] 42 (0, 0)) := (hBb.block _ (by rw [hsz]; omega)).trans (blk_new w _)
    have e2 : W0.heap[w.heap.size + 1]? = some (.cells #[.int .i64 x2, .int .i64 y2] 37 (0, 0)) := by rw [hW0, ← hsz]; exact blk_new _ _
    refine ⟨?_, ?_, ?_, ?_⟩
    · rw [hb.cell (p := ⟨w.heap.size, 0, none⟩) (by show w.heap.size < _; omega), Lib.cell_of_heap e1]; rfl
    · rw [hb.cell (p := ⟨w.heap.size, 1, none⟩) (by show w.heap.size < _; omega), Lib.cell_of_heap e1]; rfl
    · rw [hb.cell (p := ⟨w.heap.size + 1, 0, none⟩) hs, Lib.cell_of_heap e2]; rfl
    · rw [hb.cell (p := ⟨w.heap.size + 1, 1, none⟩) hs, Lib.cell_of_heap e2]; rfl
  have HT0 := Lib.hid hT0
  clear hT0 hBa hBb hsz
  go_enter Try.func7, Try.ntmps7
  go_wp2_with fail
  rw [← hW0]
  refine (valive_any W0).mono ?_
  rintro e w1 ⟨rfl, hb1⟩
  have HBW : Hid (∀ W, Below w1.heap.size w1 W → Below w.heap.size w W) := fun W hW => (hB0.trans (hb1.mono hB0.size)).trans (hW.mono (Nat.le_trans hB0.size hb1.size))
  have HT1 : Hid (∀ W, Below w1.heap.size w1 W → W.cell? ⟨w.heap.size, 0, none⟩ = some (.int .i64 x) ∧ W.cell? ⟨w.heap.size, 1, none⟩ = some (.int .i64 y) ∧ W.cell? ⟨w.heap.size + 1, 0, none⟩ = some (.int .i64 x2) ∧ W.cell? ⟨w.heap.size + 1, 1, none⟩ = some (.int .i64 y2)) := fun W hW => HT0.out W (hb1.trans (hW.mono hb1.size))
  have HR1 : Hid (Below w.heap.size w w1) := HBW.out w1 (Below.refl _ _)
  obtain ⟨x00, x01, _, _⟩ := HT1.out w1 (Below.refl _ _)
  obtain ⟨hxa, hxb⟩ := hx
  obtain ⟨hya, hyb⟩ := hy
  clear hW0 hB0 hb1 HT0
  by_cases q0 : x < 1
  · have t0 : decide (x < 1) = true := decide_eq_true q0
    go_wp2_with fail
    go_ret
    exact ⟨rfl, HR1.out⟩
  have t0 : decide (x < 1) = false := decide_eq_false q0
  by_cases q1 : y < 1
  · have t1 : decide (y < 1) = true := decide_eq_true q1
    go_wp2_with fail
    go_ret
    exact ⟨rfl, HR1.out⟩
  have t1 : decide (y < 1) = false := decide_eq_false q1
  by_cases q2 : 16 < x
  · have t2 : decide (16 < x) = true := decide_eq_true q2
    go_wp2_with fail
    go_ret
    exact ⟨rfl, HR1.out⟩
  have t2 : decide (16 < x) = false := decide_eq_false q2
  by_cases q3 : 16 < y
  · have t3 : decide (16 < y) = true := decide_eq_true q3
    go_wp2_with fail
    go_ret
    exact ⟨rfl, HR1.out⟩
  have t3 : decide (16 < y) = false := decide_eq_false q3
  obtain ⟨N0, rfl⟩ : ∃ N0 : Nat, x = (N0 : Int) := ⟨x.toNat, by omega⟩
  obtain ⟨N1, rfl⟩ : ∃ N1 : Nat, y = (N1 : Int) := ⟨y.toNat, by omega⟩
  have HT : Hid (∀ W, Below w1.heap.size w1 W → W.cell? ⟨w.heap.size, 0, none⟩ = some (.int .i64 (N0 : Int)) ∧ W.cell? ⟨w.heap.size, 1, none⟩ = some (.int .i64 (N1 : Int)) ∧ W.cell? ⟨w.heap.size + 1, 0, none⟩ = some (.int .i64 x2) ∧ W.cell? ⟨w.heap.size + 1, 1, none⟩ = some (.int .i64 y2)) := HT1.out
  have b0 : 1 ≤ N0 := by omega
  have b00 : N0 ≤ 16 := by omega
  have b1 : 1 ≤ N1 := by omega
  have b11 : N1 ≤ 16 := by omega
  clear q0 q1 q2 q3 HT1 hxa hxb hya hyb
  go_wp2_with fail
  refine (gnew_any w1).mono ?_
  intro e w3 hNW
  obtain ⟨bg, rfl, hst⟩ := St.new hNW (Below.refl w1.heap.size w1) (Nat.le_refl _)
  have HS0 : Hid (St w1.heap.size w1 bg w3 (List.replicate 1 (0, 0)) [] []) := hst
  clear t0 t1 t2 t3 x00 x01
  clear hNW hst
  obtain ⟨x00, x01, x10, x11⟩ := HT.out _ HS0.out.be.1
  have HOP := Lib.hid (HS0.out.input N0 ⟨b0, by omega⟩ (by omega) (by omega))
  go_wp2_with fail
  refine HOP.out.mono ?_
  rintro e1 v1 ⟨ga, rfl, HS1⟩
  clear HOP HS0
  clear x00 x01 x10 x11
  obtain ⟨x00, x01, x10, x11⟩ := HT.out _ HS1.out.be.1
  have HOP := Lib.hid (HS1.out.input N1 ⟨b1, by omega⟩ (by omega) (by omega))
  go_wp2_with fail
  refine HOP.out.mono ?_
  rintro e2 v2 ⟨gb, rfl, HS2⟩
  clear HOP HS1
  clear x00 x01 x10 x11
  have HOP := Lib.hid (HS2.out.con 1 (by unfold I64; omega) 2 wid1 (by decide))
  go_wp2_with fail
  refine HOP.out.mono ?_
  rintro e3 v3 ⟨gone, rfl, HS3⟩
  clear HOP HS2
  have hgs : (List.replicate (1 + N0 + N1) ((0 : Nat), (0 : Nat))).length ≤ 40 := by rw [List.length_replicate]; omega
  obtain ⟨K1, hK1⟩ : ∃ K1, K1 = max N0 2 + 1 := ⟨_, rfl⟩
  have EK := Lib.hid hK1
  have bK : K1 ≤ 17 := by omega
  clear hK1
  have HOP := Lib.hid (HS3.out.less N0 N1 (.tail _ (.tail _ (.head _))) (.tail _ (.head _)) (by omega) (by omega) (by omega))
  go_wp2_with fail
  refine HOP.out.mono ?_
  rintro e4 v4 ⟨rx, gs4, rfl, hl4, hc4, HS4⟩
  clear HOP HS3 hc4
  have HOP := Lib.hid (HS4.out.less N1 N0 (.tail _ (.head _)) (.tail _ (.tail _ (.head _))) (by omega) (by omega) (by omega))
  go_wp2_with fail
  refine HOP.out.mono ?_
  rintro e5 v5 ⟨ry, gs5, rfl, hl5, hc5, HS5⟩
  clear HOP HS4 hc5
  have HOP := Lib.hid (HS5.out.equal N0 N1 (.tail _ (.tail _ (.head _))) (.tail _ (.head _)) (by omega) (by omega) (by omega))
  go_wp2_with fail
  refine HOP.out.mono ?_
  rintro e6 v6 ⟨rz, gs6, rfl, hl6, hc6, HS6⟩
  clear HOP HS5 hc6
  have hop := HS6.out.sub N0 2 (.tail _ (.tail _ (.head _))) (.head _) (by omega) (by omega) (by omega)
  rw [← EK.out] at hop
  have HOP := Lib.hid hop
  clear hop
  go_wp2_with fail
  refine HOP.out.mono ?_
  rintro e7 v7 ⟨gl, cl, ll, gs7, rfl, hl7, hc7, HS7⟩
  clear HOP HS6 hc7
  have HOP := Lib.hid (HS7.out.less cl N0 (.head _) (.tail _ (.tail _ (.tail _ (.head _)))) (by omega) (by omega) (by omega))
  go_wp2_with fail
  refine HOP.out.mono ?_
  rintro e8 v8 ⟨ru, gs8, rfl, hl8, hc8, HS8⟩
  clear HOP HS7 hc8
  obtain ⟨V, hV⟩ : ∃ V, V = v8 := ⟨_, rfl⟩
  obtain ⟨v0, hv0⟩ : ∃ v0, v0 = V.drew := ⟨_, rfl⟩
  have hbV : Below V.heap.size V v0 := by rw [hv0]; exact (Below.refl _ _).drew
  rw [← hV] at HS8
  have HVB : Hid (Below w1.heap.size w1 V) := HS8.out.be.1
  have HS : Hid (∀ W, Below v0.heap.size v0 W → W.cell? ⟨w.heap.size, 0, none⟩ = some (.int .i64 (N0 : Int)) ∧ W.cell? ⟨w.heap.size, 1, none⟩ = some (.int .i64 (N1 : Int)) ∧ W.cell? ⟨w.heap.size + 1, 0, none⟩ = some (.int .i64 x2) ∧ W.cell? ⟨w.heap.size + 1, 1, none⟩ = some (.int .i64 y2)) := fun W hW => HT.out W (HVB.out.trans ((hbV.trans (hW.mono hbV.size)).mono HVB.out.size))
  have hb0 : Below v0.heap.size v0 v0 := Below.refl _ _
  have HV0 := Lib.hid hv0
  have HBV := Lib.hid hbV
  have HBI1 : Hid (∀ W, Calls Try.prog 23 #[.int .i64 x2, .int .i64 (N0 : Int)] W (BitsTo W x2 N0)) := fun W => rbits_any x2 N0 (by omega) W
  have HBI2 : Hid (∀ W, Calls Try.prog 23 #[.int .i64 y2, .int .i64 (N1 : Int)] W (BitsTo W y2 N1)) := fun W => rbits_any y2 N1 (by omega) W
  clear hv0 hbV
  go_upto_region 14 with (fail)
  rw [← hV]
  clear hV
  go_cut [22] (fun v wx => ∃ g c, v = .slice (some ⟨g, 0, none⟩) (N0 + N1) c ∧ Hid (RowV 4 1 wx g (N0 + N1) c (fun j => .bool ((bitL x2 N0 ++ bitL y2 N1).getD j false)) ∧ Below V.heap.size V wx))
  case first =>
    refine wp_region_held_drew (S := (fun W => W.cell? ⟨w.heap.size, 0, none⟩ = some (.int .i64 (N0 : Int)) ∧ W.cell? ⟨w.heap.size, 1, none⟩ = some (.int .i64 (N1 : Int)) ∧ W.cell? ⟨w.heap.size + 1, 0, none⟩ = some (.int .i64 x2) ∧ W.cell? ⟨w.heap.size + 1, 1, none⟩ = some (.int .i64 y2))) (by kernel_rfl) (by rw [← HV0.out]; exact HS.out v0 hb0) (fun hHeld => ?_)
    rw [← HV0.out] at hHeld ⊢
    refine wpAnyH_take (i := 0) (v := ?_) rfl (by kernel_rfl) (by kernel_rfl) (by kernel_rfl) (fun _ _ _ h => h) (Or.inl ⟨by kernel_rfl, ?_⟩) (by assumption) ?_
    rotate_left 1
    · intro w hSw
      (try dsimp only at hSw)
      first | (go_simp; done) | (go_simp; with_reducible rfl)
    go_simp
    refine wpAnyH_take (i := 1) (v := ?_) rfl (by kernel_rfl) (by kernel_rfl) (by kernel_rfl) (fun _ _ _ h => h) (Or.inl ⟨by kernel_rfl, ?_⟩) (by assumption) ?_
    rotate_left 1
    · intro w hSw
      (try dsimp only at hSw)
      first | (go_simp; done) | (go_simp; with_reducible rfl)
    go_simp
    refine wpAnyH_take (i := 2) (v := ?_) rfl (by kernel_rfl) (by kernel_rfl) (by kernel_rfl) (fun _ _ _ h => h) (Or.inl ⟨by kernel_rfl, ?_⟩) (by assumption) ?_
    rotate_left 1
    · intro w hSw
      (try dsimp only at hSw)
      first | (go_simp; done) | (go_simp; with_reducible rfl)
    go_simp
    refine wpAnyH_take (i := 3) (v := ?_) rfl (by kernel_rfl) (by kernel_rfl) (by kernel_rfl) (fun _ _ _ h => h) (Or.inl ⟨by kernel_rfl, ?_⟩) (by assumption) ?_
    rotate_left 1
    · intro w hSw
      (try dsimp only at hSw)
      first | (go_simp; done) | (go_simp; with_reducible rfl)
    go_simp
    refine wpAnyH_take (i := 5) (v := ?_) rfl (by kernel_rfl) (by kernel_rfl) (by kernel_rfl) (fun _ _ _ h => h) (Or.inl ⟨by kernel_rfl, ?_⟩) (by assumption) ?_
    rotate_left 1
    · intro w hSw
      (try dsimp only at hSw)
      first | (go_simp; done) | (go_simp; with_reducible rfl)
    go_simp
    refine wpAnyH_take (i := 6) (v := ?_) rfl (by kernel_rfl) (by kernel_rfl) (by kernel_rfl) (fun _ _ _ h => h) (Or.inl ⟨by kernel_rfl, ?_⟩) (by assumption) ?_
    rotate_left 1
    · intro w hSw
      (try dsimp only at hSw)
      first | (go_simp; done) | (go_simp; with_reducible rfl)
    go_simp
    refine wpAnyH_take (i := 7) (v := ?_) rfl (by kernel_rfl) (by kernel_rfl) (by kernel_rfl) (fun _ _ _ h => h) (Or.inl ⟨by kernel_rfl, ?_⟩) (by assumption) ?_
    rotate_left 1
    · intro w hSw
      (try dsimp only at hSw)
      first | (go_simp; done) | (go_simp; with_reducible rfl)
    go_simp
    refine wpAnyH_take (i := 8) (v := ?_) rfl (by kernel_rfl) (by kernel_rfl) (by kernel_rfl) (fun _ _ _ h => h) (Or.inl ⟨by kernel_rfl, ?_⟩) (by assumption) ?_
    rotate_left 1
    · intro w hSw
      (try dsimp only at hSw)
      first | (go_simp; done) | (go_simp; with_reducible rfl)
    go_simp
    refine wpAnyH_ready (rs := [4]) (by kernel_rfl) (by simp) ?_
    refine AllReadyH.cons rfl (fun K hK => ?_) ?_
    ·
      go_simp
      refine (HBI1.out v0).mono ?_
      intro e v1 hbt
      obtain ⟨g1, c1, rfl, hr1, hb, hg1⟩ := hbt
      have hb1 : Below v0.heap.size v0 v1 := hb0.trans (hb.mono hb0.size)
      refine hK.out _ _ (HS.out _ hb1) (fun hHeld => ?_)
      clear hK K
      have hs1 : Below v0.heap.size v0 v1 := hb
      clear hb
      refine wpAnyH_ready (rs := [9]) (by kernel_rfl) (by simp) ?_
      refine AllReadyH.cons rfl (fun K hK => ?_) ?_
      ·
        go_simp
        refine (HBI2.out v1).mono ?_
        intro e v2 hbt
        obtain ⟨g2, c2, rfl, hr2, hb, hg2⟩ := hbt
        have hb2 : Below v0.heap.size v0 v2 := hb1.trans (hb.mono hb1.size)
        refine hK.out _ _ (HS.out _ hb2) (fun hHeld => ?_)
        clear hK K
        have hs2 : Below v1.heap.size v1 v2 := hb
        clear hb
        refine wpAnyH_ready (rs := [10]) (by kernel_rfl) (by simp) ?_
        refine AllReadyH.cons rfl (fun K hK => ?_) ?_
        ·
          have ra := hr1.same (hs2.block g1 hr1.lt)
          have rb := hr2.same ((Below.refl v2.heap.size v2).block g2 hr2.lt)
          have hg10 : v0.heap.size ≤ g1 := Nat.le_trans hb0.size hg1
          refine step_append_src _ rfl _ _ 45 4 rfl Try.underlying45 info_gbool rfl (by decide) (by decide) g1 N0 c1 (fun j => .bool (bitZ x2 j)) (by rfl) ra (by omega) (some ⟨g2, 0, none⟩) N1 c2 (fun j => .bool (bitZ y2 j)) (by rfl) (.inr ⟨g2, rfl, rb⟩) (fun j _ => rfl) (by omega) ?_
          intro g3 c3 v3 hr3 hg3 hk3
          have hb3 : Below v0.heap.size v0 v3 := hb2.trans (hk3.below hb2.size fun q hq => by rw [hq]; exact hg10)
          refine hK.out _ _ (HS.out _ hb3) (fun hHeld => ?_)
          clear hK K
          have hg30 : v0.heap.size ≤ g3 := by
            rcases hg3 with q | q
            · rw [q]; exact hg10
            · exact Nat.le_trans hb2.size q
          refine wpAnyH_take (i := 11) (v := ?_) rfl (by kernel_rfl) (by kernel_rfl) (by kernel_rfl) (fun _ _ _ h => h) (Or.inl ⟨by kernel_rfl, ?_⟩) (by assumption) ?_
          rotate_left 1
          · intro w hSw
            (try dsimp only at hSw)
            first | (go_simp; done) | (go_simp; with_reducible rfl)
          go_simp
          refine wpAnyH_done (by kernel_rfl) ?_ _
          have hbe := hb3
          have HRF : Hid (RowV 4 1 v3 g3 (N0 + N1) c3 (fun j => .bool ((bitL x2 N0 ++ bitL y2 N1).getD j false)) ∧ Below V.heap.size V v3) := by
            refine ⟨hr3.congr fun j hj => ?_, HBV.out.trans (hbe.mono HBV.out.size)⟩
            rw [app_two x2 y2 (by omega)]
          clear hr1 hr2 hr3 hg1 hg2 hg3 hk3 hs1 hs2 hb0 hb1 hb2 hb3 ra rb hg10 hg30 hHeld hbe
          go_wp2_with fail
          go_meet
          exact ⟨g3, c3, rfl, HRF⟩
        exact AllReadyH.nil
      exact AllReadyH.nil
    exact AllReadyH.nil
  case rest =>
  obtain ⟨gr, cr, rfl, HRW⟩ := hcut
  have HSV := Lib.hid (HS8.out.below HRW.out.2)
  have HRD : Hid (RdO wc wc.heap.size (some ⟨gr, 0, none⟩) (N0 + N1) (bitL x2 N0 ++ bitL y2 N1)) := ⟨by rw [List.length_append, bitL_len, bitL_len], fun _ => ⟨gr, 0, rfl, HRW.out.1.lt, fun j hj => by rw [Nat.zero_add, HRW.out.1.cell (by omega)]⟩⟩
  clear HRW HBI1 HBI2 HS HV0 HBV HS8 hb0
  have hev := HSV.out.eval cr HRD.out [(rx, fun vals => decide (nB (inB 1 vals) N0 < nB (inB (1 + N0) vals) N1)), (ry, fun vals => decide (nB (inB (1 + N0) vals) N1 < nB (inB 1 vals) N0)), (rz, fun vals => decide (nB (inB 1 vals) N0 = nB (inB (1 + N0) vals) N1)), (ru, fun vals => decide (nB (inB 1 vals) N0 - 1 < nB (inB 1 vals) N0))] (fun x hx => by
    simp only [List.mem_cons, List.not_mem_nil, or_false] at hx
    rcases hx with rfl | rfl | rfl | rfl
    · exact (.tail _ (.tail _ (.tail _ (.head _))))
    · exact (.tail _ (.tail _ (.head _)))
    · exact (.tail _ (.head _))
    · exact (.head _)) (show 4 ≤ 100 by omega) (by omega)
  have HEV : Hid (Calls Try.prog 27 #[.pointer (some ⟨bg, 0, none⟩), .slice (some ⟨gr, 0, none⟩) (N0 + N1) cr, .slice (some ⟨wc.heap.size, 0, none⟩) 4 4] (wc.alloc (.cells #[.int .u32 (rx : Int), .int .u32 (ry : Int), .int .u32 (rz : Int), .int .u32 (ru : Int)] 25)) fun e w' => ∃ (g : Nat) (q : Nat → Bool), e = .returned (.tuple #[.slice (some ⟨g, 0, none⟩) 4 4, .int .i64 0]) ∧ Hid (Below wc.heap.size wc w') ∧ Hid (∀ j, j < 4 → w'.cell? ⟨g, j, none⟩ = some (.bool (q j))) ∧ Hid (cntQ q 3 = 1 ∧ q 3 = true)) := hev.mono fun e w' ⟨g, q1, q2, q3, q4⟩ => ⟨g, fun j => ([(rx, fun vals => decide (nB (inB 1 vals) N0 < nB (inB (1 + N0) vals) N1)), (ry, fun vals => decide (nB (inB (1 + N0) vals) N1 < nB (inB 1 vals) N0)), (rz, fun vals => decide (nB (inB 1 vals) N0 = nB (inB (1 + N0) vals) N1)), (ru, fun vals => decide (nB (inB 1 vals) N0 - 1 < nB (inB 1 vals) N0))].getD j (0, fun _ => false)).2 (bitL x2 N0 ++ bitL y2 N1), q1, q2, q3.out, three _ _ _ rfl rfl rfl, by show decide (_ - 1 < _) = true; rw [decide_eq_true_iff]; omega⟩
  clear hev
  go_wp2_with fail
  refine HEV.out.mono ?_
  rintro e w8 ⟨ge, q, rfl, hb8, HEC, HQ⟩
  have HBE : Hid (Below w.heap.size w w8) := HBW.out _ (HSV.out.below hb8.out).be.1
  clear hb8 HEV HSV HRD
  go_wp2_with fail
  go_loopw [25, 154] (fun u i wr => ∃ k : Nat, u = .int .i64 ((cntQ q k : Nat) : Int) ∧ i = .int .i64 (k : Int) ∧ k ≤ 3 ∧ w8 = wr) (fun _ i _ => 3 - (intOf i).toNat)
  case atStart => exact ⟨0, rfl, rfl, by omega, rfl⟩
  case round =>
    obtain ⟨k, rfl, rfl, hk, rfl⟩ := hrel
    by_cases hlt : k < 3
    · have tk : decide ((k : Int) < 3) = true := decide_eq_true (by omega)
      have tk2 : decide (k < 3) = true := decide_eq_true hlt
      have tk3 : decide ((3 : Int) ≤ (k : Int)) = false := decide_eq_false (by omega)
      have y0 := HEC.out k (by omega)
      have hcb : cntQ q k ≤ 3 := by
        have : ∀ j, cntQ q j ≤ j := fun j => by
          induction j with
          | zero => exact Nat.le_refl _
          | succ j ih => show cntQ q j + _ ≤ _; split <;> omega
        have := this k
        omega
      have HC1 : Hid (cntQ q (k + 1) = cntQ q k + (if q k then 1 else 0)) := rfl
      generalize cntQ q k = s at *
      by_cases hq : q k = true
      · rw [hq] at y0 HC1
        clear hq
        go_wp2_with fail
        go_roundw
        case rel => exact ⟨k + 1, by rw [HC1.out]; rfl, by go_num, by omega, trivial⟩
        case measure => simp [intOf]; omega
      · have hq : q k = false := by simpa using hq
        rw [hq] at y0 HC1
        clear hq
        go_wp2_with fail
        go_roundw
        case rel => exact ⟨k + 1, by rw [HC1.out]; rfl, by go_num, by omega, trivial⟩
        case measure => simp [intOf]; omega
    · have tk : decide ((k : Int) < 3) = false := decide_eq_false (by omega)
      have tk2 : decide (k < 3) = false := decide_eq_false hlt
      obtain rfl : k = 3 := by omega
      have y3 := HEC.out 3 (by omega)
      rw [HQ.out.2] at y3
      rw [HQ.out.1]
      clear HEC HQ
      go_wp2_with fail
      go_ret
      exact ⟨rfl, HBE.out⟩
set_option maxHeartbeats 800000 in
set_option maxRecDepth 100000 in
theorem lifted (os : Os) (started : os.Started) (H : Type) (enc : TypeId × Value → H) :
    ReturnsInHanded {} Try.checked os 7 .any (Rows.vecOrdersSpec.pre6 enc Try.prog Try.f7 Rows.vecOrdersRow.domain false) (Rows.vecOrdersSpec.post enc Try.prog Try.f7 false true false false) := by
  refine returnsInHanded_of_change (C := Try.checked) own_knob started (by kernel_rfl) Try.func7
    (ChangeSpec.witness6 (enc := enc) (C := Try.checked) false ⟨#[], #[.agg #[.int .i64 0, .int .i64 0], .agg #[.int .i64 0, .int .i64 0]], []⟩ 8 (by kernel_rfl) (by kernel_rfl) (by kernel_rfl) (by kernel_rfl)) ?_
  intro W base args ds gs before hval0 hW _ _
  have hval : ∀ (j : Nat) t v, Try.f7.params[j]? = some t → args[j]? = some v → Value.okWide Try.prog W .any base t v := hval0
  have hW' := hW
  obtain ⟨p, q, hA0, hV, rfl, _, _⟩ := hW
  have hA : DataW.TrodAll enc Try.prog W 0 (fun _ => true) true Try.f7.params.toList args.toList ds p := hA0
  rw [Try.params7] at hA hval
  obtain ⟨v0, v1, d0, d1, p0, p1, rfl, rfl, rfl, h0, h1⟩ := trodAll_two hA
  obtain ⟨rfl, rfl⟩ := trodVars_none hV
  obtain ⟨x0, y0, rfl, hx0, hy0⟩ := open_v2 (hval 0 42 v0 rfl rfl) h0
  obtain ⟨x1, y1, rfl, hx1, hy1⟩ := open_w2 (hval 1 37 v1 rfl rfl) h1
  clear hA0 hval0
  have hlt0 : ∀ y ∈ p0, y.block < W.heap.size := fun y hy => by simpa using hW'.lt y (by simp [hy])
  have hlt1 : ∀ y ∈ p1, y.block < W.heap.size := fun y hy => by simpa using hW'.lt y (by simp [hy])
  refine (walk x0 y0 x1 y1 hx0 hy0 hx1 hy1 W).mono fun e W' ⟨he, hB⟩ => ?_
  subst he
  exact ⟨_, rfl, _, _, _, [], _, [], hW', trodAll_mk1 (shut_bool Try.underlying4 true), trodAll_mk2 (Below.trod laid_out (by kernel_rfl) (of_decide_eq_true (by kernel_rfl)) h0 hB hlt0) (Below.trod laid_out (by kernel_rfl) (of_decide_eq_true (by kernel_rfl)) h1 hB hlt1), rfl, hB.frame _, fun h => by cases h⟩

theorem proved : Rows.VecOrdersSaid :=
  OpenClaim.holds_of_wide 7 Try.f7 rfl rfl rfl rfl rfl rfl rfl ⟨rfl, rfl, rfl, rfl, rfl⟩ rfl rfl rfl rfl rfl (by kernel_rfl) Try.func7 (by kernel_rfl)
    (of_decide_eq_true (by kernel_rfl)) (by unfold Func.isWrapper; first | (rw [if_pos (by decide +kernel)]; kernel_rfl) | (rw [if_neg (by decide +kernel)]; exact ⟨rfl, rfl⟩))
    (fun os started H enc _ => lifted os started H enc)
end Go.Proofs.Ytelpoocgmflofaa.VOrders
namespace Go.Proofs.Ytelpoocgmflofaa
theorem vecOrders_holds : Rows.VecOrdersSaid := VOrders.proved
#print axioms vecOrders_holds
end Go.Proofs.Ytelpoocgmflofaa
