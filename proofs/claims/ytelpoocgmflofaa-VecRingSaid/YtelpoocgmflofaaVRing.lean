/- VecRing is true: the statement Rows.VecRingSaid, without a condition. -/
import Derived.Test.YtelpoocgmflofaaVecX
namespace Go.Proofs.Ytelpoocgmflofaa.VRing
open Go.ChangeShapes Go.WideShapes Go.ChangeAt Go.RowKit GatM VecM LitM

theorem own_knob : ownKnob Try.prog.godebug = none := by kernel_rfl
theorem laid_out : laidOutB Try.prog = true := by kernel_rfl
theorem kmul {n m : Nat} (hn : n ≤ 9) (hm : m ≤ 9) : m * (18 * (n + 1)) ≤ 1620 := by
  have := Nat.mul_le_mul hm (show 18 * (n + 1) ≤ 180 by omega)
  omega
theorem wid1 : (2 : Nat) = widthZ 1 1 := by decide +kernel
theorem cut8 (n : Int) : I64 (cutZ n 8) ∧ ∃ m, m = widthZ (cutZ n 8) (cutZ n 8) ∧ 0 < m ∧ m ≤ 8 := by
  have h : - pw 7 ≤ cutZ n 8 ∧ cutZ n 8 < pw 7 := cut_bd n 7
  have hp : pw 7 = 128 := by decide
  have hi : I64 (cutZ n 8) := by unfold I64; rw [hp] at h; omega
  refine ⟨hi, _, rfl, ?_⟩
  have hw := (wid_le hi.1 hi.2 (k := 7) (by omega)).2 ⟨h.1, by omega⟩
  have := wid_pos (cutZ n 8)
  unfold widthZ
  rw [if_neg (by omega)]
  omega
set_option maxHeartbeats 12800000 in
set_option maxRecDepth 100000 in
theorem walk (x y z m : Int) (_hx : I64 x) (_hy : I64 y) (_hz : I64 z) (_hm : I64 m) (w : World) :
    Calls Try.prog 8 #[.agg #[.int .i64 x, .int .i64 y, .int .i64 z], .int .i64 m] w fun e w' => e = .returned (.bool true) ∧ Below w.heap.size w w' := by
  obtain ⟨W0, hW0⟩ : ∃ W0, W0 = w.alloc (.cells #[.int .i64 x, .int .i64 y, .int .i64 z] 54) := ⟨_, rfl⟩
  have hB0 : Below w.heap.size w W0 := by rw [hW0]; exact (Below.refl _ _).alloc (Nat.le_refl _) _
  have hT0 : ∀ W, Below W0.heap.size W0 W → W.cell? ⟨w.heap.size, 0, none⟩ = some (.int .i64 x) ∧ W.cell? ⟨w.heap.size, 1, none⟩ = some (.int .i64 y) ∧ W.cell? ⟨w.heap.size, 2, none⟩ = some (.int .i64 z) := fun W hb => by
    have hs : w.heap.size < W0.heap.size := by rw [hW0]; simp
    have e1 : W0.heap[w.heap.size]? = some (.cells #[.int .i64 x, .int .i64 y, .int .i64 z] 54 (0, 0)) := by rw [hW0]; exact blk_new w _
    refine ⟨?_, ?_, ?_⟩
    all_goals (rw [hb.cell (by exact hs), Lib.cell_of_heap e1]; rfl)
  have HT0 := Lib.hid hT0
  clear hT0
  go_enter Try.func8, Try.ntmps8
  go_wp2_with fail
  rw [← hW0]
  refine (valive_any W0).mono ?_
  rintro e w1 ⟨rfl, hb1⟩
  have HBW : Hid (∀ W, Below w1.heap.size w1 W → Below w.heap.size w W) := fun W hW => (hB0.trans (hb1.mono hB0.size)).trans (hW.mono (Nat.le_trans hB0.size hb1.size))
  have HT : Hid (∀ W, Below w1.heap.size w1 W → W.cell? ⟨w.heap.size, 0, none⟩ = some (.int .i64 x) ∧ W.cell? ⟨w.heap.size, 1, none⟩ = some (.int .i64 y) ∧ W.cell? ⟨w.heap.size, 2, none⟩ = some (.int .i64 z)) := fun W hW => HT0.out W (hb1.trans (hW.mono hb1.size))
  have HR1 : Hid (Below w.heap.size w w1) := HBW.out w1 (Below.refl _ _)
  clear hW0 hB0 hb1 HT0
  by_cases hm1 : m < 1
  · have t1 : decide (m < 1) = true := decide_eq_true hm1
    go_wp2_with fail
    go_ret
    exact ⟨rfl, HR1.out⟩
  have t1 : decide (m < 1) = false := decide_eq_false hm1
  by_cases hm9 : 9 < m
  · have t2 : decide (9 < m) = true := decide_eq_true hm9
    go_wp2_with fail
    go_ret
    exact ⟨rfl, HR1.out⟩
  have t2 : decide (9 < m) = false := decide_eq_false hm9
  obtain ⟨N, rfl⟩ : ∃ N : Nat, m = (N : Int) := ⟨m.toNat, by omega⟩
  have hN1 : 1 ≤ N := by omega
  have hN9 : N ≤ 9 := by omega
  obtain ⟨hib, mb, hmb, hmb0, hmb8⟩ := cut8 y
  obtain ⟨hic, mc, hmc, hmc0, hmc8⟩ := cut8 z
  have HCB : Hid (∀ W, Calls Try.prog 22 #[.int .i64 y, .int .i64 8] W fun e w' => e = .returned (.int .i64 (cutZ y 8)) ∧ W = w') := fun W => rcut_any y 8 (by omega) W
  have HCC : Hid (∀ W, Calls Try.prog 22 #[.int .i64 z, .int .i64 8] W fun e w' => e = .returned (.int .i64 (cutZ z 8)) ∧ W = w') := fun W => rcut_any z 8 (by omega) W
  have HBI : Hid (∀ W, Calls Try.prog 23 #[.int .i64 x, .int .i64 (N : Int)] W (BitsTo W x N)) := fun W => rbits_any x N (by omega) W
  generalize cutZ y 8 = bb at *
  generalize cutZ z 8 = cc at *
  have HIB := Lib.hid hib
  have HIC := Lib.hid hic
  have HMB := Lib.hid hmb
  have HMC := Lib.hid hmc
  obtain ⟨M, hM⟩ : ∃ M, M = max mb mc + 1 := ⟨_, rfl⟩
  obtain ⟨N1, h1⟩ : ∃ N1, N1 = N + M := ⟨_, rfl⟩
  obtain ⟨N2, h2⟩ : ∃ N2, N2 = N + mb := ⟨_, rfl⟩
  obtain ⟨N3, h3⟩ : ∃ N3, N3 = N + mc := ⟨_, rfl⟩
  obtain ⟨N4, h4⟩ : ∃ N4, N4 = max N2 N3 + 1 := ⟨_, rfl⟩
  obtain ⟨N5, h5⟩ : ∃ N5, N5 = max N N + 1 := ⟨_, rfl⟩
  obtain ⟨N6, h6⟩ : ∃ N6, N6 = N + 2 := ⟨_, rfl⟩
  have EM := Lib.hid hM
  have E1 := Lib.hid h1
  have E2 := Lib.hid h2
  have E3 := Lib.hid h3
  have E4 := Lib.hid h4
  have E5 := Lib.hid h5
  have E6 := Lib.hid h6
  have bM : M ≤ 9 := by omega
  have b1 : N1 ≤ 18 := by omega
  have b2 : N2 ≤ 18 := by omega
  have b3 : N3 ≤ 18 := by omega
  have b4 : N4 ≤ 19 := by omega
  have b5 : N5 ≤ 10 := by omega
  have b6 : N6 ≤ 11 := by omega
  clear hM h1 h2 h3 h4 h5 h6 hib hic hmb hmc hm1 hm9
  go_wp2_with fail
  refine (gnew_any w1).mono ?_
  intro e w3 hNW
  obtain ⟨bg, rfl, hst⟩ := St.new hNW (Below.refl w1.heap.size w1) (Nat.le_refl _)
  have HS0 : Hid (St w1.heap.size w1 bg w3 (List.replicate 1 (0, 0)) [] []) := hst
  clear hNW hst
  have HOP := Lib.hid (HS0.out.input N ⟨hN1, by omega⟩ (by omega) (by omega))
  go_wp2_with fail
  refine HOP.out.mono ?_
  rintro e1 v1 ⟨ga, rfl, HS1⟩
  clear HOP HS0
  obtain ⟨x0, x1, x2⟩ := HT.out _ HS1.out.be.1
  go_wp2_with fail
  refine (HCB.out _).mono ?_
  rintro e w' ⟨rfl, rfl⟩
  clear x0 x1 x2
  have HOP := Lib.hid (HS1.out.con bb HIB.out mb HMB.out hmb0)
  go_wp2_with fail
  refine HOP.out.mono ?_
  rintro e2 v2 ⟨gb, rfl, HS2⟩
  clear HOP HS1
  obtain ⟨x0, x1, x2⟩ := HT.out _ HS2.out.be.1
  go_wp2_with fail
  refine (HCC.out _).mono ?_
  rintro e w' ⟨rfl, rfl⟩
  clear x0 x1 x2
  have HOP := Lib.hid (HS2.out.con cc HIC.out mc HMC.out hmc0)
  go_wp2_with fail
  refine HOP.out.mono ?_
  rintro e3 v3 ⟨gc, rfl, HS3⟩
  clear HOP HS2
  have HOP := Lib.hid (HS3.out.con 1 (by unfold I64; omega) 2 wid1 (by decide))
  go_wp2_with fail
  refine HOP.out.mono ?_
  rintro e4 v4 ⟨gone, rfl, HS4⟩
  clear HOP HS3
  have hgs : (List.replicate (1 + N) ((0 : Nat), (0 : Nat))).length ≤ 10 := by rw [List.length_replicate]; omega
  have hop := HS4.out.add mb mc (.tail _ (.tail _ (.head _))) (.tail _ (.head _)) (by omega) (by omega) (by omega)
  rw [← EM.out] at hop
  have HOP := Lib.hid hop
  clear hop
  go_wp2_with fail
  refine HOP.out.mono ?_
  rintro e5 v5 ⟨gbo, cbo, lbo, gs5, rfl, hl5, hc5, HS5⟩
  clear HOP HS4 hc5
  have hop := HS5.out.times N cbo (.tail _ (.tail _ (.tail _ (.tail _ (.head _))))) (.head _) (by omega) (by omega) 1620 (kmul (by omega) (by omega)) (kmul (by omega) (by omega))
  rw [← E1.out] at hop
  have HOP := Lib.hid hop
  clear hop
  go_wp2_with fail
  refine HOP.out.mono ?_
  rintro e6 v6 ⟨gle, cle, lle, gs6, rfl, hl6, hc6, HS6⟩
  clear HOP HS5 hc6
  have hop := HS6.out.times N mb (.tail _ (.tail _ (.tail _ (.tail _ (.tail _ (.head _)))))) (.tail _ (.tail _ (.tail _ (.tail _ (.head _))))) (by omega) (by omega) 1620 (kmul (by omega) (by omega)) (kmul (by omega) (by omega))
  rw [← E2.out] at hop
  have HOP := Lib.hid hop
  clear hop
  go_wp2_with fail
  refine HOP.out.mono ?_
  rintro e7 v7 ⟨gp, cp, lp, gs7, rfl, hl7, hc7, HS7⟩
  clear HOP HS6 hc7
  have hop := HS7.out.times N mc (.tail _ (.tail _ (.tail _ (.tail _ (.tail _ (.tail _ (.head _))))))) (.tail _ (.tail _ (.tail _ (.tail _ (.head _))))) (by omega) (by omega) 1620 (kmul (by omega) (by omega)) (kmul (by omega) (by omega))
  rw [← E3.out] at hop
  have HOP := Lib.hid hop
  clear hop
  go_wp2_with fail
  refine HOP.out.mono ?_
  rintro e8 v8 ⟨gq, cq, lq, gs8, rfl, hl8, hc8, HS8⟩
  clear HOP HS7 hc8
  have hop := HS8.out.add cp cq (.tail _ (.head _)) (.head _) (by omega) (by omega) (by omega)
  rw [← E4.out] at hop
  have HOP := Lib.hid hop
  clear hop
  go_wp2_with fail
  refine HOP.out.mono ?_
  rintro e9 v9 ⟨gri, cri, lri, gs9, rfl, hl9, hc9, HS9⟩
  clear HOP HS8 hc9
  have HOP := Lib.hid (HS9.out.equal cle cri (.tail _ (.tail _ (.tail _ (.head _)))) (.head _) (by omega) (by omega) (by omega))
  go_wp2_with fail
  refine HOP.out.mono ?_
  rintro e10 v10 ⟨rsame, gs10, rfl, hl10, hc10, HS10⟩
  clear HOP HS9 hc10
  have hop := HS10.out.sub N N (.tail _ (.tail _ (.tail _ (.tail _ (.tail _ (.tail _ (.tail _ (.tail _ (.head _))))))))) (.tail _ (.tail _ (.tail _ (.tail _ (.tail _ (.tail _ (.tail _ (.tail _ (.head _))))))))) (by omega) (by omega) (by omega)
  rw [← E5.out] at hop
  have HOP := Lib.hid hop
  clear hop
  go_wp2_with fail
  refine HOP.out.mono ?_
  rintro e11 v11 ⟨gself, cself, lself, gs11, rfl, hl11, hc11, HS11⟩
  clear HOP HS10 hc11
  have hop := HS11.out.times N 2 (.tail _ (.tail _ (.tail _ (.tail _ (.tail _ (.tail _ (.tail _ (.tail _ (.tail _ (.head _)))))))))) (.tail _ (.tail _ (.tail _ (.tail _ (.tail _ (.tail _ (.head _))))))) (by omega) (by omega) 1620 (kmul (by omega) (by omega)) (kmul (by omega) (by omega))
  rw [← E6.out] at hop
  have HOP := Lib.hid hop
  clear hop
  go_wp2_with fail
  refine HOP.out.mono ?_
  rintro e12 v12 ⟨gown, cown, lown, gs12, rfl, hl12, hc12, HS12⟩
  clear HOP HS11 hc12
  have HOP := Lib.hid (HS12.out.equal cown N (.head _) (.tail _ (.tail _ (.tail _ (.tail _ (.tail _ (.tail _ (.tail _ (.tail _ (.tail _ (.tail _ (.head _))))))))))) (by omega) (by omega) (by omega))
  go_wp2_with fail
  refine HOP.out.mono ?_
  rintro e13 v13 ⟨ris, gs13, rfl, hl13, hc13, HS13⟩
  clear HOP HS12 hc13
  obtain ⟨x0, x1, x2⟩ := HT.out _ HS13.out.be.1
  go_wp2_with fail
  refine (HBI.out _).mono ?_
  intro e w7 hbt
  obtain ⟨gr, cr, rfl, _, hrd, hb7, _⟩ := hbt.rd
  have hs7 := HS13.out.below hb7
  have HS7 := Lib.hid hs7
  have HRD := Lib.hid hrd
  clear hbt hrd hb7 hs7 x0 x1 x2 HS13 HBI
  have hev := HS7.out.eval cr HRD.out [(rsame, fun vals => decide (nB (inB 1 vals) N * (bb + cc) = nB (inB 1 vals) N * bb + nB (inB 1 vals) N * cc)), (ris, fun vals => decide (nB (inB 1 vals) N * 1 = nB (inB 1 vals) N))] (fun x hx => by
    simp only [List.mem_cons, List.not_mem_nil, or_false] at hx
    rcases hx with rfl | rfl
    · exact (.tail _ (.head _))
    · exact (.head _)) (show 2 ≤ 100 by omega) (by omega)
  have HEV : Hid (Calls Try.prog 27 #[.pointer (some ⟨bg, 0, none⟩), .slice (some ⟨gr, 0, none⟩) N cr, .slice (some ⟨w7.heap.size, 0, none⟩) 2 2] (w7.alloc (.cells #[.int .u32 (rsame : Int), .int .u32 (ris : Int)] 25)) fun e w' => ∃ g, e = .returned (.tuple #[.slice (some ⟨g, 0, none⟩) 2 2, .int .i64 0]) ∧ Hid (Below w7.heap.size w7 w') ∧ Hid (∀ W2, Below w'.heap.size w' W2 → W2.cell? ⟨g, 0, none⟩ = some (.bool true) ∧ W2.cell? ⟨g, 1, none⟩ = some (.bool true))) := hev.mono fun e w' ⟨g, q1, q2, q3, q4⟩ => ⟨g, q1, q2, fun W2 hW2 => by
    have z0 := q4.out W2 hW2 0 Nat.zero_lt_two
    have z1 := q4.out W2 hW2 1 Nat.one_lt_two
    rw [z0, z1, q3.out 0 Nat.zero_lt_two, q3.out 1 Nat.one_lt_two]
    exact ⟨congrArg (fun b => some (Value.bool b)) (decide_eq_true (Int.mul_add _ _ _)), congrArg (fun b => some (Value.bool b)) (decide_eq_true (Int.mul_one _))⟩⟩
  clear hev
  go_wp2_with fail
  refine HEV.out.mono ?_
  rintro e w8 ⟨ge, rfl, hb8, HEC⟩
  have hn8 := (HS7.out.below hb8.out).number cself cr (.tail _ (.head _)) (HRD.out.belo hb8.out) (by omega) (by omega)
  have HN8 : Hid (Calls Try.prog 20 #[.pointer (some ⟨bg, 0, none⟩), .slice (some ⟨gr, 0, none⟩) N cr, .slice (some ⟨gself, 0, none⟩) N5 cself] w8 fun e w' => e = .returned (.tuple #[.int .i64 0, .int .i64 0]) ∧ Below w8.heap.size w8 w') := hn8.mono fun e w' ⟨q1, q2⟩ => ⟨by rw [q1, Int.sub_self], q2⟩
  have HBE : Hid (Below w.heap.size w w8) := HBW.out _ (HS7.out.below hb8.out).be.1
  clear hn8 hb8 HEV HS7 HRD
  go_wp2_with fail
  refine HN8.out.mono ?_
  rintro e w9 ⟨rfl, hb9⟩
  obtain ⟨y0, y1⟩ := HEC.out w9 hb9
  have HB9 : Hid (Below w.heap.size w w9) := HBE.out.trans (hb9.mono HBE.out.size)
  clear hb9 HN8 HEC HBE
  go_wp2_with fail
  go_ret
  exact ⟨rfl, HB9.out⟩
set_option maxHeartbeats 800000 in
set_option maxRecDepth 100000 in
theorem lifted (os : Os) (started : os.Started) (H : Type) (enc : TypeId × Value → H) :
    ReturnsInHanded {} Try.checked os 8 .any (Rows.vecRingSpec.pre6 enc Try.prog Try.f8 Rows.vecRingRow.domain false) (Rows.vecRingSpec.post enc Try.prog Try.f8 false true false false) := by
  refine returnsInHanded_of_change (C := Try.checked) own_knob started (by kernel_rfl) Try.func8
    (ChangeSpec.witness6 (enc := enc) (C := Try.checked) false ⟨#[], #[.agg #[.int .i64 0, .int .i64 0, .int .i64 0], .int .i64 0], []⟩ 8 (by kernel_rfl) (by kernel_rfl) (by kernel_rfl) (by kernel_rfl)) ?_
  intro W base args ds gs before hval0 hW _ _
  have hval : ∀ (j : Nat) t v, Try.f8.params[j]? = some t → args[j]? = some v → Value.okWide Try.prog W .any base t v := hval0
  have hW' := hW
  obtain ⟨p, q, hA0, hV, rfl, _, _⟩ := hW
  have hA : DataW.TrodAll enc Try.prog W 0 (fun _ => true) true Try.f8.params.toList args.toList ds p := hA0
  rw [Try.params8] at hA hval
  obtain ⟨v0, v1, d0, d1, p0, p1, rfl, rfl, rfl, h0, h1⟩ := trodAll_two hA
  obtain ⟨rfl, rfl⟩ := trodVars_none hV
  obtain ⟨x0, y0, z0, rfl, hx0, hy0, hz0⟩ := open_w3 (hval 0 54 v0 rfl rfl) h0
  obtain ⟨a1, rfl, rfl, rfl, w1⟩ := open_int Try.underlying3 (hval 1 3 v1 rfl rfl) h1
  clear hA0 hval0
  simp only [List.append_nil] at hW'
  have hlt0 : ∀ y ∈ p0, y.block < W.heap.size := fun y hy => by simpa using hW'.lt y (by simp [hy])
  refine (walk x0 y0 z0 a1 hx0 hy0 hz0 (bounds_i64 w1) W).mono fun e W' ⟨he, hB⟩ => ?_
  subst he
  exact ⟨_, rfl, _, _, _, [], _, [], hW', trodAll_mk1 (shut_bool Try.underlying4 true), trodAll_mk2 (Below.trod laid_out (by kernel_rfl) (of_decide_eq_true (by kernel_rfl)) h0 hB hlt0) (shut_int Try.underlying3 w1), rfl, hB.frame _, fun h => by cases h⟩

theorem proved : Rows.VecRingSaid :=
  OpenClaim.holds_of_wide 8 Try.f8 rfl rfl rfl rfl rfl rfl rfl ⟨rfl, rfl, rfl, rfl, rfl⟩ rfl rfl rfl rfl rfl (by kernel_rfl) Try.func8 (by kernel_rfl)
    (of_decide_eq_true (by kernel_rfl)) (by unfold Func.isWrapper; first | (rw [if_pos (by decide +kernel)]; kernel_rfl) | (rw [if_neg (by decide +kernel)]; exact ⟨rfl, rfl⟩))
    (fun os started H enc _ => lifted os started H enc)
end Go.Proofs.Ytelpoocgmflofaa.VRing
namespace Go.Proofs.Ytelpoocgmflofaa
theorem vecRing_holds : Rows.VecRingSaid := VRing.proved
#print axioms vecRing_holds
end Go.Proofs.Ytelpoocgmflofaa
