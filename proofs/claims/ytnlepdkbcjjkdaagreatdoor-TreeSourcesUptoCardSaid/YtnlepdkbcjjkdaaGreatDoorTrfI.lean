/- The plain answer of layer 14: rule. -/
import Derived.Test.YtnlepdkbcjjkdaaGreatDoorTrfH
namespace Go.Proofs.YtnlepdkbcjjkdaaGreatDoor
open Go.RowKit TreM WrdM

theorem exc_form {W : World} {X : Ex} {cs : List Value} (h : ExC W X cs) : ∃ (o n : Int) (sb : ByteArray) (A : Option Addr) (m cap : Nat) (l c : Int), cs = [.int .i64 o, .int .i64 n, .string sb, .slice A m cap, .int .i64 l, .int .i64 c] := by
  cases X with
  | mk o n s ks l c =>
    rw [ExC] at h
    obtain ⟨A, cap, rfl, _⟩ := h
    exact ⟨_, _, _, _, _, _, _, _, rfl⟩
theorem cells9 {w : World} {g : Nat} {a b c d e f i j k : Value} {t : TypeId} {q : Nat × Nat} (h : w.heap[g]? = some (.cells #[a, b, c, d, e, f, i, j, k] t q)) :
    w.cell? ⟨g, 0, none⟩ = some a ∧ w.cell? ⟨g, 1, none⟩ = some b ∧ w.cell? ⟨g, 2, none⟩ = some c ∧ w.cell? ⟨g, 3, none⟩ = some d ∧ w.cell? ⟨g, 4, none⟩ = some e ∧ w.cell? ⟨g, 5, none⟩ = some f ∧ w.cell? ⟨g, 6, none⟩ = some i ∧ w.cell? ⟨g, 7, none⟩ = some j ∧ w.cell? ⟨g, 8, none⟩ = some k := by
  refine ⟨?_, ?_, ?_, ?_, ?_, ?_, ?_, ?_, ?_⟩ <;> (rw [Lib.cell_of_heap h]; rfl)
theorem joinM_take (xs : List Asg) (k : Nat) (x : Asg) (h : xs[k]? = some x) : joinC ((xs.take (k + 1)).map asgT) = (if 0 < k then joinC ((xs.take k).map asgT) ++ [44, 32] ++ asgT x else asgT x) := by
  have := joinC_take (xs.map asgT) k (asgT x) (by rw [List.getElem?_map, h]; rfl)
  rwa [← List.map_take, ← List.map_take] at this
theorem joinM_le (xs : List Asg) (hx : ∀ x ∈ xs, (asgT x).length + 2 ≤ 64 * wtA x) (k : Nat) : (joinC ((xs.take k).map asgT)).length ≤ 64 * (xs.map wtA).sum := by
  have h1 := joinC_le (xs.map asgT) k
  rw [← List.map_take] at h1
  have h2 := join_len asgT wtA 64 xs hx
  omega
theorem asg_len (a : Asg) (h : asgB a = true) : (asgT a).length + 2 ≤ 64 * wtA a := by
  unfold asgB at h
  rw [Bool.and_eq_true] at h
  have := text_len a.to_ (writ_shape h.2)
  unfold asgT wtA
  simp only [List.length_append, List.length_cons, List.length_nil]; omega

set_option maxHeartbeats 1600000 in
set_option maxRecDepth 100000 in
theorem prule_any (r : Rul) (cs : List Value) (w : World) (h : RulC w r cs) (hw : wtR r ≤ 1048576) : Calls Tryz.prog 28 #[.agg cs.toArray] w fun x w' => x = .returned (lineV (ruleB r) (ruleT r)) ∧ Below w.heap.size w w' := by
  obtain ⟨ys, v, hy6, rfl, hX, A, cap, rfl, hmc, hcap, hA⟩ := h
  obtain ⟨X, ds⟩ := r
  dsimp only at hX hmc hA
  unfold wtR at hw
  dsimp only at hw
  have hT : ruleT ⟨X, ds⟩ = [32, 32, 119, 104, 101, 110, 32] ++ text X ++ [32, 100, 111, 32] ++ joinC (ds.map asgT) ++ [59, 10] := rfl
  have hE : ruleB ⟨X, ds⟩ = (writB X && (decide (1 ≤ ds.length) && (decide (ds.length ≤ 32) && ds.all asgB))) := rfl
  rw [hT, hE]
  have hEV : ExV w X (.agg ys.toArray) := ⟨ys, rfl, hX⟩
  obtain ⟨vo, vn, vs, va, vm, vk, vl, vc, rfl⟩ := exc_form hX
  obtain ⟨wa, hwa⟩ : ∃ wa, wa = w.alloc (.cells #[.int .i64 vo, .int .i64 vn, .string vs, .slice va vm vk, .int .i64 vl, .int .i64 vc, .slice A ds.length cap] 76) := ⟨_, rfl⟩
  have hba : Below w.heap.size w wa := by rw [hwa]; exact below_alloc w _
  have hga : wa.heap[w.heap.size]? = some (.cells #[.int .i64 vo, .int .i64 vn, .string vs, .slice va vm vk, .int .i64 vl, .int .i64 vc, .slice A ds.length cap] 76) := by rw [hwa]; exact blk_new w _
  have hlt : w.heap.size < wa.heap.size := by rw [hwa]; simp
  have hsz : size X ≤ 4611686018427387904 := by have := size_wt X; omega
  have HWR := Lib.hid (pwritable_any X _ wa (hEV.below hba) hsz)
  have HTX : Hid (writB X = true → ∀ W, Below wa.heap.size wa W → Calls Tryz.prog 61 #[.agg #[.int .i64 vo, .int .i64 vn, .string vs, .slice va vm vk, .int .i64 vl, .int .i64 vc]] W fun e w' => e = .returned (.string ⟨(text X).toArray⟩) ∧ Below W.heap.size W w') := fun hwr W hW =>
    ptext_any X (writ_shape hwr) (by have := writ_len hwr (by omega); omega) _ W (hEV.below (hba.trans (hW.mono hba.size)))
  have HTL : Hid (writB X = true → (text X).length ≤ 140737488355328) := fun hwr => writ_len hwr (by omega)
  have HPN : Hid (∀ x : List UInt8, x.length ≤ 9223372036854775807 → ∀ W, Calls Tryz.prog 27 #[.string ⟨x.toArray⟩] W fun e w' => e = .returned (.bool (nameB x)) ∧ Below W.heap.size W w') := fun x hx W => pname_any x W hx
  have HC : Hid (∀ W, Below wa.heap.size wa W → W.heap[w.heap.size]? = some (.cells #[.int .i64 vo, .int .i64 vn, .string vs, .slice va vm vk, .int .i64 vl, .int .i64 vc, .slice A ds.length cap] 76)) := fun W hW => (hW.block _ hlt).trans hga
  have HK : Hid (SlAt wa (AsgC wa) 9 A ds) := hA.below hba fun x _ cs h => h.below hba
  have HDW : Hid (∀ x ∈ ds, wtA x ≤ 1048576) := fun x hx => by have := sum_mem wtA ds x hx; omega
  have HDS : Hid (64 * (ds.map wtA).sum ≤ 67108864) := by unfold Hid; omega
  have HGE : Hid (∀ k, k < ds.length → ∃ x, ds[k]? = some x) := fun k hk => get_el hk
  have HJT : Hid (∀ k x, ds[k]? = some x → joinC ((ds.take (k + 1)).map asgT) = (if 0 < k then joinC ((ds.take k).map asgT) ++ [44, 32] ++ asgT x else asgT x)) := joinM_take ds
  have HBA := Lib.hid hba
  obtain ⟨c0, c1, c2, c3, c4, c5, c6⟩ := cells7 hga
  have HWA := Lib.hid hwa
  obtain ⟨m, hm⟩ : ∃ m, m = ds.length := ⟨_, rfl⟩
  have HM := Lib.hid hm
  dsimp only
  rw [← hm] at hmc HC HGE HWA c6 ⊢
  clear hA hE hT hba hga hwa hm hlt hsz hEV hX hw
  obtain ⟨P, hP⟩ : ∃ P, P = [32, 32, 119, 104, 101, 110, 32] ++ text X := ⟨_, rfl⟩
  obtain ⟨P2, hP2⟩ : ∃ P2, P2 = P ++ [32, 100, 111, 32] := ⟨_, rfl⟩
  rw [show [32, 32, 119, 104, 101, 110, 32] ++ text X ++ [32, 100, 111, 32] = P2 from by rw [hP2, hP]]
  have HP := Lib.hid hP
  have HP2 := Lib.hid hP2
  clear hP hP2
  generalize text X = tx at *
  generalize writB X = wx at *
  go_enter Tryz.func28, Tryz.ntmps28
  go_upto_region 1 with (fail)
  have hwa := HWA.out
  rw [← hwa]
  clear hwa HWA
  go_wp2_with fail
  refine HWR.out.mono ?_
  rintro x w1 ⟨rfl, hB1⟩
  have HB1 := Lib.hid hB1
  clear c0 c1 c2 c3 c4 c5 c6 HWR
  obtain ⟨c0, c1, c2, c3, c4, c5, c6⟩ := cells7 (HC.out w1 hB1)
  clear hB1
  rcases wx with _ | _
  · go_wp2_with fail
    go_ret2
    exact ⟨rfl, HBA.out.trans (HB1.out.mono HBA.out.size)⟩
  have HTX1 := Lib.hid (HTX.out rfl w1 HB1.out)
  have htl := HTL.out rfl
  clear HTX HTL
  by_cases h1 : m < 1
  · have t1 : decide ((m : Int) < 1) = true := decide_eq_true (by omega)
    have t2 : decide (m < 1) = true := decide_eq_true h1
    have H3 : Hid (decide (1 ≤ m) = false) := decide_eq_false (by omega)
    go_wp2_with fail
    go_ret2
    exact ⟨by rw [H3.out]; rfl, HBA.out.trans (HB1.out.mono HBA.out.size)⟩
  have t1 : decide ((m : Int) < 1) = false := decide_eq_false (by omega)
  have t1' : decide (m < 1) = false := decide_eq_false h1
  have HD1 : Hid (decide (1 ≤ m) = true) := decide_eq_true (by omega)
  by_cases h32 : 32 < m
  · have t3 : decide (32 < (m : Int)) = true := decide_eq_true (by omega)
    have t3' : decide (32 < m) = true := decide_eq_true h32
    have H3 : Hid (decide (m ≤ 32) = false) := decide_eq_false (by omega)
    go_wp2_with fail
    go_ret2
    exact ⟨by rw [H3.out, HD1.out]; rfl, HBA.out.trans (HB1.out.mono HBA.out.size)⟩
  have t3 : decide (32 < (m : Int)) = false := decide_eq_false (by omega)
  have t3' : decide (32 < m) = false := decide_eq_false h32
  have HD2 : Hid (decide (m ≤ 32) = true) := decide_eq_true (by omega)
  have hP := HP.out
  have hP2 := HP2.out
  have hlP : P.length = tx.length + 7 := by rw [hP, List.length_append]; simp only [List.length_cons, List.length_nil]; omega
  have hlP2 : P2.length = tx.length + 11 := by rw [hP2, List.length_append]; simp only [List.length_cons, List.length_nil]; omega
  have ha1 := fun W => add_lists [32, 32, 119, 104, 101, 110, 32] tx P #[32, 32, 119, 104, 101, 110, 32] tx.toArray rfl rfl hP (by simp; omega) W
  have ha2 := fun W => add_lists P [32, 100, 111, 32] P2 P.toArray #[32, 100, 111, 32] rfl rfl hP2 (by simp; omega) W
  have hP2l : P2.length ≤ 140737488355339 := by omega
  clear hP hP2 HP HP2 hlP hlP2 htl
  go_wp2_with fail
  refine HTX1.out.mono ?_
  rintro x w2 ⟨rfl, hB2⟩
  have HB2 := Lib.hid (HB1.out.trans (hB2.mono HB1.out.size))
  clear c0 c1 c2 c3 c4 c5 c6 HTX1 hB2
  obtain ⟨c0, c1, c2, c3, c4, c5, c6⟩ := cells7 (HC.out w2 HB2.out)
  go_wp2_with fail
  go_loopw [4, 31] (fun out i wr => ∃ k : Nat, k ≤ m ∧ out = .string ⟨(P2 ++ joinC ((ds.take k).map asgT)).toArray⟩ ∧ i = .int .i64 k ∧ Hid (Below wa.heap.size wa wr) ∧ Hid (∀ j x, j < k → ds[j]? = some x → asgB x = true)) (fun _ i _ => m - (intOf i).toNat)
  case atStart => exact ⟨0, Nat.zero_le _, by simp [joinC], rfl, HB2.out, fun j x hj => absurd hj (by omega)⟩
  case round =>
    clear c0 c1 c2 c3 c4 c5 c6 ha1 ha2
    obtain ⟨k, hk, rfl, rfl, HW, HA⟩ := hrel
    by_cases hlt : k < m
    · have t1 : decide ((k : Int) < (m : Int)) = true := decide_eq_true (by omega)
      have t2 : decide (k < m) = true := decide_eq_true hlt
      obtain ⟨x, hx⟩ := HGE.out k hlt
      rcases HK.out with hK | ⟨b', p', rfl, hb', hk'⟩
      · exfalso; rw [hK] at hx; simp at hx
      obtain ⟨cs, hl9, hc, hAs⟩ := hk' k x hx
      obtain ⟨zs, al, ac, hz6, rfl, hxl, hZ⟩ := hAs
      obtain ⟨xn, xt⟩ := x
      dsimp only at hxl hZ hc
      have hZV : ExV wa xt (.agg zs.toArray) := ⟨zs, rfl, hZ⟩
      obtain ⟨qo, qn, qs, qa, qm, qk, ql, qc, rfl⟩ := exc_form hZ
      have hcell : ∀ (i : Nat) (v : Value), (.string ⟨xn.toArray⟩ :: ([.int .i64 qo, .int .i64 qn, .string qs, .slice qa qm qk, .int .i64 ql, .int .i64 qc] ++ [.int .i64 al, .int .i64 ac]) : List Value)[i]? = some v → wr.cell? ⟨b', p' + k * 9 + i, none⟩ = some v := fun i v hv => by
        rw [HW.out.cell (p := ⟨b', p' + k * 9 + i, none⟩) hb']; exact hc i v hv
      have c0 := hcell 0 _ rfl
      have c1 := hcell 1 _ rfl
      have c2 := hcell 2 _ rfl
      have c3 := hcell 3 _ rfl
      have c4 := hcell 4 _ rfl
      have c5 := hcell 5 _ rfl
      have c6 := hcell 6 _ rfl
      have c7 := hcell 7 _ rfl
      have c8 := hcell 8 _ rfl
      rw [Nat.add_zero] at c0
      obtain ⟨wx, hwx⟩ : ∃ wx, wx = wr.alloc (.cells #[.string ⟨xn.toArray⟩, .int .i64 qo, .int .i64 qn, .string qs, .slice qa qm qk, .int .i64 ql, .int .i64 qc, .int .i64 al, .int .i64 ac] 105) := ⟨_, rfl⟩
      have hal : Below wr.heap.size wr wx := by rw [hwx]; exact below_alloc wr _
      have hgx : wx.heap[wr.heap.size]? = some (.cells #[.string ⟨xn.toArray⟩, .int .i64 qo, .int .i64 qn, .string qs, .slice qa qm qk, .int .i64 ql, .int .i64 qc, .int .i64 al, .int .i64 ac] 105) := by rw [hwx]; exact blk_new wr _
      have hltx : wr.heap.size < wx.heap.size := by rw [hwx]; simp
      have HCX : Hid (∀ W, Below wx.heap.size wx W → W.heap[wr.heap.size]? = some (.cells #[.string ⟨xn.toArray⟩, .int .i64 qo, .int .i64 qn, .string qs, .slice qa qm qk, .int .i64 ql, .int .i64 qc, .int .i64 al, .int .i64 ac] 105)) := fun W hW => (hW.block _ hltx).trans hgx
      have hmem := List.mem_of_getElem? hx
      have hwt := HDW.out _ hmem
      unfold wtA at hwt
      dsimp only at hwt
      have hZw : ∀ W, Below wx.heap.size wx W → ExV W xt (.agg #[.int .i64 qo, .int .i64 qn, .string qs, .slice qa qm qk, .int .i64 ql, .int .i64 qc]) := fun W hW => hZV.below (HW.out.trans ((hal.trans (hW.mono hal.size)).mono HW.out.size))
      have HNX := Lib.hid (HPN.out xn hxl wx)
      have HWX : Hid (∀ W, Below wx.heap.size wx W → Calls Tryz.prog 60 #[.agg #[.int .i64 qo, .int .i64 qn, .string qs, .slice qa qm qk, .int .i64 ql, .int .i64 qc]] W fun e w' => e = .returned (.bool (writB xt)) ∧ Below W.heap.size W w') := fun W hW => pwritable_any xt _ W (hZw W hW) (by have := size_wt xt; omega)
      have HTX : Hid (writB xt = true → ∀ W, Below wx.heap.size wx W → ∀ dq os, Calls Tryz.prog 61 #[.agg #[.int .i64 qo, .int .i64 qn, .string qs, .slice qa qm qk, .int .i64 ql, .int .i64 qc]] (Go.Sort.grow (redrawn W dq) os) fun e w' => e = .returned (.string ⟨(text xt).toArray⟩) ∧ ∃ p : Regrown, w' = Go.Sort.grow (redrawn W p.d) p.os) := fun hwr W hW dq os =>
        Calls.regrown_of (ptext_any xt (writ_shape hwr) (by have := writ_len hwr (by omega); omega) _ _ ((hZw W hW).below (below_regrown W dq os)))
      have HTL : Hid (writB xt = true → (text xt).length ≤ 140737488355328) := fun hwr => writ_len hwr (by omega)
      have HAL : Hid (asgB ⟨xn, xt⟩ = (nameB xn && writB xt)) := rfl
      have HAT : Hid (asgT ⟨xn, xt⟩ = xn ++ [32, 58, 61, 32] ++ text xt) := rfl
      have HJX := Lib.hid (HJT.out k _ hx)
      have HX := Lib.hid hx
      have HBW := Lib.hid (HW.out.trans (hal.mono HW.out.size))
      have HWXE := Lib.hid hwx
      obtain ⟨s0, s1, s2, s3, s4, s5, s6, s7, s8⟩ := cells9 hgx
      have HJB : Hid ((joinC ((ds.take k).map asgT)).length ≤ 67108864) := by
        unfold Hid
        have h1 : ∀ y ∈ ds.take k, (asgT y).length + 2 ≤ 64 * wtA y := fun y hy => by
          obtain ⟨j, hj⟩ := List.getElem?_of_mem hy
          have hjk : j < k := by
            rcases Nat.lt_or_ge j k with h | h
            · exact h
            · rw [List.getElem?_eq_none (by have := List.length_take_le k ds; omega)] at hj; cases hj
          rw [List.getElem?_take_of_lt hjk] at hj
          exact asg_len y (HA.out j y hjk hj)
        have h2 := joinM_le (ds.take k) h1 k
        rw [List.take_take, Nat.min_self] at h2
        have h3 : ((ds.take k).map wtA).sum ≤ (ds.map wtA).sum := by
          have : (ds.map wtA).sum = ((ds.take k).map wtA).sum + ((ds.drop k).map wtA).sum := by rw [← List.sum_append, ← List.map_append, List.take_append_drop]
          omega
        have h4 := HDS.out
        omega
      have hjb := HJB.out
      obtain ⟨Q, hQ⟩ : ∃ Q, Q = P2 ++ joinC ((ds.take k).map asgT) := ⟨_, rfl⟩
      have hq : Q.length = P2.length + (joinC ((ds.take k).map asgT)).length := by rw [hQ]; simp
      have HQ := Lib.hid hQ
      rw [← hQ]
      clear hx hk' hc hQ hcell hZV hZ hal hgx hltx hwx hmem hZw HJB
      rcases hrn : nameB xn with _ | _
      · rw [hrn] at HNX HAL
        have HF : Hid (ds.all asgB = false) := by
          unfold Hid
          rw [Bool.eq_false_iff]
          intro e
          have := List.all_eq_true.1 e _ (List.mem_of_getElem? HX.out)
          rw [HAL.out] at this
          cases this
        have HNX := Lib.hid HNX.out
        clear hrn hwt hq hjb
        generalize (⟨xn.toArray⟩ : ByteArray) = xnb at *
        go_upto_region 7 with (fail)
        have hwx := HWXE.out
        rw [← hwx]
        clear hwx HWXE
        go_wp2_with (refine HNX.out.mono ?_; rintro e w' ⟨rfl, hB2⟩)
        go_ret2
        exact ⟨by rw [HF.out, Bool.and_false, Bool.and_false, Bool.and_false]; rfl, HBA.out.trans ((HBW.out.trans (hB2.mono HBW.out.size)).mono HBA.out.size)⟩
      rw [hrn] at HNX HAL
      have HNX := Lib.hid HNX.out
      clear hrn
      rcases hrw : writB xt with _ | _
      · rw [hrw] at HWX HAL
        have HF : Hid (ds.all asgB = false) := by
          unfold Hid
          rw [Bool.eq_false_iff]
          intro e
          have := List.all_eq_true.1 e _ (List.mem_of_getElem? HX.out)
          rw [HAL.out] at this
          cases this
        have HWX := Lib.hid HWX.out
        clear hrw hwt hq hjb
        generalize (⟨xn.toArray⟩ : ByteArray) = xnb at *
        go_upto_region 7 with (fail)
        have hwx := HWXE.out
        rw [← hwx]
        clear hwx HWXE
        go_wp2_with fail
        refine HNX.out.mono ?_
        rintro e w3 ⟨rfl, hB3⟩
        have HWX3 := Lib.hid (HWX.out w3 hB3)
        have HB3 := Lib.hid hB3
        clear c0 c1 c2 c3 c4 c5 c6 c7 c8 s0 s1 s2 s3 s4 s5 s6 s7 s8
        obtain ⟨c0, c1, c2, c3, c4, c5, c6, c7, c8⟩ := cells9 (HCX.out w3 hB3)
        clear hB3 HWX HNX
        go_wp2_with (refine HWX3.out.mono ?_; rintro e w' ⟨rfl, hB2⟩)
        go_ret2
        exact ⟨by rw [HF.out, Bool.and_false, Bool.and_false, Bool.and_false]; rfl, HBA.out.trans ((HBW.out.trans ((HB3.out.trans (hB2.mono HB3.out.size)).mono HBW.out.size)).mono HBA.out.size)⟩
      rw [hrw] at HWX HAL
      have HWX := Lib.hid HWX.out
      have HTX := Lib.hid (HTX.out hrw)
      have hxt := HTL.out hrw
      clear hrw HTL
      obtain ⟨U1, hU1⟩ : ∃ U, U = xn ++ [32, 58, 61, 32] := ⟨_, rfl⟩
      obtain ⟨U2, hU2⟩ : ∃ U, U = U1 ++ text xt := ⟨_, rfl⟩
      have hu1 : U1.length = xn.length + 4 := by rw [hU1]; simp
      have hu2 : U2.length = U1.length + (text xt).length := by rw [hU2]; simp
      have hg1 := fun W => add_lists xn [32, 58, 61, 32] U1 xn.toArray #[32, 58, 61, 32] rfl rfl hU1 (by simp; omega) W
      have hg2 := fun W => add_lists U1 (text xt) U2 U1.toArray (text xt).toArray rfl rfl hU2 (by omega) W
      have HUA : Hid (asgT ⟨xn, xt⟩ = U2) := by unfold Hid; rw [HAT.out, hU2, hU1]
      obtain ⟨QB, hQB⟩ : ∃ Q0, Q0 = (if 0 < k then Q ++ [44, 32] else Q) := ⟨_, rfl⟩
      obtain ⟨Q2, hQ2⟩ : ∃ Q2, Q2 = QB ++ U2 := ⟨_, rfl⟩
      have hqb : QB.length ≤ Q.length + 2 := by rw [hQB]; split <;> simp
      have hb0 := fun W => add_lists Q [44, 32] (Q ++ [44, 32]) Q.toArray #[44, 32] rfl rfl rfl (by simp; omega) W
      have hb2 := fun W => add_lists QB U2 Q2 QB.toArray U2.toArray rfl rfl hQ2 (by omega) W
      have HE2 : Hid (Q2 = P2 ++ joinC ((ds.take (k + 1)).map asgT)) := by
        unfold Hid
        rw [HJX.out, hQ2, hQB, HUA.out]
        by_cases h : 0 < k
        · rw [if_pos h, if_pos h, HQ.out]; simp
        · rw [if_neg h, if_neg h, HQ.out, show k = 0 by omega]; simp [joinC]
      have HQB : Hid (if 0 < k then Q ++ [44, 32] = QB else Q = QB) := by unfold Hid; split <;> rename_i h <;> (rw [hQB]; simp [h])
      clear hU1 hU2 hu1 hu2 hQB hQ2 hqb hq hjb hwt hxt HAT HUA HJX
      generalize text xt = tt at *
      generalize xn.toArray = xnb at *
      go_upto_region 7 with (fail)
      have hwx := HWXE.out
      rw [← hwx]
      clear hwx HWXE
      go_wp2_with fail
      refine HNX.out.mono ?_
      rintro e w3 ⟨rfl, hB3⟩
      have HWX3 := Lib.hid (HWX.out w3 hB3)
      have HB3 := Lib.hid hB3
      clear c0 c1 c2 c3 c4 c5 c6 c7 c8 s0 s1 s2 s3 s4 s5 s6 s7 s8
      obtain ⟨c0, c1, c2, c3, c4, c5, c6, c7, c8⟩ := cells9 (HCX.out w3 hB3)
      clear hB3 HWX HNX
      go_wp2_with fail
      refine HWX3.out.mono ?_
      rintro e w4 ⟨rfl, hB4⟩
      have HB4 := Lib.hid (HB3.out.trans (hB4.mono HB3.out.size))
      have HTX4 := Lib.hid (HTX.out w4 HB4.out)
      clear c0 c1 c2 c3 c4 c5 c6 c7 c8 hB4 HB3 HTX HWX3
      obtain ⟨c0, c1, c2, c3, c4, c5, c6, c7, c8⟩ := cells9 (HCX.out w4 HB4.out)
      have c0' := cell_regrown c0
      have c1' := cell_regrown c1
      have c2' := cell_regrown c2
      have c3' := cell_regrown c3
      have c4' := cell_regrown c4
      have c5' := cell_regrown c5
      have c6' := cell_regrown c6
      have HAX : Hid (∀ j y, j < k + 1 → ds[j]? = some y → asgB y = true) := fun j y hj hy => by
        by_cases e : j = k
        · subst e
          have := HX.out.symm.trans hy
          injection this with this
          rw [← this]; exact HAL.out
        · exact HA.out j y (by omega) hy
      clear HA HX HAL
      by_cases hk0 : 0 < k
      · have t4 : decide ((0 : Int) < (k : Int)) = true := decide_eq_true (by omega)
        have t5 : decide (0 < k) = true := decide_eq_true hk0
        have hqe : Q ++ [44, 32] = QB := by have := HQB.out; rwa [if_pos hk0] at this
        rw [hqe] at hb0
        clear hqe HQB HQ
        go_upto_region 11 with (fail)
        refine wp_region_quiet_below (by kernel_rfl) (by kernel_rfl) (WQ.out ?_)
        refine quiet_take (by kernel_rfl) (fun K hK => ?_); go_simp; refine hK _ ?_; clear hK K
        refine quiet_take (by kernel_rfl) (fun K hK => ?_); go_simp; refine hK _ ?_; clear hK K
        refine quiet_take (by kernel_rfl) (fun K hK => ?_); go_simp; refine hK _ ?_; clear hK K
        refine quiet_take (by kernel_rfl) (fun K hK => ?_); go_simp; refine hK _ ?_; clear hK K
        refine quiet_take (by kernel_rfl) (fun K hK => ?_); go_simp; refine hK _ ?_; clear hK K
        refine quiet_take (by kernel_rfl) (fun K hK => ?_); go_simp; refine hK _ ?_; clear hK K
        refine quiet_take (by kernel_rfl) (fun K hK => ?_); go_simp; apply Exists.intro; refine ⟨fun _ => ?_, hK _ ?_⟩; (go_at_call 61; exact HTX4.out _ _); clear hK K
        refine quiet_take (by kernel_rfl) (fun K hK => ?_); go_simp; refine hK _ ?_; clear hK K
        refine quiet_take (by kernel_rfl) (fun K hK => ?_); go_simp; refine hK _ ?_; clear hK K
        refine quiet_take (by kernel_rfl) (fun K hK => ?_); go_simp; refine hK _ ?_; clear hK K
        refine ⟨wpQuiet_nil ?_⟩
        intro w7 hw'
        have hbw7 : Below w4.heap.size w4 w7 := by obtain ⟨⟨dq, osq⟩, hw''⟩ := hw'; rw [hw'']; exact below_regrown w4 dq osq
        clear hw'
        go_wp2_with fail
        go_roundw
        case rel => exact ⟨k + 1, by omega, by rw [← HE2.out], by go_num, HBW.out.trans ((HB4.out.trans (hbw7.mono HB4.out.size)).mono HBW.out.size), HAX⟩
        case measure => simp [intOf]; omega
      · have t4 : decide ((0 : Int) < (k : Int)) = false := decide_eq_false (by omega)
        have t5 : decide (0 < k) = false := decide_eq_false hk0
        have hqe : Q = QB := by have := HQB.out; rwa [if_neg hk0] at this
        subst hqe
        clear hb0 HQB HQ
        go_upto_region 11 with (fail)
        refine wp_region_quiet_below (by kernel_rfl) (by kernel_rfl) (WQ.out ?_)
        refine quiet_take (by kernel_rfl) (fun K hK => ?_); go_simp; refine hK _ ?_; clear hK K
        refine quiet_take (by kernel_rfl) (fun K hK => ?_); go_simp; refine hK _ ?_; clear hK K
        refine quiet_take (by kernel_rfl) (fun K hK => ?_); go_simp; refine hK _ ?_; clear hK K
        refine quiet_take (by kernel_rfl) (fun K hK => ?_); go_simp; refine hK _ ?_; clear hK K
        refine quiet_take (by kernel_rfl) (fun K hK => ?_); go_simp; refine hK _ ?_; clear hK K
        refine quiet_take (by kernel_rfl) (fun K hK => ?_); go_simp; refine hK _ ?_; clear hK K
        refine quiet_take (by kernel_rfl) (fun K hK => ?_); go_simp; apply Exists.intro; refine ⟨fun _ => ?_, hK _ ?_⟩; (go_at_call 61; exact HTX4.out _ _); clear hK K
        refine quiet_take (by kernel_rfl) (fun K hK => ?_); go_simp; refine hK _ ?_; clear hK K
        refine quiet_take (by kernel_rfl) (fun K hK => ?_); go_simp; refine hK _ ?_; clear hK K
        refine quiet_take (by kernel_rfl) (fun K hK => ?_); go_simp; refine hK _ ?_; clear hK K
        refine ⟨wpQuiet_nil ?_⟩
        intro w7 hw'
        have hbw7 : Below w4.heap.size w4 w7 := by obtain ⟨⟨dq, osq⟩, hw''⟩ := hw'; rw [hw'']; exact below_regrown w4 dq osq
        clear hw'
        go_wp2_with fail
        go_roundw
        case rel => exact ⟨k + 1, by omega, by rw [← HE2.out], by go_num, HBW.out.trans ((HB4.out.trans (hbw7.mono HB4.out.size)).mono HBW.out.size), HAX⟩
        case measure => simp [intOf]; omega
    · have t1 : decide ((k : Int) < (m : Int)) = false := decide_eq_false (by omega)
      have t2 : decide (k < m) = false := decide_eq_false hlt
      have hall : ds.all asgB = true := List.all_eq_true.2 fun y hy => by
        obtain ⟨j, hj⟩ := List.getElem?_of_mem hy
        exact HA.out j y (by
          have := HM.out
          rcases Nat.lt_or_ge j ds.length with h' | h'
          · omega
          · rw [List.getElem?_eq_none h'] at hj; cases hj) hj
      have hkv : ds.take k = ds := List.take_of_length_le (by have := HM.out; omega)
      have hjb : (joinC (ds.map asgT)).length ≤ 67108864 := by
        have h2 := join_len asgT wtA 64 ds fun y hy => asg_len y (List.all_eq_true.1 hall y hy)
        have h4 := HDS.out
        omega
      rw [hkv]
      obtain ⟨Q, hQ⟩ : ∃ Q, Q = P2 ++ joinC (ds.map asgT) := ⟨_, rfl⟩
      obtain ⟨Q2, hQ2⟩ : ∃ Q2, Q2 = Q ++ [59, 10] := ⟨_, rfl⟩
      have hq : Q.length = P2.length + (joinC (ds.map asgT)).length := by rw [hQ]; simp
      have hb1 := fun W => add_lists Q [59, 10] Q2 Q.toArray #[59, 10] rfl rfl hQ2 (by simp; omega) W
      have HE2 : Hid (P2 ++ joinC (ds.map asgT) ++ [59, 10] = Q2) := by unfold Hid; rw [hQ2, hQ]
      have HAll := Lib.hid hall
      rw [← hQ]
      clear hall hkv hjb hQ hQ2 hq HA HJT
      go_wp2_with fail
      go_ret2
      exact ⟨by rw [HE2.out, HAll.out, HD1.out, HD2.out]; rfl, HBA.out.trans (HW.out.mono HBA.out.size)⟩
end Go.Proofs.YtnlepdkbcjjkdaaGreatDoor
