/- The plain answer's Known and Fits: contracts; what follows of two clauses. -/
import Derived.Test.YtmegplcepcacgaaGreatHandD
import Derived.Test.YtmegplcepcacgaaGreatRefR
import Derived.Laws.AppendOwnNone
namespace Go.Proofs.YtmegplcepcacgaaGreat
open Go.RowKit LitM TrailM EngM CnfP

set_option maxHeartbeats 3200000 in
set_option maxRecDepth 100000 in
theorem known_any (v : Int) (A : Option Addr) (n c : Nat) (xs : List Int) (w : World) (hr : Rd .i32 w w.heap.size A n xs) (h32 : In32 xs) (hn : n ≤ 9223372036854775807) :
    Calls Tryz.prog 26 #[.int .i64 v, .slice A n c] w fun e w' => e = .returned (.bool (clauseB v xs)) ∧ w = w' := by
  have HR := Lib.hid hr
  have H32 := Lib.hid h32
  have HL := Lib.hid hr.len
  clear hr h32
  go_enter Tryz.func26, Tryz.ntmps26
  go_wp2_with fail
  go_loopw [9] (fun u wr => ∃ k : Nat, u = .int .i64 (k : Int) ∧ k ≤ n ∧ Hid (∀ j, j < k → litB v (xs.getD j 0) = true) ∧ w = wr) (fun u _ => n - (intOf u).toNat)
  case atStart => exact ⟨0, rfl, by omega, Lib.hid (fun j hj => by omega), rfl⟩
  case round =>
    obtain ⟨k, rfl, hk, hall, rfl⟩ := hrel
    by_cases hlt : k < n
    · have tk : decide ((k : Int) < (n : Int)) = true := decide_eq_true (by omega)
      have tk2 : decide (k < n) = true := decide_eq_true hlt
      obtain ⟨g, o, hA, hg, hc⟩ := HR.out.get hlt
      subst hA
      have hx : -2147483648 ≤ xs.getD k 0 ∧ xs.getD k 0 ≤ 2147483647 := H32.out k
      have HO := Lib.hid (fun W : World => rone_any (xs.getD k 0) W)
      have HV := Lib.hid (fun W : World => rvar_any (xs.getD k 0) W hx.1 hx.2)
      have HLB : Hid (litB v (xs.getD k 0) = (LitM.one (xs.getD k 0) && decide (varZ (xs.getD k 0) ≤ v))) := rfl
      have HBad : Hid (litB v (xs.getD k 0) = false → clauseB v xs = false) := fun e => litB_bad (v := v) (c := xs) (j := k) (by rw [HL.out]; exact hlt) e
      have HGood : Hid (litB v (xs.getD k 0) = true → ∀ j, j < k + 1 → litB v (xs.getD j 0) = true) := fun e j hj => by
        by_cases q : j < k
        · exact hall.out j q
        · obtain rfl : j = k := by omega
          exact e
      clear hx hall
      generalize xs.getD k 0 = x at *
      generalize LitM.one x = b at *
      generalize varZ x = z at *
      cases b with
      | false =>
        have HNo : Hid (clauseB v xs = false) := HBad.out (by rw [HLB.out]; rfl)
        clear HBad HGood HLB
        go_wp2_with fail
        refine (HO.out _).mono ?_
        rintro e w' ⟨rfl, rfl⟩
        go_wp2_with fail
        go_ret
        exact ⟨ret_bool (by rw [HNo.out]), rfl⟩
      | true =>
        by_cases hv : z ≤ v
        · have tv : decide (v < z) = false := decide_eq_false (by omega)
          have HG := Lib.hid (HGood.out (by rw [HLB.out, decide_eq_true hv]; rfl))
          clear HBad HGood HLB
          go_wp2_with fail
          refine (HO.out _).mono ?_
          rintro e w' ⟨rfl, rfl⟩
          go_wp2_with fail
          refine (HV.out _).mono ?_
          rintro e w' ⟨rfl, rfl⟩
          go_wp2_with fail
          go_roundw
          case rel => exact ⟨k + 1, by go_num, by omega, HG, by first | rfl | trivial⟩
          case measure => simp [intOf]; omega
        · have tv : decide (v < z) = true := decide_eq_true (by omega)
          have HNo : Hid (clauseB v xs = false) := HBad.out (by rw [HLB.out, decide_eq_false hv]; rfl)
          clear HBad HGood HLB
          go_wp2_with fail
          refine (HO.out _).mono ?_
          rintro e w' ⟨rfl, rfl⟩
          go_wp2_with fail
          refine (HV.out _).mono ?_
          rintro e w' ⟨rfl, rfl⟩
          go_wp2_with fail
          go_ret
          exact ⟨ret_bool (by rw [HNo.out]), rfl⟩
    · have tk : decide ((k : Int) < (n : Int)) = false := decide_eq_false (by omega)
      have HY : Hid (clauseB v xs = true) := litB_all fun j hj => hall.out j (by rw [HL.out] at hj; omega)
      clear hall
      go_wp2_with fail
      go_ret
      exact ⟨ret_bool (by rw [HY.out]), rfl⟩
set_option maxHeartbeats 3200000 in
set_option maxRecDepth 100000 in
theorem fits_any {v : Int} (A A2 : Option Addr) (n c n2 c2 : Nat) (cs ds : List (List Int)) (w : World) (hr : RdF w w.heap.size A n cs) (h32 : Ok32 cs) (hn : n ≤ 100000) (ht : total cs ≤ 100000) (hr2 : RdF w w.heap.size A2 n2 ds) (h322 : ∀ d ∈ ds, In32 d) (hl2 : ∀ d ∈ ds, d.length ≤ 100000) (hn2 : n2 ≤ 100000) :
    Calls Tryz.prog 15 #[.agg #[.int .i64 v, .slice A n c], .slice A2 n2 c2] w fun e w' => e = .returned (.bool (rightF v cs && decide (v < 262144) && ds.all (clauseB v))) ∧ Below w.heap.size w w' := by
  obtain ⟨w1, hw1⟩ : ∃ w1, w1 = w.alloc (.cells #[.int .i64 v, .slice A n c] 27) := ⟨_, rfl⟩
  have hb1 : Below w.heap.size w w1 := by rw [hw1]; exact (Below.refl _ _).alloc (Nat.le_refl _) _
  have hl1 : w.heap.size < w1.heap.size := by rw [hw1]; simp
  have x0 : w1.cell? ⟨w.heap.size, 0, none⟩ = some (.int .i64 v) := by rw [hw1, Lib.cell_of_heap (blk_new w _)]; rfl
  have x1 : w1.cell? ⟨w.heap.size, 1, none⟩ = some (.slice A n c) := by rw [hw1, Lib.cell_of_heap (blk_new w _)]; rfl
  have HRi := Lib.hid (rrightF_any v A n c cs w1 ((hr.below hb1).more hb1.size) h32 hn ht)
  have HX : Hid (∀ W, Below w1.heap.size w1 W → W.cell? ⟨w.heap.size, 0, none⟩ = some (.int .i64 v) ∧ RdF W W.heap.size A2 n2 ds ∧ Below w.heap.size w W) := fun W hW => ⟨(hW.cell (p := ⟨w.heap.size, 0, none⟩) hl1).trans x0, (hr2.below (hb1.trans (hW.mono hb1.size))).more (Nat.le_trans hb1.size hW.size), hb1.trans (hW.mono hb1.size)⟩
  have HL := Lib.hid hr2.len
  have H32 := Lib.hid h322
  have HLD := Lib.hid hl2
  have HW1 := Lib.hid hw1
  clear hr h32 ht hr2 h322 hl2 hw1 hb1 hl1
  go_enter Tryz.func15, Tryz.ntmps15
  go_upto_region 1 with (fail)
  rw [← HW1.out]
  cases hrt : rightF v cs with
  | false =>
    rw [hrt] at HRi
    have EV : Hid ((rightF v cs && decide (v < 262144) && ds.all (clauseB v)) = false) := by unfold Hid; rw [hrt]; rfl
    clear hrt
    go_wp2_with fail
    refine HRi.out.mono ?_
    rintro e w2 ⟨rfl, hb2⟩
    have HB := Lib.hid (HX.out w2 hb2).2.2
    clear hb2 HRi HX
    go_wp2_with fail
    go_ret
    exact ⟨ret_bool (by rw [EV.out]), HB.out⟩
  | true =>
  rw [hrt] at HRi
  by_cases hv : v < 262144
  case neg =>
    have tv : decide (262144 ≤ v) = true := decide_eq_true (by omega)
    have EV : Hid ((rightF v cs && decide (v < 262144) && ds.all (clauseB v)) = false) := by unfold Hid; rw [hrt, decide_eq_false hv]; rfl
    clear hrt
    go_wp2_with fail
    refine HRi.out.mono ?_
    rintro e w2 ⟨rfl, hb2⟩
    obtain ⟨y0, _, hB⟩ := HX.out w2 hb2
    have HB := Lib.hid hB
    clear hb2 HRi HX hB
    go_wp2_with fail
    go_ret
    exact ⟨ret_bool (by rw [EV.out]), HB.out⟩
  have tv : decide (262144 ≤ v) = false := decide_eq_false (by omega)
  have EV : Hid ((rightF v cs && decide (v < 262144) && ds.all (clauseB v)) = ds.all (clauseB v)) := by unfold Hid; rw [hrt, decide_eq_true hv]; rfl
  clear hrt
  go_wp2_with fail
  refine HRi.out.mono ?_
  rintro e w2 ⟨rfl, hb2⟩
  obtain ⟨y0, _, _⟩ := HX.out w2 hb2
  have HB2 := Lib.hid hb2
  clear hb2 HRi
  go_wp2_with fail
  go_loopw [17] (fun u wr => ∃ k : Nat, u = .int .i64 (k : Int) ∧ k ≤ n2 ∧ Hid (∀ j, j < k → clauseB v (ds.getD j []) = true) ∧ w2 = wr) (fun u _ => n2 - (intOf u).toNat)
  case atStart => exact ⟨0, rfl, by omega, Lib.hid (fun j hj => by omega), rfl⟩
  case round =>
    obtain ⟨k, rfl, hk, hall, rfl⟩ := hrel
    obtain ⟨_, hRd, hBw⟩ := HX.out _ HB2.out
    by_cases hlt : k < n2
    · have tk : decide ((k : Int) < (n2 : Int)) = true := decide_eq_true (by omega)
      have tk2 : decide (k < n2) = true := decide_eq_true hlt
      have hkl : k < ds.length := by rw [HL.out]; exact hlt
      have hmem : ds.getD k [] ∈ ds := by rw [getF_lt hkl]; exact List.getElem_mem hkl
      obtain ⟨b, o, Aj, nj, cj, hA, hb, hcl, hrd⟩ := hRd.get hlt
      subst hA
      have hnj : nj ≤ 100000 := by have := hrd.len; have := HLD.out _ hmem; omega
      have HKn := Lib.hid (known_any v Aj nj cj _ w2 hrd (H32.out _ hmem) (by omega))
      have HMem := Lib.hid hmem
      have HBw := Lib.hid hBw
      clear hrd hmem hnj hRd hBw hb
      cases hc : clauseB v (ds.getD k []) with
      | false =>
        rw [hc] at HKn
        have HNo : Hid (ds.all (clauseB v) = false) := by
          unfold Hid
          rw [List.all_eq_false]
          exact ⟨_, HMem.out, by rw [hc]; simp⟩
        clear hc hall
        go_wp2_with fail
        refine HKn.out.mono ?_
        rintro e w' ⟨rfl, rfl⟩
        go_wp2_with fail
        go_ret
        exact ⟨ret_bool (by rw [EV.out, HNo.out]), HBw.out⟩
      | true =>
        rw [hc] at HKn
        have HA : Hid (∀ j, j < k + 1 → clauseB v (ds.getD j []) = true) := fun j hj => by
          by_cases q : j < k
          · exact hall.out j q
          · obtain rfl : j = k := by omega
            exact hc
        clear hc hall
        go_wp2_with fail
        refine HKn.out.mono ?_
        rintro e w' ⟨rfl, rfl⟩
        go_wp2_with fail
        go_roundw
        case rel => exact ⟨k + 1, by go_num, by omega, HA, by first | rfl | trivial⟩
        case measure => simp [intOf]; omega
    · have tk : decide ((k : Int) < (n2 : Int)) = false := decide_eq_false (by omega)
      have HY : Hid (ds.all (clauseB v) = true) := List.all_eq_true.2 fun d hd => by
        obtain ⟨i, hi, rfl⟩ := List.getElem_of_mem hd
        have := hall.out i (by rw [HL.out] at hi; omega)
        rwa [getF_lt hi] at this
      have HBw := Lib.hid hBw
      clear hall hRd hBw
      go_wp2_with fail
      go_ret
      exact ⟨ret_bool (by rw [EV.out, HY.out]), HBw.out⟩
/-- Two clauses at hand. -/
theorem two_m (a b c : List Int) : handM [a, b] (fun _ => 0) c ≠ 0 ↔ c = clZ a ∨ c = clZ b := by
  unfold handM handM handM
  unfold incM
  by_cases h1 : c = clZ b
  · rw [if_pos h1]
    exact ⟨fun _ => .inr h1, fun _ => by omega⟩
  · by_cases h2 : c = clZ a
    · rw [if_neg h1, if_pos h2]
      exact ⟨fun _ => .inl h2, fun _ => by omega⟩
    · simp [h1, h2]
/-- Of a clause whose literals are false but one, that one follows. -/
theorem left_one {K : List Int → Prop} {T : Int → Prop} (hT : ClsK K T) {xs ys : List Int} {x : Int} (hc : IsClean xs ys) (hK : K ys) (hb : bothB xs = false) (ho : allOne xs = true) (hf : ∀ y ∈ xs, y ≠ x → T (-y)) : T x := by
  rcases hT.ful ys hK (by rw [hc.both]; exact hb) with ⟨y, hy, t⟩ | ⟨a, b, ha, hb', hab, _, a2, _, b2⟩
  · by_cases e : y = x
    · rw [← e]; exact t
    · exact (hT.con y (List.all_eq_true.1 ho y ((hc.2 y).1 hy)) t (hf y ((hc.2 y).1 hy) e)).elim
  · by_cases e : a = x
    · exact absurd (hf b ((hc.2 b).1 hb') (fun q => hab (e.trans q.symm))) b2
    · exact absurd (hf a ((hc.2 a).1 ha) e) a2
theorem rup_weak {K : List Int → Prop} {xs ys gl : List Int} (hc : IsClean xs ys) (hK : K ys) (hb : bothB xs = false) (ho : allOne xs = true) (hs : ∀ x ∈ xs, x ∈ gl) : Rup K gl := fun T hT hf => by
  rcases hT.ful ys hK (by rw [hc.both]; exact hb) with ⟨y, hy, t⟩ | ⟨a, b, ha, hb', hab, _, a2, _, b2⟩
  · exact hT.con y (List.all_eq_true.1 ho y ((hc.2 y).1 hy)) t (hf y (hs y ((hc.2 y).1 hy)))
  · exact a2 (hf a (hs a ((hc.2 a).1 ha)))
theorem rup_rest {K : List Int → Prop} {xs ys us vs zs : List Int} {v : Int} (hc : IsClean xs us) (hd : IsClean ys vs) (hz : IsClean (restL xs ys v) zs) (h1 : K us) (h2 : K vs) (hb : bothB xs = false) (hb2 : bothB ys = false) (ho : allOne xs = true) (ho2 : allOne ys = true) (hv : LitM.one v = true) : Rup K zs := fun T hT hf => by
  have hr : ∀ y ∈ restL xs ys v, T (-y) := fun y hy => hf y ((hz.2 y).2 hy)
  have t1 : T v := left_one hT hc h1 hb ho fun y hy hne => hr y (by unfold restL; exact List.mem_append_left _ (sans_mem.2 ⟨hy, hne⟩))
  have t2 : T (-v) := left_one hT hd h2 hb2 ho2 fun y hy hne => hr y (by unfold restL; exact List.mem_append_right _ (sans_mem.2 ⟨hy, hne⟩))
  exact hT.con v hv t1 t2
end Go.Proofs.YtmegplcepcacgaaGreat
