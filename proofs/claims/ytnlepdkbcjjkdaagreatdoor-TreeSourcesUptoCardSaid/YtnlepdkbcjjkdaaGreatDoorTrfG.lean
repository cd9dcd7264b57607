/- The plain answer of layer 14: enum. -/
import Derived.Test.YtnlepdkbcjjkdaaGreatDoorTrfF
import Derived.Test.YtnlepdkbcjjkdaaGreatDoorTevM
namespace Go.Proofs.YtnlepdkbcjjkdaaGreatDoor
open Go.RowKit TreM WrdM

/-- What a plain line says of a part: its text and whether the part is right. -/
def lineV (b : Bool) (t : List UInt8) : Value := if b then .tuple #[.string ⟨t.toArray⟩, .bool true] else .tuple #[.string ⟨#[]⟩, .bool false]

set_option maxHeartbeats 800000 in
set_option maxRecDepth 100000 in
theorem penum_any (e : Enu) (cs : List Value) (w : World) (h : EnuC w e cs) (hl : (enumT e).length ≤ 4611686018427387904) : Calls Tryz.prog 25 #[.agg cs.toArray] w fun x w' => x = .returned (lineV (enumB e) (enumT e)) ∧ Below w.heap.size w w' := by
  obtain ⟨v, l, c, rfl, hn, A, cap, rfl, hmc, hcap, hA⟩ := h
  obtain ⟨nm, vs⟩ := e
  dsimp only at hn hmc hA
  have hT : enumT ⟨nm, vs⟩ = [101, 110, 117, 109, 32] ++ nm ++ [32, 123, 32] ++ joinC vs ++ [32, 125, 10] := rfl
  rw [hT] at hl ⊢
  have hE : enumB ⟨nm, vs⟩ = (nameB nm && (decide (1 ≤ vs.length) && (decide (vs.length ≤ 32) && vs.all nameOk))) := rfl
  rw [hE]
  simp only [List.length_append, List.length_cons, List.length_nil] at hl
  dsimp only
  obtain ⟨wa, hwa⟩ : ∃ wa, wa = w.alloc (.cells #[.string ⟨nm.toArray⟩, .slice A vs.length cap, .int .i64 l, .int .i64 c] 48) := ⟨_, rfl⟩
  have hba : Below w.heap.size w wa := by rw [hwa]; exact below_alloc w _
  have hga : wa.heap[w.heap.size]? = some (.cells #[.string ⟨nm.toArray⟩, .slice A vs.length cap, .int .i64 l, .int .i64 c] 48) := by rw [hwa]; exact blk_new w _
  have hlt : w.heap.size < wa.heap.size := by rw [hwa]; simp
  have HN := Lib.hid (pname_any nm wa hn)
  have HPN : Hid (∀ x : List UInt8, x.length ≤ 9223372036854775807 → ∀ W, Calls Tryz.prog 27 #[.string ⟨x.toArray⟩] W fun e w' => e = .returned (.bool (nameB x)) ∧ Below W.heap.size W w') := fun x hx W => pname_any x W hx
  have HC : Hid (∀ W, Below wa.heap.size wa W → W.heap[w.heap.size]? = some (.cells #[.string ⟨nm.toArray⟩, .slice A vs.length cap, .int .i64 l, .int .i64 c] 48)) := fun W hW => (hW.block _ hlt).trans hga
  have HK : Hid (SlAt wa StrC 1 A vs) := hA.below hba fun _ _ _ h => h
  obtain ⟨m, hm⟩ : ∃ m, m = vs.length := ⟨_, rfl⟩
  have HM := Lib.hid hm
  rw [← hm] at hmc hwa HC hga ⊢
  have HBA := Lib.hid hba
  obtain ⟨c0, c1, c2, c3⟩ := cells4 hga
  have HWA := Lib.hid hwa
  obtain ⟨P, hP⟩ : ∃ P, P = [101, 110, 117, 109, 32] ++ nm := ⟨_, rfl⟩
  obtain ⟨P2, hP2⟩ : ∃ P2, P2 = P ++ [32, 123, 32] := ⟨_, rfl⟩
  have hlP : P.length = nm.length + 5 := by rw [hP]; simp
  have hlP2 : P2.length = nm.length + 8 := by rw [hP2]; simp; omega
  have ha1 := fun W => add_lists [101, 110, 117, 109, 32] nm P #[101, 110, 117, 109, 32] nm.toArray rfl rfl hP (by simp; omega) W
  have ha2 := fun W => add_lists P [32, 123, 32] P2 P.toArray #[32, 123, 32] rfl rfl hP2 (by simp; omega) W
  have HPP : Hid ([101, 110, 117, 109, 32] ++ nm ++ [32, 123, 32] = P2) := by unfold Hid; rw [hP2, hP]
  rw [show [101, 110, 117, 109, 32] ++ nm ++ [32, 123, 32] = P2 from HPP.out]
  have HJ : Hid (∀ k, (joinC (vs.take k)).length ≤ (joinC vs).length) := joinC_le vs
  have HL : Hid ((joinC vs).length + P2.length + 3 ≤ 4611686018427387904) := by unfold Hid; omega
  have hlP2' : P2.length ≤ 4611686018427387904 := by omega
  clear hA hE hba hga hwa hm hT hl hlt hP hP2 HPP hlP hlP2
  generalize nm.toArray = sb at *
  generalize nameB nm = N at *
  go_enter Tryz.func25, Tryz.ntmps25
  go_upto_region 1 with (fail)
  have hwa := HWA.out
  rw [← hwa]
  clear hwa HWA
  go_wp2_with fail
  refine HN.out.mono ?_
  rintro x w1 ⟨rfl, hB1⟩
  have HB1 := Lib.hid hB1
  clear c0 c1 c2 c3 HN
  obtain ⟨c0, c1, c2, c3⟩ := cells4 (HC.out w1 hB1)
  clear hB1
  rcases N with _ | _
  · go_wp2_with fail
    go_ret2
    exact ⟨rfl, HBA.out.trans (HB1.out.mono HBA.out.size)⟩
  by_cases h1 : m < 1
  · have t1 : decide ((m : Int) < 1) = true := decide_eq_true (by omega)
    have t2 : decide (m < 1) = true := decide_eq_true h1
    have H3 : Hid (decide (1 ≤ m) = false) := decide_eq_false (by omega)
    go_wp2_with fail
    go_ret2
    exact ⟨by rw [H3.out]; rfl, HBA.out.trans (HB1.out.mono HBA.out.size)⟩
  have t1 : decide ((m : Int) < 1) = false := decide_eq_false (by omega)
  have t1' : decide (m < 1) = false := decide_eq_false h1
  have HD1 : Hid (decide (1 ≤ m) = true) := decide_eq_true (by omega)
  by_cases h32 : 32 < m
  · have t3 : decide (32 < (m : Int)) = true := decide_eq_true (by omega)
    have t3' : decide (32 < m) = true := decide_eq_true h32
    have H3 : Hid (decide (m ≤ 32) = false) := decide_eq_false (by omega)
    go_wp2_with fail
    go_ret2
    exact ⟨by rw [H3.out, HD1.out]; rfl, HBA.out.trans (HB1.out.mono HBA.out.size)⟩
  have t3 : decide (32 < (m : Int)) = false := decide_eq_false (by omega)
  have t3' : decide (32 < m) = false := decide_eq_false h32
  have HD2 : Hid (decide (m ≤ 32) = true) := decide_eq_true (by omega)
  go_wp2_with fail
  go_loopw [4, 30] (fun out i wr => ∃ k : Nat, k ≤ m ∧ out = .string ⟨(P2 ++ joinC (vs.take k)).toArray⟩ ∧ i = .int .i64 k ∧ Hid (Below wa.heap.size wa wr) ∧ Hid (∀ j x, j < k → vs[j]? = some x → nameB x = true)) (fun _ i _ => m - (intOf i).toNat)
  case atStart => exact ⟨0, Nat.zero_le _, by simp [joinC], rfl, HB1.out, fun j x hj => absurd hj (by omega)⟩
  case round =>
    clear c0 c1 c2 c3
    obtain ⟨k, hk, rfl, rfl, HW, HA⟩ := hrel
    by_cases hlt : k < m
    · have t1 : decide ((k : Int) < (m : Int)) = true := decide_eq_true (by omega)
      have t2 : decide (k < m) = true := decide_eq_true hlt
      obtain ⟨x, hx⟩ := get_el (ks := vs) (k := k) (by rw [← HM.out]; exact hlt)
      rcases HK.out with hK | ⟨b', p', rfl, hb', hk'⟩
      · exfalso; rw [hK] at hx; simp at hx
      obtain ⟨cs, hl, hc, rfl, hxl⟩ := hk' k x hx
      have c0 : wr.cell? ⟨b', p' + k, none⟩ = some (.string ⟨x.toArray⟩) := by
        have := hc 0 _ rfl
        rw [← HW.out.cell (p := ⟨b', p' + k * 1 + 0, none⟩) hb'] at this
        simpa using this
      have hjt := joinC_take vs k x hx
      have hj0 := HJ.out (k + 1)
      have hj1 := HJ.out k
      have hL := HL.out
      have HNx := Lib.hid (HPN.out x hxl wr)
      have HX := Lib.hid hx
      obtain ⟨Q, hQ⟩ : ∃ Q, Q = P2 ++ joinC (vs.take k) := ⟨_, rfl⟩
      have hq : Q.length = P2.length + (joinC (vs.take k)).length := by rw [hQ]; simp
      have HQ := Lib.hid hQ
      rw [← hQ]
      clear hx hk' hc hQ
      rcases hr : nameB x with _ | _
      · rw [hr] at HNx
        have HF : Hid (vs.all nameOk = false) := by
          unfold Hid
          rw [Bool.eq_false_iff]
          intro e
          have := List.all_eq_true.1 e x (List.mem_of_getElem? HX.out)
          rw [show nameOk x = nameB x from rfl, hr] at this
          cases this
        have HNx := Lib.hid HNx.out
        clear hr hjt hj0 hj1 hL hq
        go_wp2_with (refine HNx.out.mono ?_; rintro e w' ⟨rfl, hB2⟩)
        go_ret2
        exact ⟨by rw [HF.out, Bool.and_false, Bool.and_false, Bool.and_false]; rfl, HBA.out.trans ((HW.out.trans (hB2.mono HW.out.size)).mono HBA.out.size)⟩
      · rw [hr] at HNx
        have HNx := Lib.hid HNx.out
        have HRx := Lib.hid hr
        clear hr
        by_cases hk0 : 0 < k
        · have t4 : decide ((0 : Int) < (k : Int)) = true := decide_eq_true (by omega)
          have t5 : decide (0 < k) = true := decide_eq_true hk0
          rw [if_pos hk0] at hjt
          obtain ⟨Q1, hQ1⟩ : ∃ Q1, Q1 = Q ++ [44, 32] := ⟨_, rfl⟩
          obtain ⟨Q2, hQ2⟩ : ∃ Q2, Q2 = Q1 ++ x := ⟨_, rfl⟩
          have hq1 : Q1.length = Q.length + 2 := by rw [hQ1]; simp
          have hj2 : (joinC (vs.take (k + 1))).length = (joinC (vs.take k)).length + 2 + x.length := by rw [hjt]; simp; omega
          have hb1 := fun W => add_lists Q [44, 32] Q1 Q.toArray #[44, 32] rfl rfl hQ1 (by simp; omega) W
          have hb2 := fun W => add_lists Q1 x Q2 Q1.toArray x.toArray rfl rfl hQ2 (by omega) W
          have HE2 : Hid (Q2 = P2 ++ joinC (vs.take (k + 1))) := by unfold Hid; rw [hjt, hQ2, hQ1, HQ.out]; simp
          clear hQ1 hQ2 hjt hj0 hj1 hj2 hL hq hq1
          go_wp2_with (refine HNx.out.mono ?_; rintro e w' ⟨rfl, hB2⟩)
          go_roundw
          case rel =>
            refine ⟨k + 1, by omega, by rw [← HE2.out], by go_num, HW.out.trans (hB2.mono HW.out.size), fun j y hj hy => ?_⟩
            by_cases e : j = k
            · subst e
              have := HX.out.symm.trans hy
              injection this with this
              rw [← this]; exact HRx.out
            · exact HA.out j y (by omega) hy
          case measure => simp [intOf]; omega
        · have t4 : decide ((0 : Int) < (k : Int)) = false := decide_eq_false (by omega)
          have t5 : decide (0 < k) = false := decide_eq_false hk0
          rw [if_neg hk0] at hjt
          obtain ⟨Q2, hQ2⟩ : ∃ Q2, Q2 = Q ++ x := ⟨_, rfl⟩
          have hj2 : (joinC (vs.take (k + 1))).length = x.length := by rw [hjt]
          have hb2 := fun W => add_lists Q x Q2 Q.toArray x.toArray rfl rfl hQ2 (by omega) W
          have HE2 : Hid (Q2 = P2 ++ joinC (vs.take (k + 1))) := by
            unfold Hid
            rw [hjt, hQ2, HQ.out, show k = 0 by omega]; simp [joinC]
          clear hQ2 hjt hj0 hj1 hj2 hL hq
          go_wp2_with (refine HNx.out.mono ?_; rintro e w' ⟨rfl, hB2⟩)
          go_roundw
          case rel =>
            refine ⟨k + 1, by omega, by rw [← HE2.out], by go_num, HW.out.trans (hB2.mono HW.out.size), fun j y hj hy => ?_⟩
            by_cases e : j = k
            · subst e
              have := HX.out.symm.trans hy
              injection this with this
              rw [← this]; exact HRx.out
            · exact HA.out j y (by omega) hy
          case measure => simp [intOf]; omega
    · have t1 : decide ((k : Int) < (m : Int)) = false := decide_eq_false (by omega)
      have t2 : decide (k < m) = false := decide_eq_false hlt
      have hall : vs.all nameOk = true := List.all_eq_true.2 fun y hy => by
        obtain ⟨j, hj⟩ := List.getElem?_of_mem hy
        exact HA.out j y (by
          have := HM.out
          rcases Nat.lt_or_ge j vs.length with h' | h'
          · omega
          · rw [List.getElem?_eq_none h'] at hj; cases hj) hj
      have hkv : vs.take k = vs := List.take_of_length_le (by have := HM.out; omega)
      rw [hkv]
      have hL := HL.out
      obtain ⟨Q, hQ⟩ : ∃ Q, Q = P2 ++ joinC vs := ⟨_, rfl⟩
      obtain ⟨Q2, hQ2⟩ : ∃ Q2, Q2 = Q ++ [32, 125, 10] := ⟨_, rfl⟩
      have hq : Q.length = P2.length + (joinC vs).length := by rw [hQ]; simp
      have hb1 := fun W => add_lists Q [32, 125, 10] Q2 Q.toArray #[32, 125, 10] rfl rfl hQ2 (by simp; omega) W
      have HE2 : Hid (P2 ++ joinC vs ++ [32, 125, 10] = Q2) := by unfold Hid; rw [hQ2, hQ]
      have HAll := Lib.hid hall
      rw [← hQ]
      clear hall hkv hL hQ hQ2 hq HA HJ HL
      go_wp2_with fail
      go_ret2
      exact ⟨by rw [HE2.out, HAll.out, HD1.out, HD2.out]; rfl, HBA.out.trans (HW.out.mono HBA.out.size)⟩
end Go.Proofs.YtnlepdkbcjjkdaaGreatDoor
