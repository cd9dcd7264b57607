/- The plain answer's place and word. -/
import Derived.Test.YtgbnhmnkdfiiiaaDoorWrdP
import Derived.Test.YtgbnhmnkdfiiiaaDoorWrdJ
namespace Go.Proofs.YtgbnhmnkdfiiiaaDoor
open Go.RowKit WrdM

theorem ret_pair {a b c d : Int} (h : a = c) (h2 : b = d) : Ending.returned (.tuple #[.int .i64 a, .int .i64 b]) = .returned (.tuple #[.int .i64 c, .int .i64 d]) := by rw [h, h2]
theorem adv_snoc (s : List UInt8) (k : Nat) (hk : k < s.length) (L C : Int) : adv L C (s.take (k + 1)) = (nl (adv L C (s.take k)).1 (s.getD k 0), nc (adv L C (s.take k)).2 (s.getD k 0)) := by
  rw [List.take_succ_eq_append_getElem hk, adv_app, List.getD_eq_getElem?_getD, List.getElem?_eq_getElem hk]
  rfl
theorem ten_beq (c : UInt8) : (((c.toNat : Nat) : Int) == 10) = (c == 10) := by
  rw [Bool.eq_iff_iff, beq_iff_eq, beq_iff_eq]
  constructor
  · intro e; exact UInt8.toNat_inj.1 (by show _ = 10; omega)
  · intro e; rw [e]; rfl
set_option maxHeartbeats 1600000 in
set_option maxRecDepth 100000 in
theorem place_any (s : List UInt8) (a : Nat) (w : World) (ha : a ≤ s.length) (hs : s.length ≤ 70000) :
    Calls Tryd.prog 21 #[.string ⟨s.toArray⟩, .int .i64 (a : Int)] w fun e w' => e = .returned (.tuple #[.int .i64 (adv 1 1 (s.take a)).1, .int .i64 (adv 1 1 (s.take a)).2]) ∧ w = w' := by
  obtain ⟨sb, hsb⟩ : ∃ sb : ByteArray, sb = ⟨s.toArray⟩ := ⟨_, rfl⟩
  have hn : sb.size = s.length := by rw [hsb, size_mk]
  have HAT : Hid (∀ (k : Nat) (h : k < sb.size), sb[k]'h = s.getD k 0) := fun k h => by subst hsb; exact get_mk s k h
  rw [← hsb]
  clear hsb
  go_enter Tryd.func21, Tryd.ntmps21
  go_wp2_with fail
  go_loopw [6, 7, 8] (fun l c i wr => ∃ k : Nat, k ≤ a ∧ i = .int .i64 k ∧ l = .int .i64 (adv 1 1 (s.take k)).1 ∧ c = .int .i64 (adv 1 1 (s.take k)).2 ∧ wr = w) (fun _ _ i _ => a - (intOf i).toNat)
  case atStart => exact ⟨0, Nat.zero_le _, rfl, rfl, rfl, rfl⟩
  case round =>
    obtain ⟨k, hk, rfl, rfl, rfl, rfl⟩ := hrel
    by_cases hlt : k < a
    · have t1 : decide ((k : Int) < (a : Int)) = true := decide_eq_true (by omega)
      have t2 : decide (k < a) = true := decide_eq_true hlt
      have hk2 : k < sb.size := by omega
      have hg := HAT.out k hk2
      have hsn := adv_snoc s k (by omega) 1 1
      have hbd := adv_bd (s.take k) 1 1 (by omega)
      rw [List.length_take] at hbd
      have hten := ten_beq (s.getD k 0)
      obtain ⟨c, hc0⟩ : ∃ c, c = s.getD k 0 := ⟨_, rfl⟩
      rw [← hc0] at hg hsn hten
      obtain ⟨L, hL⟩ : ∃ L, L = (adv 1 1 (s.take k)).1 := ⟨_, rfl⟩
      obtain ⟨C, hC⟩ : ∃ C, C = (adv 1 1 (s.take k)).2 := ⟨_, rfl⟩
      rw [← hL, ← hC] at hsn hbd ⊢
      obtain ⟨b1, b2, b3, b4⟩ := hbd
      have HSN := Lib.hid hsn
      have b5 : L ≤ 70001 := by omega
      have b6 : C ≤ 70001 := by omega
      clear hsn hc0 hL hC b2 b4
      rcases h10 : (c == 10) with _ | _
      · rw [h10] at hten
        have HX : Hid (adv 1 1 (s.take (k + 1)) = (L, C + 1)) := by unfold Hid; rw [HSN.out]; simp [nl, nc, h10]
        clear h10
        go_wp2_with fail
        go_roundw
        case rel => exact ⟨k + 1, by omega, by go_num, by rw [HX.out], by rw [HX.out], trivial⟩
        case measure => simp [intOf]; omega
      · rw [h10] at hten
        have HX : Hid (adv 1 1 (s.take (k + 1)) = (L + 1, 1)) := by unfold Hid; rw [HSN.out]; simp [nl, nc, h10]
        clear h10
        go_wp2_with fail
        go_roundw
        case rel => exact ⟨k + 1, by omega, by go_num, by rw [HX.out], by rw [HX.out], trivial⟩
        case measure => simp [intOf]; omega
    · have hke : k = a := by omega
      subst hke
      have t1 : decide ((k : Int) < (k : Int)) = false := decide_eq_false (by omega)
      go_wp2_with fail
      go_ret2
      exact ⟨rfl, rfl⟩

theorem takeW_len (p : UInt8 → Bool) (s : List UInt8) (a k : Nat) (hk : a + k ≤ s.length) (h : ∀ j, j < k → p (s.getD (a + j) 0) = true) (he : a + k = s.length ∨ p (s.getD (a + k) 0) = false) : ((s.drop a).takeWhile p).length = k := by
  have hd : ∀ j, (s.drop a).getD j 0 = s.getD (a + j) 0 := fun j => by simp [List.getD_eq_getElem?_getD, List.getElem?_drop]
  rcases he with he | he
  · rw [takeW_end p (s.drop a) (fun j hj => by rw [hd]; rw [List.length_drop] at hj; exact h j (by omega)), List.length_drop]; omega
  · rcases Nat.lt_or_ge (a + k) s.length with hl | hl
    · rw [takeW_at p (s.drop a) k (by rw [List.length_drop]; omega) (by rw [hd]; exact he) (fun j hj => by rw [hd]; exact h j hj), List.length_take, List.length_drop]; omega
    · rw [takeW_end p (s.drop a) (fun j hj => by rw [hd]; rw [List.length_drop] at hj; exact h j (by omega)), List.length_drop]; omega
theorem head_drop (p : UInt8 → Bool) (s : List UInt8) (a : Nat) (ha : a < s.length) : headB p (s.drop a) = p (s.getD a 0) := by
  rw [List.drop_eq_getElem_cons ha, List.getD_eq_getElem?_getD, List.getElem?_eq_getElem ha]
  rfl
theorem ret_nat {a : Nat} {b : Nat} (h : a = b) : Ending.returned (.int .i64 (a : Int)) = .returned (.int .i64 (b : Int)) := by rw [h]
theorem byte95 (c : UInt8) : (((c.toNat : Nat) : Int) == 95) = (c == 95) := by
  rw [Bool.eq_iff_iff, beq_iff_eq, beq_iff_eq]
  constructor
  · intro e; exact UInt8.toNat_inj.1 (by show _ = 95; omega)
  · intro e; rw [e]; rfl
set_option maxHeartbeats 6400000 in
set_option maxRecDepth 100000 in
theorem word_any (s : List UInt8) (a : Nat) (w : World) (ha : a < s.length) (hs : s.length ≤ 70000) :
    Calls Tryd.prog 20 #[.string ⟨s.toArray⟩, .int .i64 (a : Int)] w fun e w' => e = .returned (.int .i64 (wordN (s.drop a) : Nat)) ∧ Below w.heap.size w w' := by
  have HL := Lib.hid letter_any
  have HD := Lib.hid digit_any
  have HON := Lib.hid one_any
  obtain ⟨sb, hsb⟩ : ∃ sb : ByteArray, sb = ⟨s.toArray⟩ := ⟨_, rfl⟩
  have hn : sb.size = s.length := by rw [hsb, size_mk]
  have HSB := Lib.hid hsb
  have HAT : Hid (∀ (k : Nat) (h : k < sb.size), sb[k]'h = s.getD k 0) := fun k h => by subst hsb; exact get_mk s k h
  have HW : Hid (wordN (s.drop a) = if letB (s.getD a 0) then ((s.drop a).takeWhile namB).length else if digB (s.getD a 0) then ((s.drop a).takeWhile digB).length else (signW (s.drop a)).length) := by
    unfold Hid wordN
    rw [head_drop _ _ _ ha, head_drop _ _ _ ha]
  rw [← hsb]
  clear hsb
  have hk0 : a < sb.size := by omega
  have hg0 := HAT.out a hk0
  obtain ⟨c0, hc0⟩ : ∃ c0, c0 = s.getD a 0 := ⟨_, rfl⟩
  rw [← hc0] at hg0 HW
  have HC0 := Lib.hid hc0
  have HL0 := Lib.hid (HL.out c0)
  have HD0 := Lib.hid (HD.out c0)
  clear hc0
  rcases hl : letB c0 with _ | _
  · rw [hl] at HL0 HW
    rcases hd : digB c0 with _ | _
    · rw [hd] at HD0 HW
      have HSN := Lib.hid (sgN_sign (s.drop a))
      have HZ : Hid (∀ j, sgN (s.drop a) (j + 1) = if j + 1 ≤ (s.drop a).length ∧ signR.contains ((s.drop a).take (j + 1)) = true then j + 1 else sgN (s.drop a) j) := fun j => rfl
      have HSH := Lib.hid (sgN_short (s.drop a))
      have HDL : Hid ((s.drop a).length = s.length - a) := List.length_drop
      clear hl hd
      go_enter Tryd.func20, Tryd.ntmps20
      go_wp2_with fail
      refine (HL0.out _).mono ?_
      rintro e w' ⟨rfl, rfl⟩
      go_wp2_with fail
      refine (HD0.out _).mono ?_
      rintro e w' ⟨rfl, rfl⟩
      go_wp2_with fail
      go_loopw [5, 6] (fun v i wr => ∃ k : Nat, 1 ≤ k ∧ k ≤ 4 ∧ i = .int .i64 k ∧ v = .int .i64 (sgN (s.drop a) (k - 1) : Nat) ∧ Hid (Below w.heap.size w wr)) (fun _ i _ => 4 - (intOf i).toNat)
      case atStart => exact ⟨1, by omega, by omega, rfl, rfl, Below.refl _ _⟩
      case round =>
        obtain ⟨k, hk1, hk4, rfl, rfl, HB⟩ := hrel
        by_cases h3 : k ≤ 3
        · have t1 : decide ((k : Int) ≤ 3) = true := decide_eq_true (by omega)
          have t2 : decide (k ≤ 3) = true := decide_eq_true h3
          by_cases hle : a + k ≤ s.length
          · have t3 : decide ((a : Int) + (k : Int) ≤ (s.length : Int)) = true := decide_eq_true (by omega)
            have t4 : decide (a + k ≤ s.length) = true := decide_eq_true hle
            have hex : sb.extract a (a + k) = ⟨((s.drop a).take k).toArray⟩ := by rw [HSB.out, extract_mk, show a + k - a = k from by omega]
            obtain ⟨xb, hxb⟩ : ∃ xb : ByteArray, xb = ⟨((s.drop a).take k).toArray⟩ := ⟨_, rfl⟩
            rw [← hxb] at hex
            have hal := below_alloc wr (.cells (strC signR) 9)
            have HO := Lib.hid (HON.out ((s.drop a).take k) signR wr.heap.size 23 (wr.alloc (.cells (strC signR) 9)) (fun j hj => strC_cell wr signR _ j hj) (by decide))
            rw [← hxb] at HO
            have HB2 := Lib.hid (HB.out.trans (hal.mono HB.out.size))
            obtain ⟨j, hj⟩ : ∃ j, k = j + 1 := ⟨k - 1, by omega⟩
            have HJ := Lib.hid hj
            have HZJ := HZ.out j
            rw [← hj, HDL.out] at HZJ
            have e2 : ((a : Int) + (k : Int)).toNat = a + k := by omega
            have e3 : (0 : Int) ≤ (a : Int) + (k : Int) := by omega
            have e4 : (a : Int) ≤ (a : Int) + (k : Int) := by omega
            have e5 : (a : Int) + (k : Int) ≤ (s.length : Int) := by omega
            clear hxb hal
            rcases hb : signR.contains ((s.drop a).take k) with _ | _
            · rw [hb] at HO
              have HX : Hid (sgN (s.drop a) k = sgN (s.drop a) (k - 1)) := by
                unfold Hid
                rw [HZJ, if_neg (by rw [hb]; simp), show k - 1 = j from by omega]
              clear hb HZJ hj
              generalize sgN (s.drop a) (k - 1) = v0 at *
              go_wp2_with fail
              refine HO.out.mono ?_
              rintro e w' ⟨rfl, rfl⟩
              go_wp2_with fail
              clear e2 e3 e4 e5
              go_roundw
              case rel => exact ⟨k + 1, by omega, by omega, by go_num, by rw [show k + 1 - 1 = k from by omega, HX.out], HB2.out⟩
              case measure => simp [intOf]; omega
            · rw [hb] at HO
              have HX : Hid (sgN (s.drop a) k = k) := by
                unfold Hid
                rw [HZJ, if_pos ⟨by omega, hb⟩]
              clear hb HZJ hj
              generalize sgN (s.drop a) (k - 1) = v0 at *
              go_wp2_with fail
              refine HO.out.mono ?_
              rintro e w' ⟨rfl, rfl⟩
              go_wp2_with fail
              clear e2 e3 e4 e5
              go_roundw
              case rel => exact ⟨k + 1, by omega, by omega, by go_num, by rw [show k + 1 - 1 = k from by omega, HX.out], HB2.out⟩
              case measure => simp [intOf]; omega
          · have t3 : decide ((a : Int) + (k : Int) ≤ (s.length : Int)) = false := decide_eq_false (by omega)
            have t4 : decide (a + k ≤ s.length) = false := decide_eq_false hle
            have HX : Hid (sgN (s.drop a) (k - 1) = (signW (s.drop a)).length) := by
              have h1 := HSH.out (k - 1) (by rw [HDL.out]; omega) (3 - (k - 1))
              rw [show k - 1 + (3 - (k - 1)) = 3 from by omega, HSN.out] at h1
              exact h1.symm
            generalize sgN (s.drop a) (k - 1) = v0 at *
            go_wp2_with fail
            go_ret
            exact ⟨ret_nat (by rw [HW.out]; exact HX.out), HB.out⟩
        · have t1 : decide ((k : Int) ≤ 3) = false := decide_eq_false (by omega)
          have t2 : decide (k ≤ 3) = false := decide_eq_false h3
          have HX : Hid (sgN (s.drop a) (k - 1) = (signW (s.drop a)).length) := by
            unfold Hid
            rw [show k - 1 = 3 from by omega, HSN.out]
          generalize sgN (s.drop a) (k - 1) = v0 at *
          go_wp2_with fail
          go_ret
          exact ⟨ret_nat (by rw [HW.out]; exact HX.out), HB.out⟩
    · rw [hd] at HD0 HW
      go_enter Tryd.func20, Tryd.ntmps20
      go_wp2_with fail
      refine (HL0.out _).mono ?_
      rintro e w' ⟨rfl, rfl⟩
      go_wp2_with fail
      refine (HD0.out _).mono ?_
      rintro e w' ⟨rfl, rfl⟩
      go_wp2_with fail
      go_loopw [5] (fun i wr => ∃ k : Nat, a + k ≤ s.length ∧ i = .int .i64 k ∧ wr = w ∧ Hid (∀ j, j < k → digB (s.getD (a + j) 0) = true)) (fun i _ => s.length - (intOf i).toNat)
      case atStart => exact ⟨0, by omega, rfl, rfl, fun j hj => absurd hj (by omega)⟩
      case round =>
        obtain ⟨k, hk, rfl, rfl, HA⟩ := hrel
        by_cases hlt : a + k < s.length
        · have t1 : decide ((a : Int) + (k : Int) < (s.length : Int)) = true := decide_eq_true (by omega)
          have t2 : decide (a + k < s.length) = true := decide_eq_true hlt
          have hk2 : a + k < sb.size := by omega
          have hg := HAT.out (a + k) hk2
          have e1 : ((a : Int) + (k : Int)).toNat = a + k := by omega
          obtain ⟨c, hc⟩ : ∃ c, c = s.getD (a + k) 0 := ⟨_, rfl⟩
          rw [← hc] at hg
          have HC := Lib.hid hc
          have HD1 := Lib.hid (HD.out c)
          clear hc
          rcases hx : digB c with _ | _
          · rw [hx] at HD1
            have HX : Hid (((s.drop a).takeWhile digB).length = k) := takeW_len digB s a k hk HA.out (.inr (by rw [← HC.out]; exact hx))
            clear hx
            go_wp2_with fail
            refine (HD1.out _).mono ?_
            rintro e w' ⟨rfl, rfl⟩
            go_wp2_with fail
            go_ret
            exact ⟨ret_nat (by rw [HW.out]; exact HX.out.symm), Below.refl _ _⟩
          · rw [hx] at HD1
            have HX := Lib.hid hx
            clear hx
            go_wp2_with fail
            refine (HD1.out _).mono ?_
            rintro e w' ⟨rfl, rfl⟩
            go_wp2_with fail
            go_roundw
            case rel =>
              refine ⟨k + 1, by omega, by go_num, trivial, fun j hj => ?_⟩
              by_cases e : j = k
              · rw [e, ← HC.out]; exact HX.out
              · exact HA.out j (by omega)
            case measure => simp [intOf]; omega
        · have t1 : decide ((a : Int) + (k : Int) < (s.length : Int)) = false := decide_eq_false (by omega)
          have t2 : decide (a + k < s.length) = false := decide_eq_false hlt
          have HX : Hid (((s.drop a).takeWhile digB).length = k) := takeW_len digB s a k hk HA.out (.inl (by omega))
          go_wp2_with fail
          go_ret
          exact ⟨ret_nat (by rw [HW.out]; exact HX.out.symm), Below.refl _ _⟩
  · rw [hl] at HL0 HW
    go_enter Tryd.func20, Tryd.ntmps20
    go_wp2_with fail
    refine (HL0.out _).mono ?_
    rintro e w' ⟨rfl, rfl⟩
    go_wp2_with fail
    go_loopw [5] (fun i wr => ∃ k : Nat, a + k ≤ s.length ∧ i = .int .i64 k ∧ wr = w ∧ Hid (∀ j, j < k → namB (s.getD (a + j) 0) = true)) (fun i _ => s.length - (intOf i).toNat)
    case atStart => exact ⟨0, by omega, rfl, rfl, fun j hj => absurd hj (by omega)⟩
    case round =>
      obtain ⟨k, hk, rfl, rfl, HA⟩ := hrel
      by_cases hlt : a + k < s.length
      · have t1 : decide ((a : Int) + (k : Int) < (s.length : Int)) = true := decide_eq_true (by omega)
        have t2 : decide (a + k < s.length) = true := decide_eq_true hlt
        have hk2 : a + k < sb.size := by omega
        have hg := HAT.out (a + k) hk2
        have e1 : ((a : Int) + (k : Int)).toNat = a + k := by omega
        obtain ⟨c, hc⟩ : ∃ c, c = s.getD (a + k) 0 := ⟨_, rfl⟩
        rw [← hc] at hg
        have HC := Lib.hid hc
        have HL1 := Lib.hid (HL.out c)
        have HD1 := Lib.hid (HD.out c)
        have h95 := byte95 c
        have HYES : Hid (namB c = true → ∀ j, j < k + 1 → namB (s.getD (a + j) 0) = true) := fun hx j hj => by
          by_cases e : j = k
          · rw [e, ← HC.out]; exact hx
          · exact HA.out j (by omega)
        have HNO : Hid (namB c = false → wordN (s.drop a) = k) := fun hx => by
          rw [HW.out]
          exact takeW_len namB s a k hk HA.out (.inr (by rw [← HC.out]; exact hx))
        have HNM : Hid (namB c = (letB c || digB c || c == 95)) := rfl
        clear hc
        rcases hx : letB c with _ | _
        · rw [hx] at HL1 HNM
          rcases hy : digB c with _ | _
          · rw [hy] at HD1 HNM
            rcases hz : (c == 95) with _ | _
            · rw [hz] at h95 HNM
              have HX := Lib.hid (HNO.out HNM.out)
              clear hx hy hz HYES HNO
              go_wp2_with fail
              refine (HL1.out _).mono ?_
              rintro e w' ⟨rfl, rfl⟩
              go_wp2_with fail
              refine (HD1.out _).mono ?_
              rintro e w' ⟨rfl, rfl⟩
              go_wp2_with fail
              go_ret
              exact ⟨ret_nat HX.out.symm, Below.refl _ _⟩
            · rw [hz] at h95 HNM
              have HX := Lib.hid (HYES.out HNM.out)
              clear hx hy hz HYES HNO
              go_wp2_with fail
              refine (HL1.out _).mono ?_
              rintro e w' ⟨rfl, rfl⟩
              go_wp2_with fail
              refine (HD1.out _).mono ?_
              rintro e w' ⟨rfl, rfl⟩
              go_wp2_with fail
              go_roundw
              case rel => exact ⟨k + 1, by omega, by go_num, trivial, HX.out⟩
              case measure => simp [intOf]; omega
          · rw [hy] at HD1 HNM
            have HX := Lib.hid (HYES.out HNM.out)
            clear hx hy HYES HNO h95
            go_wp2_with fail
            refine (HL1.out _).mono ?_
            rintro e w' ⟨rfl, rfl⟩
            go_wp2_with fail
            refine (HD1.out _).mono ?_
            rintro e w' ⟨rfl, rfl⟩
            go_wp2_with fail
            go_roundw
            case rel => exact ⟨k + 1, by omega, by go_num, trivial, HX.out⟩
            case measure => simp [intOf]; omega
        · rw [hx] at HL1 HNM
          have HX := Lib.hid (HYES.out HNM.out)
          clear hx HYES HNO h95
          go_wp2_with fail
          refine (HL1.out _).mono ?_
          rintro e w' ⟨rfl, rfl⟩
          go_wp2_with fail
          go_roundw
          case rel => exact ⟨k + 1, by omega, by go_num, trivial, HX.out⟩
          case measure => simp [intOf]; omega
      · have t1 : decide ((a : Int) + (k : Int) < (s.length : Int)) = false := decide_eq_false (by omega)
        have t2 : decide (a + k < s.length) = false := decide_eq_false hlt
        have HX : Hid (((s.drop a).takeWhile namB).length = k) := takeW_len namB s a k hk HA.out (.inl (by omega))
        go_wp2_with fail
        go_ret
        exact ⟨ret_nat (by rw [HW.out]; exact HX.out.symm), Below.refl _ _⟩
end Go.Proofs.YtgbnhmnkdfiiiaaDoor
