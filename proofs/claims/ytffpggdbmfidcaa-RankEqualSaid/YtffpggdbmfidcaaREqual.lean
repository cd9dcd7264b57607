/- RankEqual is true: the statement Rows.RankEqualSaid, without a condition. -/
import Derived.Test.YtffpggdbmfidcaaTrio
namespace Go.Proofs.Ytffpggdbmfidcaa
open Go.ChangeShapes Go.WideShapes Go.ChangeAt Go.RowKit HeapM

namespace REqual
def Rel1 (a b c n : Nat) (xs : List Int) (w : World) (v : Value) (wr : World) : Prop :=
  ∃ k : Nat, v = .int .i64 (k : Int) ∧ k ≤ n ∧ (∀ j, j < k → 0 ≤ xs.getD j 0 ∧ xs.getD j 0 ≤ 1125899906842624) ∧
    Trio w.heap.size w wr n a (scOf xs k) (fun _ => true) b (scOf (dbl xs) k) (fun _ => true) c (scOf xs k) (fun _ => true)
def Mid (a b c n : Nat) (xs : List Int) (w wr : World) : Prop :=
  ∃ sc tc, Trio w.heap.size w wr n a (scOf xs n) (fun _ => true) b (scOf (dbl xs) n) (fun _ => true) c sc tc
def Mid1 (a b c n : Nat) (xs : List Int) (t : Int) (w : World) (v : Value) (wr : World) : Prop :=
  (v = .bool true ∧ ∃ q : Nat, t = (q : Int) ∧ 1 ≤ q ∧ q ≤ n ∧ Trio w.heap.size w wr n c (upd (scOf xs n) q (moreS (scOf xs n q) 36028797018963968)) (fun _ => true) a (scOf xs n) (fun _ => true) b (scOf (dbl xs) n) (fun _ => true)) ∨
  (v = .bool false ∧ Mid a b c n xs w wr)
def Rel2 (a b c n : Nat) (xs : List Int) (w : World) (v : Value) (wr : World) : Prop :=
  ∃ (k : Nat) (wt : Nat → Bool) (sc : Nat → Int) (tc : Nat → Bool), v = .int .i64 (k : Int) ∧ k ≤ n ∧ cntB wt n + k = n ∧ Trio w.heap.size w wr n a (scOf xs n) wt b (scOf (dbl xs) n) wt c sc tc

set_option maxHeartbeats 12800000 in
set_option maxRecDepth 100000 in
theorem walk (A : Option Addr) (n c0 : Nat) (xs : List Int) (t : Int) (w : World) (h : Rd .i64 w w.heap.size A n xs) (hn : n ≤ 9223372036854775807) :
    Calls Try.prog 6 #[.slice A n c0, .int .i64 t] w fun e w' => e = .returned (.bool true) ∧ Below w.heap.size w w' := by
  have HR := Lib.hid h
  clear h
  by_cases hbig : 40 < n
  · go_enter Try.func6, Try.ntmps6
    go_wp2_with fail
    refine (alive_any _).mono ?_
    rintro e wa ⟨rfl, hB⟩
    have HB := Lib.hid hB; clear hB
    go_wp2_with fail
    go_ret
    exact ⟨rfl, HB.out⟩
  have hn40 : n ≤ 40 := by omega
  have ta : decide (40 < n) = false := decide_eq_false (by omega)
  have tb : decide ((40 : Int) < (n : Int)) = false := decide_eq_false (by omega)
  clear hbig hn
  go_enter Try.func6, Try.ntmps6
  go_wp2_with fail
  refine (alive_any _).mono ?_
  rintro e wa ⟨rfl, hB⟩
  have HB := Lib.hid hB; clear hB
  have hnn : ((n : Int).toNat) = n := by omega
  go_wp2_with fail
  refine (new_any (n : Int) _ (by omega)).mono ?_
  intro e1 w1 hm1
  rw [hnn] at hm1
  obtain ⟨a, F1, rfl, hm1'⟩ := hm1
  have HM1 : Hid (NewPost n wa (.returned (.pointer (some ⟨a, 0, none⟩))) w1) := ⟨a, F1, rfl, hm1'⟩
  clear hm1'
  go_wp2_with fail
  refine (new_any (n : Int) _ (by omega)).mono ?_
  intro e2 w2 hm2
  rw [hnn] at hm2
  obtain ⟨b, F2, rfl, hm2'⟩ := hm2
  have HM2 : Hid (NewPost n w1 (.returned (.pointer (some ⟨b, 0, none⟩))) w2) := ⟨b, F2, rfl, hm2'⟩
  clear hm2'
  go_wp2_with fail
  refine (new_any (n : Int) _ (by omega)).mono ?_
  intro e3 w3 hm3
  rw [hnn] at hm3
  obtain ⟨c, F3, rfl, hm3'⟩ := hm3
  have HS : Hid (Rel1 a b c n xs w (.int .i64 0) w3) := by
    obtain ⟨a', b', c', ea, eb, ec, hT⟩ := Trio.make HM1.out HM2.out (⟨c, F3, rfl, hm3'⟩ : NewPost n w2 (.returned (.pointer (some ⟨c, 0, none⟩))) w3) HB.out (Nat.le_refl _)
    injection ea with ea; injection ea with ea; injection ea with ea; injection ea with ea
    injection eb with eb; injection eb with eb; injection eb with eb; injection eb with eb
    injection ec with ec; injection ec with ec; injection ec with ec; injection ec with ec
    subst ea; subst eb; subst ec
    refine ⟨0, rfl, Nat.zero_le _, fun j hj => by omega, ?_⟩
    rw [scOf_zero, scOf_zero]
    exact hT
  clear hm3' HB HM1 HM2 ta tb hnn
  go_wp2_with fail
  go_loopw [32] (fun v wr => Rel1 a b c n xs w v wr) (fun v _ => n - (intOf v).toNat)
  case atStart => exact HS.out
  case round =>
    clear HS
    obtain ⟨k, rfl, hk, hx, hL⟩ := hrel
    have HX := Lib.hid hx
    clear hx
    by_cases hlt : k < n
    · obtain ⟨b0, o, hAe, hb0, hcell⟩ := HR.out.get hlt
      have hc : wr.cell? ⟨b0, o + k, none⟩ = some (.int .i64 (xs.getD k 0)) := (hL.out.cell hb0).trans hcell
      subst hAe
      by_cases hx0 : xs.getD k 0 < 0
      · have HB := Lib.hid hL.out
        clear hL hcell
        generalize xs.getD k 0 = x at *
        go_wp2_with fail
        go_ret
        exact ⟨rfl, HB.out⟩
      by_cases hx1 : 1125899906842624 < xs.getD k 0
      · have HB := Lib.hid hL.out
        clear hL hcell
        generalize xs.getD k 0 = x at *
        go_wp2_with fail
        go_ret
        exact ⟨rfl, HB.out⟩
      have hbu := hL.bump (by omega) (k + 1) (xs.getD k 0) (by omega) (by omega) (by omega) (by omega)
      rw [scOf_next xs k (by omega) (by omega), show ((k + 1 : Nat) : Int) = (k : Int) + 1 from by omega] at hbu
      have HBU := Lib.hid hbu
      have HX' : Hid (∀ j, j < k + 1 → 0 ≤ xs.getD j 0 ∧ xs.getD j 0 ≤ 1125899906842624) := fun j hj => by
        by_cases e : j = k
        · subst e; omega
        · exact HX.out j (by omega)
      have HN := Lib.hid (scOf_next xs k (by omega) (by omega))
      have HN2 := Lib.hid (scOf_next (dbl xs) k (by rw [dbl_getD]; omega) (by rw [dbl_getD]; omega))
      rw [dbl_getD] at HN2
      clear hL hbu hcell hb0
      generalize xs.getD k 0 = x at *
      have tx0 : decide (x < 0) = false := decide_eq_false hx0
      have tx1 : decide (1125899906842624 < x) = false := decide_eq_false hx1
      have tx2 : 0 ≤ x := by omega
      have tx3 : x ≤ 1125899906842624 := by omega
      clear hx0 hx1
      go_wp2_with fail
      refine HBU.out.mono ?_
      rintro e w4 ⟨rfl, hL4⟩
      have hb2 := hL4.rot.bump (by omega) (k + 1) (2 * x) (by omega) (by omega) (by omega) (by omega)
      rw [HN2.out, show ((k + 1 : Nat) : Int) = (k : Int) + 1 from by omega] at hb2
      have HB2 := Lib.hid hb2
      clear hL4 HBU hb2
      go_wp2_with fail
      refine HB2.out.mono ?_
      rintro e w5 ⟨rfl, hL5⟩
      have hb3 := hL5.rot.bump (by omega) (k + 1) x (by omega) (by omega) (by omega) (by omega)
      rw [HN.out, show ((k + 1 : Nat) : Int) = (k : Int) + 1 from by omega] at hb3
      have HB3 := Lib.hid hb3
      clear hL5 HB2 hb3
      go_wp2_with fail
      refine HB3.out.mono ?_
      rintro e w6 ⟨rfl, hL6⟩
      have HS' : Hid (Rel1 a b c n xs w (.int .i64 ((k : Int) + 1)) w6) := ⟨k + 1, by rw [show ((k + 1 : Nat) : Int) = (k : Int) + 1 from by omega], by omega, HX'.out, hL6.rot⟩
      clear hL6 HB3 hc
      go_wp2_with fail
      go_roundw
      case rel => exact HS'.out
      case measure => simp [intOf]; omega
    · have tk : decide (k < n) = false := decide_eq_false hlt
      have hkn : k = n := by omega
      subst hkn
      have HL := Lib.hid hL
      clear hL hk
      go_upto_region 15 with (fail)
      go_cut [63] (fun t' wx => Hid (Mid1 a b c k xs t w t' wx))
      case first =>
        by_cases hin : inB k t = true
        · obtain ⟨ht1, ht2⟩ := (inB_iff k t).1 hin
          obtain ⟨q, rfl⟩ := Int.eq_ofNat_of_zero_le (show 0 ≤ t by omega)
          have hq1 : 1 ≤ q := by omega
          have hq2 : q ≤ k := by omega
          have HBU := Lib.hid (HL.out.rot.rot.bump (by omega) q 36028797018963968 hq1 hq2 (by omega) (by omega))
          clear hin ht1 ht2
          go_wp2_with fail
          refine HBU.out.mono ?_
          rintro e w4 ⟨rfl, hL4⟩
          have HE : Hid (Mid1 a b c k xs (q : Int) w (.bool true) w4) := .inl ⟨rfl, q, rfl, hq1, hq2, hL4⟩
          clear hL4 HBU
          go_wp2_with fail
          go_meet
          exact HE.out
        · have HBU := Lib.hid (HL.out.rot.rot.bumpno (by omega) t 36028797018963968 (fun h => hin h.1))
          clear hin
          go_wp2_with fail
          refine HBU.out.mono ?_
          rintro e w' ⟨rfl, rfl⟩
          have HE : Hid (Mid1 a b c k xs t w (.bool false) wr) := .inr ⟨rfl, _, _, HL.out⟩
          clear HBU
          go_wp2_with fail
          go_meet
          exact HE.out
      case rest =>
      obtain ⟨wd, rfl⟩ : ∃ wd : World, wd = wc := ⟨_, rfl⟩
      have HC := Lib.hid hcut.out
      clear hcut HL
      go_upto_if 63 with (fail)
      go_cut [] (fun wx => Hid (Mid a b c k xs w wx))
      case first =>
        rcases HC.out with ⟨rfl, q, rfl, hq1, hq2, hL4⟩ | ⟨rfl, hM⟩
        · have HP := Lib.hid (hL4.pop (by omega) (by rw [cntB_all]; omega))
          clear hL4 HC
          go_wp2_with fail
          refine HP.out.mono ?_
          rintro e w5 ⟨u, hu, rfl, hL5⟩
          obtain rfl := first_top HX.out hq1 hq2 hu
          have HE : Hid (Mid a b c k xs w w5) := ⟨_, _, hL5.rot⟩
          clear hu hL5 HP
          have tu : ((u : Int) != (u : Int)) = false := by simp
          go_wp2_with fail
          go_meet
          exact HE.out
        · have HE : Hid (Mid a b c k xs w wd) := hM
          clear hM HC
          go_wp2_with fail
          go_meet
          exact HE.out
      case rest =>
        obtain ⟨sc, tc, hT⟩ := hcut.out
        have HS2 : Hid (Rel2 a b c k xs w (.int .i64 0) wc) := ⟨0, _, sc, tc, rfl, Nat.zero_le _, by rw [cntB_all]; rfl, hT⟩
        clear hT hcut HC HX tk
        go_wp2_with fail
        obtain ⟨wo, rfl⟩ : ∃ wo : World, wo = wr := ⟨_, rfl⟩
        go_loopw [78] (fun v wr => Rel2 a b c k xs w v wr) (fun v _ => k - (intOf v).toNat)
        case atStart => exact HS2.out
        case round =>
          clear HS2
          obtain ⟨i, wt, sc, tc, rfl, hik, hcn, hL⟩ := hrel
          by_cases hlt2 : i < k
          · have HP := Lib.hid (hL.pop (by omega) (by omega))
            clear hL
            go_wp2_with fail
            refine HP.out.mono ?_
            rintro e w4 ⟨v, hv, rfl, hL4⟩
            have HP2 := Lib.hid (hL4.rot.pop (by omega) (by omega))
            clear hL4 HP
            go_wp2_with fail
            refine HP2.out.mono ?_
            rintro e w5 ⟨u, hu, rfl, hL5⟩
            obtain rfl := hv.only (first_dbl hu)
            have HS' : Hid (Rel2 a b c k xs w (.int .i64 ((i : Int) + 1)) w5) :=
              ⟨i + 1, _, sc, tc, by rw [show ((i + 1 : Nat) : Int) = (i : Int) + 1 from by omega], by omega, by have := cntB_off hv.1 hv.2.1 hv.2.2.1; omega, hL5.rot.rot⟩
            clear hu hv hL5 HP2
            have tv : ((v : Int) != (v : Int)) = false := by simp
            go_wp2_with fail
            go_roundw
            case rel => exact HS'.out
            case measure => simp [intOf]; omega
          · have tk2 : decide (i < k) = false := decide_eq_false hlt2
            have HB := Lib.hid hL.out
            clear hL hcn
            go_wp2_with fail
            go_ret
            exact ⟨rfl, HB.out⟩

set_option maxHeartbeats 800000 in
set_option maxRecDepth 100000 in
theorem lifted (os : Os) (started : os.Started) (H : Type) (enc : TypeId × Value → H) :
    ReturnsInHanded {} Try.checked os 6 .any (Rows.rankEqualSpec.pre6 enc Try.prog Try.f6 Rows.rankEqualRow.domain false) (Rows.rankEqualSpec.post enc Try.prog Try.f6 false true false false) := by
  refine returnsInHanded_of_change (C := Try.checked) own_knob started (by kernel_rfl) Try.func6
    (ChangeSpec.witness6 (enc := enc) (C := Try.checked) false ⟨#[], #[.slice none 0 0, .int .i64 0], []⟩ 8 (by kernel_rfl) (by kernel_rfl) (by kernel_rfl) (by kernel_rfl)) ?_
  intro W base args ds gs before hval0 hW _ _
  have hval : ∀ (j : Nat) t v, Try.f6.params[j]? = some t → args[j]? = some v → Value.okWide Try.prog W .any base t v := hval0
  have hW' := hW
  obtain ⟨p, q, hA0, hV, rfl, _, _⟩ := hW
  have hA : DataW.TrodAll enc Try.prog W 0 (fun _ => true) true Try.f6.params.toList args.toList ds p := hA0
  rw [Try.params6] at hA hval
  obtain ⟨v0, v1, d0, d1, p0, p1, rfl, rfl, rfl, h0, h1⟩ := trodAll_two hA
  obtain ⟨rfl, rfl⟩ := trodVars_none hV
  obtain ⟨A, n, c, xs, rfl, hR, _, hn⟩ := open_scores (hval 0 49 v0 rfl rfl) h0
  obtain ⟨a1, rfl, rfl, rfl, w1⟩ := open_int Try.underlying3 (hval 1 3 v1 rfl rfl) h1
  clear hA0 hval0
  simp only [List.append_nil] at hW'
  have hlt : ∀ y ∈ p0, y.block < W.heap.size := fun y hy => by simpa using hW'.lt y (by simp [hy])
  refine (walk A n c xs a1 W hR hn).mono fun e W' ⟨he, hB⟩ => ?_
  subst he
  exact ⟨_, rfl, _, _, _, [], _, [], hW', trodAll_mk1 (shut_bool Try.underlying4 true), trodAll_mk2 (Below.trod laid_out (by kernel_rfl) (of_decide_eq_true (by kernel_rfl)) h0 hB hlt) (shut_int Try.underlying3 w1), rfl, hB.frame _, fun h => by cases h⟩

theorem proved : Rows.RankEqualSaid :=
  OpenClaim.holds_of_wide 6 Try.f6 rfl rfl rfl rfl rfl rfl rfl ⟨rfl, rfl, rfl, rfl, rfl⟩ rfl rfl rfl rfl rfl (by kernel_rfl) Try.func6 (by kernel_rfl)
    (of_decide_eq_true (by kernel_rfl)) (by unfold Func.isWrapper; first | (rw [if_pos (by decide +kernel)]; kernel_rfl) | (rw [if_neg (by decide +kernel)]; exact ⟨rfl, rfl⟩))
    (fun os started H enc _ => lifted os started H enc)
end REqual
theorem rankEqual_holds : Rows.RankEqualSaid := REqual.proved
#print axioms rankEqual_holds
end Go.Proofs.Ytffpggdbmfidcaa
