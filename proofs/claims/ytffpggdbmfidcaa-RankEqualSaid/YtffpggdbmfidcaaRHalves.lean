/- RankHalves is true: the statement Rows.RankHalvesSaid, without a condition. -/
import Derived.Test.YtffpggdbmfidcaaRSorts
namespace Go.Proofs.Ytffpggdbmfidcaa
open Go.ChangeShapes Go.WideShapes Go.ChangeAt Go.RowKit HeapM

/-- The scores after the first k have been bumped. -/
def scOf (xs : List Int) (k : Nat) : Nat → Int := fun v => if 1 ≤ v ∧ v ≤ k then xs.getD (v - 1) 0 else 0
theorem scOf_zero (xs : List Int) : scOf xs 0 = fun _ => 0 := by
  funext v; unfold scOf; rw [if_neg (by omega)]
theorem scOf_at (xs : List Int) {k v : Nat} (h1 : 1 ≤ v) (h2 : v ≤ k) : scOf xs k v = xs.getD (v - 1) 0 := by unfold scOf; rw [if_pos ⟨h1, h2⟩]
theorem scOf_next (xs : List Int) (k : Nat) (h0 : 0 ≤ xs.getD k 0) (h1 : xs.getD k 0 ≤ 1152921504606846976) : upd (scOf xs k) (k + 1) (moreS (scOf xs k (k + 1)) (xs.getD k 0)) = scOf xs (k + 1) := by
  funext v
  have e0 : scOf xs k (k + 1) = 0 := by unfold scOf; rw [if_neg (by omega)]
  rw [e0]
  by_cases e : v = k + 1
  · subst e
    rw [upd_at, scOf_at _ (by omega) (Nat.le_refl _)]
    unfold moreS
    rw [show k + 1 - 1 = k from rfl]; omega
  · rw [upd_ne _ _ e]
    unfold scOf
    by_cases h : 1 ≤ v ∧ v ≤ k
    · rw [if_pos h, if_pos (by omega)]
    · rw [if_neg h, if_neg (by omega)]

namespace RHalves
def Rel1 (b n : Nat) (xs : List Int) (w : World) (v : Value) (wr : World) : Prop :=
  ∃ k : Nat, v = .int .i64 (k : Int) ∧ k ≤ n ∧ (∀ j, j < k → 0 ≤ xs.getD j 0 ∧ xs.getD j 0 ≤ 1125899906842624) ∧ Live w.heap.size w wr b n (scOf xs k) (fun _ => true)
def Rel2 (b n f : Nat) (xs : List Int) (w : World) (v : Value) (wr : World) : Prop :=
  ∃ k : Nat, v = .int .i64 (k : Int) ∧ k ≤ n ∧ Live w.heap.size w wr b n (fun u => scOf xs n u / 2) (upd (fun _ => true) f false)
/-- The place that is asked again. -/
def Plc (n : Nat) (v : Value) : Prop := ∃ q : Nat, v = .int .i64 (q : Int) ∧ 1 ≤ q ∧ q ≤ n

set_option maxHeartbeats 12800000 in
set_option maxRecDepth 100000 in
theorem walk (A : Option Addr) (n c : Nat) (xs : List Int) (t : Int) (w : World) (h : Rd .i64 w w.heap.size A n xs) (h64 : In64 xs) (hn : n ≤ 9223372036854775807) :
    Calls Try.prog 7 #[.slice A n c, .int .i64 t] w fun e w' => e = .returned (.bool true) ∧ Below w.heap.size w w' := by
  have HR := Lib.hid h
  have H64 := Lib.hid h64
  clear h h64
  by_cases hbig : 40 < n
  · go_enter Try.func7, Try.ntmps7
    go_wp2_with fail
    refine (alive_any _).mono ?_
    rintro e wa ⟨rfl, hB⟩
    have HB := Lib.hid hB; clear hB
    go_wp2_with fail
    go_ret
    exact ⟨rfl, HB.out⟩
  by_cases hn0 : n = 0
  · subst hn0
    go_enter Try.func7, Try.ntmps7
    go_wp2_with fail
    refine (alive_any _).mono ?_
    rintro e wa ⟨rfl, hB⟩
    have HB := Lib.hid hB; clear hB
    go_wp2_with fail
    go_ret
    exact ⟨rfl, HB.out⟩
  have hn40 : n ≤ 40 := by omega
  have hn1 : 1 ≤ n := by omega
  have ta : decide (40 < n) = false := decide_eq_false (by omega)
  have tb : decide ((40 : Int) < (n : Int)) = false := decide_eq_false (by omega)
  have tc : decide ((n : Int) < 1) = false := decide_eq_false (by omega)
  have td : decide (n < 1) = false := decide_eq_false (by omega)
  clear hbig hn0 hn
  go_enter Try.func7, Try.ntmps7
  go_wp2_with fail
  refine (alive_any _).mono ?_
  rintro e wa ⟨rfl, hB⟩
  have HB := Lib.hid hB; clear hB
  go_wp2_with fail
  refine (new_any (n : Int) _ (by omega)).mono ?_
  intro e w1 hm
  rw [show ((n : Int).toNat) = n from by omega] at hm
  obtain ⟨b, rfl, h1⟩ := Live.make hm HB.out (Nat.le_refl _)
  rw [← scOf_zero xs] at h1
  have HS : Hid (Rel1 b n xs w (.int .i64 0) w1) := ⟨0, rfl, Nat.zero_le _, fun j hj => by omega, h1⟩
  clear hm h1 HB ta tb tc td
  go_wp2_with fail
  go_loopw [30] (fun v wr => Rel1 b n xs w v wr) (fun v _ => n - (intOf v).toNat)
  case atStart => exact HS.out
  case round =>
    clear HS
    obtain ⟨k, rfl, hk, hx, hL⟩ := hrel
    have HX := Lib.hid hx
    clear hx
    by_cases hlt : k < n
    · obtain ⟨b0, o, hAe, hb0, hcell⟩ := HR.out.get hlt
      have hc : wr.cell? ⟨b0, o + k, none⟩ = some (.int .i64 (xs.getD k 0)) := (hL.out.cell hb0).trans hcell
      subst hAe
      by_cases hx0 : xs.getD k 0 < 0
      · have HB := Lib.hid hL.out
        clear hL hcell
        generalize xs.getD k 0 = x at *
        go_wp2_with fail
        go_ret
        exact ⟨rfl, HB.out⟩
      by_cases hx1 : 1125899906842624 < xs.getD k 0
      · have HB := Lib.hid hL.out
        clear hL hcell
        generalize xs.getD k 0 = x at *
        go_wp2_with fail
        go_ret
        exact ⟨rfl, HB.out⟩
      have hbu := hL.bump (by omega) (k + 1) (xs.getD k 0) (by omega) (by omega) (by omega) (by omega)
      rw [scOf_next xs k (by omega) (by omega), show ((k + 1 : Nat) : Int) = (k : Int) + 1 from by omega] at hbu
      have HX' : Hid (∀ j, j < k + 1 → 0 ≤ xs.getD j 0 ∧ xs.getD j 0 ≤ 1125899906842624) := fun j hj => by
        by_cases e : j = k
        · subst e; omega
        · exact HX.out j (by omega)
      have HBU := Lib.hid hbu
      clear hL hbu hcell hb0
      generalize xs.getD k 0 = x at *
      have tx0 : decide (x < 0) = false := decide_eq_false hx0
      have tx1 : decide (1125899906842624 < x) = false := decide_eq_false hx1
      clear hx0 hx1
      go_wp2_with fail
      refine HBU.out.mono ?_
      rintro e w2 ⟨rfl, hL'⟩
      have HS' : Hid (Rel1 b n xs w (.int .i64 ((k : Int) + 1)) w2) := ⟨k + 1, by rw [show ((k + 1 : Nat) : Int) = (k : Int) + 1 from by omega], by omega, HX'.out, hL'⟩
      clear hL' HBU hc
      go_wp2_with fail
      go_roundw
      case rel => exact HS'.out
      case measure => simp [intOf]; omega
    · have tk : decide (k < n) = false := decide_eq_false hlt
      have hkn : k = n := by omega
      subst hkn
      have HH := Lib.hid (hL.halve (by omega))
      clear hL hk
      go_wp2_with fail
      refine HH.out.mono ?_
      rintro e w2 ⟨rfl, hL'⟩
      have HP := Lib.hid (hL'.pop (by omega) (by rw [cntB_all]; omega))
      clear hL' HH
      go_wp2_with fail
      refine HP.out.mono ?_
      rintro e w3 ⟨f, hf, rfl, hL⟩
      have hf1 := hf.1
      have hf2 := hf.2.1
      have HFS : Hid (∀ i, i < k → xs.getD i 0 ≤ xs.getD (f - 1) 0 + 1 ∧ xs.getD i 0 / 2 = scOf xs k (i + 1) / 2) := fun i hi => by
        have := hf.2.2.2 (i + 1) (by omega) (by omega) rfl
        unfold le at this
        have e1 := scOf_at xs (show 1 ≤ i + 1 by omega) (show i + 1 ≤ k by omega)
        rw [Nat.add_sub_cancel] at e1
        simp only [e1, scOf_at xs hf1 hf2] at this
        exact ⟨by omega, by rw [e1]⟩
      have HS2 : Hid (Rel2 b k f xs w (.int .i64 0) w3) := ⟨0, rfl, Nat.zero_le _, hL⟩
      clear hL HP hf tk
      go_wp2_with fail
      obtain ⟨wo, rfl⟩ : ∃ wo : World, wo = wr := ⟨_, rfl⟩
      go_loopw [56] (fun v wr => Rel2 b k f xs w v wr) (fun v _ => k - (intOf v).toNat)
      case atStart => exact HS2.out
      case round =>
        clear HS2
        obtain ⟨i, rfl, hik, hL⟩ := hrel
        by_cases hlt2 : i < k
        · obtain ⟨b0, o, hAe, hb0, hcell⟩ := HR.out.get hlt2
          obtain ⟨b0', o', hAe', hb0', hcellf⟩ := HR.out.get (show f - 1 < k by omega)
          rw [hAe] at hAe'
          injection hAe' with hAe'
          injection hAe' with e1 e2
          subst e1; subst e2
          have hc : wr.cell? ⟨b0, o + i, none⟩ = some (.int .i64 (xs.getD i 0)) := (hL.out.cell hb0).trans hcell
          have hcf : wr.cell? ⟨b0, o + (f - 1), none⟩ = some (.int .i64 (xs.getD (f - 1) 0)) := (hL.out.cell hb0).trans hcellf
          have hxi := HX.out i hlt2
          have hxf := HX.out (f - 1) (by omega)
          have hfs := HFS.out i hlt2
          subst hAe
          have hsc := hL.scoreof (by omega) (i + 1) (by omega) (by omega)
          simp only [← hfs.2] at hsc
          rw [show ((i + 1 : Nat) : Int) = (i : Int) + 1 from by omega] at hsc
          have HSC := Lib.hid hsc
          have hfi : ((f : Int) - 1).toNat = f - 1 := by omega
          have hfz : 0 ≤ (f : Int) - 1 := by omega
          have hfk : (f : Int) - 1 < (k : Int) := by omega
          have HS' : Hid (Rel2 b k f xs w (.int .i64 ((i : Int) + 1)) wr) := ⟨i + 1, by rw [show ((i + 1 : Nat) : Int) = (i : Int) + 1 from by omega], by omega, hL⟩
          have hle := hfs.1
          clear hL hsc hfs hcell hcellf hb0'
          generalize xs.getD i 0 = x at *
          generalize xs.getD (f - 1) 0 = y at *
          have t1 : decide (y + 1 < x) = false := decide_eq_false (by omega)
          have t2 : (x / 2 != x / 2) = false := by simp
          obtain ⟨hxi0, hxi1⟩ := hxi
          obtain ⟨hxf0, hxf1⟩ := hxf
          go_wp2_with fail
          refine HSC.out.mono ?_
          rintro e w' ⟨rfl, rfl⟩
          go_wp2_with fail
          go_roundw
          case rel => exact HS'.out
          case measure => simp [intOf]; omega
        · have tk2 : decide (i < k) = false := decide_eq_false hlt2
          clear hik hlt2
          have HL := Lib.hid hL
          have HSZ := Lib.hid hL.size
          have hcn := cntB_off (wt := fun _ => true) hf1 hf2 rfl
          rw [cntB_all] at hcn
          obtain ⟨m, hm⟩ : ∃ m, cntB (upd (fun _ => true) f false) k = m := ⟨_, rfl⟩
          rw [hm] at HSZ hcn
          have HM := Lib.hid hm
          clear hm hL HFS HX H64 HR
          go_upto_region 21 with (fail)
          go_cut [12] (fun v wx => Hid (Plc k v) ∧ wx = wr)
          case first =>
            by_cases ht : t ≤ 0
            · by_cases ht0 : t = 0
              · subst ht0
                have hmod : (0 : Int) % (k : Int) = 0 := Int.zero_emod _
                go_wp2_with fail
                go_meet
                exact ⟨⟨1, rfl, by omega, by omega⟩, rfl⟩
              · have ht1 : t < 0 := by omega
                have hmod : (0 : Int) % (k : Int) = 0 := Int.zero_emod _
                clear ht ht0
                go_wp2_with fail
                go_meet
                exact ⟨⟨1, rfl, by omega, by omega⟩, rfl⟩
            · have ht1 : 0 < t := by omega
              have hk0 : 1 ≤ (k : Int) := by omega
              have hm0 : 0 ≤ t % (k : Int) := Int.emod_nonneg _ (by omega)
              have hm1 : t % (k : Int) < (k : Int) := Int.emod_lt_of_pos _ (by omega)
              have HQ : Hid (Plc k (.int .i64 (1 + t % (k : Int)))) := ⟨(1 + t % (k : Int)).toNat, by rw [show (((1 + t % (k : Int)).toNat : Nat) : Int) = 1 + t % (k : Int) from by omega], by omega, by omega⟩
              clear ht
              go_wp2_with fail
              go_meet
              exact ⟨HQ.out, rfl⟩
          case rest =>
            obtain ⟨hpl, rfl⟩ := hcut
            obtain ⟨q, rfl, hq1, hq2⟩ := hpl
            have HW := Lib.hid (HL.out.waitsof (by omega) q hq1 hq2)
            have HP1 := Lib.hid (HL.out.push (by omega) q hq1 hq2)
            go_wp2_with fail
            refine HSZ.out.mono ?_
            rintro e w' ⟨rfl, rfl⟩
            go_wp2_with fail
            refine HW.out.mono ?_
            rintro e w' ⟨rfl, rfl⟩
            clear HSZ HW
            go_wp2_with fail
            refine HP1.out.mono ?_
            rintro e w4 ⟨rfl, hL4⟩
            have HP2 := Lib.hid (hL4.push (by omega) q hq1 hq2)
            clear hL4 HP1 HL
            go_wp2_with fail
            refine HP2.out.mono ?_
            rintro e w5 ⟨rfl, hL5⟩
            have hw5 := hL5.waitsof (by omega) q hq1 hq2
            rw [upd_at] at hw5
            have HW5 := Lib.hid hw5
            have HB := Lib.hid hL5.out
            have hupd : upd (upd (upd (fun _ => true) f false) q true) q true = upd (upd (fun _ => true) f false) q true := by
              funext u; unfold upd; split <;> rfl
            rw [hupd] at hL5
            by_cases hqf : q = f
            · have hwf : upd (fun _ => true) f false q = false := by rw [hqf, upd_at]
              have hs5 := hL5.size
              rw [cntB_on hq1 hq2 hwf, HM.out, show ((m + 1 : Nat) : Int) = (m : Int) + 1 from by omega] at hs5
              have HS5 := Lib.hid hs5
              rw [hwf]
              have teq : ((m : Int) + 1 == (m : Int) + 1) = true := by simp
              clear hL5 hs5 hw5 HP2 hupd hwf hqf
              go_wp2_with fail
              refine HW5.out.mono ?_
              rintro e w' ⟨rfl, rfl⟩
              go_wp2_with fail
              refine HS5.out.mono ?_
              rintro e w' ⟨rfl, rfl⟩
              go_wp2_with fail
              go_ret
              exact ⟨rfl, HB.out⟩
            · have hwf : upd (fun _ => true) f false q = true := by rw [upd_ne _ _ hqf]
              have hs5 := hL5.size
              rw [cntB_same (wt := upd (fun _ => true) f false) (fun u _ _ => by
                by_cases e : u = q
                · rw [e, upd_at, hwf]
                · rw [upd_ne _ _ e]), HM.out] at hs5
              have HS5 := Lib.hid hs5
              rw [hwf]
              have teq : ((m : Int) == (m : Int)) = true := by simp
              clear hL5 hs5 hw5 HP2 hupd hwf hqf
              go_wp2_with fail
              refine HW5.out.mono ?_
              rintro e w' ⟨rfl, rfl⟩
              go_wp2_with fail
              refine HS5.out.mono ?_
              rintro e w' ⟨rfl, rfl⟩
              go_wp2_with fail
              go_ret
              exact ⟨rfl, HB.out⟩

set_option maxHeartbeats 800000 in
set_option maxRecDepth 100000 in
theorem lifted (os : Os) (started : os.Started) (H : Type) (enc : TypeId × Value → H) :
    ReturnsInHanded {} Try.checked os 7 .any (Rows.rankHalvesSpec.pre6 enc Try.prog Try.f7 Rows.rankHalvesRow.domain false) (Rows.rankHalvesSpec.post enc Try.prog Try.f7 false true false false) := by
  refine returnsInHanded_of_change (C := Try.checked) own_knob started (by kernel_rfl) Try.func7
    (ChangeSpec.witness6 (enc := enc) (C := Try.checked) false ⟨#[], #[.slice none 0 0, .int .i64 0], []⟩ 8 (by kernel_rfl) (by kernel_rfl) (by kernel_rfl) (by kernel_rfl)) ?_
  intro W base args ds gs before hval0 hW _ _
  have hval : ∀ (j : Nat) t v, Try.f7.params[j]? = some t → args[j]? = some v → Value.okWide Try.prog W .any base t v := hval0
  have hW' := hW
  obtain ⟨p, q, hA0, hV, rfl, _, _⟩ := hW
  have hA : DataW.TrodAll enc Try.prog W 0 (fun _ => true) true Try.f7.params.toList args.toList ds p := hA0
  rw [Try.params7] at hA hval
  obtain ⟨v0, v1, d0, d1, p0, p1, rfl, rfl, rfl, h0, h1⟩ := trodAll_two hA
  obtain ⟨rfl, rfl⟩ := trodVars_none hV
  obtain ⟨A, n, c, xs, rfl, hR, h64, hn⟩ := open_scores (hval 0 49 v0 rfl rfl) h0
  obtain ⟨a1, rfl, rfl, rfl, w1⟩ := open_int Try.underlying3 (hval 1 3 v1 rfl rfl) h1
  clear hA0 hval0
  simp only [List.append_nil] at hW'
  have hlt : ∀ y ∈ p0, y.block < W.heap.size := fun y hy => by simpa using hW'.lt y (by simp [hy])
  refine (walk A n c xs a1 W hR h64 hn).mono fun e W' ⟨he, hB⟩ => ?_
  subst he
  exact ⟨_, rfl, _, _, _, [], _, [], hW', trodAll_mk1 (shut_bool Try.underlying4 true), trodAll_mk2 (Below.trod laid_out (by kernel_rfl) (of_decide_eq_true (by kernel_rfl)) h0 hB hlt) (shut_int Try.underlying3 w1), rfl, hB.frame _, fun h => by cases h⟩

theorem proved : Rows.RankHalvesSaid :=
  OpenClaim.holds_of_wide 7 Try.f7 rfl rfl rfl rfl rfl rfl rfl ⟨rfl, rfl, rfl, rfl, rfl⟩ rfl rfl rfl rfl rfl (by kernel_rfl) Try.func7 (by kernel_rfl)
    (of_decide_eq_true (by kernel_rfl)) (by unfold Func.isWrapper; first | (rw [if_pos (by decide +kernel)]; kernel_rfl) | (rw [if_neg (by decide +kernel)]; exact ⟨rfl, rfl⟩))
    (fun os started H enc _ => lifted os started H enc)
end RHalves
theorem rankHalves_holds : Rows.RankHalvesSaid := RHalves.proved
#print axioms rankHalves_holds
end Go.Proofs.Ytffpggdbmfidcaa
