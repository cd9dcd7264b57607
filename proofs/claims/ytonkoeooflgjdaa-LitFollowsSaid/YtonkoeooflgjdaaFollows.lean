/- LitFollows is true of any two clauses and any values: the statement Rows.LitFollowsSaid, without a condition. -/
import Derived.Test.YtonkoeooflgjdaaLaw
import Derived.Test.YtonkoeooflgjdaaApp
namespace Go.Proofs.Ytonkoeooflgjdaa
open Go.ChangeShapes Go.WideShapes Go.ChangeAt Go.RowKit LitM

/-- Values for the variables below k: no variable by both signs. -/
structure Vals (k : Nat) (S : List Int) : Prop where
  bd : ∀ x ∈ S, (1 ≤ x ∧ x < k) ∨ (-(k : Int) < x ∧ x ≤ -1)
  no : ∀ x ∈ S, -x ∉ S
  len : S.length ≤ k
theorem Vals.start : Vals 1 [] := ⟨by simp, by simp, by simp⟩
theorem Vals.add {k : Nat} {S : List Int} (h : Vals k S) (hk : 1 ≤ k) {y : Int} (hy : y = (k : Int) ∨ y = -(k : Int)) : Vals (k + 1) (S ++ [y]) := by
  refine ⟨fun x hx => ?_, fun x hx hn => ?_, by simp; exact h.len⟩
  · rw [List.mem_append, List.mem_singleton] at hx
    rcases hx with hx | hx
    · have := h.bd x hx; omega
    · omega
  · rw [List.mem_append, List.mem_singleton] at hx hn
    rcases hx with hx | hx <;> rcases hn with hn | hn
    · exact h.no x hx hn
    · have := h.bd x hx; omega
    · have := h.bd _ hn; omega
    · omega
theorem holds_clean {xs ys S : List Int} (h : IsClean xs ys) : holdsB ys S = holdsB xs S := by
  unfold holdsB
  rw [Bool.eq_iff_iff, List.any_eq_true, List.any_eq_true]
  exact ⟨fun ⟨x, h1, h2⟩ => ⟨x, (h.2 x).1 h1, h2⟩, fun ⟨x, h1, h2⟩ => ⟨x, (h.2 x).2 h1, h2⟩⟩
theorem holds_rest {xs ys S : List Int} {v : Int} {k : Nat} (hS : Vals k S) (h1 : holdsB xs S = true) (h2 : holdsB ys S = true) : holdsB (restL xs ys v) S = true := by
  unfold holdsB at h1 h2 ⊢
  rw [List.any_eq_true] at h1 h2 ⊢
  obtain ⟨x, x1, x2⟩ := h1
  obtain ⟨y, y1, y2⟩ := h2
  rw [hasB_iff] at x2 y2
  by_cases hx : x = v
  · by_cases hy : y = -v
    · subst hx; subst hy; exact absurd y2 (hS.no _ x2)
    · exact ⟨y, by unfold restL; rw [List.mem_append, sans_mem, sans_mem]; exact .inr ⟨y1, hy⟩, (hasB_iff _ _).2 y2⟩
  · exact ⟨x, by unfold restL; rw [List.mem_append, sans_mem, sans_mem]; exact .inl ⟨x1, hx⟩, (hasB_iff _ _).2 x2⟩

set_option maxHeartbeats 6400000 in
set_option maxRecDepth 100000 in
theorem follows_walk (A A2 : Option Addr) (n c n2 c2 : Nat) (xs ys : List Int) (m0 m1 : Int) (w : World) (h : Rd .i32 w w.heap.size A n xs) (h32 : In32 xs) (hn : n ≤ 9223372036854775807) (hA : A = none → n = 0 ∧ c = 0)
    (h2 : Rd .i32 w w.heap.size A2 n2 ys) (h322 : In32 ys) (hn2 : n2 ≤ 9223372036854775807) (hA2 : A2 = none → n2 = 0 ∧ c2 = 0) (w0 : (Lit.int .u64 m0).wf = true) (w1 : (Lit.int .u64 m1).wf = true) :
    Calls Try.prog 7 #[.slice A n c, .slice A2 n2 c2, .agg #[.int .u64 m0, .int .u64 m1]] w fun e w' => e = .returned (.bool true) ∧ Below w.heap.size w w' := by
  obtain ⟨i0, hi, hz0, hz1, hz2⟩ := info_parts info_lit
  have HR := Lib.hid h
  have H32 := Lib.hid h32
  have HL := Lib.hid h.len
  have HA := Lib.hid hA
  have HR2 := Lib.hid h2
  have H322 := Lib.hid h322
  have HL2 := Lib.hid h2.len
  have HA2 := Lib.hid hA2
  have HW0 := Lib.hid w0
  have HW1 := Lib.hid w1
  clear h h32 hA h2 h322 hA2 w0 w1
  by_cases hbig : 20 < n ∨ 20 < n2
  · by_cases hb1 : 20 < n
    · have hd1 : decide (20 < (n : Int)) = true := by simp; omega
      clear hbig
      go_enter Try.func7, Try.ntmps7
      go_wp2_with fail
      refine (alive_any _).mono ?_
      rintro e wa ⟨rfl, hB⟩
      have HB := Lib.hid ((below_alloc w (.cells #[.int .u64 m0, .int .u64 m1] 45)).trans (hB.mono (by simp)))
      clear hB
      go_wp2_with fail
      go_ret
      exact ⟨rfl, HB.out⟩
    · have hd1 : decide (20 < (n : Int)) = false := by simp; omega
      have hd2 : decide (20 < (n2 : Int)) = true := by simp; omega
      clear hbig
      go_enter Try.func7, Try.ntmps7
      go_wp2_with fail
      refine (alive_any _).mono ?_
      rintro e wa ⟨rfl, hB⟩
      have HB := Lib.hid ((below_alloc w (.cells #[.int .u64 m0, .int .u64 m1] 45)).trans (hB.mono (by simp)))
      clear hB
      go_wp2_with fail
      go_ret
      exact ⟨rfl, HB.out⟩
  · have hs1 : n ≤ 20 := by omega
    have hs2 : n2 ≤ 20 := by omega
    have hd1 : decide (20 < n) = false := by simp; omega
    have hd2 : decide (20 < n2) = false := by simp; omega
    clear hbig
    go_enter Try.func7, Try.ntmps7
    go_wp2_with fail
    refine (alive_any _).mono ?_
    rintro e wa ⟨rfl, hB⟩
    have hb0 := below_alloc w (.cells #[.int .u64 m0, .int .u64 m1] 45)
    have hcm0 : wa.cell? ⟨w.heap.size, 0, none⟩ = some (.int .u64 m0) := by
      rw [hB.cell (p := ⟨w.heap.size, 0, none⟩) (by simp), World.cell?_alloc_at _ _ _ _ rfl]; rfl
    have hcm1 : wa.cell? ⟨w.heap.size, 1, none⟩ = some (.int .u64 m1) := by
      rw [hB.cell (p := ⟨w.heap.size, 1, none⟩) (by simp), World.cell?_alloc_at _ _ _ _ rfl]; rfl
    have HB := Lib.hid (hb0.trans (hB.mono hb0.size))
    clear hB hb0
    have hm0 : 0 ≤ m0 := by have := HW0.out; simp [Lit.wf, IntKind.min, IntKind.signed] at this; exact this.1
    have hm1 : 0 ≤ m1 := by have := HW1.out; simp [Lit.wf, IntKind.min, IntKind.signed] at this; exact this.1
    have hq0 : 0 ≤ m0 % 41 := by omega
    have hq1 : m0 % 41 < 41 := by omega
    go_wp2_with fail
    go_quiet (fail)
    go_wp2
    clear hcm0 hcm1 hm0
    have HQ0 : Hid (0 ≤ m0 % 41) := hq0
    generalize m0 % 41 = vv at *
    go_loopw [9, 10] (fun u i wr => ∃ (k : Nat) (S : List Int), 1 ≤ k ∧ k ≤ 41 ∧ i = .int .i64 k ∧ Own wr wa.heap.size u S ∧ Vals k S ∧ Below wa.heap.size wa wr) (fun _ i _ => 41 - (intOf i).toNat)
    case atStart => exact ⟨1, [], by omega, by omega, rfl, World.ownsRow_made (wa.drewN nq) #[] 0 (Nat.le_refl _) (Nat.zero_le _) (by simp), Vals.start, (below_drewN (Below.refl _ _) nq).alloc (Nat.le_refl _) _⟩
    case round =>
      obtain ⟨k, S, hk1, hk, rfl, hown, hv, hnx⟩ := hrel
      have hsz := hnx.size
      by_cases hlt : k ≤ 40
      · have hln := hv.len
        have hkm : (k : Int) % 64 = k := by omega
        have HV := Lib.hid hv; clear hv
        have hw1 := wrap_small (v := (k : Int)) (by omega) (by omega)
        have hw2 := wrap_small (v := -(k : Int)) (by omega) (by omega)
        go_wp2_with (first
          | (at_builtin; refine wpList_append_own _ rfl (.tmp 45) (.tmp 48) 22 rfl wa.heap.size 26 i0 (.int .i32 0) 1 4 Try.underlying22 hi hz0 hz1 hz2 rfl (by decide) _ _ _ rfl (hown.alloc _) ⟨wr.heap.size, 0, none⟩ 1 1 [.int .i32 (k : Int)] rfl rfl one_cell one_one (by unfold maxLen; omega) (by omega) (by simp; omega) ?_)
          | (at_builtin; refine wpList_append_own _ rfl (.tmp 50) (.tmp 54) 22 rfl wa.heap.size 26 i0 (.int .i32 0) 1 4 Try.underlying22 hi hz0 hz1 hz2 rfl (by decide) _ _ _ rfl (hown.alloc _) ⟨wr.heap.size, 0, none⟩ 1 1 [.int .i32 (-(k : Int))] rfl rfl one_cell one_one (by unfold maxLen; omega) (by omega) (by simp; omega) ?_))
        all_goals
          intro v1 w1 hown1 hgrow1 _
          obtain ⟨hO1, hB1⟩ := Own.step hown hnx hsz hown1 hgrow1
          clear hown1 hgrow1 hown hnx
          go_wp2
          go_roundw
          case rel => exact ⟨k + 1, _, by omega, by omega, by go_num, hO1, HV.out.add hk1 (by first | exact .inl rfl | exact .inr rfl), hB1⟩
          case measure => simp [intOf]; omega
      · have hk41 : k = 41 := by omega
        subst hk41
        obtain ⟨A3, c3, rfl, hR3⟩ := hown.form
        have HV := Lib.hid hv
        have HS := Lib.hid hR3
        have HBo := Lib.hid (HB.out.trans (hnx.mono HB.out.size))
        have hsl : S.length ≤ 41 := hv.len
        clear hv hR3 hown hnx hsz HB
        obtain ⟨wo, rfl⟩ : ∃ wo : World, wo = wr := ⟨_, rfl⟩
        have hszo := HBo.out.size
        have HR1 := Lib.hid ((HR.out.below HBo.out).more hszo)
        have HR21 := Lib.hid ((HR2.out.below HBo.out).more hszo)
        have hle1 := HL.out
        have hle2 := HL2.out
        have hx1 : xs.length ≤ 20 := by omega
        have hy1 : ys.length ≤ 20 := by omega
        clear hle1 hle2
        have hown0 : Own (wo.alloc (.cells #[] 26)) wo.heap.size (.slice (some ⟨wo.heap.size, 0, none⟩) 0 0) [] := World.ownsRow_made wo #[] 0 (Nat.le_refl _) (Nat.zero_le _) (by simp)
        have HO0 := Lib.hid hown0
        clear hown0
        go_wp2_with (at_builtin; refine wpList_append_rd rfl (.tmp 56) (.tmp 57) rfl wo.heap.size _ [] rfl HO0.out A n c wo.heap.size xs rfl HA.out (HR1.out.alloc (Nat.le_refl _) _) (by simp; omega) (by simp) ?_)
        intro v1 w1 hO1 hB1
        try simp only [List.nil_append] at hO1
        have HO1 := Lib.hid hO1
        have HB1 := Lib.hid ((below_alloc wo _).trans (hB1.mono (Nat.le_refl _)))
        have HR22 := Lib.hid (HR21.out.below HB1.out)
        have hs1' := HB1.out.size
        clear hO1 hB1
        go_wp2_with (at_builtin; refine wpList_append_rd rfl (.tmp 58) (.tmp 59) rfl wo.heap.size _ xs rfl HO1.out A2 n2 c2 wo.heap.size ys rfl HA2.out HR22.out (by omega) hs1' ?_)
        intro v2 w2 hO2 hB2
        obtain ⟨A4, c4, rfl, hR4⟩ := hO2.form
        have HR4 := Lib.hid hR4
        have HBW2 := Lib.hid (HBo.out.trans ((HB1.out.trans hB2).mono hszo))
        have HBS := Lib.hid (HB1.out.trans hB2)
        have hll : (xs ++ ys).length ≤ 40 := by rw [List.length_append]; omega
        clear hO2 hB2 hR4
        have hgd : ∀ j, j < xs.length + ys.length → j < (xs ++ ys).length := fun j hj => by rw [List.length_append]; exact hj
        have HGD := Lib.hid hgd
        clear hgd
        go_wp2_with fail
        go_loop [62] (fun i => ∃ k : Nat, k ≤ xs.length + ys.length ∧ i = .int .i64 k ∧ ∀ j, j < k → LitM.one ((xs ++ ys).getD j 0) = true) (fun i => xs.length + ys.length - (intOf i).toNat)
        case atStart => exact ⟨0, Nat.zero_le _, rfl, fun j hj => absurd hj (by omega)⟩
        case round =>
          obtain ⟨k2, hk2, rfl, hall⟩ := hrel
          have HALL := Lib.hid hall; clear hall
          by_cases hlt2 : k2 < xs.length + ys.length
          · obtain ⟨b4, o4, hA4, hb4, hc4⟩ := HR4.out.get (HGD.out _ hlt2)
            subst hA4
            have HONE : Hid ((xs ++ ys).getD k2 0 ≠ 0 → ¬ 40 < (xs ++ ys).getD k2 0 → ¬ (xs ++ ys).getD k2 0 < -40 → LitM.one ((xs ++ ys).getD k2 0) = true) := fun h1 h2 h3 => (one_iff _).2 (by omega)
            generalize hxk : (xs ++ ys).getD k2 0 = x at *
            have HX := Lib.hid hxk; clear hxk
            by_cases z0 : x = 0
            · have zb : (x == 0) = true := by rw [beq_iff_eq]; exact z0
              clear z0
              go_wp2
              go_ret
              exact ⟨rfl, HBW2.out⟩
            · have zb : (x == 0) = false := by rw [beq_eq_false_iff_ne]; exact z0
              by_cases z1 : 40 < x
              · have z1b : decide (40 < x) = true := by simpa using z1
                have Z0 := Lib.hid z0; clear z0
                go_wp2
                go_ret
                exact ⟨rfl, HBW2.out⟩
              · have z1b : decide (40 < x) = false := by simpa using z1
                by_cases z2 : x < -40
                · have z2b : decide (x < -40) = true := by simpa using z2
                  have Z0 := Lib.hid z0; clear z0
                  go_wp2
                  go_ret
                  exact ⟨rfl, HBW2.out⟩
                · have z2b : decide (x < -40) = false := by simpa using z2
                  have HON := Lib.hid (HONE.out z0 z1 z2)
                  clear z0 HONE
                  go_wp2
                  go_round
                  case rel =>
                    refine ⟨k2 + 1, by omega, by go_num, fun j hj => ?_⟩
                    by_cases e : j = k2
                    · rw [e, HX.out]; exact HON.out
                    · exact HALL.out j (by omega)
                  case measure => simp [intOf]; omega
          · have hall : allOne (xs ++ ys) = true := (allOne_iff _).2 fun j hj => HALL.out j (by rw [List.length_append] at hj; omega)
            have HX : Hid (allOne xs = true) := by
              unfold Hid allOne
              rw [List.all_eq_true]
              exact fun z hz => allOne_mem hall (by simp [hz])
            have HY : Hid (allOne ys = true) := by
              unfold Hid allOne
              rw [List.all_eq_true]
              exact fun z hz => allOne_mem hall (by simp [hz])
            have HRA := Lib.hid ((HR1.out.below HBS.out).more HBS.out.size)
            have HRB := Lib.hid ((HR21.out.below HBS.out).more HBS.out.size)
            have HRS := Lib.hid ((HS.out.below HBS.out).more HBS.out.size)
            clear hall HALL HR1 HR21 HR22 HS HR4 HGD
            go_wp2_with fail
            refine (clean_yes A n c xs _ HRA.out (by omega) HX.out).mono ?_
            rintro e w3 ⟨A5, m5, c5, zs, rfl, hR5, hC5, hB5⟩
            have HZ := Lib.hid hR5
            have hzl : m5 ≤ 20 := by
              have e1 := hR5.len
              have e2 := clean_len (k := xs.length) (ys := zs) (by rw [List.take_length]; exact hC5)
              omega
            have HHC := Lib.hid (holds_clean (S := S) hC5)
            have HRA3 := Lib.hid ((HRA.out.below hB5).more hB5.size)
            have HRB3 := Lib.hid ((HRB.out.below hB5).more hB5.size)
            have HRS3 := Lib.hid ((HRS.out.below hB5).more hB5.size)
            have HBW3 := Lib.hid (HBW2.out.trans (hB5.mono HBW2.out.size))
            clear hR5 hC5 hB5 HRA HRB HRS HBW2
            go_wp2_with fail
            refine (holds_any A5 A3 m5 c5 S.length c3 zs S _ _ HZ.out HRS3.out (by omega) (by omega)).mono ?_
            rintro e w' ⟨rfl, rfl⟩
            rw [HHC.out]
            go_wp2_with fail
            refine (holds_any A A3 n c S.length c3 xs S _ _ HRA3.out HRS3.out (by omega) (by omega)).mono ?_
            rintro e w' ⟨rfl, rfl⟩
            have hq0 := HQ0.out
            have hbn : (holdsB xs S != holdsB xs S) = false := by simp
            by_cases hno : RNo xs ys vv
            · have HNO := Lib.hid hno; clear hno
              go_wp2_with fail
              refine (resolve_no A A2 n c n2 c2 xs ys vv _ HRA3.out HRB3.out H32.out H322.out (by omega) (by omega) (by omega) (by omega) HNO.out).mono ?_
              rintro e w4 ⟨rfl, hB6⟩
              have HB6 := Lib.hid (HBW3.out.trans (hB6.mono HBW3.out.size))
              clear hB6
              go_wp2_with fail
              go_ret
              exact ⟨rfl, HB6.out⟩
            · have h1 : ¬ vv < 1 := fun e => hno (.inr (.inr (.inl e)))
              have h3 : ¬ 262144 < vv := fun e => hno (.inr (.inr (.inr (.inl e))))
              have H4 : Hid (hasB xs vv = true) := by
                rcases hh : hasB xs vv with _ | _
                · exact absurd (.inr (.inr (.inr (.inr (.inl hh))))) hno
                · exact rfl
              have H5 : Hid (hasB ys (-vv) = true) := by
                rcases hh : hasB ys (-vv) with _ | _
                · exact absurd (.inr (.inr (.inr (.inr (.inr hh))))) hno
                · exact rfl
              clear hno
              go_wp2_with fail
              refine (resolve_yes A A2 n c n2 c2 xs ys vv _ HRA3.out HRB3.out (by omega) (by omega) HX.out HY.out (by omega) (by omega) H4.out H5.out).mono ?_
              rintro e w4 ⟨A6, m6, c6, us, rfl, hR6, hC6, hB6⟩
              have HHR := Lib.hid (holds_clean (S := S) hC6)
              have hul : m6 ≤ 40 := by
                have e1 := hR6.len
                have e2 := clean_len (k := (restL xs ys vv).length) (ys := us) (by rw [List.take_length]; exact hC6)
                have e3 := rest_len xs ys vv
                omega
              have HU := Lib.hid hR6
              have HRA4 := Lib.hid ((HRA3.out.below hB6).more hB6.size)
              have HRB4 := Lib.hid ((HRB3.out.below hB6).more hB6.size)
              have HRS4 := Lib.hid ((HRS3.out.below hB6).more hB6.size)
              have HBW4 := Lib.hid (HBW3.out.trans (hB6.mono HBW3.out.size))
              clear hR6 hC6 hB6
              rcases hx : holdsB xs S with _ | _
              · have HHX := Lib.hid hx
                go_wp2_with fail
                refine (holds_any A A3 n c S.length c3 xs S _ _ HRA4.out HRS4.out (by omega) (by omega)).mono ?_
                rintro e w' ⟨rfl, rfl⟩
                rw [HHX.out]
                go_wp2_with fail
                go_ret
                exact ⟨rfl, HBW4.out⟩
              · have HHX := Lib.hid hx
                rcases hy : holdsB ys S with _ | _
                · have HHY := Lib.hid hy
                  go_wp2_with fail
                  refine (holds_any A A3 n c S.length c3 xs S _ _ HRA4.out HRS4.out (by omega) (by omega)).mono ?_
                  rintro e w' ⟨rfl, rfl⟩
                  rw [HHX.out]
                  go_wp2_with fail
                  refine (holds_any A2 A3 n2 c2 S.length c3 ys S _ _ HRB4.out HRS4.out (by omega) (by omega)).mono ?_
                  rintro e w' ⟨rfl, rfl⟩
                  rw [HHY.out]
                  go_wp2_with fail
                  go_ret
                  exact ⟨rfl, HBW4.out⟩
                · have HHY := Lib.hid hy
                  have HHU := Lib.hid (HHR.out.trans (holds_rest (v := vv) HV.out hx hy))
                  go_wp2_with fail
                  refine (holds_any A A3 n c S.length c3 xs S _ _ HRA4.out HRS4.out (by omega) (by omega)).mono ?_
                  rintro e w' ⟨rfl, rfl⟩
                  rw [HHX.out]
                  go_wp2_with fail
                  refine (holds_any A2 A3 n2 c2 S.length c3 ys S _ _ HRB4.out HRS4.out (by omega) (by omega)).mono ?_
                  rintro e w' ⟨rfl, rfl⟩
                  rw [HHY.out]
                  go_wp2_with fail
                  refine (holds_any A6 A3 m6 c6 S.length c3 us S _ _ HU.out HRS4.out (by omega) (by omega)).mono ?_
                  rintro e w' ⟨rfl, rfl⟩
                  rw [HHU.out]
                  go_wp2_with fail
                  go_ret
                  exact ⟨rfl, HBW4.out⟩

theorem cells_two : Try.prog.cellsOf 45 = 2 := by kernel_rfl
theorem cells_u64 : Try.prog.cellsOf 44 = 1 := by kernel_rfl
/-- An array of two numbers that came in. -/
theorem open_two {H : Type} {enc : TypeId × Value → H} {W : World} {base : Nat} {v : Value} {d : DataW H} {p : List MemPlace} (hok : Value.okWide Try.prog W .any base 45 v)
    (h : DataW.Trod enc Try.prog W 0 (fun _ => true) true 45 v d p) :
    ∃ m0 m1, v = .agg #[.int .u64 m0, .int .u64 m1] ∧ (Lit.int .u64 m0).wf = true ∧ (Lit.int .u64 m1).wf = true := by
  simp only [Value.okWide, Try.underlying45] at hok
  obtain ⟨cs, rfl, hsz, _⟩ := hok
  rw [cells_two] at hsz
  obtain ⟨fuel, hf⟩ := h
  obtain ⟨xs, m, _, _, _, hl, hel⟩ := DataW.trod_array Try.underlying45 hf
  rw [cells_u64] at hel
  have e0 := hel 0 (by omega)
  have e1 := hel 1 (by omega)
  match xs, hl with
  | [x0, x1], _ =>
    have hcs : ∃ c0 c1, cs = #[c0, c1] := by
      rcases cs with ⟨l⟩
      match l, hsz with
      | [c0, c1], _ => exact ⟨c0, c1, rfl⟩
    obtain ⟨c0, c1, rfl⟩ := hcs
    simp [Value.cells] at e0 e1
    obtain ⟨a0, h0, _, wa0⟩ := DataW.trod_int Try.underlying44 e0
    obtain ⟨a1, h1, _, wa1⟩ := DataW.trod_int Try.underlying44 e1
    simp at h0 h1
    subst h0; subst h1
    exact ⟨a0, a1, rfl, wa0, wa1⟩

set_option maxHeartbeats 800000 in
set_option maxRecDepth 100000 in
theorem follows_lifted (os : Os) (started : os.Started) (H : Type) (enc : TypeId × Value → H) :
    ReturnsInHanded {} Try.checked os 7 .any (Rows.litFollowsSpec.pre6 enc Try.prog Try.f7 Rows.litFollowsRow.domain false) (Rows.litFollowsSpec.post enc Try.prog Try.f7 false true false false) := by
  refine returnsInHanded_of_change (C := Try.checked) own_knob started (by kernel_rfl) Try.func7
    (ChangeSpec.witness6 (enc := enc) (C := Try.checked) false ⟨#[], #[.slice none 0 0, .slice none 0 0, .agg #[.int .u64 0, .int .u64 0]], []⟩ 8 (by kernel_rfl) (by kernel_rfl) (by kernel_rfl) (by kernel_rfl)) ?_
  intro W base args ds gs before hval0 hW _ _
  have hval : ∀ (j : Nat) t v, Try.f7.params[j]? = some t → args[j]? = some v → Value.okWide Try.prog W .any base t v := hval0
  have hW' := hW
  obtain ⟨p, q, hA0, hV, rfl, _, _⟩ := hW
  have hA : DataW.TrodAll enc Try.prog W 0 (fun _ => true) true Try.f7.params.toList args.toList ds p := hA0
  rw [Try.params7] at hA hval
  obtain ⟨v0, v1, v2, d0, d1, d2, p0, p1, p2, rfl, rfl, rfl, h0, h1, h2⟩ := trodAll_three hA
  obtain ⟨rfl, rfl⟩ := trodVars_none hV
  obtain ⟨A, n, c, xs, rfl, hR, h32, hn, hnil⟩ := open_lits (hval 0 22 v0 rfl rfl) h0
  obtain ⟨A2, n2, c2, ys, rfl, hR2, h322, hn2, hnil2⟩ := open_lits (hval 1 22 v1 rfl rfl) h1
  obtain ⟨m0, m1, rfl, w0, w1⟩ := open_two (hval 2 45 v2 rfl rfl) h2
  clear hA0 hval0
  have hlt0 : ∀ y ∈ p0, y.block < W.heap.size := fun y hy => by simpa using hW'.lt y (by simp [hy])
  have hlt1 : ∀ y ∈ p1, y.block < W.heap.size := fun y hy => by simpa using hW'.lt y (by simp [hy])
  have hlt2 : ∀ y ∈ p2, y.block < W.heap.size := fun y hy => by simpa using hW'.lt y (by simp [hy])
  refine (follows_walk A A2 n c n2 c2 xs ys m0 m1 W hR h32 hn hnil hR2 h322 hn2 hnil2 w0 w1).mono fun e W' ⟨he, hB⟩ => ?_
  subst he
  exact ⟨_, rfl, _, _, _, [], _, [], hW', trodAll_mk1 (shut_bool Try.underlying4 true),
    trodAll_mk3 (Below.trod laid_out (by kernel_rfl) (of_decide_eq_true (by kernel_rfl)) h0 hB hlt0) (Below.trod laid_out (by kernel_rfl) (of_decide_eq_true (by kernel_rfl)) h1 hB hlt1) (Below.trod laid_out (by kernel_rfl) (of_decide_eq_true (by kernel_rfl)) h2 hB hlt2), rfl, hB.frame _, fun h => by cases h⟩

theorem litFollows_holds : Rows.LitFollowsSaid :=
  OpenClaim.holds_of_wide 7 Try.f7 rfl rfl rfl rfl rfl rfl rfl ⟨rfl, rfl, rfl, rfl, rfl⟩ rfl rfl rfl rfl rfl (by kernel_rfl) Try.func7 (by kernel_rfl)
    (of_decide_eq_true (by kernel_rfl)) (by unfold Func.isWrapper; first | (rw [if_pos (by decide +kernel)]; kernel_rfl) | (rw [if_neg (by decide +kernel)]; exact ⟨rfl, rfl⟩))
    (fun os started H enc _ => follows_lifted os started H enc)
#print axioms litFollows_holds
end Go.Proofs.Ytonkoeooflgjdaa
