/- The plain answer's Cut. -/
import Derived.Test.YtgbnhmnkdfiiiaaDoorWrdU
import Derived.Test.YtgbnhmnkdfiiiaaDoorWrdH
namespace Go.Proofs.YtgbnhmnkdfiiiaaDoor
open Go.RowKit WrdM

set_option maxHeartbeats 6400000 in
set_option maxRecDepth 100000 in
theorem pcut_any (s : List UInt8) (w : World) (hs : s.length ≤ 4000) :
    Calls Tryd.prog 10 #[.string ⟨s.toArray⟩] w (CutTo (cutL s) w) := by
  obtain ⟨sb, hsb⟩ : ∃ sb : ByteArray, sb = ⟨s.toArray⟩ := ⟨_, rfl⟩
  have hn : sb.size = s.length := by rw [hsb, size_mk]
  have HSB := Lib.hid hsb
  have HAT : Hid (∀ (k : Nat) (h : k < sb.size), sb[k]'h = s.getD k 0) := fun k h => by subst hsb; exact get_mk s k h
  have HCL : Hid (cutL s = go 0 false 1 1 s) := by unfold Hid cutL; rw [if_neg (by omega)]
  have HPL := Lib.hid fun a W (ha : a ≤ s.length) => place_any s a W ha (by omega)
  have HWD := Lib.hid fun a W (ha : a < s.length) => word_any s a W ha (by omega)
  rw [← hsb] at HPL HWD ⊢
  clear hsb
  have t0 : decide ((65536 : Int) < (s.length : Int)) = false := decide_eq_false (by omega)
  have t0' : decide (65536 < s.length) = false := decide_eq_false (by omega)
  have hw1f := blk_new w (.cells #[.int .i64 0, .int .i64 0, .int .i64 0] 25)
  have hz1 : (w.alloc (.cells #[.int .i64 0, .int .i64 0, .int .i64 0] 25)).heap.size = w.heap.size + 1 := by simp
  have hal := below_alloc (w.alloc (.cells #[.int .i64 0, .int .i64 0, .int .i64 0] 25)) (.cells #[] 33)
  rw [hz1] at hal
  have hx := blk_new (w.alloc (.cells #[.int .i64 0, .int .i64 0, .int .i64 0] 25)) (.cells #[] 33)
  rw [hz1] at hx
  have H0 : Hid (∀ v0, v0 = (w.alloc (.cells #[.int .i64 0, .int .i64 0, .int .i64 0] 25)).alloc (.cells #[] 33) →
      PcSt s v0 v0 w.heap.size 0 false [] (some ⟨w.heap.size + 1, 0, none⟩) 0 ∧ Below w.heap.size w v0 ∧ v0.heap[w.heap.size]? = some (.cells #[.int .i64 0, .int .i64 0, .int .i64 0] 25 (0, 0))) := by
    rintro v0 rfl
    refine ⟨⟨.inr ⟨_, rfl, ⟨#[], hx, Nat.le_refl _, Nat.zero_le _, rfl, fun j hj => absurd hj (by simp)⟩⟩, ?_, Below.refl _ _, by rw [Out.pre_nil]; rfl, Nat.le_refl _, Nat.zero_le _⟩, (below_alloc w _).trans (hal.mono (by omega)), (hal.block w.heap.size (by omega)).trans hw1f⟩
    rintro k ⟨x, hx, rfl⟩
    injection hx with hx; subst hx
    show w.heap.size < w.heap.size + 1
    omega
  clear hw1f hz1 hal hx
  go_enter Tryd.func10, Tryd.ntmps10
  go_wp2_with fail
  obtain ⟨v0, hv0⟩ : ∃ v0, v0 = (w.alloc (.cells #[.int .i64 0, .int .i64 0, .int .i64 0] 25)).alloc (.cells #[] 33) := ⟨_, rfl⟩
  obtain ⟨h1, h2, h3⟩ := H0.out v0 hv0
  have HP0 := Lib.hid h1
  have HB0 := Lib.hid h2
  have HF0 := Lib.hid h3
  generalize (w.alloc (.cells #[.int .i64 0, .int .i64 0, .int .i64 0] 25)).alloc (.cells #[] 33) = vv at *
  subst hv0
  clear H0 h1 h2 h3
  go_loopw [4, 5, 6] (fun out at_ rm wr => ∃ (a : Nat) (r : Bool) (ts : List WrdM.Tok) (A : Option Addr) (c : Nat), out = .slice A ts.length c ∧ at_ = .int .i64 a ∧ rm = .bool r ∧ Hid (PcSt s v0 wr w.heap.size a r ts A c)) (fun _ at_ _ _ => s.length - (intOf at_).toNat)
  case atStart => exact ⟨0, false, [], _, 0, rfl, rfl, rfl, HP0⟩
  case round =>
    obtain ⟨a, r, ts, A, c, rfl, rfl, rfl, HP⟩ := hrel
    clear HP0
    have hal : a ≤ s.length := HP.out.a
    have hna : ts.length ≤ a := HP.out.n
    by_cases hlt : a < s.length
    · have v1 : decide ((a : Int) < (s.length : Int)) = true := decide_eq_true (by omega)
      have v2 : decide (a < s.length) = true := decide_eq_true hlt
      have hk2 : a < sb.size := by omega
      have hg := HAT.out a hk2
      obtain ⟨x, hx⟩ : ∃ x, s.getD a 0 = x := ⟨_, rfl⟩
      have HC := Lib.hid (go_cases s a r hlt x hx)
      obtain ⟨t10, t47, t32, t9⟩ := byte_tests x
      rw [hx] at hg
      have HX := Lib.hid hx
      clear hx
      rcases HC.out with ⟨h10, hgo⟩ | ⟨h10, hr, hgo⟩ | ⟨h10, hr, hrem, hgo⟩ | ⟨h10, hr, hrem, hbl, hgo⟩ | ⟨h10, hr, hrem, h32, h9⟩
      · have HST := Lib.hid (HP.out.skip (w' := wr) hlt false (Below.refl _ _) HP.out.row (by rw [HX.out]; exact hgo))
        rw [ne_of x h10 (by decide)] at t47 t32 t9
        rw [h10] at t10
        clear HC hgo h10
        go_wp2_with fail
        go_roundw
        case rel => exact ⟨a + 1, false, ts, A, c, rfl, by go_num, rfl, HST.out⟩
        case measure => simp [intOf]; omega
      · subst hr
        have HST := Lib.hid (HP.out.skip (w' := wr) hlt true (Below.refl _ _) HP.out.row (by rw [HX.out]; exact hgo))
        rw [h10] at t10
        clear HC hgo h10
        go_wp2_with fail
        go_roundw
        case rel => exact ⟨a + 1, true, ts, A, c, rfl, by go_num, rfl, HST.out⟩
        case measure => simp [intOf]; omega
      · subst hr
        have HST := Lib.hid (HP.out.skip (w' := wr) hlt true (Below.refl _ _) HP.out.row (by rw [HX.out]; exact hgo))
        rw [rem2_at s a hlt, HX.out, Bool.and_eq_true, Bool.and_eq_true] at hrem
        obtain ⟨r1, r2, r3⟩ := hrem
        rw [r1] at t47
        rw [h10] at t10
        have hl2 : a + 1 < s.length := of_decide_eq_true r2
        have hg2 := HAT.out (a + 1) (by omega)
        have s47 := (byte_tests (s.getD (a + 1) 0)).2.1
        rw [r3] at s47
        generalize s.getD (a + 1) 0 = y at *
        have u1 : decide ((a : Int) + 1 < (s.length : Int)) = true := decide_eq_true (by omega)
        have u2 : ((a : Int) + 1).toNat = a + 1 := by omega
        clear HC hgo h10 r1 r2 r3
        go_wp2_with fail
        clear u2
        go_roundw
        case rel => exact ⟨a + 1, true, ts, A, c, rfl, by go_num, rfl, HST.out⟩
        case measure => simp [intOf]; omega
      · subst hr
        have HST := Lib.hid (HP.out.skip (w' := wr) hlt false (Below.refl _ _) HP.out.row (by rw [HX.out]; exact hgo))
        rw [h10] at t10
        rcases hbl with h32 | ⟨h32, h9⟩
        · rw [ne_of x h32 (by decide)] at t47
          rw [h32] at t32
          clear HC hgo h10 hrem
          go_wp2_with fail
          go_roundw
          case rel => exact ⟨a + 1, false, ts, A, c, rfl, by go_num, rfl, HST.out⟩
          case measure => simp [intOf]; omega
        · rw [ne_of x h9 (by decide)] at t47
          rw [h32] at t32
          rw [h9] at t9
          clear HC hgo h10 hrem
          go_wp2_with fail
          go_roundw
          case rel => exact ⟨a + 1, false, ts, A, c, rfl, by go_num, rfl, HST.out⟩
          case measure => simp [intOf]; omega
      · subst hr
        rw [h10] at t10
        rw [h32] at t32
        rw [h9] at t9
        have hb : blkB (s.getD a 0) = false := by rw [HX.out]; simp [blkB, h10, h32, h9]
        have HBK := Lib.hid hb
        have HRM := Lib.hid hrem
        have hr47 := rem2_at s a hlt
        rw [hrem, HX.out] at hr47
        have HWD1 := Lib.hid (HWD.out a wr hlt)
        have HPL1 := Lib.hid (fun W => HPL.out a W hal)
        have HBW := Lib.hid (HB0.out.trans (HP.out.bel.mono (by omega)))
        have HFW := Lib.hid ((HP.out.bel.block w.heap.size (by omega)).trans HF0.out)
        have hbd := adv_bd (s.take a) 1 1 (by omega)
        rw [List.length_take] at hbd
        have hle := wordN_le (s.drop a)
        rw [List.length_drop] at hle
        have HWE := Lib.hid (wordL_n (s.drop a))
        rw [head_drop _ _ _ hlt, head_drop _ _ _ hlt, HX.out] at HWE
        have HWNZ : Hid (wordN (s.drop a) = if letB x then ((s.drop a).takeWhile namB).length else if digB x then ((s.drop a).takeWhile digB).length else (signW (s.drop a)).length) := by
          unfold Hid wordN
          rw [head_drop _ _ _ hlt, head_drop _ _ _ hlt, HX.out]
        have HBADX : Hid (∀ er, (wordL (s.drop a)).err = er → er ≠ 0 → go 0 false 1 1 s = .bad er (adv 1 1 (s.take a)).1 (adv 1 1 (s.take a)).2) := fun er h1 h2 => HP.out.bad hlt hb hrem h1 h2
        have HNEWX : Hid (∀ k nm (vd v4 : World) g4 c4, wordL (s.drop a) = ⟨0, k, (s.drop a).take (wordN (s.drop a)), nm⟩ → Below (w.heap.size + 1) wr vd → w.heap.size + 1 ≤ vd.heap.size →
            RowV 33 5 v4 g4 (ts.length + 1) c4 (appV (tkF ts) (ts.length * 5) [.int .i64 k, .string ⟨((s.drop a).take (wordN (s.drop a))).toArray⟩, .int .i64 nm, .int .i64 (adv 1 1 (s.take a)).1, .int .i64 (adv 1 1 (s.take a)).2]) → (onB A g4 ∨ vd.heap.size ≤ g4) → Kf (onB A) vd v4 →
            PcSt s v0 v4 w.heap.size (a + wordN (s.drop a)) false (ts ++ [⟨k, (s.drop a).take (wordN (s.drop a)), nm, (adv 1 1 (s.take a)).1, (adv 1 1 (s.take a)).2⟩]) (some ⟨g4, 0, none⟩) c4 ∧ Hid (1 ≤ wordN (s.drop a))) := fun k nm vd v4 g4 c4 e1 e2 e3 e4 e5 e6 => by
          have hl : ((s.drop a).take (wordN (s.drop a))).length = wordN (s.drop a) := by rw [List.length_take, List.length_drop]; omega
          have := HP.out.word hlt hb hrem e1 e2 e3 e4 e5 e6
          rw [hl] at this
          exact this
        have hnl : ((s.drop a).take (wordN (s.drop a))).length = wordN (s.drop a) := by rw [List.length_take, List.length_drop]; omega
        have hex0 : sb.extract a (a + wordN (s.drop a)) = ⟨((s.drop a).take (wordN (s.drop a))).toArray⟩ := by rw [HSB.out, extract_mk, show a + wordN (s.drop a) - a = wordN (s.drop a) from by omega]
        obtain ⟨nn, hnn⟩ : ∃ nn, nn = wordN (s.drop a) := ⟨_, rfl⟩
        obtain ⟨L, hL⟩ : ∃ L, L = (adv 1 1 (s.take a)).1 := ⟨_, rfl⟩
        obtain ⟨C, hC⟩ : ∃ C, C = (adv 1 1 (s.take a)).2 := ⟨_, rfl⟩
        rw [← hnn] at HWD1 hle HWE HNEWX hnl hex0 HWNZ
        rw [← hL, ← hC] at HPL1 hbd HBADX HNEWX
        have HNN := Lib.hid hnn
        obtain ⟨xb, hxb⟩ : ∃ xb : ByteArray, xb = ⟨((s.drop a).take nn).toArray⟩ := ⟨_, rfl⟩
        have HXB := Lib.hid hxb
        rw [← hxb] at HNEWX hex0
        have hxs : xb.size = nn := by rw [hxb, size_mk, hnl]
        have HNL := Lib.hid hnl
        obtain ⟨b1, b2, b3', b4⟩ := hbd
        have b5 : L ≤ 5000 := by omega
        have b6 : C ≤ 5000 := by omega
        have b7 : a + nn ≤ s.length := by omega
        clear hnn hL hC hxb hnl HC h10 h32 h9 hrem hb b2 b4
        rcases h47 : (x == 47) with _ | _
        · rw [h47] at t47
          clear h47 hr47
          have HLT := Lib.hid (fun W => letter_any x W)
          have HDG := Lib.hid (fun W => digit_any x W)
          rcases hlb : letB x with _ | _
          · rw [hlb] at HLT HWE HWNZ
            rcases hdb : digB x with _ | _
            · rw [hdb] at HDG HWE HWNZ
              clear hlb hdb
              by_cases hz : nn = 0
              · subst hz
                have HBAD := Lib.hid (HBADX.out 131 (by rw [HWE.out]; rfl) (by decide))
                clear HNEWX HBADX HWE HWNZ hex0 hxs b7 HXB HNL
                go_wp2_with fail
                refine HWD1.out.mono ?_
                rintro e w2 ⟨rfl, hB2⟩
                have HW2 := Lib.hid hB2
                have HB2 := Lib.hid (HBW.out.trans (hB2.mono HBW.out.size))
                have HF2 := Lib.hid ((hB2.block w.heap.size (lt_of_heap HFW.out)).trans HFW.out)
                clear hB2
                go_wp2_with fail
                refine (HPL1.out _).mono ?_
                rintro e w' ⟨rfl, rfl⟩
                obtain ⟨s0, s1, s2⟩ := cells3 HF2.out
                have uf := Lib.frozen_of_heap HF2.out
                have hq := three_set HF2.out (.int .i64 131) (.int .i64 L) (.int .i64 C)
                obtain ⟨p0, p1, p2⟩ := cells3 hq
                clear hq
                go_wp2_with fail
                refine bodyPost_ret (v := .tuple #[.slice none 0 0, .agg #[.int .i64 131, .int .i64 L, .int .i64 C]]) (by simp [results, Tryd.results10, go_sem, p0, p1, p2]) rfl ?_
                rw [HCL.out, HBAD.out]
                exact ⟨rfl, below_three HB2.out (Nat.le_refl _) _ _ _⟩
              · have hne : (s.drop a).take nn ≠ [] := fun e => hz (by have := HNL.out; rw [e] at this; exact this.symm)
                have HNEW := Lib.hid (fun vd v4 g4 c4 => HNEWX.out 3 0 vd v4 g4 c4 (by rw [HWE.out]; unfold sgnW; simp [hne]))
                have hz2 : ((nn : Int) == 0) = false := by rw [beq_eq_false_iff_ne]; omega
                clear hne HNEWX HBADX HWE HWNZ hz
                have e1 : ((a : Int) + (nn : Int)).toNat = a + nn := by omega
                have e2 : (0 : Int) ≤ (a : Int) + (nn : Int) := by omega
                have e3 : (a : Int) ≤ (a : Int) + (nn : Int) := by omega
                have e4 : (a : Int) + (nn : Int) ≤ (s.length : Int) := by omega
                go_wp2_with fail
                refine HWD1.out.mono ?_
                rintro e w2 ⟨rfl, hB2⟩
                have HW2 := Lib.hid hB2
                have HB2 := Lib.hid (HBW.out.trans (hB2.mono HBW.out.size))
                have HF2 := Lib.hid ((hB2.block w.heap.size (lt_of_heap HFW.out)).trans HFW.out)
                clear hB2
                go_wp2_with fail
                refine (HPL1.out _).mono ?_
                rintro e w' ⟨rfl, rfl⟩
                have hTk := TkSt.start (k := 3) (xb := xb) (n := 0) (L := L) (C := C) HP.out.row HW2.out (lt_of_heap HFW.out)
                have HTK := Lib.hid hTk
                clear hTk
                go_wp2_with fail
                generalize w2.alloc (.cells #[.int .i64 3, .string xb, .int .i64 0, .int .i64 L, .int .i64 C] 33) = w3 at *
                generalize w2.heap.size = bt at *
                refine (HLT.out _).mono ?_
                rintro e w' ⟨rfl, rfl⟩
                go_wp2_with fail
                refine (HDG.out _).mono ?_
                rintro e w' ⟨rfl, rfl⟩
                obtain ⟨p0, p1, p2, p3, p4⟩ := cells5 HTK.out.box
                have HAP := Lib.hid (HTK.out.app _ rfl)
                obtain ⟨a1, a2, a3, a4⟩ := HAP.out
                have HA1 := Lib.hid a1
                have HA2 := Lib.hid a2
                have HA34 := Lib.hid (And.intro a3 a4)
                clear a1 a2 a3 a4 HAP
                go_wp2_with (at_builtin; refine wpList_append_sl _ rfl _ _ 22 33 rfl Tryd.underlying22 info_tok rfl (by decide) (by decide) A ts.length c (tkF ts) rfl HA1.out (by omega) ⟨w3.heap.size, 0, none⟩ 1 1 [.int .i64 3, .string xb, .int .i64 0, .int .i64 L, .int .i64 C] rfl rfl HA2.out (by simp [Value.oneCell']) (by omega) (by omega) ?_)
                intro g4 c4 v4 hr4 hg4 hk4
                obtain ⟨hN, HN1⟩ := HNEW.out _ _ _ _ HA34.out.1 HA34.out.2 hr4 (by rcases hg4 with h | h; exact .inl h; exact .inr (by simpa using h)) (hk4 _ fun j hj => hj)
                have HN := Lib.hid hN
                have HTL : Hid ((ts ++ [(⟨3, (s.drop a).take nn, 0, L, C⟩ : WrdM.Tok)]).length = ts.length + 1) := by unfold Hid; rw [List.length_append]; rfl
                clear hr4 hg4 hk4 hN p0 p1 p2 p3 p4 HA1 HA2 HA34
                generalize ts ++ [(⟨3, (s.drop a).take nn, 0, L, C⟩ : WrdM.Tok)] = ts2 at *
                go_wp2_with fail
                go_roundw
                case rel => exact ⟨a + nn, false, ts2, some ⟨g4, 0, none⟩, c4, by rw [HTL.out], by go_num, rfl, HN.out⟩
                case measure => have := HN1.out; simp [intOf]; omega
            · rw [hdb] at HDG HWE HWNZ
              have e1 : ((a : Int) + (nn : Int)).toNat = a + nn := by omega
              have e2 : (0 : Int) ≤ (a : Int) + (nn : Int) := by omega
              have e3 : (a : Int) ≤ (a : Int) + (nn : Int) := by omega
              have e4 : (a : Int) + (nn : Int) ≤ (s.length : Int) := by omega
              have HALL : Hid (((s.drop a).take nn).all digB = true) := all_take (by rw [HWNZ.out]; rfl)
              have hz2 : ((nn : Int) == 0) = false := by
                rw [beq_eq_false_iff_ne]
                intro e
                have e0 : nn = 0 := by omega
                have h8 : (s.drop a).takeWhile digB ≠ [] := by
                  rw [drop_cons s a hlt, HX.out, List.takeWhile_cons, if_pos hdb]; simp
                have h7 := HWNZ.out
                rw [e0] at h7
                exact h8 (List.length_eq_zero_iff.1 h7.symm)
              have HWD : Hid (wordL (s.drop a) = if 7 < nn then ⟨132, 0, [], 0⟩ else if 1000000 < numL ((s.drop a).take nn) then ⟨132, 0, [], 0⟩ else ⟨0, 2, (s.drop a).take nn, numL ((s.drop a).take nn)⟩) := by
                unfold Hid
                rw [HWE.out]
                unfold digW
                rw [HNL.out]
                simp only [Bool.false_eq_true, if_false, if_true]
              have HXA : Hid (∀ (i : Nat) (h : i < xb.size), xb[i]'h = ((s.drop a).take nn).getD i 0) := fun i h => by have h1 := HXB.out; subst h1; exact get_mk _ i h
              have HDGT : Hid (∀ i, i < nn → 48 ≤ (((s.drop a).take nn).getD i 0).toNat ∧ (((s.drop a).take nn).getD i 0).toNat ≤ 57) := fun i hi => digits_get HALL.out i (by rw [HNL.out]; exact hi)
              have HNB : Hid (∀ i, i ≤ nn → i ≤ 8 → 0 ≤ numL (((s.drop a).take nn).take i) ∧ numL (((s.drop a).take nn).take i) < 10 ^ i) := fun i h1 h2 => numL_bd8 HALL.out i (by rw [HNL.out]; exact h1) h2
              have HNS : Hid (∀ i, i < nn → numL (((s.drop a).take nn).take (i + 1)) = 10 * numL (((s.drop a).take nn).take i) + (((((s.drop a).take nn).getD i 0).toNat : Int) - 48)) := fun i hi => numL_snoc _ i (by rw [HNL.out]; exact hi)
              clear hlb hdb HWE HWNZ
              go_wp2_with fail
              refine HWD1.out.mono ?_
              rintro e w2 ⟨rfl, hB2⟩
              have HW2 := Lib.hid hB2
              have HB2 := Lib.hid (HBW.out.trans (hB2.mono HBW.out.size))
              have HF2 := Lib.hid ((hB2.block w.heap.size (lt_of_heap HFW.out)).trans HFW.out)
              clear hB2
              go_wp2_with fail
              refine (HPL1.out _).mono ?_
              rintro e w' ⟨rfl, rfl⟩
              have hTk := TkSt.start (k := 3) (xb := xb) (n := 0) (L := L) (C := C) HP.out.row HW2.out (lt_of_heap HFW.out)
              have HTK := Lib.hid hTk
              clear hTk
              go_wp2_with fail
              generalize w2.alloc (.cells #[.int .i64 3, .string xb, .int .i64 0, .int .i64 L, .int .i64 C] 33) = w3 at *
              generalize w2.heap.size = bt at *
              have H4 := Lib.hid (HTK.out.kind 2)
              obtain ⟨k0, k1, k2, k3, k4⟩ := cells5 HTK.out.box
              have uf3 := Lib.frozen_of_heap HTK.out.box
              refine (HLT.out _).mono ?_
              rintro e w' ⟨rfl, rfl⟩
              go_wp2_with fail
              refine (HDG.out _).mono ?_
              rintro e w' ⟨rfl, rfl⟩
              go_wp2_with fail
              generalize w3.setCell ⟨bt, 0, none⟩ (.int .i64 2) = w4 at *
              clear k0 k1 k2 k3 k4 uf3 HTK
              generalize wr = wo at *
              go_loopw [12] (fun iv wr => ∃ i : Nat, i ≤ nn ∧ i ≤ 8 ∧ iv = .int .i64 i ∧ Hid (TkSt wo wr w.heap.size A c ts bt 2 xb (numL (((s.drop a).take nn).take i)) L C)) (fun iv _ => 8 - (intOf iv).toNat)
              case atStart => exact ⟨0, Nat.zero_le _, by decide, rfl, H4.out⟩
              case round =>
                obtain ⟨i, hi, hi8, rfl, H5⟩ := hrel
                clear H4
                by_cases hin : i < nn ∧ i < 8
                · obtain ⟨hi1, hi2⟩ := hin
                  have v3 : decide ((i : Int) < (nn : Int)) = true := decide_eq_true (by omega)
                  have v4 : decide (i < nn) = true := decide_eq_true hi1
                  have v5 : decide ((i : Int) < 8) = true := decide_eq_true (by omega)
                  have v6 : decide (i < 8) = true := decide_eq_true hi2
                  have hk5 : i < xb.size := by omega
                  have hg5 := HXA.out i hk5
                  have hdg := HDGT.out i hi1
                  have hnb := HNB.out i hi hi8
                  have hpw := pow8 i hi8
                  have HSN := Lib.hid (HNS.out i hi1)
                  obtain ⟨nk, hnk⟩ : ∃ nk, nk = numL (((s.drop a).take nn).take i) := ⟨_, rfl⟩
                  rw [← hnk] at hnb HSN H5
                  obtain ⟨ch, hch⟩ : ∃ ch, ch = ((s.drop a).take nn).getD i 0 := ⟨_, rfl⟩
                  rw [← hch] at hg5 hdg HSN
                  have c1 : 0 ≤ nk := hnb.1
                  have c2 : nk < 100000000 := by omega
                  obtain ⟨c3, c4⟩ := hdg
                  have H6 := Lib.hid ((H5.out.num (10 * nk + ((ch.toNat : Int) - 48))).drew)
                  obtain ⟨k0, k1, k2, k3, k4⟩ := cells5 H5.out.box
                  have uf5 := Lib.frozen_of_heap H5.out.box
                  clear hnk hch hnb hpw
                  go_wp2_with fail
                  go_region
                  go_wp2_with fail
                  go_roundw
                  case rel => exact ⟨i + 1, by omega, by omega, by go_num, by rw [HSN.out]; exact H6.out⟩
                  case measure => simp [intOf]; omega
                · have HEX : Hid (decide ((i : Int) < (nn : Int)) = false ∧ decide (i < nn) = false ∨ decide ((i : Int) < (nn : Int)) = true ∧ decide (i < nn) = true ∧ decide ((i : Int) < 8) = false ∧ decide (i < 8) = false) := by
                    by_cases h1 : i < nn
                    · exact .inr ⟨decide_eq_true (by omega), decide_eq_true h1, decide_eq_false (by omega), decide_eq_false (by omega)⟩
                    · exact .inl ⟨decide_eq_false (by omega), decide_eq_false h1⟩
                  obtain ⟨nk, hnk⟩ : ∃ nk, nk = numL (((s.drop a).take nn).take i) := ⟨_, rfl⟩
                  rw [← hnk] at H5
                  obtain ⟨k0, k1, k2, k3, k4⟩ := cells5 H5.out.box
                  by_cases h7 : 7 < nn
                  · have u7 : decide ((7 : Int) < (nn : Int)) = true := decide_eq_true (by omega)
                    have u7' : decide (7 < nn) = true := decide_eq_true h7
                    have HBAD := Lib.hid (HBADX.out 132 (by rw [HWD.out, if_pos h7]) (by decide))
                    clear hin hnk HNEWX HBADX HWD h7
                    rcases HEX.out with ⟨v3, v4⟩ | ⟨v3, v4, v5, v6⟩
                    all_goals
                      have HFz := Lib.hid ((H5.out.bel.block w.heap.size (by omega)).trans HFW.out)
                      have HBz := Lib.hid (HBW.out.trans (H5.out.bel.mono (by omega)))
                      obtain ⟨s0, s1, s2⟩ := cells3 HFz.out
                      have uf := Lib.frozen_of_heap HFz.out
                      have hq := three_set HFz.out (.int .i64 132) (.int .i64 L) (.int .i64 C)
                      obtain ⟨p0, p1, p2⟩ := cells3 hq
                      clear hq
                      go_wp2_with fail
                      refine bodyPost_ret (v := .tuple #[.slice none 0 0, .agg #[.int .i64 132, .int .i64 L, .int .i64 C]]) (by simp [results, Tryd.results10, go_sem, p0, p1, p2]) rfl ?_
                      rw [HCL.out, HBAD.out]
                      exact ⟨rfl, below_three HBz.out (Nat.le_refl _) _ _ _⟩
                  · have u7 : decide ((7 : Int) < (nn : Int)) = false := decide_eq_false (by omega)
                    have u7' : decide (7 < nn) = false := decide_eq_false h7
                    have hin2 : i = nn := by omega
                    have hnk2 : nk = numL ((s.drop a).take nn) := by rw [hnk, hin2, List.take_of_length_le (by rw [HNL.out]; exact Nat.le_refl _)]
                    have v3 : decide ((i : Int) < (nn : Int)) = false := decide_eq_false (by omega)
                    have v4 : decide (i < nn) = false := decide_eq_false (by omega)
                    rw [if_neg h7, ← hnk2] at HWD
                    by_cases hm : 1000000 < nk
                    · have u8 : decide (1000000 < nk) = true := decide_eq_true hm
                      have HBAD := Lib.hid (HBADX.out 132 (by rw [HWD.out, if_pos hm]) (by decide))
                      clear hin hnk hnk2 HNEWX HBADX HWD h7 hm hin2 HEX
                      have HFz := Lib.hid ((H5.out.bel.block w.heap.size (by omega)).trans HFW.out)
                      have HBz := Lib.hid (HBW.out.trans (H5.out.bel.mono (by omega)))
                      obtain ⟨s0, s1, s2⟩ := cells3 HFz.out
                      have uf := Lib.frozen_of_heap HFz.out
                      have hq := three_set HFz.out (.int .i64 132) (.int .i64 L) (.int .i64 C)
                      obtain ⟨p0, p1, p2⟩ := cells3 hq
                      clear hq
                      go_wp2_with fail
                      refine bodyPost_ret (v := .tuple #[.slice none 0 0, .agg #[.int .i64 132, .int .i64 L, .int .i64 C]]) (by simp [results, Tryd.results10, go_sem, p0, p1, p2]) rfl ?_
                      rw [HCL.out, HBAD.out]
                      exact ⟨rfl, below_three HBz.out (Nat.le_refl _) _ _ _⟩
                    · have u8 : decide (1000000 < nk) = false := decide_eq_false hm
                      have HNEW := Lib.hid (fun vd v4 g4 c4 => HNEWX.out 2 nk vd v4 g4 c4 (by rw [HWD.out, if_neg hm]))
                      clear hin hnk hnk2 HNEWX HBADX HWD h7 hm hin2 HEX k0 k1 k2 k3 k4
                      obtain ⟨k0, k1, k2, k3, k4⟩ := cells5 H5.out.box
                      obtain ⟨p0, p1, p2, p3, p4⟩ := cells5 H5.out.box
                      have HAP := Lib.hid (H5.out.app _ rfl)
                      obtain ⟨a1, a2, a3, a4⟩ := HAP.out
                      have HA1 := Lib.hid a1
                      have HA2 := Lib.hid a2
                      have HA34 := Lib.hid (And.intro a3 a4)
                      clear a1 a2 a3 a4 HAP
                      go_wp2_with (at_builtin; refine wpList_append_sl _ rfl _ _ 22 33 rfl Tryd.underlying22 info_tok rfl (by decide) (by decide) A ts.length c (tkF ts) rfl HA1.out (by omega) ⟨wr.heap.size, 0, none⟩ 1 1 [.int .i64 2, .string xb, .int .i64 nk, .int .i64 L, .int .i64 C] rfl rfl HA2.out (by simp [Value.oneCell']) (by omega) (by omega) ?_)
                      intro g4 c4 v4 hr4 hg4 hk4
                      obtain ⟨hN, HN1⟩ := HNEW.out _ _ _ _ HA34.out.1 HA34.out.2 hr4 (by rcases hg4 with h | h; exact .inl h; exact .inr (by simpa using h)) (hk4 _ fun j hj => hj)
                      have HN := Lib.hid hN
                      have HTL : Hid ((ts ++ [(⟨2, (s.drop a).take nn, nk, L, C⟩ : WrdM.Tok)]).length = ts.length + 1) := by unfold Hid; rw [List.length_append]; rfl
                      clear hr4 hg4 hk4 hN p0 p1 p2 p3 p4 HA1 HA2 HA34
                      generalize ts ++ [(⟨2, (s.drop a).take nn, nk, L, C⟩ : WrdM.Tok)] = ts2 at *
                      go_wp2_with fail
                      go_roundw
                      case rel => exact ⟨a + nn, false, ts2, some ⟨g4, 0, none⟩, c4, by rw [HTL.out], by go_num, rfl, HN.out⟩
                      case measure => have := HN1.out; simp [intOf]; omega
          · rw [hlb] at HLT HWE HWNZ
            have e1 : ((a : Int) + (nn : Int)).toNat = a + nn := by omega
            have e2 : (0 : Int) ≤ (a : Int) + (nn : Int) := by omega
            have e3 : (a : Int) ≤ (a : Int) + (nn : Int) := by omega
            have e4 : (a : Int) + (nn : Int) ≤ (s.length : Int) := by omega
            have hnn1 : 32 < nn → wordL (s.drop a) = ⟨132, 0, [], 0⟩ := fun h => by rw [HWE.out]; unfold namW; rw [HNL.out]; simp only [if_true]; rw [if_pos h]
            have hnn2 : ¬ 32 < nn → ∀ b, keptB ((s.drop a).take nn) = b → wordL (s.drop a) = ⟨0, if b then 4 else 1, (s.drop a).take nn, 0⟩ := fun h b hb => by rw [HWE.out]; unfold namW; rw [HNL.out]; simp only [if_true]; rw [if_neg h, hb]
            have hz2 : ((nn : Int) == 0) = false := by
              rw [beq_eq_false_iff_ne]
              intro e
              have e0 : nn = 0 := by omega
              have h9 := HWE.out
              rw [e0] at h9
              have h8 : (s.drop a).takeWhile namB ≠ [] := by
                rw [drop_cons s a hlt, HX.out, List.takeWhile_cons, if_pos (by simp [namB, hlb])]; simp
              have h7 := HWNZ.out
              rw [e0] at h7
              exact h8 (List.length_eq_zero_iff.1 h7.symm)
            rw [let_dig x hlb] at HDG
            have HPK := Lib.hid (fun W => pkept_any ((s.drop a).take nn) W)
            rw [← HXB.out] at HPK
            have HKL := Lib.hid (kept_len ((s.drop a).take nn))
            rw [HNL.out] at HKL
            have HN1 := Lib.hid hnn1
            have HN2 := Lib.hid hnn2
            clear hlb HWE HWNZ hnn1 hnn2
            go_wp2_with fail
            refine HWD1.out.mono ?_
            rintro e w2 ⟨rfl, hB2⟩
            have HW2 := Lib.hid hB2
            have HB2 := Lib.hid (HBW.out.trans (hB2.mono HBW.out.size))
            have HF2 := Lib.hid ((hB2.block w.heap.size (lt_of_heap HFW.out)).trans HFW.out)
            clear hB2
            go_wp2_with fail
            refine (HPL1.out _).mono ?_
            rintro e w' ⟨rfl, rfl⟩
            have hTk := TkSt.start (k := 3) (xb := xb) (n := 0) (L := L) (C := C) HP.out.row HW2.out (lt_of_heap HFW.out)
            have HTK := Lib.hid hTk
            clear hTk
            go_wp2_with fail
            generalize w2.alloc (.cells #[.int .i64 3, .string xb, .int .i64 0, .int .i64 L, .int .i64 C] 33) = w3 at *
            generalize w2.heap.size = bt at *
            have H4 := Lib.hid (HTK.out.kind 1)
            obtain ⟨k0, k1, k2, k3, k4⟩ := cells5 HTK.out.box
            have uf3 := Lib.frozen_of_heap HTK.out.box
            refine (HLT.out _).mono ?_
            rintro e w' ⟨rfl, rfl⟩
            go_wp2_with fail
            generalize w3.setCell ⟨bt, 0, none⟩ (.int .i64 1) = w4 at *
            refine (HPK.out _).mono ?_
            rintro e w5 ⟨rfl, hB5⟩
            have H5 := Lib.hid (H4.out.below hB5)
            clear hB5 k0 k1 k2 k3 k4 uf3 H4 HTK
            rcases hkp : keptB ((s.drop a).take nn) with _ | _
            · by_cases h32 : 32 < nn
              · have u9 : decide ((32 : Int) < (nn : Int)) = true := decide_eq_true (by omega)
                have u9' : decide (32 < nn) = true := decide_eq_true h32
                have HBAD := Lib.hid (HBADX.out 132 (by rw [HN1.out h32]) (by decide))
                clear hkp h32 HNEWX HBADX HN1 HN2 HKL
                have HFz := Lib.hid ((H5.out.bel.block w.heap.size (by omega)).trans HFW.out)
                have HBz := Lib.hid (HBW.out.trans (H5.out.bel.mono (by omega)))
                obtain ⟨s0, s1, s2⟩ := cells3 HFz.out
                have uf := Lib.frozen_of_heap HFz.out
                have hq := three_set HFz.out (.int .i64 132) (.int .i64 L) (.int .i64 C)
                obtain ⟨p0, p1, p2⟩ := cells3 hq
                clear hq
                go_wp2_with fail
                refine bodyPost_ret (v := .tuple #[.slice none 0 0, .agg #[.int .i64 132, .int .i64 L, .int .i64 C]]) (by simp [results, Tryd.results10, go_sem, p0, p1, p2]) rfl ?_
                rw [HCL.out, HBAD.out]
                exact ⟨rfl, below_three HBz.out (Nat.le_refl _) _ _ _⟩
              · have u9 : decide ((32 : Int) < (nn : Int)) = false := decide_eq_false (by omega)
                have u9' : decide (32 < nn) = false := decide_eq_false h32
                have HNEW := Lib.hid (fun vd v4 g4 c4 => HNEWX.out 1 0 vd v4 g4 c4 (HN2.out h32 false hkp))
                clear hkp h32 HNEWX HBADX HN1 HN2 HKL
                go_wp2_with fail
                refine (HDG.out _).mono ?_
                rintro e w' ⟨rfl, rfl⟩
                obtain ⟨p0, p1, p2, p3, p4⟩ := cells5 H5.out.box
                have HAP := Lib.hid (H5.out.app _ rfl)
                obtain ⟨a1, a2, a3, a4⟩ := HAP.out
                have HA1 := Lib.hid a1
                have HA2 := Lib.hid a2
                have HA34 := Lib.hid (And.intro a3 a4)
                clear a1 a2 a3 a4 HAP
                go_wp2_with (at_builtin; refine wpList_append_sl _ rfl _ _ 22 33 rfl Tryd.underlying22 info_tok rfl (by decide) (by decide) A ts.length c (tkF ts) rfl HA1.out (by omega) ⟨w5.heap.size, 0, none⟩ 1 1 [.int .i64 1, .string xb, .int .i64 0, .int .i64 L, .int .i64 C] rfl rfl HA2.out (by simp [Value.oneCell']) (by omega) (by omega) ?_)
                intro g4 c4 v4 hr4 hg4 hk4
                obtain ⟨hN, HN1⟩ := HNEW.out _ _ _ _ HA34.out.1 HA34.out.2 hr4 (by rcases hg4 with h | h; exact .inl h; exact .inr (by simpa using h)) (hk4 _ fun j hj => hj)
                have HN := Lib.hid hN
                have HTL : Hid ((ts ++ [(⟨1, (s.drop a).take nn, 0, L, C⟩ : WrdM.Tok)]).length = ts.length + 1) := by unfold Hid; rw [List.length_append]; rfl
                clear hr4 hg4 hk4 hN p0 p1 p2 p3 p4 HA1 HA2 HA34
                generalize ts ++ [(⟨1, (s.drop a).take nn, 0, L, C⟩ : WrdM.Tok)] = ts2 at *
                go_wp2_with fail
                go_roundw
                case rel => exact ⟨a + nn, false, ts2, some ⟨g4, 0, none⟩, c4, by rw [HTL.out], by go_num, rfl, HN.out⟩
                case measure => have := HN1.out; simp [intOf]; omega
            · have h32 : ¬ 32 < nn := by have := HKL.out hkp; omega
              have u9 : decide ((32 : Int) < (nn : Int)) = false := decide_eq_false (by omega)
              have u9' : decide (32 < nn) = false := decide_eq_false h32
              have HNEW := Lib.hid (fun vd v4 g4 c4 => HNEWX.out 4 0 vd v4 g4 c4 (HN2.out h32 true hkp))
              have H6 := Lib.hid (H5.out.kind 4)
              obtain ⟨k0, k1, k2, k3, k4⟩ := cells5 H5.out.box
              have uf5 := Lib.frozen_of_heap H5.out.box
              clear hkp h32 HNEWX HBADX HN1 HN2 HKL
              go_wp2_with fail
              generalize w5.setCell ⟨bt, 0, none⟩ (.int .i64 4) = w6 at *
              clear k0 k1 k2 k3 k4 uf5 H5
              refine (HDG.out _).mono ?_
              rintro e w' ⟨rfl, rfl⟩
              obtain ⟨p0, p1, p2, p3, p4⟩ := cells5 H6.out.box
              have HAP := Lib.hid (H6.out.app _ rfl)
              obtain ⟨a1, a2, a3, a4⟩ := HAP.out
              have HA1 := Lib.hid a1
              have HA2 := Lib.hid a2
              have HA34 := Lib.hid (And.intro a3 a4)
              clear a1 a2 a3 a4 HAP
              go_wp2_with (at_builtin; refine wpList_append_sl _ rfl _ _ 22 33 rfl Tryd.underlying22 info_tok rfl (by decide) (by decide) A ts.length c (tkF ts) rfl HA1.out (by omega) ⟨w6.heap.size, 0, none⟩ 1 1 [.int .i64 4, .string xb, .int .i64 0, .int .i64 L, .int .i64 C] rfl rfl HA2.out (by simp [Value.oneCell']) (by omega) (by omega) ?_)
              intro g4 c4 v4 hr4 hg4 hk4
              obtain ⟨hN, HN1⟩ := HNEW.out _ _ _ _ HA34.out.1 HA34.out.2 hr4 (by rcases hg4 with h | h; exact .inl h; exact .inr (by simpa using h)) (hk4 _ fun j hj => hj)
              have HN := Lib.hid hN
              have HTL : Hid ((ts ++ [(⟨4, (s.drop a).take nn, 0, L, C⟩ : WrdM.Tok)]).length = ts.length + 1) := by unfold Hid; rw [List.length_append]; rfl
              clear hr4 hg4 hk4 hN p0 p1 p2 p3 p4 HA1 HA2 HA34
              generalize ts ++ [(⟨4, (s.drop a).take nn, 0, L, C⟩ : WrdM.Tok)] = ts2 at *
              go_wp2_with fail
              go_roundw
              case rel => exact ⟨a + nn, false, ts2, some ⟨g4, 0, none⟩, c4, by rw [HTL.out], by go_num, rfl, HN.out⟩
              case measure => have := HN1.out; simp [intOf]; omega
        · rw [h47] at t47 hr47
          have hx47 : x = 47 := by rw [beq_iff_eq] at h47; exact h47
          have hlx : letB x = false ∧ digB x = false := by rw [hx47]; exact let47
          have hs0 : signW (s.drop a) = [] := sign47 _ (by rw [head_drop _ _ _ hlt, HX.out]; exact h47)
          have hn0 : nn = 0 := by rw [HWNZ.out, hlx.1, hlx.2, hs0]; rfl
          have HBAD := Lib.hid (HBADX.out 131 (by rw [HWE.out, hlx.1, hlx.2, hn0]; rfl) (by decide))
          subst hn0
          clear hx47 hlx hs0 h47 HNEWX HBADX HWE HWNZ hex0 hxs b7 HXB HNL
          rw [Bool.true_and] at hr47
          by_cases hl2 : a + 1 < s.length
          · have u1 : decide ((a : Int) + 1 < (s.length : Int)) = true := decide_eq_true (by omega)
            have u2 : ((a : Int) + 1).toNat = a + 1 := by omega
            have hg2 := HAT.out (a + 1) (by omega)
            have s47 := (byte_tests (s.getD (a + 1) 0)).2.1
            rw [decide_eq_true hl2, Bool.true_and] at hr47
            rw [← hr47] at s47
            generalize s.getD (a + 1) 0 = y at *
            clear hr47
            go_wp2_with fail
            refine HWD1.out.mono ?_
            rintro e w2 ⟨rfl, hB2⟩
            have HW2 := Lib.hid hB2
            have HB2 := Lib.hid (HBW.out.trans (hB2.mono HBW.out.size))
            have HF2 := Lib.hid ((hB2.block w.heap.size (lt_of_heap HFW.out)).trans HFW.out)
            clear hB2
            go_wp2_with fail
            refine (HPL1.out _).mono ?_
            rintro e w' ⟨rfl, rfl⟩
            obtain ⟨s0, s1, s2⟩ := cells3 HF2.out
            have uf := Lib.frozen_of_heap HF2.out
            have hq := three_set HF2.out (.int .i64 131) (.int .i64 L) (.int .i64 C)
            obtain ⟨p0, p1, p2⟩ := cells3 hq
            clear hq
            go_wp2_with fail
            refine bodyPost_ret (v := .tuple #[.slice none 0 0, .agg #[.int .i64 131, .int .i64 L, .int .i64 C]]) (by simp [results, Tryd.results10, go_sem, p0, p1, p2]) rfl ?_
            rw [HCL.out, HBAD.out]
            exact ⟨rfl, below_three HB2.out (Nat.le_refl _) _ _ _⟩
          · have u1 : decide ((a : Int) + 1 < (s.length : Int)) = false := decide_eq_false (by omega)
            clear hr47
            go_wp2_with fail
            refine HWD1.out.mono ?_
            rintro e w2 ⟨rfl, hB2⟩
            have HW2 := Lib.hid hB2
            have HB2 := Lib.hid (HBW.out.trans (hB2.mono HBW.out.size))
            have HF2 := Lib.hid ((hB2.block w.heap.size (lt_of_heap HFW.out)).trans HFW.out)
            clear hB2
            go_wp2_with fail
            refine (HPL1.out _).mono ?_
            rintro e w' ⟨rfl, rfl⟩
            obtain ⟨s0, s1, s2⟩ := cells3 HF2.out
            have uf := Lib.frozen_of_heap HF2.out
            have hq := three_set HF2.out (.int .i64 131) (.int .i64 L) (.int .i64 C)
            obtain ⟨p0, p1, p2⟩ := cells3 hq
            clear hq
            go_wp2_with fail
            refine bodyPost_ret (v := .tuple #[.slice none 0 0, .agg #[.int .i64 131, .int .i64 L, .int .i64 C]]) (by simp [results, Tryd.results10, go_sem, p0, p1, p2]) rfl ?_
            rw [HCL.out, HBAD.out]
            exact ⟨rfl, below_three HB2.out (Nat.le_refl _) _ _ _⟩
    · have hae : a = s.length := by omega
      subst hae
      have v1 : decide ((s.length : Int) < (s.length : Int)) = false := decide_eq_false (by omega)
      have HPL1 := Lib.hid (fun W => HPL.out s.length W (Nat.le_refl _))
      have HDN := Lib.hid HP.out.done
      have hbd := adv_bd s 1 1 (by omega)
      rw [List.take_length] at HPL1
      obtain ⟨L, hL⟩ : ∃ L, L = (adv 1 1 s).1 := ⟨_, rfl⟩
      obtain ⟨C, hC⟩ : ∃ C, C = (adv 1 1 s).2 := ⟨_, rfl⟩
      rw [← hL, ← hC] at HPL1 HDN
      have HBW := Lib.hid (HB0.out.trans (HP.out.bel.mono (by omega)))
      have HFW := Lib.hid ((HP.out.bel.block w.heap.size (by omega)).trans HF0.out)
      have hal3 := below_alloc wr (.cells #[.int .i64 5, .string ⟨#[]⟩, .int .i64 0, .int .i64 L, .int .i64 C] 33)
      have HA1 := Lib.hid (HP.out.row.below hal3)
      have HA2 := Lib.hid (box_news wr 33 [.int .i64 5, .string ⟨#[]⟩, .int .i64 0, .int .i64 L, .int .i64 C])
      have HA3 := Lib.hid (HBW.out.trans (hal3.mono HBW.out.size))
      have HA4 := Lib.hid ((hal3.block w.heap.size (lt_of_heap HFW.out)).trans HFW.out)
      have HLO := Lib.hid HP.out.lo
      clear hL hC hbd hal3
      go_wp2_with fail
      refine (HPL1.out _).mono ?_
      rintro e w' ⟨rfl, rfl⟩
      go_wp2_with (at_builtin; refine wpList_append_sl _ rfl _ _ 22 33 rfl Tryd.underlying22 info_tok rfl (by decide) (by decide) A ts.length c (tkF ts) rfl HA1.out (by omega) ⟨wr.heap.size, 0, none⟩ 1 1 [.int .i64 5, .string ⟨#[]⟩, .int .i64 0, .int .i64 L, .int .i64 C] rfl rfl HA2.out (by simp [Value.oneCell']) (by omega) (by omega) ?_)
      intro g4 c4 v4 hr4 hg4 hk4
      have hkf := hk4 (onB A) (fun _ h => h)
      have hlt4 : w.heap.size < g4 := by
        rcases hg4 with h | h
        · exact HLO.out _ h
        · have h5 := lt_of_heap HFW.out
          omega
      have hoff : ¬ onB A w.heap.size := fun h => by have := HLO.out _ h; omega
      have hf4 := (hkf.block w.heap.size (lt_of_heap HA4.out) hoff).trans HA4.out
      have hb4 := HA3.out.trans ((hkf.below (B := w.heap.size + 1) (by have := lt_of_heap HA4.out; omega) (fun z hz => HLO.out z hz)).mono (by omega))
      have HQ : Hid (SlV 33 5 (((v4.setCell ⟨w.heap.size, 0, none⟩ (.int .i64 0)).setCell ⟨w.heap.size, 1, none⟩ (.int .i64 0)).setCell ⟨w.heap.size, 2, none⟩ (.int .i64 0)) (some ⟨g4, 0, none⟩) (ts ++ [(⟨5, [], 0, L, C⟩ : WrdM.Tok)]).length c4 (tkF (ts ++ [⟨5, [], 0, L, C⟩])) ∧ ∀ k, onB (some (⟨g4, 0, none⟩ : Addr)) k → w.heap.size ≤ k) := by
        refine ⟨SlV.three (.inr ⟨g4, rfl, ?_⟩) (fun h => ?_) _ _ _, fun k hk => ?_⟩
        · rw [List.length_append]
          exact hr4.congr fun j hj => tkF_snoc ts _ j hj
        · rw [onB_some] at h
          simp at h
          omega
        · rw [onB_some] at hk
          simp at hk
          omega
      have HLN : Hid ((ts ++ [(⟨5, [], 0, L, C⟩ : WrdM.Tok)]).length = ts.length + 1) := by unfold Hid; rw [List.length_append]; rfl
      have HB4 := Lib.hid hb4
      have HF4 := Lib.hid hf4
      clear hr4 hg4 hk4 hkf hlt4 hoff hf4 hb4
      obtain ⟨s0, s1, s2⟩ := cells3 HF4.out
      have uf := Lib.frozen_of_heap HF4.out
      have hq := three_set HF4.out (.int .i64 0) (.int .i64 0) (.int .i64 0)
      obtain ⟨p0, p1, p2⟩ := cells3 hq
      clear hq
      go_wp2_with fail
      refine bodyPost_ret (v := .tuple #[.slice (some ⟨g4, 0, none⟩) (ts.length + 1) c4, .agg #[.int .i64 0, .int .i64 0, .int .i64 0]]) (by simp [results, Tryd.results10, go_sem, p0, p1, p2]) rfl ?_
      rw [HCL.out, HDN.out]
      exact ⟨some ⟨g4, 0, none⟩, c4, by rw [HLN.out], HQ.out.1, HQ.out.2, below_three HB4.out (Nat.le_refl _) _ _ _⟩
end Go.Proofs.YtgbnhmnkdfiiiaaDoor
