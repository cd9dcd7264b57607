/- WordJoins is true of any two texts: the statement Rows.WordJoinsCardSaid, without a condition. -/
import Derived.Test.YtgbnhmnkdfiiiaaDoorWrdR
import Derived.Test.YtgbnhmnkdfiiiaaDoorWrdL
import Derived.Test.YtgbnhmnkdfiiiaaDoorWrdP
import Derived.IntWalk
import Derived.Deep.QuietTactic
import Derived.BigQuiet
namespace Go.Proofs.YtgbnhmnkdfiiiaaDoor.WJoins
open Go.RowKit WrdM

theorem app_mk (a b : List UInt8) : (⟨a.toArray⟩ : ByteArray) ++ ⟨b.toArray⟩ = ⟨(a ++ b).toArray⟩ := by
  apply ByteArray.ext
  simp
/-- One word's text more. -/
theorem agL_take (ts : List WrdM.Tok) (k : Nat) (t : WrdM.Tok) (h : ts[k]? = some t) : agL (ts.take (k + 1)) = agL (ts.take k) ++ (t.text ++ [32]) := by
  have hk : k < ts.length := by
    rcases Nat.lt_or_ge k ts.length with h2 | h2
    · exact h2
    · rw [List.getElem?_eq_none h2] at h; cases h
  rw [List.take_succ_eq_append_getElem hk, agL_app]
  rw [List.getElem?_eq_getElem hk] at h
  injection h with h
  rw [h]
  simp [agL]

/-- The four rows of words, in memory. -/
structure Jn (w W : World) (ga gb gc gd : Nat) (la lb lc lj : List WrdM.Tok) : Prop where
  b : Below w.heap.size w W
  ra : RdT W ga la
  rb : RdT W gb lb
  rc : RdT W gc lc
  rd : RdT W gd lj
theorem Jn.below {w W W' : World} {ga gb gc gd : Nat} {la lb lc lj : List WrdM.Tok} (h : Jn w W ga gb gc gd la lb lc lj) (hb : Below W.heap.size W W') : Jn w W' ga gb gc gd la lb lc lj :=
  ⟨h.b.trans (hb.mono h.b.size), h.ra.below hb h.ra.1, h.rb.below hb h.rb.1, h.rc.below hb h.rc.1, h.rd.below hb h.rd.1⟩
theorem Jn.drewN {w W : World} {ga gb gc gd : Nat} {la lb lc lj : List WrdM.Tok} (h : Jn w W ga gb gc gd la lb lc lj) (q : Nat) : Jn w (W.drewN q) ga gb gc gd la lb lc lj :=
  h.below (below_drewN (Below.refl _ _) q)
theorem agL_le (ts : List WrdM.Tok) (k : Nat) : (agL (ts.take k)).length ≤ (agL ts).length := by
  conv => rhs; rw [← List.take_append_drop k ts, agL_app, List.length_append]
  omega
theorem get_of {ts : List WrdM.Tok} {k : Nat} (h : k < ts.length) : ∃ x, ts[k]? = some x := ⟨ts[k], List.getElem?_eq_getElem h⟩
theorem ret_eq {a b : ByteArray} (h : a = b) : Value.string a = .string b := by rw [h]

set_option maxHeartbeats 6400000 in
set_option maxRecDepth 100000 in
theorem walk (s t : List UInt8) (w : World) (h : SgnAt w) (hw : 0 < w.heap.size) (hs : s.length ≤ 9223372036854775807) (ht : t.length ≤ 9223372036854775807) :
    Calls Tryd.prog 6 #[.string ⟨s.toArray⟩, .string ⟨t.toArray⟩] w fun e w' => e = .returned (.bool true) ∧ Below w.heap.size w w' := by
  have HAL := Lib.hid (alive_any w h hw)
  have HSG : Hid (∀ W, Below w.heap.size w W → SgnAt W ∧ 0 < W.heap.size) := fun W hb => ⟨h.below hb hw, Nat.lt_of_lt_of_le hw hb.size⟩
  obtain ⟨sb, hsb⟩ : ∃ sb : ByteArray, sb = ⟨s.toArray⟩ := ⟨_, rfl⟩
  obtain ⟨tb, htb⟩ : ∃ tb : ByteArray, tb = ⟨t.toArray⟩ := ⟨_, rfl⟩
  have hn : sb.size = s.length := by rw [hsb, size_mk]
  have hm : tb.size = t.length := by rw [htb, size_mk]
  have HSB := Lib.hid hsb
  have HTB := Lib.hid htb
  rw [← hsb, ← htb]
  clear hsb htb h
  by_cases hbs : 4000 < s.length
  · have t1 : decide ((4000 : Int) < (s.length : Int)) = true := decide_eq_true (by omega)
    have t2 : decide (4000 < s.length) = true := decide_eq_true hbs
    go_enter Tryd.func6, Tryd.ntmps6
    go_wp2_with fail
    refine HAL.out.mono ?_
    rintro e w1 ⟨rfl, hB1⟩
    have HB1 := Lib.hid hB1
    clear hB1
    go_wp2_with fail
    go_ret
    exact ⟨rfl, HB1.out⟩
  have t1 : decide ((4000 : Int) < (s.length : Int)) = false := decide_eq_false (by omega)
  have t2 : decide (4000 < s.length) = false := decide_eq_false hbs
  have hle : s.length ≤ 4000 := by omega
  by_cases hbt : 4000 < t.length
  · have t3 : decide ((4000 : Int) < (t.length : Int)) = true := decide_eq_true (by omega)
    have t4 : decide (4000 < t.length) = true := decide_eq_true hbt
    go_enter Tryd.func6, Tryd.ntmps6
    go_wp2_with fail
    refine HAL.out.mono ?_
    rintro e w1 ⟨rfl, hB1⟩
    have HB1 := Lib.hid hB1
    clear hB1
    go_wp2_with fail
    go_ret
    exact ⟨rfl, HB1.out⟩
  have t3 : decide ((4000 : Int) < (t.length : Int)) = false := decide_eq_false (by omega)
  have t4 : decide (4000 < t.length) = false := decide_eq_false hbt
  have hlt : t.length ≤ 4000 := by omega
  clear hbs hbt
  go_enter Tryd.func6, Tryd.ntmps6
  go_wp2_with fail
  refine HAL.out.mono ?_
  rintro e w1 ⟨rfl, hB1⟩
  have HB1 := Lib.hid hB1
  obtain ⟨q1, q2⟩ := HSG.out _ hB1
  have HC := Lib.hid (cut_any s w1 q1 q2 hs)
  rw [← HSB.out] at HC
  clear HAL hB1 q1 q2
  cases ho : cutL s with
  | bad er Le Ce =>
    obtain ⟨k1, k2, k3⟩ := cut_fault s er Le Ce ho
    rw [ho] at HC
    clear ho
    go_wp2_with fail
    refine HC.out.mono ?_
    rintro e w2 ⟨rfl, hB2⟩
    have hal := below_alloc w2 (.cells #[.int .i64 er, .int .i64 Le, .int .i64 Ce] 25)
    have hx := hB2.trans (hal.mono hB2.size)
    have HB2 := Lib.hid (HB1.out.trans (hx.mono HB1.out.size))
    have HF2 : Hid (∀ W, Below (w2.heap.size + 1) (w2.alloc (.cells #[.int .i64 er, .int .i64 Le, .int .i64 Ce] 25)) W → W.cell? ⟨w2.heap.size, 0, none⟩ = some (.int .i64 er) ∧ W.cell? ⟨w2.heap.size, 1, none⟩ = some (.int .i64 Le) ∧ W.cell? ⟨w2.heap.size, 2, none⟩ = some (.int .i64 Ce)) := fun W hb => flt_box w2 _ _ _ hb
    have HZ2 := Lib.hid (size_alloc w2 (.cells #[.int .i64 er, .int .i64 Le, .int .i64 Ce] 25))
    obtain ⟨q1, q2⟩ := HSG.out _ HB2.out
    have HD := Lib.hid (cut_any t _ q1 q2 ht)
    rw [← HTB.out] at HD
    have u3 : (er == 0) = false := by rw [beq_eq_false_iff_ne]; omega
    clear HC hB2 hal hx q1 q2
    go_wp2_with fail
    generalize w2.alloc (.cells #[.int .i64 er, .int .i64 Le, .int .i64 Ce] 25) = v2 at *
    cases hp : cutL t with
    | bad eb Lb Cb =>
      rw [hp] at HD
      refine HD.out.mono ?_
      rintro e w3 ⟨rfl, hB3⟩
      have hal := below_alloc w3 (.cells #[.int .i64 eb, .int .i64 Lb, .int .i64 Cb] 25)
      have hx := hB3.trans (hal.mono hB3.size)
      have HB3 := Lib.hid (HB2.out.trans (hx.mono HB2.out.size))
      obtain ⟨f0, f1, f2⟩ := HF2.out _ (hx.mono (by have := HZ2.out; omega))
      clear HD hB3 hal hx
      go_wp2_with fail
      go_ret
      exact ⟨rfl, HB3.out⟩
    | ok lb =>
      rw [hp] at HD
      refine HD.out.mono ?_
      rintro e w3 ⟨A3, c3, rfl, _, _, hB3⟩
      have hal := below_alloc w3 (.cells #[.int .i64 0, .int .i64 0, .int .i64 0] 25)
      have hx := hB3.trans (hal.mono hB3.size)
      have HB3 := Lib.hid (HB2.out.trans (hx.mono HB2.out.size))
      obtain ⟨f0, f1, f2⟩ := HF2.out _ (hx.mono (by have := HZ2.out; omega))
      clear HD hB3 hal hx
      go_wp2_with fail
      go_ret
      exact ⟨rfl, HB3.out⟩
  | ok la =>
    obtain ⟨k1, k2, k3, lc, k4, k5⟩ := cut_again s la hle ho
    rw [ho] at HC
    go_wp2_with fail
    refine HC.out.mono ?_
    rintro e w2 ⟨A, c, rfl, hS, hN, hB2⟩
    obtain ⟨ga, rfl, hR, hc1, hc2⟩ := rdT_of hS k3
    have hal := below_alloc w2 (.cells #[.int .i64 0, .int .i64 0, .int .i64 0] 25)
    have hx := hB2.trans (hal.mono hB2.size)
    have HB2 := Lib.hid (HB1.out.trans (hx.mono HB1.out.size))
    have HRA := Lib.hid (hR.below hal hR.1)
    have HF2 : Hid (∀ W, Below (w2.heap.size + 1) (w2.alloc (.cells #[.int .i64 0, .int .i64 0, .int .i64 0] 25)) W → W.cell? ⟨w2.heap.size, 0, none⟩ = some (.int .i64 0) ∧ W.cell? ⟨w2.heap.size, 1, none⟩ = some (.int .i64 0) ∧ W.cell? ⟨w2.heap.size, 2, none⟩ = some (.int .i64 0)) := fun W hb => flt_box w2 _ _ _ hb
    have HZ2 := Lib.hid (size_alloc w2 (.cells #[.int .i64 0, .int .i64 0, .int .i64 0] 25))
    obtain ⟨q1, q2⟩ := HSG.out _ HB2.out
    have HD := Lib.hid (cut_any t _ q1 q2 ht)
    rw [← HTB.out] at HD
    clear HC hB2 hal hx q1 q2 hR hS hN
    obtain ⟨n, hnl⟩ : ∃ n, n = la.length := ⟨_, rfl⟩
    have HNL := Lib.hid hnl
    rw [← hnl] at hc1 k2 k3 ⊢
    clear hnl
    go_wp2_with fail
    generalize w2.alloc (.cells #[.int .i64 0, .int .i64 0, .int .i64 0] 25) = v2 at *
    cases hp : cutL t with
    | bad eb Lb Cb =>
      obtain ⟨m1, m2, m3⟩ := cut_fault t eb Lb Cb hp
      rw [hp] at HD
      refine HD.out.mono ?_
      rintro e w3 ⟨rfl, hB3⟩
      have hal := below_alloc w3 (.cells #[.int .i64 eb, .int .i64 Lb, .int .i64 Cb] 25)
      have hx := hB3.trans (hal.mono hB3.size)
      have HB3 := Lib.hid (HB2.out.trans (hx.mono HB2.out.size))
      obtain ⟨f0, f1, f2⟩ := HF2.out _ (hx.mono (by have := HZ2.out; omega))
      have u3 : (eb == 0) = false := by rw [beq_eq_false_iff_ne]; omega
      clear HD hB3 hal hx
      go_wp2_with fail
      go_ret
      exact ⟨rfl, HB3.out⟩
    | ok lb =>
      obtain ⟨us, Le, Ce, hu, hj⟩ := cut_join s t la lb hle hlt ho hp
      obtain ⟨_, m2, m3, _⟩ := cut_again t lb hlt hp
      rw [hp] at HD
      refine HD.out.mono ?_
      rintro e w3 ⟨B, d, rfl, hS, hN, hB3⟩
      obtain ⟨gb, rfl, hR, hd1, hd2⟩ := rdT_of hS m3
      have hal := below_alloc w3 (.cells #[.int .i64 0, .int .i64 0, .int .i64 0] 25)
      have hx := hB3.trans (hal.mono hB3.size)
      have HB3 := Lib.hid (HB2.out.trans (hx.mono HB2.out.size))
      have HRB := Lib.hid (hR.below hal hR.1)
      have HRA3 := Lib.hid (HRA.out.below hx HRA.out.1)
      obtain ⟨f0, f1, f2⟩ := HF2.out _ (hx.mono (by have := HZ2.out; omega))
      obtain ⟨m, hml⟩ : ∃ m, m = lb.length := ⟨_, rfl⟩
      have HML := Lib.hid hml
      rw [← hml] at hd1 m2 m3 ⊢
      have HAG := Lib.hid k4
      have HLK := Lib.hid k5
      have HU := Lib.hid hu
      have HJ := Lib.hid hj
      have HK1 := Lib.hid k1
      have HLA := Lib.hid (cut_lines s la hle ho)
      have HLB := Lib.hid (cut_lines t lb hlt hp)
      clear HD hB3 hal hx hR hS hN hml k4 k5 hu hj ho hp k1 HF2 HZ2 HRA
      go_wp2_with fail
      generalize w3.alloc (.cells #[.int .i64 0, .int .i64 0, .int .i64 0] 25) = v3 at *
      clear f0 f1 f2
      go_loopw [9, 11, 51] (fun sv _ i wr => ∃ k : Nat, k ≤ n ∧ sv = .string ⟨(agL (la.take k)).toArray⟩ ∧ i = .int .i64 k ∧ Hid (Below v3.heap.size v3 wr)) (fun _ _ i _ => n - (intOf i).toNat)
      case atStart => exact ⟨0, Nat.zero_le _, rfl, rfl, Below.refl _ _⟩
      case round =>
        obtain ⟨k, hk, rfl, rfl, HW⟩ := hrel
        by_cases hlt : k < n
        · have v1 : decide ((k : Int) < (n : Int)) = true := decide_eq_true (by omega)
          have v2 : decide (k < n) = true := decide_eq_true hlt
          obtain ⟨x, hx⟩ := get_of (ts := la) (k := k) (by rw [← HNL.out]; exact hlt)
          obtain ⟨c0, cx, cn, cl, cc⟩ := (HRA3.out.below HW.out HRA3.out.1).2 k x hx
          have HT := Lib.hid (agL_take la k x hx)
          obtain ⟨xb, hxb⟩ : ∃ xb : ByteArray, xb = ⟨x.text.toArray⟩ := ⟨_, rfl⟩
          rw [← hxb] at cx
          have HXB := Lib.hid hxb
          obtain ⟨ab, hab⟩ : ∃ ab : ByteArray, ab = ⟨(agL (la.take k)).toArray⟩ := ⟨_, rfl⟩
          have HAB := Lib.hid hab
          rw [← hab]
          have hsz : ab.size + (xb.size + 1) ≤ 8001 := by
            have h1 := congrArg List.length HT.out
            have h2 := agL_le la (k + 1)
            have h3 := HK1.out
            rw [List.length_append, List.length_append] at h1
            rw [hab, hxb, size_mk, size_mk]
            simp only [List.length_cons, List.length_nil] at h1
            omega
          have z1 : ¬ 9223372036854775807 < xb.size + 1 := by omega
          have z2 : ¬ 9223372036854775807 < ab.size + (xb.size + 1) := by omega
          clear hx hxb hab hsz
          go_wp2_with fail
          go_roundw
          case rel => exact ⟨k + 1, by omega, ret_eq (by rw [HAB.out, HXB.out, HT.out, ← app_mk, ← app_mk]), by go_num, HW.out.trans ((below_alloc wr _).mono HW.out.size)⟩
          case measure => simp [intOf]; omega
        · have v1 : decide ((k : Int) < (n : Int)) = false := decide_eq_false (by omega)
          have v2 : decide (k < n) = false := decide_eq_false hlt
          have hke : la.take k = la := List.take_of_length_le (by rw [← HNL.out]; omega)
          rw [hke]
          have HBW : Hid (Below w.heap.size w wr) := HB3.out.trans (HW.out.mono HB3.out.size)
          obtain ⟨q1, q2⟩ := HSG.out _ HBW.out
          have HC := Lib.hid (cut_any (agL la) wr q1 q2 (Nat.le_trans HK1.out (by decide)))
          rw [HAG.out] at HC
          have HRA4 := Lib.hid (HRA3.out.below HW.out HRA3.out.1)
          have HRB4 := Lib.hid (HRB.out.below HW.out HRB.out.1)
          generalize (⟨(agL la).toArray⟩ : ByteArray) = ab at *
          clear hke hk hlt HW HB3 HRA3 HRB q1 q2
          go_wp2_with fail
          have hcl : lc.length = n := by rw [HLK.out.1, HNL.out]
          refine HC.out.mono ?_
          rintro e w4 ⟨A4, d4, rfl, hS, hN, hB4⟩
          obtain ⟨gc, rfl, hR, hx1, hx2⟩ := rdT_of hS (by omega)
          have hal := below_alloc w4 (.cells #[.int .i64 0, .int .i64 0, .int .i64 0] 25)
          have hx := hB4.trans (hal.mono hB4.size)
          have HB4 := Lib.hid (HBW.out.trans (hx.mono HBW.out.size))
          have HRC := Lib.hid (hR.below hal hR.1)
          have HRA5 := Lib.hid (HRA4.out.below hx HRA4.out.1)
          have HRB5 := Lib.hid (HRB4.out.below hx HRB4.out.1)
          have HF4 : Hid (∀ W, Below (w4.heap.size + 1) (w4.alloc (.cells #[.int .i64 0, .int .i64 0, .int .i64 0] 25)) W → W.cell? ⟨w4.heap.size, 0, none⟩ = some (.int .i64 0) ∧ W.cell? ⟨w4.heap.size, 1, none⟩ = some (.int .i64 0) ∧ W.cell? ⟨w4.heap.size, 2, none⟩ = some (.int .i64 0)) := fun W hb => flt_box w4 _ _ _ hb
          have HZ4 := Lib.hid (size_alloc w4 (.cells #[.int .i64 0, .int .i64 0, .int .i64 0] 25))
          obtain ⟨q1, q2⟩ := HSG.out _ HB4.out
          have hD := cut_any (s ++ 10 :: t) _ q1 q2 (by rw [List.length_append, List.length_cons]; omega)
          rw [HJ.out, show (⟨(s ++ 10 :: t).toArray⟩ : ByteArray) = (sb ++ ⟨#[10]⟩) ++ tb from by
            rw [HSB.out, HTB.out, show (⟨#[10]⟩ : ByteArray) = ⟨[10].toArray⟩ from rfl, app_mk, app_mk, List.append_assoc]; rfl] at hD
          have HD := Lib.hid hD
          rw [hcl] at hx1 ⊢
          have z1 : ¬ 9223372036854775807 < sb.size + 1 := by omega
          have z2 : ¬ 9223372036854775807 < sb.size + 1 + tb.size := by omega
          clear HC hB4 hal hx q1 q2 hR hS hN hD HRA4 HRB4 hcl
          go_wp2_with fail
          generalize w4.alloc (.cells #[.int .i64 0, .int .i64 0, .int .i64 0] 25) = v4 at *
          obtain ⟨lj, hlj⟩ : ∃ lj, lj = us ++ lb.map (shT Le) := ⟨_, rfl⟩
          have HLJ := Lib.hid hlj
          rw [← hlj] at HD
          have HUL : Hid (n = us.length + 1) := by unfold Hid; rw [HNL.out, HU.out, List.length_append]; rfl
          have hpl : lj.length + 1 = n + m := by rw [hlj, List.length_append, List.length_map, HUL.out, HML.out]; omega
          clear hlj
          refine HD.out.mono ?_
          rintro e w5 ⟨A5, d5, rfl, hS, hN, hB5⟩
          obtain ⟨gd, rfl, hR, hy1, hy2⟩ := rdT_of hS (by omega)
          have hal := below_alloc w5 (.cells #[.int .i64 0, .int .i64 0, .int .i64 0] 25)
          have hx := hB5.trans (hal.mono hB5.size)
          have HB5 := Lib.hid (HB4.out.trans (hx.mono HB4.out.size))
          have HRD := Lib.hid (hR.below hal hR.1)
          have HRA6 := Lib.hid (HRA5.out.below hx HRA5.out.1)
          have HRB6 := Lib.hid (HRB5.out.below hx HRB5.out.1)
          have HRC6 := Lib.hid (HRC.out.below hx HRC.out.1)
          obtain ⟨f0, f1, f2⟩ := HF4.out _ (hx.mono (by have := HZ4.out; omega))
          obtain ⟨pl, hpl2⟩ : ∃ pl, pl = lj.length := ⟨_, rfl⟩
          rw [← hpl2] at hpl hy1 ⊢
          have HPL := Lib.hid hpl2
          have y1 : ((pl : Int) != (n : Int) + (m : Int) - 1) = false := by rw [bne_eq_false_iff_eq]; omega
          clear HD hB5 hal hx hR hS hN hpl2 HF4 HZ4 HRA5 HRB5 HRC
          go_wp2_with fail
          generalize w5.alloc (.cells #[.int .i64 0, .int .i64 0, .int .i64 0] 25) = v5 at *
          have H0 : Hid (Jn w v5 ga gb gc gd la lb lc lj) := ⟨HB5.out, HRA6.out, HRB6.out, HRC6.out, HRD.out⟩
          clear f0 f1 f2 y1 HRA6 HRB6 HRC6 HRD HB4 HB5
          go_loopw [16, 102] (fun _ i wr => ∃ k : Nat, k ≤ n ∧ i = .int .i64 k ∧ Hid (Jn w wr ga gb gc gd la lb lc lj)) (fun _ i _ => n - (intOf i).toNat)
          case atStart => exact ⟨0, Nat.zero_le _, rfl, H0⟩
          case round =>
            obtain ⟨k, hk, rfl, HJN⟩ := hrel
            clear H0
            by_cases hlt2 : k < n
            · have v1 : decide ((k : Int) < (n : Int)) = true := decide_eq_true (by omega)
              have v2 : decide (k < n) = true := decide_eq_true hlt2
              obtain ⟨x, hx⟩ := get_of (ts := la) (k := k) (by rw [← HNL.out]; exact hlt2)
              obtain ⟨y, hy⟩ := get_of (ts := lc) (k := k) (by rw [HLK.out.1, ← HNL.out]; exact hlt2)
              obtain ⟨g1, g2, g3⟩ := HLK.out.2 k (by rw [HLK.out.1, ← HNL.out]; exact hlt2) y x hy hx
              obtain ⟨c0, cx, cn, _, _⟩ := HJN.out.ra.2 k x hx
              obtain ⟨d0, dx, dn, _, _⟩ := HJN.out.rc.2 k y hy
              rw [g1] at d0
              rw [g2] at dx
              rw [g3] at dn
              obtain ⟨xb, hxb⟩ : ∃ xb : ByteArray, xb = ⟨x.text.toArray⟩ := ⟨_, rfl⟩
              rw [← hxb] at cx dx
              generalize x.kind = kd at *
              generalize x.num = nm at *
              clear hx hy g1 g2 g3 hxb
              go_wp2_with fail
              go_quiet (fail)
              go_wp2_with fail
              go_roundw
              case rel => exact ⟨k + 1, by omega, by go_num, HJN.out.drewN nq⟩
              case measure => simp [intOf]; omega
            · have v1 : decide ((k : Int) < (n : Int)) = false := decide_eq_false (by omega)
              have v2 : decide (k < n) = false := decide_eq_false hlt2
              clear hlt2 hk
              obtain ⟨u, hu⟩ : ∃ u, u = us.length := ⟨_, rfl⟩
              have hnu : n = u + 1 := by rw [HUL.out, hu]
              have hlast : la[u]? = some ⟨5, [], 0, Le, Ce⟩ := by rw [HU.out, hu, List.getElem?_append_right (Nat.le_refl _), Nat.sub_self]; rfl
              obtain ⟨c0, cx, cn, cl, cc⟩ := HJN.out.ra.2 u _ hlast
              have e1 : ((n : Int) - 1).toNat = u := by omega
              have HNU := Lib.hid hnu
              have HLAST := Lib.hid hlast
              have HUS := Lib.hid hu
              clear hlast hu hnu
              have HLe : Hid (1 ≤ Le ∧ Le ≤ 4001) := HLA.out _ (List.mem_of_getElem? HLAST.out)
              have hal := below_alloc wr (.cells #[.int .i64 5, .string ⟨#[]⟩, .int .i64 0, .int .i64 Le, .int .i64 Ce] 33)
              have HJ6 := Lib.hid (HJN.out.below hal)
              have H17 := Lib.hid (blk_new wr (.cells #[.int .i64 5, .string ⟨#[]⟩, .int .i64 0, .int .i64 Le, .int .i64 Ce] 33))
              clear hal
              go_wp2_with fail
              generalize wr.alloc (.cells #[.int .i64 5, .string ⟨#[]⟩, .int .i64 0, .int .i64 Le, .int .i64 Ce] 33) = v6 at *
              clear c0 cx cn cl cc HJN e1 v1 v2
              generalize wr.heap.size = b17 at *
              generalize wr = wold at *
              go_loopw [18, 19, 20, 151] (fun _ _ _ i wr => ∃ k : Nat, k ≤ pl ∧ i = .int .i64 k ∧ Hid (Jn w wr ga gb gc gd la lb lc lj) ∧ Hid (wr.heap[b17]? = some (.cells #[.int .i64 5, .string ⟨#[]⟩, .int .i64 0, .int .i64 Le, .int .i64 Ce] 33 (0, 0)))) (fun _ _ _ i _ => pl - (intOf i).toNat)
              case atStart => exact ⟨0, Nat.zero_le _, rfl, HJ6, H17⟩
              case round =>
                obtain ⟨k, hk, rfl, HJN, HBX⟩ := hrel
                clear HJ6 H17
                by_cases hlt2 : k < pl
                · have v1 : decide ((k : Int) < (pl : Int)) = true := decide_eq_true (by omega)
                  have v2 : decide (k < pl) = true := decide_eq_true hlt2
                  obtain ⟨⟨xk, xt, xn, xl, xc⟩, hX⟩ := get_of (ts := lj) (k := k) (by rw [← HPL.out]; exact hlt2)
                  obtain ⟨d0, dx, dn, dl, dc⟩ := HJN.out.rd.2 k _ hX
                  dsimp only at d0 dx dn dl dc
                  have e0 : IntKind.i64.wrap ((n : Int) - 1) = (n : Int) - 1 := IntWalk.i64_in _ (by omega)
                  by_cases hku : k < u
                  · have hxa : la[k]? = some ⟨xk, xt, xn, xl, xc⟩ := by
                      have h1 : lj[k]? = us[k]? := by rw [HLJ.out, List.getElem?_append_left (by rw [← HUS.out]; exact hku)]
                      rw [HU.out, List.getElem?_append_left (by rw [← HUS.out]; exact hku), ← h1]
                      exact hX
                    obtain ⟨xb, hxb⟩ : ∃ xb : ByteArray, xb = ⟨xt.toArray⟩ := ⟨_, rfl⟩
                    rw [← hxb] at dx
                    have hal := below_alloc wr (.cells #[.int .i64 xk, .string xb, .int .i64 xn, .int .i64 xl, .int .i64 xc] 33)
                    obtain ⟨n0, n1, n2, n3, n4⟩ := tok_cells wr (.int .i64 xk) (.string xb) (.int .i64 xn) (.int .i64 xl) (.int .i64 xc) 33
                    have HJ7 := Lib.hid (HJN.out.below hal)
                    have HBX7 := Lib.hid ((hal.block b17 (lt_of_heap HBX.out)).trans HBX.out)
                    obtain ⟨a0, ax, an, al, ac⟩ := HJ7.out.ra.2 k _ hxa
                    dsimp only at a0 ax an al ac
                    rw [← hxb] at ax
                    have u1 : decide ((k : Int) < (n : Int) - 1) = true := decide_eq_true (by have := HNU.out; omega)
                    have u2 : decide ((n : Int) - 1 ≤ (k : Int)) = false := decide_eq_false (by have := HNU.out; omega)
                    have hkn : k < n := by have := HNU.out; omega
                    have u3 : decide ((k : Int) < (n : Int)) = true := decide_eq_true (by omega)
                    have u4 : decide (k < n) = true := decide_eq_true hkn
                    clear hX hxa hal HBX hxb
                    go_wp2_with fail
                    generalize wr.alloc (.cells #[.int .i64 xk, .string xb, .int .i64 xn, .int .i64 xl, .int .i64 xc] 33) = w7 at *
                    go_quiet (fail)
                    clear e0
                    go_wp2_with fail
                    go_roundw
                    case rel => exact ⟨k + 1, by omega, by go_num, HJ7.out.drewN nq, HBX7.out⟩
                    case measure => simp [intOf]; omega
                  · obtain ⟨j, hj⟩ : ∃ j, j = k - u := ⟨_, rfl⟩
                    have hjm : j < m := by have := HNU.out; omega
                    obtain ⟨⟨yk, yt, yn, yl, yc⟩, hY⟩ := get_of (ts := lb) (k := j) (by rw [← HML.out]; exact hjm)
                    have hxy : (⟨xk, xt, xn, xl, xc⟩ : WrdM.Tok) = ⟨yk, yt, yn, yl + Le, yc⟩ := by
                      have h1 : lj[k]? = (lb.map (shT Le))[j]? := by rw [HLJ.out, List.getElem?_append_right (by rw [← HUS.out]; omega), ← HUS.out, hj]
                      rw [hX, List.getElem?_map, hY] at h1
                      injection h1
                    injection hxy with x1 x2 x3 x4 x5
                    subst x1; subst x2; subst x3; subst x4; subst x5
                    have hyl : 1 ≤ yl ∧ yl ≤ 4001 := HLB.out _ (List.mem_of_getElem? hY)
                    have hle1 := HLe.out
                    obtain ⟨xb, hxb⟩ : ∃ xb : ByteArray, xb = ⟨xt.toArray⟩ := ⟨_, rfl⟩
                    rw [← hxb] at dx
                    have hal := below_alloc wr (.cells #[.int .i64 xk, .string xb, .int .i64 xn, .int .i64 (yl + Le), .int .i64 xc] 33)
                    obtain ⟨n0, n1, n2, n3, n4⟩ := tok_cells wr (.int .i64 xk) (.string xb) (.int .i64 xn) (.int .i64 (yl + Le)) (.int .i64 xc) 33
                    have H19 := Lib.hid (blk_new wr (.cells #[.int .i64 xk, .string xb, .int .i64 xn, .int .i64 (yl + Le), .int .i64 xc] 33))
                    have HJ7 := Lib.hid (HJN.out.below hal)
                    have HBX7 := Lib.hid ((hal.block b17 (lt_of_heap HBX.out)).trans HBX.out)
                    obtain ⟨a0, ax, an, al, ac⟩ := HJ7.out.rb.2 j _ hY
                    dsimp only at a0 ax an al ac
                    rw [← hxb] at ax
                    have u1 : decide ((k : Int) < (n : Int) - 1) = false := decide_eq_false (by have := HNU.out; omega)
                    have u2 : decide ((n : Int) - 1 ≤ (k : Int)) = true := decide_eq_true (by have := HNU.out; omega)
                    have e1 : ((k : Int) - (n : Int) + 1).toNat = j := by have := HNU.out; omega
                    have e2 : (0 : Int) ≤ (k : Int) - (n : Int) + 1 := by have := HNU.out; omega
                    have e3 : (k : Int) - (n : Int) + 1 < (m : Int) := by have := HNU.out; omega
                    obtain ⟨y1, y2⟩ := hyl
                    obtain ⟨z1', z2'⟩ := hle1
                    have HKP : Hid (k + 1 ≤ pl) := hlt2
                    clear hX hY hal HBX hxb hj hku
                    go_wp2_with fail
                    generalize wr.alloc (.cells #[.int .i64 xk, .string xb, .int .i64 xn, .int .i64 (yl + Le), .int .i64 xc] 33) = w7 at *
                    generalize wr.heap.size = b19 at *
                    generalize wr = wold2 at *
                    go_quiet (fail)
                    clear e0
                    have HJ8 := Lib.hid (HJ7.out.drewN nq)
                    have b0 : (w7.drewN nq).cell? ⟨gb, j * 5, none⟩ = some (.int .i64 xk) := a0
                    have b1 : (w7.drewN nq).cell? ⟨gb, j * 5 + 1, none⟩ = some (.string xb) := ax
                    have b2 : (w7.drewN nq).cell? ⟨gb, j * 5 + 2, none⟩ = some (.int .i64 xn) := an
                    have b3 : (w7.drewN nq).cell? ⟨gb, j * 5 + 3, none⟩ = some (.int .i64 yl) := al
                    have b4 : (w7.drewN nq).cell? ⟨gb, j * 5 + 4, none⟩ = some (.int .i64 xc) := ac
                    have H17 : Hid ((w7.drewN nq).heap[b17]? = some (.cells #[.int .i64 5, .string ⟨#[]⟩, .int .i64 0, .int .i64 Le, .int .i64 Ce] 33 (0, 0))) := HBX7.out
                    have H19' : Hid ((w7.drewN nq).heap[b19]? = some (.cells #[.int .i64 xk, .string xb, .int .i64 xn, .int .i64 (yl + Le), .int .i64 xc] 33 (0, 0))) := H19.out
                    clear n0 n1 n2 n3 n4 a0 ax an al ac HJ7 HBX7 H19
                    generalize w7.drewN nq = w8 at *
                    have hal8 := below_alloc w8 (.cells #[.int .i64 xk, .string xb, .int .i64 xn, .int .i64 yl, .int .i64 xc] 33)
                    have h20 := blk_new w8 (.cells #[.int .i64 xk, .string xb, .int .i64 xn, .int .i64 yl, .int .i64 xc] 33)
                    have hn17 : b17 < w8.heap.size := lt_of_heap H17.out
                    have hn19 : b19 < w8.heap.size := lt_of_heap H19'.out
                    have h17 := (hal8.block b17 hn17).trans H17.out
                    have h19 := (hal8.block b19 hn19).trans H19'.out
                    obtain ⟨_, _, _, c17, _⟩ := cells5 h17
                    obtain ⟨k0, k1, k2', k3', k4⟩ := cells5 h19
                    obtain ⟨m0, m1, m2', m3', m4⟩ := cells5 h20
                    have uf := Lib.frozen_of_heap h20
                    have ne1 : b17 ≠ w8.heap.size := by omega
                    have ne2 : b19 ≠ w8.heap.size := by omega
                    have H9 : Hid (∀ v, Jn w ((w8.alloc (.cells #[.int .i64 xk, .string xb, .int .i64 xn, .int .i64 yl, .int .i64 xc] 33)).setCell ⟨w8.heap.size, 3, none⟩ v) ga gb gc gd la lb lc lj ∧ ((w8.alloc (.cells #[.int .i64 xk, .string xb, .int .i64 xn, .int .i64 yl, .int .i64 xc] 33)).setCell ⟨w8.heap.size, 3, none⟩ v).heap[b17]? = some (.cells #[.int .i64 5, .string ⟨#[]⟩, .int .i64 0, .int .i64 Le, .int .i64 Ce] 33 (0, 0))) := fun v => by
                      have hb9 := hal8.setCell (p := ⟨w8.heap.size, 3, none⟩) (Nat.le_refl _) v
                      exact ⟨HJ8.out.below hb9, (hb9.block b17 hn17).trans H17.out⟩
                    clear hal8 h20 h17 h19 H17 H19' HJ8 hn17 hn19
                    go_upto_region 33 with (fail)
                    clear b0 b1 b2 b3 b4 e1 e2 e3
                    generalize w8.alloc (.cells #[.int .i64 xk, .string xb, .int .i64 xn, .int .i64 yl, .int .i64 xc] 33) = w9 at *
                    generalize w8.heap.size = b20 at *
                    go_wp2_with fail
                    go_roundw
                    case rel => exact ⟨k + 1, HKP.out, by go_num, (H9.out _).1, (H9.out _).2⟩
                    case measure => have := HKP.out; simp [intOf]; omega
                · have v1 : decide ((k : Int) < (pl : Int)) = false := decide_eq_false (by omega)
                  have v2 : decide (k < pl) = false := decide_eq_false hlt2
                  go_wp2_with fail
                  go_ret
                  exact ⟨rfl, HJN.out.b⟩
open Go.ChangeShapes Go.WideShapes Go.ChangeAt
open Go.ChangeMaps (open_string shut_string)
set_option maxHeartbeats 800000 in
set_option maxRecDepth 100000 in
theorem lifted (os : Os) (started : os.Started) (H : Type) (enc : TypeId × Value → H) :
    ReturnsInHanded {} Tryd.checked os 6 .any (fun w args => (Rows.wordJoinsSpec.pre enc Tryd.prog Tryd.f6 Rows.wordJoinsRow.domain false w args ∧ laidMetH Tryd.prog laidL w) ∧ sizedMet enc Tryd.prog Tryd.f6 (OpenSpec.ofChange Rows.wordJoinsSpec) false w args)
      (Rows.wordJoinsSpec.post enc Tryd.prog Tryd.f6 false true false false) := by
  refine returns_laid (C := Tryd.checked) (X := fun w _ => laidMetH Tryd.prog laidL w) (fun _ _ _ hh h => h.of_heap hh) own_knob started (by kernel_rfl) Tryd.func6
    (ChangeSpec.witness_shaped (enc := enc) (C := Tryd.checked) (os := os) (X := fun w _ => laidMetH Tryd.prog laidL w) false (World.laidAll Tryd.prog os laidL) #[.string ⟨#[]⟩, .string ⟨#[]⟩] 8 (World.laidAll_os _ _ _)
      (laid_shaped os _) (by kernel_rfl) (by kernel_rfl) (by kernel_rfl) (laid_met os _)) ?_
  intro W base args ds gs before hval0 hW hL hsh
  obtain ⟨hl, hw0⟩ := sgn_of_laid hL
  have hval : ∀ (j : Nat) t v, Tryd.f6.params[j]? = some t → args[j]? = some v → Value.okWide Tryd.prog W .any base t v := hval0
  have hW' := hW
  obtain ⟨p, q, hA0, hV, rfl, _, _⟩ := hW
  have hA : DataW.TrodAll enc Tryd.prog W 0 (fun _ => true) true Tryd.f6.params.toList args.toList ds p := hA0
  rw [Tryd.params6] at hA hval
  obtain ⟨v0, v1, d0, d1, p0, p1, rfl, rfl, rfl, h0, h1⟩ := trodAll_two hA
  obtain ⟨rfl, rfl⟩ := trodVars_none hV
  obtain ⟨s0, rfl, rfl, rfl, hs0⟩ := open_string Tryd.underlying9 (hval 0 9 v0 rfl rfl) h0
  obtain ⟨s1, rfl, rfl, rfl, hs1⟩ := open_string Tryd.underlying9 (hval 1 9 v1 rfl rfl) h1
  clear hA0 hval0
  simp only [List.append_nil] at hW'
  have hwalk := walk s0.data.toList s1.data.toList W hl hw0 (by rw [← Lib.size_eq]; unfold maxLen at hs0; omega) (by rw [← Lib.size_eq]; unfold maxLen at hs1; omega)
  rw [show (⟨s0.data.toList.toArray⟩ : ByteArray) = s0 from by cases s0; simp, show (⟨s1.data.toList.toArray⟩ : ByteArray) = s1 from by cases s1; simp] at hwalk
  refine hwalk.mono fun e W' ⟨he, hB⟩ => ?_
  subst he
  exact ⟨_, rfl, _, _, _, [], [], [], hW', trodAll_mk1 (shut_bool Tryd.underlying4 true), trodAll_mk2 (shut_string Tryd.underlying9 hs0) (shut_string Tryd.underlying9 hs1), rfl, hB.frame _, fun h => by cases h⟩

theorem proved : Rows.WordJoinsSaid :=
  OpenClaim.holds_of_wide 6 Tryd.f6 rfl rfl rfl rfl rfl rfl rfl ⟨rfl, rfl, rfl, rfl, rfl⟩ rfl rfl rfl rfl rfl (by kernel_rfl) Tryd.func6 (by kernel_rfl)
    (of_decide_eq_true (by kernel_rfl)) (by unfold Func.isWrapper; first | (rw [if_pos (by decide +kernel)]; kernel_rfl) | (rw [if_neg (by decide +kernel)]; exact ⟨rfl, rfl⟩))
    (fun os started H enc _ => lifted os started H enc)
theorem card : Rows.WordJoinsCardSaid :=
  Claim7.holds_tied_plain_at .later [] [.data] true (true, "0c4c65f6e5a9e42e8f069ce4ecee9168168e60ddb875715a0ab890b9b7a95d1e") false proved (fun _ h => by cases h) (by kernel_rfl) (fun _ h => by cases h) wordJoins_row_tie rfl ⟨rfl, rfl⟩ (by kernel_rfl) rfl
    (fun f fn hf hfn => by
      obtain rfl : f = 6 := Option.some.inj ((show Tryd.prog.funcNamed "lariat/lariatlaw13.WordJoins" = some 6 by kernel_rfl).symm.trans hf) |>.symm
      obtain rfl : fn = Tryd.f6 := (Option.some.inj (Tryd.func6.symm.trans hfn)).symm
      exact ⟨by kernel_rfl, fun j t ht => by
        rw [Tryd.params6] at ht
        have hm : t ∈ [9, 9] := by simpa using Array.mem_of_getElem? ht
        have hall : ([9, 9].all fun u => !Tryd.prog.wantsStandIn u) = true := by kernel_rfl
        exact (show Tryd.prog.wantsStandIn t = false by simpa using List.all_eq_true.1 hall t hm)⟩)
    (by kernel_rfl)
end Go.Proofs.YtgbnhmnkdfiiiaaDoor.WJoins
namespace Go.Proofs.YtgbnhmnkdfiiiaaDoor
theorem wordJoins_holds : Rows.WordJoinsCardSaid := WJoins.card
#print axioms wordJoins_holds
end Go.Proofs.YtgbnhmnkdfiiiaaDoor
