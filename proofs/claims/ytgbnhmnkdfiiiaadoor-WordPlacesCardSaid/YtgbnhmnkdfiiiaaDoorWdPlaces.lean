/- WordPlaces is true of any text: the statement Rows.WordPlacesCardSaid, without a condition. -/
import Derived.Test.YtgbnhmnkdfiiiaaDoorWrdR
import Derived.Test.YtgbnhmnkdfiiiaaDoorWrdL
import Derived.Test.YtgbnhmnkdfiiiaaDoorWrdP
import Derived.Deep.RegionHeld3
import Derived.IntWalk
import Derived.Deep.QuietTactic
import Derived.BigQuiet
namespace Go.Proofs.YtgbnhmnkdfiiiaaDoor.WPlaces
open Go.RowKit WrdM

theorem str_get {sb : ByteArray} {s : List UInt8} (h : sb = ⟨s.toArray⟩) (k : Nat) (hk : k < sb.size) : sb[k]'hk = s.getD k 0 := by subst h; exact get_mk s k hk
theorem byte_eq (c : UInt8) : (((c.toNat : Nat) : Int) == 10) = (c == 10) := by
  rw [Bool.eq_iff_iff, beq_iff_eq, beq_iff_eq]
  constructor
  · intro e; exact UInt8.toNat_inj.1 (by show _ = 10; omega)
  · intro e; rw [e]; rfl

set_option maxHeartbeats 6400000 in
set_option maxRecDepth 100000 in
theorem walk (s : List UInt8) (w : World) (h : SgnAt w) (hw : 0 < w.heap.size) (hs : s.length ≤ 9223372036854775807) :
    Calls Tryd.prog 7 #[.string ⟨s.toArray⟩] w fun e w' => e = .returned (.bool true) ∧ Below w.heap.size w w' := by
  have HAL := Lib.hid (alive_any w h hw)
  have HSG : Hid (∀ W, Below w.heap.size w W → SgnAt W ∧ 0 < W.heap.size) := fun W hb => ⟨h.below hb hw, Nat.lt_of_lt_of_le hw hb.size⟩
  obtain ⟨sb, hsb⟩ : ∃ sb : ByteArray, sb = ⟨s.toArray⟩ := ⟨_, rfl⟩
  have hn : sb.size = s.length := by rw [hsb, size_mk]
  have HSB := Lib.hid hsb
  rw [← hsb]
  clear hsb h
  by_cases hbig : 4000 < s.length
  · have t1 : decide ((4000 : Int) < (s.length : Int)) = true := decide_eq_true (by omega)
    have t2 : decide (4000 < s.length) = true := decide_eq_true hbig
    go_enter Tryd.func7, Tryd.ntmps7
    go_wp2_with fail
    refine HAL.out.mono ?_
    rintro e w1 ⟨rfl, hB1⟩
    have HB1 := Lib.hid hB1
    clear hB1
    go_wp2_with fail
    go_ret
    exact ⟨rfl, HB1.out⟩
  have t1 : decide ((4000 : Int) < (s.length : Int)) = false := decide_eq_false (by omega)
  have t2 : decide (4000 < s.length) = false := decide_eq_false hbig
  have hle : s.length ≤ 4000 := by omega
  go_enter Tryd.func7, Tryd.ntmps7
  go_wp2_with fail
  refine HAL.out.mono ?_
  rintro e w1 ⟨rfl, hB1⟩
  have HB1 := Lib.hid hB1
  obtain ⟨q1, q2⟩ := HSG.out _ hB1
  have HC := Lib.hid (cut_any s w1 q1 q2 hs)
  rw [← HSB.out] at HC
  clear HAL hB1 q1 q2 hbig
  cases ho : cutL s with
  | bad er Le Ce =>
    obtain ⟨k1, k2, k3⟩ := cut_fault s er Le Ce ho
    rw [ho] at HC
    clear ho
    go_wp2_with fail
    refine HC.out.mono ?_
    rintro e w2 ⟨rfl, hB2⟩
    have hal := below_alloc w2 (.cells #[.int .i64 er, .int .i64 Le, .int .i64 Ce] 25)
    have hx := hB2.trans (hal.mono hB2.size)
    have HB2 := Lib.hid (HB1.out.trans (hx.mono HB1.out.size))
    have u1 : decide (1 ≤ Le) = true := decide_eq_true k2
    have u2 : decide (1 ≤ Ce) = true := decide_eq_true k3
    have u3 : (er == 0) = false := by rw [beq_eq_false_iff_ne]; omega
    clear HC hB2 hal hx
    rcases k1 with rfl | rfl
    · go_wp2_with fail
      go_ret
      exact ⟨rfl, HB2.out⟩
    · go_wp2_with fail
      go_ret
      exact ⟨rfl, HB2.out⟩
  | ok ts =>
    obtain ⟨k1, k2, k3, _⟩ := cut_again s ts hle ho
    have HPL : Hid (PlSt s ts 1 1 0 0) := PlSt.start (by unfold cutL at ho; rw [if_neg (by omega)] at ho; exact ho)
    rw [ho] at HC
    clear ho k1
    go_wp2_with fail
    refine HC.out.mono ?_
    rintro e w2 ⟨A, c, rfl, hS, hN, hB2⟩
    obtain ⟨g, rfl, hR, hc1, hc2⟩ := rdT_of hS k3
    have hal := below_alloc w2 (.cells #[.int .i64 0, .int .i64 0, .int .i64 0] 25)
    have hx := hB2.trans (hal.mono hB2.size)
    have HB2 := Lib.hid (HB1.out.trans (hx.mono HB1.out.size))
    have HR := Lib.hid (hR.below hal hR.1)
    clear HC hB2 hal hx hR hS hN
    obtain ⟨n, hnl⟩ : ∃ n, n = ts.length := ⟨_, rfl⟩
    have HNL := Lib.hid hnl
    rw [← hnl] at hc1 k2 k3 ⊢
    clear hnl
    go_wp2_with fail
    generalize w2.alloc (.cells #[.int .i64 0, .int .i64 0, .int .i64 0] 25) = wq at *
    go_loopw [5, 6, 7, 8, 9] (fun l cc at_ nx _ wr => ∃ (L C : Int) (a k : Nat), l = .int .i64 L ∧ cc = .int .i64 C ∧ at_ = .int .i64 a ∧ nx = .int .i64 k ∧ Hid (RdT wr g ts) ∧ Hid (Below w.heap.size w wr) ∧ Hid (PlSt s ts L C a k)) (fun _ _ at_ _ _ _ => s.length + 1 - (intOf at_).toNat)
    case atStart => exact ⟨1, 1, 0, 0, rfl, rfl, rfl, rfl, HR, HB2, HPL⟩
    case round =>
      obtain ⟨L, C, a, k, rfl, rfl, rfl, rfl, HR, HB2, HP⟩ := hrel
      clear HPL
      have hbd : 1 ≤ L ∧ L ≤ 1 + a ∧ 1 ≤ C ∧ C ≤ 1 + a := by obtain ⟨_, _, _, h3, h4, h5, h6, _⟩ := HP.out; exact ⟨h3, h4, h5, h6⟩
      obtain ⟨b1, b2, b3, b4⟩ := hbd
      rcases HP.out.cases with ⟨h1, h2⟩ | ⟨h1, h2, t, h3, h4⟩
      · have v1 : decide ((a : Int) ≤ (s.length : Int)) = false := decide_eq_false (by omega)
        have v2 : decide (a ≤ s.length) = false := decide_eq_false (by omega)
        rw [← HNL.out] at h2
        have v3 : ((k : Int) == (n : Int)) = true := by rw [beq_iff_eq]; omega
        have v4 : (k == n) = true := by rw [beq_iff_eq]; omega
        clear h1 h2 HP
        go_wp2_with fail
        go_ret
        exact ⟨rfl, HB2.out⟩
      · have v1 : decide ((a : Int) ≤ (s.length : Int)) = true := decide_eq_true (by omega)
        have v2 : decide (a ≤ s.length) = true := decide_eq_true h1
        rw [← HNL.out] at h2
        have v3 : decide ((k : Int) < (n : Int)) = true := decide_eq_true (by omega)
        have v4 : decide (k < n) = true := decide_eq_true h2
        obtain ⟨c0, cx, cn, cl, cc⟩ := HR.out.2 k t h3
        clear HP
        rcases h4 with ⟨ha, rfl, hst⟩ | ⟨hl1, hc1', ht1, ht2, ht3, ht4, hst⟩ | ⟨hne, ha, hst⟩
        · have HST := Lib.hid hst
          clear hst h3
          go_wp2_with fail
          go_region
          go_wp2_with fail
          go_roundw
          case rel => exact ⟨L, C + 1, a + 1, k + 1, rfl, by go_num, by go_num, by go_num, HR.out.drew, HB2.out.drew, HST.out⟩
          case measure => simp [intOf]; omega
        · have HST := Lib.hid hst
          obtain ⟨xb, hxb⟩ : ∃ xb : ByteArray, xb = ⟨t.text.toArray⟩ := ⟨_, rfl⟩
          have hxs : xb.size = t.text.length := by rw [hxb, size_mk]
          have hex : sb.extract a (a + t.text.length) = xb := by
            rw [HSB.out, extract_mk, show a + t.text.length - a = t.text.length from by omega, ht3, hxb]
          rw [← hxb] at cx
          rw [hl1] at cl
          rw [hc1'] at cc
          obtain ⟨m, hm⟩ : ∃ m, m = t.text.length := ⟨_, rfl⟩
          rw [← hm] at hxs hex ht1 ht2 HST
          obtain ⟨kd, hkd⟩ : ∃ kd, kd = t.kind := ⟨_, rfl⟩
          rw [← hkd] at c0 ht4
          have u1 : (kd == 5) = false := by rw [beq_eq_false_iff_ne]; exact ht4
          have u2 : ((a : Int) == (s.length : Int)) = false := by rw [beq_eq_false_iff_ne]; omega
          have u3 : ((m : Int) == 0) = false := by rw [beq_eq_false_iff_ne]; omega
          have u4 : decide ((s.length : Int) < (a : Int) + (m : Int)) = false := decide_eq_false (by omega)
          have HM : Hid (1 ≤ m ∧ a + m ≤ s.length) := ⟨ht1, ht2⟩
          clear hst h3 hxb ht3 hm hkd ht4 hl1 hc1' cn
          have e1 : IntKind.i64.wrap ((a : Int) + (m : Int)) = (a : Int) + (m : Int) := IntWalk.i64_in _ (by omega)
          have e2 : ((a : Int) + (m : Int)).toNat = a + m := by omega
          have e3 : (0 : Int) ≤ (a : Int) + (m : Int) := by omega
          have e4 : (a : Int) ≤ (a : Int) + (m : Int) := by omega
          have e5 : (a : Int) + (m : Int) ≤ (s.length : Int) := by omega
          go_wp2_with fail
          go_quiet (fail)
          clear e1 e2 e3 e4 e5
          go_wp2_with fail
          have hmx : max (m : Int) 1 = (m : Int) := by have := HM.out.1; omega
          rw [hmx]
          go_roundw
          case rel => exact ⟨L, C + m, a + m, k + 1, rfl, rfl, by go_num, by go_num, HR.out.drewN nq, below_drewN HB2.out nq, HST.out⟩
          case measure => have := HM.out; simp [intOf]; omega
        · have hk2 : a < sb.size := by omega
          have hg := str_get HSB.out a hk2
          have w1' : decide ((a : Int) < (s.length : Int)) = true := decide_eq_true (by omega)
          have w2' : decide (a < s.length) = true := decide_eq_true ha
          obtain ⟨ch, hch⟩ : ∃ ch, ch = s.getD a 0 := ⟨_, rfl⟩
          rw [← hch] at hg hst
          have hten := byte_eq ch
          obtain ⟨tl, htl⟩ : ∃ tl, tl = t.line := ⟨_, rfl⟩
          obtain ⟨tc, htc⟩ : ∃ tc, tc = t.col := ⟨_, rfl⟩
          rw [← htl] at cl hne
          rw [← htc] at cc hne
          have HST := Lib.hid hst
          have HST10 : Hid ((ch == 10) = true → PlSt s ts (L + 1) 1 (a + 1) k) := fun e => by
            have := HST.out
            simp only [nl, nc, e, if_true] at this
            exact this
          have HSTN : Hid ((ch == 10) = false → PlSt s ts L (C + 1) (a + 1) k) := fun e => by
            have := HST.out
            simp only [nl, nc, e, Bool.false_eq_true, if_false] at this
            exact this
          clear hst HST hch htl htc h3 c0 cx cn
          by_cases hll : tl = L
          case' pos =>
            have u1 : (tl == L) = true := by rw [beq_iff_eq]; exact hll
            have u2 : (tc == C) = false := by rw [beq_eq_false_iff_ne]; exact fun e => hne ⟨hll, e⟩
          case' neg =>
            have u1 : (tl == L) = false := by rw [beq_eq_false_iff_ne]; exact hll
          all_goals
            clear hne hll
            rcases h10 : (ch == 10) with _ | _
            · rw [h10] at hten
              have HT := Lib.hid (HSTN.out h10)
              clear h10 HST10 HSTN
              go_wp2_with fail
              go_roundw
              case rel => exact ⟨L, C + 1, a + 1, k, rfl, rfl, by go_num, rfl, HR.out, HB2.out, HT.out⟩
              case measure => simp [intOf]; omega
            · rw [h10] at hten
              have HT := Lib.hid (HST10.out h10)
              clear h10 HST10 HSTN
              go_wp2_with fail
              go_roundw
              case rel => exact ⟨L + 1, 1, a + 1, k, rfl, rfl, by go_num, rfl, HR.out, HB2.out, HT.out⟩
              case measure => simp [intOf]; omega
open Go.ChangeShapes Go.WideShapes Go.ChangeAt
open Go.ChangeMaps (open_string shut_string)
set_option maxHeartbeats 800000 in
set_option maxRecDepth 100000 in
theorem lifted (os : Os) (started : os.Started) (H : Type) (enc : TypeId × Value → H) :
    ReturnsInHanded {} Tryd.checked os 7 .any (fun w args => (Rows.wordPlacesSpec.pre enc Tryd.prog Tryd.f7 Rows.wordPlacesRow.domain false w args ∧ laidMetH Tryd.prog laidL w) ∧ sizedMet enc Tryd.prog Tryd.f7 (OpenSpec.ofChange Rows.wordPlacesSpec) false w args)
      (Rows.wordPlacesSpec.post enc Tryd.prog Tryd.f7 false true false false) := by
  refine returns_laid (C := Tryd.checked) (X := fun w _ => laidMetH Tryd.prog laidL w) (fun _ _ _ hh h => h.of_heap hh) own_knob started (by kernel_rfl) Tryd.func7
    (ChangeSpec.witness_shaped (enc := enc) (C := Tryd.checked) (os := os) (X := fun w _ => laidMetH Tryd.prog laidL w) false (World.laidAll Tryd.prog os laidL) #[.string ⟨#[]⟩] 8 (World.laidAll_os _ _ _)
      (laid_shaped os _) (by kernel_rfl) (by kernel_rfl) (by kernel_rfl) (laid_met os _)) ?_
  intro W base args ds gs before hval0 hW hL hsh
  obtain ⟨hl, hw0⟩ := sgn_of_laid hL
  have hval : ∀ (j : Nat) t v, Tryd.f7.params[j]? = some t → args[j]? = some v → Value.okWide Tryd.prog W .any base t v := hval0
  have hW' := hW
  obtain ⟨p, q, hA0, hV, rfl, _, _⟩ := hW
  have hA : DataW.TrodAll enc Tryd.prog W 0 (fun _ => true) true Tryd.f7.params.toList args.toList ds p := hA0
  rw [Tryd.params7] at hA hval
  obtain ⟨v0, d0, rfl, rfl, h0⟩ := trodAll_one hA
  obtain ⟨rfl, rfl⟩ := trodVars_none hV
  obtain ⟨s0, rfl, rfl, rfl, hs0⟩ := open_string Tryd.underlying9 (hval 0 9 v0 rfl rfl) h0
  clear hA0 hval0
  simp only [List.append_nil] at hW'
  have hwalk := walk s0.data.toList W hl hw0 (by rw [← Lib.size_eq]; unfold maxLen at hs0; omega)
  rw [show (⟨s0.data.toList.toArray⟩ : ByteArray) = s0 from by cases s0; simp] at hwalk
  refine hwalk.mono fun e W' ⟨he, hB⟩ => ?_
  subst he
  exact ⟨_, rfl, _, _, _, [], [], [], hW', trodAll_mk1 (shut_bool Tryd.underlying4 true), trodAll_mk1 (shut_string Tryd.underlying9 hs0), rfl, hB.frame _, fun h => by cases h⟩

theorem proved : Rows.WordPlacesSaid :=
  OpenClaim.holds_of_wide 7 Tryd.f7 rfl rfl rfl rfl rfl rfl rfl ⟨rfl, rfl, rfl, rfl, rfl⟩ rfl rfl rfl rfl rfl (by kernel_rfl) Tryd.func7 (by kernel_rfl)
    (of_decide_eq_true (by kernel_rfl)) (by unfold Func.isWrapper; first | (rw [if_pos (by decide +kernel)]; kernel_rfl) | (rw [if_neg (by decide +kernel)]; exact ⟨rfl, rfl⟩))
    (fun os started H enc _ => lifted os started H enc)
theorem card : Rows.WordPlacesCardSaid :=
  Claim7.holds_tied_plain_at .later [] [.data] true (true, "0c4c65f6e5a9e42e8f069ce4ecee9168168e60ddb875715a0ab890b9b7a95d1e") false proved (fun _ h => by cases h) (by kernel_rfl) (fun _ h => by cases h) wordPlaces_row_tie rfl ⟨rfl, rfl⟩ (by kernel_rfl) rfl
    (fun f fn hf hfn => by
      obtain rfl : f = 7 := Option.some.inj ((show Tryd.prog.funcNamed "lariat/lariatlaw13.WordPlaces" = some 7 by kernel_rfl).symm.trans hf) |>.symm
      obtain rfl : fn = Tryd.f7 := (Option.some.inj (Tryd.func7.symm.trans hfn)).symm
      exact ⟨by kernel_rfl, fun j t ht => by
        rw [Tryd.params7] at ht
        have hm : t ∈ [9] := by simpa using Array.mem_of_getElem? ht
        have hall : ([9].all fun u => !Tryd.prog.wantsStandIn u) = true := by kernel_rfl
        exact (show Tryd.prog.wantsStandIn t = false by simpa using List.all_eq_true.1 hall t hm)⟩)
    (by kernel_rfl)
end Go.Proofs.YtgbnhmnkdfiiiaaDoor.WPlaces
namespace Go.Proofs.YtgbnhmnkdfiiiaaDoor
theorem wordPlaces_holds : Rows.WordPlacesCardSaid := WPlaces.card
#print axioms wordPlaces_holds
end Go.Proofs.YtgbnhmnkdfiiiaaDoor
