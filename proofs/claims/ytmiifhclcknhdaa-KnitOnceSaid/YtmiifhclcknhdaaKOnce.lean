/- KnitOnce is true: the statement Rows.KnitOnceSaid, without a condition. -/
import Derived.Test.YtmiifhclcknhdaaKntO
import Derived.ProofKit
import Derived.OpenShut
import Derived.SizedLaws
namespace Go.Proofs.Ytmiifhclcknhdaa.KOnce
open Go.ChangeShapes Go.WideShapes Go.ChangeAt Go.RowKit GatM KntM Go.Lib

theorem own_knob : ownKnob Try.prog.godebug = none := by kernel_rfl
/-- The edge that a number picks. -/
def xe (E : List Nat) (e : Nat) (rs : List Int) (j : Nat) : Nat := E.getD (clampZ e (rs.getD j 0)) 0
/-- The first i literals are noted. -/
def NotP (K E : List Nat) (e : Nat) (rs : List Int) (i : Nat) (F : List Int) : Prop := F.length = i ∧ ∀ j, j < i → xe E e rs j / 2 ∈ K ∧ F.getD j 0 = lt K (xe E e rs j)
set_option maxHeartbeats 12800000 in
set_option maxRecDepth 100000 in
theorem walk (nn : Int) (A1 : Option Addr) (n1 c1 : Nat) (A2 : Option Addr) (n2 c2 : Nat) (rs : List Int) (w : World) (hx : ActsK w w.heap.size A1 n1) (hr : Rd .i64 w w.heap.size A2 n2 rs) :
    Calls Try.prog 5 #[.int .i64 nn, .slice A1 n1 c1, .slice A2 n2 c2] w fun e w' => e = .returned (.bool true) ∧ Below w.heap.size w w' := by
  have HX := Lib.hid hx
  have HR := Lib.hid hr
  clear hx hr
  go_enter Try.func5, Try.ntmps5
  go_wp2_with fail
  refine (kalive_any w).mono ?_
  rintro e w1 ⟨rfl, hb1⟩
  have HBD := Lib.hid (kbuild_any nn A1 n1 c1 w1 ((HX.out.below hb1).mono1 hb1.size))
  have HB1 := Lib.hid hb1
  clear hb1 HX
  go_wp2_with fail
  refine HBD.out.mono ?_
  clear HBD
  rintro e w2 (⟨rfl, rfl⟩ | ⟨bg, c, gs, E, gE, cap, ne, k, rfl, hC, hn0, hn1, hk⟩)
  · go_wp2_with fail
    go_ret
    exact ⟨rfl, HB1.out⟩
  have hb2 : Below w.heap.size w w2 := HB1.out.trans (hC.lv.be.mono HB1.out.size)
  by_cases h10 : 10 < n2
  · have tk : decide (10 < n2) = true := decide_eq_true h10
    have tk2 : decide (10 < (n2 : Int)) = true := decide_eq_true (by omega)
    have HB2 := Lib.hid hb2
    clear hC hb2
    go_wp2_with fail
    go_ret
    exact ⟨rfl, HB2.out⟩
  have tk : decide (10 < n2) = false := decide_eq_false h10
  have tk2 : decide (10 < (n2 : Int)) = false := decide_eq_false (by omega)
  obtain ⟨w6, hw6⟩ : ∃ w6, w6 = w2.alloc (.cells #[.int .i64 0, .slice none 0 0, .int .i64 1000] 36) := ⟨_, rfl⟩
  obtain ⟨w7, hw7⟩ : ∃ w7, w7 = w6.alloc (.cells #[.pointer (some ⟨c.bg, 0, none⟩), .iface 31 (.pointer (some ⟨w2.heap.size, 0, none⟩)), .slice none 0 0, .int .i64 0, .slice none 0 0] 71) := ⟨_, rfl⟩
  obtain ⟨q, hqk, hqs, hK, ho2⟩ := KL.new hC.lv 1000 hw6 hw7
  have s6 : w6.heap.size = w2.heap.size + 1 := by rw [hw6]; simp
  have s7 : w7.heap.size = w2.heap.size + 1 + 1 := by rw [hw7]; simp [s6]
  have hb7 : Below w2.heap.size w2 w7 := by rw [hw7, hw6]; exact ((Below.refl _ _).alloc (Nat.le_refl _) _).alloc (by simp) _
  have hgl : gs.length ≤ 200 := Nat.le_trans hC.gts hk
  have hin : ∀ j, j < ne → E.getD j 0 / 2 < gs.length := fun j hj => in_get hC.inn (by have := hC.len; omega)
  have HON : Hid (OnS w1.heap.size w1 (w2.heap.size + 1) w2.heap.size c gs gE ne cap E (w7.alloc (.cells #[] 38)) q 0 [] (some ⟨w2.heap.size + 1 + 1, 0, none⟩) 0 []) := by
    have hb8 : Below w7.heap.size w7 (w7.alloc (.cells #[] 38)) := (Below.refl _ _).alloc (Nat.le_refl _) _
    have hB := hC.lv.hB
    refine ⟨hK.below hb8, by rw [hqk, s6], hqs, (hC.row.same (hb7.block _ hC.row.lt)).same (hb8.block _ (by have := hC.row.lt; omega)), ⟨ho2 _ hC.row.lt, hC.lo⟩, .inr ⟨w2.heap.size + 1 + 1, rfl, ?_⟩, fun k hk => ?_⟩
    · rw [← s7]; exact RowV.made (n := 0) (by omega) rfl (fun j hj => by omega)
    · rw [onB_some] at hk
      have hk : k = w2.heap.size + 1 + 1 := hk
      subst hk
      exact ⟨hK.kn.at_.fr _ (by omega), fun ho => by have := hC.lv.at_.lt ho; omega, by have := hC.row.lt; omega, by omega⟩
  have HNW := Lib.hid (knew_any c.bg w2.heap.size w6)
  have HBW : Hid (∀ W, Below w1.heap.size w1 W → Below w.heap.size w W) := fun W hW => HB1.out.trans (hW.mono HB1.out.size)
  have HRD : Hid (∀ W, Below w1.heap.size w1 W → Rd .i64 W W.heap.size A2 n2 rs) := fun W hW => (HR.out.below (HBW.out W hW)).more (HBW.out W hW).size
  have hbgc := hC.bg
  subst hbgc
  have HIN := Lib.hid hin
  rw [hw6] at HNW
  have HW6 := Lib.hid hw6
  have HW7 := Lib.hid hw7
  have hne : E.length = ne := hC.len
  have HNE := Lib.hid hne
  clear hK hqk hqs ho2 hb7 hC hb2 HB1 HR hin hw6 hw7 hne
  go_wp2_with fail
  refine HNW.out.mono ?_
  rintro e wn ⟨rfl, hwn0⟩
  have hwn : wn = w7 := by rw [HW7.out, HW6.out]; exact hwn0
  clear hwn0
  subst hwn
  clear HNW HW6 HW7 tk tk2
  go_wp2_with fail
  obtain ⟨wl, hwl⟩ : ∃ wl, wl = wn.alloc (.cells #[] 38) := ⟨_, rfl⟩
  rw [← hwl] at HON ⊢
  generalize hbs : w2.heap.size = bs at *
  generalize hbk : bs + 1 = bk at *
  generalize hbf : bk + 1 = bf at *
  clear hwl hbs hbk hbf s6 s7
  have HP0 : Hid (∃ q m K F, OnS w1.heap.size w1 bk bs c gs gE ne cap E wl q m K (some ⟨bf, 0, none⟩) 0 F ∧ NotP K E ne rs 0 F) := ⟨q, 0, [], [], HON.out, rfl, fun j hj => by omega⟩
  clear HON
  go_loopw [47, 11, 13, 14, 15] (fun iv fv _ _ _ wr => ∃ (i : Nat) (A : Option Addr) (cf : Nat), iv = .int .i64 (i : Int) ∧ i ≤ n2 ∧ fv = .slice A i cf ∧ Hid (∃ q m K F, OnS w1.heap.size w1 bk bs c gs gE ne cap E wr q m K A cf F ∧ NotP K E ne rs i F)) (fun iv _ _ _ _ _ => n2 - (intOf iv).toNat)
  case atStart => exact ⟨0, _, _, rfl, by omega, rfl, HP0⟩
  case round =>
    clear HP0
    obtain ⟨i, A, cf, rfl, hi, rfl, HP⟩ := hrel
    obtain ⟨q1, m1, K1, F1, hO, hN⟩ := HP.out
    by_cases hlt : i < n2
    · have ti : decide ((i : Int) < (n2 : Int)) = true := decide_eq_true (by omega)
      have ti2 : decide (i < n2) = true := decide_eq_true hlt
      have hbe := hO.kl.lv.be
      obtain ⟨b, o, rfl, hb, hc⟩ := (HRD.out wr hbe).get hlt
      obtain ⟨qa, hqa⟩ : ∃ q, q = clampZ ne (rs.getD i 0) := ⟨_, rfl⟩
      have hqal : qa < ne := by rw [hqa]; exact clamp_lt (by omega) _
      have hya : max 0 (min (rs.getD i 0) ((ne : Int) - 1)) = (qa : Int) := by rw [hqa]; unfold clampZ; omega
      have tq : decide ((ne : Int) ≤ (qa : Int)) = false := decide_eq_false (by omega)
      have tq2 : decide (ne ≤ qa) = false := decide_eq_false (by omega)
      have x3 : wr.cell? ⟨gE, qa, none⟩ = some (.int .u32 ((E.getD qa 0 : Nat) : Int)) := hO.er.cell (by omega)
      have hxe : xe E ne rs i = E.getD qa 0 := by unfold xe; rw [← hqa]
      have HLI : Hid (Calls Try.prog 10 #[.pointer (some ⟨bk, 0, none⟩), .int .u32 ((E.getD qa 0 : Nat) : Int)] wr fun r w' => ∃ z, r = .returned (.tuple #[.int .i32 z, .int .i64 0]) ∧ Hid (SlV 38 1 (w'.alloc (.cells #[.int .i32 z] 38)) A i cf (zF F1)) ∧
          Hid (∀ w4 g4 c4, RowV 38 1 w4 g4 (i + 1) c4 (appV (zF F1) i [.int .i32 z]) → (onB A g4 ∨ (w'.alloc (.cells #[.int .i32 z] 38)).heap.size ≤ g4) → Kf (fun j => onB A j) (w'.alloc (.cells #[.int .i32 z] 38)) w4 →
            ∃ q m K F, OnS w1.heap.size w1 bk bs c gs gE ne cap E w4 q m K (some ⟨g4, 0, none⟩) c4 F ∧ NotP K E ne rs (i + 1) F)) := by
        refine (hO.lit (by omega) _ (HIN.out qa hqal)).mono ?_
        rintro r w' ⟨q2, D, rfl, hO2, hm, _⟩
        have hl : F1.length = i := hN.1
        refine ⟨lt (K1 ++ D) (E.getD qa 0), rfl, ?_, fun w4 g4 c4 a1 a2 a3 => ?_⟩
        · have := SlV.below hO2.fr ((Below.refl w'.heap.size w').alloc (Nat.le_refl _) (.cells #[.int .i32 (lt (K1 ++ D) (E.getD qa 0))] 38))
          rwa [hl] at this
        · rw [← hl] at a1
          refine ⟨q2, _, _, _, hO2.push a1 a2 a3, by simp [hl], fun j hj => ?_⟩
          by_cases e : j < i
          · obtain ⟨n1', n2'⟩ := hN.2 j e
            refine ⟨List.mem_append_left _ n1', ?_⟩
            rw [lt_app n1', ← n2']
            simp [List.getD, List.getElem?_append_left (show j < F1.length by omega)]
          · obtain rfl : j = i := by omega
            rw [hxe]
            refine ⟨hm, ?_⟩
            rw [List.getD, List.getElem?_append_right (by omega), hl, Nat.sub_self]; rfl
      have HA := Lib.hid (show i ≤ 100000 by omega)
      clear hO hN HP hbe hqa hxe
      generalize E.getD qa 0 = x at *
      generalize rs.getD i 0 = y at *
      go_wp2_with fail
      refine HLI.out.mono ?_
      rintro r w5 ⟨z, rfl, HSL, HF⟩
      clear HLI x3 hya tq tq2 hc
      go_wp2_with (at_builtin; refine wpList_append_sl _ rfl _ _ 60 38 rfl Try.underlying60 info_klit rfl (by decide) (by decide) A i cf (zF F1) rfl HSL.out (by omega) ⟨w5.heap.size, 0, none⟩ 1 1 [.int .i32 z] rfl rfl (box_news w5 38 _) (by simp [Value.oneCell']) (by omega) (by omega) ?_)
      intro g4 c4 w4 hr4 hg4 hk4
      have HN := Lib.hid (HF.out w4 g4 c4 (by simpa using hr4) (by rcases hg4 with e | e; exact .inl e; exact .inr (by simpa using e)) (hk4 _ fun j hj => hj))
      clear hr4 hg4 hk4 HF HSL
      go_wp2_with fail
      go_roundw
      case rel => exact ⟨i + 1, _, _, by go_num, by omega, rfl, HN⟩
      case measure => simp [intOf]; omega
    · obtain rfl : i = n2 := by omega
      have ti : decide ((i : Int) < (i : Int)) = false := decide_eq_false (by omega)
      have ti2 : decide (i < i) = false := decide_eq_false (by omega)
      obtain ⟨s0, s1⟩ := hO.kl.sink
      rw [hO.hs] at s0 s1
      have hkn := hO.kl.kn.known_
      rw [hO.hk] at hkn
      have HKN : Hid (∀ z, Calls Try.prog 20 #[.pointer (some ⟨bk, 0, none⟩)] (wr.drewN z) fun r w' => r = .returned (.int .i64 (K1.length : Int)) ∧ w' = wr.drewN z) := fun z => by
        have := (hO.below (below_drewN (Below.refl wr.heap.size wr) z)).kl.kn.known_
        rw [hO.hk] at this
        exact this.mono fun _ _ ⟨a, b⟩ => ⟨a, b.symm⟩
      have HO0 : Hid (∀ z, ∃ q m, OnS w1.heap.size w1 bk bs c gs gE ne cap E (wr.drewN z) q m K1 A cf F1) := fun z => ⟨q1, m1, hO.below (below_drewN (Below.refl wr.heap.size wr) z)⟩
      have HN1 := Lib.hid hN
      have HFI : Hid (∀ wr, (∃ q m, OnS w1.heap.size w1 bk bs c gs gE ne cap E wr q m K1 A cf F1) → (∃ Ac cc, wr.cell? ⟨bs, 0, none⟩ = some (.int .i64 (K1.length : Int)) ∧ wr.cell? ⟨bs, 1, none⟩ = some (.slice Ac (clsK gs K1).length cc)) ∧
          (Calls Try.prog 20 #[.pointer (some ⟨bk, 0, none⟩)] wr fun r w' => r = .returned (.int .i64 (K1.length : Int)) ∧ wr = w') ∧ Below w.heap.size w wr) := fun wr hh => by
        obtain ⟨q, m, h⟩ := hh
        obtain ⟨s0, s1⟩ := h.kl.sink
        have hkn := h.kl.kn.known_
        rw [h.hs] at s0 s1
        rw [h.hk] at hkn
        exact ⟨⟨_, _, s0, s1⟩, hkn, HBW.out _ h.kl.lv.be⟩
      clear hO hN HP hkn
      go_wp2_with fail
      go_upto_region 15 with (fail)
      go_quiet ((go_at_call 20; exact Calls.quiet_of_same (HKN.out _)))
      rename_i nq
      have HO1 := Lib.hid (HO0.out nq)
      clear HO0 HKN s0 s1
      obtain ⟨wb, hwb⟩ : ∃ wb, wb = wr.drewN nq := ⟨_, rfl⟩
      rw [← hwb] at HO1 ⊢
      clear hwb
      go_wp2_with fail
      go_loopw [85, 19, 20, 21, 22] (fun jv _ _ _ _ wr => ∃ j : Nat, jv = .int .i64 (j : Int) ∧ j ≤ i ∧ Hid (∃ q m, OnS w1.heap.size w1 bk bs c gs gE ne cap E wr q m K1 A cf F1)) (fun jv _ _ _ _ _ => i - (intOf jv).toNat)
      case atStart => exact ⟨0, rfl, by omega, HO1⟩
      case round =>
        clear HO1
        obtain ⟨j, rfl, hj, HO⟩ := hrel
        by_cases hlt2 : j < i
        · have tj : decide ((j : Int) < (i : Int)) = true := decide_eq_true (by omega)
          have tj2 : decide (j < i) = true := decide_eq_true hlt2
          have tj3 : decide ((i : Int) ≤ (j : Int)) = false := decide_eq_false (by omega)
          have tj4 : decide (i ≤ j) = false := decide_eq_false (by omega)
          obtain ⟨q2, m2, hO⟩ := HO.out
          obtain ⟨b, o, rfl, hb, hc⟩ := (HRD.out wr hO.kl.lv.be).get hlt2
          obtain ⟨qa, hqa⟩ : ∃ q, q = clampZ ne (rs.getD j 0) := ⟨_, rfl⟩
          have hqal : qa < ne := by rw [hqa]; exact clamp_lt (by omega) _
          have hya : max 0 (min (rs.getD j 0) ((ne : Int) - 1)) = (qa : Int) := by rw [hqa]; unfold clampZ; omega
          have tq : decide ((ne : Int) ≤ (qa : Int)) = false := decide_eq_false (by omega)
          have tq2 : decide (ne ≤ qa) = false := decide_eq_false (by omega)
          have x3 : wr.cell? ⟨gE, qa, none⟩ = some (.int .u32 ((E.getD qa 0 : Nat) : Int)) := hO.er.cell (by omega)
          have hxe : xe E ne rs j = E.getD qa 0 := by unfold xe; rw [← hqa]
          obtain ⟨hm, hz⟩ := HN1.out.2 j hlt2
          rw [hxe] at hm hz
          have hfl := HN1.out.1
          obtain ⟨gf, hAf, hrf⟩ := hO.fr.row (by omega)
          have HLI : Hid (Calls Try.prog 10 #[.pointer (some ⟨bk, 0, none⟩), .int .u32 ((E.getD qa 0 : Nat) : Int)] wr fun r w' => r = .returned (.tuple #[.int .i32 (F1.getD j 0), .int .i64 0]) ∧ w'.cell? ⟨gf, j, none⟩ = some (.int .i32 (F1.getD j 0)) ∧ Hid (∃ q m, OnS w1.heap.size w1 bk bs c gs gE ne cap E w' q m K1 A cf F1)) := by
            refine (hO.lit (by omega) _ (HIN.out qa hqal)).mono ?_
            rintro r w' ⟨q3, D, rfl, hO3, _, hD⟩
            obtain rfl := hD hm
            rw [List.append_nil] at hO3
            obtain ⟨gf2, hA2, hr2⟩ := hO3.fr.row (by omega)
            rw [hAf] at hA2
            injection hA2 with hA2
            injection hA2 with hA2
            subst hA2
            rw [List.append_nil, ← hz]
            exact ⟨rfl, hr2.cell (show j < F1.length * 1 by omega), q3, _, hO3⟩
          subst hAf
          clear hO HO hqa hxe hm hz hfl hrf
          generalize E.getD qa 0 = x at *
          generalize rs.getD j 0 = y at *
          generalize F1.getD j 0 = z at *
          go_wp2_with fail
          refine HLI.out.mono ?_
          rintro r w5 ⟨rfl, hz5, HO5⟩
          clear HLI x3 hya tq tq2 hc
          go_wp2_with fail
          go_roundw
          case rel => exact ⟨j + 1, by go_num, by omega, HO5⟩
          case measure => simp [intOf]; omega
        · obtain rfl : j = i := by omega
          have tj : decide ((j : Int) < (j : Int)) = false := decide_eq_false (by omega)
          have tj2 : decide (j < j) = false := decide_eq_false (by omega)
          obtain ⟨⟨Ac, cc, s0, s1⟩, hkn, hbe⟩ := HFI.out wr HO.out
          have HK := Lib.hid hkn
          have HBE := Lib.hid hbe
          clear HO hkn hbe HFI HN1
          generalize K1.length = kl at *
          generalize (clsK gs K1).length = cl at *
          go_wp2_with fail
          refine HK.out.mono ?_
          rintro r w' ⟨rfl, rfl⟩
          go_wp2_with fail
          go_ret
          exact ⟨by simp, HBE.out⟩

set_option maxHeartbeats 800000 in
set_option maxRecDepth 100000 in
theorem lifted (os : Os) (started : os.Started) (H : Type) (enc : TypeId × Value → H) :
    ReturnsInHanded {} Try.checked os 5 .any (Rows.knitOnceSpec.pre6 enc Try.prog Try.f5 Rows.knitOnceRow.domain false) (Rows.knitOnceSpec.post enc Try.prog Try.f5 false true false false) := by
  refine returnsInHanded_of_change (C := Try.checked) own_knob started (by kernel_rfl) Try.func5
    (ChangeSpec.witness6 (enc := enc) (C := Try.checked) false ⟨#[], #[.int .i64 0, .slice none 0 0, .slice none 0 0], []⟩ 8 (by kernel_rfl) (by kernel_rfl) (by kernel_rfl) (by kernel_rfl)) ?_
  intro W base args ds gs before hval0 hW _ _
  have hval : ∀ (j : Nat) t v, Try.f5.params[j]? = some t → args[j]? = some v → Value.okWide Try.prog W .any base t v := hval0
  have hW' := hW
  obtain ⟨p, q, hA0, hV, rfl, _, _⟩ := hW
  have hA : DataW.TrodAll enc Try.prog W 0 (fun _ => true) true Try.f5.params.toList args.toList ds p := hA0
  rw [Try.params5] at hA hval
  obtain ⟨v0, v1, v2, d0, d1, d2, p0, p1, p2, rfl, rfl, rfl, h0, h1, h2⟩ := trodAll_three hA
  obtain ⟨rfl, rfl⟩ := trodVars_none hV
  obtain ⟨a0, rfl, rfl, rfl, w0⟩ := open_int Try.underlying3 (hval 0 3 v0 rfl rfl) h0
  obtain ⟨A1, n1, c1, rfl, hR1, _⟩ := open_kacts (hval 1 44 v1 rfl rfl) h1
  obtain ⟨A2, n2, c2, xs2, rfl, hR2, _⟩ := open_kints (hval 2 45 v2 rfl rfl) h2
  clear hA0 hval0
  simp only [List.append_nil, List.nil_append] at hW'
  have hlt1 : ∀ y ∈ p1, y.block < W.heap.size := fun y hy => by simpa using hW'.lt y (by simp [hy])
  have hlt2 : ∀ y ∈ p2, y.block < W.heap.size := fun y hy => by simpa using hW'.lt y (by simp [hy])
  refine (walk a0 A1 n1 c1 A2 n2 c2 xs2 W hR1 hR2).mono fun e W' ⟨he, hB⟩ => ?_
  subst he
  exact ⟨_, rfl, _, _, _, [], _, [], hW', trodAll_mk1 (shut_bool Try.underlying4 true), trodAll_mk3 (shut_int Try.underlying3 w0) (Below.trod laid_out (by kernel_rfl) (of_decide_eq_true (by kernel_rfl)) h1 hB hlt1) (Below.trod laid_out (by kernel_rfl) (of_decide_eq_true (by kernel_rfl)) h2 hB hlt2), rfl, hB.frame _, fun h => by cases h⟩

theorem proved : Rows.KnitOnceSaid :=
  OpenClaim.holds_of_wide 5 Try.f5 rfl rfl rfl rfl rfl rfl rfl ⟨rfl, rfl, rfl, rfl, rfl⟩ rfl rfl rfl rfl rfl (by kernel_rfl) Try.func5 (by kernel_rfl)
    (of_decide_eq_true (by kernel_rfl)) (by unfold Func.isWrapper; first | (rw [if_pos (by decide +kernel)]; kernel_rfl) | (rw [if_neg (by decide +kernel)]; exact ⟨rfl, rfl⟩))
    (fun os started H enc _ => lifted os started H enc)
end Go.Proofs.Ytmiifhclcknhdaa.KOnce
namespace Go.Proofs.Ytmiifhclcknhdaa
theorem knitOnce_holds : Rows.KnitOnceSaid := KOnce.proved
#print axioms knitOnce_holds
end Go.Proofs.Ytmiifhclcknhdaa
