/- RankSorts is true: the statement Rows.RankSortsSaid, without a condition. -/
import Derived.Test.YtffpggdbmfidcaaRLaw
namespace Go.Proofs.Ytffpggdbmfidcaa
open Go.ChangeShapes Go.WideShapes Go.ChangeAt Go.RowKit HeapM

theorem cntB_all (n : Nat) : cntB (fun _ => true) n = n := by
  induction n with
  | zero => rfl
  | succ n ih => unfold cntB; rw [ih]; simp
theorem cntB_same {wt wt' : Nat → Bool} {n : Nat} (h : ∀ v, 1 ≤ v → v ≤ n → wt' v = wt v) : cntB wt' n = cntB wt n := by
  induction n with
  | zero => rfl
  | succ n ih => unfold cntB; rw [ih fun v h1 h2 => h v h1 (by omega), h (n + 1) (by omega) (by omega)]
theorem cntB_off {wt : Nat → Bool} {n v : Nat} (h1 : 1 ≤ v) (h2 : v ≤ n) (h : wt v = true) : cntB (upd wt v false) n + 1 = cntB wt n := by
  induction n with
  | zero => omega
  | succ n ih =>
    unfold cntB
    by_cases e : v = n + 1
    · subst e
      rw [upd_at, if_neg (by simp), if_pos h, cntB_same fun u _ hu => upd_ne _ _ (by omega)]
    · have := ih (by omega)
      rw [upd_ne _ _ (show n + 1 ≠ v by omega)]; omega
theorem cntB_on {wt : Nat → Bool} {n v : Nat} (h1 : 1 ≤ v) (h2 : v ≤ n) (h : wt v = false) : cntB (upd wt v true) n = cntB wt n + 1 := by
  induction n with
  | zero => omega
  | succ n ih =>
    unfold cntB
    by_cases e : v = n + 1
    · subst e
      rw [upd_at, if_pos rfl, if_neg (by simp [h]), cntB_same fun u _ hu => upd_ne _ _ (by omega)]
    · rw [ih (by omega), upd_ne _ _ (by omega)]; omega

theorem Live.bumpany {B b n : Nat} {w0 w : World} {sc : Nat → Int} {wt : Nat → Bool} (h : Live B w0 w b n sc wt) (hn : n ≤ 1000) (v : Nat) (y : Int) (h1 : 1 ≤ v) (h2 : v ≤ n) :
    Calls Try.prog 10 #[.pointer (some ⟨b, 0, none⟩), .int .i64 v, .int .i64 y] w fun e w' => (∃ z, e = .returned (.int .i64 z)) ∧ ∃ sc', Live B w0 w' b n sc' wt := by
  by_cases hy : 0 ≤ y ∧ y ≤ 1152921504606846976
  · exact (h.bump hn v y h1 h2 hy.1 hy.2).mono fun e w' ⟨he, hl⟩ => ⟨⟨_, he⟩, _, hl⟩
  · exact (h.bumpno hn v y (fun c => hy c.2)).mono fun e w' ⟨he, hl⟩ => ⟨⟨_, he⟩, _, hl ▸ h⟩
theorem Live.scoreof {B b n : Nat} {w0 w : World} {sc : Nat → Int} {wt : Nat → Bool} (h : Live B w0 w b n sc wt) (hn : n ≤ 1000) (v : Nat) (h1 : 1 ≤ v) (h2 : v ≤ n) :
    Calls Try.prog 23 #[.pointer (some ⟨b, 0, none⟩), .int .i64 v] w fun e w' => e = .returned (.int .i64 (sc v)) ∧ w = w' := by
  have := h.score hn (v : Int)
  rwa [if_pos ((inB_iff n (v : Int)).2 ⟨by omega, by omega⟩), show ((v : Int).toNat) = v from by omega] at this
theorem Live.waitsof {B b n : Nat} {w0 w : World} {sc : Nat → Int} {wt : Nat → Bool} (h : Live B w0 w b n sc wt) (hn : n ≤ 1000) (v : Nat) (h1 : 1 ≤ v) (h2 : v ≤ n) :
    Calls Try.prog 24 #[.pointer (some ⟨b, 0, none⟩), .int .i64 v] w fun e w' => e = .returned (.bool (wt v)) ∧ w = w' := by
  have := h.waits hn (v : Int)
  rwa [(inB_iff n (v : Int)).2 ⟨by omega, by omega⟩, Bool.true_and, show ((v : Int).toNat) = v from by omega] at this

namespace RSorts
def Rel1 (b n : Nat) (w : World) (v : Value) (wr : World) : Prop := ∃ (k : Nat) (sc : Nat → Int), v = .int .i64 (k : Int) ∧ k ≤ n ∧ Live w.heap.size w wr b n sc (fun _ => true)
def Rel2 (b n : Nat) (w : World) (v : Value) (wr : World) : Prop := ∃ (k : Nat) (sc : Nat → Int), v = .int .i64 (k : Int) ∧ k ≤ 70 ∧ Live w.heap.size w wr b n sc (fun _ => true)
/-- The last one popped comes no later than all that wait. -/
def Lst (n : Nat) (sc : Nat → Int) (wt : Nat → Bool) (l : Int) : Prop := l = 0 ∨ ∃ u : Nat, l = (u : Int) ∧ 1 ≤ u ∧ u ≤ n ∧ ∀ v, 1 ≤ v → v ≤ n → wt v = true → le sc u v
def Rel3 (b n : Nat) (w : World) (l v : Value) (wr : World) : Prop :=
  ∃ (k : Nat) (z : Int) (sc : Nat → Int) (wt : Nat → Bool), l = .int .i64 z ∧ v = .int .i64 (k : Int) ∧ k ≤ n ∧ cntB wt n + k = n ∧ Lst n sc wt z ∧ Live w.heap.size w wr b n sc wt
theorem Lst.next {n : Nat} {sc : Nat → Int} {wt : Nat → Bool} {v : Nat} (h : FirstOf n sc wt v) : Lst n sc (upd wt v false) (v : Int) :=
  .inr ⟨v, rfl, h.1, h.2.1, fun u u1 u2 hu => by
    by_cases e : u = v
    · subst e; exact le_refl _ _
    · rw [upd_ne _ _ e] at hu; exact h.2.2.2 u u1 u2 hu⟩

set_option maxHeartbeats 12800000 in
set_option maxRecDepth 100000 in
theorem walk (A : Option Addr) (n c : Nat) (xs : List Int) (t : Int) (w : World) (h : Rd .i64 w w.heap.size A n xs) (hn : n ≤ 9223372036854775807) :
    Calls Try.prog 5 #[.slice A n c, .int .i64 t] w fun e w' => e = .returned (.bool true) ∧ Below w.heap.size w w' := by
  have HR := Lib.hid h
  clear h
  by_cases hbig : 60 < n
  · go_enter Try.func5, Try.ntmps5
    go_wp2_with fail
    refine (alive_any _).mono ?_
    rintro e wa ⟨rfl, hB⟩
    have HB := Lib.hid hB; clear hB
    go_wp2_with fail
    go_ret
    exact ⟨rfl, HB.out⟩
  by_cases ht0 : t < 0
  · go_enter Try.func5, Try.ntmps5
    go_wp2_with fail
    refine (alive_any _).mono ?_
    rintro e wa ⟨rfl, hB⟩
    have HB := Lib.hid hB; clear hB
    go_wp2_with fail
    go_ret
    exact ⟨rfl, HB.out⟩
  by_cases ht1 : 70 < t
  · go_enter Try.func5, Try.ntmps5
    go_wp2_with fail
    refine (alive_any _).mono ?_
    rintro e wa ⟨rfl, hB⟩
    have HB := Lib.hid hB; clear hB
    go_wp2_with fail
    go_ret
    exact ⟨rfl, HB.out⟩
  obtain ⟨t, rfl⟩ := Int.eq_ofNat_of_zero_le (show 0 ≤ t by omega)
  have hn60 : n ≤ 60 := by omega
  have ht70 : t ≤ 70 := by omega
  have ta : decide (60 < n) = false := decide_eq_false (by omega)
  have tb : decide ((60 : Int) < (n : Int)) = false := decide_eq_false (by omega)
  have tc : decide ((t : Int) < 0) = false := decide_eq_false (by omega)
  have td : decide (70 < t) = false := decide_eq_false (by omega)
  have te : decide ((70 : Int) < (t : Int)) = false := decide_eq_false (by omega)
  clear hbig ht0 ht1 hn
  go_enter Try.func5, Try.ntmps5
  go_wp2_with fail
  refine (alive_any _).mono ?_
  rintro e wa ⟨rfl, hB⟩
  have HB := Lib.hid hB; clear hB
  go_wp2_with fail
  refine (new_any (n : Int) _ (by omega)).mono ?_
  intro e w1 hm
  rw [show ((n : Int).toNat) = n from by omega] at hm
  obtain ⟨b, rfl, h1⟩ := Live.make hm HB.out (Nat.le_refl _)
  have HS : Hid (Rel1 b n w (.int .i64 0) w1) := ⟨0, _, rfl, Nat.zero_le _, h1⟩
  clear hm h1 HB
  go_wp2_with fail
  go_loopw [33] (fun v wr => Rel1 b n w v wr) (fun v _ => n - (intOf v).toNat)
  case atStart => exact HS.out
  case round =>
    clear HS
    obtain ⟨k, sc, rfl, hk, hL⟩ := hrel
    by_cases hlt : k < n
    · obtain ⟨b0, o, hAe, hb0, hcell⟩ := HR.out.get hlt
      have hc : wr.cell? ⟨b0, o + k, none⟩ = some (.int .i64 (xs.getD k 0)) := (hL.out.cell hb0).trans hcell
      subst hAe
      generalize xs.getD k 0 = x at *
      have hbu := hL.bumpany (by omega) (k + 1) x (by omega) (by omega)
      rw [show ((k + 1 : Nat) : Int) = (k : Int) + 1 from by omega] at hbu
      have HBU := Lib.hid hbu
      clear hL hbu hcell hb0
      go_wp2_with fail
      refine HBU.out.mono ?_
      rintro e w2 ⟨⟨z, rfl⟩, sc', hL'⟩
      have HS' : Hid (Rel1 b n w (.int .i64 ((k : Int) + 1)) w2) := ⟨k + 1, sc', by rw [show ((k + 1 : Nat) : Int) = (k : Int) + 1 from by omega], by omega, hL'⟩
      clear hL' HBU hc
      go_wp2_with fail
      go_roundw
      case rel => exact HS'.out
      case measure => simp [intOf]; omega
    · have tk : decide (k < n) = false := decide_eq_false hlt
      clear hk
      have HS2 : Hid (Rel2 b n w (.int .i64 0) wr) := ⟨0, sc, rfl, by omega, hL⟩
      clear hL
      go_wp2_with fail
      obtain ⟨wo, rfl⟩ : ∃ wo : World, wo = wr := ⟨_, rfl⟩
      go_loopw [8] (fun v wr => Rel2 b n w v wr) (fun v _ => t - (intOf v).toNat)
      case atStart => exact HS2.out
      case round =>
        clear HS2
        obtain ⟨k, sc, rfl, hk, hL⟩ := hrel
        by_cases hlt : k < t
        · have HH := Lib.hid (hL.halve (by omega))
          clear hL
          go_wp2_with fail
          refine HH.out.mono ?_
          rintro e w2 ⟨rfl, hL'⟩
          have HS' : Hid (Rel2 b n w (.int .i64 ((k : Int) + 1)) w2) := ⟨k + 1, _, by rw [show ((k + 1 : Nat) : Int) = (k : Int) + 1 from by omega], by omega, hL'⟩
          clear hL' HH
          go_wp2_with fail
          go_roundw
          case rel => exact HS'.out
          case measure => simp [intOf]; omega
        · have tk2 : decide (k < t) = false := decide_eq_false hlt
          clear hk
          have HS3 : Hid (Rel3 b n w (.int .i64 0) (.int .i64 0) wr) := ⟨0, 0, sc, _, rfl, rfl, Nat.zero_le _, by rw [cntB_all]; omega, .inl rfl, hL⟩
          clear hL
          go_wp2_with fail
          obtain ⟨wp, rfl⟩ : ∃ wp : World, wp = wr := ⟨_, rfl⟩
          go_loopw [9, 10] (fun l v wr => Rel3 b n w l v wr) (fun _ v _ => n - (intOf v).toNat)
          case atStart => exact HS3.out
          case round =>
            clear HS3
            obtain ⟨k, z, sc, wt, rfl, rfl, hk, hcn, hlst, hL⟩ := hrel
            by_cases hlt : k < n
            · have HP := Lib.hid (hL.pop (by omega) (by omega))
              clear hL
              go_wp2_with fail
              refine HP.out.mono ?_
              rintro e w2 ⟨v, hv, rfl, hL'⟩
              clear HP
              have hv1 := hv.1
              have hv2 := hv.2.1
              have HW := Lib.hid (hL'.waitsof (by omega) v hv1 hv2)
              rw [upd_at] at HW
              have HSV := Lib.hid (hL'.scoreof (by omega) v hv1 hv2)
              have HS' : Hid (Rel3 b n w (.int .i64 (v : Int)) (.int .i64 ((k : Int) + 1)) w2) :=
                ⟨k + 1, _, sc, _, rfl, by rw [show ((k + 1 : Nat) : Int) = (k : Int) + 1 from by omega], by omega, by have := cntB_off hv1 hv2 hv.2.2.1; omega, Lst.next hv, hL'⟩
              rcases hlst with rfl | ⟨u, rfl, hu1, hu2, hu⟩
              · clear hL' hv
                go_wp2_with fail
                refine HW.out.mono ?_
                rintro e w' ⟨rfl, rfl⟩
                go_wp2_with fail
                go_roundw
                case rel => exact HS'.out
                case measure => simp [intOf]; omega
              · have hle := hu v hv1 hv2 hv.2.2.1
                have HSU := Lib.hid (hL'.scoreof (by omega) u hu1 hu2)
                have hu0 : (u : Int) > 0 := by omega
                have hu0' : decide ((0 : Int) < (u : Int)) = true := decide_eq_true (by omega)
                unfold le at hle
                generalize sc v = x at *
                generalize sc u = y at *
                by_cases hxy : x = y
                · subst hxy
                  have hvu : u ≤ v := by omega
                  have t1 : decide (x < x) = false := decide_eq_false (by omega)
                  have t2 : (x == x) = true := by simp
                  have t3 : decide (v < u) = false := decide_eq_false (by omega)
                  clear hL' hv hle hu
                  go_wp2_with fail
                  refine HW.out.mono ?_
                  rintro e w' ⟨rfl, rfl⟩
                  go_wp2_with fail
                  refine HSV.out.mono ?_
                  rintro e w' ⟨rfl, rfl⟩
                  go_wp2_with fail
                  refine HSU.out.mono ?_
                  rintro e w' ⟨rfl, rfl⟩
                  go_wp2_with fail
                  refine HSV.out.mono ?_
                  rintro e w' ⟨rfl, rfl⟩
                  go_wp2_with fail
                  refine HSU.out.mono ?_
                  rintro e w' ⟨rfl, rfl⟩
                  go_wp2_with fail
                  go_roundw
                  case rel => exact HS'.out
                  case measure => simp [intOf]; omega
                · have t1 : decide (y < x) = false := decide_eq_false (by omega)
                  have t2 : (x == y) = false := by rw [beq_eq_false_iff_ne]; exact hxy
                  clear hL' hv hle hu hxy
                  go_wp2_with fail
                  refine HW.out.mono ?_
                  rintro e w' ⟨rfl, rfl⟩
                  go_wp2_with fail
                  refine HSV.out.mono ?_
                  rintro e w' ⟨rfl, rfl⟩
                  go_wp2_with fail
                  refine HSU.out.mono ?_
                  rintro e w' ⟨rfl, rfl⟩
                  go_wp2_with fail
                  refine HSV.out.mono ?_
                  rintro e w' ⟨rfl, rfl⟩
                  go_wp2_with fail
                  refine HSU.out.mono ?_
                  rintro e w' ⟨rfl, rfl⟩
                  go_wp2_with fail
                  go_roundw
                  case rel => exact HS'.out
                  case measure => simp [intOf]; omega
            · have hkn : k = n := by omega
              subst hkn
              have HP := Lib.hid (hL.popnone (by omega))
              have HZ := Lib.hid hL.size
              rw [show cntB wt k = 0 from by omega, show ((0 : Nat) : Int) = 0 from rfl] at HZ
              have HB := Lib.hid hL.out
              clear hL hlst hcn
              go_wp2_with fail
              refine HP.out.mono ?_
              rintro e w' ⟨rfl, rfl⟩
              go_wp2_with fail
              refine HZ.out.mono ?_
              rintro e w' ⟨rfl, rfl⟩
              go_wp2_with fail
              go_ret
              exact ⟨rfl, HB.out⟩

set_option maxHeartbeats 800000 in
set_option maxRecDepth 100000 in
theorem lifted (os : Os) (started : os.Started) (H : Type) (enc : TypeId × Value → H) :
    ReturnsInHanded {} Try.checked os 5 .any (Rows.rankSortsSpec.pre6 enc Try.prog Try.f5 Rows.rankSortsRow.domain false) (Rows.rankSortsSpec.post enc Try.prog Try.f5 false true false false) := by
  refine returnsInHanded_of_change (C := Try.checked) own_knob started (by kernel_rfl) Try.func5
    (ChangeSpec.witness6 (enc := enc) (C := Try.checked) false ⟨#[], #[.slice none 0 0, .int .i64 0], []⟩ 8 (by kernel_rfl) (by kernel_rfl) (by kernel_rfl) (by kernel_rfl)) ?_
  intro W base args ds gs before hval0 hW _ _
  have hval : ∀ (j : Nat) t v, Try.f5.params[j]? = some t → args[j]? = some v → Value.okWide Try.prog W .any base t v := hval0
  have hW' := hW
  obtain ⟨p, q, hA0, hV, rfl, _, _⟩ := hW
  have hA : DataW.TrodAll enc Try.prog W 0 (fun _ => true) true Try.f5.params.toList args.toList ds p := hA0
  rw [Try.params5] at hA hval
  obtain ⟨v0, v1, d0, d1, p0, p1, rfl, rfl, rfl, h0, h1⟩ := trodAll_two hA
  obtain ⟨rfl, rfl⟩ := trodVars_none hV
  obtain ⟨A, n, c, xs, rfl, hR, _, hn⟩ := open_scores (hval 0 49 v0 rfl rfl) h0
  obtain ⟨a1, rfl, rfl, rfl, w1⟩ := open_int Try.underlying3 (hval 1 3 v1 rfl rfl) h1
  clear hA0 hval0
  simp only [List.append_nil] at hW'
  have hlt : ∀ y ∈ p0, y.block < W.heap.size := fun y hy => by simpa using hW'.lt y (by simp [hy])
  refine (walk A n c xs a1 W hR hn).mono fun e W' ⟨he, hB⟩ => ?_
  subst he
  exact ⟨_, rfl, _, _, _, [], _, [], hW', trodAll_mk1 (shut_bool Try.underlying4 true), trodAll_mk2 (Below.trod laid_out (by kernel_rfl) (of_decide_eq_true (by kernel_rfl)) h0 hB hlt) (shut_int Try.underlying3 w1), rfl, hB.frame _, fun h => by cases h⟩

theorem proved : Rows.RankSortsSaid :=
  OpenClaim.holds_of_wide 5 Try.f5 rfl rfl rfl rfl rfl rfl rfl ⟨rfl, rfl, rfl, rfl, rfl⟩ rfl rfl rfl rfl rfl (by kernel_rfl) Try.func5 (by kernel_rfl)
    (of_decide_eq_true (by kernel_rfl)) (by unfold Func.isWrapper; first | (rw [if_pos (by decide +kernel)]; kernel_rfl) | (rw [if_neg (by decide +kernel)]; exact ⟨rfl, rfl⟩))
    (fun os started H enc _ => lifted os started H enc)
end RSorts
theorem rankSorts_holds : Rows.RankSortsSaid := RSorts.proved
#print axioms rankSorts_holds
end Go.Proofs.Ytffpggdbmfidcaa
