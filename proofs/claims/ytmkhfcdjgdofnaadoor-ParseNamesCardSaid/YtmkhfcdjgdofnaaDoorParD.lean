/- Package parse: brackets and values. -/
import Derived.Test.YtmkhfcdjgdofnaaDoorParC
import Derived.Test.YtmkhfcdjgdofnaaDoorParN
namespace Go.Proofs.YtmkhfcdjgdofnaaDoor
open Go.RowKit TreM WrdM ParM

def ExprC (n : Nat) : Prop := ∀ (g o : Nat) (least : Int) (L : List Tok) (w : World), PrG w → 3 ≤ g → Rdr w g L o → 3 * L.length + 2 ≤ n → o ≤ 60 → 0 ≤ least → least ≤ 8 →
  Calls Tryd.prog 25 #[.pointer (some ⟨g, 0, none⟩), .int .i64 least] w (PTo g o w (REx w.heap.size) (exprR n o least L))
def PrefC (n : Nat) : Prop := ∀ (g o : Nat) (L : List Tok) (w : World), PrG w → 3 ≤ g → Rdr w g L o → 3 * L.length + 1 ≤ n → o ≤ 60 →
  Calls Tryd.prog 45 #[.pointer (some ⟨g, 0, none⟩)] w (PTo g o w (REx w.heap.size) (prefR n o L))
def ValC (n : Nat) : Prop := ∀ (g o : Nat) (L : List Tok) (w : World), PrG w → 3 ≤ g → Rdr w g L o → 3 * L.length ≤ n → o ≤ 60 →
  Calls Tryd.prog 71 #[.pointer (some ⟨g, 0, none⟩)] w (PTo g o w (REx w.heap.size) (valueR n o L))

theorem exv_form {W : World} {X : Ex} {v : Value} (h : ExV W X v) : ∃ (o n : Int) (sb : ByteArray) (A : Option Addr) (m cap : Nat) (l c : Int), v = .agg #[.int .i64 o, .int .i64 n, .string sb, .slice A m cap, .int .i64 l, .int .i64 c] := by
  cases X with
  | mk o n s ks l c =>
    obtain ⟨A, cap, rfl, _⟩ := h.open
    exact ⟨_, _, _, _, _, _, _, _, rfl⟩
theorem ends_cons {L : List Tok} (h : EndsT L) : ∃ t r, L = t :: r := by
  cases L with
  | nil => exact absurd h (fun h => h)
  | cons t r => exact ⟨t, r, rfl⟩
abbrev z6 : Array Value := #[.int .i64 0, .int .i64 0, .string ⟨#[]⟩, .slice none 0 0, .int .i64 0, .int .i64 0]
theorem REx.of {lo lo2 : Nat} {W W' : World} {X : Ex} {v : Value} {k : Nat} (h : ExD (fun j => lo2 ≤ j) W X v) (hk : Kg k W W') (h1 : k < lo2) (h2 : lo ≤ lo2) : REx lo W' X (.returned v) :=
  ⟨v, rfl, (h.keep (fun j hj hl => hk.block j hl (by omega)) hk.size).mono fun j hj => Nat.le_trans h2 hj⟩

set_option maxHeartbeats 3200000 in
theorem brk_any (n : Nat) (hE : ExprC n) (g o : Nat) (t : Tok) (r : List Tok) (w : World) (hG : PrG w) (hg : 3 ≤ g) (h : Rdr w g (t :: r) o) (hn : 3 * r.length + 2 ≤ n) (ho : o ≤ 60) (ht : t.text = [40]) :
    Calls Tryd.prog 91 #[.pointer (some ⟨g, 0, none⟩)] w (PTo g o w (REx w.heap.size) (valueR (n + 1) o (t :: r))) := by
  have hlt := h.lt
  obtain ⟨wa, hwa⟩ : ∃ wa, wa = w.alloc (.cells z6 24) := ⟨_, rfl⟩
  have hba : Below w.heap.size w wa := by rw [hwa]; exact below_alloc w _
  have hna : wa.heap[w.heap.size]? = some (.cells z6 24 (0, 0)) := by rw [hwa]; exact blk_new w _
  have hza : wa.heap.size = w.heap.size + 1 := by rw [hwa]; simp
  have HM := Lib.hid (must_any (t :: r) [40] (by decide) wa (h.below hba))
  have hmr : mustR [40] (t :: r) = .ok () r := by show (if t.text = [40] then _ else _) = _; rw [if_pos ht]
  rw [hmr] at HM
  have hR : valueR (n + 1) o (t :: r) = if 60 ≤ o then failR r else (exprR n (o + 1) 0 r).bind closeR := by rw [valueR, if_pos ht]
  have HR := Lib.hid hR
  obtain ⟨R, hRR⟩ : ∃ R, R = valueR (n + 1) o (t :: r) := ⟨_, rfl⟩
  rw [← hRR] at HR ⊢
  have HER := ends_text h.ends ht (by decide)
  have HWA := Lib.hid hwa
  clear hwa hmr hR hRR h
  go_enter Tryd.func91, Tryd.ntmps91
  go_upto_region 1 with (fail)
  have hwa := HWA.out
  unfold z6 at hwa
  rw [← hwa]
  clear hwa HWA
  go_wp2_with fail
  refine HM.out.mono ?_
  rintro e w1 ⟨he, hr1, hk1⟩
  have he : e = .returned (.tuple #[]) := he
  subst he
  obtain ⟨t2, r2, hrr⟩ := ends_cons HER
  by_cases h60 : 60 ≤ o
  · have hr1' := hr1
    rw [hrr] at hr1'
    have HN := Lib.hid (enter_no w1 hr1' h60 (by omega))
    have HBA := Lib.hid hba
    have HK1 := Lib.hid hk1
    have HF : Hid (R = .bad t2.line t2.col) := by unfold Hid; rw [HR.out, if_pos h60, hrr]; rfl
    clear HM hrr hr1 hr1' hk1 hba hna hza
    go_wp2_with fail
    refine HN.out.mono ?_
    rintro e w2 ⟨rfl, hb⟩
    refine ⟨rfl, ?_⟩
    show PTo _ _ _ _ _ _ _
    rw [HF.out]
    exact ⟨rfl, (HBA.out.mono (Nat.le_of_lt hlt)).trans ((HK1.out.low (Nat.lt_of_lt_of_le hlt HBA.out.size)).trans hb)⟩
  have HN := Lib.hid (enter_yes w1 hr1 (by omega))
  have HR2 : Hid (R = (exprR n (o + 1) 0 r).bind closeR) := by unfold Hid; rw [HR.out, if_neg h60]
  have HKA : Hid (Kg g w w1) := (Kg.of_below hba).trans' hk1
  have HNA : Hid (∀ W, Kg g w1 W → W.heap[w.heap.size]? = some (.cells z6 24 (0, 0)) ∧ w.heap.size + 1 ≤ W.heap.size) := fun W hW =>
    ⟨(hW.block _ (by have := hk1.size; omega) (by omega)).trans ((hk1.block _ (by omega) (by omega)).trans hna), by have := hk1.size; have := hW.size; omega⟩
  have HGG : Hid (∀ W, Kg g w W → PrG W) := fun W hW => hG.below (hW.low hlt) hg
  have HL := Lib.hid hlt
  clear HM hrr hr1 hk1 hba hna hza HR HER
  go_wp2_with fail
  refine HN.out.mono ?_
  rintro e w2 ⟨rfl, hr2, hk2⟩
  have hk2' := HKA.out.trans' hk2
  have hnb2 := (HNA.out w2 hk2).2
  have HX := Lib.hid (hE g (o + 1) 0 r w2 (HGG.out w2 hk2') hg hr2 hn (by omega) (by omega) (by omega))
  have HK2 := Lib.hid hk2
  clear hr2 hk2 hk2' HN hG
  go_wp2_with fail
  refine HX.out.mono ?_
  intro e w3 hp
  clear HX
  rcases hER : exprR n (o + 1) 0 r with ⟨l, c⟩ | ⟨x, r3⟩
  · rw [hER] at hp HR2
    obtain ⟨rfl, hb⟩ := hp
    refine ⟨rfl, ?_⟩
    show PTo _ _ _ _ _ _ _
    rw [HR2.out]
    exact ⟨rfl, (HKA.out.trans' HK2.out).low HL.out |>.trans hb⟩
  rw [hER] at hp HR2
  obtain ⟨⟨v, rfl, hv⟩, hr3, hk3⟩ := hp
  obtain ⟨vo, vn, vs, va, vm, vk, vl, vc, rfl⟩ := exv_form hv.val
  have hk3' : Kg g w1 w3 := HK2.out.trans' hk3
  have hb4 := below_alloc w3 (.cells #[.int .i64 vo, .int .i64 vn, .string vs, .slice va vm vk, .int .i64 vl, .int .i64 vc] 24)
  have hn4 := blk_new w3 (.cells #[.int .i64 vo, .int .i64 vn, .string vs, .slice va vm vk, .int .i64 vl, .int .i64 vc] 24)
  have hz4 : (w3.alloc (.cells #[.int .i64 vo, .int .i64 vn, .string vs, .slice va vm vk, .int .i64 vl, .int .i64 vc] 24)).heap.size = w3.heap.size + 1 := by simp
  have hr4 := hr3.below hb4
  have hv4 := hv.below hb4
  have hk4 : Kg g w1 (w3.alloc (.cells #[.int .i64 vo, .int .i64 vn, .string vs, .slice va vm vk, .int .i64 vl, .int .i64 vc] 24)) := hk3'.trans' (Kg.of_below hb4)
  obtain ⟨u, r4, hru⟩ := ends_cons hr3.ends
  have HM2 := Lib.hid (must_any r3 [41] (by decide) _ hr4)
  have HRU : Hid (mustR [41] r3 = if u.text = [41] then .ok () r4 else .bad u.line u.col) := by unfold Hid; rw [hru]; rfl
  have HR3 : Hid (R = if u.text = [41] then .ok x r4 else .bad u.line u.col) := by unfold Hid; rw [HR2.out, hru]; rfl
  obtain ⟨w4, hw4⟩ : ∃ w4, w4 = w3.alloc (.cells #[.int .i64 vo, .int .i64 vn, .string vs, .slice va vm vk, .int .i64 vl, .int .i64 vc] 24) := ⟨_, rfl⟩
  rw [← hw4] at hz4 hn4 hv4 hk4 HM2
  have HW4 := Lib.hid hw4
  have HZ4 := Lib.hid hz4
  have HN4 := Lib.hid hn4
  have HV4 := Lib.hid hv4
  have HK4 := Lib.hid hk4
  have hw32 := hk3.size
  have hw33 := hr3.lt
  clear hr3 hk3 hv hk3' hb4 hn4 hz4 hr4 hv4 hk4 hw4 hru hER HR2 HK2
  go_upto_region 4 with (fail)
  have hw4 := HW4.out
  rw [← hw4]
  clear hw4 HW4
  go_wp2_with fail
  refine HM2.out.mono ?_
  intro e w5 hp
  rw [HRU.out] at hp
  clear HM2
  by_cases hu : u.text = [41]
  case neg =>
    rw [if_neg hu] at hp
    obtain ⟨rfl, hb⟩ := hp
    refine ⟨rfl, ?_⟩
    show PTo _ _ _ _ _ _ _
    rw [HR3.out, if_neg hu]
    exact ⟨rfl, ((HKA.out.trans' HK4.out).low HL.out).trans hb⟩
  rw [if_pos hu] at hp
  obtain ⟨he, hr5, hk5⟩ := hp
  have he : e = .returned (.tuple #[]) := he
  subst he
  have HLV := Lib.hid (leave_any w5 hr5 (by omega))
  have HR4 : Hid (R = .ok x r4) := by unfold Hid; rw [HR3.out, if_pos hu]
  have HK5 := Lib.hid hk5
  clear hr5 hk5 hu HR3 HRU
  go_wp2_with fail
  refine HLV.out.mono ?_
  rintro e w6 ⟨rfl, hr6, hk6⟩
  have hk46 : Kg g w4 w6 := HK5.out.trans' hk6
  have hk16 : Kg g w1 w6 := HK4.out.trans' hk46
  have hz4 := HZ4.out
  have hn6 := (hk46.block w3.heap.size (by omega) (by omega)).trans HN4.out
  obtain ⟨s0, s1, s2, s3, s4, s5⟩ := cells6 hn6
  have hq0 := (HNA.out w6 hk16).1
  have uf := Lib.frozen_of_heap hq0
  obtain ⟨p0, p1, p2, p3, p4, p5⟩ := cells6 hq0
  have hq := psix_set hq0 (.int .i64 vo) (.int .i64 vn) (.string vs) (.slice va vm vk) (.int .i64 vl) (.int .i64 vc)
  obtain ⟨q0, q1, q2, q3, q4, q5⟩ := cells6 hq
  have HV6 : Hid (ExD (fun j => w2.heap.size ≤ j) w6 x (.agg #[.int .i64 vo, .int .i64 vn, .string vs, .slice va vm vk, .int .i64 vl, .int .i64 vc])) := HV4.out.keep (fun j hj hl => hk46.block j hl (by omega)) hk46.size
  have HK6 : Hid (Kg g w w6) := HKA.out.trans' hk16
  have HR6 := Lib.hid hr6
  clear hr6 hk6 hk46 hk16 hz4 hn6 hq0 hq HLV
  go_wp2_with fail
  refine bodyPost_ret (v := .agg #[.int .i64 vo, .int .i64 vn, .string vs, .slice va vm vk, .int .i64 vl, .int .i64 vc]) (by simp [results, Tryd.results91, go_sem, q0, q1, q2, q3, q4, q5]) rfl ?_
  show PTo _ _ _ _ _ _ _
  rw [HR4.out]
  exact ⟨REx.of HV6.out (kf_six _ _ _ _ _ _ _ _) (by omega) (by omega), HR6.out.high (kf_six _ _ _ _ _ _ _ _) HL.out, HK6.out.of_high (kf_six _ _ _ _ _ _ _ _) (Nat.le_refl _)⟩
end Go.Proofs.YtmkhfcdjgdofnaaDoor
