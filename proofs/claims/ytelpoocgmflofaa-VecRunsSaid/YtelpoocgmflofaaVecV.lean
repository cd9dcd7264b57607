/- vecAlive is true; what the laws of numbers begin with. -/
import Derived.Test.YtelpoocgmflofaaVecO
namespace Go.Proofs.Ytelpoocgmflofaa
open Go.RowKit GatM VecM

section
variable {B : Nat} {w0 w : World} {c : GrC} {gs : Gs}
theorem Vec2To.out {n K : Nat} {C : Prop} {F : List Bool → Int} {e : Ending} {w' : World} (h : Vec2To B w0 w c gs n K C F e w') : ∃ (g cp : Nat) (l : List Nat) (gs' : Gs) (c' : GrC), e = .returned (.tuple #[.slice (some ⟨g, 0, none⟩) n cp, .int .i64 0]) ∧ ResL gs gs' l n K C F ∧ LvTo B w0 w w' c c' gs' ∧ VcAt w' c' (some ⟨g, 0, none⟩) n l := by
  obtain ⟨v, rfl, g, cp, l, gs', c', hv, _, hr, hT, hc, _⟩ := h
  injection hv with hv
  subst hv
  exact ⟨g, cp, l, gs', c', rfl, hr, hT, hc⟩
theorem Edge2To.out {K : Nat} {C : Prop} {F : List Bool → Bool} {e : Ending} {w' : World} (h : Edge2To B w0 w c gs K C F e w') : ∃ (r : Nat) (gs' : Gs) (c' : GrC), e = .returned (.tuple #[.int .u32 (r : Int), .int .i64 0]) ∧ Res gs gs' r K C F ∧ LvTo B w0 w w' c c' gs' := by
  obtain ⟨v, rfl, r, gs', c', hv, hr, hT⟩ := h
  injection hv with hv
  subst hv
  exact ⟨r, gs', c', rfl, hr, hT⟩
/-- A constant beside a circuit. -/
theorem vcon_yes (h : LvG B w0 w c gs) (n : Int) (hn : -9223372036854775808 ≤ n ∧ n ≤ 9223372036854775807) (m : Nat) (hm : m = widthZ n n) (h0 : 0 < m) : Calls Try.prog 11 #[.int .i64 n] w fun e w' => ∃ g, e = .returned (.tuple #[.slice (some ⟨g, 0, none⟩) m m, .int .i64 0]) ∧ Below w.heap.size w w' ∧ VcAt w' c (some ⟨g, 0, none⟩) m (conL n m) := by
  refine (vConst_any n hn w).mono fun e w' hc => ?_
  unfold ConTo at hc
  rw [← hm, if_neg (by omega)] at hc
  obtain ⟨g, q1, q2, q3, q4⟩ := hc
  refine ⟨g, q1, q3, ?_⟩
  have := VcAt.row (c := c) (l := conL n m) q2 (by rw [conL_len]; exact h0) (by rw [conL_len]; exact Nat.le_refl _) (fun ho => by have := h.at_.lt ho; omega) (fun _ _ => rfl)
  rwa [conL_len] at this
theorem widthZ_self {n : Int} (hn : -9223372036854775808 ≤ n ∧ n ≤ 9223372036854775807) {m : Nat} (hm : m = widthZ n n) (h0 : 0 < m) : m ≤ 32 ∧ nB (bitZ n) m = n := by
  unfold widthZ at hm
  split at hm
  · omega
  · have hw : widZ n = m := by omega
    obtain ⟨k, rfl⟩ : ∃ k, m = k + 1 := ⟨m - 1, by omega⟩
    exact ⟨by omega, wid_self n hn.1 hn.2 (by omega) (by omega)⟩
end
theorem wid3 : (3 : Nat) = widthZ 3 3 ∧ (3 : Nat) = widthZ (-4) (-4) := by decide +kernel
set_option maxHeartbeats 3200000 in
set_option maxRecDepth 100000 in
theorem valive_any (w : World) : Calls Try.prog 17 #[] w fun e w' => e = .returned (.bool true) ∧ Below w.heap.size w w' := by
  go_enter Try.func17, Try.ntmps17
  go_wp2_with fail
  refine (gnew_any w).mono ?_
  intro e w1 hN
  obtain ⟨c, rfl, h1⟩ := LvG.new hN (Below.refl w.heap.size w) (Nat.le_refl _)
  obtain ⟨bg, hbg⟩ : ∃ bg, bg = c.bg := ⟨_, rfl⟩
  rw [← hbg]
  have HBG := Lib.hid hbg
  have H1 := Lib.hid h1
  have HC1 := Lib.hid (vcon_yes h1 3 (by decide) 3 wid3.1 (by decide))
  clear hN h1 hbg
  go_wp2_with fail
  refine HC1.out.mono ?_
  rintro e w2 ⟨ga, rfl, hb2, hv2⟩
  have HB2 := Lib.hid hb2
  have HV2 := Lib.hid hv2
  have h2 := H1.out.below hb2
  have HC2 := Lib.hid (vcon_yes h2 (-4) (by decide) 3 wid3.2 (by decide))
  have H2 := Lib.hid h2
  clear hb2 hv2 h2 HC1 H1
  go_wp2_with fail
  refine HC2.out.mono ?_
  rintro e w3 ⟨gb, rfl, hb3, hv3⟩
  have h3 := H2.out.below hb3
  have hadd := vadd_any h3 (cn := 3) (cm := 3) (HV2.out.below hb3) hv3 (conL_in h3.wf _ _) (conL_in h3.wf _ _) (by decide) (by decide) (by decide)
  rw [← HBG.out] at hadd
  have HADD := Lib.hid hadd
  have H3 := Lib.hid h3
  clear hadd hb3 hv3 h3 HC2 HB2 HV2 H2
  go_wp2_with fail
  refine HADD.out.mono ?_
  intro e w4 hE
  obtain ⟨g, cp, l, gs', c', rfl, hr, hT, hvc⟩ := hE.out
  have hnum := vNumber_any hT.lv (cn := cp) (cv := 0) (V := none) hvc (RdO.nil (w := w4)) hr.inn (by decide) (by have := hr.len; simp at this; omega)
  have hval : valE [] gs' l = -1 := by
    rw [hr.val, conL_val H3.out.wf _ _ (by decide), conL_val H3.out.wf _ _ (by decide)]
    decide +kernel
  rw [hval, hT.bg, ← HBG.out] at hnum
  have HNUM := Lib.hid hnum
  have HBE := Lib.hid hT.lv.be
  have HSZ := Lib.hid hT.lv.hB
  clear hnum hval hE hr hT hvc HADD H3
  go_wp2_with fail
  refine HNUM.out.mono ?_
  rintro e w5 ⟨rfl, hb5⟩
  have HB5 := Lib.hid (HBE.out.trans (hb5.mono HSZ.out))
  clear hb5 HNUM HBE HSZ
  go_wp2_with fail
  go_ret
  exact ⟨rfl, HB5.out⟩
end Go.Proofs.Ytelpoocgmflofaa
