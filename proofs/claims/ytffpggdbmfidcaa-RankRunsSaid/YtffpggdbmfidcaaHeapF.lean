/- The contracts of container/heap's Fix, Init and Pop over a queue. -/
import Derived.Test.YtffpggdbmfidcaaHeapU
namespace Go.Proofs.Ytffpggdbmfidcaa
open Go.RowKit HeapM

section
variable {b gs cs gp cp go co n m : Nat} {sc pl : Nat → Int} {od : Nat → Nat}

theorem Up.dn {sc : Nat → Int} {od : Nat → Nat} {m i : Nat} (h : Up sc od m i) : Dn sc od i m i := Dn.start fun c h1 h2 h3 => h.1 c h1 h2 (by omega)

set_option maxHeartbeats 6400000 in
set_option maxRecDepth 100000 in
theorem fix_any (w : World) (h : QAt w b gs cs gp cp go co n m sc pl od) (hI : Inv n m pl od) (hn : n ≤ 1000) (i : Int) (hi0 : 0 ≤ i) (hi : i < m) (hU : Up sc od m i.toNat) (hF : Fine sc od m i.toNat) :
    Calls Try.prog 28 #[.iface 58 (.pointer (some ⟨b, 0, none⟩)), .int .i64 i] w (UpPost b gs cs gp cp go co n m sc pl w) := by
  obtain ⟨i, rfl⟩ := Int.eq_ofNat_of_zero_le hi0
  have t2 : ((i : Int).toNat) = i := by omega
  rw [t2] at hU hF
  have him : i < m := by omega
  have HL := Lib.hid (len_any w h)
  have HD := Lib.hid (down_any w h hI hn him (Nat.le_refl m) (by omega) (Up.dn hU))
  have HU : Hid (∀ w1 pl' od', QAt w1 b gs cs gp cp go co n m sc pl' od' → Kf (Foot b gs gp go) w w1 → od' = od → pl' = pl → Calls Try.prog 37 #[.iface 58 (.pointer (some ⟨b, 0, none⟩)), .int .i64 i] w1 (UpPost b gs cs gp cp go co n m sc pl w)) := by
    rintro w1 pl' od' hq hk rfl rfl
    refine (up_any w1 hq hI hn him hU).mono ?_
    rintro e w2 ⟨pl2, od2, he, hq2, hk2, r⟩
    exact ⟨pl2, od2, he, hq2, hk.trans hk2 (fun _ h => .inl h), r⟩
  have HF := Lib.hid hF
  have ml := meth_len
  clear h hI hU hF
  go_enter Try.func28, Try.ntmps28
  go_wp2_with fail
  refine HL.out.mono ?_
  rintro e w' ⟨rfl, rfl⟩
  go_wp2_with fail
  refine HD.out.mono ?_
  rintro e w1 ⟨pl', od', r, rfl, hq, hk, _, _, _, _, hfin⟩
  obtain ⟨rfl, ho, hp⟩ := hfin HF.out
  have HU1 := Lib.hid (HU.out w1 pl' od' hq hk ho hp)
  clear hfin hq hk ho hp HU HD HL HF
  go_wp2_with fail
  refine HU1.out.mono ?_
  rintro e w2 ⟨pl2, od2, rfl, r⟩
  have HE : Hid (UpPost b gs cs gp cp go co n m sc pl w (.returned (.tuple #[])) w2) := ⟨pl2, od2, rfl, r⟩
  clear r HU1
  go_wp2_with fail
  go_end0
  exact HE.out

/-- The loop's relation. -/
def InitRel (b gs cs gp cp go co n m : Nat) (sc pl : Nat → Int) (w : World) (v : Value) (wr : World) : Prop :=
  ∃ (i : Int) (pl' : Nat → Int) (od' : Nat → Nat), v = .int .i64 i ∧ -1 ≤ i ∧ i < m ∧ QAt wr b gs cs gp cp go co n m sc pl' od' ∧ Kf (Foot b gs gp go) w wr ∧ Inv n m pl' od' ∧ SameW n pl pl' ∧ Hp sc od' (i + 1).toNat m

set_option maxHeartbeats 6400000 in
set_option maxRecDepth 100000 in
theorem init_any (w : World) (h : QAt w b gs cs gp cp go co n m sc pl od) (hI : Inv n m pl od) (hn : n ≤ 1000) :
    Calls Try.prog 32 #[.iface 58 (.pointer (some ⟨b, 0, none⟩))] w (UpPost b gs cs gp cp go co n m sc pl w) := by
  have hml := hI.le
  have HL := Lib.hid (len_any w h)
  have HS : Hid (InitRel b gs cs gp cp go co n m sc pl w (.int .i64 ((m : Int) / 2 - 1)) w) :=
    ⟨_, pl, od, rfl, by omega, by omega, h, Kf.refl _ _, hI, SameW.refl _ _, fun c h1 h2 h3 => by omega⟩
  have ml := meth_len
  clear h hI
  go_enter Try.func32, Try.ntmps32
  go_wp2_with fail
  refine HL.out.mono ?_
  rintro e w' ⟨rfl, rfl⟩
  clear HL
  go_wp2_with fail
  go_loopw [3] (fun v wr => InitRel b gs cs gp cp go co n m sc pl w v wr) (fun v _ => (intOf v + 1).toNat)
  case atStart => exact HS.out
  case round =>
    clear HS
    obtain ⟨i, pl', od', rfl, hi0, him, hQ, hK, hI, hA, hH⟩ := hrel
    by_cases hz : i < 0
    · have HE : Hid (UpPost b gs cs gp cp go co n m sc pl w (.returned (.tuple #[])) wr) := ⟨pl', od', rfl, hQ, hK, hI, hA, by
        rwa [show (i + 1).toNat = 0 from by omega] at hH⟩
      clear hQ hK hI hA hH
      go_wp2_with fail
      go_end0
      exact HE.out
    · have hz' : 0 ≤ i := by omega
      have HD : Hid (Calls Try.prog 36 #[.iface 58 (.pointer (some ⟨b, 0, none⟩)), .int .i64 i, .int .i64 m] wr fun e w' => (∃ r, e = .returned (.bool r)) ∧ InitRel b gs cs gp cp go co n m sc pl w (.int .i64 (i - 1)) w') := by
        obtain ⟨i, rfl⟩ := Int.eq_ofNat_of_zero_le hz'
        refine (down_any wr hQ hI hn (i0 := i) (N := m) (by omega) (Nat.le_refl m) (by omega) (Dn.start fun c h1 h2 h3 => hH c h1 h2 (by omega))).mono ?_
        rintro e w1 ⟨pl2, od2, r, rfl, hq, hk, hi, hs, hh, _, _⟩
        exact ⟨⟨r, rfl⟩, ((i : Int) - 1), pl2, od2, rfl, by omega, by omega, hq, hK.trans hk (fun _ h => .inl h), hi, hA.trans hs, by
          rwa [show ((i : Int) - 1 + 1).toNat = i from by omega]⟩
      clear hQ hK hI hA hH hz
      go_wp2_with fail
      refine HD.out.mono ?_
      rintro e w1 ⟨⟨r, rfl⟩, hr⟩
      have HR := Lib.hid hr
      clear hr HD
      go_wp2_with fail
      go_roundw
      case rel => exact HR.out
      case measure => simp [intOf]; omega

/-- What heap.Pop leaves: the first has gone. -/
def TookPost (b gs cs gp cp go co n m : Nat) (sc pl : Nat → Int) (od : Nat → Nat) (w : World) (e : Ending) (w' : World) : Prop :=
  ∃ (pl' : Nat → Int) (od' : Nat → Nat), e = .returned (.iface 3 (.int .i64 (od 0 : Int))) ∧ QAt w' b gs cs gp cp go co n m sc pl' od' ∧ Kf (Foot b gs gp go) w w' ∧ Inv n m pl' od' ∧ Hp sc od' 0 m ∧ (∀ v, 1 ≤ v → v ≤ n → (pl' v = -1 ↔ pl v = -1 ∨ v = od 0))

set_option maxHeartbeats 6400000 in
set_option maxRecDepth 100000 in
theorem take_any (w : World) (h : QAt w b gs cs gp cp go co n (m + 1) sc pl od) (hI : Inv n (m + 1) pl od) (hn : n ≤ 1000) (hH : Hp sc od 0 (m + 1)) :
    Calls Try.prog 33 #[.iface 58 (.pointer (some ⟨b, 0, none⟩))] w (TookPost b gs cs gp cp go co n m sc pl od w) := by
  have hml := hI.le
  have HL := Lib.hid (len_any w h)
  have hs := swap_nat w h hI hn (i := 0) (k := m) (by omega) (by omega)
  have HS : Hid (Calls Try.prog 57 #[.pointer (some ⟨b, 0, none⟩), .int .i64 0, .int .i64 m] w fun e w' => e = .returned (.tuple #[]) ∧ QAt w' b gs cs gp cp go co n (m + 1) sc (swP pl od 0 m) (swO od 0 m) ∧ Kf (Foot b gs gp go) w w') := hs
  clear hs
  have HI1 := Lib.hid (swap_any hI (show 0 < m + 1 by omega) (show m < m + 1 by omega))
  have HA1 := Lib.hid (swap_alike hI (show 0 < m + 1 by omega) (show m < m + 1 by omega))
  have HD1 : Hid (Dn sc (swO od 0 m) 0 m 0) := Dn.start fun c h1 h2 h3 => by
    rw [swO_ne _ (by omega) (by omega), swO_ne _ (by omega) (by omega)]
    exact hH c h1 (by omega) (by omega)
  have HT1 := Lib.hid (swO_r od 0 m)
  have ml := meth_len
  have ms := meth_swap
  have mp := meth_pop
  clear h hI hH
  generalize swP pl od 0 m = pl1 at *
  generalize swO od 0 m = od1 at *
  go_enter Try.func33, Try.ntmps33
  go_wp2_with fail
  refine HL.out.mono ?_
  rintro e w' ⟨rfl, rfl⟩
  clear HL
  go_wp2_with fail
  refine HS.out.mono ?_
  rintro e w1 ⟨rfl, hq1, hk1⟩
  have HD : Hid (Calls Try.prog 36 #[.iface 58 (.pointer (some ⟨b, 0, none⟩)), .int .i64 0, .int .i64 m] w1 (DownPost b gs cs gp cp go co n (m + 1) m 0 sc pl1 od1 w1)) :=
    down_any w1 hq1 HI1.out hn (i0 := 0) (N := m) (by omega) (by omega) (by omega) HD1.out
  have HK1 := Lib.hid hk1
  clear hq1 hk1 HS
  go_wp2_with fail
  refine HD.out.mono ?_
  rintro e w2 ⟨pl2, od2, r, rfl, hq2, hk2, hi2, ha2, hh2, ht2, _⟩
  have hom : od2 m = od 0 := (ht2 m (Nat.le_refl m)).trans HT1.out
  have hp := pop_nat w2 hq2 hi2 hn
  have hi3 := pop_inv hi2
  rw [hom] at hp hi3
  have HP := Lib.hid hp
  have HE : Hid (∀ e w3, e = .returned (.iface 3 (.int .i64 (od 0 : Int))) → QAt w3 b gs cs gp cp go co n m sc (upd pl2 (od 0) (-1)) od2 → Kf (Foot b gs gp go) w2 w3 → TookPost b gs cs gp cp go co n m sc pl od w e w3) := fun e w3 he hq hk =>
    ⟨_, _, he, hq, (HK1.out.trans hk2 (fun _ h => .inl h)).trans hk (fun _ h => .inl h), hi3, hh2, fun v h1 h2 => by
      have := (HA1.out.trans ha2) v h1 h2
      by_cases ev : v = od 0
      · rw [ev, upd_at]; simp
      · rw [upd_ne _ _ ev, this]; simp [ev]⟩
  clear hq2 hk2 hi2 ha2 hh2 ht2 hom hp hi3 HD HD1 HI1 HA1 HT1 HK1
  go_wp2_with fail
  refine HP.out.mono ?_
  rintro e w3 ⟨rfl, hq3, hk3⟩
  have HE1 := Lib.hid (HE.out _ w3 rfl hq3 hk3)
  clear HE hq3 hk3 HP
  go_wp2_with fail
  go_ret
  exact HE1.out
end
end Go.Proofs.Ytffpggdbmfidcaa
