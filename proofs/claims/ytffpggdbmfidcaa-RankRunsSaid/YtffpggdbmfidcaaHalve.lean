/- The contracts of a Rank's Halve, Push, Pop. -/
import Derived.Test.YtffpggdbmfidcaaNewR
namespace Go.Proofs.Ytffpggdbmfidcaa
open Go.RowKit HeapM

section
variable {b gs cs gp cp go co n m : Nat} {sc pl : Nat → Int} {od : Nat → Nat}

/-- The loop's relation: the first k are halved. -/
def HalfRel (b gs cs gp cp go co n m : Nat) (sc pl : Nat → Int) (od : Nat → Nat) (w : World) (v : Value) (wr : World) : Prop :=
  ∃ k : Nat, v = .int .i64 (k : Int) ∧ k ≤ n + 1 ∧ QAt wr b gs cs gp cp go co n m (fun v => if v < k then sc v / 2 else sc v) pl od ∧ Kf (Foot b gs gp go) w wr
theorem step_half (sc : Nat → Int) (k j : Nat) : (if j < k + 1 then sc j / 2 else sc j) = upd (fun v : Nat => if v < k then sc v / 2 else sc v) k (sc k / 2) j := by
  simp only [upd]
  by_cases e : j = k
  · rw [if_pos e, if_pos (by omega), e]
  · rw [if_neg e]
    by_cases e' : j < k
    · rw [if_pos e', if_pos (by omega)]
    · rw [if_neg e', if_neg (by omega)]

set_option maxHeartbeats 6400000 in
set_option maxRecDepth 100000 in
theorem halve_nat (w : World) (h : QAt w b gs cs gp cp go co n m sc pl od) (hI : Inv n m pl od) (hn : n ≤ 1000) (hS : ∀ v, 0 ≤ sc v ∧ sc v ≤ 1152921504606846976) :
    Calls Try.prog 15 #[.pointer (some ⟨b, 0, none⟩)] w (UpPost b gs cs gp cp go co n m (fun v => sc v / 2) pl w) := by
  have HS : Hid (HalfRel b gs cs gp cp go co n m sc pl od w (.int .i64 0) w) := ⟨0, rfl, by omega, h.congr (fun j _ => if_neg (by omega)) (fun _ _ => rfl) (fun _ _ => rfl), Kf.refl _ _⟩
  have HI := Lib.hid hI
  have HSC := Lib.hid hS
  have c0 := h.h0
  clear h hI hS
  go_enter Try.func15, Try.ntmps15
  go_wp2_with fail
  go_loopw [9] (fun v wr => HalfRel b gs cs gp cp go co n m sc pl od w v wr) (fun v _ => n + 1 - (intOf v).toNat)
  case atStart => exact HS.out
  case round =>
    clear HS c0
    obtain ⟨k, rfl, hk, hq, hK⟩ := hrel
    by_cases hlt : k < n + 1
    · have c0 := hq.h0
      have cv := hq.scs.cell hlt
      have fv := hq.scs.free k
      rw [if_neg (by omega)] at cv
      have hx0 := (HSC.out k).1
      have hx1 := (HSC.out k).2
      have hq1 := hq.setS hlt (sc k / 2)
      have HR : Hid (HalfRel b gs cs gp cp go co n m sc pl od w (.int .i64 ((k + 1 : Nat) : Int)) (wr.setCell ⟨gs, k, none⟩ (.int .i64 (sc k / 2)))) :=
        ⟨k + 1, rfl, by omega, hq1.congr (fun j _ => step_half sc k j) (fun _ _ => rfl) (fun _ _ => rfl), hK.set (.inl (.inr (.inl rfl))) _⟩
      rw [show ((k + 1 : Nat) : Int) = (k : Int) + 1 from by omega] at HR
      clear hq hq1 hK
      generalize sc k = x at *
      go_wp2_with fail
      go_roundw
      case rel => exact HR.out
      case measure => simp [intOf]; omega
    · have hkn : k = n + 1 := by omega
      subst hkn
      have HIN := Lib.hid (init_any wr (hq.congr (sc' := fun v => sc v / 2) (fun j hj => by rw [if_pos hj]) (fun _ _ => rfl) (fun _ _ => rfl)) HI.out hn)
      have HK := Lib.hid hK
      clear hq hK
      go_wp2_with fail
      refine HIN.out.mono ?_
      rintro e w2 ⟨pl2, od2, rfl, hq2, hk2, r⟩
      have HE : Hid (UpPost b gs cs gp cp go co n m (fun v => sc v / 2) pl w (.returned (.tuple #[])) w2) := ⟨pl2, od2, rfl, hq2, HK.out.trans hk2 (fun _ h => .inl h), r⟩
      clear hq2 hk2 r HIN
      go_wp2_with fail
      go_end0
      exact HE.out

set_option maxHeartbeats 6400000 in
set_option maxRecDepth 100000 in
theorem push_new (w : World) (h : QAt w b gs cs gp cp go co n m sc pl od) (hI : Inv n m pl od) (hH : Hp sc od 0 m) (hn : n ≤ 1000) (v : Nat) (h1 : 1 ≤ v) (h2 : v ≤ n) (hp : pl v = -1) :
    Calls Try.prog 11 #[.pointer (some ⟨b, 0, none⟩), .int .i64 v] w fun e w' => e = .returned (.int .i64 0) ∧ PushedPost b gs cs gp cp go n m v sc pl w (.returned (.tuple #[])) w' := by
  have HH := Lib.hid (has_nat w h hn (v : Int))
  have HW := Lib.hid (waits_nat w h hn (v : Int))
  have HP := Lib.hid (pushed_any w h hI hn hH h1 h2 hp)
  rw [(inB_iff n (v : Int)).2 ⟨by omega, by omega⟩] at HH HW
  rw [show ((v : Int).toNat) = v from by omega, hp, show ((-1 : Int) != -1) = false from rfl] at HW
  clear h hI hH hp
  go_enter Try.func11, Try.ntmps11
  go_wp2_with fail
  refine HH.out.mono ?_
  rintro e w' ⟨rfl, rfl⟩
  go_wp2_with fail
  refine HW.out.mono ?_
  rintro e w' ⟨rfl, rfl⟩
  go_wp2_with fail
  refine HP.out.mono ?_
  rintro e w2 ⟨g2, c2, pl2, od2, rfl, r⟩
  have HE : Hid (PushedPost b gs cs gp cp go n m v sc pl w (.returned (.tuple #[])) w2) := ⟨g2, c2, pl2, od2, rfl, r⟩
  clear r HP HW HH
  go_wp2_with fail
  go_ret
  exact ⟨rfl, HE.out⟩
set_option maxHeartbeats 3200000 in
set_option maxRecDepth 100000 in
theorem push_old (w : World) (h : QAt w b gs cs gp cp go co n m sc pl od) (hn : n ≤ 1000) (v : Nat) (h1 : 1 ≤ v) (h2 : v ≤ n) (hp : pl v ≠ -1) :
    Calls Try.prog 11 #[.pointer (some ⟨b, 0, none⟩), .int .i64 v] w fun e w' => e = .returned (.int .i64 0) ∧ w = w' := by
  have HH := Lib.hid (has_nat w h hn (v : Int))
  have HW := Lib.hid (waits_nat w h hn (v : Int))
  rw [(inB_iff n (v : Int)).2 ⟨by omega, by omega⟩] at HH HW
  rw [show ((v : Int).toNat) = v from by omega, show (pl v != -1) = true from by rw [bne_iff_ne]; exact hp] at HW
  clear h hp
  go_enter Try.func11, Try.ntmps11
  go_wp2_with fail
  refine HH.out.mono ?_
  rintro e w' ⟨rfl, rfl⟩
  go_wp2_with fail
  refine HW.out.mono ?_
  rintro e w' ⟨rfl, rfl⟩
  go_wp2_with fail
  go_ret
  exact ⟨rfl, rfl⟩
set_option maxHeartbeats 3200000 in
set_option maxRecDepth 100000 in
theorem push_bad (w : World) (h : QAt w b gs cs gp cp go co n m sc pl od) (hn : n ≤ 1000) (v : Int) (hb : inB n v = false) :
    Calls Try.prog 11 #[.pointer (some ⟨b, 0, none⟩), .int .i64 v] w fun e w' => e = .returned (.int .i64 31) ∧ w = w' := by
  have HH := Lib.hid (has_nat w h hn v)
  rw [hb] at HH
  clear h hb
  go_enter Try.func11, Try.ntmps11
  go_wp2_with fail
  refine HH.out.mono ?_
  rintro e w' ⟨rfl, rfl⟩
  go_wp2_with fail
  go_ret
  exact ⟨rfl, rfl⟩

set_option maxHeartbeats 3200000 in
set_option maxRecDepth 100000 in
theorem pop_none (w : World) (h : QAt w b gs cs gp cp go co n 0 sc pl od) :
    Calls Try.prog 18 #[.pointer (some ⟨b, 0, none⟩)] w fun e w' => e = .returned (.tuple #[.int .i64 0, .bool false]) ∧ w = w' := by
  have HL := Lib.hid (len_nat w h)
  rw [show ((0 : Nat) : Int) = 0 from rfl] at HL
  clear h
  go_enter Try.func18, Try.ntmps18
  go_wp2_with fail
  refine HL.out.mono ?_
  rintro e w' ⟨rfl, rfl⟩
  go_wp2_with fail
  go_ret2
  exact ⟨rfl, rfl⟩
set_option maxHeartbeats 3200000 in
set_option maxRecDepth 100000 in
theorem pop_some (w : World) (h : QAt w b gs cs gp cp go co n (m + 1) sc pl od) (hI : Inv n (m + 1) pl od) (hH : Hp sc od 0 (m + 1)) (hn : n ≤ 1000) :
    Calls Try.prog 18 #[.pointer (some ⟨b, 0, none⟩)] w fun e w' => e = .returned (.tuple #[.int .i64 (od 0 : Int), .bool true]) ∧ TookPost b gs cs gp cp go co n m sc pl od w (.returned (.iface 3 (.int .i64 (od 0 : Int)))) w' := by
  have HL := Lib.hid (len_nat w h)
  have HT := Lib.hid (take_any w h hI hn hH)
  have ta := int_of_any
  have hz : (((m + 1 : Nat) : Int) == 0) = false := by rw [beq_eq_false_iff_ne]; omega
  clear h hI hH
  generalize ((m + 1 : Nat) : Int) = mm at *
  go_enter Try.func18, Try.ntmps18
  go_wp2_with fail
  refine HL.out.mono ?_
  rintro e w' ⟨rfl, rfl⟩
  go_wp2_with fail
  refine HT.out.mono ?_
  rintro e w2 ⟨pl2, od2, rfl, r⟩
  have HE : Hid (TookPost b gs cs gp cp go co n m sc pl od w (.returned (.iface 3 (.int .i64 (od 0 : Int)))) w2) := ⟨pl2, od2, rfl, r⟩
  clear r HT HL
  go_wp2_with fail
  go_ret2
  exact ⟨rfl, HE.out⟩
end
end Go.Proofs.Ytffpggdbmfidcaa
