/- The contracts of container/heap's down and up over a queue. -/
import Derived.Test.YtffpggdbmfidcaaQMeth
import Derived.Deep.RegionWith
namespace Go.Proofs.Ytffpggdbmfidcaa
open Go.RowKit HeapM

section
variable {b gs cs gp cp go co n m : Nat} {sc pl : Nat → Int} {od : Nat → Nat}

theorem less_any (w : World) (h : QAt w b gs cs gp cp go co n m sc pl od) (hI : Inv n m pl od) (hn : n ≤ 1000) (i k : Int) (hi0 : 0 ≤ i) (hi : i < m) (hk0 : 0 ≤ k) (hk : k < m) :
    Calls Try.prog 54 #[.pointer (some ⟨b, 0, none⟩), .int .i64 i, .int .i64 k] w fun e w' => e = .returned (.bool (lessB sc (od i.toNat) (od k.toNat))) ∧ ∃ q, w' = w.drewN q := by
  obtain ⟨i, rfl⟩ := Int.eq_ofNat_of_zero_le hi0
  obtain ⟨k, rfl⟩ := Int.eq_ofNat_of_zero_le hk0
  exact less_nat w h hI hn (by omega) (by omega)


theorem swap_same (w : World) (h : QAt w b gs cs gp cp go co n m sc pl od) (hI : Inv n m pl od) (hn : n ≤ 1000) (i k : Int) (hi0 : 0 ≤ i) (hi : i < m) (hk0 : 0 ≤ k) (hk : k < m) :
    Calls Try.prog 57 #[.pointer (some ⟨b, 0, none⟩), .int .i64 i, .int .i64 k] w fun e w' => e = .returned (.tuple #[]) ∧ QAt w' b gs cs gp cp go co n m sc (swP pl od i.toNat k.toNat) (swO od i.toNat k.toNat) ∧ Kf (Foot b gs gp go) w w' := by
  obtain ⟨i, rfl⟩ := Int.eq_ofNat_of_zero_le hi0
  obtain ⟨k, rfl⟩ := Int.eq_ofNat_of_zero_le hk0
  exact swap_nat w h hI hn (by omega) (by omega)

theorem meth_less (a : Addr) (w : World) : (method 186 58 (.pointer (some a)) "Less").run Try.prog w = .ok (54, .pointer (some a)) w := by kernel_rfl
theorem meth_swap (a : Addr) (w : World) : (method 186 58 (.pointer (some a)) "Swap").run Try.prog w = .ok (57, .pointer (some a)) w := by kernel_rfl
theorem meth_len (a : Addr) (w : World) : (method 186 58 (.pointer (some a)) "Len").run Try.prog w = .ok (35, .pointer (some a)) w := by kernel_rfl
theorem meth_push (a : Addr) (w : World) : (method 186 58 (.pointer (some a)) "Push").run Try.prog w = .ok (56, .pointer (some a)) w := by kernel_rfl
theorem meth_pop (a : Addr) (w : World) : (method 186 58 (.pointer (some a)) "Pop").run Try.prog w = .ok (55, .pointer (some a)) w := by kernel_rfl

theorem fine_stop {N i : Nat} (h : N ≤ 2 * i + 1) : Fine sc od N i := fun c h1 h2 h3 => by omega
/-- The children of i: the better one. -/
theorem fine_one {N i : Nat} (h : N ≤ 2 * i + 2) (hl : lessB sc (od (2 * i + 1)) (od i) = false) : Fine sc od N i := fun c h1 h2 h3 => by
  have : c = 2 * i + 1 := by omega
  subst this; exact lessB_no hl
theorem fine_left {N i : Nat} (hb : lessB sc (od (2 * i + 2)) (od (2 * i + 1)) = false) (hl : lessB sc (od (2 * i + 1)) (od i) = false) : Fine sc od N i := fun c h1 h2 h3 => by
  rcases (show c = 2 * i + 1 ∨ c = 2 * i + 2 by omega) with e | e <;> subst e
  · exact lessB_no hl
  · exact le_trans (lessB_no hl) (lessB_no hb)
theorem fine_right {N i : Nat} (hb : lessB sc (od (2 * i + 2)) (od (2 * i + 1)) = true) (hl : lessB sc (od (2 * i + 2)) (od i) = false) : Fine sc od N i := fun c h1 h2 h3 => by
  rcases (show c = 2 * i + 1 ∨ c = 2 * i + 2 by omega) with e | e <;> subst e
  · exact le_trans (lessB_no hl) (lessB_yes hb)
  · exact lessB_no hl

/-- What down leaves: from place i0 on all is in order among the first N; the places from N on are as they were; if nothing was to be done, nothing was done. -/
def DownPost (b gs cs gp cp go co n m N i0 : Nat) (sc pl : Nat → Int) (od : Nat → Nat) (w : World) (e : Ending) (w' : World) : Prop :=
  ∃ (pl' : Nat → Int) (od' : Nat → Nat) (r : Bool), e = .returned (.bool r) ∧ QAt w' b gs cs gp cp go co n m sc pl' od' ∧ Kf (Foot b gs gp go) w w' ∧ Inv n m pl' od' ∧ SameW n pl pl' ∧ Hp sc od' i0 N ∧ (∀ c, N ≤ c → od' c = od c) ∧ (Fine sc od N i0 → r = false ∧ od' = od ∧ pl' = pl)

/-- The loop's relation. -/
def DownRel (b gs cs gp cp go co n m N i0 : Nat) (sc pl : Nat → Int) (od : Nat → Nat) (w : World) (v : Value) (wr : World) : Prop :=
  ∃ (i : Nat) (pl' : Nat → Int) (od' : Nat → Nat), v = .int .i64 (i : Int) ∧ i0 ≤ i ∧ i < m ∧ i ≤ N ∧ QAt wr b gs cs gp cp go co n m sc pl' od' ∧ Kf (Foot b gs gp go) w wr ∧ Inv n m pl' od' ∧ SameW n pl pl' ∧ Dn sc od' i0 N i ∧ (∀ c, N ≤ c → od' c = od c) ∧ (Fine sc od N i0 → i = i0 ∧ od' = od ∧ pl' = pl)

theorem down_end {N i0 i : Nat} {pl' : Nat → Int} {od' : Nat → Nat} {w wr : World} (hQ : QAt wr b gs cs gp cp go co n m sc pl' od') (hK : Kf (Foot b gs gp go) w wr) (hI : Inv n m pl' od')
    (hA : SameW n pl pl') (hD : Dn sc od' i0 N i) (hT : ∀ c, N ≤ c → od' c = od c) (hN : Fine sc od N i0 → i = i0 ∧ od' = od ∧ pl' = pl) (hF : Fine sc od' N i) :
    DownPost b gs cs gp cp go co n m N i0 sc pl od w (.returned (.bool (decide (i0 < i)))) wr :=
  ⟨pl', od', _, rfl, hQ, hK, hI, hA, hD.stop hF, hT, fun h => by
    obtain ⟨e1, e2, e3⟩ := hN h
    exact ⟨by rw [e1]; simp, e2, e3⟩⟩

theorem down_next {N i0 i j : Nat} {pl' : Nat → Int} {od' : Nat → Nat} {w wr w2 : World} (h0 : i0 ≤ i) (hjN : j < N) (hNm : N ≤ m) (hQ : QAt w2 b gs cs gp cp go co n m sc (swP pl' od' i j) (swO od' i j)) (hK : Kf (Foot b gs gp go) w wr) (hK2 : Kf (Foot b gs gp go) wr w2)
    (hI : Inv n m pl' od') (hA : SameW n pl pl') (hD : Dn sc od' i0 N i) (hT : ∀ c, N ≤ c → od' c = od c) (hN : Fine sc od N i0 → i = i0 ∧ od' = od ∧ pl' = pl)
    (hc : 1 ≤ j ∧ (j - 1) / 2 = i) (hb : ∀ c, 1 ≤ c → c < N → (c - 1) / 2 = i → le sc (od' j) (od' c)) (hl : lessB sc (od' j) (od' i) = true) :
    DownRel b gs cs gp cp go co n m N i0 sc pl od w (.int .i64 (j : Int)) w2 := by
  have hi : i < m := by omega
  have hne : i ≠ j := by omega
  refine ⟨j, _, _, rfl, by omega, by omega, by omega, hQ, hK.trans hK2 (fun _ h => .inl h), swap_any hI hi (by omega), hA.trans (swap_alike hI hi (by omega)), hD.step h0 hjN hc hb (lessB_yes hl), fun c hc' => ?_, fun hf => ?_⟩
  · rw [swO_ne _ (by omega) (by omega)]; exact hT c hc'
  · obtain ⟨e1, e2, e3⟩ := hN hf
    subst e1; subst e2
    have a := hf j hc.1 hjN hc.2
    rw [le_no a] at hl; cases hl

set_option maxHeartbeats 6400000 in
set_option maxRecDepth 100000 in
theorem down_any (w : World) (h : QAt w b gs cs gp cp go co n m sc pl od) (hI : Inv n m pl od) (hn : n ≤ 1000) {i0 N : Nat} (hi : i0 < m) (hN : N ≤ m) (hiN : i0 ≤ N) (hD : Dn sc od i0 N i0) :
    Calls Try.prog 36 #[.iface 58 (.pointer (some ⟨b, 0, none⟩)), .int .i64 i0, .int .i64 N] w (DownPost b gs cs gp cp go co n m N i0 sc pl od w) := by
  have hml := hI.le
  have HS : Hid (DownRel b gs cs gp cp go co n m N i0 sc pl od w (.int .i64 (i0 : Int)) w) := ⟨i0, pl, od, rfl, Nat.le_refl _, hi, hiN, h, Kf.refl _ _, hI, SameW.refl _ _, hD, fun _ _ => rfl, fun _ => ⟨rfl, rfl, rfl⟩⟩
  clear h hI hD
  have ml := meth_less
  have ms := meth_swap
  go_enter Try.func36, Try.ntmps36
  go_wp2_with fail
  go_loopw [7] (fun v wr => DownRel b gs cs gp cp go co n m N i0 sc pl od w v wr) (fun v _ => N - (intOf v).toNat)
  case atStart => exact HS.out
  case round =>
    clear HS
    obtain ⟨i, pl', od', rfl, h0, him, hiN', hQ, hK, hI, hA, hD, hT, hF⟩ := hrel
    have HQ := Lib.hid hQ
    have HK := Lib.hid hK
    have HI := Lib.hid hI
    have HA := Lib.hid hA
    have HD := Lib.hid hD
    have HT := Lib.hid hT
    have HF := Lib.hid hF
    clear hQ hK hI hA hD hT hF
    by_cases h1 : 2 * i + 1 < N
    · have t0 : ((2 * (i : Int) + 1).toNat) = 2 * i + 1 := by omega
      have t1 : ((2 * (i : Int) + 1 + 1).toNat) = 2 * i + 2 := by omega
      have t2 : ((i : Int).toNat) = i := by omega
      have g0 : decide ((N : Int) ≤ 2 * (i : Int) + 1) = false := decide_eq_false (by omega)
      by_cases h2 : 2 * i + 2 < N
      · have L2 := less_any wr HQ.out HI.out hn (2 * (i : Int) + 1 + 1) (2 * (i : Int) + 1) (by omega) (by omega) (by omega) (by omega)
        rw [t0, t1] at L2
        have g2 : decide (2 * (i : Int) + 1 + 1 < (N : Int)) = true := decide_eq_true (by omega)
        by_cases b1 : lessB sc (od' (2 * i + 2)) (od' (2 * i + 1)) = true
        · rw [b1] at L2
          have L4 := fun q => less_any (wr.drewN q) (HQ.out.drewN q) HI.out hn (2 * (i : Int) + 1 + 1) i (by omega) (by omega) (by omega) (by omega)
          rw [t1, t2] at L4
          by_cases b2 : lessB sc (od' (2 * i + 2)) (od' i) = true
          · have HSW : Hid (∀ q, Calls Try.prog 57 #[.pointer (some ⟨b, 0, none⟩), .int .i64 i, .int .i64 (2 * (i : Int) + 1 + 1)] (wr.drewN q) fun e w' => e = .returned (.tuple #[]) ∧ DownRel b gs cs gp cp go co n m N i0 sc pl od w (.int .i64 (2 * (i : Int) + 1 + 1)) w') := fun q => by
              refine (swap_same (wr.drewN q) (HQ.out.drewN q) HI.out hn i (2 * (i : Int) + 1 + 1) (by omega) (by omega) (by omega) (by omega)).mono ?_
              rintro e w2 ⟨rfl, hq2, hk2⟩
              rw [t2, t1] at hq2
              refine ⟨rfl, ?_⟩
              have := down_next h0 (j := 2 * i + 2) (by omega) hN hq2 (HK.out.drewN q) hk2 HI.out HA.out HD.out HT.out HF.out (by omega) (fun c c1 c2 c3 => by
                rcases (show c = 2 * i + 1 ∨ c = 2 * i + 2 by omega) with e | e <;> subst e
                · exact lessB_yes b1
                · exact le_refl _ _) b2
              rwa [show (((2 * i + 2 : Nat)) : Int) = 2 * (i : Int) + 1 + 1 from by omega] at this
            simp only [b2] at L4
            clear HQ HK HI HA HD HT HF t0 t1 t2 b2
            go_wp2_with fail
            refine L2.mono ?_
            rintro e w1 ⟨rfl, q1, rfl⟩
            clear L2
            go_wp2_with fail
            refine (L4 _).mono ?_
            rintro e w2 ⟨rfl, q2, rfl⟩
            go_wp2_with fail
            try simp only [World.drewN_drewN]
            refine (HSW.out _).mono ?_
            rintro e w3 ⟨rfl, hr⟩
            go_wp2_with fail
            go_roundw
            case rel => exact hr
            case measure => simp [intOf]; omega
          · have b2' : lessB sc (od' (2 * i + 2)) (od' i) = false := by simpa using b2
            have HE : Hid (∀ q, DownPost b gs cs gp cp go co n m N i0 sc pl od w (.returned (.bool (decide (i0 < i)))) (wr.drewN q)) := fun q =>
              down_end (HQ.out.drewN q) (HK.out.drewN q) HI.out HA.out HD.out HT.out HF.out (fine_right b1 b2')
            simp only [b2'] at L4
            clear HQ HK HI HA HD HT HF t0 t1 t2 b2 b2'
            go_wp2_with fail
            refine L2.mono ?_
            rintro e w1 ⟨rfl, q1, rfl⟩
            clear L2
            go_wp2_with fail
            refine (L4 _).mono ?_
            rintro e w2 ⟨rfl, q2, rfl⟩
            go_wp2_with fail
            try simp only [World.drewN_drewN]
            go_ret
            exact HE.out _
        · have b1' : lessB sc (od' (2 * i + 2)) (od' (2 * i + 1)) = false := by simpa using b1
          rw [b1'] at L2
          have L4 := fun q => less_any (wr.drewN q) (HQ.out.drewN q) HI.out hn (2 * (i : Int) + 1) i (by omega) (by omega) (by omega) (by omega)
          rw [t0, t2] at L4
          by_cases b2 : lessB sc (od' (2 * i + 1)) (od' i) = true
          · have HSW : Hid (∀ q, Calls Try.prog 57 #[.pointer (some ⟨b, 0, none⟩), .int .i64 i, .int .i64 (2 * (i : Int) + 1)] (wr.drewN q) fun e w' => e = .returned (.tuple #[]) ∧ DownRel b gs cs gp cp go co n m N i0 sc pl od w (.int .i64 (2 * (i : Int) + 1)) w') := fun q => by
              refine (swap_same (wr.drewN q) (HQ.out.drewN q) HI.out hn i (2 * (i : Int) + 1) (by omega) (by omega) (by omega) (by omega)).mono ?_
              rintro e w2 ⟨rfl, hq2, hk2⟩
              rw [t2, t0] at hq2
              refine ⟨rfl, ?_⟩
              have := down_next h0 (j := 2 * i + 1) (by omega) hN hq2 (HK.out.drewN q) hk2 HI.out HA.out HD.out HT.out HF.out (by omega) (fun c c1 c2 c3 => by
                rcases (show c = 2 * i + 1 ∨ c = 2 * i + 2 by omega) with e | e <;> subst e
                · exact le_refl _ _
                · exact lessB_no b1') b2
              rwa [show (((2 * i + 1 : Nat)) : Int) = 2 * (i : Int) + 1 from by omega] at this
            simp only [b2] at L4
            clear HQ HK HI HA HD HT HF t0 t1 t2 b2
            go_wp2_with fail
            refine L2.mono ?_
            rintro e w1 ⟨rfl, q1, rfl⟩
            clear L2
            go_wp2_with fail
            refine (L4 _).mono ?_
            rintro e w2 ⟨rfl, q2, rfl⟩
            go_wp2_with fail
            try simp only [World.drewN_drewN]
            refine (HSW.out _).mono ?_
            rintro e w3 ⟨rfl, hr⟩
            go_wp2_with fail
            go_roundw
            case rel => exact hr
            case measure => simp [intOf]; omega
          · have b2' : lessB sc (od' (2 * i + 1)) (od' i) = false := by simpa using b2
            have HE : Hid (∀ q, DownPost b gs cs gp cp go co n m N i0 sc pl od w (.returned (.bool (decide (i0 < i)))) (wr.drewN q)) := fun q =>
              down_end (HQ.out.drewN q) (HK.out.drewN q) HI.out HA.out HD.out HT.out HF.out (fine_left b1' b2')
            simp only [b2'] at L4
            clear HQ HK HI HA HD HT HF t0 t1 t2 b2 b2'
            go_wp2_with fail
            refine L2.mono ?_
            rintro e w1 ⟨rfl, q1, rfl⟩
            clear L2
            go_wp2_with fail
            refine (L4 _).mono ?_
            rintro e w2 ⟨rfl, q2, rfl⟩
            go_wp2_with fail
            try simp only [World.drewN_drewN]
            go_ret
            exact HE.out _
      · have g2 : decide (2 * (i : Int) + 1 + 1 < (N : Int)) = false := decide_eq_false (by omega)
        have L4 := less_any wr HQ.out HI.out hn (2 * (i : Int) + 1) i (by omega) (by omega) (by omega) (by omega)
        rw [t0, t2] at L4
        by_cases b2 : lessB sc (od' (2 * i + 1)) (od' i) = true
        · have HSW : Hid (∀ q, Calls Try.prog 57 #[.pointer (some ⟨b, 0, none⟩), .int .i64 i, .int .i64 (2 * (i : Int) + 1)] (wr.drewN q) fun e w' => e = .returned (.tuple #[]) ∧ DownRel b gs cs gp cp go co n m N i0 sc pl od w (.int .i64 (2 * (i : Int) + 1)) w') := fun q => by
            refine (swap_same (wr.drewN q) (HQ.out.drewN q) HI.out hn i (2 * (i : Int) + 1) (by omega) (by omega) (by omega) (by omega)).mono ?_
            rintro e w2 ⟨rfl, hq2, hk2⟩
            rw [t2, t0] at hq2
            refine ⟨rfl, ?_⟩
            have := down_next h0 (j := 2 * i + 1) (by omega) hN hq2 (HK.out.drewN q) hk2 HI.out HA.out HD.out HT.out HF.out (by omega) (fun c c1 c2 c3 => by
              obtain rfl : c = 2 * i + 1 := by omega
              exact le_refl _ _) b2
            rwa [show (((2 * i + 1 : Nat)) : Int) = 2 * (i : Int) + 1 from by omega] at this
          simp only [b2] at L4
          clear HQ HK HI HA HD HT HF t0 t1 t2 b2
          go_wp2_with fail
          refine L4.mono ?_
          rintro e w2 ⟨rfl, q2, rfl⟩
          go_wp2_with fail
          try simp only [World.drewN_drewN]
          refine (HSW.out _).mono ?_
          rintro e w3 ⟨rfl, hr⟩
          go_wp2_with fail
          go_roundw
          case rel => exact hr
          case measure => simp [intOf]; omega
        · have b2' : lessB sc (od' (2 * i + 1)) (od' i) = false := by simpa using b2
          have HE : Hid (∀ q, DownPost b gs cs gp cp go co n m N i0 sc pl od w (.returned (.bool (decide (i0 < i)))) (wr.drewN q)) := fun q =>
            down_end (HQ.out.drewN q) (HK.out.drewN q) HI.out HA.out HD.out HT.out HF.out (fine_one (by omega) b2')
          simp only [b2'] at L4
          clear HQ HK HI HA HD HT HF t0 t1 t2 b2 b2'
          go_wp2_with fail
          refine L4.mono ?_
          rintro e w2 ⟨rfl, q2, rfl⟩
          go_wp2_with fail
          try simp only [World.drewN_drewN]
          go_ret
          exact HE.out _
    · have HE := Lib.hid (down_end HQ.out HK.out HI.out HA.out HD.out HT.out HF.out (fine_stop (by omega)))
      clear HQ HK HI HA HD HT HF
      go_wp2_with fail
      go_ret
      exact HE.out
end
end Go.Proofs.Ytffpggdbmfidcaa
