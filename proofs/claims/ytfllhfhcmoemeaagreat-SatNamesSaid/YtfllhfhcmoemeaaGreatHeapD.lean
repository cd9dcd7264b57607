/- The contracts of container/heap's down and up over a queue. The contract of container/heap's up over a queue. The contracts of container/heap's Fix, Init and Pop over a queue. append of one number to a row of the queue's own; the contracts of the queue's Push and add, of container/heap's Push. -/
import Derived.Test.YtfllhfhcmoemeaaGreatQue
import Derived.Deep.RegionWith
namespace Go.Proofs.YtfllhfhcmoemeaaGreat
open Go.RowKit HeapM

section
variable {b gs cs gp cp go co n m : Nat} {sc pl : Nat → Int} {od : Nat → Nat}

theorem less_any (w : World) (h : QAt w b gs cs gp cp go co n m sc pl od) (hI : Inv n m pl od) (hn : n ≤ 1000) (i k : Int) (hi0 : 0 ≤ i) (hi : i < m) (hk0 : 0 ≤ k) (hk : k < m) :
    Calls Tryz.prog 195 #[.pointer (some ⟨b, 0, none⟩), .int .i64 i, .int .i64 k] w fun e w' => e = .returned (.bool (lessB sc (od i.toNat) (od k.toNat))) ∧ ∃ q, w' = w.drewN q := by
  obtain ⟨i, rfl⟩ := Int.eq_ofNat_of_zero_le hi0
  obtain ⟨k, rfl⟩ := Int.eq_ofNat_of_zero_le hk0
  exact less_nat w h hI hn (by omega) (by omega)


theorem swap_same (w : World) (h : QAt w b gs cs gp cp go co n m sc pl od) (hI : Inv n m pl od) (hn : n ≤ 1000) (i k : Int) (hi0 : 0 ≤ i) (hi : i < m) (hk0 : 0 ≤ k) (hk : k < m) :
    Calls Tryz.prog 198 #[.pointer (some ⟨b, 0, none⟩), .int .i64 i, .int .i64 k] w fun e w' => e = .returned (.tuple #[]) ∧ QAt w' b gs cs gp cp go co n m sc (swP pl od i.toNat k.toNat) (swO od i.toNat k.toNat) ∧ Kf (Foot b gs gp go) w w' := by
  obtain ⟨i, rfl⟩ := Int.eq_ofNat_of_zero_le hi0
  obtain ⟨k, rfl⟩ := Int.eq_ofNat_of_zero_le hk0
  exact swap_nat w h hI hn (by omega) (by omega)

theorem meth_less (a : Addr) (w : World) : (method 325 106 (.pointer (some a)) "Less").run Tryz.prog w = .ok (195, .pointer (some a)) w := by kernel_rfl
theorem meth_swap (a : Addr) (w : World) : (method 325 106 (.pointer (some a)) "Swap").run Tryz.prog w = .ok (198, .pointer (some a)) w := by kernel_rfl
theorem meth_len (a : Addr) (w : World) : (method 325 106 (.pointer (some a)) "Len").run Tryz.prog w = .ok (142, .pointer (some a)) w := by kernel_rfl
theorem meth_push (a : Addr) (w : World) : (method 325 106 (.pointer (some a)) "Push").run Tryz.prog w = .ok (197, .pointer (some a)) w := by kernel_rfl
theorem meth_pop (a : Addr) (w : World) : (method 325 106 (.pointer (some a)) "Pop").run Tryz.prog w = .ok (196, .pointer (some a)) w := by kernel_rfl

theorem fine_stop {N i : Nat} (h : N ≤ 2 * i + 1) : Fine sc od N i := fun c h1 h2 h3 => by omega
/-- The children of i: the better one. -/
theorem fine_one {N i : Nat} (h : N ≤ 2 * i + 2) (hl : lessB sc (od (2 * i + 1)) (od i) = false) : Fine sc od N i := fun c h1 h2 h3 => by
  have : c = 2 * i + 1 := by omega
  subst this; exact lessB_no hl
theorem fine_left {N i : Nat} (hb : lessB sc (od (2 * i + 2)) (od (2 * i + 1)) = false) (hl : lessB sc (od (2 * i + 1)) (od i) = false) : Fine sc od N i := fun c h1 h2 h3 => by
  rcases (show c = 2 * i + 1 ∨ c = 2 * i + 2 by omega) with e | e <;> subst e
  · exact lessB_no hl
  · exact le_trans (lessB_no hl) (lessB_no hb)
theorem fine_right {N i : Nat} (hb : lessB sc (od (2 * i + 2)) (od (2 * i + 1)) = true) (hl : lessB sc (od (2 * i + 2)) (od i) = false) : Fine sc od N i := fun c h1 h2 h3 => by
  rcases (show c = 2 * i + 1 ∨ c = 2 * i + 2 by omega) with e | e <;> subst e
  · exact le_trans (lessB_no hl) (lessB_yes hb)
  · exact lessB_no hl

/-- What down leaves: from place i0 on all is in order among the first N; the places from N on are as they were; if nothing was to be done, nothing was done. -/
def DownPost (b gs cs gp cp go co n m N i0 : Nat) (sc pl : Nat → Int) (od : Nat → Nat) (w : World) (e : Ending) (w' : World) : Prop :=
  ∃ (pl' : Nat → Int) (od' : Nat → Nat) (r : Bool), e = .returned (.bool r) ∧ QAt w' b gs cs gp cp go co n m sc pl' od' ∧ Kf (Foot b gs gp go) w w' ∧ Inv n m pl' od' ∧ SameW n pl pl' ∧ Hp sc od' i0 N ∧ (∀ c, N ≤ c → od' c = od c) ∧ (Fine sc od N i0 → r = false ∧ od' = od ∧ pl' = pl)

/-- The loop's relation. -/
def DownRel (b gs cs gp cp go co n m N i0 : Nat) (sc pl : Nat → Int) (od : Nat → Nat) (w : World) (v : Value) (wr : World) : Prop :=
  ∃ (i : Nat) (pl' : Nat → Int) (od' : Nat → Nat), v = .int .i64 (i : Int) ∧ i0 ≤ i ∧ i < m ∧ i ≤ N ∧ QAt wr b gs cs gp cp go co n m sc pl' od' ∧ Kf (Foot b gs gp go) w wr ∧ Inv n m pl' od' ∧ SameW n pl pl' ∧ Dn sc od' i0 N i ∧ (∀ c, N ≤ c → od' c = od c) ∧ (Fine sc od N i0 → i = i0 ∧ od' = od ∧ pl' = pl)

theorem down_end {N i0 i : Nat} {pl' : Nat → Int} {od' : Nat → Nat} {w wr : World} (hQ : QAt wr b gs cs gp cp go co n m sc pl' od') (hK : Kf (Foot b gs gp go) w wr) (hI : Inv n m pl' od')
    (hA : SameW n pl pl') (hD : Dn sc od' i0 N i) (hT : ∀ c, N ≤ c → od' c = od c) (hN : Fine sc od N i0 → i = i0 ∧ od' = od ∧ pl' = pl) (hF : Fine sc od' N i) :
    DownPost b gs cs gp cp go co n m N i0 sc pl od w (.returned (.bool (decide (i0 < i)))) wr :=
  ⟨pl', od', _, rfl, hQ, hK, hI, hA, hD.stop hF, hT, fun h => by
    obtain ⟨e1, e2, e3⟩ := hN h
    exact ⟨by rw [e1]; simp, e2, e3⟩⟩

theorem down_next {N i0 i j : Nat} {pl' : Nat → Int} {od' : Nat → Nat} {w wr w2 : World} (h0 : i0 ≤ i) (hjN : j < N) (hNm : N ≤ m) (hQ : QAt w2 b gs cs gp cp go co n m sc (swP pl' od' i j) (swO od' i j)) (hK : Kf (Foot b gs gp go) w wr) (hK2 : Kf (Foot b gs gp go) wr w2)
    (hI : Inv n m pl' od') (hA : SameW n pl pl') (hD : Dn sc od' i0 N i) (hT : ∀ c, N ≤ c → od' c = od c) (hN : Fine sc od N i0 → i = i0 ∧ od' = od ∧ pl' = pl)
    (hc : 1 ≤ j ∧ (j - 1) / 2 = i) (hb : ∀ c, 1 ≤ c → c < N → (c - 1) / 2 = i → le sc (od' j) (od' c)) (hl : lessB sc (od' j) (od' i) = true) :
    DownRel b gs cs gp cp go co n m N i0 sc pl od w (.int .i64 (j : Int)) w2 := by
  have hi : i < m := by omega
  have hne : i ≠ j := by omega
  refine ⟨j, _, _, rfl, by omega, by omega, by omega, hQ, hK.trans hK2 (fun _ h => .inl h), swap_any hI hi (by omega), hA.trans (swap_alike hI hi (by omega)), hD.step h0 hjN hc hb (lessB_yes hl), fun c hc' => ?_, fun hf => ?_⟩
  · rw [swO_ne _ (by omega) (by omega)]; exact hT c hc'
  · obtain ⟨e1, e2, e3⟩ := hN hf
    subst e1; subst e2
    have a := hf j hc.1 hjN hc.2
    rw [le_no a] at hl; cases hl

set_option maxHeartbeats 6400000 in
set_option maxRecDepth 100000 in
theorem down_any (w : World) (h : QAt w b gs cs gp cp go co n m sc pl od) (hI : Inv n m pl od) (hn : n ≤ 1000) {i0 N : Nat} (hi : i0 < m) (hN : N ≤ m) (hiN : i0 ≤ N) (hD : Dn sc od i0 N i0) :
    Calls Tryz.prog 143 #[.iface 106 (.pointer (some ⟨b, 0, none⟩)), .int .i64 i0, .int .i64 N] w (DownPost b gs cs gp cp go co n m N i0 sc pl od w) := by
  have hml := hI.le
  have HS : Hid (DownRel b gs cs gp cp go co n m N i0 sc pl od w (.int .i64 (i0 : Int)) w) := ⟨i0, pl, od, rfl, Nat.le_refl _, hi, hiN, h, Kf.refl _ _, hI, SameW.refl _ _, hD, fun _ _ => rfl, fun _ => ⟨rfl, rfl, rfl⟩⟩
  clear h hI hD
  have ml := meth_less
  have ms := meth_swap
  go_enter Tryz.func143, Tryz.ntmps143
  go_wp2_with fail
  go_loopw [7] (fun v wr => DownRel b gs cs gp cp go co n m N i0 sc pl od w v wr) (fun v _ => N - (intOf v).toNat)
  case atStart => exact HS.out
  case round =>
    clear HS
    obtain ⟨i, pl', od', rfl, h0, him, hiN', hQ, hK, hI, hA, hD, hT, hF⟩ := hrel
    have HQ := Lib.hid hQ
    have HK := Lib.hid hK
    have HI := Lib.hid hI
    have HA := Lib.hid hA
    have HD := Lib.hid hD
    have HT := Lib.hid hT
    have HF := Lib.hid hF
    clear hQ hK hI hA hD hT hF
    by_cases h1 : 2 * i + 1 < N
    · have t0 : ((2 * (i : Int) + 1).toNat) = 2 * i + 1 := by omega
      have t1 : ((2 * (i : Int) + 1 + 1).toNat) = 2 * i + 2 := by omega
      have t2 : ((i : Int).toNat) = i := by omega
      have g0 : decide ((N : Int) ≤ 2 * (i : Int) + 1) = false := decide_eq_false (by omega)
      by_cases h2 : 2 * i + 2 < N
      · have L2 := less_any wr HQ.out HI.out hn (2 * (i : Int) + 1 + 1) (2 * (i : Int) + 1) (by omega) (by omega) (by omega) (by omega)
        rw [t0, t1] at L2
        have g2 : decide (2 * (i : Int) + 1 + 1 < (N : Int)) = true := decide_eq_true (by omega)
        by_cases b1 : lessB sc (od' (2 * i + 2)) (od' (2 * i + 1)) = true
        · rw [b1] at L2
          have L4 := fun q => less_any (wr.drewN q) (HQ.out.drewN q) HI.out hn (2 * (i : Int) + 1 + 1) i (by omega) (by omega) (by omega) (by omega)
          rw [t1, t2] at L4
          by_cases b2 : lessB sc (od' (2 * i + 2)) (od' i) = true
          · have HSW : Hid (∀ q, Calls Tryz.prog 198 #[.pointer (some ⟨b, 0, none⟩), .int .i64 i, .int .i64 (2 * (i : Int) + 1 + 1)] (wr.drewN q) fun e w' => e = .returned (.tuple #[]) ∧ DownRel b gs cs gp cp go co n m N i0 sc pl od w (.int .i64 (2 * (i : Int) + 1 + 1)) w') := fun q => by
              refine (swap_same (wr.drewN q) (HQ.out.drewN q) HI.out hn i (2 * (i : Int) + 1 + 1) (by omega) (by omega) (by omega) (by omega)).mono ?_
              rintro e w2 ⟨rfl, hq2, hk2⟩
              rw [t2, t1] at hq2
              refine ⟨rfl, ?_⟩
              have := down_next h0 (j := 2 * i + 2) (by omega) hN hq2 (HK.out.drewN q) hk2 HI.out HA.out HD.out HT.out HF.out (by omega) (fun c c1 c2 c3 => by
                rcases (show c = 2 * i + 1 ∨ c = 2 * i + 2 by omega) with e | e <;> subst e
                · exact lessB_yes b1
                · exact le_refl _ _) b2
              rwa [show (((2 * i + 2 : Nat)) : Int) = 2 * (i : Int) + 1 + 1 from by omega] at this
            simp only [b2] at L4
            clear HQ HK HI HA HD HT HF t0 t1 t2 b2
            go_wp2_with fail
            refine L2.mono ?_
            rintro e w1 ⟨rfl, q1, rfl⟩
            clear L2
            go_wp2_with fail
            refine (L4 _).mono ?_
            rintro e w2 ⟨rfl, q2, rfl⟩
            go_wp2_with fail
            try simp only [World.drewN_drewN]
            refine (HSW.out _).mono ?_
            rintro e w3 ⟨rfl, hr⟩
            go_wp2_with fail
            go_roundw
            case rel => exact hr
            case measure => simp [intOf]; omega
          · have b2' : lessB sc (od' (2 * i + 2)) (od' i) = false := by simpa using b2
            have HE : Hid (∀ q, DownPost b gs cs gp cp go co n m N i0 sc pl od w (.returned (.bool (decide (i0 < i)))) (wr.drewN q)) := fun q =>
              down_end (HQ.out.drewN q) (HK.out.drewN q) HI.out HA.out HD.out HT.out HF.out (fine_right b1 b2')
            simp only [b2'] at L4
            clear HQ HK HI HA HD HT HF t0 t1 t2 b2 b2'
            go_wp2_with fail
            refine L2.mono ?_
            rintro e w1 ⟨rfl, q1, rfl⟩
            clear L2
            go_wp2_with fail
            refine (L4 _).mono ?_
            rintro e w2 ⟨rfl, q2, rfl⟩
            go_wp2_with fail
            try simp only [World.drewN_drewN]
            go_ret
            exact HE.out _
        · have b1' : lessB sc (od' (2 * i + 2)) (od' (2 * i + 1)) = false := by simpa using b1
          rw [b1'] at L2
          have L4 := fun q => less_any (wr.drewN q) (HQ.out.drewN q) HI.out hn (2 * (i : Int) + 1) i (by omega) (by omega) (by omega) (by omega)
          rw [t0, t2] at L4
          by_cases b2 : lessB sc (od' (2 * i + 1)) (od' i) = true
          · have HSW : Hid (∀ q, Calls Tryz.prog 198 #[.pointer (some ⟨b, 0, none⟩), .int .i64 i, .int .i64 (2 * (i : Int) + 1)] (wr.drewN q) fun e w' => e = .returned (.tuple #[]) ∧ DownRel b gs cs gp cp go co n m N i0 sc pl od w (.int .i64 (2 * (i : Int) + 1)) w') := fun q => by
              refine (swap_same (wr.drewN q) (HQ.out.drewN q) HI.out hn i (2 * (i : Int) + 1) (by omega) (by omega) (by omega) (by omega)).mono ?_
              rintro e w2 ⟨rfl, hq2, hk2⟩
              rw [t2, t0] at hq2
              refine ⟨rfl, ?_⟩
              have := down_next h0 (j := 2 * i + 1) (by omega) hN hq2 (HK.out.drewN q) hk2 HI.out HA.out HD.out HT.out HF.out (by omega) (fun c c1 c2 c3 => by
                rcases (show c = 2 * i + 1 ∨ c = 2 * i + 2 by omega) with e | e <;> subst e
                · exact le_refl _ _
                · exact lessB_no b1') b2
              rwa [show (((2 * i + 1 : Nat)) : Int) = 2 * (i : Int) + 1 from by omega] at this
            simp only [b2] at L4
            clear HQ HK HI HA HD HT HF t0 t1 t2 b2
            go_wp2_with fail
            refine L2.mono ?_
            rintro e w1 ⟨rfl, q1, rfl⟩
            clear L2
            go_wp2_with fail
            refine (L4 _).mono ?_
            rintro e w2 ⟨rfl, q2, rfl⟩
            go_wp2_with fail
            try simp only [World.drewN_drewN]
            refine (HSW.out _).mono ?_
            rintro e w3 ⟨rfl, hr⟩
            go_wp2_with fail
            go_roundw
            case rel => exact hr
            case measure => simp [intOf]; omega
          · have b2' : lessB sc (od' (2 * i + 1)) (od' i) = false := by simpa using b2
            have HE : Hid (∀ q, DownPost b gs cs gp cp go co n m N i0 sc pl od w (.returned (.bool (decide (i0 < i)))) (wr.drewN q)) := fun q =>
              down_end (HQ.out.drewN q) (HK.out.drewN q) HI.out HA.out HD.out HT.out HF.out (fine_left b1' b2')
            simp only [b2'] at L4
            clear HQ HK HI HA HD HT HF t0 t1 t2 b2 b2'
            go_wp2_with fail
            refine L2.mono ?_
            rintro e w1 ⟨rfl, q1, rfl⟩
            clear L2
            go_wp2_with fail
            refine (L4 _).mono ?_
            rintro e w2 ⟨rfl, q2, rfl⟩
            go_wp2_with fail
            try simp only [World.drewN_drewN]
            go_ret
            exact HE.out _
      · have g2 : decide (2 * (i : Int) + 1 + 1 < (N : Int)) = false := decide_eq_false (by omega)
        have L4 := less_any wr HQ.out HI.out hn (2 * (i : Int) + 1) i (by omega) (by omega) (by omega) (by omega)
        rw [t0, t2] at L4
        by_cases b2 : lessB sc (od' (2 * i + 1)) (od' i) = true
        · have HSW : Hid (∀ q, Calls Tryz.prog 198 #[.pointer (some ⟨b, 0, none⟩), .int .i64 i, .int .i64 (2 * (i : Int) + 1)] (wr.drewN q) fun e w' => e = .returned (.tuple #[]) ∧ DownRel b gs cs gp cp go co n m N i0 sc pl od w (.int .i64 (2 * (i : Int) + 1)) w') := fun q => by
            refine (swap_same (wr.drewN q) (HQ.out.drewN q) HI.out hn i (2 * (i : Int) + 1) (by omega) (by omega) (by omega) (by omega)).mono ?_
            rintro e w2 ⟨rfl, hq2, hk2⟩
            rw [t2, t0] at hq2
            refine ⟨rfl, ?_⟩
            have := down_next h0 (j := 2 * i + 1) (by omega) hN hq2 (HK.out.drewN q) hk2 HI.out HA.out HD.out HT.out HF.out (by omega) (fun c c1 c2 c3 => by
              obtain rfl : c = 2 * i + 1 := by omega
              exact le_refl _ _) b2
            rwa [show (((2 * i + 1 : Nat)) : Int) = 2 * (i : Int) + 1 from by omega] at this
          simp only [b2] at L4
          clear HQ HK HI HA HD HT HF t0 t1 t2 b2
          go_wp2_with fail
          refine L4.mono ?_
          rintro e w2 ⟨rfl, q2, rfl⟩
          go_wp2_with fail
          try simp only [World.drewN_drewN]
          refine (HSW.out _).mono ?_
          rintro e w3 ⟨rfl, hr⟩
          go_wp2_with fail
          go_roundw
          case rel => exact hr
          case measure => simp [intOf]; omega
        · have b2' : lessB sc (od' (2 * i + 1)) (od' i) = false := by simpa using b2
          have HE : Hid (∀ q, DownPost b gs cs gp cp go co n m N i0 sc pl od w (.returned (.bool (decide (i0 < i)))) (wr.drewN q)) := fun q =>
            down_end (HQ.out.drewN q) (HK.out.drewN q) HI.out HA.out HD.out HT.out HF.out (fine_one (by omega) b2')
          simp only [b2'] at L4
          clear HQ HK HI HA HD HT HF t0 t1 t2 b2 b2'
          go_wp2_with fail
          refine L4.mono ?_
          rintro e w2 ⟨rfl, q2, rfl⟩
          go_wp2_with fail
          try simp only [World.drewN_drewN]
          go_ret
          exact HE.out _
    · have HE := Lib.hid (down_end HQ.out HK.out HI.out HA.out HD.out HT.out HF.out (fine_stop (by omega)))
      clear HQ HK HI HA HD HT HF
      go_wp2_with fail
      go_ret
      exact HE.out
end
end Go.Proofs.YtfllhfhcmoemeaaGreat
namespace Go.Proofs.YtfllhfhcmoemeaaGreat
open Go.RowKit HeapM

section
variable {b gs cs gp cp go co n m : Nat} {sc pl : Nat → Int} {od : Nat → Nat}

/-- What up leaves: all in order. -/
def UpPost (b gs cs gp cp go co n m : Nat) (sc pl : Nat → Int) (w : World) (e : Ending) (w' : World) : Prop :=
  ∃ (pl' : Nat → Int) (od' : Nat → Nat), e = .returned (.tuple #[]) ∧ QAt w' b gs cs gp cp go co n m sc pl' od' ∧ Kf (Foot b gs gp go) w w' ∧ Inv n m pl' od' ∧ SameW n pl pl' ∧ Hp sc od' 0 m
/-- The loop's relation. -/
def UpRel (b gs cs gp cp go co n m : Nat) (sc pl : Nat → Int) (w : World) (v : Value) (wr : World) : Prop :=
  ∃ (j : Nat) (pl' : Nat → Int) (od' : Nat → Nat), v = .int .i64 (j : Int) ∧ j < m ∧ QAt wr b gs cs gp cp go co n m sc pl' od' ∧ Kf (Foot b gs gp go) w wr ∧ Inv n m pl' od' ∧ SameW n pl pl' ∧ Up sc od' m j
theorem up_next {j : Nat} {pl' : Nat → Int} {od' : Nat → Nat} {w wr w2 : World} (hj : 1 ≤ j) (hjm : j < m) (hQ : QAt w2 b gs cs gp cp go co n m sc (swP pl' od' ((j - 1) / 2) j) (swO od' ((j - 1) / 2) j)) (hK : Kf (Foot b gs gp go) w wr) (hK2 : Kf (Foot b gs gp go) wr w2)
    (hI : Inv n m pl' od') (hA : SameW n pl pl') (hU : Up sc od' m j) (hl : lessB sc (od' j) (od' ((j - 1) / 2)) = true) : UpRel b gs cs gp cp go co n m sc pl w (.int .i64 (((j - 1) / 2 : Nat) : Int)) w2 :=
  ⟨(j - 1) / 2, _, _, rfl, by omega, hQ, hK.trans hK2 (fun _ h => .inl h), swap_any hI (by omega) hjm, hA.trans (swap_alike hI (by omega) hjm), hU.step hj hjm (lessB_yes hl)⟩

set_option maxHeartbeats 6400000 in
set_option maxRecDepth 100000 in
theorem up_any (w : World) (h : QAt w b gs cs gp cp go co n m sc pl od) (hI : Inv n m pl od) (hn : n ≤ 1000) {j : Nat} (hj : j < m) (hU : Up sc od m j) :
    Calls Tryz.prog 93 #[.iface 106 (.pointer (some ⟨b, 0, none⟩)), .int .i64 j] w (UpPost b gs cs gp cp go co n m sc pl w) := by
  have hml := hI.le
  have HS : Hid (UpRel b gs cs gp cp go co n m sc pl w (.int .i64 (j : Int)) w) := ⟨j, pl, od, rfl, hj, h, Kf.refl _ _, hI, SameW.refl _ _, hU⟩
  clear h hI hU
  have ml := meth_less
  have ms := meth_swap
  go_enter Tryz.func93, Tryz.ntmps93
  go_wp2_with fail
  go_loopw [1] (fun v wr => UpRel b gs cs gp cp go co n m sc pl w v wr) (fun v _ => (intOf v).toNat)
  case atStart => exact HS.out
  case round =>
    clear HS
    obtain ⟨j, pl', od', rfl, hjm, hQ, hK, hI, hA, hU⟩ := hrel
    by_cases hz : j = 0
    · subst hz
      have HE : Hid (UpPost b gs cs gp cp go co n m sc pl w (.returned (.tuple #[])) wr) := ⟨pl', od', rfl, hQ, hK, hI, hA, hU.stop0⟩
      clear hQ hK hI hA hU
      go_wp2_with fail
      go_end0
      exact HE.out
    · have t0 : (((j : Int) - 1) / 2).toNat = (j - 1) / 2 := by omega
      have t2 : ((j : Int).toNat) = j := by omega
      have hj1 : 1 ≤ (j : Int) := by omega
      have hne : (((j : Int) - 1) / 2 == (j : Int)) = false := by rw [beq_eq_false_iff_ne]; omega
      have L1 := less_any wr hQ hI hn (j : Int) (((j : Int) - 1) / 2) (by omega) (by omega) (by omega) (by omega)
      rw [t0, t2] at L1
      by_cases b1 : lessB sc (od' j) (od' ((j - 1) / 2)) = true
      · have HSW : Hid (∀ q, Calls Tryz.prog 198 #[.pointer (some ⟨b, 0, none⟩), .int .i64 (((j : Int) - 1) / 2), .int .i64 j] (wr.drewN q) fun e w' => e = .returned (.tuple #[]) ∧ UpRel b gs cs gp cp go co n m sc pl w (.int .i64 (((j : Int) - 1) / 2)) w') := fun q => by
          refine (swap_same (wr.drewN q) (hQ.drewN q) hI hn (((j : Int) - 1) / 2) (j : Int) (by omega) (by omega) (by omega) (by omega)).mono ?_
          rintro e w2 ⟨rfl, hq2, hk2⟩
          rw [t2, t0] at hq2
          refine ⟨rfl, ?_⟩
          have := up_next (by omega) hjm hq2 (hK.drewN q) hk2 hI hA hU b1
          rwa [show (((j - 1) / 2 : Nat) : Int) = ((j : Int) - 1) / 2 from by omega] at this
        simp only [b1] at L1
        clear hQ hK hI hA hU t0 t2 b1 hz
        go_wp2_with fail
        refine L1.mono ?_
        rintro e w2 ⟨rfl, q2, rfl⟩
        go_wp2_with fail
        refine (HSW.out _).mono ?_
        rintro e w3 ⟨rfl, hr⟩
        go_wp2_with fail
        go_roundw
        case rel => exact hr
        case measure => simp [intOf]; omega
      · have b1' : lessB sc (od' j) (od' ((j - 1) / 2)) = false := by simpa using b1
        have HE : Hid (∀ q, UpPost b gs cs gp cp go co n m sc pl w (.returned (.tuple #[])) (wr.drewN q)) := fun q => ⟨pl', od', rfl, hQ.drewN q, hK.drewN q, hI, hA, hU.stop (lessB_no b1')⟩
        simp only [b1'] at L1
        clear hQ hK hI hA hU t0 t2 b1 b1' hz
        go_wp2_with fail
        refine L1.mono ?_
        rintro e w2 ⟨rfl, q2, rfl⟩
        go_wp2_with fail
        go_end0
        exact HE.out _
end
end Go.Proofs.YtfllhfhcmoemeaaGreat
namespace Go.Proofs.YtfllhfhcmoemeaaGreat
open Go.RowKit HeapM

section
variable {b gs cs gp cp go co n m : Nat} {sc pl : Nat → Int} {od : Nat → Nat}

theorem Up.dn {sc : Nat → Int} {od : Nat → Nat} {m i : Nat} (h : Up sc od m i) : Dn sc od i m i := Dn.start fun c h1 h2 h3 => h.1 c h1 h2 (by omega)

set_option maxHeartbeats 6400000 in
set_option maxRecDepth 100000 in
theorem fix_any (w : World) (h : QAt w b gs cs gp cp go co n m sc pl od) (hI : Inv n m pl od) (hn : n ≤ 1000) (i : Int) (hi0 : 0 ≤ i) (hi : i < m) (hU : Up sc od m i.toNat) (hF : Fine sc od m i.toNat) :
    Calls Tryz.prog 131 #[.iface 106 (.pointer (some ⟨b, 0, none⟩)), .int .i64 i] w (UpPost b gs cs gp cp go co n m sc pl w) := by
  obtain ⟨i, rfl⟩ := Int.eq_ofNat_of_zero_le hi0
  have t2 : ((i : Int).toNat) = i := by omega
  rw [t2] at hU hF
  have him : i < m := by omega
  have HL := Lib.hid (qlen_any w h)
  have HD := Lib.hid (down_any w h hI hn him (Nat.le_refl m) (by omega) (Up.dn hU))
  have HU : Hid (∀ w1 pl' od', QAt w1 b gs cs gp cp go co n m sc pl' od' → Kf (Foot b gs gp go) w w1 → od' = od → pl' = pl → Calls Tryz.prog 93 #[.iface 106 (.pointer (some ⟨b, 0, none⟩)), .int .i64 i] w1 (UpPost b gs cs gp cp go co n m sc pl w)) := by
    rintro w1 pl' od' hq hk rfl rfl
    refine (up_any w1 hq hI hn him hU).mono ?_
    rintro e w2 ⟨pl2, od2, he, hq2, hk2, r⟩
    exact ⟨pl2, od2, he, hq2, hk.trans hk2 (fun _ h => .inl h), r⟩
  have HF := Lib.hid hF
  have ml := meth_len
  clear h hI hU hF
  go_enter Tryz.func131, Tryz.ntmps131
  go_wp2_with fail
  refine HL.out.mono ?_
  rintro e w' ⟨rfl, rfl⟩
  go_wp2_with fail
  refine HD.out.mono ?_
  rintro e w1 ⟨pl', od', r, rfl, hq, hk, _, _, _, _, hfin⟩
  obtain ⟨rfl, ho, hp⟩ := hfin HF.out
  have HU1 := Lib.hid (HU.out w1 pl' od' hq hk ho hp)
  clear hfin hq hk ho hp HU HD HL HF
  go_wp2_with fail
  refine HU1.out.mono ?_
  rintro e w2 ⟨pl2, od2, rfl, r⟩
  have HE : Hid (UpPost b gs cs gp cp go co n m sc pl w (.returned (.tuple #[])) w2) := ⟨pl2, od2, rfl, r⟩
  clear r HU1
  go_wp2_with fail
  go_end0
  exact HE.out

/-- The loop's relation. -/
def InitRel (b gs cs gp cp go co n m : Nat) (sc pl : Nat → Int) (w : World) (v : Value) (wr : World) : Prop :=
  ∃ (i : Int) (pl' : Nat → Int) (od' : Nat → Nat), v = .int .i64 i ∧ -1 ≤ i ∧ i < m ∧ QAt wr b gs cs gp cp go co n m sc pl' od' ∧ Kf (Foot b gs gp go) w wr ∧ Inv n m pl' od' ∧ SameW n pl pl' ∧ Hp sc od' (i + 1).toNat m

set_option maxHeartbeats 6400000 in
set_option maxRecDepth 100000 in
theorem init_any (w : World) (h : QAt w b gs cs gp cp go co n m sc pl od) (hI : Inv n m pl od) (hn : n ≤ 1000) :
    Calls Tryz.prog 133 #[.iface 106 (.pointer (some ⟨b, 0, none⟩))] w (UpPost b gs cs gp cp go co n m sc pl w) := by
  have hml := hI.le
  have HL := Lib.hid (qlen_any w h)
  have HS : Hid (InitRel b gs cs gp cp go co n m sc pl w (.int .i64 ((m : Int) / 2 - 1)) w) :=
    ⟨_, pl, od, rfl, by omega, by omega, h, Kf.refl _ _, hI, SameW.refl _ _, fun c h1 h2 h3 => by omega⟩
  have ml := meth_len
  clear h hI
  go_enter Tryz.func133, Tryz.ntmps133
  go_wp2_with fail
  refine HL.out.mono ?_
  rintro e w' ⟨rfl, rfl⟩
  clear HL
  go_wp2_with fail
  go_loopw [3] (fun v wr => InitRel b gs cs gp cp go co n m sc pl w v wr) (fun v _ => (intOf v + 1).toNat)
  case atStart => exact HS.out
  case round =>
    clear HS
    obtain ⟨i, pl', od', rfl, hi0, him, hQ, hK, hI, hA, hH⟩ := hrel
    by_cases hz : i < 0
    · have HE : Hid (UpPost b gs cs gp cp go co n m sc pl w (.returned (.tuple #[])) wr) := ⟨pl', od', rfl, hQ, hK, hI, hA, by
        rwa [show (i + 1).toNat = 0 from by omega] at hH⟩
      clear hQ hK hI hA hH
      go_wp2_with fail
      go_end0
      exact HE.out
    · have hz' : 0 ≤ i := by omega
      have HD : Hid (Calls Tryz.prog 143 #[.iface 106 (.pointer (some ⟨b, 0, none⟩)), .int .i64 i, .int .i64 m] wr fun e w' => (∃ r, e = .returned (.bool r)) ∧ InitRel b gs cs gp cp go co n m sc pl w (.int .i64 (i - 1)) w') := by
        obtain ⟨i, rfl⟩ := Int.eq_ofNat_of_zero_le hz'
        refine (down_any wr hQ hI hn (i0 := i) (N := m) (by omega) (Nat.le_refl m) (by omega) (Dn.start fun c h1 h2 h3 => hH c h1 h2 (by omega))).mono ?_
        rintro e w1 ⟨pl2, od2, r, rfl, hq, hk, hi, hs, hh, _, _⟩
        exact ⟨⟨r, rfl⟩, ((i : Int) - 1), pl2, od2, rfl, by omega, by omega, hq, hK.trans hk (fun _ h => .inl h), hi, hA.trans hs, by
          rwa [show ((i : Int) - 1 + 1).toNat = i from by omega]⟩
      clear hQ hK hI hA hH hz
      go_wp2_with fail
      refine HD.out.mono ?_
      rintro e w1 ⟨⟨r, rfl⟩, hr⟩
      have HR := Lib.hid hr
      clear hr HD
      go_wp2_with fail
      go_roundw
      case rel => exact HR.out
      case measure => simp [intOf]; omega

/-- What heap.Pop leaves: the first has gone. -/
def TookPost (b gs cs gp cp go co n m : Nat) (sc pl : Nat → Int) (od : Nat → Nat) (w : World) (e : Ending) (w' : World) : Prop :=
  ∃ (pl' : Nat → Int) (od' : Nat → Nat), e = .returned (.iface 3 (.int .i64 (od 0 : Int))) ∧ QAt w' b gs cs gp cp go co n m sc pl' od' ∧ Kf (Foot b gs gp go) w w' ∧ Inv n m pl' od' ∧ Hp sc od' 0 m ∧ (∀ v, 1 ≤ v → v ≤ n → (pl' v = -1 ↔ pl v = -1 ∨ v = od 0))

set_option maxHeartbeats 6400000 in
set_option maxRecDepth 100000 in
theorem take_any (w : World) (h : QAt w b gs cs gp cp go co n (m + 1) sc pl od) (hI : Inv n (m + 1) pl od) (hn : n ≤ 1000) (hH : Hp sc od 0 (m + 1)) :
    Calls Tryz.prog 117 #[.iface 106 (.pointer (some ⟨b, 0, none⟩))] w (TookPost b gs cs gp cp go co n m sc pl od w) := by
  have hml := hI.le
  have HL := Lib.hid (qlen_any w h)
  have hs := swap_nat w h hI hn (i := 0) (k := m) (by omega) (by omega)
  have HS : Hid (Calls Tryz.prog 198 #[.pointer (some ⟨b, 0, none⟩), .int .i64 0, .int .i64 m] w fun e w' => e = .returned (.tuple #[]) ∧ QAt w' b gs cs gp cp go co n (m + 1) sc (swP pl od 0 m) (swO od 0 m) ∧ Kf (Foot b gs gp go) w w') := hs
  clear hs
  have HI1 := Lib.hid (swap_any hI (show 0 < m + 1 by omega) (show m < m + 1 by omega))
  have HA1 := Lib.hid (swap_alike hI (show 0 < m + 1 by omega) (show m < m + 1 by omega))
  have HD1 : Hid (Dn sc (swO od 0 m) 0 m 0) := Dn.start fun c h1 h2 h3 => by
    rw [swO_ne _ (by omega) (by omega), swO_ne _ (by omega) (by omega)]
    exact hH c h1 (by omega) (by omega)
  have HT1 := Lib.hid (swO_r od 0 m)
  have ml := meth_len
  have ms := meth_swap
  have mp := meth_pop
  clear h hI hH
  generalize swP pl od 0 m = pl1 at *
  generalize swO od 0 m = od1 at *
  go_enter Tryz.func117, Tryz.ntmps117
  go_wp2_with fail
  refine HL.out.mono ?_
  rintro e w' ⟨rfl, rfl⟩
  clear HL
  go_wp2_with fail
  refine HS.out.mono ?_
  rintro e w1 ⟨rfl, hq1, hk1⟩
  have HD : Hid (Calls Tryz.prog 143 #[.iface 106 (.pointer (some ⟨b, 0, none⟩)), .int .i64 0, .int .i64 m] w1 (DownPost b gs cs gp cp go co n (m + 1) m 0 sc pl1 od1 w1)) :=
    down_any w1 hq1 HI1.out hn (i0 := 0) (N := m) (by omega) (by omega) (by omega) HD1.out
  have HK1 := Lib.hid hk1
  clear hq1 hk1 HS
  go_wp2_with fail
  refine HD.out.mono ?_
  rintro e w2 ⟨pl2, od2, r, rfl, hq2, hk2, hi2, ha2, hh2, ht2, _⟩
  have hom : od2 m = od 0 := (ht2 m (Nat.le_refl m)).trans HT1.out
  have hp := pop_nat w2 hq2 hi2 hn
  have hi3 := pop_inv hi2
  rw [hom] at hp hi3
  have HP := Lib.hid hp
  have HE : Hid (∀ e w3, e = .returned (.iface 3 (.int .i64 (od 0 : Int))) → QAt w3 b gs cs gp cp go co n m sc (upd pl2 (od 0) (-1)) od2 → Kf (Foot b gs gp go) w2 w3 → TookPost b gs cs gp cp go co n m sc pl od w e w3) := fun e w3 he hq hk =>
    ⟨_, _, he, hq, (HK1.out.trans hk2 (fun _ h => .inl h)).trans hk (fun _ h => .inl h), hi3, hh2, fun v h1 h2 => by
      have := (HA1.out.trans ha2) v h1 h2
      by_cases ev : v = od 0
      · rw [ev, upd_at]; simp
      · rw [upd_ne _ _ ev, this]; simp [ev]⟩
  clear hq2 hk2 hi2 ha2 hh2 ht2 hom hp hi3 HD HD1 HI1 HA1 HT1 HK1
  go_wp2_with fail
  refine HP.out.mono ?_
  rintro e w3 ⟨rfl, hq3, hk3⟩
  have HE1 := Lib.hid (HE.out _ w3 rfl hq3 hk3)
  clear HE hq3 hk3 HP
  go_wp2_with fail
  go_ret
  exact HE1.out
end
end Go.Proofs.YtfllhfhcmoemeaaGreat
namespace Go.Proofs.YtfllhfhcmoemeaaGreat
open Go.RowKit HeapM

theorem info_int : (Tryz.prog.info? 3).map (fun i => (i.zero, i.size, i.bytes)) = some (some (.int .i64 0), 1, 8) := by kernel_rfl
theorem info_int64 : (Tryz.prog.info? 2).map (fun i => (i.zero, i.size, i.bytes)) = some (some (.int .i64 0), 1, 8) := by kernel_rfl

theorem cellsOf_snoc (f : Nat → Int) (n : Nat) (x : Int) : cellsOf f n ++ [.int .i64 x] = cellsOf (upd f n x) (n + 1) := by
  unfold cellsOf
  rw [List.range_succ, List.map_append]
  congr 1
  · apply List.map_congr_left
    intro j hj
    rw [List.mem_range] at hj
    rw [upd_ne _ _ (by omega)]
  · simp [upd_at]

/-- append(x, y) of one number: the same block, or a new one. -/
theorem wpList_append_row {ops : Array Oper} {rest : List Oper} {o : Oper} {a : Act} {Q : Exit → Act → World → Prop} (w : World) (hgd : o.guard = none) (s x : Operand) (t e : TypeId)
    (ho : o.op = .call { callee := .builtin .append, args := #[s, x], argTypes := #[t, t] }) (ht : Tryz.prog.underlying t = some (.slice e))
    (hinfo : (Tryz.prog.info? e).map (fun i => (i.zero, i.size, i.bytes)) = some (some (.int .i64 0), 1, 8))
    (g n cap : Nat) (f : Nat → Int) (hs : a.eval s = .slice (some ⟨g, 0, none⟩) n cap) (hrow : Row e w g n cap f) (hn : n ≤ 100000)
    (gx c : Nat) (y : Int) (hx : a.eval x = .slice (some ⟨gx, 0, none⟩) 1 c) (hy : w.cell? ⟨gx, 0, none⟩ = some (.int .i64 y))
    (h : ∀ g' cap' w', Row e w' g' (n + 1) cap' (upd f n y) → (g' = g ∨ w.heap.size ≤ g') → w.grownBy w' (some g) → wpList Tryz.prog ops Q rest (a.put o.dst (.slice (some ⟨g', 0, none⟩) (n + 1) cap')) w') :
    wpList Tryz.prog ops Q (o :: rest) a w := by
  obtain ⟨i0, hi, hz0, hz1, hz2⟩ := info_parts hinfo
  refine wpList_plain hgd fun _ hK => ?_
  have hnews : ∀ j u, [Value.int .i64 y][j]? = some u → w.cell? ((⟨gx, 0, none⟩ : Addr).add j) = some u := by
    intro j u hj
    match j, hj with
    | 0, hj => simp at hj; subst hj; simpa [Addr.add] using hy
  have h1 : ∀ u ∈ [Value.int .i64 y], u.oneCell' = true := by
    intro u hu; simp at hu; subst hu; rfl
  obtain ⟨v', w', hr, hown, hgr, _⟩ := run_append_own (P := Tryz.prog) w g t o.type e i0 (.int .i64 0) 1 8 ht hi hz0 hz1 hz2 rfl (by decide) (.slice (some ⟨g, 0, none⟩) n cap) n (cellsOf f n) hrow.own ⟨gx, 0, none⟩ 1 c [.int .i64 y] rfl hnews h1 (by unfold maxLen; omega) (by omega) (Nat.le_of_lt hrow.lt)
  rw [cellsOf_snoc] at hown
  have hform : ∃ g' cap', v' = .slice (some ⟨g', 0, none⟩) (n + 1) cap' ∧ (g' = g ∨ w.heap.size ≤ g') := by
    obtain ⟨cur, hh, q1, q2, q3, q4⟩ := hrow
    by_cases hroom : n + 1 ≤ cap
    · have hr2 := run_append_room (P := Tryz.prog) w t o.type e i0 ht hi g n cap cur hh ⟨gx, 0, none⟩ 1 c [.int .i64 y] (by rw [hz1]; rfl) hnews h1 hroom (by rw [hz1]; simp; omega)
      rw [hr] at hr2
      injection hr2 with e1 e2
      exact ⟨g, cap, e1, .inl rfl⟩
    · have holds : ∀ j u, (cellsOf f n)[j]? = some u → w.cell? ((⟨g, 0, none⟩ : Addr).add j) = some u := World.ownsRow.cells (Row.own ⟨cur, hh, q1, q2, q3, q4⟩) (g := g) rfl
      have hr2 := run_append_grow (P := Tryz.prog) w t o.type e i0 (.int .i64 0) ht hi hz0 ⟨g, 0, none⟩ n cap (cellsOf f n) (by rw [cellsOf_length, hz1]; omega) holds ⟨gx, 0, none⟩ 1 c [.int .i64 y] (by rw [hz1]; rfl) hnews (by omega) (by omega) (by rw [hz2]; exact growslice_fits (by omega) (by omega))
      rw [hr] at hr2
      injection hr2 with e1 e2
      exact ⟨_, _, e1, .inr (Nat.le_refl _)⟩
  obtain ⟨g', cap', rfl, hg'⟩ := hform
  unfold Oper.wp execOp
  simp only [ho, resolve, invoke, builtin, Sem.run_bind, Sem.run_pure, Result.andThen_ok, List.map_toArray, List.map_cons, List.map_nil, hs, hx, hr]
  exact hK _ _ (h g' cap' w' (Row.of_own hown) hg' hgr)

section
variable {b gs cs gp cp go co n m : Nat} {sc pl : Nat → Int} {od : Nat → Nat}

/-- The order's row has grown. -/
theorem Q3.pushO {w w' : World} {ns np : Nat} {o : Obj} {g' co' : Nat} {x : Nat} (h : Q3 w b gs cs gp cp go co ns np m sc pl od) (hr : Row 3 w' g' (m + 1) co' (upd (fun i => (od i : Int)) m (x : Int))) (hg' : g' = go ∨ w.heap.size + 1 ≤ g')
    (hg : (w.alloc o).grownBy w' (some go)) : Q3 (w'.setCell ⟨b, 2, none⟩ (.slice (some ⟨g', 0, none⟩) (m + 1) co')) b gs cs gp cp g' co' ns np (m + 1) sc pl (upd od m x) := by
  have hf := h.foot
  have hsz : (w.alloc o).heap.size = w.heap.size + 1 := by simp
  have old : ∀ k, k < w.heap.size → k ≠ go → w'.heap[k]? = w.heap[k]? := fun k hk hkg => (hg.block k (by omega) (fun e => hkg (Option.some.inj e))).trans (Below.heap_alloc _ _ _ hk)
  obtain ⟨T, hh⟩ := h.head
  obtain ⟨n1, n2, n3, n4, n5, n6⟩ := h.ne
  have fb := hf b (.inl rfl)
  have fs := hf gs (.inr (.inl rfl))
  have fp := hf gp (.inr (.inr (.inl rfl)))
  have hb' : w'.heap[b]? = w.heap[b]? := old b fb n3
  have hne : b ≠ g' ∧ gs ≠ g' ∧ gp ≠ g' := by rcases hg' with e | e; (subst e; exact ⟨n3, n5, n6⟩); (exact ⟨by omega, by omega, by omega⟩)
  refine ⟨⟨T, by rw [Lib.heap_setCell_same (hb'.trans hh)]; rfl⟩, (h.scs.same (old gs fs n5)).other (fun e => n1 e) _, (h.pls.same (old gp fp n6)).other (fun e => n2 e) _, (hr.other (fun e => hne.1 e) _).congr fun j _ => ?_, n1, n2, hne.1, n4, hne.2.1, hne.2.2⟩
  show ((upd od m x j : Nat) : Int) = upd (fun i => (od i : Int)) m (x : Int) j
  unfold upd; split <;> rfl

theorem int_of_any (x : Int) (w : World) : (Instr.typeAssert (.iface 3 (.int .i64 x)) 20 3 true).run Tryz.prog w = .ok (.tuple #[.int .i64 x, .bool true]) w := by kernel_rfl
/-- What Push leaves. -/
def PutPost (b gs cs gp cp go n m v : Nat) (sc pl : Nat → Int) (od : Nat → Nat) (w : World) (e : Ending) (w' : World) : Prop :=
  ∃ g' co', e = .returned (.tuple #[]) ∧ QAt w' b gs cs gp cp g' co' n (m + 1) sc (upd pl v m) (upd od m v) ∧ (g' = go ∨ w.heap.size ≤ g') ∧ Kf (Foot b gs gp go) w w'

set_option maxHeartbeats 6400000 in
set_option maxRecDepth 100000 in
theorem put_any (w : World) (h : QAt w b gs cs gp cp go co n m sc pl od) (hml : m ≤ n) (hn : n ≤ 1000) {v : Nat} (hv : v ≤ n) :
    Calls Tryz.prog 197 #[.pointer (some ⟨b, 0, none⟩), .iface 3 (.int .i64 v)] w (PutPost b gs cs gp cp go n m v sc pl od w) := by
  have c1 := h.h1
  have c2 := h.h2
  have cp1 := h.pls.cell (show v < n + 1 by omega)
  have fp := h.pls.free v
  have hq := (h.setP (show v < n + 1 by omega) (m : Int)).drewN 1
  have HQ : Hid (QAt (w.setCell ⟨gp, v, none⟩ (.int .i64 (m : Int))).drew b gs cs gp cp go co n m sc (upd pl v (m : Int)) od) := hq
  have HK : Hid (Kf (Foot b gs gp go) w (w.setCell ⟨gp, v, none⟩ (.int .i64 (m : Int))).drew) := ((Kf.refl _ _).set (.inl (.inr (.inr (.inl rfl)))) _).drew
  clear h hq
  have ta := int_of_any
  go_enter Tryz.func197, Tryz.ntmps197
  go_wp2_with fail
  go_region
  generalize (w.setCell ⟨gp, v, none⟩ (.int .i64 (m : Int))).drew = W1 at HQ HK ⊢
  clear c1 c2 cp1 fp ta
  have c2 := HQ.out.h2
  have hor := HQ.out.ods
  have HO : Hid (Row 3 (W1.alloc (.cells #[.int .i64 (v : Int)] 3)) go m co (fun i => (od i : Int))) := hor.alloc _
  have hb := HQ.out.lt
  clear hor
  go_wp2_with (at_builtin; refine wpList_append_row _ rfl _ _ 76 3 rfl Tryz.underlying76 info_int go m co _ rfl HO.out (by omega) W1.heap.size 1 (v : Int) rfl (by simp) ?_)
  intro g' co' w2 hr hg' hgr
  have HR := Lib.hid (HQ.out.pushO hr hg' hgr)
  have HF : Hid (g' = go ∨ w.heap.size ≤ g') := by
    rcases hg' with e | e
    · exact .inl e
    · exact .inr (by have := HK.out.size; omega)
  have HK2 : Hid (Kf (Foot b gs gp go) w (w2.setCell ⟨b, 2, none⟩ (.slice (some ⟨g', 0, none⟩) (m + 1) co'))) :=
    ((HK.out.alloc _).grown hgr (fun k hk => .inl (by injection hk with e; subst e; exact .inr (.inr (.inr rfl))))).set (.inl (.inl rfl)) _
  have hbn : b ≠ go := HQ.out.ne.2.2.1
  have hbk : w2.heap[b]? = W1.heap[b]? := (hgr.block b (by simp; omega) (fun e => hbn (Option.some.inj e))).trans (Below.heap_alloc _ _ _ hb)
  have d2 : w2.cell? ⟨b, 2, none⟩ = some (.slice (some ⟨go, 0, none⟩) m co) := by rw [World.cell?_of_block (w := W1) (a := ⟨b, 2, none⟩) hbk]; exact c2
  have f2 : w2.frozen? ⟨b, 2, none⟩ = false := by rw [World.frozen?_of_block (w := W1) (a := ⟨b, 2, none⟩) hbk]; exact HQ.out.free 2
  clear hr hg' hgr hbk c2 HO HK hbn hb
  go_wp2_with fail
  go_end0
  exact ⟨g', co', rfl, HR.out, HF.out, HK2.out⟩

/-- What heap.Push leaves. -/
def PushedPost (b gs cs gp cp go n m v : Nat) (sc pl : Nat → Int) (w : World) (e : Ending) (w' : World) : Prop :=
  ∃ (g' co' : Nat) (pl' : Nat → Int) (od' : Nat → Nat), e = .returned (.tuple #[]) ∧ QAt w' b gs cs gp cp g' co' n (m + 1) sc pl' od' ∧ (g' = go ∨ w.heap.size ≤ g') ∧ Kf (Foot b gs gp go) w w' ∧ Inv n (m + 1) pl' od' ∧ Hp sc od' 0 (m + 1) ∧ (∀ u, 1 ≤ u → u ≤ n → (pl' u = -1 ↔ pl u = -1 ∧ u ≠ v))

set_option maxHeartbeats 6400000 in
set_option maxRecDepth 100000 in
theorem pushed_any (w : World) (h : QAt w b gs cs gp cp go co n m sc pl od) (hI : Inv n m pl od) (hn : n ≤ 1000) (hH : Hp sc od 0 m) {v : Nat} (hv0 : 1 ≤ v) (hv : v ≤ n) (hp : pl v = -1) :
    Calls Tryz.prog 62 #[.iface 106 (.pointer (some ⟨b, 0, none⟩)), .iface 3 (.int .i64 v)] w (PushedPost b gs cs gp cp go n m v sc pl w) := by
  have hml := hI.le
  have HP := Lib.hid (put_any w h hml hn hv)
  have HI1 := Lib.hid (push_inv hI hv0 hv hp)
  have HU : Hid (Up sc (upd od m v) (m + 1) m) := Up.push hH
  have HA : Hid (∀ u, 1 ≤ u → u ≤ n → (upd pl v (m : Int) u = -1 ↔ pl u = -1 ∧ u ≠ v)) := fun u _ _ => by
    by_cases e : u = v
    · subst e; rw [upd_at]; simp
    · rw [upd_ne _ _ e]; simp [e]
  have ml := meth_len
  have mp := meth_push
  clear h hI hH hp
  go_enter Tryz.func62, Tryz.ntmps62
  go_wp2_with fail
  refine HP.out.mono ?_
  rintro e w1 ⟨g', co', rfl, hq, hg', hk⟩
  have HL := Lib.hid (qlen_any w1 hq)
  have hu := (up_any w1 hq HI1.out hn (j := m) (by omega) HU.out)
  have HUP : Hid (Calls Tryz.prog 93 #[.iface 106 (.pointer (some ⟨b, 0, none⟩)), .int .i64 m] w1 (PushedPost b gs cs gp cp go n m v sc pl w)) := by
    refine hu.mono ?_
    rintro e w2 ⟨pl2, od2, he, hq2, hk2, hi2, ha2, hh2⟩
    refine ⟨g', co', pl2, od2, he, hq2, hg', hk.trans hk2 (fun x hx => ?_), hi2, hh2, fun u h1 h2 => (ha2 u h1 h2).trans (HA.out u h1 h2)⟩
    rcases hx with e | e | e | e
    · exact .inl (.inl e)
    · exact .inl (.inr (.inl e))
    · exact .inl (.inr (.inr (.inl e)))
    · rcases hg' with e' | e'
      · exact .inl (.inr (.inr (.inr (e.trans e'))))
      · exact .inr (by omega)
  clear hq hg' hk hu HP HI1 HU HA
  go_wp2_with fail
  refine HL.out.mono ?_
  rintro e w' ⟨rfl, rfl⟩
  clear HL
  go_wp2_with fail
  refine HUP.out.mono ?_
  rintro e w2 ⟨g2, co2, pl2, od2, rfl, r⟩
  have HE : Hid (PushedPost b gs cs gp cp go n m v sc pl w (.returned (.tuple #[])) w2) := ⟨g2, co2, pl2, od2, rfl, r⟩
  clear r HUP
  go_wp2_with fail
  go_end0
  exact HE.out
end
end Go.Proofs.YtfllhfhcmoemeaaGreat
