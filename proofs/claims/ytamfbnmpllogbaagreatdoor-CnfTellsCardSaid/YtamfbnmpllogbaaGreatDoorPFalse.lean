/- The contracts of the plain answer's True and False. -/
import Derived.Test.YtamfbnmpllogbaaGreatDoorPRight
import Derived.Test.YtamfbnmpllogbaaGreatDoorFalse
namespace Go.Proofs.YtamfbnmpllogbaaGreatDoor
open Go.RowKit LitM CnfP

set_option maxHeartbeats 1600000 in
set_option maxRecDepth 100000 in
theorem rtrue_any (l : Int) (A : Option Addr) (n c : Nat) (bs : List Bool) (w : World) (B : Nat) (hb : RdB w B A n bs) (_ : n ≤ 300000) (h1 : 1 ≤ varZ l) (h2 : varZ l ≤ n) :
    Calls Tryz.prog 20 #[.int .i32 l, .slice A n c] w fun e w' => e = .returned (.bool (trueB bs l)) ∧ w = w' := by
  have hone : one l = true := by
    rcases h : one l
    · have := varZ_out h; omega
    · rfl
  have hbd := (one_iff l).1 hone
  clear hone
  by_cases hl : l < 0
  · have hv := varZ_neg (l := l) (by omega) (by omega)
    rw [hv] at h1 h2
    obtain ⟨m, rfl⟩ : ∃ m : Nat, l = -(m : Int) - 1 := ⟨(-l - 1).toNat, by omega⟩
    obtain ⟨b, o, rfl, hbB, hc⟩ := hb.get (show m < n by omega)
    have EV : Hid (trueB bs (-(m : Int) - 1) = !(bs.getD m false)) := by
      unfold Hid trueB
      rw [hv, show (-(-(m : Int) - 1) - 1).toNat = m from by omega, show decide (0 < -(m : Int) - 1) = false from decide_eq_false (by omega)]
      cases bs.getD m false <;> rfl
    generalize bs.getD m false = x at *
    have e1 : -(-(m : Int) - 1) - 1 = (m : Int) := by omega
    have hm : m ≤ 262143 := by omega
    have hmn : m < n := by omega
    clear hv hb hbd h1 h2
    go_enter Tryz.func20, Tryz.ntmps20
    go_wp2
    all_goals (go_ret; exact ⟨ret_bool (by rw [EV.out]), rfl⟩)
  · have hv := varZ_pos (l := l) (by omega) (by omega)
    rw [hv] at h1 h2
    obtain ⟨m, rfl⟩ : ∃ m : Nat, l = (m : Int) + 1 := ⟨(l - 1).toNat, by omega⟩
    obtain ⟨b, o, rfl, hbB, hc⟩ := hb.get (show m < n by omega)
    have EV : Hid (trueB bs ((m : Int) + 1) = bs.getD m false) := by
      unfold Hid trueB
      rw [hv, show ((m : Int) + 1 - 1).toNat = m from by omega, show decide (0 < (m : Int) + 1) = true from decide_eq_true (by omega)]
      cases bs.getD m false <;> rfl
    generalize bs.getD m false = x at *
    have hm : m ≤ 262143 := by omega
    have hmn : m < n := by omega
    clear hv hb hbd h1 h2 hl
    go_enter Tryz.func20, Tryz.ntmps20
    go_wp2
    all_goals (go_ret; exact ⟨ret_bool (by rw [EV.out]), rfl⟩)

theorem any_snoc {bs : List Bool} {xs : List Int} {k : Nat} (hk : k < xs.length) : clauseH bs (xs.take (k + 1)) = (clauseH bs (xs.take k) || trueB bs (xs.getD k 0)) := by
  unfold clauseH
  rw [List.take_succ_eq_append_getElem hk, List.any_append, getD_lt hk]
  simp

/-- The outer loop's relation, the inner one's. -/
def PF1 (n : Nat) (cs : List (List Int)) (bs : List Bool) (w1 : World) (i : Value) (wr : World) : Prop :=
  ∃ k : Nat, i = .int .i64 (k : Int) ∧ k ≤ n ∧ (∀ j, j < k → clauseH bs (cs.getD j []) = true) ∧ wr = w1
def PF2 (m : Nat) (xs : List Int) (bs : List Bool) (w1 : World) (h i : Value) (wr : World) : Prop :=
  ∃ k : Nat, i = .int .i64 (k : Int) ∧ k ≤ m ∧ h = .bool (clauseH bs (xs.take k)) ∧ wr = w1

set_option maxHeartbeats 6400000 in
set_option maxRecDepth 100000 in
theorem rfalse_any (v : Int) (A : Option Addr) (n c : Nat) (cs : List (List Int)) (Ab : Option Addr) (nb cb : Nat) (bs : List Bool) (w : World) (h : RdF w w.heap.size A n cs) (hr : Ok32 cs) (hn : n ≤ 100000) (ht : total cs ≤ 100000) (hb : RdB w w.heap.size Ab nb bs) (hnb : nb ≤ 300000) :
    Calls Tryz.prog 8 #[.agg #[.int .i64 v, .slice A n c], .slice Ab nb cb] w fun e w' => e = .returned (.tuple #[.int .i64 (falseV v cs bs), .int .i64 (falseE v cs bs)]) ∧ Below w.heap.size w w' := by
  have hL := h.len
  have hLb := hb.len
  have hb0 := boxF_below w v A n c
  have HB0 := Lib.hid hb0
  have HRI := Lib.hid (rrightF_any v A n c cs (boxF w v A n c) ((h.below hb0).more (by rw [boxF_size]; omega)) hr hn ht)
  unfold boxF at HRI
  have HV : Hid (∀ W, Below (boxF w v A n c).heap.size (boxF w v A n c) W → W.cell? ⟨w.heap.size, 0, none⟩ = some (.int .i64 v) ∧ W.cell? ⟨w.heap.size, 1, none⟩ = some (.slice A n c)) := fun W hW => ⟨boxF_0 hW, boxF_1 hW⟩
  have HF := Lib.hid (fun W (hW : Below w.heap.size w W) => h.below hW)
  have HFB := Lib.hid (fun W (hW : Below w.heap.size w W) => hb.below hW)
  have HL := Lib.hid hL
  rcases hrt : rightF v cs
  · have E1 : Hid (falseV v cs bs = 0) := by unfold Hid falseV; rw [if_neg]; rw [hrt]; exact fun e => nomatch e.2
    have E2 : Hid (falseE v cs bs = 21) := by unfold Hid falseE; rw [if_neg]; rw [hrt]; exact fun e => nomatch e.2
    rw [hrt] at HRI
    clear hrt hL hLb h hb hb0
    go_enter Tryz.func8, Tryz.ntmps8
    go_wp2_with fail
    refine HRI.out.mono ?_
    rintro e w1 ⟨rfl, hB1⟩
    have HB1 := Lib.hid (HB0.out.trans (hB1.mono HB0.out.size))
    clear hB1
    go_wp2_with fail
    go_ret2
    exact ⟨by rw [E1.out, E2.out]; rfl, HB1.out⟩
  by_cases hne : (nb : Int) = v
  case neg =>
    have E1 : Hid (falseV v cs bs = 0) := by unfold Hid falseV; rw [if_neg]; rw [hLb]; exact fun e => hne e.1
    have E2 : Hid (falseE v cs bs = 21) := by unfold Hid falseE; rw [if_neg]; rw [hLb]; exact fun e => hne e.1
    have hvb : ((nb : Int) != v) = true := by rw [bne_iff_ne]; exact hne
    rw [hrt] at HRI
    clear hrt hL hLb h hb hb0 hne
    go_enter Tryz.func8, Tryz.ntmps8
    go_wp2_with fail
    refine HRI.out.mono ?_
    rintro e w1 ⟨rfl, hB1⟩
    have hB1' : Below (boxF w v A n c).heap.size (boxF w v A n c) w1 := hB1
    obtain ⟨f0, f1⟩ := HV.out w1 hB1'
    have HB1 := Lib.hid (HB0.out.trans (hB1'.mono HB0.out.size))
    clear hB1 hB1'
    go_wp2_with fail
    go_ret2
    exact ⟨by rw [E1.out, E2.out]; rfl, HB1.out⟩
  subst hne
  have hvb : ((nb : Int) != (nb : Int)) = false := by simp
  have hvb2 : (nb != nb) = false := by simp
  have E1 : Hid (falseV nb cs bs = falseAt bs cs) := by unfold Hid falseV; rw [if_pos]; exact ⟨by rw [hLb], hrt⟩
  have E2 : Hid (falseE nb cs bs = 0) := by unfold Hid falseE; rw [if_pos]; exact ⟨by rw [hLb], hrt⟩
  have HVL := Lib.hid (fun j hj => rightF_clause hrt (j := j) hj)
  have HOK := Lib.hid hr
  rw [hrt] at HRI
  clear hrt hL hLb h hb hb0 hr
  go_enter Tryz.func8, Tryz.ntmps8
  go_wp2_with fail
  refine HRI.out.mono ?_
  rintro e w1 ⟨rfl, hB1⟩
  have hB1' : Below (boxF w nb A n c).heap.size (boxF w nb A n c) w1 := hB1
  obtain ⟨f0, f1⟩ := HV.out w1 hB1'
  have HB1 := Lib.hid (HB0.out.trans (hB1'.mono HB0.out.size))
  have HS : Hid (PF1 n cs bs w1 (.int .i64 0) w1) := ⟨0, rfl, Nat.zero_le _, fun j hj => by omega, rfl⟩
  clear hB1 hB1' HRI HV
  go_wp2_with fail
  go_loopw [24] (fun i wr => PF1 n cs bs w1 i wr) (fun i _ => n - (intOf i).toNat)
  case atStart => exact HS.out
  case round =>
    clear HS
    obtain ⟨k, rfl, hk, hall, rfl⟩ := hrel
    have HALL := Lib.hid hall
    clear hall
    by_cases hlt : k < n
    · obtain ⟨b, o, Aj, nj, cj, rfl, hbb, hc, hRj⟩ := (HF.out _ HB1.out).get hlt
      have hkl : k < cs.length := by rw [HL.out]; exact hlt
      have HVJ := Lib.hid (HVL.out k hkl)
      have HRJ := Lib.hid hRj
      have HLJ := Lib.hid hRj.len
      have HO := Lib.hid (HOK.out k)
      have hnj : nj ≤ 35184372088832 := by have := HLJ.out; have := HO.out.1; omega
      have HFA := Lib.hid (fun h => falseAt_at bs cs k hkl h HALL.out)
      have HNX : Hid (clauseH bs (cs.getD k []) = true → PF1 n cs bs wr (.int .i64 ((k : Int) + 1)) wr) := fun h => ⟨k + 1, by rw [show ((k + 1 : Nat) : Int) = (k : Int) + 1 from by omega], hlt, fun j hj => by
        by_cases e : j = k
        · rw [e]; exact h
        · exact HALL.out j (by omega), rfl⟩
      clear hRj hkl
      generalize cs.getD k [] = xs at *
      have HS2 : Hid (PF2 nj xs bs wr (.bool false) (.int .i64 0) wr) := ⟨0, rfl, Nat.zero_le _, by simp [clauseH], rfl⟩
      go_wp2_with fail
      obtain ⟨wo, rfl⟩ : ∃ wo : World, wo = wr := ⟨_, rfl⟩
      go_loopw [8, 31] (fun h i wr => PF2 nj xs bs wo h i wr) (fun _ i _ => nj - (intOf i).toNat)
      case atStart => exact HS2.out
      case round =>
        clear HS2
        obtain ⟨i, rfl, hi, rfl, rfl⟩ := hrel
        by_cases hlt2 : i < nj
        · obtain ⟨b2, o2, rfl, hb2, hc2⟩ := HRJ.out.get hlt2
          have hil : i < xs.length := by rw [HLJ.out]; exact hlt2
          have hx := HVJ.out (xs.getD i 0) (mem_getD.2 ⟨i, hil, rfl⟩)
          have HTR := Lib.hid (rtrue_any (xs.getD i 0) Ab nb cb bs wr _ (HFB.out _ HB1.out) hnb hx.1 hx.2)
          have HSN := Lib.hid (any_snoc (bs := bs) hil)
          clear hx hil
          generalize xs.getD i 0 = x at *
          generalize trueB bs x = y at *
          generalize hcl : clauseH bs (xs.take i) = z at *
          clear hcl
          have HS' : Hid (PF2 nj xs bs wr (.bool (z || y)) (.int .i64 ((i : Int) + 1)) wr) := ⟨i + 1, by rw [show ((i + 1 : Nat) : Int) = (i : Int) + 1 from by omega], hlt2, by rw [HSN.out], rfl⟩
          rcases z
          · rw [Bool.false_or] at HS'
            go_wp2_with fail
            refine HTR.out.mono ?_
            rintro e w' ⟨rfl, rfl⟩
            go_wp2_with fail
            go_roundw
            case rel => exact HS'.out
            case measure => simp [intOf]; omega
          · rw [Bool.true_or] at HS'
            go_wp2_with fail
            go_roundw
            case rel => exact HS'.out
            case measure => simp [intOf]; omega
        · have ti : decide (i < nj) = false := decide_eq_false hlt2
          have hin : i = nj := by omega
          have hfull : xs.take i = xs := by rw [hin, ← HLJ.out]; exact List.take_length
          rw [hfull]
          clear hin hfull hi hlt2
          rcases hz : clauseH bs xs
          · have HE := Lib.hid (HFA.out hz)
            clear hz HNX HFA
            go_wp2_with fail
            go_ret2
            exact ⟨by rw [E1.out, E2.out, HE.out]; rfl, HB1.out⟩
          · have HE := Lib.hid (HNX.out hz)
            clear hz HNX HFA
            go_wp2_with fail
            go_roundw
            case rel => exact HE.out
            case measure => simp [intOf]; omega
    · have tk : decide (k < n) = false := decide_eq_false hlt
      have HE : Hid (falseAt bs cs = -1) := falseAt_no bs cs fun j hj => HALL.out j (by rw [HL.out] at hj; omega)
      go_wp2_with fail
      go_ret2
      exact ⟨by rw [E1.out, E2.out, HE.out]; rfl, HB1.out⟩
end Go.Proofs.YtamfbnmpllogbaaGreatDoor
