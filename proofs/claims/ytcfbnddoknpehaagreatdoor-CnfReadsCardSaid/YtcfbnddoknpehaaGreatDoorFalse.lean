/- The contracts of cnf.holds, slices.IndexFunc at clauses, cnf.False, cnf.Holds. -/
import Derived.Test.YtcfbnddoknpehaaGreatDoorHolds
namespace Go.Proofs.YtcfbnddoknpehaaGreatDoor
open Go.RowKit LitM CnfP

set_option maxHeartbeats 800000 in
theorem holdsC_any (A : Option Addr) (n c : Nat) (xs : List Int) (Ab : Option Addr) (nb cb : Nat) (bs : List Bool) (w : World) (B : Nat) (hB : B ≤ w.heap.size) (h : Rd .i32 w B A n xs) (hr : In32 xs) (hn : n ≤ 9223372036854775807)
    (hb : RdB w B Ab nb bs) (hnb : nb ≤ 9223372036854775807) (hv : ∀ l ∈ xs, 1 ≤ varZ l ∧ varZ l ≤ nb) :
    Calls Tryz.prog 19 #[.slice A n c, .slice Ab nb cb] w fun e w' => e = .returned (.bool (clauseH bs xs)) ∧ Below w.heap.size w w' := by
  have hmf : ∀ (fn : Fn) (first cap : Array Value) (w : World), (Instr.makeFunc fn first cap).run Tryz.prog w = .ok (.func fn first cap) w := fun _ _ _ _ => rfl
  have hR := h.alloc hB (.cells #[.slice Ab nb cb] 25)
  have hRb := hb.alloc hB (.cells #[.slice Ab nb cb] 25)
  have hl := h.len
  have hcon := containsL_any 35 #[.pointer (some ⟨w.heap.size, 0, none⟩)] (trueB bs) eg_holds1 A n c xs _ _ hR hn (fun j hj => by
    have := hv (xs.getD j 0) (mem_getD.2 ⟨j, by omega, rfl⟩)
    exact holds1_says w.heap.size Ab nb cb bs _ (by simp) _ hRb hnb _ (hr j).1 (hr j).2 this.1 this.2)
  have EV : Hid (clauseH bs xs = xs.any (trueB bs)) := rfl
  generalize xs.any (trueB bs) = r at *
  have HC := Lib.hid hcon
  clear hcon hR hRb hl hv
  go_enter Tryz.func19, Tryz.ntmps19
  go_wp2_with fail
  refine HC.out.mono ?_
  rintro e w' ⟨rfl, q, rfl⟩
  go_wp2_with fail
  go_ret
  exact ⟨ret_bool (by rw [EV.out]), below_drewN ((Below.refl _ _).alloc (Nat.le_refl _) _) q⟩

set_option maxHeartbeats 800000 in
theorem false1_any (G : Nat) (A : Option Addr) (n c : Nat) (xs : List Int) (Ab : Option Addr) (nb cb : Nat) (bs : List Bool) (w : World) (B : Nat) (hB : B ≤ w.heap.size) (hg : w.cell? ⟨G, 0, none⟩ = some (.slice Ab nb cb)) (h : Rd .i32 w B A n xs) (hr : In32 xs) (hn : n ≤ 9223372036854775807)
    (hb : RdB w B Ab nb bs) (hnb : nb ≤ 9223372036854775807) (hv : ∀ l ∈ xs, 1 ≤ varZ l ∧ varZ l ≤ nb) :
    Calls Tryz.prog 18 #[.slice A n c, .pointer (some ⟨G, 0, none⟩)] w fun e w' => e = .returned (.bool (!clauseH bs xs)) ∧ Below w.heap.size w w' := by
  have HC := Lib.hid (holdsC_any A n c xs Ab nb cb bs w B hB h hr hn hb hnb hv)
  generalize clauseH bs xs = r at *
  clear h hb hv
  have hnot : ∀ (x : Bool) (w : World), (Op.unary .not (.bool x)).run Tryz.prog w = .ok (.bool (!x)) w := fun _ _ => rfl
  go_enter Tryz.func18, Tryz.ntmps18
  go_wp2_with fail
  refine HC.out.mono ?_
  rintro e w' ⟨rfl, hB1⟩
  have HB1 := Lib.hid hB1; clear hB1
  go_wp2_with fail
  go_ret
  exact ⟨rfl, HB1.out⟩

set_option maxHeartbeats 1600000 in
theorem indexF_any (g : Nat) (lb : Array Value) (bs : List Bool) (eg : ∀ args w, (callFunc g args).run Tryz.prog w = .ok (.enter g args) w) (A : Option Addr) (n c : Nat) (cs : List (List Int)) (w : World)
    (h : RdF w w.heap.size A n cs) (hn : n ≤ 9223372036854775807)
    (hp : ∀ (W : World) (Aj : Option Addr) (nj cj j : Nat), j < n → Below w.heap.size w W → Rd .i32 W w.heap.size Aj nj (cs.getD j []) →
      Calls Tryz.prog g (#[.slice Aj nj cj] ++ lb) W fun e w' => e = .returned (.bool (!clauseH bs (cs.getD j []))) ∧ Below W.heap.size W w') :
    Calls Tryz.prog 17 #[.slice A n c, .func (.func g) #[] lb] w fun e w' => e = .returned (.int .i64 (falseAt bs cs)) ∧ Below w.heap.size w w' := by
  have HL := Lib.hid h.len
  have HP := Lib.hid hp
  have HR := Lib.hid h
  clear hp h
  go_enter Tryz.func17, Tryz.ntmps17
  go_wp2
  go_loopw [5, 8] (fun _ i wr => ∃ k : Nat, k ≤ n ∧ i = .int .i64 k ∧ Hid (Below w.heap.size w wr) ∧ Hid (∀ j, j < k → clauseH bs (cs.getD j []) = true)) (fun _ i _ => n - (intOf i).toNat)
  case atStart => exact ⟨0, Nat.zero_le _, rfl, Below.refl _ _, fun j hj => absurd hj (by omega)⟩
  case round =>
    obtain ⟨k, hk, rfl, HW, HA⟩ := hrel
    by_cases hlt : k < n
    · obtain ⟨b, o, Aj, nj, cj, rfl, hb, hc, hRj⟩ := (HR.out.below HW.out).get hlt
      have hcon := HP.out wr Aj nj cj k hlt HW.out hRj
      rcases hx : clauseH bs (cs.getD k []) with _ | _
      · have EV := Lib.hid (falseAt_at bs cs k (by rw [HL.out]; exact hlt) hx HA.out)
        rw [hx] at hcon
        have HC := Lib.hid hcon
        clear hcon hRj hx
        go_wp2_with (go_at_fn g; refine HC.out.mono ?_; rintro e w' ⟨rfl, hB1⟩; have HB1 := Lib.hid hB1; clear hB1)
        go_ret
        exact ⟨ret_int (by rw [EV.out]), HW.out.trans (HB1.out.mono HW.out.size)⟩
      · have HX := Lib.hid hx
        rw [hx] at hcon
        have HC := Lib.hid hcon
        clear hcon hRj hx
        go_wp2_with (go_at_fn g; refine HC.out.mono ?_; rintro e w' ⟨rfl, hB1⟩; have HB1 := Lib.hid hB1; clear hB1)
        go_roundw
        case rel =>
          refine ⟨k + 1, by omega, by go_num, HW.out.trans (HB1.out.mono HW.out.size), fun j hj => ?_⟩
          by_cases e : j = k
          · rw [e]; exact HX.out
          · exact HA.out j (by omega)
        case measure => simp [intOf]; omega
    · have EV := Lib.hid (falseAt_no bs cs fun j hj => HA.out j (by rw [HL.out] at hj; omega))
      go_wp2
      go_ret
      exact ⟨ret_int (by rw [EV.out]), HW.out⟩

/-- What False answers. -/
def falseV (v : Int) (cs : List (List Int)) (bs : List Bool) : Int := if (bs.length : Int) = v ∧ rightF v cs = true then falseAt bs cs else 0
def falseE (v : Int) (cs : List (List Int)) (bs : List Bool) : Int := if (bs.length : Int) = v ∧ rightF v cs = true then 0 else 21

set_option maxHeartbeats 1600000 in
theorem false_any (v : Int) (A : Option Addr) (n c : Nat) (cs : List (List Int)) (Ab : Option Addr) (nb cb : Nat) (bs : List Bool) (w : World) (h : RdF w w.heap.size A n cs) (hr : Ok32 cs) (hn : n ≤ 9223372036854775807)
    (hv0 : -9223372036854775808 ≤ v) (hv1 : v ≤ 9223372036854775807) (hb : RdB w w.heap.size Ab nb bs) (hnb : nb ≤ 9223372036854775807) :
    Calls Tryz.prog 7 #[.agg #[.int .i64 v, .slice A n c], .slice Ab nb cb] w fun e w' => e = .returned (.tuple #[.int .i64 (falseV v cs bs), .int .i64 (falseE v cs bs)]) ∧ Below w.heap.size w w' := by
  have hmf : ∀ (fn : Fn) (first cap : Array Value) (w : World), (Instr.makeFunc fn first cap).run Tryz.prog w = .ok (.func fn first cap) w := fun _ _ _ _ => rfl
  have hl := hb.len
  by_cases hne : (nb : Int) = v
  case neg =>
    have E1 : Hid (falseV v cs bs = 0) := by unfold Hid falseV; rw [if_neg]; rw [hl]; exact fun e => hne e.1
    have E2 : Hid (falseE v cs bs = 21) := by unfold Hid falseE; rw [if_neg]; rw [hl]; exact fun e => hne e.1
    have hvb : ((nb : Int) != v) = true := by rw [bne_iff_ne]; exact hne
    clear hne hl h hb
    go_enter Tryz.func7, Tryz.ntmps7
    go_wp2
    go_ret2
    exact ⟨by rw [E1.out, E2.out]; rfl, ((Below.refl _ _).alloc (Nat.le_refl _) _).alloc (by simp) _⟩
  subst hne
  have hvb : ((nb : Int) != (nb : Int)) = false := by simp
  have hB0 : Below w.heap.size w ((w.alloc (.cells #[.int .i64 nb, .slice A n c] 24)).alloc (.cells #[.slice Ab nb cb] 25)) := ((Below.refl _ _).alloc (Nat.le_refl _) _).alloc (by simp) _
  have HB0 := Lib.hid hB0
  have hz0 : ((w.alloc (.cells #[.int .i64 nb, .slice A n c] 24)).alloc (.cells #[.slice Ab nb cb] 25)).heap.size = w.heap.size + 2 := by simp
  have hRI := rightF_any nb A n c cs _ ((h.below hB0).more hB0.size) hr hn (by omega) (by omega)
  rcases hrt : rightF (nb : Int) cs with _ | _
  · have E1 : Hid (falseV nb cs bs = 0) := by unfold Hid falseV; rw [if_neg]; rw [hrt]; exact fun e => nomatch e.2
    have E2 : Hid (falseE nb cs bs = 21) := by unfold Hid falseE; rw [if_neg]; rw [hrt]; exact fun e => nomatch e.2
    rw [hrt] at hRI
    have HRI := Lib.hid hRI
    clear hRI hB0 hl h hb hz0 hrt
    go_enter Tryz.func7, Tryz.ntmps7
    go_wp2_with fail
    refine HRI.out.mono ?_
    rintro e w' ⟨rfl, hB1⟩
    have HB1 := Lib.hid (HB0.out.trans (hB1.mono HB0.out.size))
    clear hB1
    go_wp2_with fail
    go_ret2
    exact ⟨by rw [E1.out, E2.out]; rfl, HB1.out⟩
  · have E1 : Hid (falseV nb cs bs = falseAt bs cs) := by unfold Hid falseV; rw [if_pos]; exact ⟨by rw [hl], hrt⟩
    have E2 : Hid (falseE nb cs bs = 0) := by unfold Hid falseE; rw [if_pos]; exact ⟨by rw [hl], hrt⟩
    have HLn := Lib.hid h.len
    have HV := Lib.hid (fun j hj => rightF_clause hrt (j := j) hj)
    rw [hrt] at hRI
    have HRI := Lib.hid hRI
    have HR := Lib.hid h
    have HRB := Lib.hid hb
    clear hRI hB0 hl h hb hrt
    have hg0 : ∀ W, Below ((w.alloc (.cells #[.int .i64 nb, .slice A n c] 24)).alloc (.cells #[.slice Ab nb cb] 25)).heap.size ((w.alloc (.cells #[.int .i64 nb, .slice A n c] 24)).alloc (.cells #[.slice Ab nb cb] 25)) W → W.cell? ⟨w.heap.size + 1, 0, none⟩ = some (.slice Ab nb cb) ∧ W.cell? ⟨w.heap.size, 1, none⟩ = some (.slice A n c) := fun W hW => by
      rw [hW.cell (p := ⟨w.heap.size + 1, 0, none⟩) (by rw [hz0]; show w.heap.size + 1 < w.heap.size + 2; omega), hW.cell (p := ⟨w.heap.size, 1, none⟩) (by rw [hz0]; show w.heap.size < w.heap.size + 2; omega)]
      simp
    have HG0 := Lib.hid hg0
    clear hg0
    go_enter Tryz.func7, Tryz.ntmps7
    go_wp2_with fail
    refine HRI.out.mono ?_
    rintro e w1 ⟨rfl, hB1⟩
    obtain ⟨hg1, hg2⟩ := HG0.out _ hB1
    have hs1 := hB1.size
    have HBW := Lib.hid (HB0.out.trans (hB1.mono HB0.out.size))
    have HR1 := Lib.hid ((HR.out.below HBW.out).more HBW.out.size)
    have hcon := indexF_any 18 #[.pointer (some ⟨w.heap.size + 1, 0, none⟩)] bs eg_false1 A n c cs w1 HR1.out hn (fun W Aj nj cj j hj hW hRj => by
      have hlj := HV.out j (by rw [HLn.out]; exact hj)
      have hrd := (hRj.len)
      exact false1_any (w.heap.size + 1) Aj nj cj _ Ab nb cb bs W w1.heap.size hW.size
        ((hW.cell (p := ⟨w.heap.size + 1, 0, none⟩) (by show w.heap.size + 1 < w1.heap.size; omega)).trans hg1) hRj (hr j).2 (by have := (hr j).1; omega)
        (((HRB.out.below HBW.out).more HBW.out.size).below hW) hnb hlj)
    have HC := Lib.hid hcon
    clear hB1 hcon hz0 hs1
    go_wp2_with fail
    refine HC.out.mono ?_
    rintro e w2 ⟨rfl, hB2⟩
    have HB2 := Lib.hid (HBW.out.trans (hB2.mono HBW.out.size))
    clear hB2
    go_wp2_with fail
    go_ret2
    exact ⟨by rw [E1.out, E2.out]; rfl, HB2.out⟩

/-- What Holds answers. -/
def holdsV (v : Int) (cs : List (List Int)) (bs : List Bool) : Bool := decide (falseV v cs bs = -1)
set_option maxHeartbeats 800000 in
theorem holdsF_any (v : Int) (A : Option Addr) (n c : Nat) (cs : List (List Int)) (Ab : Option Addr) (nb cb : Nat) (bs : List Bool) (w : World) (h : RdF w w.heap.size A n cs) (hr : Ok32 cs) (hn : n ≤ 9223372036854775807)
    (hv0 : -9223372036854775808 ≤ v) (hv1 : v ≤ 9223372036854775807) (hb : RdB w w.heap.size Ab nb bs) (hnb : nb ≤ 9223372036854775807) :
    Calls Tryz.prog 9 #[.agg #[.int .i64 v, .slice A n c], .slice Ab nb cb] w fun e w' => e = .returned (.tuple #[.bool (holdsV v cs bs), .int .i64 (falseE v cs bs)]) ∧ Below w.heap.size w w' := by
  have hB0 := boxF_below w v A n c
  have HB0 := Lib.hid hB0
  have hcon := false_any v A n c cs Ab nb cb bs _ ((h.below hB0).more hB0.size) hr hn hv0 hv1 ((hb.below hB0).more hB0.size) hnb
  unfold boxF at hcon
  have EV : Hid (holdsV v cs bs = (falseV v cs bs == -1)) := by
    unfold Hid holdsV
    rw [Bool.eq_iff_iff]
    simp
  generalize falseV v cs bs = r at *
  generalize falseE v cs bs = r2 at *
  have HC := Lib.hid hcon
  clear hcon hB0 h hb
  go_enter Tryz.func9, Tryz.ntmps9
  go_wp2_with fail
  refine HC.out.mono ?_
  rintro e w2 ⟨rfl, hB2⟩
  have HB2 := Lib.hid (HB0.out.trans (hB2.mono HB0.out.size))
  clear hB2
  go_wp2_with fail
  go_ret2
  exact ⟨by rw [EV.out]; rfl, HB2.out⟩
end Go.Proofs.YtcfbnddoknpehaaGreatDoor
