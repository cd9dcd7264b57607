/- A Rank as its callers see it: the contracts of all its methods. -/
import Derived.Test.YtffpggdbmfidcaaBump
import Derived.Test.YtffpggdbmfidcaaHalve
import Derived.Test.YtffpggdbmfidcaaGrowR
namespace Go.Proofs.Ytffpggdbmfidcaa
open Go.RowKit HeapM

/-- How many of 1 .. n wait. -/
def cntB (wt : Nat → Bool) : Nat → Nat
  | 0 => 0
  | n + 1 => cntB wt n + (if wt (n + 1) = true then 1 else 0)
theorem cntB_of {wt : Nat → Bool} {pl : Nat → Int} {n : Nat} (h : ∀ v, 1 ≤ v → v ≤ n → (wt v = true ↔ pl v ≠ -1)) : cnt pl n = cntB wt n := by
  induction n with
  | zero => rfl
  | succ n ih =>
    unfold cnt cntB
    rw [ih fun v h1 h2 => h v h1 (by omega)]
    by_cases e : pl (n + 1) = -1
    · rw [if_pos e, if_neg (fun k => (h (n + 1) (by omega) (by omega)).1 k e)]
    · rw [if_neg e, if_pos ((h (n + 1) (by omega) (by omega)).2 e)]
theorem cntB_le (wt : Nat → Bool) (n : Nat) : cntB wt n ≤ n := by
  induction n with
  | zero => simp [cntB]
  | succ n ih => unfold cntB; split <;> omega

section
variable {b n : Nat} {F : Nat → Prop} {sc : Nat → Int} {wt : Nat → Bool}

theorem RankAt.foot {w : World} (h : RankAt w b F n sc wt) : ∀ k, F k → k < w.heap.size := by
  obtain ⟨gs, cs, gp, cp, go, co, m, pl, od, hQ, hI, hH, hW, hS, rfl⟩ := h
  exact hQ.foot
theorem RankAt.kept {w w' : World} {G : Nat → Prop} (h : RankAt w b F n sc wt) (hk : Kf G w w') (hd : ∀ k, F k → ¬ G k) : RankAt w' b F n sc wt := by
  obtain ⟨gs, cs, gp, cp, go, co, m, pl, od, hQ, r1, r2, r3, r4, rfl⟩ := h
  exact ⟨gs, cs, gp, cp, go, co, m, pl, od, hQ.kept hk hd, r1, r2, r3, r4, rfl⟩
theorem RankAt.below {w w' : World} (h : RankAt w b F n sc wt) (hk : Below w.heap.size w w') : RankAt w' b F n sc wt :=
  h.kept (G := fun _ => False) (Kf.of_below hk) (fun _ _ h => h)
theorem RankAt.bd {w : World} (h : RankAt w b F n sc wt) : ∀ v, 0 ≤ sc v ∧ sc v ≤ 1152921504606846976 := by
  obtain ⟨gs, cs, gp, cp, go, co, m, pl, od, hQ, r1, r2, r3, r4, rfl⟩ := h
  exact r4
theorem RankTo.here {w : World} (h : RankAt w b F n sc wt) : RankTo F w w b n sc wt := ⟨F, h, fun _ h => .inl h, Kf.refl _ _⟩

theorem vars_any (w : World) (h : RankAt w b F n sc wt) (hn : n ≤ 1000) :
    Calls Try.prog 12 #[.pointer (some ⟨b, 0, none⟩)] w fun e w' => e = .returned (.int .i64 n) ∧ w = w' := by
  obtain ⟨gs, cs, gp, cp, go, co, m, pl, od, hQ, hI, hH, hW, hS, rfl⟩ := h
  exact vars_nat w hQ hn
theorem size_any (w : World) (h : RankAt w b F n sc wt) :
    Calls Try.prog 25 #[.pointer (some ⟨b, 0, none⟩)] w fun e w' => e = .returned (.int .i64 (cntB wt n)) ∧ w = w' := by
  obtain ⟨gs, cs, gp, cp, go, co, m, pl, od, hQ, hI, hH, hW, hS, rfl⟩ := h
  rw [← cntB_of hW, hI.many]
  exact len_nat w hQ
theorem waits_any (w : World) (h : RankAt w b F n sc wt) (hn : n ≤ 1000) (v : Int) :
    Calls Try.prog 24 #[.pointer (some ⟨b, 0, none⟩), .int .i64 v] w fun e w' => e = .returned (.bool (inB n v && wt v.toNat)) ∧ w = w' := by
  obtain ⟨gs, cs, gp, cp, go, co, m, pl, od, hQ, hI, hH, hW, hS, rfl⟩ := h
  have e : (inB n v && wt v.toNat) = (inB n v && (pl v.toNat != -1)) := by
    rcases hv : inB n v
    · rfl
    · obtain ⟨h1, h2⟩ := (inB_iff n v).1 hv
      have := hW v.toNat (by omega) (by omega)
      rw [Bool.true_and, Bool.true_and, Bool.eq_iff_iff, this, bne_iff_ne]
  rw [e]
  exact waits_nat w hQ hn v
theorem score_any (w : World) (h : RankAt w b F n sc wt) (hn : n ≤ 1000) (v : Int) :
    Calls Try.prog 23 #[.pointer (some ⟨b, 0, none⟩), .int .i64 v] w fun e w' => e = .returned (.int .i64 (if inB n v = true then sc v.toNat else 0)) ∧ w = w' := by
  obtain ⟨gs, cs, gp, cp, go, co, m, pl, od, hQ, hI, hH, hW, hS, rfl⟩ := h
  exact score_nat w hQ hn v
theorem bump_no (w : World) (h : RankAt w b F n sc wt) (hn : n ≤ 1000) (v y : Int) (hb : ¬ (inB n v = true ∧ 0 ≤ y ∧ y ≤ 1152921504606846976)) :
    Calls Try.prog 10 #[.pointer (some ⟨b, 0, none⟩), .int .i64 v, .int .i64 y] w fun e w' => e = .returned (.int .i64 31) ∧ w = w' := by
  obtain ⟨gs, cs, gp, cp, go, co, m, pl, od, hQ, hI, hH, hW, hS, rfl⟩ := h
  exact bump_bad w hQ hn v y hb
theorem halve_any (w : World) (h : RankAt w b F n sc wt) (hn : n ≤ 1000) :
    Calls Try.prog 15 #[.pointer (some ⟨b, 0, none⟩)] w fun e w' => e = .returned (.tuple #[]) ∧ RankTo F w w' b n (fun v => sc v / 2) wt := by
  obtain ⟨gs, cs, gp, cp, go, co, m, pl, od, hQ, hI, hH, hW, hS, rfl⟩ := h
  refine (halve_nat w hQ hI hn hS).mono ?_
  rintro e w' ⟨pl2, od2, rfl, hq, hk, hi, hs, hh⟩
  refine ⟨rfl, _, ⟨gs, cs, gp, cp, go, co, m, pl2, od2, hq, hi, hh, like_of hW hs, fun u => ?_, rfl⟩, fun k hk => .inl hk, hk⟩
  have := hS u
  show 0 ≤ sc u / 2 ∧ sc u / 2 ≤ 1152921504606846976
  omega
theorem push_yes (w : World) (h : RankAt w b F n sc wt) (hn : n ≤ 1000) (v : Nat) (h1 : 1 ≤ v) (h2 : v ≤ n) :
    Calls Try.prog 11 #[.pointer (some ⟨b, 0, none⟩), .int .i64 v] w fun e w' => e = .returned (.int .i64 0) ∧ RankTo F w w' b n sc (upd wt v true) := by
  obtain ⟨gs, cs, gp, cp, go, co, m, pl, od, hQ, hI, hH, hW, hS, rfl⟩ := h
  by_cases hp : pl v = -1
  · refine (push_new w hQ hI hH hn v h1 h2 hp).mono ?_
    rintro e w' ⟨rfl, g2, c2, pl2, od2, _, hq, hg, hk, hi, hh, hl⟩
    refine ⟨rfl, _, ⟨gs, cs, gp, cp, g2, c2, m + 1, pl2, od2, hq, hi, hh, fun u u1 u2 => ?_, hS, rfl⟩, fun k hk' => ?_, hk⟩
    · rw [Ne, hl u u1 u2]
      by_cases e : u = v
      · subst e; rw [upd_at]; simp
      · rw [upd_ne _ _ e, hW u u1 u2]; simp [e]
    · rcases hk' with e | e | e | e
      · exact .inl (.inl e)
      · exact .inl (.inr (.inl e))
      · exact .inl (.inr (.inr (.inl e)))
      · rcases hg with e' | e'
        · exact .inl (.inr (.inr (.inr (e.trans e'))))
        · exact .inr (by omega)
  · refine (push_old w hQ hn v h1 h2 hp).mono ?_
    rintro e w' ⟨rfl, rfl⟩
    refine ⟨rfl, RankTo.here ⟨gs, cs, gp, cp, go, co, m, pl, od, hQ, hI, hH, fun u u1 u2 => ?_, hS, rfl⟩⟩
    by_cases e : u = v
    · subst e; rw [upd_at]; simp [hp]
    · rw [upd_ne _ _ e]; exact hW u u1 u2
theorem push_no (w : World) (h : RankAt w b F n sc wt) (hn : n ≤ 1000) (v : Int) (hb : inB n v = false) :
    Calls Try.prog 11 #[.pointer (some ⟨b, 0, none⟩), .int .i64 v] w fun e w' => e = .returned (.int .i64 31) ∧ w = w' := by
  obtain ⟨gs, cs, gp, cp, go, co, m, pl, od, hQ, hI, hH, hW, hS, rfl⟩ := h
  exact push_bad w hQ hn v hb
theorem none_pops (w : World) (h : RankAt w b F n sc wt) (hc : cntB wt n = 0) :
    Calls Try.prog 18 #[.pointer (some ⟨b, 0, none⟩)] w fun e w' => e = .returned (.tuple #[.int .i64 0, .bool false]) ∧ w = w' := by
  obtain ⟨gs, cs, gp, cp, go, co, m, pl, od, hQ, hI, hH, hW, hS, rfl⟩ := h
  have hm := hI.many
  rw [cntB_of hW, hc] at hm
  subst hm
  exact pop_none w hQ
/-- What Pop answers where one waits: the first of them. -/
def FirstOf (n : Nat) (sc : Nat → Int) (wt : Nat → Bool) (v : Nat) : Prop := 1 ≤ v ∧ v ≤ n ∧ wt v = true ∧ ∀ u, 1 ≤ u → u ≤ n → wt u = true → le sc v u
def PopPost (b n : Nat) (F : Nat → Prop) (sc : Nat → Int) (wt : Nat → Bool) (w : World) (e : Ending) (w' : World) : Prop :=
  ∃ v : Nat, FirstOf n sc wt v ∧ e = .returned (.tuple #[.int .i64 (v : Int), .bool true]) ∧ RankTo F w w' b n sc (upd wt v false)
theorem one_pops (w : World) (h : RankAt w b F n sc wt) (hn : n ≤ 1000) (hc : 0 < cntB wt n) :
    Calls Try.prog 18 #[.pointer (some ⟨b, 0, none⟩)] w (PopPost b n F sc wt w) := by
  obtain ⟨gs, cs, gp, cp, go, co, m, pl, od, hQ, hI, hH, hW, hS, rfl⟩ := h
  have hm := hI.many
  rw [cntB_of hW] at hm
  obtain ⟨m, rfl⟩ : ∃ k, m = k + 1 := ⟨m - 1, by omega⟩
  refine (pop_some w hQ hI hH hn).mono ?_
  rintro e w' ⟨rfl, pl2, od2, _, hq, hk, hi, hh, hl⟩
  have hf := hI.fwd 0 (by omega)
  refine ⟨od 0, ⟨hf.1, hf.2.1, (hW _ hf.1 hf.2.1).2 (by omega), fun u u1 u2 hu => ?_⟩, rfl, _, ⟨gs, cs, gp, cp, go, co, m, pl2, od2, hq, hi, hh, fun u u1 u2 => ?_, hS, rfl⟩, fun k hk => .inl hk, hk⟩
  · obtain ⟨i, him, _, rfl⟩ := (hI.bwd u u1 u2).resolve_left ((hW u u1 u2).1 hu)
    exact hH.first i him
  · rw [Ne, hl u u1 u2]
    by_cases e : u = od 0
    · rw [e, upd_at]; simp
    · rw [upd_ne _ _ e, hW u u1 u2]; simp [e]
end

section
variable {b gs cs gp cp go co n m : Nat} {sc pl : Nat → Int} {od : Nat → Nat}
set_option maxHeartbeats 6400000 in
set_option maxRecDepth 100000 in
theorem grow_nat (w : World) (h : QAt w b gs cs gp cp go co n m sc pl od) (hI : Inv n m pl od) (hH : Hp sc od 0 m) (hn : n + 1 ≤ 1000) :
    Calls Try.prog 20 #[.pointer (some ⟨b, 0, none⟩)] w fun e w' => e = .returned (.int .i64 ((n : Int) + 1)) ∧
      ∃ g1 c1 g2 c2 g3 c3 pl2 od2, QAt w' b g1 c1 g2 c2 g3 c3 (n + 1) (m + 1) (upd sc (n + 1) 0) pl2 od2 ∧ Inv (n + 1) (m + 1) pl2 od2 ∧ Hp (upd sc (n + 1) 0) od2 0 (m + 1) ∧ (g1 = gs ∨ w.heap.size ≤ g1) ∧ (g2 = gp ∨ w.heap.size ≤ g2) ∧ (g3 = go ∨ w.heap.size ≤ g3) ∧ Kf (Foot b gs gp go) w w' ∧
        (∀ u, 1 ≤ u → u ≤ n + 1 → (pl2 u = -1 ↔ u ≠ n + 1 ∧ pl u = -1)) := by
  have HV := Lib.hid (vars_nat w h (by omega))
  have HA := Lib.hid (add_any w h hn)
  have HH' : Hid (Hp (upd sc (n + 1) 0) od 0 m) := fun c c1 c2 c3 => by
    have a := hI.fwd c c2
    have a' := hI.fwd ((c - 1) / 2) (by omega)
    have := hH c c1 c2 c3
    unfold le at this ⊢
    rw [upd_ne _ _ (by omega), upd_ne _ _ (by omega)]
    exact this
  have HI := Lib.hid (add_inv hI)
  have hne : ((n : Int) == 262144) = false := by rw [beq_eq_false_iff_ne]; omega
  clear h hI hH
  go_enter Try.func20, Try.ntmps20
  go_wp2_with fail
  refine HV.out.mono ?_
  rintro e w' ⟨rfl, rfl⟩
  clear HV
  go_wp2_with fail
  refine HA.out.mono ?_
  rintro e w1 ⟨g1, c1, g2, c2, rfl, hq1, hg1, hg2, hk1⟩
  have hp := pushed_any w1 hq1 HI.out hn HH'.out (v := n + 1) (by omega) (by omega) (by rw [upd_at])
  rw [show ((n + 1 : Nat) : Int) = (n : Int) + 1 from by omega] at hp
  have HP := Lib.hid hp
  have HK1 := Lib.hid hk1
  have HG := Lib.hid (And.intro hg1 hg2)
  clear hp hq1 hk1 hg1 hg2 HA HH' HI
  go_wp2_with fail
  refine HP.out.mono ?_
  rintro e w2 ⟨g3, c3, pl2, od2, rfl, hq2, hg3, hk2, hi2, hh2, hl2⟩
  have HE : Hid (∃ g1 c1 g2 c2 g3 c3 pl2 od2, QAt w2 b g1 c1 g2 c2 g3 c3 (n + 1) (m + 1) (upd sc (n + 1) 0) pl2 od2 ∧ Inv (n + 1) (m + 1) pl2 od2 ∧ Hp (upd sc (n + 1) 0) od2 0 (m + 1) ∧ (g1 = gs ∨ w.heap.size ≤ g1) ∧ (g2 = gp ∨ w.heap.size ≤ g2) ∧ (g3 = go ∨ w.heap.size ≤ g3) ∧ Kf (Foot b gs gp go) w w2 ∧
        (∀ u, 1 ≤ u → u ≤ n + 1 → (pl2 u = -1 ↔ u ≠ n + 1 ∧ pl u = -1))) := by
    have hs := HK1.out.size
    obtain ⟨hg1, hg2⟩ := HG.out
    refine ⟨g1, c1, g2, c2, g3, c3, pl2, od2, hq2, hi2, hh2, hg1, hg2, ?_, HK1.out.trans hk2 (fun x hx => ?_), fun u u1 u2 => ?_⟩
    · rcases hg3 with e | e
      · exact .inl e
      · exact .inr (by omega)
    · rcases hx with e | e | e | e
      · exact .inl (.inl e)
      · rcases hg1 with e' | e'
        · exact .inl (.inr (.inl (e.trans e')))
        · exact .inr (by omega)
      · rcases hg2 with e' | e'
        · exact .inl (.inr (.inr (.inl (e.trans e'))))
        · exact .inr (by omega)
      · exact .inl (.inr (.inr (.inr e)))
    · rw [hl2 u u1 u2]
      by_cases e : u = n + 1
      · subst e; rw [upd_at]; simp
      · rw [upd_ne _ _ e]; simp [e]
  clear hq2 hg3 hk2 hi2 hh2 hl2 HP HK1 HG
  go_wp2_with fail
  go_ret
  exact ⟨rfl, HE.out⟩
end
theorem grow_any {b n : Nat} {F : Nat → Prop} {sc : Nat → Int} {wt : Nat → Bool} (w : World) (h : RankAt w b F n sc wt) (hn : n + 1 ≤ 1000) :
    Calls Try.prog 20 #[.pointer (some ⟨b, 0, none⟩)] w fun e w' => e = .returned (.int .i64 ((n : Int) + 1)) ∧ RankTo F w w' b (n + 1) (upd sc (n + 1) 0) (upd wt (n + 1) true) := by
  obtain ⟨gs, cs, gp, cp, go, co, m, pl, od, hQ, hI, hH, hW, hS, rfl⟩ := h
  refine (grow_nat w hQ hI hH hn).mono ?_
  rintro e w' ⟨rfl, g1, c1, g2, c2, g3, c3, pl2, od2, hq, hi, hh, hg1, hg2, hg3, hk, hl⟩
  refine ⟨rfl, _, ⟨g1, c1, g2, c2, g3, c3, m + 1, pl2, od2, hq, hi, hh, fun u u1 u2 => ?_, fun u => ?_, rfl⟩, fun k hk' => ?_, hk⟩
  · rw [Ne, hl u u1 u2]
    by_cases e : u = n + 1
    · subst e; rw [upd_at]; simp
    · rw [upd_ne _ _ e, hW u u1 (by omega)]; simp [e]
  · unfold upd; split
    · omega
    · exact hS u
  · rcases hk' with e | e | e | e
    · exact .inl (.inl e)
    · rcases hg1 with e' | e'
      · exact .inl (.inr (.inl (e.trans e')))
      · exact .inr (by omega)
    · rcases hg2 with e' | e'
      · exact .inl (.inr (.inr (.inl (e.trans e'))))
      · exact .inr (by omega)
    · rcases hg3 with e' | e'
      · exact .inl (.inr (.inr (.inr (e.trans e'))))
      · exact .inr (by omega)
end Go.Proofs.Ytffpggdbmfidcaa
