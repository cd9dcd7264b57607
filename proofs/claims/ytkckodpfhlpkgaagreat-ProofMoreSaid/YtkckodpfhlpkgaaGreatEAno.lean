/- The contract of an engine's another: a literal that does to be watched. -/
import Derived.Test.YtkckodpfhlpkgaaGreatEngU
import Derived.Deep.QuietTactic
import Derived.BigQuiet
namespace Go.Proofs.YtkckodpfhlpkgaaGreat
open Go.RowKit LitM TrailM EngM

/-- A clause with its search at m. -/
def atNx (S : Eng) (id m : Nat) : Eng := { S with cs := S.cs.set id { clA S.cs id with nx := m } }
theorem set_clA {cs : List Cl} {id : Nat} (hi : id < cs.length) : cs.set id (clA cs id) = cs := by
  unfold clA
  rw [List.getD, List.getElem?_eq_getElem hi]
  show cs.set id cs[id] = cs
  exact List.set_getElem_self hi
theorem atNx_self {S : Eng} {id : Nat} (hi : id < S.cs.length) : atNx S id (clA S.cs id).nx = S := by
  unfold atNx
  rw [show ({ clA S.cs id with nx := (clA S.cs id).nx } : Cl) = clA S.cs id from rfl, set_clA hi]
theorem atNx_at {S : Eng} {id : Nat} (hi : id < S.cs.length) (m : Nat) : clA (atNx S id m).cs id = { clA S.cs id with nx := m } := by
  unfold atNx
  rw [clA_set hi, if_pos rfl]
theorem atNx_len (S : Eng) (id m : Nat) : (atNx S id m).cs.length = S.cs.length := by simp [atNx]
section
variable {w : World} {b d : Nat} {q : Pm} {S : Eng}
theorem E6.setNx {id gc m : Nat} (h : E6 w b q (atNx S id m) d) (hi : id < S.cs.length) (hA : q.Ac = some ⟨gc, 0, none⟩) (m' : Nat) :
    E6 (w.setCell ⟨gc, id * 5 + 4, none⟩ (.int .i64 (m' : Int))) b q (atNx S id m') d ∧ Ext q q w (w.setCell ⟨gc, id * 5 + 4, none⟩ (.int .i64 (m' : Int))) := by
  obtain ⟨g, e, hr, ho⟩ := h.clsRow (id := id) (by rw [atNx_len]; exact hi)
  rw [hA] at e
  injection e with e
  injection e with e
  subst e
  have hk : Kf (fun k => q.own k = .cls) w (w.setCell ⟨gc, id * 5 + 4, none⟩ (.int .i64 (m' : Int))) := (Kf.refl _ _).set (.inl ho) _
  refine h.clsTo hk (cs' := (atNx S id m').cs) (by rw [atNx_len, atNx_len]) (fun i => ?_) ?_
  · unfold atNx
    rw [clA_set hi, clA_set hi]
    by_cases e : i = id
    · rw [if_pos e, if_pos e]
    · rw [if_neg e, if_neg e]
  · rw [hA]
    refine .inr ⟨gc, rfl, (hr.set (show id * 5 + 4 < (atNx S id m).cs.length * 5 by rw [atNx_len]; omega) _).congr fun j hj => ?_⟩
    unfold atNx
    refine clC_set hi (c := { clA S.cs id with nx := m' }) rfl ?_ ?_ ?_ ?_ ?_ ?_ j
    · rw [updV_ne _ _ (by omega), clC0, clA_set hi, if_pos rfl]
    · rw [updV_ne _ _ (by omega), clC1, clC1, clA_set hi, if_pos rfl]
    · rw [updV_ne _ _ (by omega), clC2, clA_set hi, if_pos rfl]
    · rw [updV_ne _ _ (by omega), clC3, clA_set hi, if_pos rfl]
    · rw [updV_at]
    · intro j hj
      rw [updV_ne _ _ (by omega)]
      unfold clC
      rw [clA_set hi, if_neg hj]
/-- What the cells of a clause read. -/
theorem E6.clCells {id gc : Nat} (h : E6 w b q S d) (hi : id < S.cs.length) (hA : q.Ac = some ⟨gc, 0, none⟩) :
    w.cell? ⟨gc, id * 5, none⟩ = some (.bool (clA S.cs id).pr) ∧ w.cell? ⟨gc, id * 5 + 1, none⟩ = some (.slice (q.Lc id).1 (clA S.cs id).ls.length (q.Lc id).2) ∧ w.cell? ⟨gc, id * 5 + 2, none⟩ = some (.int .i32 (clA S.cs id).w0) ∧
      w.cell? ⟨gc, id * 5 + 3, none⟩ = some (.int .i32 (clA S.cs id).w1) ∧ w.cell? ⟨gc, id * 5 + 4, none⟩ = some (.int .i64 ((clA S.cs id).nx : Nat)) ∧ ∀ j, w.frozen? ⟨gc, j, none⟩ = false := by
  obtain ⟨g, e, hr, ho⟩ := h.clsRow hi
  rw [hA] at e
  injection e with e
  injection e with e
  subst e
  have c0 := hr.cell (show id * 5 < S.cs.length * 5 by omega)
  have c1 := hr.cell (show id * 5 + 1 < S.cs.length * 5 by omega)
  have c2 := hr.cell (show id * 5 + 2 < S.cs.length * 5 by omega)
  have c3 := hr.cell (show id * 5 + 3 < S.cs.length * 5 by omega)
  have c4 := hr.cell (show id * 5 + 4 < S.cs.length * 5 by omega)
  rw [clC0] at c0
  rw [clC1] at c1
  rw [clC2] at c2
  rw [clC3] at c3
  rw [clC4] at c4
  exact ⟨c0, c1, c2, c3, c4, fun j => hr.free j⟩
/-- A clause's literals. -/
theorem E6.lits {id j : Nat} (h : E6 w b q S d) (hi : id < S.cs.length) (hj : j < (clA S.cs id).ls.length) : ∃ gl, (q.Lc id).1 = some ⟨gl, 0, none⟩ ∧ w.cell? ⟨gl, j, none⟩ = some (.int .i32 ((clA S.cs id).ls.getD j 0)) ∧ (clA S.cs id).ls.length ≤ (q.Lc id).2 ∧ (q.Lc id).2 ≤ 9223372036854775807 := by
  obtain ⟨gl, e, hr⟩ := (h.lc id hi).1.row (by omega)
  exact ⟨gl, e, hr.cell (show j < (clA S.cs id).ls.length * 1 by omega), hr.bd.1, hr.bd.2⟩
end
theorem nextI_lt {c : Cl} {m : Nat} (h : m = 0 ∨ m < c.ls.length) (h0 : 0 < c.ls.length) : nextI c m < c.ls.length := by
  unfold nextI
  split <;> omega
/-- What another leaves. -/
def AnoTo (w : World) (b : Nat) (q : Pm) (S : Eng) (d id : Nat) (e : Ending) (w' : World) : Prop :=
  e = .returned (.int .i32 (anoL S id)) ∧ E6 w' b q (nextF S id) d ∧ Ext q q w w'
theorem nextF_eq (S : Eng) (id : Nat) : nextF S id = atNx S id (anoF S.L (clA S.cs id) (clA S.cs id).ls.length (clA S.cs id).nx).1 := rfl
set_option maxHeartbeats 6400000 in
set_option maxRecDepth 100000 in
theorem another_any {w : World} {b : Nat} {q : Pm} {S : Eng} {d : Nat} (h : E6 w b q S d) {id gc : Nat} (hi : id < S.cs.length) (hA : q.Ac = some ⟨gc, 0, none⟩) (hls : ∀ x ∈ (clA S.cs id).ls, one x = true ∧ varZ x ≤ S.n) (hnx : (clA S.cs id).nx = 0 ∨ (clA S.cs id).nx < (clA S.cs id).ls.length) (hll : (clA S.cs id).ls.length ≤ 90000) (hn : S.n ≤ 90000) :
    Calls Tryz.prog 90 #[.pointer (some ⟨b, 0, none⟩), .pointer (some ⟨gc, id * 5, none⟩)] w (AnoTo w b q S d id) := by
  have h' : E6 w b q (atNx S id (clA S.cs id).nx) d := by rw [atNx_self hi]; exact h
  unfold AnoTo anoL
  rw [nextF_eq]
  have HH := Lib.hid h'
  obtain ⟨_, c1, _, _, _, _⟩ := h.clCells hi hA
  have hO := h.ok
  have hlen := hO.len
  clear h h'
  obtain ⟨wo, rfl⟩ : ∃ wo : World, wo = w := ⟨_, rfl⟩
  generalize hc : clA S.cs id = c at *
  have HC := Lib.hid hc
  obtain ⟨R, hR⟩ : ∃ R, R = anoF S.L c c.ls.length c.nx := ⟨_, rfl⟩
  rw [← hR]
  have HR0 := Lib.hid hR
  clear hR
  go_enter Tryz.func90, Tryz.ntmps90
  go_wp2_with fail
  go_loopw [11] (fun v wr => ∃ i m : Nat, v = .int .i64 (i : Int) ∧ i ≤ c.ls.length ∧ (m = 0 ∨ m < c.ls.length) ∧ Hid (R = anoF S.L c (c.ls.length - i) m) ∧ Hid (E6 wr b q (atNx S id m) d) ∧ Hid (Ext q q wo wr)) (fun v _ => c.ls.length - (intOf v).toNat)
  case atStart => exact ⟨0, c.nx, rfl, by omega, hnx, Lib.hid (by rw [HR0.out, Nat.sub_zero]), HH, Lib.hid (Ext.refl _ _)⟩
  case round =>
    obtain ⟨i, m, rfl, hil, hm, ha, hE, hX⟩ := hrel
    by_cases hlt : i < c.ls.length
    · have ti : decide ((i : Int) < (c.ls.length : Int)) = true := decide_eq_true (by omega)
      have hcm : ∀ m, clA (atNx S id m).cs id = { c with nx := m } := fun m => by rw [atNx_at hi, HC.out]
      have hidl : ∀ m, id < (atNx S id m).cs.length := fun m => by rw [atNx_len]; exact hi
      have CE : Hid (∀ W k, E6 W b q (atNx S id k) d → W.cell? ⟨b, 0, none⟩ = some (.pointer (some ⟨q.bt, 0, none⟩)) ∧ W.cell? ⟨gc, id * 5 + 1, none⟩ = some (.slice (q.Lc id).1 c.ls.length (q.Lc id).2) ∧ W.cell? ⟨gc, id * 5 + 2, none⟩ = some (.int .i32 c.w0) ∧
          W.cell? ⟨gc, id * 5 + 3, none⟩ = some (.int .i32 c.w1) ∧ W.cell? ⟨gc, id * 5 + 4, none⟩ = some (.int .i64 (k : Int)) ∧ W.frozen? ⟨gc, id * 5 + 4, none⟩ = false) := fun W k hW => by
        obtain ⟨_, e1, e2, e3, e4, e5⟩ := hW.clCells (hidl k) hA
        rw [hcm] at e1 e2 e3 e4
        exact ⟨hW.h0, e1, e2, e3, e4, e5 _⟩
      have CS : Hid (∀ (W : World) (k k' : Nat), E6 W b q (atNx S id k) d → E6 (W.setCell ⟨gc, id * 5 + 4, none⟩ (.int .i64 (k' : Int))) b q (atNx S id k') d ∧ Ext q q W (W.setCell ⟨gc, id * 5 + 4, none⟩ (.int .i64 (k' : Int)))) := fun W k k' hW => hW.setNx hi hA k'
      obtain ⟨gl, hgl, _, hl1, hl2⟩ := hE.out.lits (hidl m) (j := 0) (by rw [hcm]; exact Nat.lt_of_le_of_lt (Nat.zero_le _) hlt)
      rw [hcm] at hl1
      have hl1 : c.ls.length ≤ (q.Lc id).2 := hl1
      have CL : Hid (∀ W k j, E6 W b q (atNx S id k) d → j < c.ls.length → W.cell? ⟨gl, j, none⟩ = some (.int .i32 (c.ls.getD j 0))) := fun W k j hW hj => by
        obtain ⟨gl', e, e1, _⟩ := hW.lits (hidl k) (j := j) (by rw [hcm]; exact hj)
        rw [hgl] at e
        injection e with e
        injection e with e
        rw [hcm] at e1
        rw [e]; exact e1
      have CV : Hid (∀ W k (x : Int), E6 W b q (atNx S id k) d → -2147483648 ≤ x → x ≤ 2147483647 → Calls Tryz.prog 36 #[.pointer (some ⟨q.bt, 0, none⟩), .int .i32 x] W fun e w' => e = .returned (.int .i64 (valZ S.L x)) ∧ W = w') := fun W k x hW h0 h1 => by
        obtain ⟨F, gm, cm, ao, co, az, cz, hQ, hO, _⟩ := hW.trail
        exact tvalue_nat W hQ hO.pre (by show S.n ≤ 300000; omega) x h0 h1
      have hg : nextI c m < c.ls.length := nextI_lt hm (Nat.lt_of_le_of_lt (Nat.zero_le _) hlt)
      have hx := hls (c.ls.getD (nextI c m) 0) (by rw [List.getD, List.getElem?_eq_getElem hg]; exact List.getElem_mem hg)
      have hx2 := (one_iff _).1 hx.1
      have HA : Hid (R = if fitB S.L c (c.ls.getD (nextI c m) 0) = true then (nextI c m, c.ls.getD (nextI c m) 0) else anoF S.L c (c.ls.length - (i + 1)) (nextI c m)) := by
        unfold Hid
        rw [ha.out, show c.ls.length - i = (c.ls.length - (i + 1)) + 1 from by omega]
        rfl
      have HN : Hid (nextI c m = if m + 1 = c.ls.length then 0 else m + 1) := rfl
      have hb0 : -2147483648 ≤ c.ls.getD (nextI c m) 0 := by omega
      have hb1 : c.ls.getD (nextI c m) 0 ≤ 2147483647 := by omega
      obtain ⟨_, d1, _, _, d4, df⟩ := CE.out wr m hE.out
      obtain ⟨W3, hW3⟩ : ∃ W3, W3 = wr.setCell ⟨gc, id * 5 + 4, none⟩ (.int .i64 ((m : Int) + 1)) := ⟨_, rfl⟩
      obtain ⟨s1, s2⟩ := CS.out wr m (m + 1) hE.out
      rw [show ((m + 1 : Nat) : Int) = (m : Int) + 1 from by omega, ← hW3] at s1 s2
      have HE3 := Lib.hid s1
      have HX3 := Lib.hid (hX.out.trans s2)
      have HW3 := Lib.hid hW3
      rw [hgl] at d1
      generalize nextI c m = g at *
      clear hW3 s1 s2 ha hE hX HH hO hcm hidl
      generalize hxl : c.ls.getD g 0 = x at *
      generalize c.ls.length = n at *
      generalize (q.Lc id).2 = cl at *
      go_wp2_with fail
      go_upto_region 4 with (fail)
      rw [← HW3.out]
      obtain ⟨_, e1, _, _, e4, ef⟩ := CE.out W3 (m + 1) HE3.out
      rw [hgl] at e1
      rw [show ((m + 1 : Nat) : Int) = (m : Int) + 1 from by omega] at e4
      clear d1 d4 df HW3
      by_cases hw : m + 1 = n
      · have tw : ((m : Int) + 1 == (n : Int)) = true := by rw [beq_iff_eq]; omega
        have HN0 : g = 0 := by have := HN.out; rw [if_pos hw] at this; exact this
        go_quiet (fail)
        obtain ⟨W5, hW5⟩ : ∃ W5, W5 = (W3.drewN nq).setCell ⟨gc, id * 5 + 4, none⟩ (.int .i64 0) := ⟨_, rfl⟩
        obtain ⟨s1, s2⟩ := CS.out (W3.drewN nq) (m + 1) 0 (HE3.out.drewN nq)
        rw [show ((0 : Nat) : Int) = 0 from rfl, ← hW5] at s1 s2
        have HW5 := Lib.hid hW5
        have HE5 : Hid (E6 W5 b q (atNx S id g) d) := by rw [HN0]; exact s1
        have HX5 := Lib.hid (Ext.trans ⟨HX3.out.old, HX3.out.kf.drewN nq, HX3.out.bt⟩ s2)
        clear s1 s2 hW5 HN HN0 HE3 HX3
        go_upto_region 6 with (fail)
        rw [← HW5.out]
        clear e1 e4 ef HW5
        obtain ⟨f0, f1, f2, f3, f4, _⟩ := CE.out W5 g HE5.out
        rw [hgl] at f1
        have fl := CL.out W5 g g HE5.out hg
        rw [hxl] at fl
        have fv := Lib.hid (fun r => CV.out (W5.drewN r) g x (HE5.out.drewN r) hb0 hb1)
        have HE6 : Hid (∀ r, E6 (W5.drewN r) b q (atNx S id g) d ∧ Ext q q wo (W5.drewN r)) := fun r => ⟨HE5.out.drewN r, ⟨HX5.out.old, HX5.out.kf.drewN r, HX5.out.bt⟩⟩
        have HFB : Hid (fitB S.L c x = (decide (x ≠ c.w0) && decide (x ≠ c.w1) && decide (valZ S.L x ≠ -1))) := rfl
        clear CE CS CL CV HE5 HX5 hgl
        go_quiet (fail)
        generalize c.w0 = a0 at *
        generalize c.w1 = a1 at *
        generalize valZ S.L x = y at *
        by_cases h0 : x = a0
        · have t0 : (x != a0) = false := by simpa using h0
          have HG : Hid (fitB S.L c x = false) := by unfold Hid; rw [HFB.out, decide_eq_false (by simpa using h0)]; rfl
          clear h0 HFB hx hx2
          as_aux_lemma =>
          go_wp2_with fail
          go_roundw
          case rel => exact ⟨i + 1, g, by go_num, by omega, .inr hg, by have := HA.out; rw [HG.out] at this; exact this, (HE6.out _).1, (HE6.out _).2⟩
          case measure => simp [intOf]; omega
        have t0 : (x != a0) = true := by simpa using h0
        by_cases h1 : x = a1
        · have t1 : (x != a1) = false := by simpa using h1
          have HG : Hid (fitB S.L c x = false) := by unfold Hid; rw [HFB.out, decide_eq_false (p := x ≠ a1) (by simpa using h1)]; simp
          clear h0 h1 HFB hx hx2
          as_aux_lemma =>
          go_wp2_with fail
          go_roundw
          case rel => exact ⟨i + 1, g, by go_num, by omega, .inr hg, by have := HA.out; rw [HG.out] at this; exact this, (HE6.out _).1, (HE6.out _).2⟩
          case measure => simp [intOf]; omega
        have t1 : (x != a1) = true := by simpa using h1
        by_cases h2 : y = -1
        · have t2 : (y != -1) = false := by simpa using h2
          have HG : Hid (fitB S.L c x = false) := by unfold Hid; rw [HFB.out, decide_eq_false (p := y ≠ -1) (by simpa using h2)]; simp
          clear h0 h1 h2 HFB hx hx2
          as_aux_lemma =>
          go_wp2_with ((go_at_call 36; refine (fv.out _).mono ?_; rintro e w' ⟨rfl, rfl⟩))
          go_roundw
          case rel => exact ⟨i + 1, g, by go_num, by omega, .inr hg, by have := HA.out; rw [HG.out] at this; exact this, (HE6.out _).1, (HE6.out _).2⟩
          case measure => simp [intOf]; omega
        · have t2 : (y != -1) = true := by simpa using h2
          have HG : Hid (fitB S.L c x = true) := by unfold Hid; rw [HFB.out, decide_eq_true (p := x ≠ a0) h0, decide_eq_true (p := x ≠ a1) h1, decide_eq_true (p := y ≠ -1) h2]; rfl
          have HR : Hid (R = (g, x)) := by unfold Hid; rw [HA.out, HG.out]; rfl
          clear h0 h1 h2 HFB hx hx2
          as_aux_lemma =>
          go_wp2_with ((go_at_call 36; refine (fv.out _).mono ?_; rintro e w' ⟨rfl, rfl⟩))
          go_ret
          rw [HR.out]
          exact ⟨rfl, (HE6.out _).1, (HE6.out _).2⟩
      · have tw : ((m : Int) + 1 == (n : Int)) = false := by rw [beq_eq_false_iff_ne]; omega
        have HN0 : g = m + 1 := by have := HN.out; rw [if_neg hw] at this; exact this
        go_quiet (fail)
        have HE5 : Hid (E6 (W3.drewN nq) b q (atNx S id g) d) := by rw [HN0]; exact HE3.out.drewN nq
        have HX5 := Lib.hid (show Ext q q wo (W3.drewN nq) from ⟨HX3.out.old, HX3.out.kf.drewN nq, HX3.out.bt⟩)
        clear HN HN0 HE3 HX3
        go_upto_region 6 with (fail)
        clear e1 e4 ef
        generalize W3.drewN nq = W5 at *
        obtain ⟨f0, f1, f2, f3, f4, _⟩ := CE.out W5 g HE5.out
        rw [hgl] at f1
        have fl := CL.out W5 g g HE5.out hg
        rw [hxl] at fl
        have fv := Lib.hid (fun r => CV.out (W5.drewN r) g x (HE5.out.drewN r) hb0 hb1)
        have HE6 : Hid (∀ r, E6 (W5.drewN r) b q (atNx S id g) d ∧ Ext q q wo (W5.drewN r)) := fun r => ⟨HE5.out.drewN r, ⟨HX5.out.old, HX5.out.kf.drewN r, HX5.out.bt⟩⟩
        have HFB : Hid (fitB S.L c x = (decide (x ≠ c.w0) && decide (x ≠ c.w1) && decide (valZ S.L x ≠ -1))) := rfl
        clear CE CS CL CV HE5 HX5 hgl
        go_quiet (fail)
        generalize c.w0 = a0 at *
        generalize c.w1 = a1 at *
        generalize valZ S.L x = y at *
        by_cases h0 : x = a0
        · have t0 : (x != a0) = false := by simpa using h0
          have HG : Hid (fitB S.L c x = false) := by unfold Hid; rw [HFB.out, decide_eq_false (by simpa using h0)]; rfl
          clear h0 HFB hx hx2
          as_aux_lemma =>
          go_wp2_with fail
          go_roundw
          case rel => exact ⟨i + 1, g, by go_num, by omega, .inr hg, by have := HA.out; rw [HG.out] at this; exact this, (HE6.out _).1, (HE6.out _).2⟩
          case measure => simp [intOf]; omega
        have t0 : (x != a0) = true := by simpa using h0
        by_cases h1 : x = a1
        · have t1 : (x != a1) = false := by simpa using h1
          have HG : Hid (fitB S.L c x = false) := by unfold Hid; rw [HFB.out, decide_eq_false (p := x ≠ a1) (by simpa using h1)]; simp
          clear h0 h1 HFB hx hx2
          as_aux_lemma =>
          go_wp2_with fail
          go_roundw
          case rel => exact ⟨i + 1, g, by go_num, by omega, .inr hg, by have := HA.out; rw [HG.out] at this; exact this, (HE6.out _).1, (HE6.out _).2⟩
          case measure => simp [intOf]; omega
        have t1 : (x != a1) = true := by simpa using h1
        by_cases h2 : y = -1
        · have t2 : (y != -1) = false := by simpa using h2
          have HG : Hid (fitB S.L c x = false) := by unfold Hid; rw [HFB.out, decide_eq_false (p := y ≠ -1) (by simpa using h2)]; simp
          clear h0 h1 h2 HFB hx hx2
          as_aux_lemma =>
          go_wp2_with ((go_at_call 36; refine (fv.out _).mono ?_; rintro e w' ⟨rfl, rfl⟩))
          go_roundw
          case rel => exact ⟨i + 1, g, by go_num, by omega, .inr hg, by have := HA.out; rw [HG.out] at this; exact this, (HE6.out _).1, (HE6.out _).2⟩
          case measure => simp [intOf]; omega
        · have t2 : (y != -1) = true := by simpa using h2
          have HG : Hid (fitB S.L c x = true) := by unfold Hid; rw [HFB.out, decide_eq_true (p := x ≠ a0) h0, decide_eq_true (p := x ≠ a1) h1, decide_eq_true (p := y ≠ -1) h2]; rfl
          have HR : Hid (R = (g, x)) := by unfold Hid; rw [HA.out, HG.out]; rfl
          clear h0 h1 h2 HFB hx hx2
          as_aux_lemma =>
          go_wp2_with ((go_at_call 36; refine (fv.out _).mono ?_; rintro e w' ⟨rfl, rfl⟩))
          go_ret
          rw [HR.out]
          exact ⟨rfl, (HE6.out _).1, (HE6.out _).2⟩
    · have ti : decide ((i : Int) < (c.ls.length : Int)) = false := decide_eq_false (by omega)
      have HE : Hid ((Ending.returned (.int .i32 0) = Ending.returned (.int .i32 R.2)) ∧ E6 wr b q (atNx S id R.1) d ∧ Ext q q wo wr) := by
        rw [ha.out, show c.ls.length - i = 0 from by omega]
        exact ⟨rfl, hE.out, hX.out⟩
      clear hE hX ha HH
      go_wp2_with fail
      go_ret
      exact HE.out
end Go.Proofs.YtkckodpfhlpkgaaGreat
