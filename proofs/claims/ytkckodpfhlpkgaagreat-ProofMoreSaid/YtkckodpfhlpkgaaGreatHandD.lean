/- A hand's walk: its contract. The contracts of begin, Check, Proves and Follows. The contracts of Check, Proves and Follows. The laws' example: proofAlive is true. -/
import Derived.Test.YtkckodpfhlpkgaaGreatHandT
import Derived.Test.YtkckodpfhlpkgaaGreatHandN
namespace Go.Proofs.YtkckodpfhlpkgaaGreat
open Go.RowKit LitM TrailM EngM

/-- A log in memory, in blocks below Bd. -/
structure RdS (w : World) (Bd : Nat) (A : Option Addr) (n : Nat) (log : List (Bool × List Int)) : Prop where
  len : log.length = n
  at_ : 0 < n → ∃ b o, A = some ⟨b, o, none⟩ ∧ b < Bd ∧ ∀ j, j < n → ∃ Aj nj cj, w.cell? ⟨b, o + j * 2, none⟩ = some (.bool (log.getD j (false, [])).1) ∧ w.cell? ⟨b, o + j * 2 + 1, none⟩ = some (.slice Aj nj cj) ∧ Rd .i32 w Bd Aj nj (log.getD j (false, [])).2
theorem RdS.keep {w w' : World} {B n : Nat} {A : Option Addr} {log : List (Bool × List Int)} (h : RdS w B A n log) (hk : ∀ p : Addr, p.block < B → w'.cell? p = w.cell? p) : RdS w' B A n log :=
  ⟨h.len, fun hn => by
    obtain ⟨b, o, e, hb, hc⟩ := h.at_ hn
    refine ⟨b, o, e, hb, fun j hj => ?_⟩
    obtain ⟨Aj, nj, cj, h1, h2, h3⟩ := hc j hj
    exact ⟨Aj, nj, cj, (hk ⟨b, o + j * 2, none⟩ hb).trans h1, (hk ⟨b, o + j * 2 + 1, none⟩ hb).trans h2, h3.keep hk⟩⟩
theorem RdS.more {w : World} {B B' n : Nat} {A : Option Addr} {log : List (Bool × List Int)} (h : RdS w B A n log) (hB : B ≤ B') : RdS w B' A n log :=
  ⟨h.len, fun hn => by
    obtain ⟨b, o, e, hb, hc⟩ := h.at_ hn
    refine ⟨b, o, e, by omega, fun j hj => ?_⟩
    obtain ⟨Aj, nj, cj, h1, h2, h3⟩ := hc j hj
    exact ⟨Aj, nj, cj, h1, h2, h3.more hB⟩⟩
theorem RdS.below {w w' : World} {B n : Nat} {A : Option Addr} {log : List (Bool × List Int)} (h : RdS w B A n log) (hb : Below B w w') : RdS w' B A n log := h.keep fun _ hp => hb.cell hp
theorem RdS.take {w : World} {B n k : Nat} {A : Option Addr} {log : List (Bool × List Int)} (h : RdS w B A n log) (hk : k ≤ n) : RdS w B A k (log.take k) := by
  have hl := h.len
  refine ⟨by rw [List.length_take]; omega, fun hn => ?_⟩
  obtain ⟨b, o, e, hb, hc⟩ := h.at_ (by omega)
  refine ⟨b, o, e, hb, fun j hj => ?_⟩
  have : (log.take k).getD j (false, []) = log.getD j (false, []) := by rw [List.getD, List.getD, List.getElem?_take_of_lt hj]
  rw [this]; exact hc j (by omega)
section
variable {B n nx k : Nat} {w0 w w' : World} {h : HdC} {c c' : TmC} {S S' : Eng} {q q' : Pm} {m : List Int → Nat}
theorem walk_yes {s : Bool × List Int} {r : List (Bool × List Int)} {i : Nat} (h : StepOk m s) : walkZ m (s :: r) i = walkZ (nextM m s) r (i + 1) := by
  rw [walkZ, if_pos h]
theorem walk_no {s : Bool × List Int} {r : List (Bool × List Int)} {i : Nat} (h : ¬ StepOk m s) : walkZ m (s :: r) i = (i : Int) := by
  rw [walkZ, if_neg h]
/-- What take leaves of either kind of step. -/
theorem htake_any (H : HdG B w0 w h c S q) (HO : HOk h c S n nx k m) (hroom : c.room = 1048576) (hnp : c.np ≤ 90000) (hk : k ≤ 15000) {G : Nat} (hG : h.given = (G : Int)) (i : Nat) (hnx : nx ≤ G + i) (hnum : G + i < c.np) (hi : i < h.nc) (A : Option Addr) (mm cp : Nat) (g : Bool) (xs : List Int) (hr : Rd .i32 w0 B A mm xs) (h32 : In32 xs) (hm : mm ≤ 10000) (hf : ∀ x ∈ xs, LitM.one x = true ∧ varZ x ≤ (n : Int)) :
    Calls Tryz.prog 19 #[.pointer (some ⟨h.bh, 0, none⟩), .int .i64 (i : Nat), .agg #[.bool g, .slice A mm cp]] w (TakTo B w0 h c n (G + i + 1) k m (g, xs)) := by
  cases g with
  | true =>
    refine (htake_gone H HO hnp hk (by omega) (i : Nat) A mm cp xs hr hm hf).mono fun e w' ht => ?_
    rcases ht with a | ⟨a1, a2, h', c', S', q', a3, a4, a5⟩
    · exact .inl a
    · exact .inr ⟨a1, a2, h', c', S', q', a3, a4.mono (by omega) (Nat.le_refl _), a5⟩
  | false => exact htake_more H HO hroom hnp hk hG i hnx hnum hi A mm cp xs hr h32 hm hf
/-- What walk leaves: of a log that is right to its end the hand, too. -/
def WlkTo (B : Nat) (w0 : World) (bh n : Nat) (z : Int) (e : Ending) (w' : World) : Prop :=
  e = .returned (.int .i64 z) ∧ B ≤ w'.heap.size ∧ Below B w0 w' ∧ (z = -1 → ∃ h c S q nx k m, HdG B w0 w' h c S q ∧ HOk h c S n nx k m ∧ h.bh = bh ∧ k ≤ 15000)
set_option maxHeartbeats 6400000 in
set_option maxRecDepth 100000 in
theorem hwalk_any (H : HdG B w0 w h c S q) (HO : HOk h c S n nx k m) (hroom : c.room = 1048576) (hnp : c.np ≤ 90000) {G N : Nat} (hk : k + N ≤ 15000) (hG : h.given = (G : Int)) (hnx : nx ≤ G) (hnum : G + N ≤ c.np) (hN : N ≤ h.nc) (A : Option Addr) (cp : Nat) (log : List (Bool × List Int)) (hr : RdS w0 B A N log) (h32 : ∀ s ∈ log, In32 s.2) (hm : ∀ s ∈ log, s.2.length ≤ 10000) (hf : ∀ s ∈ log, ∀ x ∈ s.2, LitM.one x = true ∧ varZ x ≤ (n : Int)) :
    Calls Tryz.prog 13 #[.pointer (some ⟨h.bh, 0, none⟩), .slice A N cp] w (WlkTo B w0 h.bh n (walkZ m log 0)) := by
  have hl := hr.len
  have hbh : ∃ bh, bh = h.bh := ⟨_, rfl⟩
  obtain ⟨bh, hbh⟩ := hbh
  rw [← hbh]
  have HA0 : Hid (∃ h' c' S' q' m', HdG B w0 w h' c' S' q' ∧ HOk h' c' S' n (G + 0) (k + 0) m' ∧ h'.bh = bh ∧ h'.given = (G : Int) ∧ N ≤ h'.nc ∧ c'.np = c.np ∧ c'.room = 1048576 ∧ walkZ m log 0 = walkZ m' (log.drop 0) 0) := ⟨h, c, S, q, m, H, HO.mono hnx (Nat.le_refl _), hbh.symm, hG, hN, rfl, hroom, rfl⟩
  have HR := Lib.hid hr
  have H32 := Lib.hid h32
  have HM := Lib.hid hm
  have HF := Lib.hid hf
  have HL := Lib.hid hl
  clear H HO hr h32 hm hf hl hG hnx hN hroom hbh
  generalize walkZ m log 0 = Z at *
  go_enter Tryz.func13, Tryz.ntmps13
  go_wp2_with fail
  go_loopw [9] (fun v wr => ∃ i : Nat, v = .int .i64 (i : Int) ∧ i ≤ N ∧ Hid (∃ h' c' S' q' m', HdG B w0 wr h' c' S' q' ∧ HOk h' c' S' n (G + i) (k + i) m' ∧ h'.bh = bh ∧ h'.given = (G : Int) ∧ N ≤ h'.nc ∧ c'.np = c.np ∧ c'.room = 1048576 ∧ Z = walkZ m' (log.drop i) i)) (fun v _ => N - (intOf v).toNat)
  case atStart => exact ⟨0, rfl, by omega, HA0⟩
  case round =>
    clear HA0
    obtain ⟨i, rfl, hi, hh⟩ := hrel
    obtain ⟨h', c', S', q', m', H, HO, e1, e2, e3, e4, e5, e6⟩ := hh.out
    clear hh
    by_cases hlt : i < N
    · have tk : decide ((i : Int) < (N : Int)) = true := decide_eq_true (by omega)
      have tk2 : decide (i < N) = true := decide_eq_true hlt
      have hil : i < log.length := by rw [HL.out]; exact hlt
      obtain ⟨b, o, hA, hb, hc⟩ := HR.out.at_ (by omega)
      subst hA
      obtain ⟨Aj, nj, cj, c0, c1, hrd⟩ := hc i hlt
      have hmem : log.getD i (false, []) ∈ log := by rw [List.getD, List.getElem?_eq_getElem hil]; exact List.getElem_mem hil
      have hdr : log.drop i = log.getD i (false, []) :: log.drop (i + 1) := by
        rw [List.drop_eq_getElem_cons hil, List.getD, List.getElem?_eq_getElem hil]; rfl
      have h32 := H32.out _ hmem
      have hm := HM.out _ hmem
      have hf := HF.out _ hmem
      rw [hdr] at e6
      obtain ⟨st, hst⟩ : ∃ st, st = log.getD i (false, []) := ⟨_, rfl⟩
      rw [← hst] at c0 hrd h32 hm hf e6
      obtain ⟨g, xs⟩ := st
      have hbo := H.tm.eng.out
      have d0 : wr.cell? ⟨b, o + i * 2, none⟩ = some (.bool g) := (hbo.cell (p := ⟨b, o + i * 2, none⟩) hb).trans c0
      have d1 : wr.cell? ⟨b, o + i * 2 + 1, none⟩ = some (.slice Aj nj cj) := (hbo.cell (p := ⟨b, o + i * 2 + 1, none⟩) hb).trans c1
      have hnj : nj ≤ 10000 := by have := hrd.len; have hm : xs.length ≤ 10000 := hm; omega
      have HTk : Hid (∀ V, Below wr.heap.size wr V → Calls Tryz.prog 19 #[.pointer (some ⟨bh, 0, none⟩), .int .i64 (i : Nat), .agg #[.bool g, .slice Aj nj cj]] V (TakTo B w0 h' c' n (G + i + 1) (k + i) m' (g, xs))) := fun V hV => by
        rw [← e1]
        exact htake_any (H.below hV) HO e5 (by omega) (by omega) e2 i (Nat.le_refl _) (by omega) (by omega) Aj nj cj g xs hrd h32 hnj hf
      have E1 := Lib.hid e1
      have E2 := Lib.hid e2
      have E3 := Lib.hid e3
      have E4 := Lib.hid e4
      have E5 := Lib.hid e5
      have E6 := Lib.hid e6
      clear H HO e1 e2 e3 e4 e5 e6 hrd h32 hm hf hbo hst hdr hmem c0 c1 hc
      go_upto_region 4 with (fail)
      obtain ⟨w2, hw2⟩ : ∃ w2, w2 = wr.alloc (.cells #[.bool g, .slice Aj nj cj] 41) := ⟨_, rfl⟩
      have hb2 : Below wr.heap.size wr w2 := by rw [hw2]; exact (Below.refl _ _).alloc (Nat.le_refl _) _
      have x0 : w2.cell? ⟨wr.heap.size, 0, none⟩ = some (.bool g) := by rw [hw2, Lib.cell_of_heap (blk_new wr _)]; rfl
      have x1 : w2.cell? ⟨wr.heap.size, 1, none⟩ = some (.slice Aj nj cj) := by rw [hw2, Lib.cell_of_heap (blk_new wr _)]; rfl
      rw [← hw2]
      have HT2 := Lib.hid (HTk.out w2 hb2)
      clear HTk hb2 hw2 d0 d1
      go_wp2_with fail
      refine HT2.out.mono ?_
      intro e w3 ht
      rcases ht with ⟨rfl, hno, hsz, hbl⟩ | ⟨rfl, hyes, h2, c2, S2, q2, a3, a4, a5⟩
      · have HFin : Hid (WlkTo B w0 bh n Z (.returned (.int .i64 (i : Int))) w3) := by
          have hz : Z = (i : Int) := E6.out.trans (walk_no hno)
          rw [hz]
          exact ⟨rfl, hsz, hbl, fun e => by omega⟩
        clear hno hsz hbl HT2
        go_wp2_with fail
        go_ret
        exact HFin.out
      · have HN : Hid (∃ h' c' S' q' m', HdG B w0 w3 h' c' S' q' ∧ HOk h' c' S' n (G + (i + 1)) (k + (i + 1)) m' ∧ h'.bh = bh ∧ h'.given = (G : Int) ∧ N ≤ h'.nc ∧ c'.np = c.np ∧ c'.room = 1048576 ∧ Z = walkZ m' (log.drop (i + 1)) (i + 1)) :=
          ⟨h2, c2, S2, q2, _, a3, a4, a5.1.trans E1.out, a5.2.1.trans E2.out, by rw [a5.2.2.1]; exact E3.out, a5.2.2.2.1.trans E4.out, a5.2.2.2.2.trans E5.out, E6.out.trans (walk_yes hyes)⟩
        clear hyes a3 a4 a5 HT2
        go_wp2_with fail
        go_roundw
        case rel => exact ⟨i + 1, by go_num, by omega, HN⟩
        case measure => simp [intOf]; omega
    · have tk : decide ((i : Int) < (N : Int)) = false := decide_eq_false (by omega)
      have HFin : Hid (WlkTo B w0 bh n Z (.returned (.int .i64 (-1))) wr) := by
        have hz : Z = -1 := by
          rw [e6, List.drop_eq_nil_of_le (by rw [HL.out]; omega), walkZ]
        rw [hz]
        exact ⟨rfl, H.tm.eng.hs, H.tm.eng.out, fun _ => ⟨h', c', S', q', _, _, m', H, HO, e1, by omega⟩⟩
      clear H HO e1 e2 e3 e4 e5 e6
      go_wp2_with fail
      go_ret
      exact HFin.out
end
end Go.Proofs.YtkckodpfhlpkgaaGreat
namespace Go.Proofs.YtkckodpfhlpkgaaGreat
open Go.RowKit LitM TrailM EngM CnfP

/-- May a formula, a goal and a log be looked at? -/
def fitB (v : Int) (cs : List (List Int)) (gl : List Int) (log : List (Bool × List Int)) : Bool := rightF v cs && decide (v ≠ 262144) && clauseB v gl && log.all fun s => clauseB v s.2
theorem clauseB_all {v : Int} {c : List Int} (h : clauseB v c = true) : ∀ x ∈ c, LitM.one x = true ∧ varZ x ≤ v := fun x hx => by
  unfold clauseB at h
  have := List.all_eq_true.1 h x hx
  unfold litB at this
  simpa using this
/-- What begin leaves. -/
def BgnTo (B : Nat) (w0 : World) (v : Int) (cs : List (List Int)) (gl : List Int) (log : List (Bool × List Int)) (nf N : Nat) (e : Ending) (w' : World) : Prop :=
  (fitB v cs gl log = false ∧ e = .returned (.tuple #[.pointer none, .int .i64 91]) ∧ B ≤ w'.heap.size ∧ Below B w0 w') ∨
  (fitB v cs gl log = true ∧ ∃ h c S q, e = .returned (.tuple #[.pointer (some ⟨h.bh, 0, none⟩), .int .i64 0]) ∧ HdG B w0 w' h c S q ∧ HOk h c S v.toNat nf nf (handM cs fun _ => 0) ∧ h.given = (nf : Int) ∧ h.nc = N ∧ c.np = nf + N ∧ c.room = 1048576)
section
variable {B : Nat} {w0 w w' : World}
set_option maxHeartbeats 12800000 in
set_option maxRecDepth 100000 in
theorem begin_any (hs0 : B ≤ w.heap.size) (hB0 : Below B w0 w) {v : Int} (hv0 : -9223372036854775808 ≤ v) (hv1 : v ≤ 9223372036854775807) (hv : v ≤ 4000 ∨ 262144 ≤ v) {nf cf N cn m cm : Nat} (hnf : nf ≤ 1000) (hN : N ≤ 1000) (A : Option Addr) (cs : List (List Int)) (hr : RdF w0 B A nf cs) (h32 : ∀ c ∈ cs, In32 c) (hlen : ∀ c ∈ cs, c.length * 4 ≤ 140737488351232)
    (Ag : Option Addr) (gl : List Int) (hg : Rd .i32 w0 B Ag m gl) (hg32 : In32 gl) (hgm : m ≤ 10000) (Al : Option Addr) (log : List (Bool × List Int)) (hl : RdS w0 B Al N log) (hl32 : ∀ s ∈ log, In32 s.2) (hlm : ∀ s ∈ log, s.2.length ≤ 10000) :
    Calls Tryz.prog 12 #[.agg #[.int .i64 v, .slice A nf cf], .slice Ag m cm, .slice Al N cn] w (BgnTo B w0 v cs gl log nf N) := by
  obtain ⟨w1, hw1⟩ : ∃ w1, w1 = w.alloc (.cells #[.int .i64 v, .slice A nf cf] 24) := ⟨_, rfl⟩
  have hbw1 : Below w.heap.size w w1 := by rw [hw1]; exact (Below.refl _ _).alloc (Nat.le_refl _) _
  have x0 : w1.cell? ⟨w.heap.size, 0, none⟩ = some (.int .i64 v) := by rw [hw1, Lib.cell_of_heap (blk_new w _)]; rfl
  have x1 : w1.cell? ⟨w.heap.size, 1, none⟩ = some (.slice A nf cf) := by rw [hw1, Lib.cell_of_heap (blk_new w _)]; rfl
  have hl1 : w.heap.size < w1.heap.size := by rw [hw1]; simp
  have hs1 : B ≤ w1.heap.size := Nat.le_trans hs0 hbw1.size
  have hB1 : Below B w0 w1 := hB0.trans (hbw1.mono hs0)
  have HX : Hid (∀ W, Below w1.heap.size w1 W → W.cell? ⟨w.heap.size, 0, none⟩ = some (.int .i64 v) ∧ W.cell? ⟨w.heap.size, 1, none⟩ = some (.slice A nf cf) ∧ B ≤ W.heap.size ∧ Below B w0 W) := fun W hW => ⟨(hW.cell (p := ⟨w.heap.size, 0, none⟩) hl1).trans x0, (hW.cell (p := ⟨w.heap.size, 1, none⟩) hl1).trans x1, Nat.le_trans hs1 hW.size, hB1.trans (hW.mono hs1)⟩
  have HRt : Hid (∀ W, Below w1.heap.size w1 W → Calls Tryz.prog 16 #[.agg #[.int .i64 v, .slice A nf cf]] W fun e w' => e = .returned (.bool (rightF v cs)) ∧ Below w1.heap.size w1 w') := fun W hW => by
    obtain ⟨_, _, h3, h4⟩ := HX.out W hW
    exact (rightF_any v A nf cf cs W ((hr.below h4).more h3) (Ok32.of fun c hc => ⟨by have := hlen c hc; omega, h32 c hc⟩) (by omega) hv0 hv1).mono fun e w' ⟨a, b⟩ => ⟨a, hW.trans (b.mono hW.size)⟩
  have HWg : Hid (∀ W, Below w1.heap.size w1 W → Calls Tryz.prog 17 #[.slice Ag m cm, .int .i64 v] W fun e w' => e = .returned (.bool (clauseB v gl)) ∧ Below w1.heap.size w1 w') := fun W hW => by
    obtain ⟨_, _, h3, h4⟩ := HX.out W hW
    exact (pwithin_any Ag m cm gl v W ((hg.below h4).more h3) hg32 (by omega)).mono fun e w' ⟨a, b⟩ => ⟨a, hW.trans (b.mono hW.size)⟩
  have HL := Lib.hid hl
  have HLL := Lib.hid hl.len
  have HL32 := Lib.hid hl32
  have HLM := Lib.hid hlm
  have HR := Lib.hid hr
  have H32 := Lib.hid h32
  have HLEN := Lib.hid hlen
  have HW1 := Lib.hid hw1
  have hbr : Below w1.heap.size w1 w1 := Below.refl _ _
  have HV := Lib.hid hv
  clear hr h32 hlen hg hg32 hl hl32 hlm hw1 hbw1 hs0 hB0 hv
  go_enter Tryz.func12, Tryz.ntmps12
  go_upto_region 1 with (fail)
  rw [← HW1.out]
  cases hrt : rightF v cs with
  | false =>
    rw [hrt] at HRt
    have HNo : Hid (fitB v cs gl log = false) := by unfold Hid fitB; rw [hrt]; rfl
    clear hrt
    go_wp2_with fail
    refine (HRt.out _ hbr).mono ?_
    rintro e w2 ⟨rfl, hb2⟩
    obtain ⟨_, _, h3, h4⟩ := HX.out w2 hb2
    have HFin : Hid (BgnTo B w0 v cs gl log nf N (.returned (.tuple #[.pointer none, .int .i64 91])) w2) := .inl ⟨HNo.out, rfl, h3, h4⟩
    clear hb2 h3 h4 HRt HWg HX
    go_wp2_with fail
    go_ret2
    exact HFin.out
  | true =>
  rw [hrt] at HRt
  by_cases hm : v = 262144
  · have HNo : Hid (fitB v cs gl log = false) := by unfold Hid fitB; rw [hm]; simp
    have tv : (v == 262144) = true := by rw [beq_iff_eq]; exact hm
    clear hrt hm
    go_wp2_with fail
    refine (HRt.out _ hbr).mono ?_
    rintro e w2 ⟨rfl, hb2⟩
    obtain ⟨y0, y1, h3, h4⟩ := HX.out w2 hb2
    have HFin : Hid (BgnTo B w0 v cs gl log nf N (.returned (.tuple #[.pointer none, .int .i64 91])) w2) := .inl ⟨HNo.out, rfl, h3, h4⟩
    clear hb2 h3 h4 HRt HWg HX
    go_wp2_with fail
    go_ret2
    exact HFin.out
  have tv : (v == 262144) = false := by rw [beq_eq_false_iff_ne]; exact hm
  cases hgl : clauseB v gl with
  | false =>
    rw [hgl] at HWg
    have HNo : Hid (fitB v cs gl log = false) := by unfold Hid fitB; rw [hgl]; simp
    clear hrt hm hgl
    go_wp2_with fail
    refine (HRt.out _ hbr).mono ?_
    rintro e w2 ⟨rfl, hb2⟩
    obtain ⟨y0, y1, _, _⟩ := HX.out w2 hb2
    have HWg2 := Lib.hid (HWg.out w2 hb2)
    clear hb2 HRt HWg
    go_wp2_with fail
    refine HWg2.out.mono ?_
    rintro e w3 ⟨rfl, hb3⟩
    obtain ⟨_, _, h3, h4⟩ := HX.out w3 hb3
    have HFin : Hid (BgnTo B w0 v cs gl log nf N (.returned (.tuple #[.pointer none, .int .i64 91])) w3) := .inl ⟨HNo.out, rfl, h3, h4⟩
    clear hb3 h3 h4 HX HWg2
    go_wp2_with fail
    go_ret2
    exact HFin.out
  | true =>
  rw [hgl] at HWg
  have hvb := rightF_v hrt
  have HRT := Lib.hid hrt
  have HGL := Lib.hid hgl
  have HM := Lib.hid hm
  clear hrt hm hgl
  go_wp2_with fail
  refine (HRt.out _ hbr).mono ?_
  rintro e w2 ⟨rfl, hb2⟩
  obtain ⟨y0, y1, _, _⟩ := HX.out w2 hb2
  have HWg2 := Lib.hid (HWg.out w2 hb2)
  clear hb2 HRt HWg
  go_wp2_with fail
  refine HWg2.out.mono ?_
  rintro e w3 ⟨rfl, hb3⟩
  have HB3 := Lib.hid hb3
  clear y0 y1 HWg2 hb3
  go_wp2_with fail
  go_loopw [27] (fun u wr => ∃ j : Nat, u = .int .i64 (j : Int) ∧ j ≤ N ∧ Hid (∀ i, i < j → clauseB v (log.getD i (false, [])).2 = true) ∧ Hid (Below w1.heap.size w1 wr)) (fun u _ => N - (intOf u).toNat)
  case atStart => exact ⟨0, rfl, by omega, Lib.hid (fun i hi => by omega), HB3⟩
  case round =>
    clear HB3
    obtain ⟨j, rfl, hj, hall, hbr2⟩ := hrel
    obtain ⟨y0, y1, hsr, hBr⟩ := HX.out wr hbr2.out
    by_cases hlt : j < N
    · have tk : decide ((j : Int) < (N : Int)) = true := decide_eq_true (by omega)
      have tk2 : decide (j < N) = true := decide_eq_true hlt
      have hjl : j < log.length := by rw [HLL.out]; exact hlt
      obtain ⟨b, o, hA, hb, hc⟩ := HL.out.at_ (by omega)
      subst hA
      obtain ⟨Aj, nj, cj, c0, c1, hrd⟩ := hc j hlt
      have hmem : log.getD j (false, []) ∈ log := by rw [List.getD, List.getElem?_eq_getElem hjl]; exact List.getElem_mem hjl
      have d0 : wr.cell? ⟨b, o + j * 2, none⟩ = some (.bool (log.getD j (false, [])).1) := (hBr.cell (p := ⟨b, o + j * 2, none⟩) hb).trans c0
      have d1 : wr.cell? ⟨b, o + j * 2 + 1, none⟩ = some (.slice Aj nj cj) := (hBr.cell (p := ⟨b, o + j * 2 + 1, none⟩) hb).trans c1
      have hnj : nj ≤ 10000 := by have := hrd.len; have := HLM.out _ hmem; omega
      obtain ⟨W2, hW2⟩ : ∃ W2, W2 = wr.alloc (.cells #[.bool (log.getD j (false, [])).1, .slice Aj nj cj] 41) := ⟨_, rfl⟩
      have hbW2 : Below w1.heap.size w1 W2 := by rw [hW2]; exact hbr2.out.alloc hbr2.out.size _
      obtain ⟨q0, q1, hs2, hB2⟩ := HX.out W2 hbW2
      have z1 : W2.cell? ⟨wr.heap.size, 1, none⟩ = some (.slice Aj nj cj) := by rw [hW2, Lib.cell_of_heap (blk_new wr _)]; rfl
      have HWj : Hid (Calls Tryz.prog 17 #[.slice Aj nj cj, .int .i64 v] W2 fun e w' => e = .returned (.bool (clauseB v (log.getD j (false, [])).2)) ∧ Below w1.heap.size w1 w') := (pwithin_any Aj nj cj _ v W2 ((hrd.below hB2).more hs2) (HL32.out _ hmem) (by omega)).mono fun e w' ⟨a, b⟩ => ⟨a, hbW2.trans (b.mono hbW2.size)⟩
      have HMem := Lib.hid hmem
      clear hrd hmem hnj hc c0 c1 hbW2 hs2 hB2 hsr hBr hvb
      obtain ⟨g, hgd⟩ : ∃ g, g = (log.getD j (false, [])).1 := ⟨_, rfl⟩
      rw [← hgd] at d0 hW2
      clear hgd
      cases hcj : clauseB v (log.getD j (false, [])).2 with
      | false =>
        rw [hcj] at HWj
        have HNo : Hid (fitB v cs gl log = false) := by
          unfold Hid fitB
          have : (log.all fun s => clauseB v s.2) = false := by
            rw [List.all_eq_false]
            exact ⟨_, HMem.out, by rw [hcj]; simp⟩
          rw [this]; simp
        have HW2 := Lib.hid hW2
        clear hcj hall hbr2 y0 y1
        clear hW2
        go_upto_region 6 with (fail)
        rw [← HW2.out]
        go_wp2_with fail
        refine HWj.out.mono ?_
        rintro e w5 ⟨rfl, hb5⟩
        obtain ⟨_, _, h3, h4⟩ := HX.out w5 hb5
        have HFin : Hid (BgnTo B w0 v cs gl log nf N (.returned (.tuple #[.pointer none, .int .i64 91])) w5) := .inl ⟨HNo.out, rfl, h3, h4⟩
        clear hb5 h3 h4 HX HWj
        go_wp2_with fail
        go_ret2
        exact HFin.out
      | true =>
        rw [hcj] at HWj
        have HAll : Hid (∀ i, i < j + 1 → clauseB v (log.getD i (false, [])).2 = true) := fun i hi => by
          by_cases e : i < j
          · exact hall.out i e
          · obtain rfl : i = j := by omega
            exact hcj
        have HW2 := Lib.hid hW2
        clear hcj hall hbr2 y0 y1
        clear hW2
        go_upto_region 6 with (fail)
        rw [← HW2.out]
        go_wp2_with fail
        refine HWj.out.mono ?_
        rintro e w5 ⟨rfl, hb5⟩
        have HB5 := Lib.hid hb5
        clear hb5 HWj
        go_wp2_with fail
        go_roundw
        case rel => exact ⟨j + 1, by go_num, by omega, HAll, HB5⟩
        case measure => simp [intOf]; omega
    · have tk : decide ((j : Int) < (N : Int)) = false := decide_eq_false (by omega)
      obtain rfl : j = N := by omega
      have hallL : ∀ s ∈ log, clauseB v s.2 = true := fun s hs => by
        obtain ⟨i, hi, rfl⟩ := List.getElem_of_mem hs
        have := hall.out i (by rw [← HLL.out]; exact hi)
        rwa [List.getD, List.getElem?_eq_getElem hi] at this
      have HYes : Hid (fitB v cs gl log = true) := by
        unfold Hid fitB
        rw [HRT.out, HGL.out, decide_eq_true HM.out, List.all_eq_true.2 hallL]; rfl
      obtain ⟨k, rfl⟩ : ∃ k : Nat, v = (k : Int) := ⟨v.toNat, by omega⟩
      have hk4 : k ≤ 4000 := by have := HV.out; have := HM.out; omega
      have hfc : ∀ c ∈ cs, ∀ x ∈ c, LitM.one x = true ∧ varZ x ≤ (k : Int) := fun c hc => by
        have h := HRT.out
        unfold rightF at h
        simp only [Bool.and_eq_true, List.all_eq_true] at h
        exact clauseB_all (h.2 c hc)
      have HNh := Lib.hid (hnew_any (B := B) (w0 := w0) (w := wr) (n := k) hsr hBr hk4 (nf := nf) (steps := j) (cf := cf) hnf hN A cs HR.out H32.out HLEN.out hfc)
      clear hsr hBr hfc hallL hall hbr2 hvb HX
      go_wp2_with fail
      refine HNh.out.mono ?_
      rintro e w5 ⟨h, c, S, q, rfl, a1, a2, a3⟩
      have HFin : Hid (BgnTo B w0 (k : Int) cs gl log nf j (.returned (.tuple #[.pointer (some ⟨h.bh, 0, none⟩), .int .i64 0])) w5) := .inr ⟨HYes.out, h, c, S, q, rfl, a1, a2, a3⟩
      clear a1 a2 a3 HNh
      go_wp2_with fail
      go_ret2
      exact HFin.out
end
end Go.Proofs.YtkckodpfhlpkgaaGreat
namespace Go.Proofs.YtkckodpfhlpkgaaGreat
open Go.RowKit LitM TrailM EngM CnfP

theorem rd_nil {w : World} {B : Nat} {A : Option Addr} : Rd .i32 w B A 0 [] := ⟨rfl, fun h => absurd h (by omega)⟩
theorem rds_nil {w : World} {B : Nat} {A : Option Addr} : RdS w B A 0 [] := ⟨rfl, fun h => absurd h (by omega)⟩
/-- What Check answers. -/
noncomputable def chkV (v : Int) (cs : List (List Int)) (log : List (Bool × List Int)) : Int := if fitB v cs [] log = true then walkZ (handM cs fun _ => 0) log 0 else 0
def chkE (v : Int) (cs : List (List Int)) (log : List (Bool × List Int)) : Int := if fitB v cs [] log = true then 0 else 91
theorem log_fits {v : Int} {cs : List (List Int)} {gl : List Int} {log : List (Bool × List Int)} (h : fitB v cs gl log = true) : 0 ≤ v ∧ (∀ s ∈ log, ∀ x ∈ s.2, LitM.one x = true ∧ varZ x ≤ v) ∧ ∀ x ∈ gl, LitM.one x = true ∧ varZ x ≤ v := by
  unfold fitB at h
  simp only [Bool.and_eq_true, List.all_eq_true] at h
  exact ⟨(rightF_v h.1.1.1).1, fun s hs => clauseB_all (h.2 s hs), clauseB_all h.1.2⟩
section
variable {w : World}
set_option maxHeartbeats 6400000 in
set_option maxRecDepth 100000 in
theorem pcheck_any {v : Int} (hv0 : -9223372036854775808 ≤ v) (hv1 : v ≤ 9223372036854775807) (hv : v ≤ 4000 ∨ 262144 ≤ v) {nf cf N cn : Nat} (hnf : nf ≤ 1000) (hN : N ≤ 1000) (A : Option Addr) (cs : List (List Int)) (hr : RdF w w.heap.size A nf cs) (h32 : ∀ c ∈ cs, In32 c) (hlen : ∀ c ∈ cs, c.length * 4 ≤ 140737488351232)
    (Al : Option Addr) (log : List (Bool × List Int)) (hl : RdS w w.heap.size Al N log) (hl32 : ∀ s ∈ log, In32 s.2) (hlm : ∀ s ∈ log, s.2.length ≤ 10000) :
    Calls Tryz.prog 7 #[.agg #[.int .i64 v, .slice A nf cf], .slice Al N cn] w fun e w' => e = .returned (.tuple #[.int .i64 (chkV v cs log), .int .i64 (chkE v cs log)]) ∧ Below w.heap.size w w' := by
  have hbw1 : Below w.heap.size w (w.alloc (.cells #[.int .i64 v, .slice A nf cf] 24)) := (Below.refl _ _).alloc (Nat.le_refl _) _
  have HBg := Lib.hid (begin_any (B := w.heap.size) (w0 := w) hbw1.size hbw1 hv0 hv1 hv (cn := cn) (cf := cf) (m := 0) (cm := 0) hnf hN A cs hr h32 hlen none [] rd_nil (In32.of (by simp)) (by omega) Al log hl hl32 hlm)
  have HL := Lib.hid hl
  have HL32 := Lib.hid hl32
  have HLM := Lib.hid hlm
  clear hr h32 hlen hl hl32 hlm hbw1
  go_enter Tryz.func7, Tryz.ntmps7
  go_wp2_with fail
  refine HBg.out.mono ?_
  intro e w1 ht
  rcases ht with ⟨hf, rfl, _, hb⟩ | ⟨hf, h, c, S, q, rfl, H, HO, e1, e2, e3, e4⟩
  · have EV : Hid (chkV v cs log = 0 ∧ chkE v cs log = 91) := by unfold Hid chkV chkE; rw [hf]; simp
    have HB := Lib.hid hb
    clear hf hb HBg
    go_wp2_with fail
    go_ret2
    rw [EV.out.1, EV.out.2]
    exact ⟨rfl, HB.out⟩
  · have EV : Hid (chkV v cs log = walkZ (handM cs fun _ => 0) log 0 ∧ chkE v cs log = 0) := by unfold Hid chkV chkE; rw [hf]; simp
    obtain ⟨hv2, hfl, _⟩ := log_fits hf
    have HWk := Lib.hid (hwalk_any (n := v.toNat) H HO e4 (by omega) (G := nf) (N := N) (by omega) e1 (Nat.le_refl _) (by omega) (by omega) Al cn log HL.out HL32.out HLM.out (fun s hs x hx => ⟨(hfl s hs x hx).1, by have := (hfl s hs x hx).2; omega⟩))
    clear hf H HO e1 e2 e3 e4 hfl HBg hv2
    go_wp2_with fail
    refine HWk.out.mono ?_
    rintro e w2 ⟨rfl, _, hb, _⟩
    have HB := Lib.hid hb
    clear hb HWk
    go_wp2_with fail
    go_ret2
    rw [EV.out.1, EV.out.2]
    exact ⟨rfl, HB.out⟩
set_option maxHeartbeats 1600000 in
set_option maxRecDepth 100000 in
theorem hwalk_nil (b : Nat) (A : Option Addr) (c : Nat) (w : World) : Calls Tryz.prog 13 #[.pointer (some ⟨b, 0, none⟩), .slice A 0 c] w fun e w' => e = .returned (.int .i64 (-1)) ∧ w = w' := by
  go_enter Tryz.func13, Tryz.ntmps13
  go_wp2_with fail
  go_loopw [9] (fun v wr => v = .int .i64 0 ∧ w = wr) (fun _ _ => 0)
  case atStart => exact ⟨rfl, rfl⟩
  case round =>
    obtain ⟨rfl, rfl⟩ := hrel
    go_wp2_with fail
    go_ret
    exact ⟨rfl, rfl⟩
/-- What Proves leaves of no log, and Follows. -/
def FlsTo (v : Int) (cs : List (List Int)) (gl : List Int) (w : World) (e : Ending) (w' : World) : Prop :=
  ∃ b, e = .returned (.tuple #[.bool b, .int .i64 (if fitB v cs gl [] = true then 0 else 91)]) ∧ (fitB v cs gl [] = false → b = false) ∧ (fitB v cs gl [] = true → (b = true ↔ Rup (fun c => handM cs (fun _ => 0) c ≠ 0) gl)) ∧ Below w.heap.size w w'
set_option maxHeartbeats 6400000 in
set_option maxRecDepth 100000 in
theorem pproves_any {v : Int} (hv0 : -9223372036854775808 ≤ v) (hv1 : v ≤ 9223372036854775807) (hv : v ≤ 4000 ∨ 262144 ≤ v) {nf cf m cm cn : Nat} (hnf : nf ≤ 1000) (A : Option Addr) (cs : List (List Int)) (hr : RdF w w.heap.size A nf cs) (h32 : ∀ c ∈ cs, In32 c) (hlen : ∀ c ∈ cs, c.length * 4 ≤ 140737488351232)
    (Ag : Option Addr) (gl : List Int) (hg : Rd .i32 w w.heap.size Ag m gl) (hg32 : In32 gl) (hgm : m ≤ 10000) (Al : Option Addr) :
    Calls Tryz.prog 9 #[.agg #[.int .i64 v, .slice A nf cf], .slice Ag m cm, .slice Al 0 cn] w (FlsTo v cs gl w) := by
  have hbw1 : Below w.heap.size w (w.alloc (.cells #[.int .i64 v, .slice A nf cf] 24)) := (Below.refl _ _).alloc (Nat.le_refl _) _
  have HBg := Lib.hid (begin_any (B := w.heap.size) (w0 := w) hbw1.size hbw1 hv0 hv1 hv (cn := cn) (cf := cf) (m := m) (cm := cm) (N := 0) hnf (by omega) A cs hr h32 hlen Ag gl hg hg32 hgm Al [] rds_nil (by simp) (by simp))
  have HG := Lib.hid hg
  have HG32 := Lib.hid hg32
  clear hr h32 hlen hg hg32 hbw1
  go_enter Tryz.func9, Tryz.ntmps9
  go_wp2_with fail
  refine HBg.out.mono ?_
  intro e w1 ht
  rcases ht with ⟨hf, rfl, _, hb⟩ | ⟨hf, h, c, S, q, rfl, H, HO, e1, e2, e3, e4⟩
  · have HFin : Hid (FlsTo v cs gl w (.returned (.tuple #[.bool false, .int .i64 91])) w1) := ⟨false, by rw [hf]; rfl, fun _ => rfl, (fun e => by rw [hf] at e; cases e), hb⟩
    clear hf hb HBg
    go_wp2_with fail
    go_ret2
    exact HFin.out
  · obtain ⟨hv2, _, hfg⟩ := log_fits hf
    obtain ⟨_, d1, _⟩ := H.cells
    have HWk := Lib.hid (hwalk_nil h.bh Al cn w1)
    have hgl : 0 < m → ∀ j, onB Ag j → j < w.heap.size := fun h0 j hj => by
      obtain ⟨g, o, e, hg, _⟩ := HG.out.at_ h0
      rw [e, onB_some] at hj
      rw [hj]; exact hg
    have HFl := Lib.hid (tfollows_any (n := v.toNat) H.tm HO.t (Nat.le_trans HO.sz.1 (by omega)) Ag m cm gl ((HG.out.below H.tm.eng.out).more H.tm.eng.hs) HG32.out (by omega) (fun h0 j hj => by
      have hj := hgl h0 j hj
      refine ⟨Nat.lt_of_lt_of_le hj H.tm.eng.hs, Classical.byContradiction fun e => ?_, Classical.byContradiction fun e => ?_⟩
      · have := H.tm.eng.own j e; omega
      · have := (H.tm.lo j e).2.1; omega) (fun x hx => ⟨(hfg x hx).1, by have := (hfg x hx).2; omega⟩) (fun e => by rw [H.tr] at e; cases e))
    have HRU : Hid (Rup (hasE S) gl ↔ Rup (fun c => handM cs (fun _ => 0) c ≠ 0) gl) := Rup.iff HO.has
    have HF := Lib.hid hf
    clear hf H HO e1 e2 e3 e4 hfg hgl HBg hv2
    go_wp2_with fail
    refine HWk.out.mono ?_
    rintro e w2 ⟨rfl, rfl⟩
    clear HWk
    go_wp2_with fail
    refine HFl.out.mono ?_
    rintro e w3 ⟨b, rfl, ⟨s, kk, d, S2, q2, a1, _⟩, hrup⟩
    have HFin : Hid (FlsTo v cs gl w (.returned (.tuple #[.bool b, .int .i64 0])) w3) := ⟨b, by rw [HF.out]; rfl, (fun e => by rw [HF.out] at e; cases e), fun _ => hrup.trans HRU.out, a1.eng.out⟩
    clear a1 hrup HFl
    go_wp2_with fail
    go_ret2
    exact HFin.out
set_option maxHeartbeats 3200000 in
set_option maxRecDepth 100000 in
theorem pfollows_any {v : Int} (hv0 : -9223372036854775808 ≤ v) (hv1 : v ≤ 9223372036854775807) (hv : v ≤ 4000 ∨ 262144 ≤ v) {nf cf m cm : Nat} (hnf : nf ≤ 1000) (A : Option Addr) (cs : List (List Int)) (hr : RdF w w.heap.size A nf cs) (h32 : ∀ c ∈ cs, In32 c) (hlen : ∀ c ∈ cs, c.length * 4 ≤ 140737488351232)
    (Ag : Option Addr) (gl : List Int) (hg : Rd .i32 w w.heap.size Ag m gl) (hg32 : In32 gl) (hgm : m ≤ 10000) :
    Calls Tryz.prog 8 #[.agg #[.int .i64 v, .slice A nf cf], .slice Ag m cm] w (FlsTo v cs gl w) := by
  have hbw1 : Below w.heap.size w (w.alloc (.cells #[.int .i64 v, .slice A nf cf] 24)) := (Below.refl _ _).alloc (Nat.le_refl _) _
  have HP := Lib.hid (pproves_any (w := w.alloc (.cells #[.int .i64 v, .slice A nf cf] 24)) hv0 hv1 hv (nf := nf) (cf := cf) (m := m) (cm := cm) (cn := 0) hnf A cs ((hr.below hbw1).more hbw1.size) h32 hlen Ag gl ((hg.below hbw1).more hbw1.size) hg32 hgm none)
  have HB := Lib.hid hbw1
  clear hr h32 hlen hg hg32 hbw1
  go_enter Tryz.func8, Tryz.ntmps8
  go_wp2_with fail
  refine HP.out.mono ?_
  rintro e w2 ⟨b, rfl, h1, h2, h3⟩
  have HFin : Hid (FlsTo v cs gl w (.returned (.tuple #[.bool b, .int .i64 (if fitB v cs gl [] = true then 0 else 91)])) w2) := ⟨b, rfl, h1, h2, HB.out.trans (h3.mono HB.out.size)⟩
  clear h1 h2 h3 HP
  generalize (if fitB v cs gl [] = true then (0 : Int) else 91) = er at *
  go_wp2_with fail
  go_ret2
  exact HFin.out
end
end Go.Proofs.YtkckodpfhlpkgaaGreat
namespace Go.Proofs.YtkckodpfhlpkgaaGreat
open Go.RowKit LitM TrailM EngM CnfP

theorem cl_12 : clZ [1, 2] = [1, 2] := clZ_eq ⟨by decide, fun x => Iff.rfl⟩
theorem cl_1m2 : clZ [1, -2] = [1, -2] := clZ_eq ⟨by decide, fun x => Iff.rfl⟩
theorem cl_1 : clZ [1] = [1] := clZ_eq ⟨by decide, fun x => Iff.rfl⟩
/-- The example's clauses at hand. -/
theorem ex_m (c : List Int) : handM [[1, 2], [1, -2]] (fun _ => 0) c ≠ 0 ↔ c = [1, 2] ∨ c = [1, -2] := by
  unfold handM handM handM
  rw [cl_12, cl_1m2]
  unfold incM
  by_cases h1 : c = [1, -2]
  · simp [h1]
  · by_cases h2 : c = [1, 2]
    · simp [h2]
    · simp [h1, h2]
theorem ex_yes : Rup (fun c => handM [[1, 2], [1, -2]] (fun _ => 0) c ≠ 0) [1] := fun T hT hf => by
  have h1 : T (-1) := hf 1 (by simp)
  have n1 : ¬ T 1 := fun e => hT.con 1 (by decide) e h1
  have t2 : T 2 := by
    rcases hT.ful [1, 2] ((ex_m _).2 (.inl rfl)) (by decide) with ⟨y, hy, t⟩ | ⟨a, b, ha, hb, hab, a1, a2, b1, b2⟩
    · simp at hy
      rcases hy with rfl | rfl
      · exact absurd t n1
      · exact t
    · simp at ha hb
      rcases ha with rfl | rfl
      · exact absurd h1 a2
      · rcases hb with rfl | rfl
        · exact absurd h1 b2
        · exact absurd rfl hab
  rcases hT.ful [1, -2] ((ex_m _).2 (.inr rfl)) (by decide) with ⟨y, hy, t⟩ | ⟨a, b, ha, hb, hab, a1, a2, b1, b2⟩
  · simp at hy
    rcases hy with rfl | rfl
    · exact n1 t
    · exact hT.con 2 (by decide) t2 t
  · simp at ha hb
    rcases ha with rfl | rfl
    · exact a2 h1
    · rcases hb with rfl | rfl
      · exact b2 h1
      · exact hab rfl
/-- What holds where 1 is true and 2 false. -/
def exT (y : Int) : Prop := y = 1 ∨ y = -2
theorem ex_con : ∀ y, LitM.one y = true → exT y → exT (-y) → False := fun y _ a b => by
  unfold exT at a b; omega
theorem ex_no {K : List Int → Prop} (hK : ∀ c, K c → 1 ∈ c) : ¬ Rup K [2] := fun h => by
  refine h exT ⟨ex_con, fun c hc _ => .inl ⟨1, hK c hc, .inl rfl⟩⟩ fun l hl => ?_
  have : l = 2 := by simpa using hl
  subst this
  exact .inr rfl
theorem ex_no2 : ¬ Rup (fun c => handM [[1, 2], [1, -2]] (fun _ => 0) c ≠ 0) [2] := ex_no fun c hc => by
  rcases (ex_m c).1 hc with rfl | rfl <;> simp
theorem ex_walk : walkZ (handM [[1, 2], [1, -2]] fun _ => 0) [(false, [1]), (false, [2])] 0 = 1 := by
  rw [walk_yes (by unfold StepOk; rw [if_neg (by simp)]; exact ex_yes), walk_no]
  · rfl
  · unfold StepOk nextM
    rw [if_neg (by simp), if_neg (by simp)]
    refine ex_no fun c hc => ?_
    rw [cl_1] at hc
    unfold incM at hc
    by_cases h : c = [1]
    · rw [h]; simp
    · rw [if_neg h] at hc
      rcases (ex_m c).1 hc with rfl | rfl <;> simp
theorem ex_fit1 : fitB 2 [[1, 2], [1, -2]] [1] [] = true := by decide
theorem ex_fit2 : fitB 2 [[1, 2], [1, -2]] [2] [] = true := by decide
theorem ex_fit3 : fitB 2 [[1, 2], [1, -2]] [] [(false, [1]), (false, [2])] = true := by decide
theorem ex_chk : chkV 2 [[1, 2], [1, -2]] [(false, [1]), (false, [2])] = 1 ∧ chkE 2 [[1, 2], [1, -2]] [(false, [1]), (false, [2])] = 0 := by
  unfold chkV chkE
  rw [ex_fit3]
  exact ⟨ex_walk, rfl⟩
theorem alloc_old {w : World} {k : Nat} {o x : Obj} (h : w.heap[k]? = some x) : (w.alloc o).heap[k]? = some x := by rw [Below.heap_alloc _ _ _ (lt_of_heap h)]; exact h
theorem rd_blk {w : World} {g n : Nat} {C : Array Value} {xs : List Int} (h : w.heap[g]? = some (.cells C 34 (0, 0))) (hC : C = (xs.map (Value.int .i32)).toArray) (hn : xs.length = n) : Rd .i32 w w.heap.size (some ⟨g, 0, none⟩) n xs :=
  ⟨hn, fun _ => ⟨g, 0, rfl, lt_of_heap h, fun j hj => by
    rw [Nat.zero_add, Lib.cell_of_heap h, hC]
    rw [List.getElem?_toArray, List.getElem?_map, List.getElem?_eq_getElem (by omega), getD_lt (by omega)]; rfl⟩⟩
theorem rdf_two {w : World} {g n1 n2 c1 c2 : Nat} {A1 A2 : Option Addr} {xs ys : List Int} (h : w.heap[g]? = some (.cells #[.slice A1 n1 c1, .slice A2 n2 c2] 36 (0, 0))) (h1 : Rd .i32 w w.heap.size A1 n1 xs) (h2 : Rd .i32 w w.heap.size A2 n2 ys) : RdF w w.heap.size (some ⟨g, 0, none⟩) 2 [xs, ys] :=
  ⟨rfl, fun _ => ⟨g, 0, rfl, lt_of_heap h, fun j hj => by
    match j, hj with
    | 0, _ => exact ⟨A1, n1, c1, by rw [Lib.cell_of_heap h]; rfl, h1⟩
    | 1, _ => exact ⟨A2, n2, c2, by rw [Lib.cell_of_heap h]; rfl, h2⟩⟩⟩
theorem rds_two {w : World} {g n1 n2 c1 c2 : Nat} {A1 A2 : Option Addr} {b1 b2 : Bool} {xs ys : List Int} (h : w.heap[g]? = some (.cells #[.bool b1, .slice A1 n1 c1, .bool b2, .slice A2 n2 c2] 41 (0, 0))) (h1 : Rd .i32 w w.heap.size A1 n1 xs) (h2 : Rd .i32 w w.heap.size A2 n2 ys) : RdS w w.heap.size (some ⟨g, 0, none⟩) 2 [(b1, xs), (b2, ys)] :=
  ⟨rfl, fun _ => ⟨g, 0, rfl, lt_of_heap h, fun j hj => by
    match j, hj with
    | 0, _ => exact ⟨A1, n1, c1, by rw [Lib.cell_of_heap h]; rfl, by rw [Lib.cell_of_heap h]; rfl, h1⟩
    | 1, _ => exact ⟨A2, n2, c2, by rw [Lib.cell_of_heap h]; rfl, by rw [Lib.cell_of_heap h]; rfl, h2⟩⟩⟩
theorem fls_of {v : Int} {cs : List (List Int)} {gl : List Int} {w w' : World} {e : Ending} (h : FlsTo v cs gl w e w') (hf : fitB v cs gl [] = true) {b : Bool} (hb : b = true ↔ Rup (fun c => handM cs (fun _ => 0) c ≠ 0) gl) : e = .returned (.tuple #[.bool b, .int .i64 0]) ∧ Below w.heap.size w w' := by
  obtain ⟨b', rfl, _, h2, h3⟩ := h
  have : b' = b := by rw [Bool.eq_iff_iff]; exact (h2 hf).trans hb.symm
  rw [this, if_pos hf]
  exact ⟨rfl, h3⟩
set_option maxHeartbeats 6400000 in
set_option maxRecDepth 100000 in
theorem palive_any (w : World) : Calls Tryz.prog 5 #[] w fun e w' => e = .returned (.bool true) ∧ Below w.heap.size w w' := by
  obtain ⟨W, hW⟩ : ∃ W, W = (((w.alloc (.cells #[.int .i32 1, .int .i32 2] 34)).alloc (.cells #[.int .i32 1, .int .i32 (-2)] 34)).alloc (.cells #[.slice (some ⟨w.heap.size, 0, none⟩) 2 2, .slice (some ⟨w.heap.size + 1, 0, none⟩) 2 2] 36)).alloc (.cells #[.int .i64 2, .slice (some ⟨w.heap.size + 2, 0, none⟩) 2 2] 24) := ⟨_, rfl⟩
  have hb : Below w.heap.size w W := by rw [hW]; exact ((((Below.refl _ _).alloc (Nat.le_refl _) _).alloc (by simp) _).alloc (by simp; omega) _).alloc (by simp; omega) _
  have s1 : (w.alloc (.cells #[.int .i32 1, .int .i32 2] 34)).heap.size = w.heap.size + 1 := World.size_alloc _ _
  have k0 : W.heap[w.heap.size]? = some (.cells #[.int .i32 1, .int .i32 2] 34 (0, 0)) := by rw [hW]; exact alloc_old (alloc_old (alloc_old (blk_new w _)))
  have k1 : W.heap[w.heap.size + 1]? = some (.cells #[.int .i32 1, .int .i32 (-2)] 34 (0, 0)) := by
    rw [hW]
    have := blk_new (w.alloc (.cells #[.int .i32 1, .int .i32 2] 34)) (.cells #[.int .i32 1, .int .i32 (-2)] 34)
    rw [World.size_alloc] at this
    exact alloc_old (alloc_old this)
  have k2 : W.heap[w.heap.size + 2]? = some (.cells #[.slice (some ⟨w.heap.size, 0, none⟩) 2 2, .slice (some ⟨w.heap.size + 1, 0, none⟩) 2 2] 36 (0, 0)) := by
    rw [hW]
    have := blk_new ((w.alloc (.cells #[.int .i32 1, .int .i32 2] 34)).alloc (.cells #[.int .i32 1, .int .i32 (-2)] 34)) (.cells #[.slice (some ⟨w.heap.size, 0, none⟩) 2 2, .slice (some ⟨w.heap.size + 1, 0, none⟩) 2 2] 36)
    rw [World.size_alloc, World.size_alloc] at this
    exact alloc_old this
  have k3 : W.heap[w.heap.size + 3]? = some (.cells #[.int .i64 2, .slice (some ⟨w.heap.size + 2, 0, none⟩) 2 2] 24 (0, 0)) := by
    rw [hW]
    have := blk_new (((w.alloc (.cells #[.int .i32 1, .int .i32 2] 34)).alloc (.cells #[.int .i32 1, .int .i32 (-2)] 34)).alloc (.cells #[.slice (some ⟨w.heap.size, 0, none⟩) 2 2, .slice (some ⟨w.heap.size + 1, 0, none⟩) 2 2] 36)) (.cells #[.int .i64 2, .slice (some ⟨w.heap.size + 2, 0, none⟩) 2 2] 24)
    rw [World.size_alloc, World.size_alloc, World.size_alloc] at this
    exact this
  have hF : RdF W W.heap.size (some ⟨w.heap.size + 2, 0, none⟩) 2 [[1, 2], [1, -2]] := rdf_two k2 (rd_blk k0 rfl rfl) (rd_blk k1 rfl rfl)
  have HV : Hid (∀ V, Below W.heap.size W V → RdF V V.heap.size (some ⟨w.heap.size + 2, 0, none⟩) 2 [[1, 2], [1, -2]] ∧ V.cell? ⟨w.heap.size + 3, 0, none⟩ = some (.int .i64 2) ∧ V.cell? ⟨w.heap.size + 3, 1, none⟩ = some (.slice (some ⟨w.heap.size + 2, 0, none⟩) 2 2)) := fun V hV =>
    ⟨(hF.below hV).more hV.size, (hV.cell (p := ⟨w.heap.size + 3, 0, none⟩) (lt_of_heap k3)).trans (by rw [Lib.cell_of_heap k3]; rfl), (hV.cell (p := ⟨w.heap.size + 3, 1, none⟩) (lt_of_heap k3)).trans (by rw [Lib.cell_of_heap k3]; rfl)⟩
  have h32 : ∀ c ∈ [[1, 2], [1, (-2 : Int)]], In32 c := fun c hc => by
    simp at hc
    rcases hc with rfl | rfl <;> exact In32.of (by simp)
  have hlen : ∀ c ∈ [[1, 2], [1, (-2 : Int)]], c.length * 4 ≤ 140737488351232 := fun c hc => by
    simp at hc
    rcases hc with rfl | rfl <;> simp
  have HFl : Hid (∀ V (x : Int) (b : Bool), Below W.heap.size W V → (x = 1 ∨ x = 2) → (b = true ↔ Rup (fun c => handM [[1, 2], [1, -2]] (fun _ => 0) c ≠ 0) [x]) → Calls Tryz.prog 8 #[.agg #[.int .i64 2, .slice (some ⟨w.heap.size + 2, 0, none⟩) 2 2], .slice (some ⟨V.heap.size, 0, none⟩) 1 1] (V.alloc (.cells #[.int .i32 x] 34)) fun e w' => e = .returned (.tuple #[.bool b, .int .i64 0]) ∧ Below W.heap.size W w') := fun V x b hV hx hb => by
    have hV2 : Below W.heap.size W (V.alloc (.cells #[.int .i32 x] 34)) := hV.alloc hV.size _
    refine (pfollows_any (v := 2) (by omega) (by omega) (.inl (by omega)) (cf := 2) (m := 1) (cm := 1) (by omega) (some ⟨w.heap.size + 2, 0, none⟩) _ (HV.out _ hV2).1 h32 hlen (some ⟨V.heap.size, 0, none⟩) [x] (rd_blk (blk_new V _) rfl rfl) (In32.of (by simp; omega)) (by omega)).mono fun e w' ht => ?_
    obtain ⟨h1, h2⟩ := fls_of ht (by rcases hx with rfl | rfl <;> decide) hb
    exact ⟨h1, hV2.trans (h2.mono hV2.size)⟩
  have HCk : Hid (∀ V, Below W.heap.size W V → Calls Tryz.prog 7 #[.agg #[.int .i64 2, .slice (some ⟨w.heap.size + 2, 0, none⟩) 2 2], .slice (some ⟨V.heap.size + 2, 0, none⟩) 2 2] (((V.alloc (.cells #[.int .i32 1] 34)).alloc (.cells #[.int .i32 2] 34)).alloc (.cells #[.bool false, .slice (some ⟨V.heap.size, 0, none⟩) 1 1, .bool false, .slice (some ⟨V.heap.size + 1, 0, none⟩) 1 1] 41)) fun e w' => e = .returned (.tuple #[.int .i64 1, .int .i64 0]) ∧ Below W.heap.size W w') := fun V hV => by
    obtain ⟨V3, hV3⟩ : ∃ V3, V3 = ((V.alloc (.cells #[.int .i32 1] 34)).alloc (.cells #[.int .i32 2] 34)).alloc (.cells #[.bool false, .slice (some ⟨V.heap.size, 0, none⟩) 1 1, .bool false, .slice (some ⟨V.heap.size + 1, 0, none⟩) 1 1] 41) := ⟨_, rfl⟩
    have hb3 : Below W.heap.size W V3 := by
      have := hV.size
      rw [hV3]; exact ((hV.alloc hV.size _).alloc (by simp; omega) _).alloc (by simp; omega) _
    have j0 : V3.heap[V.heap.size]? = some (.cells #[.int .i32 1] 34 (0, 0)) := by rw [hV3]; exact alloc_old (alloc_old (blk_new V _))
    have j1 : V3.heap[V.heap.size + 1]? = some (.cells #[.int .i32 2] 34 (0, 0)) := by
      rw [hV3]
      have := blk_new (V.alloc (.cells #[.int .i32 1] 34)) (.cells #[.int .i32 2] 34)
      rw [World.size_alloc] at this
      exact alloc_old this
    have j2 : V3.heap[V.heap.size + 2]? = some (.cells #[.bool false, .slice (some ⟨V.heap.size, 0, none⟩) 1 1, .bool false, .slice (some ⟨V.heap.size + 1, 0, none⟩) 1 1] 41 (0, 0)) := by
      rw [hV3]
      have := blk_new ((V.alloc (.cells #[.int .i32 1] 34)).alloc (.cells #[.int .i32 2] 34)) (.cells #[.bool false, .slice (some ⟨V.heap.size, 0, none⟩) 1 1, .bool false, .slice (some ⟨V.heap.size + 1, 0, none⟩) 1 1] 41)
      rw [World.size_alloc, World.size_alloc] at this
      exact this
    rw [← hV3]
    refine (pcheck_any (w := V3) (v := 2) (by omega) (by omega) (.inl (by omega)) (cf := 2) (cn := 2) (nf := 2) (N := 2) (by omega) (by omega) (some ⟨w.heap.size + 2, 0, none⟩) _ (HV.out _ hb3).1 h32 hlen (some ⟨V.heap.size + 2, 0, none⟩) [(false, [1]), (false, [2])] (rds_two j2 (rd_blk j0 rfl rfl) (rd_blk j1 rfl rfl)) (fun s hs => ?_) (fun s hs => ?_)).mono fun e w' ⟨he, hbw⟩ => ⟨by rw [he, ex_chk.1, ex_chk.2], hb3.trans (hbw.mono hb3.size)⟩
    · simp at hs
      rcases hs with rfl | rfl <;> exact In32.of (by simp)
    · simp at hs
      rcases hs with rfl | rfl <;> simp
  obtain ⟨_, f0, f1⟩ := HV.out W (Below.refl _ _)
  have HB := Lib.hid hb
  have HW := Lib.hid hW
  have HF1 := Lib.hid (HFl.out W 1 true (Below.refl _ _) (.inl rfl) ⟨fun _ => ex_yes, fun _ => rfl⟩)
  clear hW hb s1 k0 k1 k2 k3 hF h32 hlen
  go_enter Tryz.func5, Tryz.ntmps5
  go_upto_region 2 with (fail)
  rw [← HW.out]
  go_wp2_with fail
  refine HF1.out.mono ?_
  rintro e w1 ⟨rfl, hb1⟩
  have HF2 := Lib.hid (HFl.out w1 2 false hb1 (.inr rfl) ⟨(fun e => by cases e), fun e => absurd e ex_no2⟩)
  obtain ⟨_, g0, g1⟩ := HV.out w1 hb1
  clear f0 f1 hb1 HF1
  go_wp2_with fail
  refine HF2.out.mono ?_
  rintro e w2 ⟨rfl, hb2⟩
  have HC2 := Lib.hid (HCk.out w2 hb2)
  obtain ⟨_, f0, f1⟩ := HV.out w2 hb2
  clear g0 g1 hb2 HF2
  go_wp2_with fail
  refine HC2.out.mono ?_
  rintro e w3 ⟨rfl, hb3⟩
  have HFin : Hid (Below w.heap.size w w3) := HB.out.trans (hb3.mono HB.out.size)
  clear hb3 HC2
  go_wp2_with fail
  go_ret
  exact ⟨rfl, HFin.out⟩
end Go.Proofs.YtkckodpfhlpkgaaGreat
