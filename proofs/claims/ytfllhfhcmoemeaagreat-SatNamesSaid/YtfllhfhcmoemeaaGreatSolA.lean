/- A solver's run in the chapter's example; satAlive is true. -/
import Derived.Test.YtfllhfhcmoemeaaGreatSolB
namespace Go.Proofs.YtfllhfhcmoemeaaGreat
open Go.Shelf Go.RowKit Go.Lib LitM TrailM EngM

section
variable {B bs bh n cp : Nat} {w0 w w' : World} {c : SolC} {S S' : Eng} {q q' : Pm} {F : Nat → Prop} {sc : Nat → Int} {wt : Nat → Bool} {vs : List Bool} {A : Option Addr} {ak bud bef : Int}
/-- A block beside the solver. -/
theorem Sol.guest (h : Sol B w0 w bs c S q F sc wt vs) (hw : Below w.heap.size w w') {g : Nat} {o : Obj} (hg : w.heap.size ≤ g) (ho : w'.heap[g]? = some o) : Sol B w0 w' bs { c with gm := fun k => if k = g then some o else c.gm k } S q F sc wt vs := by
  have h' := h.below hw
  refine ⟨⟨h'.g.hh, h'.g.eng, h'.g.rk, h'.g.pc, h'.g.vr, h'.g.sd0, h'.g.ob, h'.g.op, h'.g.oF, h'.g.ov, fun k o' e => ?_⟩, h'.ln⟩
  by_cases hk : k = g
  · subst hk
    have e : some o = some o' := by rw [← e]; exact (if_pos rfl).symm
    injection e with e
    subst e
    have l1 := h.lt
    have l2 := h.g.ltp
    refine ⟨ho, h.eng.fresh hg, fun e => ?_, by omega, by show k ≠ c.bp; omega, fun e => ?_⟩
    · have := h.g.rk.foot k e; omega
    · have := h.g.vr.lt k e; omega
  · have e : c.gm k = some o' := by rw [← e]; exact (if_neg hk).symm
    exact h'.g.gu k o' e
theorem YesTo.below (h : YesTo B w0 bs c S vs w) (hb : Below w.heap.size w w') : YesTo B w0 bs c S vs w' := by
  obtain ⟨g, q', F', sc', wt', h1, h2⟩ := h
  exact ⟨g, q', F', sc', wt', h1.below hb, h2.same (hb.block g h2.lt)⟩
/-- What is left where it is No. -/
def NoX (B : Nat) (w0 : World) (bs : Nat) (c : SolC) (S : Eng) (vs : List Bool) (l : Int) (w' : World) : Prop := ∃ q F sc wt, NoTo B w0 bs c S q F sc wt vs l w'
theorem NoX.below {l : Int} (h : NoX B w0 bs c S vs l w) (hb : Below w.heap.size w w') : NoX B w0 bs c S vs l w' := by
  obtain ⟨q', F', sc', wt', g, cc, lv, h1, h2, h3⟩ := h
  exact ⟨q', F', sc', wt', g, cc, lv, h1.below hb, (h2.below hb).more hb.size, h3⟩
theorem run_yes (h : Srch B w0 w bs bh c S q F sc wt vs A 0 cp 0 bud bef) (hcn : S.cs.length ≤ 20000) (hp : (propF S).2 < 0) (hle : (propF S).1.le = [])
    (hw : ∀ v : Nat, 1 ≤ v → v ≤ (propF S).1.n → valZ (propF S).1.L (v : Int) ≠ 0 ∧ valZ (propF S).1.L (-(v : Int)) ≠ 0) :
    Calls Tryz.prog 26 #[.pointer (some ⟨bh, 0, none⟩)] w fun e w' => e = .returned (.int .i64 1) ∧ (∃ c' S' q' F' sc' wt' vs', Sol B w0 w' bs c' S' q' F' sc' wt' vs' ∧ S'.le = []) ∧ YesTo B w0 bs c (propF S).1 vs w' :=
  srun_one h hcn hp 1 (by omega) (by omega) (fun w' => (∃ c' S' q' F' sc' wt' vs', Sol B w0 w' bs c' S' q' F' sc' wt' vs' ∧ S'.le = []) ∧ YesTo B w0 bs c (propF S).1 vs w') fun W q' h' _ =>
    (sdecide_yes h' fun v v1 v2 _ => hw v v1 v2).mono fun e w' ⟨he, hY⟩ => ⟨he, by
      obtain ⟨g, q', F', sc', wt', h1, _⟩ := hY
      exact ⟨_, _, _, _, _, _, _, h1, hle⟩, hY⟩
theorem run_no {l : Int} {ga : Nat} (h : Srch B w0 w bs bh c S q F sc wt vs (some ⟨ga, 0, none⟩) 1 cp 0 bud bef) (hr : Rd .i32 w w.heap.size (some ⟨ga, 0, none⟩) 1 [l]) (hq : q.own ga = .no) (hcn : S.cs.length ≤ 20000) (hp : (propF S).2 < 0) (hle : (propF S).1.le = [])
    (ho : LitM.one l = true) (hv : varZ l ≤ (propF S).1.n) (hv1 : valZ (propF S).1.L l = -1) (hall : ∀ x ∈ (propF S).1.L, reaL (propF S).1 (varZ x.l) ≠ []) (hcon : c.con = false) (hlog : c.log = .slice none 0 0) (hm0 : 0 ≤ c.many) (hm1 : c.many ≤ 2000000) :
    Calls Tryz.prog 26 #[.pointer (some ⟨bh, 0, none⟩)] w fun e w' => e = .returned (.int .i64 2) ∧ (∃ c' S' q' F' sc' wt' vs', Sol B w0 w' bs c' S' q' F' sc' wt' vs' ∧ S'.le = []) ∧ NoX B w0 bs c (propF S).1 vs l w' := by
  have l32 : -2147483648 ≤ l ∧ l ≤ 2147483647 := by have := (one_iff l).1 ho; omega
  refine srun_one h hcn hp 2 (by omega) (by omega) (fun w' => (∃ c' S' q' F' sc' wt' vs', Sol B w0 w' bs c' S' q' F' sc' wt' vs' ∧ S'.le = []) ∧ NoX B w0 bs c (propF S).1 vs l w') fun W q' h' hk => ?_
  have hr' : Rd .i32 W W.heap.size (some ⟨ga, 0, none⟩) 1 [l] := ⟨hr.len, fun h0 => by
    obtain ⟨g, o, e, hg, hc⟩ := hr.at_ h0
    have hgg : g = ga := by injection e with e; injection e with e; exact e.symm
    exact ⟨g, o, e, Nat.lt_of_lt_of_le hg hk.size, fun j hj => (hk.cell (p := ⟨g, o + j, none⟩) hg (by rw [hgg]; exact fun e => e hq)).trans (hc j hj)⟩⟩
  refine (sdecide_no h' (by omega) (by omega) [l] l hr' rfl l32.1 l32.2 hv1 (fun V hV => sblame_any hV hall l ho hv) hcon hlog hm0 hm1).mono fun e w' ⟨he, hN⟩ => ⟨he, ?_, _, _, _, _, hN⟩
  obtain ⟨g, cc, lv, h1, _⟩ := hN
  exact ⟨_, _, _, _, _, _, _, h1, hle⟩
end
/-- The example's engine. -/
def alE : Eng := addF (addF (growF (growF (newE 0))) [1, 2] false) [-1] false
theorem al_1 : (propF alE).2 < 0 ∧ (propF alE).1.le = [] ∧ (propF alE).1.n = 2 ∧ alE.cs.length ≤ 20000 := by decide +kernel
theorem al_2 : foundL (propF alE).1 = [false, true] := by decide +kernel
theorem al_3 : ∀ v : Nat, 1 ≤ v → v ≤ (propF alE).1.n → valZ (propF alE).1.L (v : Int) ≠ 0 ∧ valZ (propF alE).1.L (-(v : Int)) ≠ 0 := by
  intro v v1 v2
  rw [al_1.2.2.1] at v2
  have : v = 1 ∨ v = 2 := by omega
  rcases this with rfl | rfl <;> decide +kernel
theorem al_4 : (propF (propF alE).1).2 < 0 ∧ (propF (propF alE).1).1.le = [] ∧ (propF (propF alE).1).1.n = 2 ∧ (propF alE).1.cs.length ≤ 20000 ∧ valZ (propF (propF alE).1).1.L (-2) = -1 := by decide +kernel
theorem al_5 : ∀ x ∈ (propF (propF alE).1).1.L, reaL (propF (propF alE).1).1 (varZ x.l) ≠ [] := by decide +kernel
end Go.Proofs.YtfllhfhcmoemeaaGreat
