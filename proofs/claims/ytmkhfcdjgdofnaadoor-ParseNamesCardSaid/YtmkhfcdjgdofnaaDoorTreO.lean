/- An expression that came in: its cells, kid by kid. -/
import Derived.Test.YtmkhfcdjgdofnaaDoorTreM
import Derived.Test.YtmkhfcdjgdofnaaDoorWrdA
import Derived.ProofKit
import Derived.OpenShut
import Derived.ChangeArms
import Derived.Deep.Matrix
namespace Go.Proofs.YtmkhfcdjgdofnaaDoor
open Go.RowKit Go.ChangeShapes Go.WideShapes Go.ChangeAt Go.Deep TreM

mutual
/-- The values that are an expression. -/
def ExC (W : World) : Ex → List Value → Prop
  | .mk o n s ks l c, cs => ∃ (A : Option Addr) (cap : Nat), cs = [.int .i64 o, .int .i64 n, .string ⟨s.toArray⟩, .slice A ks.length cap, .int .i64 l, .int .i64 c] ∧
      ((Lit.int .i64 o).wf = true ∧ (Lit.int .i64 n).wf = true ∧ (Lit.int .i64 l).wf = true ∧ (Lit.int .i64 c).wf = true) ∧ s.length ≤ 9223372036854775807 ∧ ks.length ≤ cap ∧ cap ≤ 9223372036854775807 ∧
      (ks = [] ∨ ∃ b p, A = some ⟨b, p, none⟩ ∧ b < W.heap.size ∧ ExK W b p ks)
/-- Its kids, one behind the other. -/
def ExK (W : World) (b p : Nat) : List Ex → Prop
  | [] => True
  | k :: ks => (∃ cs : List Value, (∀ i v, cs[i]? = some v → W.cell? ⟨b, p + i, none⟩ = some v) ∧ ExC W k cs) ∧ ExK W b (p + 6) ks
end
theorem ExK.get {W : World} {b : Nat} : ∀ {ks : List Ex} {p j : Nat} {k : Ex}, ExK W b p ks → ks[j]? = some k → ∃ cs : List Value, (∀ i v, cs[i]? = some v → W.cell? ⟨b, p + j * 6 + i, none⟩ = some v) ∧ ExC W k cs
  | [], p, j, k, _, hj => by simp at hj
  | y :: ys, p, 0, k, h, hj => by
    have : y = k := by simpa using hj
    subst this
    rw [ExK] at h
    simpa using h.1
  | y :: ys, p, j + 1, k, h, hj => by
    rw [ExK] at h
    have := ExK.get (j := j) h.2 (by simpa using hj)
    obtain ⟨cs, h1, h2⟩ := this
    exact ⟨cs, fun i v hv => by rw [← h1 i v hv]; congr 2; omega, h2⟩
theorem ExK.of {W : World} {b : Nat} : ∀ {ks : List Ex} {p : Nat}, (∀ j k, ks[j]? = some k → ∃ cs : List Value, (∀ i v, cs[i]? = some v → W.cell? ⟨b, p + j * 6 + i, none⟩ = some v) ∧ ExC W k cs) → ExK W b p ks
  | [], p, _ => by rw [ExK]; trivial
  | y :: ys, p, h => by
    rw [ExK]
    refine ⟨by simpa using h 0 y rfl, ExK.of fun j k hj => ?_⟩
    obtain ⟨cs, h1, h2⟩ := h (j + 1) k (by simpa using hj)
    exact ⟨cs, fun i v hv => by rw [← h1 i v hv]; congr 2; omega, h2⟩
theorem ExC.below {W W' : World} (hb : Below W.heap.size W W') : ∀ (x : Ex) (cs : List Value), ExC W x cs → ExC W' x cs := by
  apply Ex.ind (P := fun x => ∀ cs, ExC W x cs → ExC W' x cs)
  intro o n s ks l c ih cs h
  rw [ExC] at h ⊢
  obtain ⟨A, cap, h1, h2, h3, h4, h5, h6⟩ := h
  refine ⟨A, cap, h1, h2, h3, h4, h5, ?_⟩
  rcases h6 with h6 | ⟨b, p, hA, hl, hk⟩
  · exact .inl h6
  · refine .inr ⟨b, p, hA, Nat.lt_of_lt_of_le hl hb.size, ExK.of fun j k hj => ?_⟩
    obtain ⟨cs', c1, c2⟩ := hk.get hj
    exact ⟨cs', fun i v hv => by rw [hb.cell (p := ⟨b, p + j * 6 + i, none⟩) hl]; exact c1 i v hv, ih k (List.mem_of_getElem? hj) cs' c2⟩

section
variable {H : Type} {enc : TypeId × Value → H} {P : Program} {W : World} {base : Nat} {sp : Nat → Bool} {held : Bool} {tE tI tJ tS tK : TypeId} {fs : Array Field}
theorem addr_plain (b o j : Nat) : ((⟨b, o, none⟩ : Addr).add j) = ⟨b, o + j, none⟩ := by unfold Addr.add; split <;> simp_all
theorem one_of1 {cs : List Value} {i : Nat} {v : Value} (h : (cs.drop i).take 1 = [v]) : cs[i]? = some v := by
  have := congrArg (·[0]?) h
  simpa [List.getElem?_take, List.getElem?_drop] using this
/-- An expression, as the reading of an argument tells it. -/
theorem open_ex (hE : P.underlying tE = some (.struct fs)) (hf : fs.toList.map (fun f => (f.type, f.offset)) = [(tI, 0), (tJ, 1), (tS, 2), (tK, 3), (tI, 4), (tI, 5)])
    (hI : P.underlying tI = some (.int .i64)) (hJ : P.underlying tJ = some (.int .i64)) (hS : P.underlying tS = some .string) (hK : P.underlying tK = some (.slice tE))
    (cI : P.cellsOf tI = 1) (cJ : P.cellsOf tJ = 1) (cS : P.cellsOf tS = 1) (cK : P.cellsOf tK = 1) (cE : P.cellsOf tE = 6) :
    ∀ (fuel : Nat) (cs : List Value) (x : DataW H × List MemPlace), DataW.trod enc P W base sp held fuel tE cs = some x → ∃ X : Ex, ExC W X cs := by
  intro fuel
  induction fuel using Nat.strongRecOn with
  | ind fuel ih =>
    intro cs x h
    obtain ⟨xs, n, rfl, _, hcl, hn, hel⟩ := DataW.trod_struct hE h
    rw [cE] at hcl
    have hfs : ∀ (i : Nat) (t : TypeId) (o : Nat), ([(tI, 0), (tJ, 1), (tS, 2), (tK, 3), (tI, 4), (tI, 5)] : List (TypeId × Nat))[i]? = some (t, o) → ∃ f, fs[i]? = some f ∧ f.type = t ∧ f.offset = o := by
      intro i t o hi
      rw [← hf, List.getElem?_map, Array.getElem?_toList] at hi
      cases hx : fs[i]? with
      | none => rw [hx] at hi; cases hi
      | some f =>
        rw [hx] at hi
        simp only [Option.map_some, Option.some.injEq, Prod.mk.injEq] at hi
        exact ⟨f, rfl, hi.1, hi.2⟩
    have hsz : fs.size = 6 := by
      have := congrArg List.length hf
      simpa using this
    have key : ∀ (i : Nat) (t : TypeId) (o : Nat), ([(tI, 0), (tJ, 1), (tS, 2), (tK, 3), (tI, 4), (tI, 5)] : List (TypeId × Nat))[i]? = some (t, o) → ∃ y, DataW.trod enc P W base sp held n t ((cs.drop o).take (P.cellsOf t)) = some y := by
      intro i t o hi
      obtain ⟨f, h1, h2, h3⟩ := hfs i t o hi
      have hlt : i < xs.length := by
        rw [hn]
        rcases Nat.lt_or_ge i fs.size with h | h
        · exact h
        · rw [Array.getElem?_eq_none h] at h1; cases h1
      have := hel i f h1
      rw [h2, h3, List.getElem?_eq_getElem hlt] at this
      exact ⟨_, this⟩
    obtain ⟨y0, h0⟩ := key 0 tI 0 rfl
    obtain ⟨y1, h1⟩ := key 1 tJ 1 rfl
    obtain ⟨y2, h2⟩ := key 2 tS 2 rfl
    obtain ⟨y3, h3⟩ := key 3 tK 3 rfl
    obtain ⟨y4, h4⟩ := key 4 tI 4 rfl
    obtain ⟨y5, h5⟩ := key 5 tI 5 rfl
    rw [cI] at h0 h4 h5
    rw [cJ] at h1
    rw [cS] at h2
    rw [cK] at h3
    obtain ⟨o, e0, _, w0⟩ := DataW.trod_int hI h0
    obtain ⟨nm, e1, _, w1⟩ := DataW.trod_int hJ h1
    obtain ⟨s, e2, _, w2⟩ := DataW.trod_string hS h2
    obtain ⟨l, e4, _, w4⟩ := DataW.trod_int hI h4
    obtain ⟨c, e5, _, w5⟩ := DataW.trod_int hI h5
    have hcs : ∀ v3, (cs.drop 3).take 1 = [v3] → cs = [.int .i64 o, .int .i64 nm, .string s, v3, .int .i64 l, .int .i64 c] := by
      intro v3 e3
      have g0 := one_of1 e0
      have g1 := one_of1 e1
      have g2 := one_of1 e2
      have g3 := one_of1 e3
      have g4 := one_of1 e4
      have g5 := one_of1 e5
      match cs, hcl with
      | [a0, a1, a2, a3, a4, a5], _ =>
        simp at g0 g1 g2 g3 g4 g5
        subst g0; subst g1; subst g2; subst g3; subst g4; subst g5
        rfl
    have hss : (⟨s.data.toList.toArray⟩ : ByteArray) = s := by cases s; simp
    have hsl : s.data.toList.length ≤ 9223372036854775807 := by rw [← Lib.size_eq]; unfold maxLen at w2; omega
    rcases DataW.trod_slice hK h3 with ⟨e3, _⟩ | ⟨a, len, cap, elems, rest, m, hm, e3, _, _, hlc, hcap, hle, hi, _⟩
    · refine ⟨.mk o nm s.data.toList [] l c, ?_⟩
      rw [ExC]
      exact ⟨none, 0, by rw [hcs _ e3, hss]; rfl, ⟨w0, w1, w4, w5⟩, hsl, Nat.le_refl _, by omega, .inl rfl⟩
    · rw [cE] at hi
      have elem : ∀ j, ∃ X : Ex, j < len → ∃ cs' : List Value, cs'.length = 6 ∧ (∀ i, i < 6 → W.cell? ((a.add (j * 6)).add i) = cs'[i]?) ∧ ExC W X cs' := by
        intro j
        by_cases hj : j < len
        · have h6 := hi j hj
          rw [List.getElem?_eq_getElem (show j < elems.length by omega), Option.bind_eq_some_iff] at h6
          obtain ⟨cs', hc, ht⟩ := h6
          obtain ⟨_, hcl', hat⟩ := World.cells?_some hc
          obtain ⟨X, hX⟩ := ih m (by omega) cs' _ ht
          exact ⟨X, fun _ => ⟨cs', hcl', fun i hi6 => hat i hi6, hX⟩⟩
        · exact ⟨.mk 0 0 [] [] 0 0, fun h => absurd h hj⟩
      obtain ⟨F, hF⟩ := Classical.axiomOfChoice elem
      refine ⟨.mk o nm s.data.toList ((List.range len).map F) l c, ?_⟩
      rw [ExC]
      have hlen : ((List.range len).map F).length = len := by simp
      refine ⟨some a, cap, by rw [hlen, hcs _ e3, hss], ⟨w0, w1, w4, w5⟩, hsl, by rw [hlen]; exact hlc, by unfold maxLen at hcap; omega, ?_⟩
      by_cases h0l : len = 0
      · left; rw [h0l]; rfl
      · right
        obtain ⟨b, p, spot⟩ := a
        obtain ⟨cs', c1, c2, _⟩ := hF 0 (by omega)
        have hc0 := c2 0 (by decide)
        rw [List.getElem?_eq_getElem (show 0 < cs'.length by omega)] at hc0
        have hspot : spot = none := by simpa [Addr.add] using World.cell?_spot hc0
        subst hspot
        have hb := World.block_lt_of_cell? _ _ hc0
        refine ⟨b, p, rfl, by simpa [Addr.add] using hb, ExK.of fun j k hj => ?_⟩
        have hjl : j < len := by
          rcases Nat.lt_or_ge j len with h | h
          · exact h
          · rw [List.getElem?_eq_none (by rw [hlen]; exact h)] at hj; cases hj
        obtain ⟨cs2, d1, d2, d3⟩ := hF j hjl
        have hk : F j = k := by
          rw [List.getElem?_map, List.getElem?_range hjl] at hj
          simpa using hj
        subst hk
        refine ⟨cs2, fun i v hv => ?_, d3⟩
        have hi6 : i < 6 := by
          rw [← d1]
          rcases Nat.lt_or_ge i cs2.length with h | h
          · exact h
          · rw [List.getElem?_eq_none h] at hv; cases hv
        have := d2 i hi6
        rw [hv, addr_plain, addr_plain] at this
        exact this
end
end Go.Proofs.YtmkhfcdjgdofnaaDoor
