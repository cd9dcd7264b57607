/- A round of KnitRuns: the values, the model, and what is free, each in a block of its own. -/
import Derived.Test.YtmiifhclcknhdaaKntR
import Derived.Test.YtmiifhclcknhdaaGtab
namespace Go.Proofs.Ytmiifhclcknhdaa
open Go.RowKit GatM KntM LitM CnfP

structure RnS (wr0 : World) (gv cv gm gf L r : Nat) (Mf Ff : Nat → Bool) (V : World) : Prop where
  be : Below wr0.heap.size wr0 V
  rv : RowV 4 1 V gv 6 cv (rowF r)
  rm : RowV 4 1 V gm L L (fun j => .bool (Mf j))
  rf : RowV 4 1 V gf L L (fun j => .bool (Ff j))
  ne : gv ≠ gm ∧ gv ≠ gf ∧ gm ≠ gf
  lo : wr0.heap.size ≤ gv ∧ wr0.heap.size ≤ gm ∧ wr0.heap.size ≤ gf
def updB (f : Nat → Bool) (i : Nat) (x : Bool) : Nat → Bool := fun k => if k = i then x else f k
theorem updB_V (f : Nat → Bool) (i : Nat) (x : Bool) (j : Nat) : Value.bool (updB f i x j) = updV (fun j => .bool (f j)) i (.bool x) j := by
  unfold updB updV
  split <;> rfl
section
variable {wr0 V V' : World} {gv cv gm gf L r : Nat} {Mf Ff : Nat → Bool}
theorem RnS.hs (h : RnS wr0 gv cv gm gf L r Mf Ff V) : wr0.heap.size ≤ V.heap.size := h.be.size
theorem RnS.below (h : RnS wr0 gv cv gm gf L r Mf Ff V) (hb : Below V.heap.size V V') : RnS wr0 gv cv gm gf L r Mf Ff V' :=
  ⟨h.be.trans (hb.mono h.hs), h.rv.same (hb.block _ h.rv.lt), h.rm.same (hb.block _ h.rm.lt), h.rf.same (hb.block _ h.rf.lt), h.ne, h.lo⟩
theorem RnS.setM (h : RnS wr0 gv cv gm gf L r Mf Ff V) {j : Nat} (hj : j < L) (x : Bool) : RnS wr0 gv cv gm gf L r (updB Mf j x) Ff (V.setCell ⟨gm, j, none⟩ (.bool x)) :=
  ⟨h.be.setCell h.lo.2.1 _, h.rv.other (a := ⟨gm, j, none⟩) (fun e => h.ne.1 e.symm) _, (h.rm.set (show j < L * 1 by omega) _).congr fun k _ => updB_V _ _ _ _, h.rf.other (a := ⟨gm, j, none⟩) h.ne.2.2 _, h.ne, h.lo⟩
theorem RnS.setF (h : RnS wr0 gv cv gm gf L r Mf Ff V) {j : Nat} (hj : j < L) (x : Bool) : RnS wr0 gv cv gm gf L r Mf (updB Ff j x) (V.setCell ⟨gf, j, none⟩ (.bool x)) :=
  ⟨h.be.setCell h.lo.2.2 _, h.rv.other (a := ⟨gf, j, none⟩) (fun e => h.ne.2.1 e.symm) _, h.rm.other (a := ⟨gf, j, none⟩) (fun e => h.ne.2.2 e.symm) _, (h.rf.set (show j < L * 1 by omega) _).congr fun k _ => updB_V _ _ _ _, h.ne, h.lo⟩
theorem RnS.congr (h : RnS wr0 gv cv gm gf L r Mf Ff V) {Mf' Ff' : Nat → Bool} (h1 : ∀ j, j < L → Mf' j = Mf j) (h2 : ∀ j, j < L → Ff' j = Ff j) : RnS wr0 gv cv gm gf L r Mf' Ff' V :=
  ⟨h.be, h.rv, h.rm.congr fun j hj => by rw [h1 j (by omega)], h.rf.congr fun j hj => by rw [h2 j (by omega)], h.ne, h.lo⟩
/-- The values, as Eval reads them. -/
theorem RnS.vals (h : RnS wr0 gv cv gm gf L r Mf Ff V) : RdO V V.heap.size (some ⟨gv, 0, none⟩) 6 (rowV r) :=
  ⟨rfl, fun _ => ⟨gv, 0, rfl, h.rv.lt, fun j hj => by rw [Nat.zero_add, h.rv.cell (by omega), rowV_get r j hj]; rfl⟩⟩
/-- The model, as False and Value read it. -/
theorem RnS.model (h : RnS wr0 gv cv gm gf L r Mf Ff V) {bs : List Bool} (hl : bs.length = L) (hb : ∀ j, j < L → Mf j = bs.getD j false) : RdO V V.heap.size (some ⟨gm, 0, none⟩) L bs :=
  ⟨hl, fun _ => ⟨gm, 0, rfl, h.rm.lt, fun j hj => by rw [Nat.zero_add, h.rm.cell (by omega), hb j hj]⟩⟩
theorem RnS.cells (h : RnS wr0 gv cv gm gf L r Mf Ff V) {j : Nat} (hj : j < L) : V.cell? ⟨gm, j, none⟩ = some (.bool (Mf j)) ∧ V.frozen? ⟨gm, j, none⟩ = false ∧ V.cell? ⟨gf, j, none⟩ = some (.bool (Ff j)) ∧ V.frozen? ⟨gf, j, none⟩ = false :=
  ⟨h.rm.cell (by omega), h.rm.free _, h.rf.cell (by omega), h.rf.free _⟩
end
/-- What the first x gates say, of those that have variables. -/
def modX (vals : List Bool) (gs : Gs) (K : List Nat) (x j : Nat) : Bool := decide (K.getD j 0 < x) && tru vals gs (K.getD j 0)
def freX (gs : Gs) (K : List Nat) (x j : Nat) : Bool := decide (K.getD j 0 < x) && freeG gs (K.getD j 0)
section
variable {vals : List Bool} {gs : Gs} {K : List Nat}
theorem dec_succ {y x : Nat} (h : y ≠ x) : decide (y < x + 1) = decide (y < x) := by rw [decide_eq_decide]; omega
/-- A gate without a variable. -/
theorem step_none {x : Nat} (hx : x ∉ K) {j : Nat} (hj : j < K.length) : modX vals gs K (x + 1) j = modX vals gs K x j ∧ freX gs K (x + 1) j = freX gs K x j := by
  have e : K.getD j 0 ≠ x := fun e => hx (by rw [← e]; exact ngetD hj)
  unfold modX freX
  rw [dec_succ e]
  exact ⟨rfl, rfl⟩
/-- A gate with one. -/
theorem step_some (h : OkK gs K) {x : Nat} (hx : x ∈ K) {j : Nat} (hj : j < K.length) : modX vals gs K (x + 1) j = updB (modX vals gs K x) (vr K x - 1) (tru vals gs x) j ∧ freX gs K (x + 1) j = updB (freX gs K x) (vr K x - 1) (freeG gs x) j := by
  have hkj : K.getD j 0 = K[j] := by simp [List.getD, List.getElem?_eq_getElem hj]
  have hvj : vr K K[j] = j + 1 := vr_get h.nd hj
  by_cases e : j = vr K x - 1
  · have h0 := vr_pos.2 hx
    have ex : K.getD j 0 = x := by
      rw [hkj]
      exact (vr_inj hx (by rw [hvj]; omega)).symm
    unfold updB modX freX
    rw [if_pos e, if_pos e, ex, decide_eq_true (by omega)]
    exact ⟨rfl, rfl⟩
  · have ex : K.getD j 0 ≠ x := fun e2 => e (by rw [← e2, hkj, hvj]; omega)
    unfold updB modX freX
    rw [if_neg e, if_neg e, dec_succ ex]
    exact ⟨rfl, rfl⟩
theorem end_model (h : OkK gs K) {j : Nat} (hj : j < K.length) : modX vals gs K gs.length j = (modelL vals gs K).getD j false ∧ freX gs K gs.length j = freeG gs (K.getD j 0) := by
  have hkj : K.getD j 0 = K[j] := by simp [List.getD, List.getElem?_eq_getElem hj]
  have hlt : K.getD j 0 < gs.length := h.lt _ (ngetD hj)
  unfold modX freX modelL
  rw [decide_eq_true hlt, hkj]
  simp [List.getD, List.getElem?_map, List.getElem?_eq_getElem hj]
theorem say_even (x : Nat) : sayE vals gs (2 * x) = tru vals gs x := by
  unfold sayE odd
  rw [show 2 * x / 2 = x by omega, decide_eq_false (by omega)]
  cases tru vals gs x <;> rfl
end
end Go.Proofs.Ytmiifhclcknhdaa
