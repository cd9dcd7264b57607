/- Structs and slices that came in, read field by field, element by element: of whatever program. -/
import Derived.Test.YtnlepdkbcjjkdaaGreatDoorTreO
namespace Go.Proofs.YtnlepdkbcjjkdaaGreatDoor
open Go.RowKit Go.ChangeShapes Go.WideShapes Go.ChangeAt Go.Deep TreM

section
variable {H : Type} {enc : TypeId × Value → H} {P : Program} {W : World} {base : Nat} {sp : Nat → Bool} {held : Bool}
/-- A struct's fields: each is read by itself. -/
theorem open_fields {t : TypeId} {fs : Array Field} (ht : P.underlying t = some (.struct fs)) (L : List (TypeId × Nat)) (hf : fs.toList.map (fun f => (f.type, f.offset)) = L)
    {fuel : Nat} {cs : List Value} {x : DataW H × List MemPlace} (h : DataW.trod enc P W base sp held fuel t cs = some x) :
    ∃ n, fuel = n + 1 ∧ cs.length = P.cellsOf t ∧ ∀ (i : Nat) (e : TypeId) (o : Nat), L[i]? = some (e, o) → ∃ y, DataW.trod enc P W base sp held n e ((cs.drop o).take (P.cellsOf e)) = some y := by
  obtain ⟨xs, n, hfu, _, hcl, hn, hel⟩ := DataW.trod_struct ht h
  refine ⟨n, hfu, hcl, fun i e o hi => ?_⟩
  rw [← hf, List.getElem?_map, Array.getElem?_toList] at hi
  cases hx : fs[i]? with
  | none => rw [hx] at hi; cases hi
  | some f =>
    rw [hx] at hi
    simp only [Option.map_some, Option.some.injEq, Prod.mk.injEq] at hi
    have hlt : i < xs.length := by
      rw [hn]
      rcases Nat.lt_or_ge i fs.size with h | h
      · exact h
      · rw [Array.getElem?_eq_none h] at hx; cases hx
    have := hel i f hx
    rw [hi.1, hi.2, List.getElem?_eq_getElem hlt] at this
    exact ⟨_, this⟩

/-- A slice whose elements, of k cells each, are these by R. -/
def SliceC {α : Type} (W : World) (R : α → List Value → Prop) (k : Nat) (xs : List α) (v : Value) : Prop :=
  ∃ (A : Option Addr) (cap : Nat), v = .slice A xs.length cap ∧ xs.length ≤ cap ∧ cap ≤ 9223372036854775807 ∧
    (xs = [] ∨ ∃ b p, A = some ⟨b, p, none⟩ ∧ b < W.heap.size ∧ ∀ j x, xs[j]? = some x → ∃ cs : List Value, cs.length = k ∧ (∀ i u, cs[i]? = some u → W.cell? ⟨b, p + j * k + i, none⟩ = some u) ∧ R x cs)
theorem SliceC.below {α : Type} {W W' : World} {R R' : α → List Value → Prop} {k : Nat} {xs : List α} {v : Value} (h : SliceC W R k xs v) (hb : Below W.heap.size W W') (hR : ∀ x ∈ xs, ∀ cs, R x cs → R' x cs) : SliceC W' R' k xs v := by
  obtain ⟨A, cap, h1, h2, h3, h4⟩ := h
  refine ⟨A, cap, h1, h2, h3, ?_⟩
  rcases h4 with h4 | ⟨b, p, hA, hl, hk⟩
  · exact .inl h4
  · refine .inr ⟨b, p, hA, Nat.lt_of_lt_of_le hl hb.size, fun j x hj => ?_⟩
    obtain ⟨cs, c0, c1, c2⟩ := hk j x hj
    exact ⟨cs, c0, fun i u hu => by rw [hb.cell (p := ⟨b, p + j * k + i, none⟩) hl]; exact c1 i u hu, hR x (List.mem_of_getElem? hj) cs c2⟩
/-- A slice, as the reading of an argument tells it. -/
theorem open_sliceR {α : Type} (dflt : α) {R : α → List Value → Prop} {tK e : TypeId} {k : Nat} (hK : P.underlying tK = some (.slice e)) (hk : P.cellsOf e = k) (hk0 : 0 < k) {fuel : Nat}
    (hop : ∀ (m : Nat), m < fuel → ∀ (cs : List Value) (x : DataW H × List MemPlace), DataW.trod enc P W base sp held m e cs = some x → ∃ X, R X cs)
    {cs : List Value} {x : DataW H × List MemPlace} (h : DataW.trod enc P W base sp held fuel tK cs = some x) : ∃ (xs : List α) (v : Value), cs = [v] ∧ SliceC W R k xs v := by
  rcases DataW.trod_slice hK h with ⟨e3, _⟩ | ⟨a, len, cap, elems, rest, m, hm, e3, _, _, hlc, hcap, hle, hi, _⟩
  · exact ⟨[], _, e3, none, 0, rfl, Nat.le_refl _, by omega, .inl rfl⟩
  · rw [hk] at hi
    have elem : ∀ j, ∃ X : α, j < len → ∃ cs' : List Value, cs'.length = k ∧ (∀ i, i < k → W.cell? ((a.add (j * k)).add i) = cs'[i]?) ∧ R X cs' := by
      intro j
      by_cases hj : j < len
      · have h6 := hi j hj
        rw [List.getElem?_eq_getElem (show j < elems.length by omega), Option.bind_eq_some_iff] at h6
        obtain ⟨cs', hc, ht⟩ := h6
        obtain ⟨_, hcl', hat⟩ := World.cells?_some hc
        obtain ⟨X, hX⟩ := hop m (by omega) cs' _ ht
        exact ⟨X, fun _ => ⟨cs', hcl', fun i hi6 => hat i hi6, hX⟩⟩
      · exact ⟨dflt, fun h => absurd h hj⟩
    obtain ⟨F, hF⟩ := Classical.axiomOfChoice elem
    have hlen : ((List.range len).map F).length = len := by simp
    refine ⟨(List.range len).map F, _, e3, some a, cap, by rw [hlen], by rw [hlen]; exact hlc, by unfold maxLen at hcap; omega, ?_⟩
    by_cases h0l : len = 0
    · left; rw [h0l]; rfl
    · right
      obtain ⟨b, p, spot⟩ := a
      obtain ⟨cs', c1, c2, _⟩ := hF 0 (by omega)
      have hc0 := c2 0 hk0
      rw [List.getElem?_eq_getElem (show 0 < cs'.length by omega)] at hc0
      have hspot : spot = none := by simpa [Addr.add] using World.cell?_spot hc0
      subst hspot
      have hb := World.block_lt_of_cell? _ _ hc0
      refine ⟨b, p, rfl, by simpa [Addr.add] using hb, fun j x hj => ?_⟩
      have hjl : j < len := by
        rcases Nat.lt_or_ge j len with h | h
        · exact h
        · rw [List.getElem?_eq_none (by rw [hlen]; exact h)] at hj; cases hj
      obtain ⟨cs2, d1, d2, d3⟩ := hF j hjl
      have hk2 : F j = x := by
        rw [List.getElem?_map, List.getElem?_range hjl] at hj
        simpa using hj
      subst hk2
      refine ⟨cs2, d1, fun i v hv => ?_, d3⟩
      have hi6 : i < k := by
        rw [← d1]
        rcases Nat.lt_or_ge i cs2.length with h | h
        · exact h
        · rw [List.getElem?_eq_none h] at hv; cases hv
      have := d2 i hi6
      rw [hv, addr_plain, addr_plain] at this
      exact this
/-- The strings of a slice. -/
def StrC (s : List UInt8) (cs : List Value) : Prop := cs = [.string ⟨s.toArray⟩] ∧ s.length ≤ 9223372036854775807
theorem open_strR {tS : TypeId} (hS : P.underlying tS = some .string) {fuel : Nat} {cs : List Value} {x : DataW H × List MemPlace} (h : DataW.trod enc P W base sp held fuel tS cs = some x) : ∃ s, StrC s cs := by
  obtain ⟨s, e, _, w⟩ := DataW.trod_string hS h
  refine ⟨s.data.toList, ?_, by rw [← Lib.size_eq]; unfold maxLen at w; omega⟩
  rw [e, show (⟨s.data.toList.toArray⟩ : ByteArray) = s from by cases s; simp]
end
end Go.Proofs.YtnlepdkbcjjkdaaGreatDoor
