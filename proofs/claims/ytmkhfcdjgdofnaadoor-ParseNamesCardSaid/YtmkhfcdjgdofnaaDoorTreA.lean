/- An expression in memory: where it stands, its fields, its kids; as a value. -/
import Derived.Test.YtmkhfcdjgdofnaaDoorTreO
import Derived.Test.YtmkhfcdjgdofnaaDoorWrdB
import Derived.IntWalk
namespace Go.Proofs.YtmkhfcdjgdofnaaDoor
open Go.RowKit TreM

/-- An expression at a place. -/
def ExP (W : World) (b p : Nat) (X : Ex) : Prop := ∃ cs : List Value, (∀ i v, cs[i]? = some v → W.cell? ⟨b, p + i, none⟩ = some v) ∧ ExC W X cs
/-- An expression as a value. -/
def ExV (W : World) (X : Ex) (v : Value) : Prop := ∃ cs : List Value, v = .agg cs.toArray ∧ ExC W X cs
/-- Its fields, as they stand. -/
structure Ex6 (W : World) (b p : Nat) (o n : Int) (s : List UInt8) (A : Option Addr) (m cap : Nat) (l c : Int) : Prop where
  c0 : W.cell? ⟨b, p, none⟩ = some (.int .i64 o)
  c1 : W.cell? ⟨b, p + 1, none⟩ = some (.int .i64 n)
  c2 : W.cell? ⟨b, p + 2, none⟩ = some (.string ⟨s.toArray⟩)
  c3 : W.cell? ⟨b, p + 3, none⟩ = some (.slice A m cap)
  c4 : W.cell? ⟨b, p + 4, none⟩ = some (.int .i64 l)
  c5 : W.cell? ⟨b, p + 5, none⟩ = some (.int .i64 c)
/-- Its numbers and lists are within the machine's bounds. -/
structure ExB (o n : Int) (s : List UInt8) (m cap : Nat) (l c : Int) : Prop where
  o0 : -9223372036854775808 ≤ o
  o1 : o ≤ 9223372036854775807
  n0 : -9223372036854775808 ≤ n
  n1 : n ≤ 9223372036854775807
  s : s.length ≤ 9223372036854775807
  m : m ≤ cap
  cap : cap ≤ 9223372036854775807
/-- The kids of a slice. -/
def KdsAt (W : World) (A : Option Addr) (ks : List Ex) : Prop := ks = [] ∨ ∃ b p, A = some ⟨b, p, none⟩ ∧ b < W.heap.size ∧ ∀ j k, ks[j]? = some k → ExP W b (p + j * 6) k
theorem KdsAt.of {W : World} {A : Option Addr} {ks : List Ex} (h : ks = [] ∨ ∃ b p, A = some ⟨b, p, none⟩ ∧ b < W.heap.size ∧ ExK W b p ks) : KdsAt W A ks := by
  rcases h with h | ⟨b, p, h1, h2, h3⟩
  · exact .inl h
  · exact .inr ⟨b, p, h1, h2, fun j k hj => h3.get hj⟩
theorem KdsAt.back {W : World} {A : Option Addr} {ks : List Ex} (h : KdsAt W A ks) : ks = [] ∨ ∃ b p, A = some ⟨b, p, none⟩ ∧ b < W.heap.size ∧ ExK W b p ks := by
  rcases h with h | ⟨b, p, h1, h2, h3⟩
  · exact .inl h
  · exact .inr ⟨b, p, h1, h2, ExK.of fun j k hj => h3 j k hj⟩
theorem wf_i64 {n : Int} (h : (Lit.int .i64 n).wf = true) : -9223372036854775808 ≤ n ∧ n ≤ 9223372036854775807 := by
  simp only [Lit.wf, Bool.and_eq_true] at h
  exact ⟨of_decide_eq_true h.1, of_decide_eq_true h.2⟩
theorem ExP.open {W : World} {b p : Nat} {o n : Int} {s : List UInt8} {ks : List Ex} {l c : Int} (h : ExP W b p (.mk o n s ks l c)) :
    ∃ (A : Option Addr) (cap : Nat), Ex6 W b p o n s A ks.length cap l c ∧ ExB o n s ks.length cap l c ∧ KdsAt W A ks := by
  obtain ⟨cs, hc, hx⟩ := h
  rw [ExC] at hx
  obtain ⟨A, cap, rfl, ⟨h1, h2, h3, h4⟩, h5, h6, h7, h8⟩ := hx
  have w1 := wf_i64 h1
  have w2 := wf_i64 h2
  exact ⟨A, cap, ⟨hc 0 _ rfl, hc 1 _ rfl, hc 2 _ rfl, hc 3 _ rfl, hc 4 _ rfl, hc 5 _ rfl⟩, ⟨w1.1, w1.2, w2.1, w2.2, h5, h6, h7⟩, .of h8⟩
theorem ExV.open {W : World} {v : Value} {o n : Int} {s : List UInt8} {ks : List Ex} {l c : Int} (h : ExV W (.mk o n s ks l c) v) :
    ∃ (A : Option Addr) (cap : Nat), v = .agg #[.int .i64 o, .int .i64 n, .string ⟨s.toArray⟩, .slice A ks.length cap, .int .i64 l, .int .i64 c] ∧ ExB o n s ks.length cap l c ∧ KdsAt W A ks := by
  obtain ⟨cs, hc, hx⟩ := h
  rw [ExC] at hx
  obtain ⟨A, cap, rfl, ⟨h1, h2, h3, h4⟩, h5, h6, h7, h8⟩ := hx
  have w1 := wf_i64 h1
  have w2 := wf_i64 h2
  exact ⟨A, cap, hc, ⟨w1.1, w1.2, w2.1, w2.2, h5, h6, h7⟩, .of h8⟩
theorem ExP.below {W W' : World} (hb : Below W.heap.size W W') {b p : Nat} {X : Ex} (h : ExP W b p X) (hl : b < W.heap.size) : ExP W' b p X := by
  obtain ⟨cs, hc, hx⟩ := h
  exact ⟨cs, fun i v hv => by rw [hb.cell (p := ⟨b, p + i, none⟩) hl]; exact hc i v hv, ExC.below hb X cs hx⟩
theorem ExP.lt {W : World} {b p : Nat} {X : Ex} (h : ExP W b p X) : b < W.heap.size := by
  cases X with
  | mk o n s ks l c =>
    obtain ⟨A, cap, h6, _⟩ := h.open
    exact World.block_lt_of_cell? _ _ h6.c0
theorem ExV.below {W W' : World} (hb : Below W.heap.size W W') {X : Ex} {v : Value} (h : ExV W X v) : ExV W' X v := by
  obtain ⟨cs, hc, hx⟩ := h
  exact ⟨cs, hc, ExC.below hb X cs hx⟩
theorem KdsAt.below {W W' : World} (hb : Below W.heap.size W W') {A : Option Addr} {ks : List Ex} (h : KdsAt W A ks) : KdsAt W' A ks := by
  rcases h with h | ⟨b, p, h1, h2, h3⟩
  · exact .inl h
  · exact .inr ⟨b, p, h1, Nat.lt_of_lt_of_le h2 hb.size, fun j k hj => (h3 j k hj).below hb h2⟩
/-- The value that is loaded from a place. -/
theorem ExP.val {W : World} {b p : Nat} {o n : Int} {s : List UInt8} {ks : List Ex} {l c : Int} {A : Option Addr} {cap : Nat} (h : ExP W b p (.mk o n s ks l c)) (h6 : Ex6 W b p o n s A ks.length cap l c) :
    ExV W (.mk o n s ks l c) (.agg #[.int .i64 o, .int .i64 n, .string ⟨s.toArray⟩, .slice A ks.length cap, .int .i64 l, .int .i64 c]) := by
  obtain ⟨cs, hc, hx⟩ := h
  refine ⟨cs, ?_, hx⟩
  have hx' := hx
  rw [ExC] at hx'
  obtain ⟨A', cap', rfl, _⟩ := hx'
  have := h6.c3.symm.trans (hc 3 _ rfl)
  simp only [Option.some.injEq, Value.slice.injEq, true_and] at this
  rw [this.1, this.2]
theorem cells6 {w : World} {g : Nat} {a b c d e f : Value} {t : TypeId} {q : Nat × Nat} (h : w.heap[g]? = some (.cells #[a, b, c, d, e, f] t q)) :
    w.cell? ⟨g, 0, none⟩ = some a ∧ w.cell? ⟨g, 1, none⟩ = some b ∧ w.cell? ⟨g, 2, none⟩ = some c ∧ w.cell? ⟨g, 3, none⟩ = some d ∧ w.cell? ⟨g, 4, none⟩ = some e ∧ w.cell? ⟨g, 5, none⟩ = some f := by
  refine ⟨?_, ?_, ?_, ?_, ?_, ?_⟩ <;> (rw [Lib.cell_of_heap h]; rfl)
/-- A value in a box of its own. -/
theorem ExV.box {W W' : World} {X : Ex} {cs : List Value} {t : TypeId} {g : Nat} {q : Nat × Nat} (h : ExV W X (.agg cs.toArray)) (hb : Below W.heap.size W W') (hg : W'.heap[g]? = some (.cells cs.toArray t q)) : ExP W' g 0 X := by
  obtain ⟨cs', hc, hx⟩ := h
  have e : cs = cs' := by
    have : cs.toArray = cs'.toArray := by injection hc
    have := congrArg Array.toList this
    simpa using this
  subst e
  refine ⟨cs, fun i v hv => ?_, ExC.below hb X cs hx⟩
  rw [Nat.zero_add, Lib.cell_of_heap hg, List.getElem?_toArray]
  exact hv
end Go.Proofs.YtmkhfcdjgdofnaaDoor
