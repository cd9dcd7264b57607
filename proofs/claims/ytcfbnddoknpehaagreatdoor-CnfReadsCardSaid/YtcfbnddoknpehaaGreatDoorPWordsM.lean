/- A slice of strings of the call's own, as a list of words; plain facts on the words of a line. -/
import Derived.Test.YtcfbnddoknpehaaGreatDoorPNumber
import Derived.Test.YtcfbnddoknpehaaGreatDoorOwnM
import Derived.Test.YtcfbnddoknpehaaGreatDoorLenM
namespace Go.Proofs.YtcfbnddoknpehaaGreatDoor
open Go.RowKit LitM CnfP Words

theorem info_str : (Tryz.prog.info? 9).map (fun i => (i.zero, i.size, i.bytes)) = some (some (.string ⟨#[]⟩), 1, 16) := by kernel_rfl
/-- v is a slice of the call's own, from block B on, that holds the words ws. -/
def OwnS (w : World) (B : Nat) (v : Value) (ws : List (List UInt8)) : Prop := w.ownsRow B 9 1 v ws.length (ws.map fun l => Value.string ⟨l.toArray⟩)
theorem OwnS.snoc {w : World} {B : Nat} {v : Value} {ws : List (List UInt8)} {x : List UInt8} (h : w.ownsRow B 9 1 v (ws.length + 1) ((ws.map fun l => Value.string ⟨l.toArray⟩) ++ [.string ⟨x.toArray⟩])) : OwnS w B v (ws ++ [x]) := by
  unfold OwnS
  rw [List.length_append, List.map_append]
  exact h
theorem OwnS.below {w w' : World} {B : Nat} {v : Value} {ws : List (List UInt8)} (h : OwnS w B v ws) (hb : Below w.heap.size w w') : OwnS w' B v ws := by
  refine ⟨h.1, ?_⟩
  rcases h.2 with h' | ⟨g, cap, cur, hv, hg, hh, r⟩
  · exact .inl h'
  · have hlt : g < w.heap.size := by
      rcases Nat.lt_or_ge g w.heap.size with h' | h'
      · exact h'
      · rw [Array.getElem?_eq_none h'] at hh; cases hh
    exact .inr ⟨g, cap, cur, hv, hg, by rw [hb.block g hlt]; exact hh, r⟩
theorem OwnS.base {w : World} {B B' : Nat} {v : Value} {ws : List (List UInt8)} (h : OwnS w B v ws) (hB : B' ≤ B) : OwnS w B' v ws := by
  refine ⟨h.1, ?_⟩
  rcases h.2 with h' | ⟨g, cap, cur, hv, hb, r⟩
  · exact .inl h'
  · exact .inr ⟨g, cap, cur, hv, by omega, r⟩
/-- A world behind an append to a row from block B on. -/
theorem below_grown {B : Nat} {a w w' : World} {row : Option Nat} (h : Below B a w) (hB : B ≤ w.heap.size) (hg : w.grownBy w' row) (hr : ∀ k, row = some k → B ≤ k) : Below B a w' :=
  ⟨hg.os.trans h.os, hg.tape.trans h.tape, hg.output.trans h.output, Nat.le_trans h.size hg.size, fun k hk => (hg.block k (Nat.lt_of_lt_of_le hk hB) (fun e => by have := hr _ e.symm; omega)).trans (h.block k hk)⟩

theorem drop_at {s : List UInt8} {k : Nat} (h : k < s.length) : s.drop k = s.getD k 0 :: s.drop (k + 1) := by
  rw [List.drop_eq_getElem_cons h, List.getD_eq_getElem?_getD, List.getElem?_eq_getElem h]; rfl
theorem goL_step {s L : List UInt8} {k : Nat} (h : k < s.length) (hx : (s.getD k 0 == 10) = false) : goL L (s.drop k) = goL (L ++ [s.getD k 0]) (s.drop (k + 1)) := by
  rw [drop_at h]; simp only [goL]; rw [hx]; rfl
theorem goL_break {s L : List UInt8} {k : Nat} (h : k < s.length) (hx : (s.getD k 0 == 10) = true) : goL L (s.drop k) = lineW L ++ goL [] (s.drop (k + 1)) := by
  rw [drop_at h]; simp only [goL]; rw [hx]; rfl
theorem goL_end {s L : List UInt8} {k : Nat} (h : ¬ k < s.length) : goL L (s.drop k) = lineW L := by
  rw [List.drop_eq_nil_of_le (by omega)]; rfl
theorem goW_step {L acc : List UInt8} {k : Nat} (h : k < L.length) (hx : blankB (L.getD k 0) = false) : goW acc (L.drop k) = goW (acc ++ [L.getD k 0]) (L.drop (k + 1)) := by
  rw [drop_at h]; simp only [goW]; rw [hx]; rfl
theorem goW_break {L acc : List UInt8} {k : Nat} (h : k < L.length) (hx : blankB (L.getD k 0) = true) : goW acc (L.drop k) = (if acc.isEmpty then [] else [acc]) ++ goW [] (L.drop (k + 1)) := by
  rw [drop_at h]; simp only [goW]; rw [hx]
  cases acc <;> rfl
theorem goW_end {L acc : List UInt8} {k : Nat} (h : ¬ k < L.length) : goW acc (L.drop k) = if acc.isEmpty then [] else [acc] := by
  rw [List.drop_eq_nil_of_le (by omega)]; rfl

/-- Where the outer loop stands, the inner one. -/
def WOut (s : List UInt8) (w : World) (o l i : Value) (wr : World) : Prop :=
  ∃ (k : Nat) (ws : List (List UInt8)) (L : List UInt8), i = .int .i64 k ∧ k ≤ s.length + 1 ∧ l = .string ⟨L.toArray⟩ ∧ OwnS wr w.heap.size o ws ∧ Below w.heap.size w wr ∧ ws.length + L.length ≤ k ∧
    (k ≤ s.length → ws ++ goL L (s.drop k) = wordsL s) ∧ (k = s.length + 1 → ws = wordsL s)
def WIn (L : List UInt8) (w : World) (n : Nat) (all : List (List UInt8)) (o a i : Value) (wr : World) : Prop :=
  ∃ (k : Nat) (ws : List (List UInt8)) (acc : List UInt8), i = .int .i64 k ∧ k ≤ L.length + 1 ∧ a = .string ⟨acc.toArray⟩ ∧ OwnS wr w.heap.size o ws ∧ Below w.heap.size w wr ∧ ws.length + acc.length ≤ n + k ∧ acc.length ≤ k ∧
    (k ≤ L.length → ws ++ goW acc (L.drop k) = all) ∧ (k = L.length + 1 → ws = all)
end Go.Proofs.YtcfbnddoknpehaaGreatDoor
