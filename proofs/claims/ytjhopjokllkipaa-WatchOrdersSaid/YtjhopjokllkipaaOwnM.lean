/- A slice of literals of the call's own, as a list. -/
import Derived.Test.YtjhopjokllkipaaVar
import Derived.Test.YtjhopjokllkipaaRd
import Derived.OwnWalk
namespace Go.Proofs.Ytjhopjokllkipaa
open Go.RowKit LitM

theorem info_lit : (Try.prog.info? 27).map (fun i => (i.zero, i.size, i.bytes)) = some (some (.int .i32 0), 1, 4) := by kernel_rfl

/-- v is a slice of the call's own, from block B on, that holds xs. -/
def Own (w : World) (B : Nat) (v : Value) (xs : List Int) : Prop := w.ownsRow B 27 1 v xs.length (xs.map (Value.int .i32))
theorem Own.nil (w : World) (B : Nat) : Own w B (.slice none 0 0) [] := World.ownsRow_nil _ _ _ _
theorem Own.base {w : World} {B B' : Nat} {v : Value} {xs : List Int} (h : Own w B v xs) (hB : B' ≤ B) : Own w B' v xs := by
  refine ⟨h.1, ?_⟩
  rcases h.2 with h' | ⟨g, cap, cur, hv, hb, r⟩
  · exact .inl h'
  · exact .inr ⟨g, cap, cur, hv, by omega, r⟩
theorem Own.below {w w' : World} {B : Nat} {v : Value} {xs : List Int} (h : Own w B v xs) (hb : Below w.heap.size w w') : Own w' B v xs := by
  refine ⟨h.1, ?_⟩
  rcases h.2 with h' | ⟨g, cap, cur, hv, hg, hh, r⟩
  · exact .inl h'
  · have hlt : g < w.heap.size := by
      rcases Nat.lt_or_ge g w.heap.size with h' | h'
      · exact h'
      · rw [Array.getElem?_eq_none h'] at hh; cases hh
    exact .inr ⟨g, cap, cur, hv, hg, by rw [hb.block g hlt]; exact hh, r⟩
theorem Own.form {w : World} {B : Nat} {v : Value} {xs : List Int} (h : Own w B v xs) : ∃ A c, v = .slice A xs.length c ∧ Rd .i32 w w.heap.size A xs.length xs := by
  rcases h.2 with ⟨rfl, h0⟩ | ⟨g, cap, cur, rfl, _⟩
  · refine ⟨none, 0, by rw [h0], ?_⟩
    rw [List.length_eq_zero_iff.1 h0]; exact Rd.nil
  · exact ⟨_, _, rfl, Rd.of_own h⟩
/-- Behind an append of one number. -/
theorem Own.snoc {w : World} {B : Nat} {v : Value} {xs : List Int} {x : Int} (h : w.ownsRow B 27 1 v (xs.length + 1) (xs.map (Value.int .i32) ++ [.int .i32 x])) : Own w B v (xs ++ [x]) := by
  unfold Own
  rw [List.length_append, List.map_append]
  exact h
theorem own_bytes {n : Nat} (h : n * 4 ≤ 140737488355328) : n ≤ maxLen := by unfold maxLen; omega

end Go.Proofs.Ytjhopjokllkipaa
