/- Package tree: size, Size; kids. -/
import Derived.Test.YtmkhfcdjgdofnaaDoorTreA
namespace Go.Proofs.YtmkhfcdjgdofnaaDoor
open Go.RowKit TreM

theorem ret_nat {a b : Nat} (h : a = b) : Ending.returned (.int .i64 (a : Int)) = .returned (.int .i64 (b : Int)) := by rw [h]
theorem sizeL_app : ∀ (xs ys : List Ex), sizeL (xs ++ ys) = sizeL xs + sizeL ys
  | [], ys => by simp [sizeL]
  | x :: xs, ys => by simp only [List.cons_append, sizeL, sizeL_app xs ys]; omega
theorem sizeL_take (ks : List Ex) (k : Nat) (x : Ex) (h : ks[k]? = some x) : sizeL (ks.take (k + 1)) = sizeL (ks.take k) + size x := by
  have hk : k < ks.length := by
    rcases Nat.lt_or_ge k ks.length with h' | h'
    · exact h'
    · rw [List.getElem?_eq_none h'] at h; cases h
  rw [List.take_add_one, h, sizeL_app]
  simp [sizeL]
theorem sizeL_take_le (ks : List Ex) (k : Nat) : sizeL (ks.take k) ≤ sizeL ks := by
  have := sizeL_app (ks.take k) (ks.drop k)
  rw [List.take_append_drop] at this
  omega
theorem get_ex {ks : List Ex} {k : Nat} (h : k < ks.length) : ∃ x, ks[k]? = some x := ⟨_, List.getElem?_eq_getElem h⟩

/-- A value's box, and what stands in it. -/
theorem box_alloc {w : World} {o n : Int} {s : List UInt8} {ks : List Ex} {l c : Int} {A : Option Addr} {cap : Nat} (h : ExV w (.mk o n s ks l c) (.agg #[.int .i64 o, .int .i64 n, .string ⟨s.toArray⟩, .slice A ks.length cap, .int .i64 l, .int .i64 c])) :
    ExP (w.alloc (.cells #[.int .i64 o, .int .i64 n, .string ⟨s.toArray⟩, .slice A ks.length cap, .int .i64 l, .int .i64 c] 24)) w.heap.size 0 (.mk o n s ks l c) :=
  ExV.box (cs := [.int .i64 o, .int .i64 n, .string ⟨s.toArray⟩, .slice A ks.length cap, .int .i64 l, .int .i64 c]) h (below_alloc w _) (blk_new w _)
/-- How many kids an op has, as the code says it. -/
def kidsC (op : Int) : Nat := if 14 ≤ op then 2 else if 5 ≤ op then 1 else 0
theorem kids_any (o : Int) (w : World) : Calls Tryd.prog 75 #[.int .i64 o] w fun e w' => e = .returned (.int .i64 (kidsC o : Nat)) ∧ w = w' := by
  by_cases h1 : 14 ≤ o
  · have t1 : decide ((14 : Int) ≤ o) = true := decide_eq_true h1
    have he : kidsC o = 2 := by unfold kidsC; rw [if_pos h1]
    rw [he]
    go_enter Tryd.func75, Tryd.ntmps75
    go_wp2
    go_ret
    exact ⟨rfl, rfl⟩
  · have t1 : decide ((14 : Int) ≤ o) = false := decide_eq_false h1
    by_cases h2 : 5 ≤ o
    · have t2 : decide ((5 : Int) ≤ o) = true := decide_eq_true h2
      have he : kidsC o = 1 := by unfold kidsC; rw [if_neg h1, if_pos h2]
      rw [he]
      go_enter Tryd.func75, Tryd.ntmps75
      go_wp2
      go_ret
      exact ⟨rfl, rfl⟩
    · have t2 : decide ((5 : Int) ≤ o) = false := decide_eq_false h2
      have he : kidsC o = 0 := by unfold kidsC; rw [if_neg h1, if_neg h2]
      rw [he]
      go_enter Tryd.func75, Tryd.ntmps75
      go_wp2
      go_ret
      exact ⟨rfl, rfl⟩
end Go.Proofs.YtmkhfcdjgdofnaaDoor
