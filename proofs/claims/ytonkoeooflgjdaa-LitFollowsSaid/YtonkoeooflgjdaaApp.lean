/- append of a slice of literals that came in, nil or not, to a row of the call's own. -/
import Derived.Test.YtonkoeooflgjdaaLitE
import Derived.Laws.AppendOwnNone
namespace Go.Proofs.Ytonkoeooflgjdaa
open Go.RowKit LitM

theorem lits_one {xs : List Int} : ∀ u ∈ xs.map (Value.int .i32), u.oneCell' = true := by
  intro u hu
  obtain ⟨x, _, rfl⟩ := List.mem_map.1 hu
  rfl

theorem wpList_append_rd {w : World} {ops : Array Oper} {rest : List Oper} {o : Oper} {a : Act} {Q : Exit → Act → World → Prop} (hgd : o.guard = none) (s x : Operand)
    (ho : o.op = .call { callee := .builtin .append, args := #[s, x], argTypes := #[22, 22] })
    (base : Nat) (v : Value) (xs : List Int) (hs : a.eval s = v) (hown : Own w base v xs)
    (A : Option Addr) (m c B : Nat) (news : List Int) (hx : a.eval x = .slice A m c) (hA : A = none → m = 0 ∧ c = 0) (hR : Rd .i32 w B A m news)
    (hbytes : (xs.length + m) * 4 ≤ 140737488355328) (hbase : base ≤ w.heap.size)
    (h : ∀ v' w', Own w' base v' (xs ++ news) → Below base w w' → wpList Try.prog ops Q rest (a.put o.dst v') w') : wpList Try.prog ops Q (o :: rest) a w := by
  obtain ⟨i0, hi, hz0, hz1, hz2⟩ := info_parts info_lit
  rcases A with _ | ad
  · obtain ⟨rfl, rfl⟩ := hA rfl
    have hn : news = [] := List.length_eq_zero_iff.1 hR.len
    subst hn
    refine wpList_append_own_none hgd s x 22 ho base 26 i0 1 Try.underlying22 hi v xs.length (xs.map (Value.int .i32)) hs hown hx ?_
    exact h v w (by simpa using hown) (Below.refl _ _)
  · refine wpList_append_own w hgd s x 22 ho base 26 i0 (.int .i32 0) 1 4 Try.underlying22 hi hz0 hz1 hz2 rfl (by decide) v xs.length (xs.map (Value.int .i32)) hs hown ad m c (news.map (Value.int .i32)) hx (by simp [hR.len]) hR.news lits_one (by unfold maxLen; omega) hbytes hbase ?_
    intro v' w' hown' hgrow _
    refine h v' w' ?_ ((Below.refl _ _).grown hgrow hbase (fun j hj => (hown.lt j hj).1))
    unfold Own
    rw [List.length_append, List.map_append, hR.len]
    exact hown'
end Go.Proofs.Ytonkoeooflgjdaa
