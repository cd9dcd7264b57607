/- A Rank and the plain answer's entries, side by side. -/
import Derived.Test.YtffpggdbmfidcaaEntL
import Derived.Test.YtffpggdbmfidcaaRSorts
namespace Go.Proofs.Ytffpggdbmfidcaa
open Go.RowKit HeapM

/-- A Rank at b, entries at g, one more block bx that holds o: all of them apart, all of the call's own. -/
def Two (w0 w : World) (b n : Nat) (s : Nat → Int) (t : Nat → Bool) (g N cap : Nat) (s2 : Nat → Int) (t2 : Nat → Bool) (bx : Nat) (o : Obj) : Prop :=
  ∃ F, RankAt w b F n s t ∧ RowE w g N cap s2 t2 ∧ ¬ F g ∧ (∀ k, F k → w0.heap.size ≤ k) ∧ Below w0.heap.size w0 w ∧ w.heap[bx]? = some o ∧ ¬ F bx
section
variable {w0 w w' : World} {b n g N cap bx : Nat} {s s2 : Nat → Int} {t t2 : Nat → Bool} {o : Obj}
theorem Two.row (h : Two w0 w b n s t g N cap s2 t2 bx o) : RowE w g N cap s2 t2 := h.choose_spec.2.1
theorem Two.out (h : Two w0 w b n s t g N cap s2 t2 bx o) : Below w0.heap.size w0 w := h.choose_spec.2.2.2.2.1
theorem Two.box (h : Two w0 w b n s t g N cap s2 t2 bx o) : w.heap[bx]? = some o := h.choose_spec.2.2.2.2.2.1
theorem Two.live (h : Two w0 w b n s t g N cap s2 t2 bx o) : Live w0.heap.size w0 w b n s t := by
  obtain ⟨F, hR, _, _, hF, hB, _⟩ := h
  exact ⟨F, hR, hF, Nat.le_refl _, hB⟩
theorem Two.below (h : Two w0 w b n s t g N cap s2 t2 bx o) (hb : Below w.heap.size w w') : Two w0 w' b n s t g N cap s2 t2 bx o := by
  obtain ⟨F, hR, hE, hg, hF, hB, hx, hxF⟩ := h
  have hs := hB.size
  have hl : bx < w.heap.size := by
    rcases Nat.lt_or_ge bx w.heap.size with h' | h'
    · exact h'
    · rw [Array.getElem?_eq_none h'] at hx; cases hx
  exact ⟨F, hR.below hb, hE.below hb, hg, hF, hB.trans (hb.mono hs), (hb.block bx hl).trans hx, hxF⟩
theorem Two.newbox (h : Two w0 w b n s t g N cap s2 t2 bx o) (o' : Obj) : Two w0 (w.alloc o') b n s t g N cap s2 t2 w.heap.size o' := by
  obtain ⟨F, hR, hE, hg, hF, hB, hx, hxF⟩ := h
  have hs := hB.size
  have hb : Below w.heap.size w (w.alloc o') := (Below.refl _ _).alloc (Nat.le_refl _) _
  exact ⟨F, hR.below hb, hE.below hb, hg, hF, hB.trans (hb.mono hs), blk_new _ _, fun hf => by have := hR.foot _ hf; omega⟩
/-- A call that may turn the Rank. -/
theorem Two.turn (h : Two w0 w b n s t g N cap s2 t2 bx o) : ∃ F, RankAt w b F n s t ∧ ∀ w' n' s' t', RankTo F w w' b n' s' t' → Two w0 w' b n' s' t' g N cap s2 t2 bx o := by
  obtain ⟨F, hR, hE, hg, hF, hB, hx, hxF⟩ := h
  refine ⟨F, hR, fun w' n' s' t' ht => ?_⟩
  obtain ⟨F', hR', hF', hK⟩ := ht
  have hs := hB.size
  have hl : bx < w.heap.size := by
    rcases Nat.lt_or_ge bx w.heap.size with h' | h'
    · exact h'
    · rw [Array.getElem?_eq_none h'] at hx; cases hx
  have hgl := hE.lt
  refine ⟨F', hR', hE.same (hK.block g hgl hg), fun hf => ?_, fun k hk => ?_, hB.trans (hK.below hs hF), (hK.block bx hl hxF).trans hx, fun hf => ?_⟩
  · rcases hF' g hf with e | e
    · exact hg e
    · omega
  · rcases hF' k hk with e | e
    · exact hF k e
    · omega
  · rcases hF' bx hf with e | e
    · exact hxF e
    · omega
/-- A call that makes new entries. -/
theorem Two.ent {N' : Nat} {s' : Nat → Int} {t' : Nat → Bool} {v : Value} (h : Two w0 w b n s t g N cap s2 t2 bx o) (he : EntTo N' s' t' w v w') : ∃ g' cap', v = .slice (some ⟨g', 0, none⟩) N' cap' ∧ Two w0 w' b n s t g' N' cap' s' t' bx o := by
  obtain ⟨g', cap', rfl, hE', hg', hb⟩ := he
  obtain ⟨F, hR, hE, hg, hF, hB, hx, hxF⟩ := h
  have hs := hB.size
  have hl : bx < w.heap.size := by
    rcases Nat.lt_or_ge bx w.heap.size with h' | h'
    · exact h'
    · rw [Array.getElem?_eq_none h'] at hx; cases hx
  exact ⟨g', cap', rfl, F, hR.below hb, hE', fun hf => by have := hR.foot _ hf; omega, hF, hB.trans (hb.mono hs), (hb.block bx hl).trans hx, hxF⟩
/-- At the start: a new Rank, then new entries. -/
theorem Two.start {w1 w2 w3 : World} {e : Ending} {v : Value} (h1 : NewPost n w1 e w2) (h2 : EntTo (n + 1) (fun _ => 0) allW w2 v w3) (hB : Below w0.heap.size w0 w1) :
    ∃ b g cap, e = .returned (.pointer (some ⟨b, 0, none⟩)) ∧ v = .slice (some ⟨g, 0, none⟩) (n + 1) cap ∧ Two w0 w3 b n (fun _ => 0) allW g (n + 1) cap (fun _ => 0) allW g (w3.heap[g]?.getD default) := by
  obtain ⟨b, F, rfl, hR, hF, hb⟩ := h1
  obtain ⟨g, cap, rfl, hE, hg, hb2⟩ := h2
  have s0 := hB.size
  have s1 := hb.size
  have hR' : RankAt w2 b F n (fun _ => 0) allW := by
    obtain ⟨gs, cs, gp, cp, go, co, m, pl, od, hQ, hI, hH, hW, hS, rfl⟩ := hR
    exact ⟨gs, cs, gp, cp, go, co, m, pl, od, hQ, hI, hH, fun v h1 h2 => by rw [show allW v = true from by simp [allW]; omega]; exact hW v h1 h2, hS, rfl⟩
  have hgF : ¬ F g := fun hf => by have := hR.foot _ hf; omega
  obtain ⟨cur, hc, r⟩ := hE
  refine ⟨b, g, cap, rfl, rfl, F, hR'.below hb2, ⟨cur, hc, r⟩, hgF, fun k hk => by have := hF k hk; omega, (hB.trans (hb.mono (by omega))).trans (hb2.mono (by omega)), by rw [hc]; rfl, hgF⟩
end
theorem cntB_zero {t : Nat → Bool} {n : Nat} (h : cntB t n = 0) : ∀ v, 1 ≤ v → v ≤ n → t v = false := by
  induction n with
  | zero => intro v h1 h2; omega
  | succ n ih =>
    intro v h1 h2
    unfold cntB at h
    by_cases e : v = n + 1
    · subst e
      cases k : t (n + 1)
      · rfl
      · rw [k] at h; simp at h
    · exact ih (by omega) v h1 (by omega)

/-- What both sides answer to one thing done. -/
structure Same3 (w0 w' : World) (b n : Nat) (z : Value) : Prop where
  two : ∃ (n' g' cap' : Nat) (s' : Nat → Int) (t' : Nat → Bool) (bx : Nat) (o : Obj), z = .slice (some ⟨g', 0, none⟩) (n' + 1) cap' ∧ n' ≤ n + 1 ∧ Two w0 w' b n' s' t' g' (n' + 1) cap' s' t' bx o
end Go.Proofs.Ytffpggdbmfidcaa
