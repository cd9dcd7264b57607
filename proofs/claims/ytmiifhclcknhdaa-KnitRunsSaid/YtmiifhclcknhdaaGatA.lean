/- Acts on a circuit, in plain words: which edges an act is of, what it makes, and what its table is. No function of the program. -/
import Derived.Test.YtmiifhclcknhdaaGtab
namespace Go.Proofs.Ytmiifhclcknhdaa
open GatM

def clampZ (L : Nat) (p : Int) : Nat := (max 0 (min p ((L : Int) - 1))).toNat
theorem clamp_lt {L : Nat} (h : 0 < L) (p : Int) : clampZ L p < L := by unfold clampZ; omega
def pickL (l : List Nat) (p : Int) : Nat := l.getD (clampZ l.length p) 0
def padL (l : List Nat) (x : Nat) : List Nat := l ++ List.replicate (3 - l.length) x
def argE (E : List Nat) (ps : List Int) : List Nat := padL (ps.map (pickL E)) 1
def argT (T : List Nat) (ps : List Int) : List Nat := padL (ps.map (pickL T)) (T.getD 1 0)
theorem padL_len (l : List Nat) (x : Nat) : (padL l x).length = max 3 l.length := by unfold padL; rw [List.length_append, List.length_replicate]; omega
def actG (gs : Gs) (k : Int) (l : List Nat) : Nat × Gs :=
  if k = 0 then andG gs l else if k = 1 then orG gs l else if k = 2 then sameG gs (l.getD 0 0) (l.getD 1 0) else if k = 3 then ifG gs (l.getD 0 0) (l.getD 1 0) (l.getD 2 0) else (turnE (l.getD 0 0), gs)
def actT (k : Int) (ts : List Nat) : Nat :=
  if k = 0 then allT ts else if k = 1 then someT ts else if k = 2 then notT (ts.getD 0 0 ^^^ ts.getD 1 0) else if k = 3 then (ts.getD 0 0 &&& ts.getD 1 0) ||| (notT (ts.getD 0 0) &&& ts.getD 2 0) else notT (ts.getD 0 0)
theorem in_get {gs : Gs} {l : List Nat} (h : AllIn gs l) {j : Nat} (hj : j < l.length) : l.getD j 0 / 2 < gs.length := h _ (nmem.2 ⟨j, hj, rfl⟩)
section
variable {gs : Gs} {l : List Nat} {k : Int}
theorem act_made (h : Wf gs) (hl : AllIn gs l) (h3 : 3 ≤ l.length) : Made gs (actG gs k l) (l.length + 1) := by
  have a0 := in_get hl (show 0 < l.length by omega)
  have a1 := in_get hl (show 1 < l.length by omega)
  have a2 := in_get hl (show 2 < l.length by omega)
  unfold actG
  split
  · exact (and_made h hl).mono (by omega)
  · split
    · exact (or_made h hl).mono (by omega)
    · split
      · exact (if_made h a0 a1 (by rw [turn_div]; exact a1)).mono (by omega)
      · split
        · exact (if_made h a0 a1 a2).mono (by omega)
        · exact (GatM.Made.same h (by rw [turn_div]; exact a0)).mono (by omega)
theorem act_again {gs' : Gs} (h : Wf gs) (hl : AllIn gs l) (h3 : 3 ≤ l.length) (hx : Ex (actG gs k l).2 gs') (hw : Wf gs') : actG gs' k l = ((actG gs k l).1, gs') := by
  have a0 := in_get hl (show 0 < l.length by omega)
  have a1 := in_get hl (show 1 < l.length by omega)
  have a2 := in_get hl (show 2 < l.length by omega)
  unfold actG at hx ⊢
  by_cases k0 : k = 0
  · simp only [if_pos k0] at hx ⊢; exact and_again h hl hx hw
  · simp only [if_neg k0] at hx ⊢
    by_cases k1 : k = 1
    · simp only [if_pos k1] at hx ⊢; exact or_again h hl hx hw
    · simp only [if_neg k1] at hx ⊢
      by_cases k2 : k = 2
      · simp only [if_pos k2] at hx ⊢; exact if_again h a0 a1 (by rw [turn_div]; exact a1) hx hw
      · simp only [if_neg k2] at hx ⊢
        by_cases k3 : k = 3
        · simp only [if_pos k3] at hx ⊢; exact if_again h a0 a1 a2 hx hw
        · simp only [if_neg k3]
theorem act_ins : insL (actG gs k l).2 = insL gs := by
  unfold actG
  split
  · exact and_ins _ _
  · split
    · exact or_ins _ _
    · split
      · exact if_ins _ _ _ _
      · split
        · exact if_ins _ _ _ _
        · rfl
/-- Each table tells what its edge says. -/
structure Agr (gs : Gs) (E T : List Nat) : Prop where
  len : T.length = E.length
  inn : AllIn gs E
  u64 : U64 T
  bit : ∀ r, r < 64 → ∀ j, j < E.length → (T.getD j 0).testBit r = sayE (rowV r) gs (E.getD j 0)
theorem Agr.ex {gs gs' : Gs} {E T : List Nat} (h : Agr gs E T) (hx : Ex gs gs') : Agr gs' E T :=
  ⟨h.len, h.inn.ex hx, h.u64, fun r hr j hj => by rw [say_ex hx (in_get h.inn hj)]; exact h.bit r hr j hj⟩
theorem getD_app1 {l : List Nat} {x j : Nat} (h : j < l.length) : (l ++ [x]).getD j 0 = l.getD j 0 := by rw [List.getD, List.getD, List.getElem?_append_left h]
theorem getD_end1 (l : List Nat) (x : Nat) : (l ++ [x]).getD l.length 0 = x := by rw [List.getD, List.getElem?_append_right (Nat.le_refl _)]; simp
theorem Agr.snoc {E T : List Nat} (h : Agr gs E T) {x t : Nat} (hx : x / 2 < gs.length) (ht : t < 18446744073709551616) (hb : ∀ r, r < 64 → t.testBit r = sayE (rowV r) gs x) : Agr gs (E ++ [x]) (T ++ [t]) := by
  refine ⟨by simp [h.len], fun y hy => ?_, fun y hy => ?_, fun r hr j hj => ?_⟩
  · rcases List.mem_append.1 hy with q | q
    · exact h.inn y q
    · rw [List.mem_singleton.1 q]; exact hx
  · rcases List.mem_append.1 hy with q | q
    · exact h.u64 y q
    · rw [List.mem_singleton.1 q]; exact ht
  · have hl : (E ++ [x]).length = E.length + 1 := by simp
    by_cases e : j < E.length
    · rw [getD_app1 e, getD_app1 (by rw [h.len]; exact e)]; exact h.bit r hr j e
    · have : j = E.length := by omega
      subst this
      rw [getD_end1, ← h.len, getD_end1]; exact hb r hr
theorem Agr.pad {E T : List Nat} (h : Agr gs E T) {x t : Nat} (hx : x / 2 < gs.length) (ht : t < 18446744073709551616) (hb : ∀ r, r < 64 → t.testBit r = sayE (rowV r) gs x) : ∀ n, Agr gs (E ++ List.replicate n x) (T ++ List.replicate n t)
  | 0 => by simpa using h
  | n + 1 => by
    have := (h.pad hx ht hb n).snoc hx ht hb
    rw [List.append_assoc, List.append_assoc] at this
    rw [List.replicate_succ', List.replicate_succ']
    exact this
theorem Agr.pick {E T : List Nat} (h : Agr gs E T) (h0 : 0 < E.length) : ∀ ps : List Int, Agr gs (ps.map (pickL E)) (ps.map (pickL T))
  | [] => ⟨rfl, fun x hx => by simp at hx, fun x hx => by simp at hx, fun r hr j hj => by simp at hj⟩
  | p :: ps => by
    have ih := h.pick h0 ps
    have hc := clamp_lt h0 p
    have hcl : clampZ T.length p = clampZ E.length p := by rw [h.len]
    refine ⟨by simp, fun y hy => ?_, fun y hy => ?_, fun r hr j hj => ?_⟩
    · rcases List.mem_cons.1 hy with q | q
      · rw [q]; exact in_get h.inn hc
      · exact ih.inn y q
    · rcases List.mem_cons.1 hy with q | q
      · rw [q]; unfold pickL; exact h.u64 _ (nmem.2 ⟨_, by rw [hcl, h.len]; exact hc, rfl⟩)
      · exact ih.u64 y q
    · cases j with
      | zero => show (pickL T p).testBit r = sayE _ gs (pickL E p); unfold pickL; rw [hcl]; exact h.bit r hr _ hc
      | succ j => exact ih.bit r hr j (by simpa using hj)
theorem Agr.args {E T : List Nat} (h : Agr gs E T) (hw : Wf gs) (h2 : 2 ≤ E.length) (h1 : E.getD 1 0 = 1) (ps : List Int) : Agr gs (argE E ps) (argT T ps) := by
  have := (h.pick (by omega) ps).pad (x := 1) (t := T.getD 1 0) hw.pos (h.u64 _ (nmem.2 ⟨1, by rw [h.len]; omega, rfl⟩)) (fun r hr => by rw [h.bit r hr 1 (by omega), h1]) (3 - ps.length)
  unfold argE argT padL
  rw [List.length_map, List.length_map]
  exact this
theorem all_get {f : Nat → Bool} {g : Nat → Bool} {l ts : List Nat} (hl : ts.length = l.length) (h : ∀ j, j < l.length → f (ts.getD j 0) = g (l.getD j 0)) : ts.all f = l.all g ∧ ts.any f = l.any g := by
  induction l generalizing ts with
  | nil => cases ts with
    | nil => exact ⟨rfl, rfl⟩
    | cons t ts => simp at hl
  | cons x l ih => cases ts with
    | nil => simp at hl
    | cons t ts =>
      have h0 : f t = g x := h 0 (by simp)
      obtain ⟨a, b⟩ := ih (ts := ts) (by simpa using hl) fun j hj => h (j + 1) (by simpa using hj)
      rw [List.all_cons, List.all_cons, List.any_cons, List.any_cons, h0, a, b]
      exact ⟨rfl, rfl⟩
theorem act_says (h : Wf gs) {ts : List Nat} (ha : Agr gs l ts) (h3 : 3 ≤ l.length) (r : Nat) (hr : r < 64) : (actT k ts).testBit r = sayE (rowV r) (actG gs k l).2 (actG gs k l).1 := by
  have hl := ha.inn
  have a0 := in_get hl (show 0 < l.length by omega)
  have a1 := in_get hl (show 1 < l.length by omega)
  have a2 := in_get hl (show 2 < l.length by omega)
  have b0 := ha.bit r hr 0 (by omega)
  have b1 := ha.bit r hr 1 (by omega)
  have b2 := ha.bit r hr 2 (by omega)
  obtain ⟨c1, c2⟩ := all_get (f := fun t => t.testBit r) (g := sayE (rowV r) gs) ha.len (ha.bit r hr)
  unfold actT actG
  split
  · rw [allT_bit hr, c1, and_says h hl]
  · split
    · rw [someT_bit, c2, or_says h hl]
    · split
      · unfold sameG
        rw [notT_bit hr, Nat.testBit_xor, b0, b1, if_says h a0 a1 (by rw [turn_div]; exact a1), say_turn]
        cases sayE (rowV r) gs (l.getD 0 0) <;> cases sayE (rowV r) gs (l.getD 1 0) <;> rfl
      · split
        · rw [Nat.testBit_or, Nat.testBit_and, Nat.testBit_and, notT_bit hr, b0, b1, b2, if_says h a0 a1 a2]
          cases sayE (rowV r) gs (l.getD 0 0) <;> simp
        · show _ = sayE (rowV r) gs (turnE (l.getD 0 0))
          rw [notT_bit hr, b0, say_turn]
theorem and_lt64 {a b : Nat} (ha : a < 18446744073709551616) : a &&& b < 18446744073709551616 := Nat.lt_of_le_of_lt Nat.and_le_left ha
theorem actT_lt {ts : List Nat} (h : U64 ts) (h3 : 3 ≤ ts.length) : actT k ts < 18446744073709551616 := by
  have g : ∀ j, j < 3 → ts.getD j 0 < 18446744073709551616 := fun j hj => h _ (nmem.2 ⟨j, by omega, rfl⟩)
  have g0 := g 0 (by omega)
  have g1 := g 1 (by omega)
  unfold actT
  split
  · exact allT_lt _
  · split
    · exact someT_lt _ h
    · split
      · exact notT_lt (xor_lt64 g0 g1)
      · split
        · exact or_lt64 (and_lt64 g0) (and_lt64 (notT_lt g0))
        · exact notT_lt g0
end
end Go.Proofs.Ytmiifhclcknhdaa
