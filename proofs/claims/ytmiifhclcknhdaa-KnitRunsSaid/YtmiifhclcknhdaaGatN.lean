/- On which gates edges hang, in plain words: a search by a list; what edges say, gate by gate. No function of the program. -/
import Derived.Test.YtmiifhclcknhdaaGatM
namespace Go.Proofs.Ytmiifhclcknhdaa.GatM

/-- The gates on which what the edges l say hangs. -/
inductive Rch (gs : Gs) (l : List Nat) : Nat → Prop
  | root {e : Nat} (h : e ∈ l) (h0 : e / 2 ≠ 0) : Rch gs l (e / 2)
  | left {i : Nat} (h : Rch gs l i) (hne : getG gs i ≠ (0, 0)) : Rch gs l ((getG gs i).1 / 2)
  | right {i : Nat} (h : Rch gs l i) (hne : getG gs i ≠ (0, 0)) : Rch gs l ((getG gs i).2 / 2)
def meetC (C : List Nat) (n : Nat) : List Nat := if n = 0 ∨ n ∈ C then C else C ++ [n]
/-- 0, and those of C. -/
def conSt (C : List Nat) (k : Nat) : Bool := decide (k = 0 ∨ k ∈ C)
theorem meet_sub (C : List Nat) (n : Nat) {x : Nat} (h : x ∈ C) : x ∈ meetC C n := by
  unfold meetC; split
  · exact h
  · exact List.mem_append_left _ h
theorem meet_in (C : List Nat) (n : Nat) : n = 0 ∨ n ∈ meetC C n := by
  unfold meetC; split
  · assumption
  · exact .inr (by simp)
theorem meet_get (C : List Nat) (n : Nat) {j : Nat} (h : j < C.length) : (meetC C n).getD j 0 = C.getD j 0 := by
  unfold meetC; split
  · rfl
  · rw [List.getD, List.getD, List.getElem?_append_left h]
theorem meet_len (C : List Nat) (n : Nat) : C.length ≤ (meetC C n).length := by
  unfold meetC; split
  · exact Nat.le_refl _
  · simp
theorem meet_mem {C : List Nat} {n x : Nat} (h : x ∈ meetC C n) : x ∈ C ∨ (x = n ∧ n ≠ 0) := by
  unfold meetC at h
  split at h
  · exact .inl h
  · rename_i hn
    rcases List.mem_append.1 h with h | h
    · exact .inl h
    · exact .inr ⟨by simpa using h, fun e => hn (.inl e)⟩
theorem meet_nodup {C : List Nat} {n : Nat} (h : C.Nodup) : (meetC C n).Nodup := by
  unfold meetC; split
  · exact h
  · rename_i hn
    rw [List.nodup_append]
    exact ⟨h, by simp, fun a ha b hb e => hn (.inr (by simp at hb; rw [← hb, ← e]; exact ha))⟩
/-- The search: k edges met, i gates closed. -/
structure Bfs (gs : Gs) (l : List Nat) (k i : Nat) (C : List Nat) : Prop where
  nd : C.Nodup
  nz : ∀ x ∈ C, x ≠ 0 ∧ x < gs.length
  snd : ∀ x ∈ C, Rch gs l x
  rts : ∀ j, j < k → l.getD j 0 / 2 = 0 ∨ l.getD j 0 / 2 ∈ C
  cls : ∀ j, j < i → getG gs (C.getD j 0) ≠ (0, 0) → (getG gs (C.getD j 0)).1 / 2 ∈ C ∧ (getG gs (C.getD j 0)).2 / 2 ∈ C
theorem bfs_start (gs : Gs) (l : List Nat) : Bfs gs l 0 0 [] := ⟨by simp, by simp, by simp, fun j hj => by omega, fun j hj => by omega⟩
section
variable {gs : Gs} {l C : List Nat} {k i : Nat}
theorem ngetD {C : List Nat} {j : Nat} (h : j < C.length) : C.getD j 0 ∈ C := by
  rw [List.getD, List.getElem?_eq_getElem h]; exact List.getElem_mem h
theorem Bfs.len (h : Bfs gs l k i C) : C.length ≤ gs.length := by
  have := List.Nodup.length_le_of_subset h.nd (l₂ := List.range gs.length) fun x hx => List.mem_range.2 (h.nz x hx).2
  simpa using this
/-- One more number met. -/
theorem Bfs.meet (h : Bfs gs l k i C) (hi : i ≤ C.length) {n : Nat} (hr : n ≠ 0 → Rch gs l n) (hn : n < gs.length) : Bfs gs l k i (meetC C n) :=
  ⟨meet_nodup h.nd, fun x hx => by
    rcases meet_mem hx with e | ⟨e, e0⟩
    · exact h.nz x e
    · rw [e]; exact ⟨e0, hn⟩, fun x hx => by
    rcases meet_mem hx with e | ⟨e, e0⟩
    · exact h.snd x e
    · rw [e]; exact hr e0, fun j hj => by
    rcases h.rts j hj with e | e
    · exact .inl e
    · exact .inr (meet_sub _ _ e), fun j hj hne => by
    rw [meet_get _ _ (by omega)] at hne ⊢
    obtain ⟨a, b⟩ := h.cls j hj hne
    exact ⟨meet_sub _ _ a, meet_sub _ _ b⟩⟩
theorem Bfs.root (h : Bfs gs l k 0 C) (hk : k < l.length) (hl : AllIn gs l) : Bfs gs l (k + 1) 0 (meetC C (l.getD k 0 / 2)) := by
  have hm := h.meet (Nat.zero_le _) (n := l.getD k 0 / 2) (fun h0 => .root (ngetD hk) h0) (hl _ (ngetD hk))
  refine ⟨hm.nd, hm.nz, hm.snd, fun j hj => ?_, hm.cls⟩
  by_cases e : j = k
  · rw [e]; exact meet_in _ _
  · exact hm.rts j (by omega)
theorem Bfs.leaf (h : Bfs gs l k i C) (he : getG gs (C.getD i 0) = (0, 0)) : Bfs gs l k (i + 1) C :=
  ⟨h.nd, h.nz, h.snd, h.rts, fun j hj hne => by
    by_cases e : j = i
    · rw [e] at hne; exact absurd he hne
    · exact h.cls j (by omega) hne⟩
theorem Bfs.step (h : Bfs gs l k i C) (hw : Wf gs) (hi : i < C.length) (hne : getG gs (C.getD i 0) ≠ (0, 0)) :
    Bfs gs l k (i + 1) (meetC (meetC C ((getG gs (C.getD i 0)).1 / 2)) ((getG gs (C.getD i 0)).2 / 2)) := by
  have hx := ngetD hi
  have hz := h.nz _ hx
  have hlt := hw.lt1 hz.2 hne
  have h2 := hw.and_ _ hz.2 hne
  have m1 := h.meet (Nat.le_of_lt hi) (n := (getG gs (C.getD i 0)).1 / 2) (fun _ => .left (h.snd _ hx) hne) (by omega)
  have m2 := m1.meet (Nat.le_trans (Nat.le_of_lt hi) (meet_len _ _)) (n := (getG gs (C.getD i 0)).2 / 2) (fun _ => .right (h.snd _ hx) hne) (by omega)
  refine ⟨m2.nd, m2.nz, m2.snd, m2.rts, fun j hj hne' => ?_⟩
  by_cases e : j = i
  · subst e
    rw [meet_get _ _ (Nat.lt_of_lt_of_le hi (meet_len _ _)), meet_get _ _ hi]
    refine ⟨meet_sub _ _ ?_, ?_⟩
    · rcases meet_in C ((getG gs (C.getD j 0)).1 / 2) with q | q
      · omega
      · exact q
    · rcases meet_in (meetC C ((getG gs (C.getD j 0)).1 / 2)) ((getG gs (C.getD j 0)).2 / 2) with q | q
      · omega
      · exact q
  · exact m2.cls j (by omega) hne'
theorem Bfs.done (h : Bfs gs l l.length C.length C) (x : Nat) : x ∈ C ↔ Rch gs l x := by
  refine ⟨h.snd x, fun hr => ?_⟩
  have cl : ∀ y ∈ C, getG gs y ≠ (0, 0) → (getG gs y).1 / 2 ∈ C ∧ (getG gs y).2 / 2 ∈ C := fun y hy hne => by
    obtain ⟨j, hj, rfl⟩ := List.getElem_of_mem hy
    have e : C.getD j 0 = C[j] := by simp [List.getD, List.getElem?_eq_getElem hj]
    have := h.cls j hj
    rw [e] at this
    exact this hne
  induction hr with
  | root he h0 =>
    obtain ⟨j, hj, rfl⟩ := List.getElem_of_mem he
    have e : l.getD j 0 = l[j] := by simp [List.getD, List.getElem?_eq_getElem hj]
    rcases h.rts j hj with q | q
    · rw [e] at q; exact absurd q h0
    · rw [e] at q; exact q
  | left _ hne ih => exact (cl _ ih hne).1
  | right _ hne ih => exact (cl _ ih hne).2
end
/-- The cone, rising. -/
structure ConeL (gs : Gs) (l D : List Nat) : Prop where
  srt : D.Pairwise (· < ·)
  mem : ∀ x, x ∈ D ↔ Rch gs l x
theorem Rch.pos {gs : Gs} {l : List Nat} (hw : Wf gs) (hl : AllIn gs l) {x : Nat} (h : Rch gs l x) : x ≠ 0 ∧ x < gs.length := by
  induction h with
  | root he h0 => exact ⟨h0, hl _ he⟩
  | left _ hne ih =>
    have h1 := hw.and_ _ ih.2 hne
    have h2 := hw.lt1 ih.2 hne
    omega
  | right _ hne ih =>
    have h1 := hw.and_ _ ih.2 hne
    have h2 := hw.lt1 ih.2 hne
    omega
theorem mem_take {D : List Nat} (h : D.Pairwise (· < ·)) {k y : Nat} (hk : k < D.length) (hy : y ∈ D) (hlt : y < D.getD k 0) : y ∈ D.take k := by
  obtain ⟨j, hj, rfl⟩ := List.getElem_of_mem hy
  have e : D.getD k 0 = D[k] := by simp [List.getD, List.getElem?_eq_getElem hk]
  rw [e] at hlt
  have hjk : j < k := by
    rcases Nat.lt_or_ge j k with h' | h'
    · exact h'
    · rcases Nat.eq_or_lt_of_le h' with q | q
      · subst q; omega
      · have := List.pairwise_iff_getElem.1 h k j hk hj q; omega
  exact List.mem_iff_getElem.2 ⟨j, by rw [List.length_take]; omega, by rw [List.getElem_take]⟩
/-- Which of the cone's first k gates are true. -/
def truSt (vals : List Bool) (gs : Gs) (D : List Nat) (k n : Nat) : Bool := decide (n ∈ D.take k) && tru vals gs n
section
variable {gs : Gs} {l D : List Nat} {vals : List Bool} {k : Nat}
theorem cone_child (hw : Wf gs) (hl : AllIn gs l) (hc : ConeL gs l D) (hk : k < D.length) (hne : getG gs (D.getD k 0) ≠ (0, 0)) :
    (truSt vals gs D k ((getG gs (D.getD k 0)).1 / 2) != odd (getG gs (D.getD k 0)).1) = sayE vals gs (getG gs (D.getD k 0)).1 ∧ (truSt vals gs D k ((getG gs (D.getD k 0)).2 / 2) != odd (getG gs (D.getD k 0)).2) = sayE vals gs (getG gs (D.getD k 0)).2 := by
  have hx := (hc.mem _).1 (ngetD hk)
  have hz := hx.pos hw hl
  have hlt := hw.lt1 hz.2 hne
  have m1 := mem_take hc.srt hk ((hc.mem _).2 (.left hx hne)) hlt.1
  have m2 := mem_take hc.srt hk ((hc.mem _).2 (.right hx hne)) hlt.2
  unfold truSt sayE
  rw [decide_eq_true m1, decide_eq_true m2, Bool.true_and, Bool.true_and]
  exact ⟨rfl, rfl⟩
theorem truSt_zero (n : Nat) : truSt vals gs D 0 n = false := by unfold truSt; simp
theorem tru_step (hk : k < D.length) (n : Nat) : truSt vals gs D (k + 1) n = if tru vals gs (D.getD k 0) = true then (if n = D.getD k 0 then true else truSt vals gs D k n) else truSt vals gs D k n := by
  unfold truSt
  have e : D.take (k + 1) = D.take k ++ [D.getD k 0] := by
    rw [List.take_succ_eq_append_getElem hk]; simp [List.getD, List.getElem?_eq_getElem hk]
  rw [e]
  by_cases hn : n = D.getD k 0
  · have hm : n ∈ D.take k ++ [D.getD k 0] := by rw [hn]; simp
    rw [decide_eq_true hm, Bool.true_and, ← hn, if_pos rfl]
    cases tru vals gs n <;> simp
  · have hm : (n ∈ D.take k ++ [D.getD k 0]) ↔ n ∈ D.take k := by rw [List.mem_append, List.mem_singleton]; exact ⟨fun h => h.resolve_right hn, .inl⟩
    rw [if_neg hn, ite_self, decide_eq_decide.2 hm]
theorem cone_says (hw : Wf gs) (hc : ConeL gs l D) {e : Nat} (he : e ∈ l) : (truSt vals gs D D.length (e / 2) != odd e) = sayE vals gs e := by
  unfold truSt sayE
  rw [List.take_length]
  by_cases h0 : e / 2 = 0
  · rw [h0, tru_zero hw, Bool.and_false]
  · rw [decide_eq_true ((hc.mem _).2 (.root he h0)), Bool.true_and]
end
end Go.Proofs.Ytmiifhclcknhdaa.GatM
