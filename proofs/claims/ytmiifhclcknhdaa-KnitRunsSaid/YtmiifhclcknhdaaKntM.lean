/- A circuit's gates as clauses, in plain words: which variable a gate has, what is told of it; the search for the gates that have none. No function of the program. -/
import Derived.Test.YtmiifhclcknhdaaGatN
namespace Go.Proofs.Ytmiifhclcknhdaa.KntM
open GatM

/-- A gate's variable: its place among those that have one, and one more; 0, if it has none. -/
def vr (K : List Nat) (n : Nat) : Nat := if n ∈ K then K.idxOf n + 1 else 0
theorem vr_pos {K : List Nat} {n : Nat} : vr K n ≠ 0 ↔ n ∈ K := by unfold vr; split <;> simp_all
theorem vr_zero {K : List Nat} {n : Nat} (h : n ∉ K) : vr K n = 0 := by unfold vr; rw [if_neg h]
theorem vr_le (K : List Nat) (n : Nat) : vr K n ≤ K.length := by
  unfold vr; split
  · rename_i h; have := List.idxOf_lt_length_of_mem h; omega
  · omega
theorem vr_app {K D : List Nat} {n : Nat} (h : n ∈ K) : vr (K ++ D) n = vr K n := by
  unfold vr
  rw [if_pos (List.mem_append_left _ h), if_pos h, List.idxOf_append, if_pos h]
theorem vr_get {K : List Nat} (h : K.Nodup) {i : Nat} (hi : i < K.length) : vr K K[i] = i + 1 := by
  unfold vr
  rw [if_pos (List.getElem_mem hi), List.Nodup.idxOf_getElem h]
theorem vr_inj {K : List Nat} {n m : Nat} (hn : n ∈ K) (h : vr K n = vr K m) : n = m := by
  have hm : m ∈ K := vr_pos.1 (by rw [← h]; exact vr_pos.2 hn)
  unfold vr at h
  rw [if_pos hn, if_pos hm] at h
  have h : K.idxOf n = K.idxOf m := by omega
  have e1 : K[K.idxOf n]? = some n := by rw [List.getElem?_eq_getElem (List.idxOf_lt_length_of_mem hn), List.getElem_idxOf]
  have e2 : K[K.idxOf m]? = some m := by rw [List.getElem?_eq_getElem (List.idxOf_lt_length_of_mem hm), List.getElem_idxOf]
  rw [h, e2] at e1
  exact (Option.some.inj e1).symm
theorem vr_sur {K : List Nat} (h : K.Nodup) {v : Nat} (h1 : 1 ≤ v) (h2 : v ≤ K.length) : ∃ n, n ∈ K ∧ vr K n = v :=
  ⟨K[v - 1], List.getElem_mem (by omega), by rw [vr_get h]; omega⟩
theorem vr_snoc {L : List Nat} {x : Nat} (hx : x ∉ L) (j : Nat) : vr (L ++ [x]) j = if j = x then L.length + 1 else vr L j := by
  by_cases e : j = x
  · subst e
    rw [if_pos rfl]
    unfold vr
    rw [if_pos (by simp), List.idxOf_append, if_neg hx]; simp
  · rw [if_neg e]
    unfold vr
    by_cases h : j ∈ L
    · rw [if_pos (List.mem_append_left _ h), if_pos h, List.idxOf_append, if_pos h]
    · rw [if_neg h, if_neg]; simp [h, e]
/-- The literal that says what an edge says. -/
def lt (K : List Nat) (e : Nat) : Int := if e % 2 = 1 then -(vr K (e / 2) : Int) else (vr K (e / 2) : Int)
theorem lt_app {K D : List Nat} {e : Nat} (h : e / 2 ∈ K) : lt (K ++ D) e = lt K e := by unfold lt; rw [vr_app h]
theorem lt_turn (K : List Nat) (e : Nat) : lt K (turnE e) = -lt K e := by
  unfold lt
  rw [turn_div, turn_mod]
  rcases Nat.mod_two_eq_zero_or_one e with h | h <;> simp [h]
theorem lt_ne {K : List Nat} {e : Nat} (h : e / 2 ∈ K) : lt K e ≠ 0 := by
  have := vr_pos.2 h
  unfold lt; split <;> omega
theorem lt_bd (K : List Nat) (e : Nat) : -(K.length : Int) ≤ lt K e ∧ lt K e ≤ K.length := by
  have := vr_le K (e / 2)
  unfold lt; split <;> omega
/-- What is told of a gate. -/
def tellL (gs : Gs) (K : List Nat) (n : Nat) : List (List Int) :=
  if n = 0 then [[-(vr K 0 : Int)]]
  else if getG gs n = (0, 0) then []
  else [[-(vr K n : Int), lt K (getG gs n).1], [-(vr K n : Int), lt K (getG gs n).2], [(vr K n : Int), -lt K (getG gs n).1, -lt K (getG gs n).2]]
/-- All clauses of gates that have variables. -/
def clsK (gs : Gs) (K : List Nat) : List (List Int) := K.flatMap (tellL gs K)
/-- Which gates have variables. -/
structure OkK (gs : Gs) (K : List Nat) : Prop where
  nd : K.Nodup
  lt : ∀ n ∈ K, n < gs.length
  cl : ∀ n ∈ K, getG gs n ≠ (0, 0) → (getG gs n).1 / 2 ∈ K ∧ (getG gs n).2 / 2 ∈ K
theorem OkK.nil (gs : Gs) : OkK gs [] := ⟨by simp, by simp, by simp⟩
theorem OkK.len {gs : Gs} {K : List Nat} (h : OkK gs K) : K.length ≤ gs.length := by
  have := List.Nodup.length_le_of_subset h.nd (l₂ := List.range gs.length) fun x hx => List.mem_range.2 (h.lt x hx)
  simpa using this
theorem tell_app {gs : Gs} {K D : List Nat} {n : Nat} (hn : n ∈ K) (hc : getG gs n ≠ (0, 0) → (getG gs n).1 / 2 ∈ K ∧ (getG gs n).2 / 2 ∈ K) : tellL gs (K ++ D) n = tellL gs K n := by
  unfold tellL
  split
  · rename_i h; subst h; rw [vr_app hn]
  · split
    · rfl
    · rename_i h
      obtain ⟨h1, h2⟩ := hc h
      rw [vr_app hn, lt_app h1, lt_app h2]
theorem flat_congr {α β : Type} (K : List α) {f g : α → List β} (h : ∀ x ∈ K, f x = g x) : K.flatMap f = K.flatMap g := by
  induction K with
  | nil => rfl
  | cons x K ih =>
    rw [List.flatMap_cons, List.flatMap_cons, h x (List.mem_cons_self ..), ih fun y hy => h y (List.mem_cons_of_mem _ hy)]
theorem cls_app {gs : Gs} {K D : List Nat} (h : OkK gs K) : clsK gs (K ++ D) = clsK gs K ++ D.flatMap (tellL gs (K ++ D)) := by
  unfold clsK
  rw [List.flatMap_append]
  congr 1
  exact flat_congr K fun n hn => tell_app hn (h.cl n hn)
theorem flat_take {α : Type} (f : Nat → List α) (D : List Nat) {i : Nat} (hi : i < D.length) : (D.take (i + 1)).flatMap f = (D.take i).flatMap f ++ f (D.getD i 0) := by
  rw [List.take_succ_eq_append_getElem hi, List.flatMap_append]
  simp [List.getD, List.getElem?_eq_getElem hi]

/-! ### The search -/
def meetK (K C : List Nat) (n : Nat) : List Nat := if n ∈ K ∨ n ∈ C then C else C ++ [n]
theorem meetK_sub (K C : List Nat) (n : Nat) {x : Nat} (h : x ∈ C) : x ∈ meetK K C n := by
  unfold meetK; split
  · exact h
  · exact List.mem_append_left _ h
theorem meetK_in (K C : List Nat) (n : Nat) : n ∈ K ∨ n ∈ meetK K C n := by
  unfold meetK; split
  · assumption
  · exact .inr (by simp)
theorem meetK_get (K C : List Nat) (n : Nat) {j : Nat} (h : j < C.length) : (meetK K C n).getD j 0 = C.getD j 0 := by
  unfold meetK; split
  · rfl
  · rw [List.getD, List.getD, List.getElem?_append_left h]
theorem meetK_len (K C : List Nat) (n : Nat) : C.length ≤ (meetK K C n).length ∧ (meetK K C n).length ≤ C.length + 1 := by
  unfold meetK; split <;> simp
theorem meetK_mem {K C : List Nat} {n x : Nat} (h : x ∈ meetK K C n) : x ∈ C ∨ (x = n ∧ n ∉ K) := by
  unfold meetK at h
  split at h
  · exact .inl h
  · rename_i hn
    rcases List.mem_append.1 h with h | h
    · exact .inl h
    · exact .inr ⟨by simpa using h, fun e => hn (.inl e)⟩
theorem meetK_nodup {K C : List Nat} {n : Nat} (h : C.Nodup) : (meetK K C n).Nodup := by
  unfold meetK; split
  · exact h
  · rename_i hn
    rw [List.nodup_append]
    exact ⟨h, by simp, fun a ha b hb e => hn (.inr (by simp at hb; rw [← hb, ← e]; exact ha))⟩
/-- The gates on which edges hang. -/
inductive RchK (gs : Gs) (l : List Nat) : Nat → Prop
  | root {e : Nat} (h : e ∈ l) : RchK gs l (e / 2)
  | left {i : Nat} (h : RchK gs l i) (hne : getG gs i ≠ (0, 0)) : RchK gs l ((getG gs i).1 / 2)
  | right {i : Nat} (h : RchK gs l i) (hne : getG gs i ≠ (0, 0)) : RchK gs l ((getG gs i).2 / 2)
/-- The search: k edges met, i gates closed. -/
structure BfK (gs : Gs) (K l : List Nat) (k i : Nat) (C : List Nat) : Prop where
  nd : C.Nodup
  snd : ∀ x ∈ C, RchK gs l x
  nz : ∀ x ∈ C, x ∉ K ∧ x < gs.length
  rts : ∀ j, j < k → l.getD j 0 / 2 ∈ K ∨ l.getD j 0 / 2 ∈ C
  cls : ∀ j, j < i → getG gs (C.getD j 0) ≠ (0, 0) → ((getG gs (C.getD j 0)).1 / 2 ∈ K ∨ (getG gs (C.getD j 0)).1 / 2 ∈ C) ∧ ((getG gs (C.getD j 0)).2 / 2 ∈ K ∨ (getG gs (C.getD j 0)).2 / 2 ∈ C)
theorem bfK_start (gs : Gs) (K l : List Nat) : BfK gs K l 0 0 [] := ⟨by simp, by simp, by simp, fun j hj => by omega, fun j hj => by omega⟩
section
variable {gs : Gs} {K l C : List Nat} {k i : Nat}
theorem BfK.len (h : BfK gs K l k i C) : C.length ≤ gs.length := by
  have := List.Nodup.length_le_of_subset h.nd (l₂ := List.range gs.length) fun x hx => List.mem_range.2 (h.nz x hx).2
  simpa using this
theorem or_sub {K C C' : List Nat} {x : Nat} (hs : ∀ y, y ∈ C → y ∈ C') (h : x ∈ K ∨ x ∈ C) : x ∈ K ∨ x ∈ C' := h.imp id (hs x)
/-- One more number met. -/
theorem BfK.meet (h : BfK gs K l k i C) (hi : i ≤ C.length) {n : Nat} (hn : n < gs.length) (hr : RchK gs l n) : BfK gs K l k i (meetK K C n) :=
  ⟨meetK_nodup h.nd, fun x hx => by
    rcases meetK_mem hx with e | ⟨e, _⟩
    · exact h.snd x e
    · rw [e]; exact hr, fun x hx => by
    rcases meetK_mem hx with e | ⟨e, e0⟩
    · exact h.nz x e
    · rw [e]; exact ⟨e0, hn⟩, fun j hj => or_sub (fun y => meetK_sub K C n) (h.rts j hj), fun j hj hne => by
    rw [meetK_get _ _ _ (by omega)] at hne ⊢
    obtain ⟨a, b⟩ := h.cls j hj hne
    exact ⟨or_sub (fun y => meetK_sub K C n) a, or_sub (fun y => meetK_sub K C n) b⟩⟩
theorem BfK.root (h : BfK gs K l k 0 C) (hk : k < l.length) (hl : AllIn gs l) : BfK gs K l (k + 1) 0 (meetK K C (l.getD k 0 / 2)) := by
  have hm := h.meet (Nat.zero_le _) (n := l.getD k 0 / 2) (hl _ (ngetD hk)) (.root (ngetD hk))
  refine ⟨hm.nd, hm.snd, hm.nz, fun j hj => ?_, hm.cls⟩
  by_cases e : j = k
  · rw [e]; exact meetK_in _ _ _
  · exact hm.rts j (by omega)
theorem BfK.leaf (h : BfK gs K l k i C) (he : getG gs (C.getD i 0) = (0, 0)) : BfK gs K l k (i + 1) C :=
  ⟨h.nd, h.snd, h.nz, h.rts, fun j hj hne => by
    by_cases e : j = i
    · rw [e] at hne; exact absurd he hne
    · exact h.cls j (by omega) hne⟩
theorem BfK.step (h : BfK gs K l k i C) (hw : Wf gs) (hi : i < C.length) (hne : getG gs (C.getD i 0) ≠ (0, 0)) :
    BfK gs K l k (i + 1) (meetK K (meetK K C ((getG gs (C.getD i 0)).1 / 2)) ((getG gs (C.getD i 0)).2 / 2)) := by
  have hx := ngetD hi
  have hz := h.nz _ hx
  have hlt := hw.lt1 hz.2 hne
  have m1 := h.meet (Nat.le_of_lt hi) (n := (getG gs (C.getD i 0)).1 / 2) (by omega) (.left (h.snd _ hx) hne)
  have m2 := m1.meet (Nat.le_trans (Nat.le_of_lt hi) (meetK_len _ _ _).1) (n := (getG gs (C.getD i 0)).2 / 2) (by omega) (.right (h.snd _ hx) hne)
  refine ⟨m2.nd, m2.snd, m2.nz, m2.rts, fun j hj hne' => ?_⟩
  by_cases e : j = i
  · subst e
    rw [meetK_get _ _ _ (Nat.lt_of_lt_of_le hi (meetK_len _ _ _).1), meetK_get _ _ _ hi]
    exact ⟨or_sub (fun y => meetK_sub K _ _) (meetK_in _ _ _), meetK_in _ _ _⟩
  · exact m2.cls j (by omega) hne'
end
/-- Which gates get variables: rising. -/
structure UnkL (gs : Gs) (K l D : List Nat) : Prop where
  nd : D.Nodup
  snd : ∀ x ∈ D, RchK gs l x
  nz : ∀ x ∈ D, x ∉ K ∧ x < gs.length
  rts : ∀ e ∈ l, e / 2 ∈ K ∨ e / 2 ∈ D
  cls : ∀ x ∈ D, getG gs x ≠ (0, 0) → ((getG gs x).1 / 2 ∈ K ∨ (getG gs x).1 / 2 ∈ D) ∧ ((getG gs x).2 / 2 ∈ K ∨ (getG gs x).2 / 2 ∈ D)
theorem BfK.done {gs : Gs} {K l C D : List Nat} (h : BfK gs K l l.length C.length C) (hp : D.Perm C) : UnkL gs K l D := by
  have hm : ∀ x, x ∈ D ↔ x ∈ C := fun x => hp.mem_iff
  refine ⟨hp.nodup_iff.2 h.nd, fun x hx => h.snd x ((hm x).1 hx), fun x hx => h.nz x ((hm x).1 hx), fun e he => ?_, fun x hx hne => ?_⟩
  · obtain ⟨j, hj, rfl⟩ := List.getElem_of_mem he
    have := h.rts j hj
    simp only [List.getD, List.getElem?_eq_getElem hj, Option.getD_some] at this
    rw [hm]; exact this
  · obtain ⟨j, hj, rfl⟩ := List.getElem_of_mem ((hm x).1 hx)
    have := h.cls j hj
    simp only [List.getD, List.getElem?_eq_getElem hj, Option.getD_some] at this
    rw [hm, hm]; exact this hne
/-- Behind the naming all is as before, with more gates. -/
theorem UnkL.ok {gs : Gs} {K l D : List Nat} (h : UnkL gs K l D) (hK : OkK gs K) : OkK gs (K ++ D) :=
  ⟨by
    rw [List.nodup_append]
    exact ⟨hK.nd, h.nd, fun a ha b hb e => (h.nz b hb).1 (e ▸ ha)⟩, fun n hn => by
    rcases List.mem_append.1 hn with e | e
    · exact hK.lt n e
    · exact (h.nz n e).2, fun n hn hne => by
    rw [List.mem_append, List.mem_append]
    rcases List.mem_append.1 hn with e | e
    · obtain ⟨a, b⟩ := hK.cl n e hne
      exact ⟨.inl a, .inl b⟩
    · exact h.cls n e hne⟩
/-- Where all have variables, nothing is met. -/
def Em (K l : List Nat) (k : Nat) (C : List Nat) : Prop := (∀ j, j < k → l.getD j 0 / 2 ∈ K) → C = []
theorem Em.start (K l : List Nat) : Em K l 0 [] := fun _ => rfl
theorem Em.root {K l C : List Nat} {k : Nat} (h : Em K l k C) : Em K l (k + 1) (meetK K C (l.getD k 0 / 2)) := fun ha => by
  rw [h fun j hj => ha j (by omega)]
  unfold meetK
  rw [if_pos (.inl (ha k (by omega)))]
theorem Em.step {K l C C' : List Nat} {k i : Nat} (h : Em K l k C) (hi : i < C.length) : Em K l k C' := fun ha => by
  rw [h ha] at hi
  simp at hi
end Go.Proofs.Ytmiifhclcknhdaa.KntM
