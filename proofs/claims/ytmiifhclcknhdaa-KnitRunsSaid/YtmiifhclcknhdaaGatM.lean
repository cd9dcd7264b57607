/- Circuits as lists of pairs of edges, in plain words: what And, Or, Same and If make; what edges say; what was made isn't made again. No function of the program. -/
import Derived.Lib.Hide
namespace Go.Proofs.Ytmiifhclcknhdaa.GatM

abbrev Gs := List (Nat × Nat)
/-- The other edge of the gate. -/
def turnE (e : Nat) : Nat := if e % 2 = 0 then e + 1 else e - 1
theorem turn_div (e : Nat) : turnE e / 2 = e / 2 := by unfold turnE; split <;> omega
theorem turn_mod (e : Nat) : turnE e % 2 = 1 - e % 2 := by unfold turnE; split <;> omega
theorem turn_turn (e : Nat) : turnE (turnE e) = e := by unfold turnE; split <;> split <;> omega
theorem turn_ne (e : Nat) : turnE e ≠ e := by unfold turnE; split <;> omega
theorem turn_xor (e : Nat) : e ^^^ 1 = turnE e := by
  have h1 := Nat.testBit_xor e 1 0
  rw [Nat.testBit_zero, Nat.testBit_zero, Nat.testBit_zero] at h1
  have h1 : (e ^^^ 1) % 2 = 1 - e % 2 := by
    rcases Nat.mod_two_eq_zero_or_one e with h | h <;> rcases Nat.mod_two_eq_zero_or_one (e ^^^ 1) with h' | h' <;> simp_all
  have h2 := Nat.xor_div_two (a := e) (b := 1)
  have h3 : e / 2 ^^^ 1 / 2 = e / 2 := by simp
  rw [h3] at h2
  unfold turnE
  split <;> omega
def getG (gs : Gs) (i : Nat) : Nat × Nat := gs.getD i (0, 0)
theorem getG_lt {gs : Gs} {i : Nat} (h : i < gs.length) : gs[i]? = some (getG gs i) := by
  unfold getG; rw [List.getD, List.getElem?_eq_getElem h]; rfl
theorem getG_app (gs t : Gs) {i : Nat} (h : i < gs.length) : getG (gs ++ t) i = getG gs i := by
  unfold getG; rw [List.getD, List.getD, List.getElem?_append_left h]
theorem getG_end (gs : Gs) (p : Nat × Nat) : getG (gs ++ [p]) gs.length = p := by
  unfold getG; rw [List.getD, List.getElem?_append_right (Nat.le_refl _)]; simp
theorem mem_iff {gs : Gs} {p : Nat × Nat} : p ∈ gs ↔ ∃ i, i < gs.length ∧ getG gs i = p := by
  constructor
  · intro h
    obtain ⟨i, hi, rfl⟩ := List.getElem_of_mem h
    exact ⟨i, hi, by unfold getG; rw [List.getD, List.getElem?_eq_getElem hi]; rfl⟩
  · rintro ⟨i, hi, rfl⟩
    exact List.mem_of_getElem? (getG_lt hi)
/-- gs', and some gates more. -/
def Ex (gs gs' : Gs) : Prop := ∃ t, gs' = gs ++ t
theorem Ex.refl (gs : Gs) : Ex gs gs := ⟨[], by simp⟩
theorem Ex.trans {a b c : Gs} (h : Ex a b) (k : Ex b c) : Ex a c := by
  obtain ⟨t, rfl⟩ := h
  obtain ⟨u, rfl⟩ := k
  exact ⟨t ++ u, by simp⟩
theorem Ex.len {a b : Gs} (h : Ex a b) : a.length ≤ b.length := by obtain ⟨t, rfl⟩ := h; simp
theorem Ex.get {a b : Gs} (h : Ex a b) {i : Nat} (hi : i < a.length) : getG b i = getG a i := by obtain ⟨t, rfl⟩ := h; exact getG_app _ _ hi
theorem Ex.snoc (gs : Gs) (p : Nat × Nat) : Ex gs (gs ++ [p]) := ⟨[p], rfl⟩

/-- What a circuit is. -/
structure Wf (gs : Gs) : Prop where
  pos : 0 < gs.length
  zero : getG gs 0 = (0, 0)
  and_ : ∀ i, i < gs.length → getG gs i ≠ (0, 0) → 2 ≤ (getG gs i).1 ∧ (getG gs i).1 < (getG gs i).2 ∧ (getG gs i).2 / 2 < i ∧ (getG gs i).1 ≠ turnE (getG gs i).2
  once : ∀ i k, i < gs.length → k < gs.length → getG gs i ≠ (0, 0) → getG gs i = getG gs k → i = k
theorem wf_new : Wf [(0, 0)] := ⟨by simp, rfl, fun i hi h => by
    have : i = 0 := by simp at hi; exact hi
    subst this; exact absurd rfl h, fun i k hi hk _ _ => by simp at hi hk; omega⟩
theorem Wf.input {gs : Gs} (h : Wf gs) : Wf (gs ++ [(0, 0)]) := by
  have key : ∀ i, i < (gs ++ [(0, 0)]).length → getG (gs ++ [(0, 0)]) i ≠ (0, 0) → i < gs.length ∧ getG (gs ++ [(0, 0)]) i = getG gs i := fun i hi hne => by
    have hl : i < gs.length + 1 := by simpa using hi
    rcases Nat.lt_or_ge i gs.length with h1 | h1
    · exact ⟨h1, getG_app _ _ h1⟩
    · have : i = gs.length := by omega
      subst this; rw [getG_end] at hne; exact absurd rfl hne
  refine ⟨by simp, ?_, fun i hi hne => ?_, fun i k hi hk hne he => ?_⟩
  · rw [getG_app _ _ h.pos]; exact h.zero
  · obtain ⟨h1, h2⟩ := key i hi hne
    rw [h2] at hne ⊢
    exact h.and_ i h1 hne
  · obtain ⟨h1, h2⟩ := key i hi hne
    obtain ⟨h3, h4⟩ := key k hk (by rw [← he]; exact hne)
    rw [h2] at hne he
    rw [h4] at he
    exact h.once i k h1 h3 hne he
theorem Wf.pair {gs : Gs} (h : Wf gs) {a b : Nat} (h1 : 2 ≤ a) (h2 : a < b) (h3 : b / 2 < gs.length) (h4 : a ≠ turnE b) (hn : (a, b) ∉ gs) : Wf (gs ++ [(a, b)]) := by
  have key : ∀ i, i < (gs ++ [(a, b)]).length → (i < gs.length ∧ getG (gs ++ [(a, b)]) i = getG gs i) ∨ (i = gs.length ∧ getG (gs ++ [(a, b)]) i = (a, b)) := fun i hi => by
    have hl : i < gs.length + 1 := by simpa using hi
    rcases Nat.lt_or_ge i gs.length with h1 | h1
    · exact .inl ⟨h1, getG_app _ _ h1⟩
    · have : i = gs.length := by omega
      subst this; exact .inr ⟨rfl, getG_end _ _⟩
  refine ⟨by simp, ?_, fun i hi hne => ?_, fun i k hi hk hne he => ?_⟩
  · rw [getG_app _ _ h.pos]; exact h.zero
  · rcases key i hi with ⟨k1, k2⟩ | ⟨k1, k2⟩
    · rw [k2] at hne ⊢
      exact h.and_ i k1 hne
    · rw [k2, k1]; exact ⟨h1, h2, h3, h4⟩
  · rcases key i hi with ⟨k1, k2⟩ | ⟨k1, k2⟩ <;> rcases key k hk with ⟨k3, k4⟩ | ⟨k3, k4⟩
    · rw [k2] at hne he
      rw [k4] at he
      exact h.once i k k1 k3 hne he
    · rw [k2, k4] at he
      exact absurd (mem_iff.2 ⟨i, k1, he⟩) hn
    · rw [k2, k4] at he
      exact absurd (mem_iff.2 ⟨k, k3, he.symm⟩) hn
    · omega

/-- And of two. -/
def bothG (gs : Gs) (a b : Nat) : Nat × Gs :=
  if min a b = 0 ∨ min a b = turnE (max a b) then (0, gs)
  else if min a b = 1 ∨ min a b = max a b then (max a b, gs)
  else if (min a b, max a b) ∈ gs then (2 * gs.idxOf (min a b, max a b), gs)
  else (2 * gs.length, gs ++ [(min a b, max a b)])
theorem idx_get {gs : Gs} {p : Nat × Nat} (h : p ∈ gs) : gs.idxOf p < gs.length ∧ getG gs (gs.idxOf p) = p := by
  have h1 := List.idxOf_lt_length_of_mem h
  refine ⟨h1, ?_⟩
  unfold getG
  rw [List.getD, List.getElem?_eq_getElem h1]
  simp
theorem Wf.idx {gs : Gs} (h : Wf gs) {i : Nat} (hi : i < gs.length) (hne : getG gs i ≠ (0, 0)) : gs.idxOf (getG gs i) = i := by
  have hm : getG gs i ∈ gs := mem_iff.2 ⟨i, hi, rfl⟩
  obtain ⟨h1, h2⟩ := idx_get hm
  exact (h.once i _ hi h1 hne h2.symm).symm
/-- What an operation made. -/
structure Made (gs : Gs) (r : Nat × Gs) (k : Nat) : Prop where
  wf : Wf r.2
  ex : Ex gs r.2
  lt : r.1 / 2 < r.2.length
  len : r.2.length ≤ gs.length + k
theorem Made.same {gs : Gs} (h : Wf gs) {e : Nat} (he : e / 2 < gs.length) : Made gs (e, gs) 0 := ⟨h, Ex.refl _, he, Nat.le_refl _⟩
theorem Made.mono {gs : Gs} {r : Nat × Gs} {k k' : Nat} (h : Made gs r k) (hk : k ≤ k') : Made gs r k' := ⟨h.wf, h.ex, h.lt, Nat.le_trans h.len (by omega)⟩
theorem both_made {gs : Gs} (h : Wf gs) {a b : Nat} (ha : a / 2 < gs.length) (hb : b / 2 < gs.length) : Made gs (bothG gs a b) 1 := by
  unfold bothG
  split
  · exact (Made.same h (by have := h.pos; omega)).mono (by omega)
  · rename_i h1
    split
    · exact (Made.same h (by omega)).mono (by omega)
    · rename_i h2
      split
      · rename_i h3
        refine (Made.same h ?_).mono (by omega)
        have := (idx_get h3).1
        omega
      · rename_i h3
        refine ⟨h.pair ?_ ?_ ?_ ?_ h3, Ex.snoc _ _, by simp, by simp⟩
        · omega
        · omega
        · omega
        · exact fun e => h1 (.inr e)
theorem both_again {gs gs' : Gs} {a b : Nat} (hx : Ex (bothG gs a b).2 gs') (hw : Wf gs') : bothG gs' a b = ((bothG gs a b).1, gs') := by
  unfold bothG at hx ⊢
  by_cases h1 : min a b = 0 ∨ min a b = turnE (max a b)
  · simp only [if_pos h1]
  · simp only [if_neg h1] at hx ⊢
    by_cases h2 : min a b = 1 ∨ min a b = max a b
    · simp only [if_pos h2]
    · simp only [if_neg h2] at hx ⊢
      have hne : (min a b, max a b) ≠ ((0, 0) : Nat × Nat) := by
        intro e
        have := congrArg Prod.fst e
        simp only at this
        exact h1 (.inl this)
      by_cases h3 : (min a b, max a b) ∈ gs
      · simp only [if_pos h3] at hx ⊢
        obtain ⟨k1, k2⟩ := idx_get h3
        have k3 := hx.get k1
        have k4 : (min a b, max a b) ∈ gs' := mem_iff.2 ⟨_, Nat.lt_of_lt_of_le k1 hx.len, k3.trans k2⟩
        rw [if_pos k4]
        have k5 := hw.idx (Nat.lt_of_lt_of_le k1 hx.len) (by rw [k3, k2]; exact hne)
        rw [k3, k2] at k5
        rw [k5]
      · simp only [if_neg h3] at hx ⊢
        have k1 : gs.length < (gs ++ [(min a b, max a b)]).length := by simp
        have k3 := hx.get k1
        rw [getG_end] at k3
        have k6 := Nat.lt_of_lt_of_le k1 hx.len
        have k4 : (min a b, max a b) ∈ gs' := mem_iff.2 ⟨_, k6, k3⟩
        rw [if_pos k4]
        have k5 := hw.idx k6 (by rw [k3]; exact hne)
        rw [k3] at k5
        rw [k5]

/-- The INPUTS' edges, in order. -/
def insL (gs : Gs) : List Nat := ((List.range gs.length).filter fun i => decide (i ≠ 0 ∧ getG gs i = (0, 0))).map (2 * ·)
theorem insL_snoc (gs : Gs) (p : Nat × Nat) : insL (gs ++ [p]) = insL gs ++ (if gs.length ≠ 0 ∧ p = (0, 0) then [2 * gs.length] else []) := by
  unfold insL
  rw [List.length_append, List.length_singleton, List.range_succ, List.filter_append, List.map_append]
  congr 1
  · congr 1
    apply List.filter_congr
    intro i hi
    rw [getG_app _ _ (List.mem_range.1 hi)]
  · by_cases h : gs.length ≠ 0 ∧ p = (0, 0)
    · rw [List.filter_cons_of_pos (by rw [getG_end]; exact decide_eq_true h), if_pos h]; rfl
    · rw [List.filter_cons_of_neg (by rw [getG_end]; simpa using h), if_neg h]; rfl
theorem insL_mem {gs : Gs} {e : Nat} : e ∈ insL gs ↔ ∃ i, e = 2 * i ∧ i < gs.length ∧ i ≠ 0 ∧ getG gs i = (0, 0) := by
  unfold insL
  simp only [List.mem_map, List.mem_filter, List.mem_range, decide_eq_true_eq]
  constructor
  · rintro ⟨i, ⟨h1, h2⟩, rfl⟩; exact ⟨i, rfl, h1, h2⟩
  · rintro ⟨i, rfl, h1, h2⟩; exact ⟨i, ⟨h1, h2⟩, rfl⟩
theorem insL_sorted : ∀ gs : Gs, (insL gs).Pairwise (· < ·) := by
  intro gs
  unfold insL
  rw [List.pairwise_map]
  refine List.Pairwise.filter _ ?_
  refine List.Pairwise.imp ?_ (List.pairwise_lt_range (n := gs.length))
  intro a b h; omega
theorem insL_len (gs : Gs) : (insL gs).length ≤ gs.length := by
  unfold insL
  rw [List.length_map]
  have := List.length_filter_le (fun i => decide (i ≠ 0 ∧ getG gs i = (0, 0))) (List.range gs.length)
  simpa using this
/-- How many INPUTS are ahead of a gate. -/
def plcG (gs : Gs) (n : Nat) : Nat := (insL (gs.take n)).length
theorem plc_app (gs t : Gs) {n : Nat} (h : n ≤ gs.length) : plcG (gs ++ t) n = plcG gs n := by
  unfold plcG; rw [List.take_append_of_le_length h]
/-- Its value. -/
def inV (gs : Gs) (vals : List Bool) (n : Nat) : Bool := vals.getD (plcG gs n) false
def odd (e : Nat) : Bool := decide (e % 2 = 1)
/-- Is a gate true? -/
def tru (vals : List Bool) (gs : Gs) (n : Nat) : Bool :=
  if getG gs n = (0, 0) then (decide (n ≠ 0) && inV gs vals n)
  else if _h : (getG gs n).1 / 2 < n ∧ (getG gs n).2 / 2 < n then ((tru vals gs ((getG gs n).1 / 2) != odd (getG gs n).1) && (tru vals gs ((getG gs n).2 / 2) != odd (getG gs n).2))
  else false
termination_by n
decreasing_by
  · exact _h.1
  · exact _h.2
def sayE (vals : List Bool) (gs : Gs) (e : Nat) : Bool := tru vals gs (e / 2) != odd e
theorem Wf.lt1 {gs : Gs} (h : Wf gs) {i : Nat} (hi : i < gs.length) (hne : getG gs i ≠ (0, 0)) : (getG gs i).1 / 2 < i ∧ (getG gs i).2 / 2 < i := by
  have := h.and_ i hi hne; omega
theorem tru_and {vals : List Bool} {gs : Gs} (h : Wf gs) {i : Nat} (hi : i < gs.length) (hne : getG gs i ≠ (0, 0)) : tru vals gs i = (sayE vals gs (getG gs i).1 && sayE vals gs (getG gs i).2) := by
  rw [tru, if_neg hne, dif_pos (h.lt1 hi hne)]; rfl
theorem tru_in {vals : List Bool} {gs : Gs} {i : Nat} (h0 : i ≠ 0) (he : getG gs i = (0, 0)) : tru vals gs i = inV gs vals i := by
  rw [tru, if_pos he, decide_eq_true h0, Bool.true_and]
theorem tru_zero {vals : List Bool} {gs : Gs} (h : Wf gs) : tru vals gs 0 = false := by
  rw [tru, if_pos h.zero]; rfl
theorem tru_app (vals : List Bool) (gs t : Gs) : ∀ n, n < gs.length → tru vals (gs ++ t) n = tru vals gs n := by
  intro n
  induction n using Nat.strongRecOn with
  | ind n ih =>
    intro hn
    rw [tru, tru.eq_1 vals gs n, getG_app _ _ hn]
    by_cases h : getG gs n = (0, 0)
    · rw [if_pos h, if_pos h]; unfold inV; rw [plc_app _ _ (by omega)]
    · rw [if_neg h, if_neg h]
      by_cases h2 : (getG gs n).1 / 2 < n ∧ (getG gs n).2 / 2 < n
      · rw [dif_pos h2, dif_pos h2, ih _ h2.1 (by omega), ih _ h2.2 (by omega)]
      · rw [dif_neg h2, dif_neg h2]
theorem say_ex {vals : List Bool} {gs gs' : Gs} (hx : Ex gs gs') {e : Nat} (he : e / 2 < gs.length) : sayE vals gs' e = sayE vals gs e := by
  obtain ⟨t, rfl⟩ := hx
  unfold sayE
  rw [tru_app _ _ _ _ he]
theorem odd_turn (e : Nat) : odd (turnE e) = !odd e := by
  unfold odd
  rw [turn_mod]
  rcases Nat.mod_two_eq_zero_or_one e with h | h <;> simp [h]
theorem say_turn (vals : List Bool) (gs : Gs) (e : Nat) : sayE vals gs (turnE e) = !sayE vals gs e := by
  unfold sayE
  rw [turn_div, odd_turn]
  cases tru vals gs (e / 2) <;> cases odd e <;> rfl
theorem say_false {vals : List Bool} {gs : Gs} (h : Wf gs) : sayE vals gs 0 = false := by
  unfold sayE; rw [tru_zero h]; rfl
theorem say_true {vals : List Bool} {gs : Gs} (h : Wf gs) : sayE vals gs 1 = true := by
  unfold sayE; rw [tru_zero h]; rfl
theorem both_says {vals : List Bool} {gs : Gs} (h : Wf gs) {a b : Nat} (ha : a / 2 < gs.length) (hb : b / 2 < gs.length) : sayE vals (bothG gs a b).2 (bothG gs a b).1 = (sayE vals gs a && sayE vals gs b) := by
  have hm := both_made h ha hb
  have hmm : (sayE vals gs a && sayE vals gs b) = (sayE vals gs (min a b) && sayE vals gs (max a b)) := by
    rcases Nat.le_total a b with e | e
    · rw [Nat.min_eq_left e, Nat.max_eq_right e]
    · rw [Nat.min_eq_right e, Nat.max_eq_left e, Bool.and_comm]
  rw [hmm]
  unfold bothG at hm ⊢
  by_cases h1 : min a b = 0 ∨ min a b = turnE (max a b)
  · simp only [if_pos h1]
    rw [say_false h]
    rcases h1 with e | e
    · rw [e, say_false h]; rfl
    · rw [e, say_turn]; cases sayE vals gs (max a b) <;> rfl
  · simp only [if_neg h1] at hm ⊢
    by_cases h2 : min a b = 1 ∨ min a b = max a b
    · simp only [if_pos h2]
      rcases h2 with e | e
      · rw [e, say_true h]; simp
      · rw [e]; simp
    · simp only [if_neg h2] at hm ⊢
      have hne : (min a b, max a b) ≠ ((0, 0) : Nat × Nat) := by
        intro e
        have := congrArg Prod.fst e
        simp only at this
        exact h1 (.inl this)
      by_cases h3 : (min a b, max a b) ∈ gs
      · simp only [if_pos h3] at hm ⊢
        obtain ⟨k1, k2⟩ := idx_get h3
        generalize gs.idxOf (min a b, max a b) = i at *
        have k4 := tru_and (vals := vals) h k1 (by rw [k2]; exact hne)
        rw [k2] at k4
        have e1 : 2 * i / 2 = i := by omega
        have e2 : odd (2 * i) = false := by unfold odd; rw [decide_eq_false]; omega
        show (tru vals gs (2 * i / 2) != odd (2 * i)) = _
        rw [e1, e2, k4]
        cases (sayE vals gs (min a b) && sayE vals gs (max a b)) <;> rfl
      · simp only [if_neg h3] at hm ⊢
        have k1 : gs.length < (gs ++ [(min a b, max a b)]).length := by simp
        have k4 := tru_and (vals := vals) hm.wf k1 (by rw [getG_end]; exact hne)
        rw [getG_end] at k4
        have e1 : 2 * gs.length / 2 = gs.length := by omega
        have e2 : odd (2 * gs.length) = false := by unfold odd; rw [decide_eq_false]; omega
        show (tru vals _ (2 * gs.length / 2) != odd (2 * gs.length)) = _
        rw [e1, e2, k4]
        show ((sayE vals _ (min a b) && sayE vals _ (max a b)) != false) = _
        rw [say_ex (Ex.snoc gs _) (show min a b / 2 < gs.length by omega), say_ex (Ex.snoc gs _) (show max a b / 2 < gs.length by omega)]
        cases (sayE vals gs (min a b) && sayE vals gs (max a b)) <;> rfl

/-- And of more. -/
def andF (s : Nat × Gs) (l : List Nat) : Nat × Gs := l.foldl (fun s x => bothG s.2 s.1 x) s
def andG (gs : Gs) (l : List Nat) : Nat × Gs := andF (1, gs) l
def orG (gs : Gs) (l : List Nat) : Nat × Gs := (turnE (andG gs (l.map turnE)).1, (andG gs (l.map turnE)).2)
def ifG (gs : Gs) (c a b : Nat) : Nat × Gs :=
  orG (bothG (bothG gs c a).2 (turnE c) b).2 [(bothG gs c a).1, (bothG (bothG gs c a).2 (turnE c) b).1]
def sameG (gs : Gs) (a b : Nat) : Nat × Gs := ifG gs a b (turnE b)
def AllIn (gs : Gs) (l : List Nat) : Prop := ∀ x ∈ l, x / 2 < gs.length
theorem AllIn.ex {gs gs' : Gs} {l : List Nat} (h : AllIn gs l) (hx : Ex gs gs') : AllIn gs' l := fun x hm => Nat.lt_of_lt_of_le (h x hm) hx.len
theorem andF_snoc (s : Nat × Gs) (l : List Nat) (x : Nat) : andF s (l ++ [x]) = bothG (andF s l).2 (andF s l).1 x := by unfold andF; rw [List.foldl_append]; rfl
theorem andF_made : ∀ (l : List Nat) (gs : Gs) (e : Nat), Wf gs → e / 2 < gs.length → AllIn gs l → Made gs (andF (e, gs) l) l.length ∧ (∀ vals, sayE vals (andF (e, gs) l).2 (andF (e, gs) l).1 = (sayE vals gs e && l.all (sayE vals gs))) ∧
    ∀ gs', Ex (andF (e, gs) l).2 gs' → Wf gs' → andF (e, gs') l = ((andF (e, gs) l).1, gs')
  | [], gs, e, h, he, _ => ⟨Made.same h he, fun vals => by simp [andF], fun gs' _ _ => rfl⟩
  | x :: l, gs, e, h, he, hl => by
    have hx : x / 2 < gs.length := hl x (List.mem_cons_self ..)
    have h1 := both_made h he hx
    have h2 : AllIn gs l := fun y hy => hl y (List.mem_cons_of_mem _ hy)
    obtain ⟨k1, k2, k3⟩ := andF_made l (bothG gs e x).2 (bothG gs e x).1 h1.wf h1.lt (h2.ex h1.ex)
    have hstep : andF (e, gs) (x :: l) = andF ((bothG gs e x).1, (bothG gs e x).2) l := rfl
    rw [hstep]
    refine ⟨⟨k1.wf, h1.ex.trans k1.ex, k1.lt, ?_⟩, fun vals => ?_, fun gs' hx' hw' => ?_⟩
    · have := k1.len; have := h1.len; simp only [List.length_cons]; omega
    · rw [k2, both_says h he hx, List.all_cons, Bool.and_assoc]
      congr 2
      rw [Bool.eq_iff_iff, List.all_eq_true, List.all_eq_true]
      constructor
      · intro hh y hy; rw [← say_ex h1.ex (h2 y hy)]; exact hh y hy
      · intro hh y hy; rw [say_ex h1.ex (h2 y hy)]; exact hh y hy
    · have : andF (e, gs') (x :: l) = andF (bothG gs' e x) l := rfl
      rw [this, both_again (k1.ex.trans hx') hw']
      exact k3 gs' hx' hw'
theorem and_made {gs : Gs} (h : Wf gs) {l : List Nat} (hl : AllIn gs l) : Made gs (andG gs l) l.length := (andF_made l gs 1 h h.pos hl).1
theorem and_says {gs : Gs} (h : Wf gs) {l : List Nat} (hl : AllIn gs l) (vals : List Bool) : sayE vals (andG gs l).2 (andG gs l).1 = l.all (sayE vals gs) := by
  have := (andF_made l gs 1 h h.pos hl).2.1 vals
  rw [say_true h, Bool.true_and] at this
  exact this
theorem and_again {gs gs' : Gs} (h : Wf gs) {l : List Nat} (hl : AllIn gs l) (hx : Ex (andG gs l).2 gs') (hw : Wf gs') : andG gs' l = ((andG gs l).1, gs') :=
  (andF_made l gs 1 h h.pos hl).2.2 gs' hx hw
theorem AllIn.turn {gs : Gs} {l : List Nat} (h : AllIn gs l) : AllIn gs (l.map turnE) := fun x hx => by
  obtain ⟨y, hy, rfl⟩ := List.mem_map.1 hx
  rw [turn_div]; exact h y hy
theorem or_made {gs : Gs} (h : Wf gs) {l : List Nat} (hl : AllIn gs l) : Made gs (orG gs l) l.length := by
  have := and_made h hl.turn
  rw [List.length_map] at this
  exact ⟨this.wf, this.ex, by show turnE _ / 2 < _; rw [turn_div]; exact this.lt, this.len⟩
theorem or_says {gs : Gs} (h : Wf gs) {l : List Nat} (hl : AllIn gs l) (vals : List Bool) : sayE vals (orG gs l).2 (orG gs l).1 = l.any (sayE vals gs) := by
  show sayE vals (andG gs (l.map turnE)).2 (turnE _) = _
  rw [say_turn, and_says h hl.turn, List.all_map, Bool.eq_iff_iff, Bool.not_eq_true', List.all_eq_false, List.any_eq_true]
  constructor
  · rintro ⟨x, hx, hn⟩; refine ⟨x, hx, ?_⟩; simp only [Function.comp, say_turn] at hn; simpa using hn
  · rintro ⟨x, hx, hn⟩; refine ⟨x, hx, ?_⟩; simp only [Function.comp, say_turn]; simpa using hn
theorem or_again {gs gs' : Gs} (h : Wf gs) {l : List Nat} (hl : AllIn gs l) (hx : Ex (orG gs l).2 gs') (hw : Wf gs') : orG gs' l = ((orG gs l).1, gs') := by
  unfold orG at hx ⊢
  rw [and_again h hl.turn hx hw]
section
variable {gs : Gs} {c a b : Nat}
theorem if_parts (h : Wf gs) (hc : c / 2 < gs.length) (ha : a / 2 < gs.length) (hb : b / 2 < gs.length) :
    Made gs (bothG gs c a) 1 ∧ Made (bothG gs c a).2 (bothG (bothG gs c a).2 (turnE c) b) 1 ∧ AllIn (bothG (bothG gs c a).2 (turnE c) b).2 [(bothG gs c a).1, (bothG (bothG gs c a).2 (turnE c) b).1] := by
  have h1 := both_made h hc ha
  have h2 := both_made h1.wf (a := turnE c) (b := b) (by rw [turn_div]; exact Nat.lt_of_lt_of_le hc h1.ex.len) (Nat.lt_of_lt_of_le hb h1.ex.len)
  refine ⟨h1, h2, fun x hx => ?_⟩
  simp only [List.mem_cons, List.not_mem_nil, or_false] at hx
  rcases hx with e | e
  · rw [e]; exact Nat.lt_of_lt_of_le h1.lt h2.ex.len
  · rw [e]; exact h2.lt
theorem if_made (h : Wf gs) (hc : c / 2 < gs.length) (ha : a / 2 < gs.length) (hb : b / 2 < gs.length) : Made gs (ifG gs c a b) 4 := by
  obtain ⟨h1, h2, h3⟩ := if_parts h hc ha hb
  have h4 := or_made h2.wf h3
  exact ⟨h4.wf, h1.ex.trans (h2.ex.trans h4.ex), h4.lt, by have := h1.len; have := h2.len; have := h4.len; simp only [List.length_cons, List.length_nil] at this; show _ ≤ _; unfold ifG; omega⟩
theorem if_says (h : Wf gs) (hc : c / 2 < gs.length) (ha : a / 2 < gs.length) (hb : b / 2 < gs.length) (vals : List Bool) : sayE vals (ifG gs c a b).2 (ifG gs c a b).1 = (if sayE vals gs c then sayE vals gs a else sayE vals gs b) := by
  obtain ⟨h1, h2, h3⟩ := if_parts h hc ha hb
  unfold ifG
  rw [or_says h2.wf h3]
  have e1 : sayE vals (bothG (bothG gs c a).2 (turnE c) b).2 (bothG gs c a).1 = (sayE vals gs c && sayE vals gs a) := by
    rw [say_ex h2.ex h1.lt, both_says h hc ha]
  have e2 : sayE vals (bothG (bothG gs c a).2 (turnE c) b).2 (bothG (bothG gs c a).2 (turnE c) b).1 = ((!sayE vals gs c) && sayE vals gs b) := by
    rw [both_says h1.wf (by rw [turn_div]; exact Nat.lt_of_lt_of_le hc h1.ex.len) (Nat.lt_of_lt_of_le hb h1.ex.len), say_turn, say_ex h1.ex hc, say_ex h1.ex hb]
  simp only [List.any_cons, List.any_nil, Bool.or_false]
  rw [e1, e2]
  cases sayE vals gs c <;> simp
theorem if_again {gs' : Gs} (h : Wf gs) (hc : c / 2 < gs.length) (ha : a / 2 < gs.length) (hb : b / 2 < gs.length) (hx : Ex (ifG gs c a b).2 gs') (hw : Wf gs') : ifG gs' c a b = ((ifG gs c a b).1, gs') := by
  obtain ⟨h1, h2, h3⟩ := if_parts h hc ha hb
  have h4 := or_made h2.wf h3
  have x4 : Ex (bothG (bothG gs c a).2 (turnE c) b).2 gs' := h4.ex.trans hx
  have x3 : Ex (bothG gs c a).2 gs' := h2.ex.trans x4
  unfold ifG
  rw [both_again x3 hw]
  simp only
  rw [both_again x4 hw]
  simp only
  rw [or_again h2.wf h3 hx hw]
end
end Go.Proofs.Ytmiifhclcknhdaa.GatM
