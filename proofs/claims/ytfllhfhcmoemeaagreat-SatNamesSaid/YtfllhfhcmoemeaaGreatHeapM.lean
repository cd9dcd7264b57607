/- Plain facts on a heap of variables, ordered by their scores: no program. -/
namespace Go.Proofs.YtfllhfhcmoemeaaGreat.HeapM

/-- f, but x at i. -/
def upd {α : Type} (f : Nat → α) (i : Nat) (x : α) : Nat → α := fun k => if k = i then x else f k
theorem upd_at {α : Type} (f : Nat → α) (i : Nat) (x : α) : upd f i x i = x := by simp [upd]
theorem upd_ne {α : Type} (f : Nat → α) {i k : Nat} (x : α) (h : k ≠ i) : upd f i x k = f k := by simp [upd, h]

/-- x comes no later than y: its score is greater, or the same and its number no greater. -/
def le (sc : Nat → Int) (x y : Nat) : Prop := sc y < sc x ∨ (sc x = sc y ∧ x ≤ y)
/-- x comes before y. -/
def lessB (sc : Nat → Int) (x y : Nat) : Bool := decide (sc y < sc x ∨ (sc x = sc y ∧ x < y))
theorem lessB_yes {sc : Nat → Int} {x y : Nat} (h : lessB sc x y = true) : le sc x y := by
  simp only [lessB, decide_eq_true_eq] at h; unfold le; omega
theorem lessB_no {sc : Nat → Int} {x y : Nat} (h : lessB sc x y = false) : le sc y x := by
  simp only [lessB, decide_eq_false_iff_not] at h; unfold le; omega
theorem le_no {sc : Nat → Int} {x y : Nat} (h : le sc y x) : lessB sc x y = false := by
  simp only [lessB, decide_eq_false_iff_not]; unfold le at h; omega
theorem le_trans {sc : Nat → Int} {x y z : Nat} (h : le sc x y) (k : le sc y z) : le sc x z := by unfold le at *; omega
theorem le_refl (sc : Nat → Int) (x : Nat) : le sc x x := by unfold le; omega
theorem le_anti {sc : Nat → Int} {x y : Nat} (h : le sc x y) (k : le sc y x) : x = y := by unfold le at *; omega

/-- How many of 1 .. n wait. -/
def cnt (pl : Nat → Int) : Nat → Nat
  | 0 => 0
  | n + 1 => cnt pl n + (if pl (n + 1) = -1 then 0 else 1)
theorem cnt_le (pl : Nat → Int) (n : Nat) : cnt pl n ≤ n := by
  induction n with
  | zero => simp [cnt]
  | succ n ih => unfold cnt; split <;> omega
theorem cnt_same {pl pl' : Nat → Int} {n : Nat} (h : ∀ v, 1 ≤ v → v ≤ n → (pl' v = -1 ↔ pl v = -1)) : cnt pl' n = cnt pl n := by
  induction n with
  | zero => rfl
  | succ n ih =>
    unfold cnt
    rw [ih fun v h1 h2 => h v h1 (by omega)]
    by_cases e : pl (n + 1) = -1
    · rw [if_pos e, if_pos ((h (n + 1) (by omega) (by omega)).2 e)]
    · rw [if_neg e, if_neg (fun k => e ((h (n + 1) (by omega) (by omega)).1 k))]
theorem cnt_in {pl : Nat → Int} {n v : Nat} {x : Int} (h1 : 1 ≤ v) (h2 : v ≤ n) (h : pl v = -1) (hx : x ≠ -1) : cnt (upd pl v x) n = cnt pl n + 1 := by
  induction n with
  | zero => omega
  | succ n ih =>
    unfold cnt
    by_cases e : v = n + 1
    · subst e
      rw [upd_at, if_neg hx, if_pos h, cnt_same fun u _ hu => by rw [upd_ne _ _ (by omega)]]
    · rw [ih (by omega), upd_ne _ _ (by omega)]; omega
theorem cnt_out {pl : Nat → Int} {n v : Nat} (h1 : 1 ≤ v) (h2 : v ≤ n) (h : pl v ≠ -1) : cnt (upd pl v (-1)) n + 1 = cnt pl n := by
  induction n with
  | zero => omega
  | succ n ih =>
    unfold cnt
    by_cases e : v = n + 1
    · subst e
      rw [upd_at, if_pos rfl, if_neg h, cnt_same fun u _ hu => by rw [upd_ne _ _ (by omega)]]
    · have := ih (by omega)
      rw [upd_ne _ _ (show n + 1 ≠ v by omega)]; omega
theorem cnt_zero {pl : Nat → Int} {n : Nat} (h : cnt pl n = 0) : ∀ v, 1 ≤ v → v ≤ n → pl v = -1 := by
  induction n with
  | zero => intro v h1 h2; omega
  | succ n ih =>
    intro v h1 h2
    unfold cnt at h
    by_cases e : v = n + 1
    · subst e
      by_cases k : pl (n + 1) = -1
      · exact k
      · rw [if_neg k] at h; omega
    · exact ih (by omega) v h1 (by omega)

/-- Places and order say the same. -/
structure Inv (n m : Nat) (pl : Nat → Int) (od : Nat → Nat) : Prop where
  fwd : ∀ i, i < m → 1 ≤ od i ∧ od i ≤ n ∧ pl (od i) = i
  bwd : ∀ v, 1 ≤ v → v ≤ n → pl v = -1 ∨ ∃ i, i < m ∧ pl v = i ∧ od i = v
  many : cnt pl n = m
theorem Inv.le {n m : Nat} {pl : Nat → Int} {od : Nat → Nat} (h : Inv n m pl od) : m ≤ n := by rw [← h.many]; exact cnt_le _ _
theorem Inv.inj {n m : Nat} {pl : Nat → Int} {od : Nat → Nat} (h : Inv n m pl od) {i j : Nat} (hi : i < m) (hj : j < m) (e : od i = od j) : i = j := by
  have a := (h.fwd i hi).2.2
  have b := (h.fwd j hj).2.2
  rw [e] at a; omega

/-- The order with two places exchanged. -/
def swO (od : Nat → Nat) (i j : Nat) : Nat → Nat := upd (upd od i (od j)) j (od i)
def swP (pl : Nat → Int) (od : Nat → Nat) (i j : Nat) : Nat → Int := upd (upd pl (od j) i) (od i) j
theorem swO_at (od : Nat → Nat) (i j k : Nat) : swO od i j k = if k = j then od i else if k = i then od j else od k := by simp [swO, upd]
theorem swO_l (od : Nat → Nat) {i j : Nat} (h : i ≠ j) : swO od i j i = od j := by rw [swO_at, if_neg h, if_pos rfl]
theorem swO_r (od : Nat → Nat) (i j : Nat) : swO od i j j = od i := by rw [swO_at, if_pos rfl]
theorem swO_ne (od : Nat → Nat) {i j k : Nat} (h : k ≠ i) (h' : k ≠ j) : swO od i j k = od k := by rw [swO_at, if_neg h', if_neg h]
theorem swP_at (pl : Nat → Int) (od : Nat → Nat) (i j v : Nat) : swP pl od i j v = if v = od i then (j : Int) else if v = od j then (i : Int) else pl v := by simp [swP, upd]

/-- Who waits, and who doesn't, is the same. -/
def SameW (n : Nat) (pl pl' : Nat → Int) : Prop := ∀ v, 1 ≤ v → v ≤ n → (pl' v = -1 ↔ pl v = -1)
theorem SameW.refl (n : Nat) (pl : Nat → Int) : SameW n pl pl := fun _ _ _ => Iff.rfl
theorem SameW.trans {n : Nat} {a b c : Nat → Int} (h : SameW n a b) (k : SameW n b c) : SameW n a c := fun v h1 h2 => (k v h1 h2).trans (h v h1 h2)

theorem swap_alike {n m : Nat} {pl : Nat → Int} {od : Nat → Nat} (h : Inv n m pl od) {i j : Nat} (hi : i < m) (hj : j < m) : SameW n pl (swP pl od i j) := by
  intro v _ _
  have a := (h.fwd i hi).2.2
  have b := (h.fwd j hj).2.2
  rw [swP_at]
  split
  · rename_i e; rw [e]; omega
  · split
    · rename_i e; rw [e]; omega
    · exact Iff.rfl
theorem swap_inv {n m : Nat} {pl : Nat → Int} {od : Nat → Nat} (h : Inv n m pl od) {i j : Nat} (hi : i < m) (hj : j < m) (hne : i ≠ j) : Inv n m (swP pl od i j) (swO od i j) := by
  have hij : od i ≠ od j := fun e => hne (h.inj hi hj e)
  refine ⟨?_, ?_, by rw [cnt_same (swap_alike h hi hj)]; exact h.many⟩
  · intro k hk
    rw [swO_at]
    by_cases e : k = j
    · rw [if_pos e, swP_at, if_pos rfl, e]
      exact ⟨(h.fwd i hi).1, (h.fwd i hi).2.1, rfl⟩
    · rw [if_neg e]
      by_cases e' : k = i
      · rw [if_pos e', swP_at, if_neg (fun x => hij x.symm), if_pos rfl, e']
        exact ⟨(h.fwd j hj).1, (h.fwd j hj).2.1, rfl⟩
      · rw [if_neg e', swP_at, if_neg (fun x => e' (h.inj hk hi x)), if_neg (fun x => e (h.inj hk hj x))]
        exact h.fwd k hk
  · intro v h1 h2
    rw [swP_at]
    by_cases e : v = od i
    · right
      refine ⟨j, hj, by rw [if_pos e], by rw [swO_r, e]⟩
    · rw [if_neg e]
      by_cases e' : v = od j
      · right
        exact ⟨i, hi, by rw [if_pos e'], by rw [swO_l _ hne, e']⟩
      · rw [if_neg e']
        rcases h.bwd v h1 h2 with k | ⟨k, hk, hp, ho⟩
        · exact .inl k
        · refine .inr ⟨k, hk, hp, ?_⟩
          rw [swO_ne]
          · exact ho
          · intro x; subst x; exact e ho.symm
          · intro x; subst x; exact e' ho.symm

theorem swO_self (od : Nat → Nat) (i : Nat) : swO od i i = od := by
  funext k; rw [swO_at]; split
  · rename_i e; rw [e]
  · rfl
theorem swP_self {n m : Nat} {pl : Nat → Int} {od : Nat → Nat} (h : Inv n m pl od) {i : Nat} (hi : i < m) : swP pl od i i = pl := by
  funext v; rw [swP_at]; split
  · rename_i e; rw [e, (h.fwd i hi).2.2]
  · rfl
theorem swap_any {n m : Nat} {pl : Nat → Int} {od : Nat → Nat} (h : Inv n m pl od) {i j : Nat} (hi : i < m) (hj : j < m) : Inv n m (swP pl od i j) (swO od i j) := by
  by_cases e : i = j
  · subst e; rw [swO_self, swP_self h hi]; exact h
  · exact swap_inv h hi hj e
/-- Below the places from k on, each child comes no earlier than its parent; n places. -/
def Hp (sc : Nat → Int) (od : Nat → Nat) (k n : Nat) : Prop := ∀ c, 1 ≤ c → c < n → k ≤ (c - 1) / 2 → le sc (od ((c - 1) / 2)) (od c)
/-- So, but at i's children; and they come no earlier than i's parent. -/
def Dn (sc : Nat → Int) (od : Nat → Nat) (k n i : Nat) : Prop :=
  (∀ c, 1 ≤ c → c < n → k ≤ (c - 1) / 2 → (c - 1) / 2 ≠ i → le sc (od ((c - 1) / 2)) (od c)) ∧
  (∀ c, 1 ≤ c → c < n → (c - 1) / 2 = i → 1 ≤ i → k ≤ (i - 1) / 2 → le sc (od ((i - 1) / 2)) (od c))
theorem Dn.start {sc : Nat → Int} {od : Nat → Nat} {k n : Nat} (h : ∀ c, 1 ≤ c → c < n → k < (c - 1) / 2 → le sc (od ((c - 1) / 2)) (od c)) : Dn sc od k n k :=
  ⟨fun c h1 h2 h3 h4 => h c h1 h2 (by omega), fun c _ _ _ h4 h5 => by omega⟩
/-- No child of i comes before it. -/
def Fine (sc : Nat → Int) (od : Nat → Nat) (n i : Nat) : Prop := ∀ c, 1 ≤ c → c < n → (c - 1) / 2 = i → le sc (od i) (od c)
theorem Dn.stop {sc : Nat → Int} {od : Nat → Nat} {k n i : Nat} (h : Dn sc od k n i) (hf : Fine sc od n i) : Hp sc od k n := by
  intro c h1 h2 h3
  by_cases e : (c - 1) / 2 = i
  · rw [e]; exact hf c h1 h2 e
  · exact h.1 c h1 h2 h3 e
theorem Dn.step {sc : Nat → Int} {od : Nat → Nat} {k n i j : Nat} (h : Dn sc od k n i) (hk : k ≤ i) (hj : j < n) (hc : 1 ≤ j ∧ (j - 1) / 2 = i)
    (hb : ∀ c, 1 ≤ c → c < n → (c - 1) / 2 = i → le sc (od j) (od c)) (hl : le sc (od j) (od i)) : Dn sc (swO od i j) k n j := by
  obtain ⟨hj1, hji⟩ := hc
  have hne : i ≠ j := by omega
  refine ⟨?_, ?_⟩
  · intro c h1 h2 h3 h4
    by_cases e1 : c = j
    · subst e1
      rw [hji, swO_l _ hne, swO_r]; exact hl
    · by_cases e2 : (c - 1) / 2 = i
      · rw [e2, swO_l _ hne, swO_ne _ (by omega) e1]
        exact hb c h1 h2 e2
      · by_cases e3 : c = i
        · subst e3
          rw [swO_l _ hne, swO_ne _ (by omega) h4]
          exact h.2 j hj1 hj hji h1 h3
        · rw [swO_ne _ e2 h4, swO_ne _ e3 e1]
          exact h.1 c h1 h2 h3 e2
  · intro c h1 h2 h3 _ _
    rw [hji, swO_l _ hne, swO_ne _ (by omega) (by omega)]
    have := h.1 c h1 h2 (by omega) (by omega)
    rwa [h3] at this

/-- All but j come no earlier than their parents; j's children no earlier than j's parent. -/
def Up (sc : Nat → Int) (od : Nat → Nat) (m j : Nat) : Prop :=
  (∀ c, 1 ≤ c → c < m → c ≠ j → le sc (od ((c - 1) / 2)) (od c)) ∧
  (∀ c, 1 ≤ c → c < m → (c - 1) / 2 = j → 1 ≤ j → le sc (od ((j - 1) / 2)) (od c))
theorem Up.stop0 {sc : Nat → Int} {od : Nat → Nat} {m : Nat} (h : Up sc od m 0) : Hp sc od 0 m := fun c h1 h2 _ => h.1 c h1 h2 (by omega)
theorem Up.stop {sc : Nat → Int} {od : Nat → Nat} {m j : Nat} (h : Up sc od m j) (hl : le sc (od ((j - 1) / 2)) (od j)) : Hp sc od 0 m := by
  intro c h1 h2 _
  by_cases e : c = j
  · subst e; exact hl
  · exact h.1 c h1 h2 e
theorem Up.step {sc : Nat → Int} {od : Nat → Nat} {m j : Nat} (h : Up sc od m j) (hj : 1 ≤ j) (hjm : j < m) (hl : le sc (od j) (od ((j - 1) / 2))) : Up sc (swO od ((j - 1) / 2) j) m ((j - 1) / 2) := by
  have hne : (j - 1) / 2 ≠ j := by omega
  refine ⟨?_, ?_⟩
  · intro c h1 h2 h3
    by_cases e1 : c = j
    · subst e1
      rw [swO_l _ hne, swO_r]; exact hl
    · by_cases e2 : (c - 1) / 2 = (j - 1) / 2
      · rw [e2, swO_l _ hne, swO_ne _ h3 e1]
        have := h.1 c h1 h2 e1
        rw [e2] at this
        exact le_trans hl this
      · by_cases e3 : (c - 1) / 2 = j
        · rw [e3, swO_r, swO_ne _ h3 e1]
          exact h.2 c h1 h2 e3 hj
        · rw [swO_ne _ e2 e3, swO_ne _ h3 e1]
          exact h.1 c h1 h2 e1
  · intro c h1 h2 h3 h4
    have hpp := h.1 ((j - 1) / 2) h4 (by omega) hne
    rw [swO_ne _ (show ((j - 1) / 2 - 1) / 2 ≠ (j - 1) / 2 by omega) (by omega)]
    by_cases e : c = j
    · subst e; rw [swO_r]; exact hpp
    · rw [swO_ne _ (by omega) e]
      have := h.1 c h1 h2 e
      rw [h3] at this
      exact le_trans hpp this
/-- The first of a heap comes no later than all. -/
theorem Hp.first {sc : Nat → Int} {od : Nat → Nat} {m : Nat} (h : Hp sc od 0 m) : ∀ c, c < m → le sc (od 0) (od c) := by
  intro c
  induction c using Nat.strongRecOn with
  | ind c ih =>
    intro hc
    by_cases e : c = 0
    · subst e; exact le_refl _ _
    · exact le_trans (ih ((c - 1) / 2) (by omega) (by omega)) (h c (by omega) hc (by omega))
/-- A greater score at place i: upwards alone. -/
theorem Up.bump {n m : Nat} {pl : Nat → Int} {sc : Nat → Int} {od : Nat → Nat} (hI : Inv n m pl od) (h : Hp sc od 0 m) {i : Nat} (hi : i < m) {x : Int} (hx : sc (od i) ≤ x) :
    Up (upd sc (od i) x) od m i ∧ Fine (upd sc (od i) x) od m i := by
  have key : ∀ a b, a < m → b < m → b ≠ i → le sc (od a) (od b) → le (upd sc (od i) x) (od a) (od b) := by
    intro a b ha hb hbi hl
    have hb' : od b ≠ od i := fun e => hbi (hI.inj hb hi e)
    unfold le
    rw [upd_ne _ _ hb']
    by_cases e : od a = od i
    · rw [e, upd_at]
      rw [e] at hl
      unfold le at hl; omega
    · rw [upd_ne _ _ e]; exact hl
  refine ⟨⟨fun c h1 h2 h3 => key _ _ (by omega) h2 h3 (h c h1 h2 (by omega)), fun c h1 h2 h3 h4 => key _ _ (by omega) h2 (by omega) ?_⟩, fun c h1 h2 h3 => key _ _ hi h2 (by omega) ?_⟩
  · have a := h c h1 h2 (by omega)
    rw [h3] at a
    exact le_trans (h i h4 hi (by omega)) a
  · have a := h c h1 h2 (by omega)
    rwa [h3] at a
/-- One more at the end: upwards alone. -/
theorem Up.push {sc : Nat → Int} {od : Nat → Nat} {m v : Nat} (h : Hp sc od 0 m) : Up sc (upd od m v) (m + 1) m := by
  refine ⟨fun c h1 h2 h3 => ?_, fun c h1 h2 h3 _ => by omega⟩
  rw [upd_ne _ _ (by omega), upd_ne _ _ h3]
  exact h c h1 (by omega) (by omega)
theorem push_inv {n m v : Nat} {pl : Nat → Int} {od : Nat → Nat} (h : Inv n m pl od) (h1 : 1 ≤ v) (h2 : v ≤ n) (hv : pl v = -1) : Inv n (m + 1) (upd pl v m) (upd od m v) := by
  refine ⟨?_, ?_, by rw [cnt_in h1 h2 hv (by omega), h.many]⟩
  · intro i hi
    by_cases e : i = m
    · subst e; rw [upd_at, upd_at]; exact ⟨h1, h2, rfl⟩
    · have := h.fwd i (by omega)
      rw [upd_ne _ _ e, upd_ne _ _ (fun x => by rw [x] at this; omega)]
      exact this
  · intro u a b
    by_cases e : u = v
    · subst e
      exact .inr ⟨m, by omega, by rw [upd_at], by rw [upd_at]⟩
    · rw [upd_ne _ _ e]
      rcases h.bwd u a b with k | ⟨k, hk, hp, ho⟩
      · exact .inl k
      · exact .inr ⟨k, by omega, hp, by rw [upd_ne _ _ (by omega)]; exact ho⟩
/-- The last one goes. -/
theorem pop_inv {n m : Nat} {pl : Nat → Int} {od : Nat → Nat} (h : Inv n (m + 1) pl od) : Inv n m (upd pl (od m) (-1)) od := by
  have hm := h.fwd m (by omega)
  refine ⟨?_, ?_, ?_⟩
  · intro i hi
    have := h.fwd i (by omega)
    rw [upd_ne _ _ (fun x => by rw [x] at this; omega)]
    exact this
  · intro v a b
    by_cases e : v = od m
    · subst e; rw [upd_at]; exact .inl rfl
    · rw [upd_ne _ _ e]
      rcases h.bwd v a b with k | ⟨k, hk, hp, ho⟩
      · exact .inl k
      · refine .inr ⟨k, ?_, hp, ho⟩
        rcases Nat.lt_or_ge k m with h' | h'
        · exact h'
        · have : k = m := by omega
          subst this; exact absurd ho.symm e
  · have := cnt_out hm.1 hm.2.1 (show pl (od m) ≠ -1 by omega)
    rw [h.many] at this; omega
theorem new_inv (n : Nat) : Inv n n (fun v => (v : Int) - 1) (fun i => i + 1) := by
  refine ⟨fun i hi => ⟨by omega, by omega, by show ((i + 1 : Nat) : Int) - 1 = i; omega⟩, fun v h1 h2 => .inr ⟨v - 1, by omega, by show (v : Int) - 1 = _; omega, by show v - 1 + 1 = v; omega⟩, ?_⟩
  induction n with
  | zero => rfl
  | succ n ih => unfold cnt; rw [ih, if_neg (by omega)]
theorem add_inv {n m : Nat} {pl : Nat → Int} {od : Nat → Nat} (h : Inv n m pl od) : Inv (n + 1) m (upd pl (n + 1) (-1)) od := by
  refine ⟨?_, ?_, ?_⟩
  · intro i hi
    have := h.fwd i hi
    rw [upd_ne _ _ (by omega)]
    omega
  · intro v a b
    by_cases e : v = n + 1
    · subst e; rw [upd_at]; exact .inl rfl
    · rw [upd_ne _ _ e]; exact h.bwd v a (by omega)
  · show cnt _ n + _ = m
    rw [upd_at, if_pos rfl, cnt_same fun v _ hv => by rw [upd_ne _ _ (by omega)]]
    exact h.many
end Go.Proofs.YtfllhfhcmoemeaaGreat.HeapM
