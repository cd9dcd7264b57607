/- Plain facts on a trail: literals by levels. No program. -/
import Derived.Test.YtkckodpfhlpkgaaGreatLitM
namespace Go.Proofs.YtkckodpfhlpkgaaGreat.TrailM
open LitM

/-- A literal that is true, its level and its reason. -/
structure Ent where
  l : Int
  lv : Nat
  rs : Int

/-- The entry of a variable. -/
def findE (L : List Ent) (v : Int) : Option Ent := L.find? fun x => varZ x.l == v
/-- What is known of a variable: which literal, since when, why. -/
def mkH (L : List Ent) (v : Nat) : Int := match findE L v with | some x => x.l | none => 0
def mkV (L : List Ent) (v : Nat) : Int := match findE L v with | some x => (x.lv : Int) | none => 0
def mkR (L : List Ent) (v : Nat) : Int := match findE L v with | some x => x.rs | none => 0
/-- What the trail answers. -/
def levZ (L : List Ent) (v : Int) : Int := match findE L v with | some x => (x.lv : Int) | none => -1
def reaZ (L : List Ent) (v : Int) : Int := match findE L v with | some x => x.rs | none => -1
def valZ (L : List Ent) (l : Int) : Int := match findE L (varZ l) with | some x => if x.l = l then 1 else -1 | none => 0
/-- How many stand at most at a level. -/
def upTo (L : List Ent) (k : Nat) : Nat := L.countP fun x => decide (x.lv ≤ k)

/-- A trail of n variables, at most d levels deep. -/
structure Pre (n d : Nat) (L : List Ent) : Prop where
  one : ∀ x ∈ L, one x.l = true ∧ varZ x.l ≤ n ∧ x.lv ≤ d
  dis : L.Pairwise fun a b => varZ a.l ≠ varZ b.l
  inc : L.Pairwise fun a b => a.lv ≤ b.lv

theorem Pre.nil (n d : Nat) : Pre n d [] := ⟨by simp, List.Pairwise.nil, List.Pairwise.nil⟩
theorem Pre.deep {n d : Nat} {L : List Ent} (h : Pre n d L) : Pre n (d + 1) L := ⟨fun x hx => by have := h.one x hx; exact ⟨this.1, this.2.1, by omega⟩, h.dis, h.inc⟩
theorem Pre.grow {n d : Nat} {L : List Ent} (h : Pre n d L) : Pre (n + 1) d L := ⟨fun x hx => by have := h.one x hx; exact ⟨this.1, by omega, this.2.2⟩, h.dis, h.inc⟩
theorem varZ_ge {l : Int} (h : LitM.one l = true) : 1 ≤ varZ l := by
  have := (one_iff l).1 h
  rcases this with ⟨a, b⟩ | ⟨a, b⟩
  · rw [varZ_pos a b]; exact a
  · rw [varZ_neg a b]; omega
theorem findE_some {L : List Ent} {v : Int} {x : Ent} (h : findE L v = some x) : x ∈ L ∧ varZ x.l = v := by
  unfold findE at h
  exact ⟨List.mem_of_find?_eq_some h, by have := List.find?_some h; simpa using this⟩
theorem findE_none {L : List Ent} {v : Int} : findE L v = none ↔ ∀ x ∈ L, varZ x.l ≠ v := by
  unfold findE
  rw [List.find?_eq_none]
  constructor
  · intro h x hx; have := h x hx; simpa using this
  · intro h x hx; have := h x hx; simpa using this
theorem Pre.find {n d : Nat} {L : List Ent} (h : Pre n d L) {x : Ent} (hx : x ∈ L) : findE L (varZ x.l) = some x := by
  have hd := h.dis
  clear h
  unfold findE
  induction L with
  | nil => cases hx
  | cons y L ih =>
    rw [List.find?_cons]
    rw [List.pairwise_cons] at hd
    rcases List.mem_cons.1 hx with e | e
    · subst e; simp
    · have := hd.1 x e
      rw [show (varZ y.l == varZ x.l) = false from by rw [beq_eq_false_iff_ne]; exact this]
      exact ih e hd.2
theorem Pre.out {n d : Nat} {L : List Ent} (h : Pre n d L) {v : Int} (hv : v < 1 ∨ (n : Int) < v) : findE L v = none := by
  rw [findE_none]
  intro x hx e
  have := h.one x hx
  have := varZ_ge this.1
  omega
theorem Pre.at_ {n d : Nat} {L : List Ent} (h : Pre n d L) {v : Int} {x : Ent} (hx : findE L v = some x) : LitM.one x.l = true ∧ varZ x.l = v ∧ 1 ≤ v ∧ v ≤ n ∧ x.lv ≤ d := by
  obtain ⟨hm, hv⟩ := findE_some hx
  have h1 := h.one x hm
  have h2 := varZ_ge h1.1
  exact ⟨h1.1, hv, by omega, by omega, h1.2.2⟩
theorem find_snoc (L : List Ent) (x : Ent) (h : findE L (varZ x.l) = none) (v : Int) : findE (L ++ [x]) v = if v = varZ x.l then some x else findE L v := by
  unfold findE at *
  rw [List.find?_append]
  by_cases e : v = varZ x.l
  · subst e; rw [h]; simp
  · rw [if_neg e]
    have : (varZ x.l == v) = false := by rw [beq_eq_false_iff_ne]; exact fun k => e k.symm
    simp [this]
theorem Pre.set {n d : Nat} {L : List Ent} (h : Pre n d L) {l r : Int} (h1 : LitM.one l = true) (h2 : varZ l ≤ n) (h3 : findE L (varZ l) = none) : Pre n d (L ++ [⟨l, d, r⟩]) := by
  rw [findE_none] at h3
  refine ⟨fun x hx => ?_, ?_, ?_⟩
  · rcases List.mem_append.1 hx with e | e
    · exact h.one x e
    · have : x = ⟨l, d, r⟩ := by simpa using e
      subst this; exact ⟨h1, h2, Nat.le_refl _⟩
  · rw [List.pairwise_append]
    refine ⟨h.dis, List.pairwise_singleton _ _, fun a ha b hb => ?_⟩
    have : b = ⟨l, d, r⟩ := by simpa using hb
    subst this; exact h3 a ha
  · rw [List.pairwise_append]
    refine ⟨h.inc, List.pairwise_singleton _ _, fun a ha b hb => ?_⟩
    have : b = ⟨l, d, r⟩ := by simpa using hb
    subst this; exact (h.one a ha).2.2
theorem Pre.take {n d : Nat} {L : List Ent} (h : Pre n d L) (i : Nat) : Pre n d (L.take i) :=
  ⟨fun x hx => h.one x (List.mem_of_mem_take hx), h.dis.sublist (List.take_sublist _ _), h.inc.sublist (List.take_sublist _ _)⟩
theorem Pre.last {n d : Nat} {L : List Ent} {x : Ent} (h : Pre n d (L ++ [x])) : findE L (varZ x.l) = none := by
  rw [findE_none]
  intro y hy
  exact (List.pairwise_append.1 h.dis).2.2 y hy x (by simp)
/-- Of the marks: with one more entry. -/
theorem mk_snoc (L : List Ent) (x : Ent) (h : findE L (varZ x.l) = none) (v : Nat) :
    mkH (L ++ [x]) v = (if (v : Int) = varZ x.l then x.l else mkH L v) ∧ mkV (L ++ [x]) v = (if (v : Int) = varZ x.l then (x.lv : Int) else mkV L v) ∧ mkR (L ++ [x]) v = (if (v : Int) = varZ x.l then x.rs else mkR L v) := by
  unfold mkH mkV mkR
  rw [find_snoc L x h]
  by_cases e : (v : Int) = varZ x.l
  · simp [e]
  · simp [e]
theorem mk_none {L : List Ent} {v : Nat} (h : findE L v = none) : mkH L v = 0 ∧ mkV L v = 0 ∧ mkR L v = 0 := by
  unfold mkH mkV mkR; rw [h]; exact ⟨rfl, rfl, rfl⟩
theorem mk_some {L : List Ent} {v : Nat} {x : Ent} (h : findE L v = some x) : mkH L v = x.l ∧ mkV L v = x.lv ∧ mkR L v = x.rs := by
  unfold mkH mkV mkR; rw [h]; exact ⟨rfl, rfl, rfl⟩
theorem Pre.known {n d : Nat} {L : List Ent} (h : Pre n d L) (v : Nat) : (mkH L v != 0) = (findE L v).isSome := by
  cases hf : findE L v with
  | none => rw [(mk_none hf).1]; rfl
  | some x =>
    rw [(mk_some hf).1]
    have := (one_iff x.l).1 (h.at_ hf).1
    have : x.l ≠ 0 := by omega
    simp [this]

theorem upTo_le (L : List Ent) (k : Nat) : upTo L k ≤ L.length := List.countP_le_length
theorem upTo_all {n d : Nat} {L : List Ent} (h : Pre n d L) : upTo L d = L.length := by
  unfold upTo
  rw [List.countP_eq_length]
  intro x hx
  have := h.one x hx
  simp; omega
theorem upTo_snoc (L : List Ent) (x : Ent) (k : Nat) (h : k < x.lv) : upTo (L ++ [x]) k = upTo L k := by
  unfold upTo
  rw [List.countP_append]
  simp; omega
theorem take_upTo {L : List Ent} (h : L.Pairwise fun a b => a.lv ≤ b.lv) (k : Nat) : L.take (upTo L k) = L.filter (fun x => decide (x.lv ≤ k)) ∧ L.drop (upTo L k) = L.filter (fun x => decide (k < x.lv)) := by
  induction L with
  | nil => exact ⟨rfl, rfl⟩
  | cons x L ih =>
    rw [List.pairwise_cons] at h
    obtain ⟨i1, i2⟩ := ih h.2
    unfold upTo at *
    by_cases e : x.lv ≤ k
    · rw [List.countP_cons_of_pos (by simpa using e), List.take_succ_cons, List.drop_succ_cons, i1, i2]
      have e' : ¬ k < x.lv := by omega
      rw [List.filter_cons_of_pos (by simpa using e), List.filter_cons_of_neg (by simpa using e')]
      exact ⟨rfl, rfl⟩
    · have h0 : ∀ y ∈ L, ¬ y.lv ≤ k := fun y hy => by have := h.1 y hy; omega
      have z : (L.countP fun x => decide (x.lv ≤ k)) = 0 := by
        rw [List.countP_eq_zero]; intro y hy; simpa using h0 y hy
      have e' : k < x.lv := by omega
      rw [List.countP_cons_of_neg (by simpa using e), z, List.filter_cons_of_neg (by simpa using e), List.filter_cons_of_pos (by simpa using e')]
      refine ⟨?_, ?_⟩
      · rw [List.take_zero, eq_comm, List.filter_eq_nil_iff]
        intro y hy; simpa using h0 y hy
      · rw [List.drop_zero, List.filter_eq_self.2]
        intro y hy; have := h0 y hy; simp; omega
theorem Pre.back {n d : Nat} {L : List Ent} (h : Pre n d L) (k : Nat) : Pre n k (L.take (upTo L k)) := by
  have h' := h.take (upTo L k)
  refine ⟨fun x hx => ?_, h'.dis, h'.inc⟩
  have := h'.one x hx
  rw [(take_upTo h.inc k).1, List.mem_filter] at hx
  exact ⟨this.1, this.2.1, by simpa using hx.2⟩
theorem upTo_back {n d : Nat} {L : List Ent} (h : Pre n d L) {j k : Nat} (hj : j ≤ k) : upTo (L.take (upTo L k)) j = upTo L j := by
  rw [(take_upTo h.inc k).1]
  unfold upTo
  rw [List.countP_filter]
  apply List.countP_congr
  intro x _
  simp; omega
theorem upTo_mono (L : List Ent) {j k : Nat} (hj : j ≤ k) : upTo L j ≤ upTo L k := by
  unfold upTo
  apply List.countP_mono_left
  intro x _ h
  simp at *; omega

/-- As many as there are variables, at most. -/
theorem len_of (n : Nat) : ∀ L : List Ent, (∀ x ∈ L, 1 ≤ varZ x.l ∧ varZ x.l ≤ n) → (L.Pairwise fun a b => varZ a.l ≠ varZ b.l) → L.length ≤ n := by
  induction n with
  | zero =>
    intro L h _
    cases L with
    | nil => exact Nat.le_refl _
    | cons x L => have := h x (by simp); omega
  | succ n ih =>
    intro L h hd
    have h1 := ih (L.filter fun x => decide (varZ x.l ≤ n)) (fun x hx => by
      rw [List.mem_filter] at hx
      have := h x hx.1
      have h2 : varZ x.l ≤ n := by simpa using hx.2
      omega) (hd.sublist List.filter_sublist)
    have h2 : (L.filter fun x => !decide (varZ x.l ≤ n)).length ≤ 1 := by
      have hs := hd.sublist (List.filter_sublist (p := fun x => !decide (varZ x.l ≤ n)) (l := L))
      have hm : ∀ x ∈ (L.filter fun x => !decide (varZ x.l ≤ n)), varZ x.l = (n : Int) + 1 := fun x hx => by
        rw [List.mem_filter] at hx
        have := h x hx.1
        have h2 : ¬ varZ x.l ≤ n := by simpa using hx.2
        omega
      generalize (L.filter fun x => !decide (varZ x.l ≤ n)) = M at hs hm
      match M, hs, hm with
      | [], _, _ => simp
      | [x], _, _ => simp
      | x :: y :: M, hs, hm =>
        rw [List.pairwise_cons] at hs
        exact absurd ((hm x (by simp)).trans (hm y (by simp)).symm) (hs.1 y (by simp))
    have h3 := List.length_eq_countP_add_countP (l := L) (fun x => decide (varZ x.l ≤ n))
    rw [List.countP_eq_length_filter, List.countP_eq_length_filter] at h3
    have h4 : (L.filter fun a => decide ¬(decide (varZ a.l ≤ n) = true)) = L.filter fun x => !decide (varZ x.l ≤ n) := by
      congr 1; funext a; by_cases q : varZ a.l ≤ n <;> simp [q]
    rw [h4] at h3
    omega
theorem Pre.len {n d : Nat} {L : List Ent} (h : Pre n d L) : L.length ≤ n :=
  len_of n L (fun x hx => by have := h.one x hx; exact ⟨varZ_ge this.1, this.2.1⟩) h.dis
theorem upTo_succ (L : List Ent) (k : Nat) : upTo L (k + 1) = upTo L k + L.countP (fun x => decide (x.lv = k + 1)) := by
  unfold upTo
  induction L with
  | nil => rfl
  | cons x L ih =>
    simp only [List.countP_cons, ih, decide_eq_true_eq]
    split <;> split <;> split <;> omega
/-- A trail of n variables, d levels deep. -/
structure Ok (n d : Nat) (L : List Ent) : Prop where
  pre : Pre n d L
  all : ∀ k, 1 ≤ k → k ≤ d → ∃ x ∈ L, x.lv = k
theorem Ok.nil (n : Nat) : Ok n 0 [] := ⟨Pre.nil n 0, fun k h1 h2 => by omega⟩
theorem Ok.grow {n d : Nat} {L : List Ent} (h : Ok n d L) : Ok (n + 1) d L := ⟨h.pre.grow, h.all⟩
theorem Ok.set {n d : Nat} {L : List Ent} (h : Ok n d L) {l r : Int} (h1 : LitM.one l = true) (h2 : varZ l ≤ n) (h3 : findE L (varZ l) = none) : Ok n d (L ++ [⟨l, d, r⟩]) :=
  ⟨h.pre.set h1 h2 h3, fun k k1 k2 => by obtain ⟨x, hx, e⟩ := h.all k k1 k2; exact ⟨x, List.mem_append_left _ hx, e⟩⟩
theorem Ok.decide {n d : Nat} {L : List Ent} (h : Ok n d L) {l r : Int} (h1 : LitM.one l = true) (h2 : varZ l ≤ n) (h3 : findE L (varZ l) = none) : Ok n (d + 1) (L ++ [⟨l, d + 1, r⟩]) :=
  ⟨h.pre.deep.set h1 h2 h3, fun k k1 k2 => by
    by_cases e : k = d + 1
    · exact ⟨⟨l, d + 1, r⟩, by simp, e.symm⟩
    · obtain ⟨x, hx, e⟩ := h.all k k1 (by omega); exact ⟨x, List.mem_append_left _ hx, e⟩⟩
theorem Ok.back {n d : Nat} {L : List Ent} (h : Ok n d L) {k : Nat} (hk : k ≤ d) : Ok n k (L.take (upTo L k)) :=
  ⟨h.pre.back k, fun j j1 j2 => by
    obtain ⟨x, hx, e⟩ := h.all j j1 (by omega)
    refine ⟨x, ?_, e⟩
    rw [(take_upTo h.pre.inc k).1, List.mem_filter]
    exact ⟨hx, by simp; omega⟩⟩
theorem Ok.deep_le {n d : Nat} {L : List Ent} (h : Ok n d L) : ∀ k, k ≤ d → k ≤ upTo L k := by
  intro k
  induction k with
  | zero => intro _; omega
  | succ k ih =>
    intro hk
    have := ih (by omega)
    rw [upTo_succ]
    have : 0 < L.countP (fun x => Decidable.decide (x.lv = k + 1)) := by
      rw [List.countP_pos_iff]
      obtain ⟨x, hx, e⟩ := h.all (k + 1) (by omega) hk
      exact ⟨x, hx, by simpa using e⟩
    omega
theorem Ok.len {n d : Nat} {L : List Ent} (h : Ok n d L) : L.length ≤ n := h.pre.len
theorem Ok.dle {n d : Nat} {L : List Ent} (h : Ok n d L) : d ≤ L.length := by
  have := h.deep_le d (Nat.le_refl _)
  have := upTo_le L d
  omega
theorem Ok.upTo_lt {n d : Nat} {L : List Ent} (h : Ok n d L) {k : Nat} (hk : k < d) : upTo L k < L.length := by
  have h1 := upTo_succ L k
  have : 0 < L.countP (fun x => Decidable.decide (x.lv = k + 1)) := by
    rw [List.countP_pos_iff]
    obtain ⟨x, hx, e⟩ := h.all (k + 1) (by omega) (by omega)
    exact ⟨x, hx, by simpa using e⟩
  have := upTo_le L (k + 1)
  omega
end Go.Proofs.YtkckodpfhlpkgaaGreat.TrailM
