/- Whole numbers as bits, the lowest first, the last one below 0, in plain words: sums, differences, products, what is below, what is the same. No function of the program. -/
import Derived.Test.YtelpoocgmflofaaGatM
namespace Go.Proofs.Ytelpoocgmflofaa.VecM
open GatM

def pw (n : Nat) : Int := 2 ^ n
theorem pw_zero : pw 0 = 1 := rfl
theorem pw_succ (n : Nat) : pw (n + 1) = 2 * pw n := by unfold pw; rw [Int.pow_succ, Int.mul_comm]
theorem pw_pos : ∀ n, 0 < pw n
  | 0 => by decide
  | n + 1 => by have := pw_pos n; rw [pw_succ]; omega
theorem pw_add (a : Nat) : ∀ b, pw (a + b) = pw a * pw b
  | 0 => by rw [Nat.add_zero, pw_zero, Int.mul_one]
  | b + 1 => by rw [← Nat.add_assoc, pw_succ, pw_add a b, pw_succ, Int.mul_left_comm]
/-- The bits as a number without a sign. -/
def uN (f : Nat → Bool) : Nat → Int
  | 0 => 0
  | n + 1 => uN f n + (if f n then pw n else 0)
/-- The number that n bits are. -/
def nB (f : Nat → Bool) (n : Nat) : Int := uN f n - (if f (n - 1) then pw n else 0)
theorem uN_succ (f : Nat → Bool) (n : Nat) : uN f (n + 1) = uN f n + (if f n then pw n else 0) := rfl
theorem uN_congr {f g : Nat → Bool} : ∀ {n : Nat}, (∀ i, i < n → f i = g i) → uN f n = uN g n
  | 0, _ => rfl
  | n + 1, h => by rw [uN_succ, uN_succ, uN_congr (fun i hi => h i (by omega)), h n (by omega)]
theorem nB_congr {f g : Nat → Bool} {n : Nat} (hn : 0 < n) (h : ∀ i, i < n → f i = g i) : nB f n = nB g n := by
  unfold nB; rw [uN_congr h, h (n - 1) (by omega)]
theorem uN_bd (f : Nat → Bool) : ∀ n, 0 ≤ uN f n ∧ uN f n < pw n
  | 0 => by rw [pw_zero]; exact ⟨Int.le_refl _, show (0 : Int) < 1 by decide⟩
  | n + 1 => by
    have := uN_bd f n
    have := pw_pos n
    rw [uN_succ, pw_succ]
    split <;> omega
theorem nB_one (f : Nat → Bool) (n : Nat) : nB f (n + 1) = uN f n - (if f n then pw n else 0) := by
  unfold nB
  rw [uN_succ, pw_succ, Nat.add_sub_cancel]
  split <;> omega
theorem nB_bd (f : Nat → Bool) (n : Nat) : - pw n ≤ nB f (n + 1) ∧ nB f (n + 1) < pw n := by
  rw [nB_one]
  have := uN_bd f n
  have := pw_pos n
  split <;> omega
theorem nB_ext {f : Nat → Bool} {n : Nat} (h : ∀ i, n ≤ i → f i = f (n - 1)) : ∀ d, nB f (n + d) = nB f n
  | 0 => rfl
  | d + 1 => by
    rw [← nB_ext h d]
    show nB f (n + d + 1) = _
    rw [nB_one]
    unfold nB
    have e1 : f (n + d) = f (n - 1) := h _ (by omega)
    have e2 : f (n + d - 1) = f (n - 1) := by
      rcases Nat.eq_zero_or_pos d with e | e
      · subst e; rfl
      · exact h _ (by omega)
    rw [e1, e2]
theorem nB_le {f : Nat → Bool} {n m : Nat} (h : ∀ i, n ≤ i → f i = f (n - 1)) (hm : n ≤ m) : nB f m = nB f n := by
  obtain ⟨d, rfl⟩ := Nat.exists_eq_add_of_le hm
  exact nB_ext h d

/-! ### Sums -/
def maj (a b c : Bool) : Bool := (a && b) || ((a || b) && c)
def odd3 (a b c : Bool) : Bool := (a == b) == c
def carF (a b : Nat → Bool) : Nat → Bool
  | 0 => false
  | n + 1 => maj (a n) (b n) (carF a b n)
def sumF (a b : Nat → Bool) (i : Nat) : Bool := odd3 (a i) (b i) (carF a b i)
theorem sum_u (a b : Nat → Bool) : ∀ n, uN (sumF a b) n + (if carF a b n then pw n else 0) = uN a n + uN b n
  | 0 => rfl
  | n + 1 => by
    have := sum_u a b n
    rw [uN_succ, uN_succ, uN_succ, pw_succ]
    have e : carF a b (n + 1) = maj (a n) (b n) (carF a b n) := rfl
    rw [e]
    have e2 : sumF a b n = odd3 (a n) (b n) (carF a b n) := rfl
    rw [e2]
    unfold odd3 maj
    generalize uN (sumF a b) n = s at *
    generalize uN a n = x at *
    generalize uN b n = y at *
    generalize pw n = p at *
    generalize carF a b n = c at *
    clear e e2
    revert this
    cases a n <;> cases b n <;> cases c <;> simp <;> omega
/-- Both together, in a bit more than there are. -/
theorem sum_val {a b : Nat → Bool} {n : Nat} (hn : 0 < n) (ha : a n = a (n - 1)) (hb : b n = b (n - 1)) : nB (sumF a b) (n + 1) = nB a (n + 1) + nB b (n + 1) := by
  obtain ⟨k, rfl⟩ : ∃ k, n = k + 1 := ⟨n - 1, by omega⟩
  rw [Nat.add_sub_cancel] at ha hb
  have h := sum_u a b (k + 1)
  have e : carF a b (k + 1) = maj (a k) (b k) (carF a b k) := rfl
  have e2 : sumF a b (k + 1) = odd3 (a k) (b k) (carF a b (k + 1)) := by unfold sumF; rw [ha, hb]
  rw [nB_one, nB_one, nB_one, e2, ha, hb, e]
  rw [e] at h
  unfold odd3 maj
  unfold maj at h
  generalize uN (sumF a b) (k + 1) = s at *
  generalize uN a (k + 1) = x at *
  generalize uN b (k + 1) = y at *
  generalize pw (k + 1) = p at *
  generalize carF a b k = c at *
  clear e e2 ha hb
  revert h
  cases a k <;> cases b k <;> cases c <;> simp <;> omega
theorem uN_not (f : Nat → Bool) : ∀ n, uN (fun i => !f i) n = pw n - 1 - uN f n
  | 0 => rfl
  | n + 1 => by rw [uN_succ, uN_succ, uN_not f n, pw_succ]; cases f n <;> simp <;> omega
theorem nB_not (f : Nat → Bool) (n : Nat) : nB (fun i => !f i) (n + 1) = -1 - nB f (n + 1) := by
  rw [nB_one, nB_one, uN_not]; cases f n <;> simp <;> omega
theorem uN_false : ∀ n, uN (fun _ => false) n = 0
  | 0 => rfl
  | n + 1 => by rw [uN_succ, uN_false n]; rfl
theorem nB_false (n : Nat) : nB (fun _ => false) n = 0 := by unfold nB; rw [uN_false]; rfl
theorem nB_where (c : Bool) (f : Nat → Bool) (n : Nat) : nB (fun i => c && f i) n = if c then nB f n else 0 := by
  cases c
  · simp only [Bool.false_and, nB_false]; rfl
  · simp only [Bool.true_and]; rfl
/-! ### Products -/
theorem uN_shift (f : Nat → Bool) : ∀ n, uN f (n + 1) = (if f 0 then 1 else 0) + 2 * uN (fun j => f (j + 1)) n
  | 0 => by rw [uN_succ]; show uN f 0 + _ = _ + 2 * 0; rw [pw_zero]; show 0 + _ = _ + 0; omega
  | n + 1 => by
    rw [uN_succ, uN_shift f n, uN_succ, pw_succ]
    split <;> split <;> omega
theorem nB_shift (f : Nat → Bool) (n : Nat) : nB f (n + 1 + 1) = (if f 0 then 1 else 0) + 2 * nB (fun j => f (j + 1)) (n + 1) := by
  rw [nB_one, nB_one, uN_shift, pw_succ]
  split <;> split <;> omega
/-- The low bits, and behind them a number. -/
theorem uN_split (f : Nat → Bool) (k : Nat) : ∀ n, uN f (k + n) = uN f k + pw k * uN (fun j => f (k + j)) n
  | 0 => by show uN f k = uN f k + pw k * 0; rw [Int.mul_zero, Int.add_zero]
  | n + 1 => by
    rw [← Nat.add_assoc, uN_succ, uN_split f k n, uN_succ, Int.mul_add, Int.add_assoc, pw_add]
    split
    · rfl
    · rw [Int.mul_zero]
theorem nB_split (f : Nat → Bool) (k n : Nat) : nB f (k + (n + 1)) = uN f k + pw k * nB (fun j => f (k + j)) (n + 1) := by
  rw [← Nat.add_assoc, nB_one, nB_one, uN_split, pw_add, Int.mul_sub, ← Int.add_sub_assoc]
  split
  · rfl
  · rw [Int.mul_zero]
/-! ### What is below, what is the same -/
def ltF (a b : Nat → Bool) : Nat → Bool
  | 0 => false
  | n + 1 => maj (!a n) (b n) (ltF a b n)
theorem lt_u (a b : Nat → Bool) : ∀ n, ltF a b n = decide (uN a n < uN b n)
  | 0 => rfl
  | n + 1 => by
    show maj (!a n) (b n) (ltF a b n) = _
    rw [lt_u a b n, uN_succ, uN_succ, Bool.eq_iff_iff, decide_eq_true_iff]
    have ha := uN_bd a n
    have hb := uN_bd b n
    unfold maj
    generalize uN a n = x at *
    generalize uN b n = y at *
    generalize pw n = p at *
    cases a n <;> cases b n <;> simp <;> omega
/-- With the last bits changed. -/
def swF (a b : Nat → Bool) (n i : Nat) : Bool := if i = n then b i else a i
theorem lt_val (a b : Nat → Bool) (n : Nat) : ltF (swF a b n) (swF b a n) (n + 1) = decide (nB a (n + 1) < nB b (n + 1)) := by
  rw [lt_u, nB_one, nB_one, uN_succ, uN_succ]
  have e1 : uN (swF a b n) n = uN a n := uN_congr fun i hi => by unfold swF; rw [if_neg (by omega)]
  have e2 : uN (swF b a n) n = uN b n := uN_congr fun i hi => by unfold swF; rw [if_neg (by omega)]
  have e3 : swF a b n n = b n := if_pos rfl
  have e4 : swF b a n n = a n := if_pos rfl
  rw [e1, e2, e3, e4, decide_eq_decide]
  split <;> split <;> omega
theorem uN_inj {a b : Nat → Bool} : ∀ {n : Nat}, uN a n = uN b n → ∀ i, i < n → a i = b i
  | 0, _, i, hi => absurd hi (by omega)
  | n + 1, h, i, hi => by
    rw [uN_succ, uN_succ] at h
    have ha := uN_bd a n
    have hb := uN_bd b n
    have key : a n = b n ∧ uN a n = uN b n := by
      revert h
      cases a n <;> cases b n <;> simp <;> omega
    rcases Nat.lt_or_ge i n with h1 | h1
    · exact uN_inj key.2 i h1
    · obtain rfl : i = n := by omega
      exact key.1
theorem nB_inj {a b : Nat → Bool} {n : Nat} (h : nB a (n + 1) = nB b (n + 1)) : ∀ i, i < n + 1 → a i = b i := by
  rw [nB_one, nB_one] at h
  have ha := uN_bd a n
  have hb := uN_bd b n
  have key : a n = b n ∧ uN a n = uN b n := by
    revert h
    cases a n <;> cases b n <;> simp <;> omega
  intro i hi
  rcases Nat.lt_or_ge i n with h1 | h1
  · exact uN_inj key.2 i h1
  · obtain rfl : i = n := by omega
    exact key.1

/-! ### Lists of edges -/
/-- The edge at a place; beyond them the last one. -/
def atL (l : List Nat) (i : Nat) : Nat := l.getD (min i (l.length - 1)) 0
def bitE (vals : List Bool) (gs : Gs) (l : List Nat) (i : Nat) : Bool := sayE vals gs (atL l i)
/-- The number that edges are. -/
def valE (vals : List Bool) (gs : Gs) (l : List Nat) : Int := nB (bitE vals gs l) l.length
theorem atL_lt {l : List Nat} {i : Nat} (h : i < l.length) : atL l i = l.getD i 0 := by unfold atL; rw [Nat.min_eq_left (by omega)]
theorem atL_mem {l : List Nat} (h : 0 < l.length) (i : Nat) : atL l i ∈ l := by
  unfold atL
  have hi : min i (l.length - 1) < l.length := by omega
  rw [List.getD, List.getElem?_eq_getElem hi]
  exact List.getElem_mem hi
theorem atL_ge {l : List Nat} {i : Nat} (h : l.length ≤ i) : atL l i = atL l (l.length - 1) := by
  unfold atL; rw [Nat.min_eq_right (by omega), Nat.min_self]
theorem valE_at {vals : List Bool} {gs : Gs} {l : List Nat} {m : Nat} (hm : l.length ≤ m) : nB (bitE vals gs l) m = valE vals gs l :=
  nB_le (fun i hi => by unfold bitE; rw [atL_ge hi]) hm
theorem bitE_ex {vals : List Bool} {gs gs' : Gs} {l : List Nat} (hx : Ex gs gs') (hin : AllIn gs l) (h : 0 < l.length) (i : Nat) : bitE vals gs' l i = bitE vals gs l i :=
  say_ex hx (hin _ (atL_mem h i))
theorem valE_ex {vals : List Bool} {gs gs' : Gs} {l : List Nat} (hx : Ex gs gs') (hin : AllIn gs l) (h : 0 < l.length) : valE vals gs' l = valE vals gs l :=
  nB_congr h fun i _ => bitE_ex hx hin h i
theorem valE_of {vals : List Bool} {gs : Gs} {l : List Nat} {f : Nat → Bool} (h : 0 < l.length) (hf : ∀ i, i < l.length → sayE vals gs (l.getD i 0) = f i) : valE vals gs l = nB f l.length :=
  nB_congr h fun i hi => by unfold bitE; rw [atL_lt hi]; exact hf i hi
/-- Are all of them False or True? -/
def Cst (l : List Nat) : Prop := ∀ x ∈ l, x < 2
theorem Cst.at_ {l : List Nat} (h : Cst l) (hl : 0 < l.length) (i : Nat) : atL l i < 2 := h _ (atL_mem hl i)
theorem both_cst {gs : Gs} {a b : Nat} (ha : a < 2) (hb : b < 2) : (bothG gs a b).2 = gs ∧ (bothG gs a b).1 < 2 := by
  unfold bothG
  split
  · exact ⟨rfl, Nat.zero_lt_two⟩
  · rename_i h1
    rw [if_pos (by omega)]
    exact ⟨rfl, by show max a b < 2; omega⟩
theorem andF_cst : ∀ (l : List Nat) (s : Nat × Gs), Cst l → s.1 < 2 → (andF s l).2 = s.2 ∧ (andF s l).1 < 2
  | [], s, _, h => ⟨rfl, h⟩
  | x :: l, s, hl, h => by
    have h1 := both_cst (gs := s.2) h (hl x (List.mem_cons_self ..))
    have h2 := andF_cst l (bothG s.2 s.1 x) (fun y hy => hl y (List.mem_cons_of_mem _ hy)) h1.2
    exact ⟨h2.1.trans h1.1, h2.2⟩
theorem turn_cst {a : Nat} (h : a < 2) : turnE a < 2 := by unfold turnE; split <;> omega
theorem Cst.turn {l : List Nat} (h : Cst l) : Cst (l.map turnE) := fun x hx => by
  obtain ⟨y, hy, rfl⟩ := List.mem_map.1 hx
  exact turn_cst (h y hy)

/-- What an operation makes: a circuit with some gates more (no more than k), an edge that says f; of constants (C) nothing. -/
structure Res (gs gs' : Gs) (r k : Nat) (C : Prop) (f : List Bool → Bool) : Prop where
  wf : Wf gs'
  ex : Ex gs gs'
  lt : r / 2 < gs'.length
  len : gs'.length ≤ gs.length + k
  cst : C → gs' = gs ∧ r < 2
  say : ∀ vals, sayE vals gs' r = f vals
/-- The same with n edges that are the number F. -/
structure ResL (gs gs' : Gs) (l : List Nat) (n k : Nat) (C : Prop) (F : List Bool → Int) : Prop where
  wf : Wf gs'
  ex : Ex gs gs'
  inn : AllIn gs' l
  len : gs'.length ≤ gs.length + k
  ll : l.length = n
  cst : C → gs' = gs ∧ Cst l
  val : ∀ vals, valE vals gs' l = F vals
theorem res_and {gs : Gs} {l : List Nat} (h : Wf gs) (hl : AllIn gs l) : Res gs (andG gs l).2 (andG gs l).1 l.length (Cst l) fun vals => l.all (sayE vals gs) :=
  ⟨(and_made h hl).wf, (and_made h hl).ex, (and_made h hl).lt, (and_made h hl).len, fun hc => andF_cst l (1, gs) hc Nat.one_lt_two, and_says h hl⟩
theorem res_or {gs : Gs} {l : List Nat} (h : Wf gs) (hl : AllIn gs l) : Res gs (orG gs l).2 (orG gs l).1 l.length (Cst l) fun vals => l.any (sayE vals gs) :=
  ⟨(or_made h hl).wf, (or_made h hl).ex, (or_made h hl).lt, (or_made h hl).len, fun hc => by
    have := andF_cst (l.map turnE) (1, gs) hc.turn Nat.one_lt_two
    exact ⟨this.1, turn_cst this.2⟩, or_says h hl⟩
theorem res_if {gs : Gs} {c a b : Nat} (h : Wf gs) (hc : c / 2 < gs.length) (ha : a / 2 < gs.length) (hb : b / 2 < gs.length) : Res gs (ifG gs c a b).2 (ifG gs c a b).1 4 (c < 2 ∧ a < 2 ∧ b < 2) fun vals => if sayE vals gs c then sayE vals gs a else sayE vals gs b :=
  ⟨(if_made h hc ha hb).wf, (if_made h hc ha hb).ex, (if_made h hc ha hb).lt, (if_made h hc ha hb).len, fun ⟨k1, k2, k3⟩ => by
    have h1 := both_cst (gs := gs) k1 k2
    have h2 := both_cst (gs := (bothG gs c a).2) (turn_cst k1) k3
    have h3 := andF_cst (([(bothG gs c a).1, (bothG (bothG gs c a).2 (turnE c) b).1]).map turnE) (1, (bothG (bothG gs c a).2 (turnE c) b).2) (Cst.turn (fun x hx => by
      simp only [List.mem_cons, List.not_mem_nil, or_false] at hx
      rcases hx with rfl | rfl
      · exact h1.2
      · exact h2.2)) Nat.one_lt_two
    exact ⟨(h3.1.trans h2.1).trans h1.1, turn_cst h3.2⟩, if_says h hc ha hb⟩
theorem res_same {gs : Gs} {a b : Nat} (h : Wf gs) (ha : a / 2 < gs.length) (hb : b / 2 < gs.length) : Res gs (sameG gs a b).2 (sameG gs a b).1 4 (a < 2 ∧ b < 2) fun vals => sayE vals gs a == sayE vals gs b := by
  have := res_if h ha hb (b := turnE b) (by rw [turn_div]; exact hb)
  refine ⟨this.wf, this.ex, this.lt, this.len, fun ⟨k1, k2⟩ => this.cst ⟨k1, k2, turn_cst k2⟩, fun vals => ?_⟩
  refine (this.say vals).trans ?_
  rw [say_turn]
  cases sayE vals gs a <;> cases sayE vals gs b <;> rfl
section
variable {gs gs' gs2 : Gs} {r k : Nat} {C : Prop} {f : List Bool → Bool}
theorem Res.congr (h : Res gs gs' r k C f) {k' : Nat} {C' : Prop} {f' : List Bool → Bool} (hk : k ≤ k') (hC : C' → C) (hf : ∀ vals, f vals = f' vals) : Res gs gs' r k' C' f' :=
  ⟨h.wf, h.ex, h.lt, by have := h.len; omega, fun c => h.cst (hC c), fun vals => (h.say vals).trans (hf vals)⟩
/-- An edge behind more operations. -/
theorem Res.keep (h : Res gs gs' r k C f) (hx : Ex gs' gs2) (vals : List Bool) : sayE vals gs2 r = f vals := (say_ex hx h.lt).trans (h.say vals)
theorem Res.up (h : Res gs gs' r k C f) (hx : Ex gs' gs2) : r / 2 < gs2.length := Nat.lt_of_lt_of_le h.lt hx.len
end
section
variable {gs gs' gs2 : Gs} {l : List Nat} {n k : Nat} {C : Prop} {F : List Bool → Int}
theorem ResL.congr (h : ResL gs gs' l n k C F) {k' : Nat} {C' : Prop} {F' : List Bool → Int} (hk : k ≤ k') (hC : C' → C) (hf : ∀ vals, F vals = F' vals) : ResL gs gs' l n k' C' F' :=
  ⟨h.wf, h.ex, h.inn, by have := h.len; omega, h.ll, fun c => h.cst (hC c), fun vals => (h.val vals).trans (hf vals)⟩
theorem ResL.keep (h : ResL gs gs' l n k C F) (hn : 0 < n) (hx : Ex gs' gs2) (vals : List Bool) : valE vals gs2 l = F vals := (valE_ex hx h.inn (by rw [h.ll]; exact hn)).trans (h.val vals)
end
end Go.Proofs.Ytelpoocgmflofaa.VecM
