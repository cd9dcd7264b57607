/- Plain facts on expressions: whether they can be, how many they are, how they are written. No program but the words' names. -/
import Derived.Test.YtmkhfcdjgdofnaaDoorWrdJ
import Derived.Lib.ItoaNum
namespace Go.Proofs.YtmkhfcdjgdofnaaDoor.TreM
open WrdM

/-- An expression. -/
inductive Ex where
  | mk (op num : Int) (name : List UInt8) (kids : List Ex) (line col : Int)
def Ex.op : Ex → Int | .mk o _ _ _ _ _ => o
def Ex.num : Ex → Int | .mk _ n _ _ _ _ => n
def Ex.name : Ex → List UInt8 | .mk _ _ s _ _ _ => s
def Ex.kids : Ex → List Ex | .mk _ _ _ k _ _ => k
/-- By induction on an expression, its kids first. -/
theorem Ex.ind {P : Ex → Prop} (h : ∀ o n s ks l c, (∀ k ∈ ks, P k) → P (.mk o n s ks l c)) : ∀ x, P x := by
  intro x
  refine Ex.rec (motive_1 := P) (motive_2 := fun ks => ∀ k ∈ ks, P k) ?_ ?_ ?_ x
  · intro o n s ks l c ih; exact h o n s ks l c ih
  · intro k hk; cases hk
  · intro k ks h1 h2 y hy
    rcases List.mem_cons.1 hy with rfl | hy
    · exact h1
    · exact h2 y hy
/-- Can it be a name? -/
def nameOk (s : List UInt8) : Bool := decide (s.length ≤ 32) && (headB letB s && (s.all namB && !keptB s))
/-- How many kids an op has; -1: there is no such op. -/
def kidsN (op : Int) : Int := if 1 ≤ op ∧ op ≤ 4 then 0 else if 5 ≤ op ∧ op ≤ 13 then 1 else if 14 ≤ op ∧ op ≤ 30 then 2 else -1
/-- What stands in an expression itself, as it should. -/
def ownB (op num : Int) (name : List UInt8) (n : Nat) : Bool :=
  decide (kidsN op = (n : Int)) && ((decide (op = 3) || name.isEmpty) &&
    (if op = 1 then decide (0 ≤ num) && decide (num ≤ 1000000) else if op = 2 then decide (num = 0) || decide (num = 1) else if op = 3 then decide (num = 0) && nameOk name else if op = 4 then true else decide (num = 0)))
mutual
def size : Ex → Nat
  | .mk _ _ _ ks _ _ => 1 + sizeL ks
def sizeL : List Ex → Nat
  | [] => 0
  | k :: ks => size k + sizeL ks
end
mutual
def deep : Ex → Nat
  | .mk _ _ _ ks _ _ => deepL ks + 1
def deepL : List Ex → Nat
  | [] => 0
  | k :: ks => max (deep k) (deepL ks)
end
mutual
def shape : Ex → Bool
  | .mk o n s ks _ _ => ownB o n s ks.length && shapeL ks
def shapeL : List Ex → Bool
  | [] => true
  | k :: ks => shape k && shapeL ks
end
mutual
def hasOp (p : Int) : Ex → Bool
  | .mk o _ _ ks _ _ => decide (o = p) || hasL p ks
def hasL (p : Int) : List Ex → Bool
  | [] => false
  | k :: ks => hasOp p k || hasL p ks
end
mutual
def same : Ex → Ex → Bool
  | .mk o n s ks _ _, y => decide (o = y.op) && (decide (n = y.num) && (s == y.name && sameL ks y.kids))
def sameL : List Ex → List Ex → Bool
  | [], [] => true
  | k :: ks, y :: ys => same k y && sameL ks ys
  | _, _ => false
end
def rightB (x : Ex) : Bool := decide (deep x ≤ 60) && shape x
def writB (x : Ex) : Bool := rightB x && !hasOp 4 x

theorem sizeL_mem : ∀ (ks : List Ex) (k : Ex), k ∈ ks → size k ≤ sizeL ks
  | [], k, h => by cases h
  | y :: ys, k, h => by
    simp only [sizeL]
    rcases List.mem_cons.1 h with rfl | h
    · omega
    · have := sizeL_mem ys k h; omega
theorem size_pos (x : Ex) : 1 ≤ size x := by cases x; simp only [size]; omega
theorem size_kid {x k : Ex} (h : k ∈ x.kids) : size k < size x := by
  cases x with
  | mk o n s ks l c =>
    have := sizeL_mem ks k h
    simp only [size]; omega
theorem deepL_mem : ∀ (ks : List Ex) (k : Ex), k ∈ ks → deep k ≤ deepL ks
  | [], k, h => by cases h
  | y :: ys, k, h => by
    simp only [deepL]
    rcases List.mem_cons.1 h with rfl | h
    · omega
    · have := deepL_mem ys k h; omega
theorem shapeL_mem : ∀ (ks : List Ex), shapeL ks = true ↔ ∀ k ∈ ks, shape k = true
  | [] => by simp [shapeL]
  | y :: ys => by simp [shapeL, shapeL_mem ys]
theorem hasL_mem (p : Int) : ∀ (ks : List Ex), hasL p ks = false ↔ ∀ k ∈ ks, hasOp p k = false
  | [] => by simp [hasL]
  | y :: ys => by simp [hasL, hasL_mem p ys]
theorem same_refl : ∀ x, same x x = true := by
  apply Ex.ind
  intro o n s ks l c ih
  have h : ∀ ys : List Ex, (∀ k ∈ ys, same k k = true) → sameL ys ys = true := by
    intro ys
    induction ys with
    | nil => intro _; rfl
    | cons y ys ih2 =>
      intro h
      simp only [sameL, h y (by simp), ih2 (fun k hk => h k (by simp [hk])), Bool.and_self]
  simp [same, Ex.op, Ex.num, Ex.name, Ex.kids, h ks ih]
theorem same_size : ∀ x y, same x y = true → size x = size y := by
  apply Ex.ind (P := fun x => ∀ y, same x y = true → size x = size y)
  intro o n s ks l c ih y h
  have hl : ∀ (as bs : List Ex), (∀ k ∈ as, ∀ y, same k y = true → size k = size y) → sameL as bs = true → sizeL as = sizeL bs := by
    intro as
    induction as with
    | nil =>
      intro bs _ h
      cases bs with
      | nil => rfl
      | cons b bs => simp [sameL] at h
    | cons a as ih2 =>
      intro bs hk h
      cases bs with
      | nil => simp [sameL] at h
      | cons b bs =>
        simp only [sameL, Bool.and_eq_true] at h
        simp only [sizeL]
        rw [hk a (by simp) b h.1, ih2 bs (fun k hk' => hk k (by simp [hk'])) h.2]
  cases y with
  | mk o2 n2 s2 ks2 l2 c2 =>
    simp only [same, Bool.and_eq_true, Ex.kids] at h
    simp only [size]
    rw [hl ks ks2 ih h.2.2.2]
/-- Of a part that can be, each kid can be. -/
theorem right_kid {x k : Ex} (h : rightB x = true) (hk : k ∈ x.kids) : rightB k = true := by
  cases x with
  | mk o n s ks l c =>
    unfold rightB at h ⊢
    rw [Bool.and_eq_true, decide_eq_true_eq] at h ⊢
    obtain ⟨h1, h2⟩ := h
    have h3 : deep (.mk o n s ks l c) = deepL ks + 1 := by rw [deep]
    have h4 : shape (.mk o n s ks l c) = (ownB o n s ks.length && shapeL ks) := by rw [shape]
    rw [h4, Bool.and_eq_true] at h2
    have := deepL_mem ks k hk
    exact ⟨by omega, (shapeL_mem ks).1 h2.2 k hk⟩
theorem kidsN_le (op : Int) : kidsN op ≤ 2 := by unfold kidsN; repeat' split <;> try omega
/-- With at most two kids each: no more than the levels allow. -/
theorem shape_size : ∀ x, shape x = true → size x + 1 ≤ 2 ^ deep x := by
  apply Ex.ind (P := fun x => shape x = true → size x + 1 ≤ 2 ^ deep x)
  intro o n s ks l c ih h
  simp only [shape, Bool.and_eq_true] at h
  have hn : ks.length ≤ 2 := by
    have h1 := h.1
    unfold ownB at h1
    simp only [Bool.and_eq_true, decide_eq_true_eq] at h1
    have := kidsN_le o
    omega
  have hs := (shapeL_mem ks).1 h.2
  simp only [size, deep]
  match ks, hn, ih, hs with
  | [], _, _, _ => simp [sizeL, deepL]
  | [a], _, ih, hs =>
    have ha := ih a (by simp) (hs a (by simp))
    simp only [sizeL, deepL, Nat.max_zero, Nat.pow_succ]
    have := Nat.one_le_two_pow (n := deep a)
    omega
  | [a, b], _, ih, hs =>
    have ha := ih a (by simp) (hs a (by simp))
    have hb := ih b (by simp) (hs b (by simp))
    simp only [sizeL, deepL, Nat.max_zero, Nat.pow_succ]
    have h1 : 2 ^ deep a ≤ 2 ^ max (deep a) (deep b) := Nat.pow_le_pow_right (by omega) (by omega)
    have h2 : 2 ^ deep b ≤ 2 ^ max (deep a) (deep b) := Nat.pow_le_pow_right (by omega) (by omega)
    omega
theorem right_size {x : Ex} (h : rightB x = true) : size x < 2 ^ 60 := by
  simp only [rightB, Bool.and_eq_true, decide_eq_true_eq] at h
  have h1 := shape_size x h.2
  have h2 : 2 ^ deep x ≤ 2 ^ 60 := Nat.pow_le_pow_right (by omega) h.1
  omega

/-- How an op is written. -/
def signT : List (List UInt8) := [[45], [33], [88], [70], [71], [89], [90], [79], [72], [42], [43], [45], [61], [33, 61], [60], [60, 61], [62], [62, 61], [85], [82], [83], [84], [38], [124], [45, 62], [60, 45, 62]]
def signE (op : Int) : List UInt8 := if 5 ≤ op ∧ op ≤ 30 then signT.getD (op.toNat - 5) [] else []
mutual
def text : Ex → List UInt8
  | .mk o n s ks _ _ => textK o n s ks
def textK (o n : Int) (s : List UInt8) : List Ex → List UInt8
  | [a, b] => inner a ++ [32] ++ signE o ++ [32] ++ inner b
  | [a] => if 6 < o then signE o ++ [32] ++ inner a else signE o ++ inner a
  | _ => if o = 1 then Lib.itoa n else if o = 2 then (if n = 1 then [116, 114, 117, 101] else [102, 97, 108, 115, 101]) else s
def inner : Ex → List UInt8
  | .mk o n s ks _ _ => if ks.isEmpty then textK o n s ks else [40] ++ textK o n s ks ++ [41]
end
theorem text_place (o n : Int) (s : List UInt8) (ks : List Ex) (l c l' c' : Int) : text (.mk o n s ks l c) = text (.mk o n s ks l' c') := by rw [text, text]
theorem inner_eq (x : Ex) : inner x = if x.kids.isEmpty then text x else [40] ++ text x ++ [41] := by 
  cases x with
  | mk o n s ks l c =>
    rw [inner, text]
    rfl
end Go.Proofs.YtmkhfcdjgdofnaaDoor.TreM
