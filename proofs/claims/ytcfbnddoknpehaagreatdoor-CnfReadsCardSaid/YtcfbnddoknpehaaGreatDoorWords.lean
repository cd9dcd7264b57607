/- Plain facts on the words of a text, line by line. No program. -/
namespace Go.Proofs.YtcfbnddoknpehaaGreatDoor.Words

/-- A blank or a tabulator? -/
def blankB (c : UInt8) : Bool := c == 32 || c == 9
/-- The words of what is left of a line, behind a word's beginning. -/
def goW (acc : List UInt8) : List UInt8 → List (List UInt8)
  | [] => if acc.isEmpty then [] else [acc]
  | c :: cs => if blankB c then (if acc.isEmpty then goW [] cs else acc :: goW [] cs) else goW (acc ++ [c]) cs
/-- A line without words? -/
def remarkB : List UInt8 → Bool
  | [] => false
  | [c] => c == 99
  | c :: d :: _ => c == 99 && blankB d
def lineW (l : List UInt8) : List (List UInt8) := if remarkB l then [] else goW [] l
/-- The words of what is left of a text, behind a line's beginning. -/
def goL (line : List UInt8) : List UInt8 → List (List UInt8)
  | [] => lineW line
  | c :: cs => if c == 10 then lineW line ++ goL [] cs else goL (line ++ [c]) cs
def wordsL (s : List UInt8) : List (List UInt8) := goL [] s

theorem goL_nil : goL [] [] = [] := rfl
theorem goW_drop : ∀ l : List UInt8, goW [] (l.dropWhile blankB) = goW [] l
  | [] => rfl
  | c :: cs => by
    rw [List.dropWhile_cons]
    by_cases h : blankB c = true
    · rw [if_pos h, goW_drop cs]
      simp [goW, h]
    · rw [if_neg h]
theorem goW_word : ∀ (l acc : List UInt8), acc ≠ [] → goW acc l = (acc ++ l.takeWhile (fun c => !blankB c)) :: goW [] (l.dropWhile (fun c => !blankB c))
  | [], acc, h => by simp [goW, h]
  | c :: cs, acc, h => by
    rw [List.takeWhile_cons, List.dropWhile_cons]
    by_cases hb : blankB c = true
    · simp [goW, hb, h]
    · have ih := goW_word cs (acc ++ [c]) (by simp)
      simp only [Bool.not_eq_true] at hb
      simp [goW, hb, ih]
/-- The next word of a line that doesn't begin with a blank. -/
theorem goW_next (c : UInt8) (cs : List UInt8) (h : blankB c = false) :
    goW [] (c :: cs) = (c :: cs).takeWhile (fun c => !blankB c) :: goW [] ((c :: cs).dropWhile (fun c => !blankB c)) := by
  rw [List.takeWhile_cons, List.dropWhile_cons]
  have := goW_word cs [c] (by simp)
  simp [goW, h, this]
theorem goL_line : ∀ (l line : List UInt8), goL line l = lineW (line ++ l.takeWhile (fun c => !(c == 10))) ++ goL [] (l.dropWhile (fun c => !(c == 10))).tail
  | [], line => by
    show lineW line = lineW (line ++ []) ++ goL [] []
    rw [List.append_nil, goL_nil, List.append_nil]
  | c :: cs, line => by
    rw [List.takeWhile_cons, List.dropWhile_cons]
    by_cases hb : (c == 10) = true
    · simp [goL, hb]
    · have ih := goL_line cs (line ++ [c])
      simp only [Bool.not_eq_true] at hb
      simp [goL, hb, ih]

/-- What is left to be read: of a line, and of the lines behind it. -/
def left (L S : List UInt8) : List (List UInt8) := goW [] L ++ goL [] S
theorem left_trim (L S : List UInt8) : left (L.dropWhile blankB) S = left L S := by unfold left; rw [goW_drop]
/-- The line behind one that is used up. -/
def lineOf (S : List UInt8) : List UInt8 := if remarkB (S.takeWhile (fun c => !(c == 10))) then [] else S.takeWhile (fun c => !(c == 10))
def restOf (S : List UInt8) : List UInt8 := (S.dropWhile (fun c => !(c == 10))).tail
theorem left_line (S : List UInt8) : left [] S = left (lineOf S) (restOf S) := by
  unfold left lineOf restOf
  rw [goL_line S []]
  simp only [List.nil_append, lineW]
  by_cases h : remarkB (S.takeWhile (fun c => !(c == 10))) = true
  · simp [h, goW]
  · simp only [Bool.not_eq_true] at h
    simp [h, goW]
theorem restOf_len : ∀ S : List UInt8, S ≠ [] → (restOf S).length < S.length
  | [], h => absurd rfl h
  | c :: cs, _ => by
    unfold restOf
    rw [List.dropWhile_cons]
    by_cases hb : (c == 10) = true
    · simp [hb]
    · simp only [Bool.not_eq_true] at hb
      simp only [hb, Bool.not_false, if_true]
      have : ∀ l : List UInt8, (l.dropWhile (fun c => !(c == 10))).length ≤ l.length := fun l => (List.dropWhile_sublist _).length_le
      have := this cs
      simp only [List.length_tail, List.length_cons]
      omega
theorem lineOf_len (S : List UInt8) : (lineOf S).length ≤ S.length := by
  unfold lineOf
  split
  · simp
  · exact (List.takeWhile_sublist _).length_le
theorem left_none : left [] [] = [] := rfl
theorem left_next (c : UInt8) (cs S : List UInt8) (h : blankB c = false) :
    left (c :: cs) S = (c :: cs).takeWhile (fun c => !blankB c) :: left ((c :: cs).dropWhile (fun c => !blankB c)) S := by
  unfold left; rw [goW_next c cs h]; rfl
theorem next_ne (c : UInt8) (cs : List UInt8) (h : blankB c = false) : (c :: cs).takeWhile (fun c => !blankB c) ≠ [] := by
  rw [List.takeWhile_cons]; simp [h]
theorem words_ne : ∀ (l acc : List UInt8), ∀ w ∈ goW acc l, w ≠ []
  | [], acc, w, h => by
    simp only [goW] at h
    by_cases ha : acc = [] <;> simp_all
  | c :: cs, acc, w, h => by
    simp only [goW] at h
    split at h
    · split at h
      · exact words_ne cs [] w h
      · rename_i ha
        rcases List.mem_cons.1 h with rfl | h
        · intro e; subst e; simp at ha
        · exact words_ne cs [] w h
    · exact words_ne cs _ w h

/-- The number of a word. -/
def digB (c : UInt8) : Bool := decide (48 ≤ c.toNat) && decide (c.toNat ≤ 57)
def valN (l : List UInt8) : Nat := l.foldl (fun n c => 10 * n + (c.toNat - 48)) 0
def minusB : List UInt8 → Bool
  | c :: _ => c == 45
  | [] => false
def digitsOf (w : List UInt8) : List UInt8 := if minusB w then w.tail else w
def okB (w : List UInt8) : Bool := decide (1 ≤ (digitsOf w).length) && decide ((digitsOf w).length ≤ 9) && (digitsOf w).all digB
def valZ (w : List UInt8) : Int := if minusB w then -(valN (digitsOf w) : Int) else valN (digitsOf w)
def numOf (w : List UInt8) : Option Int := if okB w then some (valZ w) else none

theorem valN_snoc (l : List UInt8) (c : UInt8) : valN (l ++ [c]) = 10 * valN l + (c.toNat - 48) := by simp [valN]
theorem valN_from : ∀ (l : List UInt8) (a : Nat), l.all digB = true → l.foldl (fun n c => 10 * n + (c.toNat - 48)) a + 1 ≤ (a + 1) * 10 ^ l.length
  | [], a, _ => by simp
  | c :: cs, a, h => by
    rw [List.all_cons, Bool.and_eq_true] at h
    have h2 := h.1
    unfold digB at h2
    simp only [Bool.and_eq_true, decide_eq_true_eq] at h2
    have ih := valN_from cs (10 * a + (c.toNat - 48)) h.2
    rw [List.foldl_cons, List.length_cons, Nat.pow_succ]
    refine Nat.le_trans ih ?_
    have : 10 * a + (c.toNat - 48) + 1 ≤ (a + 1) * 10 := by omega
    calc (10 * a + (c.toNat - 48) + 1) * 10 ^ cs.length ≤ ((a + 1) * 10) * 10 ^ cs.length := Nat.mul_le_mul_right _ this
      _ = (a + 1) * (10 ^ cs.length * 10) := by rw [Nat.mul_assoc, Nat.mul_comm 10]
theorem valN_lt (l : List UInt8) (h : l.all digB = true) : valN l < 10 ^ l.length := by
  have := valN_from l 0 h
  unfold valN
  omega
theorem valN_small {l : List UInt8} (h : l.all digB = true) (hl : l.length ≤ 9) : valN l ≤ 999999999 := by
  have h1 := valN_lt l h
  have h2 : 10 ^ l.length ≤ 10 ^ 9 := Nat.pow_le_pow_right (by omega) hl
  omega
theorem numOf_bd {w : List UInt8} {n : Int} (h : numOf w = some n) : -999999999 ≤ n ∧ n ≤ 999999999 := by
  unfold numOf at h
  split at h
  · rename_i hk
    injection h with h
    unfold okB at hk
    simp only [Bool.and_eq_true, decide_eq_true_eq] at hk
    have := valN_small hk.2 hk.1.2
    unfold valZ at h
    split at h <;> omega
  · cases h
end Go.Proofs.YtcfbnddoknpehaaGreatDoor.Words
