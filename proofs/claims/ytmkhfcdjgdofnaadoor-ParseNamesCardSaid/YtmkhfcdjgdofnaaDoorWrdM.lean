/- Plain facts on texts cut into words. No program. -/
namespace Go.Proofs.YtmkhfcdjgdofnaaDoor.WrdM

/-- A word, where it stands. -/
structure Tok where
  kind : Int
  text : List UInt8
  num : Int
  line : Int
  col : Int
/-- What is answered: a fault and its place, or words. -/
inductive Out where
  | bad (e line col : Int)
  | ok (ts : List Tok)
def Out.pre (ts : List Tok) : Out → Out
  | .bad e l c => .bad e l c
  | .ok us => .ok (ts ++ us)

def letB (c : UInt8) : Bool := (decide (97 ≤ c) && decide (c ≤ 122)) || (decide (65 ≤ c) && decide (c ≤ 90))
def digB (c : UInt8) : Bool := decide (48 ≤ c) && decide (c ≤ 57)
def namB (c : UInt8) : Bool := letB c || digB c || c == 95
def blkB (c : UInt8) : Bool := c == 32 || c == 9 || c == 10
def keptL : List (List UInt8) :=
  [[101, 110, 117, 109], [118, 97, 114], [98, 111, 111, 108], [112, 114, 111, 99, 101, 115, 115], [119, 104, 101, 110], [100, 111], [116, 114, 117, 101], [102, 97, 108, 115, 101],
   [88], [70], [71], [85], [82], [89], [90], [79], [72], [83], [84]]
def keptB (l : List UInt8) : Bool := keptL.contains l
/-- The signs, the longer ones first. -/
def signL : List (List UInt8) :=
  [[60, 45, 62], [46, 46], [58, 61], [33, 61], [60, 61], [62, 61], [45, 62],
   [123], [125], [40], [41], [58], [44], [59], [61], [60], [62], [43], [45], [42], [33], [38], [124]]
def signW (l : List UInt8) : List UInt8 := ((signL.find? (fun x => x.isPrefixOf l)).getD [])
def numL (l : List UInt8) : Int := l.foldl (fun n c => 10 * n + ((c.toNat : Int) - 48)) 0

/-- The word with which a text begins: an error, its kind, its bytes, its number. -/
structure Wrd where
  err : Int
  kind : Int
  text : List UInt8
  num : Int
def namW (t : List UInt8) : Wrd := if 32 < t.length then ⟨132, 0, [], 0⟩ else ⟨0, if keptB t then 4 else 1, t, 0⟩
def digW (t : List UInt8) : Wrd := if 7 < t.length then ⟨132, 0, [], 0⟩ else if 1000000 < numL t then ⟨132, 0, [], 0⟩ else ⟨0, 2, t, numL t⟩
def sgnW (t : List UInt8) : Wrd := if t = [] then ⟨131, 0, [], 0⟩ else ⟨0, 3, t, 0⟩
def headB (p : UInt8 → Bool) (l : List UInt8) : Bool := match l with
  | [] => false
  | c :: _ => p c
def wordL (l : List UInt8) : Wrd :=
  if headB letB l then namW (l.takeWhile namB) else if headB digB l then digW (l.takeWhile digB) else sgnW (signW l)
def rem2 (l : List UInt8) : Bool := ([47, 47] : List UInt8).isPrefixOf l
def at_ (x : Wrd) (line col : Int) : Tok := ⟨x.kind, x.text, x.num, line, col⟩
def nl (line : Int) (c : UInt8) : Int := if c == 10 then line + 1 else line
def nc (col : Int) (c : UInt8) : Int := if c == 10 then 1 else col + 1

/-- Byte by byte: k of them belong to a word still; r: within a remark. -/
def go : Nat → Bool → Int → Int → List UInt8 → Out
  | _, _, line, col, [] => .ok [⟨5, [], 0, line, col⟩]
  | k + 1, r, line, col, c :: cs => go k r (nl line c) (nc col c) cs
  | 0, r, line, col, c :: cs =>
    if c == 10 then go 0 false (line + 1) 1 cs
    else if r || rem2 (c :: cs) then go 0 true line (col + 1) cs
    else if blkB c then go 0 false line (col + 1) cs
    else if (wordL (c :: cs)).err == 0 then Out.pre [at_ (wordL (c :: cs)) line col] (go ((wordL (c :: cs)).text.length - 1) false line (col + 1) cs)
    else .bad (wordL (c :: cs)).err line col
def cutL (s : List UInt8) : Out := if 65536 < s.length then .bad 132 1 1 else go 0 false 1 1 s

/-- Where one is behind some bytes. -/
def adv (line col : Int) : List UInt8 → Int × Int
  | [] => (line, col)
  | c :: cs => adv (nl line c) (nc col c) cs

theorem Out.pre_pre (a b : List Tok) (o : Out) : Out.pre a (Out.pre b o) = Out.pre (a ++ b) o := by
  cases o <;> simp [Out.pre]
theorem Out.pre_nil (o : Out) : Out.pre [] o = o := by cases o <;> simp [Out.pre]

theorem adv_app : ∀ (p r : List UInt8) (L C : Int), adv L C (p ++ r) = adv (adv L C p).1 (adv L C p).2 r
  | [], _, _, _ => rfl
  | c :: cs, r, L, C => by rw [List.cons_append]; simp only [adv]; rw [adv_app cs]
/-- Without a line end. -/
theorem adv_flat : ∀ (p : List UInt8) (L C : Int), (∀ c ∈ p, (c == 10) = false) → adv L C p = (L, C + p.length)
  | [], L, C, _ => by simp [adv]
  | c :: cs, L, C, h => by
    have h0 := h c (by simp)
    simp only [adv]
    rw [adv_flat cs _ _ (fun d hd => h d (by simp [hd]))]
    simp only [nl, nc, h0, List.length_cons]
    simp; omega
theorem adv_line : ∀ (p : List UInt8) (L C : Int), (adv L C p).1 = L + (p.count 10 : Int)
  | [], L, C => by simp [adv]
  | c :: cs, L, C => by
    simp only [adv]
    rw [adv_line cs, List.count_cons]
    by_cases h : (c == 10) = true
    · simp [nl, h]; omega
    · simp [nl, h]
theorem adv_bd : ∀ (p : List UInt8) (L C : Int), 1 ≤ C → 1 ≤ (adv L C p).2 ∧ (adv L C p).2 ≤ C + p.length ∧ L ≤ (adv L C p).1 ∧ (adv L C p).1 ≤ L + p.length
  | [], L, C, h => by simp [adv]; omega
  | c :: cs, L, C, h => by
    simp only [adv]
    have h1 : 1 ≤ nc C c ∧ nc C c ≤ C + 1 := by unfold nc; split <;> omega
    have h2 : L ≤ nl L c ∧ nl L c ≤ L + 1 := by unfold nl; split <;> omega
    have := adv_bd cs (nl L c) (nc C c) h1.1
    simp only [List.length_cons]
    omega
/-- The column behind a line end: how many bytes stand behind it, and one. -/
theorem adv_col : ∀ (p q : List UInt8) (L C : Int), (∀ c ∈ q, (c == 10) = false) → (adv L C (p ++ 10 :: q)).2 = q.length + 1 := by
  intro p q L C h
  rw [adv_app]
  show (adv _ _ (10 :: q)).2 = _
  simp only [adv]
  rw [adv_flat q _ _ h]
  simp [nc]; omega

/-- Bytes of a word are passed. -/
theorem go_in : ∀ (p r : List UInt8) (b : Bool) (L C : Int), go p.length b L C (p ++ r) = go 0 b (adv L C p).1 (adv L C p).2 r
  | [], r, b, L, C => by simp [adv]
  | c :: cs, r, b, L, C => by
    show go (cs.length + 1) b L C (c :: (cs ++ r)) = _
    simp only [go, adv]
    rw [go_in cs r b]
theorem rem2_cons {c : UInt8} {cs : List UInt8} (h : rem2 (c :: cs) = true) : c = 47 ∧ ∃ ds, cs = 47 :: ds := by
  unfold rem2 at h
  match cs with
  | [] => simp [List.isPrefixOf] at h
  | d :: ds =>
    simp [List.isPrefixOf] at h
    exact ⟨h.1.symm, ds, by rw [← h.2]⟩
theorem blk_47 : blkB 47 = false := by decide
theorem go_blk : ∀ (p r : List UInt8) (L C : Int), p.all blkB = true → go 0 false L C (p ++ r) = go 0 false (adv L C p).1 (adv L C p).2 r
  | [], r, L, C, _ => by simp [adv]
  | c :: cs, r, L, C, h => by
    simp only [List.all_cons, Bool.and_eq_true] at h
    rw [List.cons_append]
    simp only [go, adv]
    by_cases h10 : (c == 10) = true
    · rw [if_pos h10, go_blk cs r _ _ h.2]; simp [nl, nc, h10]
    · have hr : rem2 (c :: (cs ++ r)) = false := by
        rw [Bool.eq_false_iff]
        intro e
        have := (rem2_cons e).1
        subst this
        rw [blk_47] at h; cases h.1
      rw [if_neg h10]
      simp only [hr, h.1, Bool.or_false, Bool.false_eq_true, if_false, if_true]
      rw [go_blk cs r _ _ h.2]; simp [nl, nc, h10]
/-- Within a remark. -/
theorem go_rem : ∀ (p r : List UInt8) (L C : Int), p.all (fun c => !(c == 10)) = true → go 0 true L C (p ++ r) = go 0 true (adv L C p).1 (adv L C p).2 r
  | [], r, L, C, _ => by simp [adv]
  | c :: cs, r, L, C, h => by
    simp only [List.all_cons, Bool.and_eq_true, Bool.not_eq_true'] at h
    rw [List.cons_append]
    simp only [go, adv, h.1, Bool.true_or, if_true, Bool.false_eq_true, if_false]
    rw [go_rem cs r _ _ h.2]; simp [nl, nc, h.1]
/-- A remark begins. -/
theorem go_rem2 (l : List UInt8) (L C : Int) (h : rem2 l = true) : go 0 false L C l = go 0 true L C l := by
  cases l with
  | nil => simp [rem2, List.isPrefixOf] at h
  | cons c cs =>
    have := (rem2_cons h).1
    subst this
    simp [go, h]
/-- A remark ends. -/
theorem go_end (l : List UInt8) (L C : Int) (h : headB (fun c => !(c == 10)) l = false) : go 0 true L C l = go 0 false L C l := by
  cases l with
  | nil => rfl
  | cons c cs =>
    simp only [headB, Bool.not_eq_false'] at h
    simp [go, h]

theorem takeW_pre (p : UInt8 → Bool) (l : List UInt8) : l.takeWhile p ++ l.drop (l.takeWhile p).length = l := by
  conv => rhs; rw [← List.takeWhile_append_dropWhile (p := p) (l := l)]
  congr 1
  conv => lhs; rw [← List.takeWhile_append_dropWhile (p := p) (l := l)]
  have : ((l.takeWhile p) ++ l.dropWhile p).takeWhile p = l.takeWhile p := by rw [List.takeWhile_append_dropWhile]
  rw [this, List.drop_left]
theorem takeW_all (p : UInt8 → Bool) (l : List UInt8) : (l.takeWhile p).all p = true := by
  rw [List.all_eq_true]
  intro x hx
  induction l with
  | nil => simp at hx
  | cons c cs ih =>
    rw [List.takeWhile_cons] at hx
    by_cases h : p c = true
    · rw [if_pos h] at hx
      rcases List.mem_cons.1 hx with rfl | h2
      · exact h
      · exact ih h2
    · rw [if_neg h] at hx; simp at hx
theorem dropW_eq (p : UInt8 → Bool) (l : List UInt8) : l.drop (l.takeWhile p).length = l.dropWhile p := by
  have h := takeW_pre p l
  conv at h => rhs; rw [← List.takeWhile_append_dropWhile (p := p) (l := l)]
  exact List.append_cancel_left h
theorem dropW_head (p : UInt8 → Bool) : ∀ l : List UInt8, headB p (l.dropWhile p) = false
  | [] => rfl
  | c :: cs => by
    rw [List.dropWhile_cons]
    by_cases h : p c = true
    · rw [if_pos h]; exact dropW_head p cs
    · rw [if_neg h]; simpa [headB] using h

/-- A sign's bytes stand at the beginning. -/
theorem signW_pre (l : List UInt8) : signW l = [] ∨ (signW l ∈ signL ∧ ∃ r, l = signW l ++ r) := by
  unfold signW
  cases h : signL.find? (fun x => x.isPrefixOf l) with
  | none => exact .inl rfl
  | some x =>
    right
    have hm := List.mem_of_find?_eq_some h
    have hp := List.find?_some h
    simp only [Option.getD_some]
    refine ⟨hm, ?_⟩
    have := List.isPrefixOf_iff_prefix.1 hp
    obtain ⟨r, hr⟩ := this
    exact ⟨r, hr.symm⟩
theorem signL_bytes : ∀ x ∈ signL, x ≠ [] ∧ x.length ≤ 3 ∧ (∀ c ∈ x, blkB c = false ∧ c ≠ 47 ∧ namB c = false) := by decide
/-- The word's bytes. -/
theorem wordL_pre (l : List UInt8) (h : (wordL l).err = 0) : ∃ c cs r, (wordL l).text = c :: cs ∧ l = (wordL l).text ++ r ∧ (wordL l).text.all (fun c => !(blkB c)) = true ∧ (wordL l).text.length ≤ 32 := by
  unfold wordL at h ⊢
  have nb : ∀ c : UInt8, namB c = true → blkB c = false := by
    intro c hc
    rw [Bool.eq_false_iff]
    intro e
    unfold blkB at e
    simp only [Bool.or_eq_true, beq_iff_eq] at e
    rcases e with (rfl | rfl) | rfl <;> revert hc <;> decide
  have db : ∀ c : UInt8, digB c = true → blkB c = false := fun c hc => nb c (by simp [namB, hc])
  have key : ∀ p : UInt8 → Bool, (∀ c, p c = true → blkB c = false) → headB p l = true → ∃ c cs r, l.takeWhile p = c :: cs ∧ l = l.takeWhile p ++ r ∧ (l.takeWhile p).all (fun c => !(blkB c)) = true := by
    intro p hp hh
    cases l with
    | nil => simp [headB] at hh
    | cons c cs =>
      simp only [headB] at hh
      refine ⟨c, cs.takeWhile p, (c :: cs).drop ((c :: cs).takeWhile p).length, by rw [List.takeWhile_cons, if_pos hh], (takeW_pre p _).symm, ?_⟩
      have := takeW_all p (c :: cs)
      rw [List.all_eq_true] at this ⊢
      intro x hx
      rw [hp x (this x hx)]; rfl
  by_cases h1 : headB letB l = true
  · rw [if_pos h1] at h ⊢
    have h1' : headB namB l = true := by
      cases l with
      | nil => simp [headB] at h1
      | cons c cs => simp only [headB] at h1 ⊢; simp [namB, h1]
    obtain ⟨c, cs, r, e1, e2, e3⟩ := key namB nb h1'
    unfold namW at h ⊢
    by_cases h3 : 32 < (l.takeWhile namB).length
    · rw [if_pos h3] at h; simp at h
    · rw [if_neg h3]
      exact ⟨c, cs, r, e1, e2, e3, by show (l.takeWhile namB).length ≤ 32; omega⟩
  · rw [if_neg h1] at h ⊢
    by_cases h2 : headB digB l = true
    · rw [if_pos h2] at h ⊢
      obtain ⟨c, cs, r, e1, e2, e3⟩ := key digB db h2
      unfold digW at h ⊢
      by_cases h3 : 7 < (l.takeWhile digB).length
      · rw [if_pos h3] at h; simp at h
      · rw [if_neg h3] at h ⊢
        by_cases h4 : 1000000 < numL (l.takeWhile digB)
        · rw [if_pos h4] at h; simp at h
        · rw [if_neg h4]
          exact ⟨c, cs, r, e1, e2, e3, by show (l.takeWhile digB).length ≤ 32; omega⟩
    · rw [if_neg h2] at h ⊢
      unfold sgnW at h ⊢
      by_cases h3 : signW l = []
      · rw [if_pos h3] at h; simp at h
      · rw [if_neg h3]
        rcases signW_pre l with h4 | ⟨h4, r, h5⟩
        · exact absurd h4 h3
        obtain ⟨k1, k2, k3⟩ := signL_bytes _ h4
        cases hs : signW l with
        | nil => exact absurd hs h3
        | cons c cs =>
          refine ⟨c, cs, r, rfl, by show l = c :: cs ++ r; rw [← hs]; exact h5, ?_, ?_⟩
          · rw [List.all_eq_true]
            intro x hx
            have := (k3 x (by rw [hs]; exact hx)).1
            simp [this]
          · have : (c :: cs).length ≤ 3 := by rw [← hs]; exact k2
            exact Nat.le_trans this (by decide)
/-- A word is put. -/
theorem go_word (c : UInt8) (cs : List UInt8) (L C : Int) (hb : blkB c = false) (hr : rem2 (c :: cs) = false) (he : (wordL (c :: cs)).err = 0) :
    go 0 false L C (c :: cs) = Out.pre [at_ (wordL (c :: cs)) L C] (go 0 false L (C + (wordL (c :: cs)).text.length) ((c :: cs).drop (wordL (c :: cs)).text.length)) := by
  obtain ⟨d, ds, r, h1, h2, h3, h4⟩ := wordL_pre _ he
  have h10 : (c == 10) = false := by
    unfold blkB at hb
    simp only [Bool.or_eq_false_iff] at hb
    exact hb.2
  conv => lhs; unfold go
  simp only [h10, hr, hb, Bool.or_false, Bool.false_eq_true, if_false, he, BEq.rfl, if_true]
  congr 1
  generalize hx : (wordL (c :: cs)).text = x at *
  subst h1
  have e : c = d ∧ cs = ds ++ r := by
    rw [List.cons_append] at h2
    injection h2 with a b
    exact ⟨a, b⟩
  obtain ⟨rfl, rfl⟩ := e
  have hd : (c :: (ds ++ r)).drop (c :: ds).length = r := by rw [← List.cons_append, List.drop_left]
  rw [hd]
  show go ds.length false L (C + 1) (ds ++ r) = _
  rw [go_in]
  have hf : ∀ x ∈ ds, (x == 10) = false := by
    intro x hx
    rw [List.all_eq_true] at h3
    have := h3 x (by simp [hx])
    simp [blkB] at this
    simpa using this.2
  rw [adv_flat ds _ _ hf]
  congr 1
  simp; omega
theorem go_bad (c : UInt8) (cs : List UInt8) (L C : Int) (hb : blkB c = false) (hr : rem2 (c :: cs) = false) (he : (wordL (c :: cs)).err ≠ 0) :
    go 0 false L C (c :: cs) = .bad (wordL (c :: cs)).err L C := by
  have h10 : (c == 10) = false := by
    unfold blkB at hb
    simp only [Bool.or_eq_false_iff] at hb
    exact hb.2
  have he' : ((wordL (c :: cs)).err == 0) = false := by simpa using he
  conv => lhs; unfold go
  simp only [h10, hr, hb, Bool.or_false, Bool.false_eq_true, if_false, he']
theorem go_nil (r : Bool) (L C : Int) : go 0 r L C [] = .ok [⟨5, [], 0, L, C⟩] := by unfold go; rfl

end Go.Proofs.YtmkhfcdjgdofnaaDoor.WrdM
