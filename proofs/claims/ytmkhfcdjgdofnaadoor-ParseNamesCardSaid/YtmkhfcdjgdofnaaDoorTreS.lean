/- Plain facts on models: how they are written, line by line. No program. -/
import Derived.Test.YtmkhfcdjgdofnaaDoorTreM
namespace Go.Proofs.YtmkhfcdjgdofnaaDoor.TreM
open WrdM

structure Enu where
  name : List UInt8
  values : List (List UInt8)
structure Dcl where
  name : List UInt8
  type : List UInt8
  low : Int
  high : Int
  begins : List Ex
structure Asg where
  name : List UInt8
  to_ : Ex
structure Rul where
  when_ : Ex
  do_ : List Asg
structure Prc where
  name : List UInt8
  rules : List Rul
structure Src where
  enums : List Enu
  vars : List Dcl
  procs : List Prc
/-- With a comma and a blank between. -/
def joinC : List (List UInt8) → List UInt8
  | [] => []
  | [a] => a
  | a :: b :: r => a ++ [44, 32] ++ joinC (b :: r)
def enumB (e : Enu) : Bool := nameOk e.name && (decide (1 ≤ e.values.length) && (decide (e.values.length ≤ 32) && e.values.all nameOk))
def enumT (e : Enu) : List UInt8 := [101, 110, 117, 109, 32] ++ e.name ++ [32, 123, 32] ++ joinC e.values ++ [32, 125, 10]
def smallB (n : Int) : Bool := decide (-1000000 ≤ n) && decide (n ≤ 1000000)
def boolT : List UInt8 := [98, 111, 111, 108]
def declB (d : Dcl) : Bool :=
  (if d.type.isEmpty then smallB d.low && smallB d.high else decide (d.low = 0) && (decide (d.high = 0) && (d.type == boolT || nameOk d.type))) &&
    (decide (d.begins.length ≤ 1) && (nameOk d.name && d.begins.all writB))
def declT (d : Dcl) : List UInt8 :=
  [118, 97, 114, 32] ++ d.name ++ [32, 58, 32] ++ (if d.type.isEmpty then Lib.itoa d.low ++ [46, 46] ++ Lib.itoa d.high else d.type) ++ d.begins.flatMap (fun x => [32, 61, 32] ++ text x) ++ [59, 10]
def asgB (a : Asg) : Bool := nameOk a.name && writB a.to_
def asgT (a : Asg) : List UInt8 := a.name ++ [32, 58, 61, 32] ++ text a.to_
def ruleB (r : Rul) : Bool := writB r.when_ && (decide (1 ≤ r.do_.length) && (decide (r.do_.length ≤ 32) && r.do_.all asgB))
def ruleT (r : Rul) : List UInt8 := [32, 32, 119, 104, 101, 110, 32] ++ text r.when_ ++ [32, 100, 111, 32] ++ joinC (r.do_.map asgT) ++ [59, 10]
def procB (p : Prc) : Bool := nameOk p.name && (decide (p.rules.length ≤ 32) && p.rules.all ruleB)
def procT (p : Prc) : List UInt8 := [112, 114, 111, 99, 101, 115, 115, 32] ++ p.name ++ [32, 123, 10] ++ p.rules.flatMap ruleT ++ [125, 10]
def srcB (m : Src) : Bool :=
  decide (m.enums.length ≤ 32) && (decide (m.vars.length ≤ 32) && (decide (m.procs.length ≤ 32) && (m.enums.all enumB && (m.vars.all declB && m.procs.all procB))))
def srcT (m : Src) : List UInt8 := m.enums.flatMap enumT ++ m.vars.flatMap declT ++ m.procs.flatMap procT
/-- How many lines a model has. -/
def srcN (m : Src) : Nat := m.enums.length + m.vars.length + 2 * m.procs.length + (m.procs.map (fun p => p.rules.length)).sum

/-- Without a line end. -/
def Flat (l : List UInt8) : Prop := ∀ c ∈ l, c ≠ 10
theorem Flat.count {l : List UInt8} (h : Flat l) : l.count 10 = 0 := by
  rw [List.count_eq_zero]; exact fun e => h 10 e rfl
theorem Flat.nil : Flat [] := fun c h => by cases h
theorem Flat.app {a b : List UInt8} (h : Flat a) (k : Flat b) : Flat (a ++ b) := fun c hc => (List.mem_append.1 hc).elim (h c) (k c)
theorem flat_name {s : List UInt8} (h : nameOk s = true) : Flat s := by
  intro c hc e
  unfold nameOk at h
  simp only [Bool.and_eq_true] at h
  have := List.all_eq_true.1 h.2.2.1 c hc
  rw [e] at this
  exact absurd this (by decide)
theorem dg_flat : ∀ (u : Nat), ∀ c ∈ Lib.decDigits u, c = 45 ∨ (48 ≤ c.toNat ∧ c.toNat ≤ 57) := by
  intro u
  induction u using Nat.strongRecOn with
  | ind u ih =>
    intro c hc
    by_cases hs : u < 10
    · rw [Lib.decDigits_one hs] at hc
      have : c = UInt8.ofNat (48 + u) := by simpa using hc
      right
      rw [this, UInt8.toNat_ofNat']
      omega
    · rw [Lib.decDigits, dif_neg hs] at hc
      rcases List.mem_append.1 hc with hc | hc
      · exact ih (u / 10) (by omega) c hc
      · have : c = UInt8.ofNat (48 + u % 10) := by simpa using hc
        right
        rw [this, UInt8.toNat_ofNat']
        omega
theorem itoa_bytes (n : Int) : ∀ c ∈ Lib.itoa n, c = 45 ∨ (48 ≤ c.toNat ∧ c.toNat ≤ 57) := by
  intro c hc
  unfold Lib.itoa at hc
  split at hc
  · rcases List.mem_cons.1 hc with hc | hc
    · exact .inl hc
    · exact dg_flat _ c hc
  · exact dg_flat _ c hc
theorem flat_itoa (n : Int) : Flat (Lib.itoa n) := by
  intro c hc e
  rcases itoa_bytes n c hc with h | h
  · rw [e] at h; exact absurd h (by decide)
  · rw [e] at h
    have : (10 : UInt8).toNat = 10 := rfl
    omega
theorem flat_lit {l : List UInt8} (h : l.all (fun c => !(c == 10)) = true) : Flat l := by
  intro c hc e
  have := List.all_eq_true.1 h c hc
  rw [e] at this
  exact absurd this (by decide)
theorem flat_sign (op : Int) : Flat (signE op) := by
  unfold signE
  split
  · have h : ∀ y ∈ signT, y.all (fun c => !(c == 10)) = true := by decide
    rw [List.getD_eq_getElem?_getD]
    cases hx : signT[op.toNat - 5]? with
    | none => exact Flat.nil
    | some y => exact flat_lit (h y (List.mem_of_getElem? hx))
  · exact Flat.nil
theorem flat_text : ∀ x, shape x = true → Flat (text x) := by
  apply Ex.ind (P := fun x => shape x = true → Flat (text x))
  intro o n s ks l c ih h
  rw [shape, Bool.and_eq_true] at h
  have hk := (shapeL_mem ks).1 h.2
  have hin : ∀ k ∈ ks, Flat (inner k) := fun k hk' => by
    rw [inner_eq]
    split
    · exact ih k hk' (hk k hk')
    · exact ((flat_lit (by decide)).app (ih k hk' (hk k hk'))).app (flat_lit (by decide))
  rw [text]
  have h1 := h.1
  unfold ownB at h1
  simp only [Bool.and_eq_true, decide_eq_true_eq] at h1
  match ks, hin, h1 with
  | [a, b], hin, _ =>
    rw [textK]
    exact ((((hin a (by simp)).app (flat_lit (by decide))).app (flat_sign o)).app (flat_lit (by decide))).app (hin b (by simp))
  | [a], hin, _ =>
    rw [textK]
    split
    · exact ((flat_sign o).app (flat_lit (by decide))).app (hin a (by simp))
    · exact (flat_sign o).app (hin a (by simp))
  | [], _, h1 =>
    rw [textK]
    · split
      · exact flat_itoa n
      · split
        · split <;> exact flat_lit (by decide)
        · rename_i h1o h2o
          rcases (Bool.or_eq_true _ _).mp h1.2.1 with h3 | h3
          · have h3' : o = 3 := by simpa using h3
            have h4 := h1.2.2
            rw [if_neg h1o, if_neg h2o, if_pos h3', Bool.and_eq_true] at h4
            exact flat_name h4.2
          · rw [List.isEmpty_iff.1 h3]; exact Flat.nil
    all_goals (intros; contradiction)
  | a :: b :: d :: r, _, h1 =>
    exfalso
    have := kidsN_le o
    have := h1.1
    simp at this
    omega
theorem writ_shape {x : Ex} (h : writB x = true) : shape x = true := by
  unfold writB rightB at h
  simp only [Bool.and_eq_true] at h
  exact h.1.2
theorem flat_joinC : ∀ (l : List (List UInt8)), (∀ a ∈ l, Flat a) → Flat (joinC l)
  | [], _ => Flat.nil
  | [a], h => h a (by simp)
  | a :: b :: r, h => ((h a (by simp)).app (flat_lit (by decide))).app (flat_joinC (b :: r) (fun x hx => h x (by simp [hx])))
theorem count_line {a : List UInt8} (h : Flat a) : (a ++ [10]).count 10 = 1 := by
  rw [List.count_append, h.count]; rfl
theorem count_flat {α : Type} (f : α → List UInt8) (g : α → Nat) : ∀ l : List α, (∀ x ∈ l, (f x).count 10 = g x) → (l.flatMap f).count 10 = (l.map g).sum
  | [], _ => rfl
  | x :: xs, h => by
    rw [List.flatMap_cons, List.count_append, h x (by simp), count_flat f g xs (fun y hy => h y (by simp [hy])), List.map_cons, List.sum_cons]
theorem sum_ones {α : Type} (l : List α) (k : Nat) : (l.map (fun _ => k)).sum = k * l.length := by
  induction l with
  | nil => rfl
  | cons x xs ih => rw [List.map_cons, List.sum_cons, ih, List.length_cons, Nat.mul_add, Nat.mul_one, Nat.add_comm]
theorem enum_line {e : Enu} (h : enumB e = true) : (enumT e).count 10 = 1 := by
  unfold enumB at h
  simp only [Bool.and_eq_true] at h
  have hf : Flat ([101, 110, 117, 109, 32] ++ e.name ++ [32, 123, 32] ++ joinC e.values ++ [32, 125]) :=
    ((((flat_lit (by decide)).app (flat_name h.1)).app (flat_lit (by decide))).app (flat_joinC _ fun a ha => flat_name (List.all_eq_true.1 h.2.2.2 a ha))).app (flat_lit (by decide))
  have := count_line hf
  unfold enumT
  rw [← this]
  simp [List.append_assoc]
theorem flat_flatMap {α : Type} (f : α → List UInt8) : ∀ l : List α, (∀ x ∈ l, Flat (f x)) → Flat (l.flatMap f)
  | [], _ => Flat.nil
  | x :: xs, h => by rw [List.flatMap_cons]; exact (h x (by simp)).app (flat_flatMap f xs fun y hy => h y (by simp [hy]))
theorem decl_line {d : Dcl} (h : declB d = true) : (declT d).count 10 = 1 := by
  unfold declB at h
  simp only [Bool.and_eq_true] at h
  have ht : Flat (if d.type.isEmpty then Lib.itoa d.low ++ [46, 46] ++ Lib.itoa d.high else d.type) := by
    split
    · exact ((flat_itoa _).app (flat_lit (by decide))).app (flat_itoa _)
    · rename_i hne
      have h1 := h.1
      rw [if_neg hne] at h1
      simp only [Bool.and_eq_true, Bool.or_eq_true] at h1
      rcases h1.2.2 with h2 | h2
      · have : d.type = boolT := by simpa using h2
        rw [this]; exact flat_lit (by decide)
      · exact flat_name h2
  have hf : Flat ([118, 97, 114, 32] ++ d.name ++ [32, 58, 32] ++ (if d.type.isEmpty then Lib.itoa d.low ++ [46, 46] ++ Lib.itoa d.high else d.type) ++ d.begins.flatMap (fun x => [32, 61, 32] ++ text x) ++ [59]) :=
    (((((flat_lit (by decide)).app (flat_name h.2.2.1)).app (flat_lit (by decide))).app ht).app (flat_flatMap _ _ fun x hx => (flat_lit (by decide)).app (flat_text x (writ_shape (List.all_eq_true.1 h.2.2.2 x hx))))).app (flat_lit (by decide))
  have := count_line hf
  unfold declT
  rw [← this]
  simp [List.append_assoc]
theorem rule_line {r : Rul} (h : ruleB r = true) : (ruleT r).count 10 = 1 := by
  unfold ruleB at h
  simp only [Bool.and_eq_true] at h
  have hf : Flat ([32, 32, 119, 104, 101, 110, 32] ++ text r.when_ ++ [32, 100, 111, 32] ++ joinC (r.do_.map asgT) ++ [59]) :=
    ((((flat_lit (by decide)).app (flat_text _ (writ_shape h.1))).app (flat_lit (by decide))).app (flat_joinC _ fun a ha => by
      obtain ⟨y, hy, rfl⟩ := List.mem_map.1 ha
      have h2 := List.all_eq_true.1 h.2.2.2 y hy
      unfold asgB at h2
      rw [Bool.and_eq_true] at h2
      exact ((flat_name h2.1).app (flat_lit (by decide))).app (flat_text _ (writ_shape h2.2)))).app (flat_lit (by decide))
  have := count_line hf
  unfold ruleT
  rw [← this]
  simp [List.append_assoc]
theorem proc_lines {p : Prc} (h : procB p = true) : (procT p).count 10 = 2 + p.rules.length := by
  unfold procB at h
  simp only [Bool.and_eq_true] at h
  have h1 : ([112, 114, 111, 99, 101, 115, 115, 32] ++ p.name ++ [32, 123] ++ [10]).count 10 = 1 := count_line (((flat_lit (by decide)).app (flat_name h.1)).app (flat_lit (by decide)))
  have h2 := count_flat ruleT (fun _ => 1) p.rules (fun r hr => rule_line (List.all_eq_true.1 h.2.2 r hr))
  rw [sum_ones, Nat.one_mul] at h2
  have h3 : procT p = ([112, 114, 111, 99, 101, 115, 115, 32] ++ p.name ++ [32, 123] ++ [10]) ++ p.rules.flatMap ruleT ++ [125, 10] := by unfold procT; simp [List.append_assoc]
  rw [h3, List.count_append, List.count_append, h1, h2]
  show 1 + _ + 1 = _
  omega
/-- As many lines. -/
theorem src_lines {m : Src} (h : srcB m = true) : (srcT m).count 10 = srcN m := by
  unfold srcB at h
  simp only [Bool.and_eq_true] at h
  obtain ⟨_, _, _, h1, h2, h3⟩ := h
  have e1 := count_flat enumT (fun _ => 1) m.enums (fun x hx => enum_line (List.all_eq_true.1 h1 x hx))
  have e2 := count_flat declT (fun _ => 1) m.vars (fun x hx => decl_line (List.all_eq_true.1 h2 x hx))
  have e3 := count_flat procT (fun p => 2 + p.rules.length) m.procs (fun x hx => proc_lines (List.all_eq_true.1 h3 x hx))
  have e4 : ∀ l : List Prc, (l.map (fun p => 2 + p.rules.length)).sum = 2 * l.length + (l.map (fun p => p.rules.length)).sum := by
    intro l
    induction l with
    | nil => rfl
    | cons x xs ih => simp only [List.map_cons, List.sum_cons, List.length_cons, ih]; omega
  unfold srcT srcN
  rw [List.count_append, List.count_append, e1, e2, e3, sum_ones, sum_ones, e4]
  omega

/-! Where a thing stands; of a part and the whole. -/
theorem size_place (o n : Int) (s : List UInt8) (ks : List Ex) (l c l' c' : Int) : size (.mk o n s ks l c) = size (.mk o n s ks l' c') := by rw [size, size]
theorem deep_place (o n : Int) (s : List UInt8) (ks : List Ex) (l c l' c' : Int) : deep (.mk o n s ks l c) = deep (.mk o n s ks l' c') := by rw [deep, deep]
theorem writ_place (o n : Int) (s : List UInt8) (ks : List Ex) (l c l' c' : Int) : writB (.mk o n s ks l c) = writB (.mk o n s ks l' c') := by
  unfold writB rightB
  rw [deep_place o n s ks l c l' c', shape, shape, hasOp, hasOp]
theorem same_place (o n : Int) (s : List UInt8) (ks : List Ex) (l c l' c' : Int) : same (.mk o n s ks l c) (.mk o n s ks l' c') = true := by
  have h := same_refl (.mk o n s ks l c)
  rw [same] at h ⊢
  exact h
theorem same_not {x y : Ex} (h : size x < size y) : same x y = false := by
  rw [Bool.eq_false_iff]
  intro e
  have := same_size x y e
  omega
theorem size_not (x : Ex) (l c : Int) : size (.mk 6 0 [] [x] l c) = size x + 1 := by simp only [size, sizeL]; omega
theorem size_and (x y : Ex) (l c : Int) : size (.mk 27 0 [] [x, y] l c) = size x + size y + 1 := by simp only [size, sizeL]; omega
theorem text_not (x : Ex) (l c : Int) : text (.mk 6 0 [] [x] l c) = [33] ++ inner x := by
  rw [text, textK, if_neg (by decide)]; rfl
theorem writ_not (x : Ex) (l c : Int) (h : writB (.mk 6 0 [] [x] l c) = true) : writB x = true := by
  unfold writB rightB at h ⊢
  simp only [Bool.and_eq_true, decide_eq_true_eq, Bool.not_eq_true'] at h ⊢
  obtain ⟨⟨h1, h2⟩, h3⟩ := h
  rw [deep] at h1
  rw [shape, Bool.and_eq_true] at h2
  rw [hasOp, Bool.or_eq_false_iff] at h3
  simp only [deepL] at h1
  have h4 := (shapeL_mem [x]).1 h2.2 x (by simp)
  have h5 := (hasL_mem 4 [x]).1 h3.2 x (by simp)
  exact ⟨⟨by omega, h4⟩, h5⟩
theorem own_and : ownB 27 0 [] 2 = true := by decide
theorem right_and (x y : Ex) (l c : Int) (h : rightB (.mk 27 0 [] [x, y] l c) = true) : rightB x = true ∧ rightB y = true :=
  ⟨right_kid h (by simp [Ex.kids]), right_kid h (by simp [Ex.kids])⟩
theorem writ_and (x y : Ex) (l c : Int) : writB (.mk 27 0 [] [x, y] l c) = true ↔ writB x = true ∧ writB y = true ∧ deep (.mk 27 0 [] [x, y] l c) ≤ 60 := by
  unfold writB rightB
  simp only [Bool.and_eq_true, decide_eq_true_eq, Bool.not_eq_true']
  have e1 : deep (.mk 27 0 [] [x, y] l c) = max (deep x) (deep y) + 1 := by simp only [deep, deepL]; omega
  have e2 : shape (.mk 27 0 [] [x, y] l c) = (shape x && shape y) := by
    rw [shape]
    simp only [shapeL, List.length_cons, List.length_nil]
    rw [own_and]; simp
  have e3 : hasOp 4 (.mk 27 0 [] [x, y] l c) = (hasOp 4 x || hasOp 4 y) := by
    rw [hasOp]
    simp only [hasL, Bool.or_false]
    rw [decide_eq_false (by decide), Bool.false_or]
  rw [e1, e2, e3, Bool.and_eq_true, Bool.or_eq_false_iff]
  constructor
  · rintro ⟨⟨h1, h2, h3⟩, h4, h5⟩
    exact ⟨⟨⟨by omega, h2⟩, h4⟩, ⟨⟨by omega, h3⟩, h5⟩, h1⟩
  · rintro ⟨⟨⟨_, h2⟩, h4⟩, ⟨⟨_, h3⟩, h5⟩, h6⟩
    exact ⟨⟨h6, h2, h3⟩, h4, h5⟩
theorem text_and (x y : Ex) (l c : Int) : 2 < (text (.mk 27 0 [] [x, y] l c)).length := by
  rw [text, textK]
  have : signE 27 = [38] := by decide
  simp only [List.length_append, this, List.length_cons, List.length_nil]
  omega
end Go.Proofs.YtmkhfcdjgdofnaaDoor.TreM
