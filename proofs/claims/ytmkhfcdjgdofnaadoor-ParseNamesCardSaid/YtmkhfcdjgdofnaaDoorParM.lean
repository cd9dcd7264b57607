/- Plain facts on words read as expressions and models. No program. -/
import Derived.Test.YtmkhfcdjgdofnaaDoorTreS
namespace Go.Proofs.YtmkhfcdjgdofnaaDoor.ParM
open WrdM TreM

/-- A word within the machine's bounds. -/
structure TokOk (t : Tok) : Prop where
  text : t.text.length ≤ 32
  n0 : 0 ≤ t.num
  n1 : t.num ≤ 1000000
  l0 : 1 ≤ t.line
  l1 : t.line ≤ 70000
  c0 : 1 ≤ t.col
  c1 : t.col ≤ 70000
  k0 : 0 ≤ t.kind
  k1 : t.kind ≤ 5
/-- Words, the end as the last one, and there alone. -/
def EndsT : List Tok → Prop
  | [] => False
  | t :: r => TokOk t ∧ ((r = [] ∧ t.kind = 5 ∧ t.text = []) ∨ (t.kind ≠ 5 ∧ t.text ≠ [] ∧ EndsT r))
/-- What is read of words: the fault's place, or it and the words behind it. -/
inductive Res (α : Type) where
  | bad (line col : Int)
  | ok (x : α) (r : List Tok)
/-- That word can't stand there. -/
def failR {α : Type} : List Tok → Res α
  | [] => .bad 0 0
  | t :: _ => .bad t.line t.col
def Res.bind {α β : Type} (x : Res α) (f : α → List Tok → Res β) : Res β :=
  match x with
  | .bad l c => .bad l c
  | .ok a r => f a r
/-- The first op of n from o on whose sign is that, or 0. -/
def signO (s : List UInt8) : Nat → Int → Int
  | 0, _ => 0
  | n + 1, o => if signE o == s then o else signO s n (o + 1)
def binO (s : List UInt8) : Int := signO s 17 14
def preO (s : List UInt8) : Int := signO s 9 5
/-- How close an op of two binds; behind it; within it. -/
def bnd (o : Int) : Int := if o = 14 then 7 else if o ≤ 16 then 6 else if o ≤ 22 then 5 else if o ≤ 26 then 4 else if o = 27 then 3 else if o = 28 then 2 else if o = 29 then 1 else 0
def lwi (b : Int) : Int := if b = 1 ∨ b = 4 then b else b + 1
def mbe (b : Int) : Int := if b = 5 then 4 else b
def tru : List UInt8 := [116, 114, 117, 101]
def fal : List UInt8 := [102, 97, 108, 115, 101]
/-- A bracket that is closed behind it. -/
def closeR (x : Ex) : List Tok → Res Ex
  | [] => .bad 0 0
  | u :: r => if u.text = [41] then .ok x r else .bad u.line u.col
mutual
def exprR : Nat → Nat → Int → List Tok → Res Ex
  | 0, _, _, _ => .bad 0 0
  | n + 1, o, least, L => (prefR n o L).bind fun x r => loopR n o least 7 x r
def loopR : Nat → Nat → Int → Int → Ex → List Tok → Res Ex
  | 0, _, _, _, _, _ => .bad 0 0
  | _ + 1, _, _, _, _, [] => .bad 0 0
  | n + 1, o, least, most, x, t :: r =>
    if binO t.text = 0 ∨ bnd (binO t.text) < least ∨ most < bnd (binO t.text) then .ok x (t :: r)
    else (exprR n o (lwi (bnd (binO t.text))) r).bind fun y r2 => loopR n o least (mbe (bnd (binO t.text))) (.mk (binO t.text) 0 [] [x, y] t.line t.col) r2
def prefR : Nat → Nat → List Tok → Res Ex
  | 0, _, _ => .bad 0 0
  | _ + 1, _, [] => .bad 0 0
  | n + 1, o, t :: r =>
    if preO t.text = 0 then valueR n o (t :: r)
    else if 60 ≤ o then failR r
    else (prefR n (o + 1) r).bind fun x r2 => .ok (.mk (preO t.text) 0 [] [x] t.line t.col) r2
def valueR : Nat → Nat → List Tok → Res Ex
  | 0, _, _ => .bad 0 0
  | _ + 1, _, [] => .bad 0 0
  | n + 1, o, t :: r =>
    if t.text = [40] then
      if 60 ≤ o then failR r
      else (exprR n (o + 1) 0 r).bind closeR
    else if t.kind = 2 then .ok (.mk 1 t.num [] [] t.line t.col) r
    else if t.kind = 1 then .ok (.mk 3 0 t.text [] t.line t.col) r
    else if t.text = fal then .ok (.mk 2 0 [] [] t.line t.col) r
    else if t.text = tru then .ok (.mk 2 1 [] [] t.line t.col) r
    else .bad t.line t.col
end
def fuel (L : List Tok) : Nat := 3 * L.length + 3
/-- A whole expression: it has to be right. -/
def wholeR (L : List Tok) : Res Ex := (exprR (fuel L) 0 0 L).bind fun x r => if rightB x then .ok x r else failR L
/-- The end. -/
def endR {α : Type} (x : α) : List Tok → Res α
  | [] => .bad 0 0
  | t :: r => if t.kind = 5 then .ok x (t :: r) else .bad t.line t.col
/-- A text's answer: a fault, or what it is. -/
inductive Ans (α : Type) where
  | bad (e line col : Int)
  | ok (x : α)
def ansR {α : Type} (f : List Tok → Res α) (s : List UInt8) : Ans α :=
  match cutL s with
  | .bad e l c => .bad e l c
  | .ok ts => match (f ts).bind endR with
    | .bad l c => .bad 151 l c
    | .ok x _ => .ok x
def exprA (s : List UInt8) : Ans Ex := ansR wholeR s

/-- A sign, or a kept word, is taken. -/
def mustR (s : List UInt8) : List Tok → Res Unit
  | [] => .bad 0 0
  | t :: r => if t.text = s then .ok () r else .bad t.line t.col
def kindR (k : Int) : List Tok → Res Tok
  | [] => .bad 0 0
  | t :: r => if t.kind = k then .ok t r else .bad t.line t.col
/-- One more, of a list that has n. -/
def moreR {α : Type} (n : Nat) (one : List Tok → Res α) (L : List Tok) : Res α := if n = 32 then failR L else one L
/-- With commas between; n are there already, at least one more comes. -/
def listR {α : Type} (one : List Tok → Res α) : Nat → Nat → List Tok → Res (List α)
  | 0, _, _ => .bad 0 0
  | f + 1, n, L => (moreR n one L).bind fun x r => match r with
    | [] => .bad 0 0
    | t :: r2 => if t.text = [44] then (listR one f (n + 1) r2).bind fun xs r3 => .ok (x :: xs) r3 else .ok [x] (t :: r2)
/-- Up to a word; n are there already. -/
def manyR {α : Type} (one : List Tok → Res α) (stop : List UInt8) : Nat → Nat → List Tok → Res (List α)
  | 0, _, _ => .bad 0 0
  | _ + 1, _, [] => .bad 0 0
  | f + 1, n, t :: r => if t.text = stop then .ok [] r else (moreR n one (t :: r)).bind fun x r2 => (manyR one stop f (n + 1) r2).bind fun xs r3 => .ok (x :: xs) r3

/-- A model's parts, with their places. -/
structure EnuL where
  e : Enu
  line : Int
  col : Int
structure DclL where
  d : Dcl
  line : Int
  col : Int
structure AsgL where
  a : Asg
  line : Int
  col : Int
structure RulL where
  when_ : Ex
  do_ : List AsgL
structure PrcL where
  name : List UInt8
  rules : List RulL
  line : Int
  col : Int
structure SrcL where
  enums : List EnuL
  vars : List DclL
  procs : List PrcL
def wEnum : List UInt8 := [101, 110, 117, 109]
def wVar : List UInt8 := [118, 97, 114]
def wProc : List UInt8 := [112, 114, 111, 99, 101, 115, 115]
def wWhen : List UInt8 := [119, 104, 101, 110]
def wDo : List UInt8 := [100, 111]
def enumR (L : List Tok) : Res EnuL :=
  (mustR wEnum L).bind fun _ r => (kindR 1 r).bind fun nm r => (mustR [123] r).bind fun _ r =>
    (listR (fun L => (kindR 1 L).bind fun t r => .ok t.text r) (L.length + 1) 0 r).bind fun vs r => (mustR [125] r).bind fun _ r => .ok ⟨⟨nm.text, vs⟩, nm.line, nm.col⟩ r
def boundR (L : List Tok) : Res Int :=
  match L with
  | [] => .bad 0 0
  | t :: r => if t.text = [45] then (kindR 2 r).bind fun t r => .ok (-t.num) r else (kindR 2 (t :: r)).bind fun t r => .ok t.num r
/-- A variable's type, or range. -/
def typeR (L : List Tok) : Res (List UInt8 × Int × Int) :=
  match L with
  | [] => .bad 0 0
  | t :: r => if t.kind = 1 ∨ t.text = boolT then .ok (t.text, 0, 0) r else (boundR (t :: r)).bind fun lo r => (mustR [46, 46] r).bind fun _ r => (boundR r).bind fun hi r => .ok ([], lo, hi) r
def beginR (L : List Tok) : Res (List Ex) :=
  match L with
  | [] => .bad 0 0
  | t :: r => if t.text = [61] then (wholeR r).bind fun x r => .ok [x] r else .ok [] (t :: r)
def declR (L : List Tok) : Res DclL :=
  (mustR wVar L).bind fun _ r => (kindR 1 r).bind fun nm r => (mustR [58] r).bind fun _ r => (typeR r).bind fun t r => (beginR r).bind fun b r => (mustR [59] r).bind fun _ r =>
    .ok ⟨⟨nm.text, t.1, t.2.1, t.2.2, b⟩, nm.line, nm.col⟩ r
def asgR (L : List Tok) : Res AsgL :=
  (kindR 1 L).bind fun nm r => (mustR [58, 61] r).bind fun _ r => (wholeR r).bind fun x r => .ok ⟨⟨nm.text, x⟩, nm.line, nm.col⟩ r
def ruleR (L : List Tok) : Res RulL :=
  (mustR wWhen L).bind fun _ r => (wholeR r).bind fun x r => (mustR wDo r).bind fun _ r => (listR asgR (L.length + 1) 0 r).bind fun d r => (mustR [59] r).bind fun _ r => .ok ⟨x, d⟩ r
def procR (L : List Tok) : Res PrcL :=
  (mustR wProc L).bind fun _ r => (kindR 1 r).bind fun nm r => (mustR [123] r).bind fun _ r => (manyR ruleR [125] (L.length + 1) 0 r).bind fun rs r => .ok ⟨nm.text, rs, nm.line, nm.col⟩ r
/-- A model, part by part; the numbers of parts so far. -/
def sourceR : Nat → SrcL → List Tok → Res SrcL
  | 0, _, _ => .bad 0 0
  | _ + 1, _, [] => .bad 0 0
  | f + 1, m, t :: r =>
    if t.text = wEnum then (moreR m.enums.length enumR (t :: r)).bind fun x r => sourceR f { m with enums := m.enums ++ [x] } r
    else if t.text = wVar then (moreR m.vars.length declR (t :: r)).bind fun x r => sourceR f { m with vars := m.vars ++ [x] } r
    else if t.text = wProc then (moreR m.procs.length procR (t :: r)).bind fun x r => sourceR f { m with procs := m.procs ++ [x] } r
    else .ok m (t :: r)
def sourceA (s : List UInt8) : Ans SrcL := ansR (fun L => sourceR (L.length + 1) ⟨[], [], []⟩ L) s

/-- The chapter's example, and the law's texts. -/
theorem alive_text : (match exprA [97, 32, 43, 32, 98, 32, 42, 32, 50, 32, 61, 32, 99, 32, 38, 32, 33, 100] with | .ok x => writB x && (text x == [40, 40, 97, 32, 43, 32, 40, 98, 32, 42, 32, 50, 41, 41, 32, 61, 32, 99, 41, 32, 38, 32, 40, 33, 100, 41]) | .bad .. => false) = true := by decide +kernel
end Go.Proofs.YtmkhfcdjgdofnaaDoor.ParM
