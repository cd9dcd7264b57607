/- The engine of layer 5 in plain words: what its methods leave. No program. -/
import Derived.Test.YtjhopjokllkipaaTrailM
namespace Go.Proofs.Ytjhopjokllkipaa.EngM
open LitM TrailM

/-- A clause: is it there, its literals, the two that it watches, where the search goes on. -/
structure Cl where
  pr : Bool
  ls : List Int
  w0 : Int
  w1 : Int
  nx : Nat
/-- One that was removed. -/
def Cl.gone : Cl := ⟨false, [], 0, 0, 0⟩
/-- An engine: variables, what is true, clauses, loose ones, who watches, how far it was visited, levels. -/
structure Eng where
  n : Nat
  L : List Ent
  cs : List Cl
  lo : List Nat
  wa : List (List Nat)
  vi : Nat
  le : List (Nat × List Nat)
def clA (cs : List Cl) (i : Nat) : Cl := cs.getD i Cl.gone
def waA (wa : List (List Nat)) (p : Nat) : List Nat := wa.getD p []
def leA (le : List (Nat × List Nat)) (k : Nat) : Nat × List Nat := le.getD k (0, [])
def plc (l : Int) : Nat := (placeZ l).toNat

def watchF (S : Eng) (id : Nat) (l : Int) : Eng := { S with wa := S.wa.set (plc l) (waA S.wa (plc l) ++ [id]) }
def roomF (S : Eng) : Eng := { S with wa := S.wa ++ List.replicate (2 * (S.n + 1) - S.wa.length) [] }
/-- The literals that aren't false. -/
def nf (L : List Ent) (ls : List Int) : List Int := ls.filter fun l => decide (valZ L l ≠ -1)
def setF (S : Eng) (l : Int) (r : Nat) : Eng := { S with L := S.L ++ [⟨l, S.le.length, r⟩] }
/-- Does a literal do for another one to be watched? -/
def fitB (L : List Ent) (c : Cl) (l : Int) : Bool := decide (l ≠ c.w0) && decide (l ≠ c.w1) && decide (valZ L l ≠ -1)
def nextI (c : Cl) (i : Nat) : Nat := if i + 1 = c.ls.length then 0 else i + 1
/-- The search for another one: where it stops, and at which. -/
def anoF (L : List Ent) (c : Cl) : Nat → Nat → Nat × Int
  | 0, i => (i, 0)
  | k + 1, i => if fitB L c (c.ls.getD (nextI c i) 0) = true then (nextI c i, c.ls.getD (nextI c i) 0) else anoF L c k (nextI c i)
/-- Set of a literal, if it has no value. -/
def trySet (S : Eng) (l : Int) (r : Nat) : Eng := if valZ S.L l = 0 then setF S l r else S
/-- A clause that holds by a literal alone comes up again with its level. -/
def dueF (S : Eng) (id : Nat) (lv : Int) : Eng := if 0 < lv then { S with le := S.le.set (lv.toNat - 1) ((leA S.le (lv.toNat - 1)).1, (leA S.le (lv.toNat - 1)).2 ++ [id]) } else S
def fastF (S : Eng) (id : Nat) : Eng × Bool :=
  if (clA S.cs id).pr = false then (S, true)
  else match nf S.L (clA S.cs id).ls with
    | [] => (S, false)
    | [f] => (dueF (trySet S f id) id (levZ (trySet S f id).L (varZ f)), true)
    | f :: s :: _ => (watchF (watchF { S with cs := S.cs.set id { clA S.cs id with w0 := f, w1 := s } } id f) id s, true)
def settF : List Nat → Eng → Eng × Int
  | [], S => ({ S with lo := [] }, -1)
  | id :: r, S => if (fastF S id).2 = true then settF r (fastF S id).1 else ({ (fastF S id).1 with lo := id :: r }, id)
def otherW (c : Cl) (wrong : Int) : Int := if c.w0 = wrong then c.w1 else c.w0
def nextF (S : Eng) (id : Nat) : Eng := { S with cs := S.cs.set id { clA S.cs id with nx := (anoF S.L (clA S.cs id) (clA S.cs id).ls.length (clA S.cs id).nx).1 } }
def anoL (S : Eng) (id : Nat) : Int := (anoF S.L (clA S.cs id) (clA S.cs id).ls.length (clA S.cs id).nx).2
def rewatch (S : Eng) (id : Nat) (a b : Int) : Eng := { S with cs := S.cs.set id { clA S.cs id with w0 := a, w1 := b } }
def tellF (S : Eng) (id : Nat) (wrong : Int) : Eng × Int :=
  if (clA S.cs id).pr = false then (S, 1)
  else if valZ S.L (otherW (clA S.cs id) wrong) = 1 then (S, 0)
  else if anoL S id ≠ 0 then (watchF (rewatch (nextF S id) id (otherW (clA S.cs id) wrong) (anoL S id)) id (anoL S id), 1)
  else if valZ S.L (otherW (clA S.cs id) wrong) = 0 then (setF (nextF S id) (otherW (clA S.cs id) wrong) id, 0)
  else (nextF S id, 2)
/-- Those that are told, one behind the other: p their place, rest those that stay. -/
def visF (p : Nat) (wrong : Int) : List Nat → List Nat → Eng → Eng × Int
  | [], rest, S => ({ S with wa := S.wa.set p rest }, -1)
  | id :: r, rest, S =>
    if (tellF S id wrong).2 = 0 then visF p wrong r (rest ++ [id]) (tellF S id wrong).1
    else if (tellF S id wrong).2 = 2 then ({ (tellF S id wrong).1 with wa := (tellF S id wrong).1.wa.set p (rest ++ id :: r) }, id)
    else visF p wrong r rest (tellF S id wrong).1
def visitF (S : Eng) (l : Int) : Eng × Int := visF (plc (notZ l)) (notZ l) (waA S.wa (plc (notZ l))) [] S
def litA (L : List Ent) (i : Nat) : Int := (L.map Ent.l).getD i 0
def goF : Nat → Eng → Eng × Int
  | 0, S => (S, -1)
  | k + 1, S => if S.vi < S.L.length then (if (visitF S (litA S.L S.vi)).2 = -1 then goF k { (visitF S (litA S.L S.vi)).1 with vi := S.vi + 1 } else visitF S (litA S.L S.vi)) else (S, -1)
def propF (S : Eng) : Eng × Int := if (settF S.lo (roomF S)).2 = -1 then goF (S.n + 1) (settF S.lo (roomF S)).1 else settF S.lo (roomF S)
def addF (S : Eng) (ys : List Int) (both : Bool) : Eng := { S with cs := S.cs ++ [⟨true, ys, 0, 0, 0⟩], lo := if both = true then S.lo else S.lo ++ [S.cs.length] }
def removeF (S : Eng) (id : Nat) : Eng := { S with cs := S.cs.set id Cl.gone }
def decideF (S : Eng) (l : Int) : Eng := { S with L := S.L ++ [⟨l, S.le.length + 1, -1⟩], le := S.le ++ [(S.vi, [])] }
def backF (S : Eng) (k : Nat) : Eng := if k = S.le.length then S else { S with L := S.L.take (upTo S.L k), lo := S.lo ++ (S.le.drop k).flatMap Prod.snd, vi := (leA S.le k).1, le := S.le.take k }
def newE (n : Nat) : Eng := ⟨n, [], [], [], [], 0, []⟩

/-- What keeps all indexes within: of an engine whose lists have at most K items each. -/
structure Sf (S : Eng) (K : Nat) : Prop where
  n : S.n ≤ 90000
  cl : ∀ i, i < S.cs.length → (∀ x ∈ (clA S.cs i).ls, one x = true ∧ varZ x ≤ S.n) ∧ ((clA S.cs i).nx = 0 ∨ (clA S.cs i).nx < (clA S.cs i).ls.length) ∧ (clA S.cs i).ls.length ≤ 90000 ∧ ((clA S.cs i).w0 = 0 ∨ (clA S.cs i).w0 ∈ (clA S.cs i).ls) ∧ ((clA S.cs i).w1 = 0 ∨ (clA S.cs i).w1 ∈ (clA S.cs i).ls)
  cn : S.cs.length ≤ K
  lo : ∀ i ∈ S.lo, i < S.cs.length
  ln : S.lo.length ≤ K
  wa : ∀ p, p < S.wa.length → ∀ i ∈ waA S.wa p, i < S.cs.length
  wn : ∀ p, p < S.wa.length → (waA S.wa p).length ≤ K
  wl : S.wa.length ≤ 2 * (S.n + 1)
  le : ∀ k, k < S.le.length → ∀ i ∈ (leA S.le k).2, i < S.cs.length
  en : ∀ k, k < S.le.length → (leA S.le k).2.length ≤ K
  vi : S.vi ≤ S.L.length
  ok : Ok S.n S.le.length S.L
end Go.Proofs.Ytjhopjokllkipaa.EngM
