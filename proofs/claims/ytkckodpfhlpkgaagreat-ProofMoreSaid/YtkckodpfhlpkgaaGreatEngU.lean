/- The engine of layer 5 in plain words: what its methods leave. No program. The memory of an engine of layer 5: its block, its trail, its rows and their rows, each block of which has one owner. What becomes of an engine's memory by a step: a row that grew, a cell that was written, the trail that changed. -/
import Derived.Test.YtkckodpfhlpkgaaGreatTrailM
import Derived.Test.YtkckodpfhlpkgaaGreatTrailT
namespace Go.Proofs.YtkckodpfhlpkgaaGreat.EngM
open LitM TrailM

/-- A clause: is it there, its literals, the two that it watches, where the search goes on. -/
structure Cl where
  pr : Bool
  ls : List Int
  w0 : Int
  w1 : Int
  nx : Nat
/-- One that was removed. -/
def Cl.gone : Cl := ⟨false, [], 0, 0, 0⟩
/-- An engine: variables, what is true, clauses, loose ones, who watches, how far it was visited, levels. -/
structure Eng where
  n : Nat
  L : List Ent
  cs : List Cl
  lo : List Nat
  wa : List (List Nat)
  vi : Nat
  le : List (Nat × List Nat)
def clA (cs : List Cl) (i : Nat) : Cl := cs.getD i Cl.gone
def waA (wa : List (List Nat)) (p : Nat) : List Nat := wa.getD p []
def leA (le : List (Nat × List Nat)) (k : Nat) : Nat × List Nat := le.getD k (0, [])
def plc (l : Int) : Nat := (placeZ l).toNat

def watchF (S : Eng) (id : Nat) (l : Int) : Eng := { S with wa := S.wa.set (plc l) (waA S.wa (plc l) ++ [id]) }
def roomF (S : Eng) : Eng := { S with wa := S.wa ++ List.replicate (2 * (S.n + 1) - S.wa.length) [] }
/-- The literals that aren't false. -/
def nf (L : List Ent) (ls : List Int) : List Int := ls.filter fun l => decide (valZ L l ≠ -1)
def setF (S : Eng) (l : Int) (r : Nat) : Eng := { S with L := S.L ++ [⟨l, S.le.length, r⟩] }
/-- Does a literal do for another one to be watched? -/
def fitB (L : List Ent) (c : Cl) (l : Int) : Bool := decide (l ≠ c.w0) && decide (l ≠ c.w1) && decide (valZ L l ≠ -1)
def nextI (c : Cl) (i : Nat) : Nat := if i + 1 = c.ls.length then 0 else i + 1
/-- The search for another one: where it stops, and at which. -/
def anoF (L : List Ent) (c : Cl) : Nat → Nat → Nat × Int
  | 0, i => (i, 0)
  | k + 1, i => if fitB L c (c.ls.getD (nextI c i) 0) = true then (nextI c i, c.ls.getD (nextI c i) 0) else anoF L c k (nextI c i)
/-- Set of a literal, if it has no value. -/
def trySet (S : Eng) (l : Int) (r : Nat) : Eng := if valZ S.L l = 0 then setF S l r else S
/-- A clause that holds by a literal alone comes up again with its level. -/
def dueF (S : Eng) (id : Nat) (lv : Int) : Eng := if 0 < lv then { S with le := S.le.set (lv.toNat - 1) ((leA S.le (lv.toNat - 1)).1, (leA S.le (lv.toNat - 1)).2 ++ [id]) } else S
def fastF (S : Eng) (id : Nat) : Eng × Bool :=
  if (clA S.cs id).pr = false then (S, true)
  else match nf S.L (clA S.cs id).ls with
    | [] => (S, false)
    | [f] => (dueF (trySet S f id) id (levZ (trySet S f id).L (varZ f)), true)
    | f :: s :: _ => (watchF (watchF { S with cs := S.cs.set id { clA S.cs id with w0 := f, w1 := s } } id f) id s, true)
def settF : List Nat → Eng → Eng × Int
  | [], S => ({ S with lo := [] }, -1)
  | id :: r, S => if (fastF S id).2 = true then settF r (fastF S id).1 else ({ (fastF S id).1 with lo := id :: r }, id)
def otherW (c : Cl) (wrong : Int) : Int := if c.w0 = wrong then c.w1 else c.w0
def nextF (S : Eng) (id : Nat) : Eng := { S with cs := S.cs.set id { clA S.cs id with nx := (anoF S.L (clA S.cs id) (clA S.cs id).ls.length (clA S.cs id).nx).1 } }
def anoL (S : Eng) (id : Nat) : Int := (anoF S.L (clA S.cs id) (clA S.cs id).ls.length (clA S.cs id).nx).2
def rewatch (S : Eng) (id : Nat) (a b : Int) : Eng := { S with cs := S.cs.set id { clA S.cs id with w0 := a, w1 := b } }
def tellF (S : Eng) (id : Nat) (wrong : Int) : Eng × Int :=
  if (clA S.cs id).pr = false then (S, 1)
  else if valZ S.L (otherW (clA S.cs id) wrong) = 1 then (S, 0)
  else if anoL S id ≠ 0 then (watchF (rewatch (nextF S id) id (otherW (clA S.cs id) wrong) (anoL S id)) id (anoL S id), 1)
  else if valZ S.L (otherW (clA S.cs id) wrong) = 0 then (setF (nextF S id) (otherW (clA S.cs id) wrong) id, 0)
  else (nextF S id, 2)
/-- Those that are told, one behind the other: p their place, rest those that stay. -/
def visF (p : Nat) (wrong : Int) : List Nat → List Nat → Eng → Eng × Int
  | [], rest, S => ({ S with wa := S.wa.set p rest }, -1)
  | id :: r, rest, S =>
    if (tellF S id wrong).2 = 0 then visF p wrong r (rest ++ [id]) (tellF S id wrong).1
    else if (tellF S id wrong).2 = 2 then ({ (tellF S id wrong).1 with wa := (tellF S id wrong).1.wa.set p (rest ++ id :: r) }, id)
    else visF p wrong r rest (tellF S id wrong).1
def visitF (S : Eng) (l : Int) : Eng × Int := visF (plc (notZ l)) (notZ l) (waA S.wa (plc (notZ l))) [] S
def litA (L : List Ent) (i : Nat) : Int := (L.map Ent.l).getD i 0
def goF : Nat → Eng → Eng × Int
  | 0, S => (S, -1)
  | k + 1, S => if S.vi < S.L.length then (if (visitF S (litA S.L S.vi)).2 = -1 then goF k { (visitF S (litA S.L S.vi)).1 with vi := S.vi + 1 } else visitF S (litA S.L S.vi)) else (S, -1)
def propF (S : Eng) : Eng × Int := if (settF S.lo (roomF S)).2 = -1 then goF (S.n + 1) (settF S.lo (roomF S)).1 else settF S.lo (roomF S)
def addF (S : Eng) (ys : List Int) (both : Bool) : Eng := { S with cs := S.cs ++ [⟨true, ys, 0, 0, 0⟩], lo := if both = true then S.lo else S.lo ++ [S.cs.length] }
def removeF (S : Eng) (id : Nat) : Eng := { S with cs := S.cs.set id Cl.gone }
def decideF (S : Eng) (l : Int) : Eng := { S with L := S.L ++ [⟨l, S.le.length + 1, -1⟩], le := S.le ++ [(S.vi, [])] }
def backF (S : Eng) (k : Nat) : Eng := if k = S.le.length then S else { S with L := S.L.take (upTo S.L k), lo := S.lo ++ (S.le.drop k).flatMap Prod.snd, vi := (leA S.le k).1, le := S.le.take k }
def newE (n : Nat) : Eng := ⟨n, [], [], [], [], 0, []⟩

/-- What keeps all indexes within: of an engine whose lists have at most K items each. -/
structure Sf (S : Eng) (K : Nat) : Prop where
  n : S.n ≤ 90000
  cl : ∀ i, i < S.cs.length → (∀ x ∈ (clA S.cs i).ls, one x = true ∧ varZ x ≤ S.n) ∧ ((clA S.cs i).nx = 0 ∨ (clA S.cs i).nx < (clA S.cs i).ls.length) ∧ (clA S.cs i).ls.length ≤ 90000 ∧ ((clA S.cs i).w0 = 0 ∨ (clA S.cs i).w0 ∈ (clA S.cs i).ls) ∧ ((clA S.cs i).w1 = 0 ∨ (clA S.cs i).w1 ∈ (clA S.cs i).ls)
  cn : S.cs.length ≤ K
  lo : ∀ i ∈ S.lo, i < S.cs.length
  ln : S.lo.length ≤ K
  wa : ∀ p, p < S.wa.length → ∀ i ∈ waA S.wa p, i < S.cs.length
  wn : ∀ p, p < S.wa.length → (waA S.wa p).length ≤ K
  wl : S.wa.length ≤ 2 * (S.n + 1)
  le : ∀ k, k < S.le.length → ∀ i ∈ (leA S.le k).2, i < S.cs.length
  en : ∀ k, k < S.le.length → (leA S.le k).2.length ≤ K
  vi : S.vi ≤ S.L.length
  ok : Ok S.n S.le.length S.L
end Go.Proofs.YtkckodpfhlpkgaaGreat.EngM
namespace Go.Proofs.YtkckodpfhlpkgaaGreat
open Go.RowKit LitM TrailM EngM

/-- Who owns a block. -/
inductive Owner where
  | no | eng | trail | cls | loose | wrow | lrow
  | lits (i : Nat) | wl (p : Nat) | ll (k : Nat)

/-- A row with its owner. -/
def Part (w : World) (own : Nat → Owner) (o : Owner) (T : TypeId) (k : Nat) (A : Option Addr) (n c : Nat) (f : Nat → Value) : Prop :=
  SlV T k w A n c f ∧ ∀ j, onB A j → own j = o
/-- Only the blocks of O's owners are other ones; what was owned has its owner still. -/
structure Chg (O : Owner → Prop) (own own' : Nat → Owner) (w w' : World) : Prop where
  kf : Kf (fun k => O (own k)) w w'
  old : ∀ k, k < w.heap.size → own' k = own k
  fr : ∀ k, w'.heap.size ≤ k → own' k = .no
section
variable {w w' : World} {own own' : Nat → Owner} {o : Owner} {O : Owner → Prop} {T : TypeId} {k n c : Nat} {A : Option Addr} {f : Nat → Value}
theorem Part.kept (h : Part w own o T k A n c f) (hc : Chg O own own' w w') (hne : ¬ O o) : Part w' own' o T k A n c f :=
  ⟨h.1.same fun j hj => hc.kf.block j (h.1.lt j hj) (fun e => hne (by rw [← h.2 j hj]; exact e)), fun j hj => by rw [hc.old j (h.1.lt j hj)]; exact h.2 j hj⟩
theorem Part.same (h : Part w own o T k A n c f) (hk : ∀ j, own j = o → w'.heap[j]? = w.heap[j]?) : Part w' own o T k A n c f :=
  ⟨h.1.same fun j hj => hk j (h.2 j hj), h.2⟩
theorem Part.congr {f' : Nat → Value} (h : Part w own o T k A n c f) (e : ∀ j, j < n * k → f' j = f j) : Part w own o T k A n c f' := ⟨h.1.congr e, h.2⟩
theorem Part.nil (w : World) (own : Nat → Owner) (o : Owner) (T : TypeId) (k : Nat) (f : Nat → Value) : Part w own o T k none 0 0 f := ⟨SlV.nil T k w f, fun j hj => absurd hj (onB_none j)⟩
end

/-- What the rows read. -/
def natC (l : List Nat) (j : Nat) : Value := .int .i64 (l.getD j 0 : Nat)
def clC (cs : List Cl) (Lc : Nat → Option Addr × Nat) (j : Nat) : Value :=
  if j % 5 = 0 then .bool (clA cs (j / 5)).pr else if j % 5 = 1 then .slice (Lc (j / 5)).1 (clA cs (j / 5)).ls.length (Lc (j / 5)).2
  else if j % 5 = 2 then .int .i32 (clA cs (j / 5)).w0 else if j % 5 = 3 then .int .i32 (clA cs (j / 5)).w1 else .int .i64 ((clA cs (j / 5)).nx : Nat)
def waC (wa : List (List Nat)) (Wb : Nat → Option Addr × Nat) (j : Nat) : Value := .slice (Wb j).1 (waA wa j).length (Wb j).2
def leC (le : List (Nat × List Nat)) (Le : Nat → Option Addr × Nat) (j : Nat) : Value :=
  if j % 2 = 0 then .int .i64 ((leA le (j / 2)).1 : Nat) else .slice (Le (j / 2)).1 (leA le (j / 2)).2.length (Le (j / 2)).2
def lsC (ls : List Int) (j : Nat) : Value := .int .i32 (ls.getD j 0)
section
variable (cs : List Cl) (le : List (Nat × List Nat)) (Lc : Nat → Option Addr × Nat) (i : Nat)
theorem clC0 : clC cs Lc (i * 5) = .bool (clA cs i).pr := by
  unfold clC; rw [if_pos (by omega), show i * 5 / 5 = i from by omega]
theorem clC1 : clC cs Lc (i * 5 + 1) = .slice (Lc i).1 (clA cs i).ls.length (Lc i).2 := by
  unfold clC; rw [if_neg (by omega), if_pos (by omega), show (i * 5 + 1) / 5 = i from by omega]
theorem clC2 : clC cs Lc (i * 5 + 2) = .int .i32 (clA cs i).w0 := by
  unfold clC; rw [if_neg (by omega), if_neg (by omega), if_pos (by omega), show (i * 5 + 2) / 5 = i from by omega]
theorem clC3 : clC cs Lc (i * 5 + 3) = .int .i32 (clA cs i).w1 := by
  unfold clC; rw [if_neg (by omega), if_neg (by omega), if_neg (by omega), if_pos (by omega), show (i * 5 + 3) / 5 = i from by omega]
theorem clC4 : clC cs Lc (i * 5 + 4) = .int .i64 ((clA cs i).nx : Nat) := by
  unfold clC; rw [if_neg (by omega), if_neg (by omega), if_neg (by omega), if_neg (by omega), show (i * 5 + 4) / 5 = i from by omega]
theorem leC0 : leC le Lc (i * 2) = .int .i64 ((leA le i).1 : Nat) := by
  unfold leC; rw [if_pos (by omega), show i * 2 / 2 = i from by omega]
theorem leC1 : leC le Lc (i * 2 + 1) = .slice (Lc i).1 (leA le i).2.length (Lc i).2 := by
  unfold leC; rw [if_neg (by omega), show (i * 2 + 1) / 2 = i from by omega]
end

/-- Where an engine's things lie. -/
structure Pm where
  own : Nat → Owner
  bt : Nat
  Ac : Option Addr
  cc : Nat
  Al : Option Addr
  cl : Nat
  Aw : Option Addr
  cw : Nat
  Ae : Option Addr
  ce : Nat
  Lc : Nat → Option Addr × Nat
  Wb : Nat → Option Addr × Nat
  Le : Nat → Option Addr × Nat
def headV (q : Pm) (S : Eng) : Array Value :=
  #[.pointer (some ⟨q.bt, 0, none⟩), .slice q.Ac S.cs.length q.cc, .slice q.Al S.lo.length q.cl, .slice q.Aw S.wa.length q.cw, .int .i64 (S.vi : Nat), .slice q.Ae S.le.length q.ce]

/-- An engine at block b, whose trail is d levels deep. -/
structure E6 (w : World) (b : Nat) (q : Pm) (S : Eng) (d : Nat) : Prop where
  head : w.heap[b]? = some (.cells (headV q S) 81 (0, 0))
  ob : q.own b = .eng
  tr : ∃ F, TrailAt w q.bt F S.n d S.L ∧ ∀ k, F k → q.own k = .trail
  cl : Part w q.own .cls 112 5 q.Ac S.cs.length q.cc (clC S.cs q.Lc)
  lc : ∀ i, i < S.cs.length → Part w q.own (.lits i) 34 1 (q.Lc i).1 (clA S.cs i).ls.length (q.Lc i).2 (lsC (clA S.cs i).ls)
  lo : Part w q.own .loose 3 1 q.Al S.lo.length q.cl (natC S.lo)
  wa : Part w q.own .wrow 37 1 q.Aw S.wa.length q.cw (waC S.wa q.Wb)
  wb : ∀ p, p < S.wa.length → Part w q.own (.wl p) 3 1 (q.Wb p).1 (waA S.wa p).length (q.Wb p).2 (natC (waA S.wa p))
  le : Part w q.own .lrow 91 2 q.Ae S.le.length q.ce (leC S.le q.Le)
  lb : ∀ k, k < S.le.length → Part w q.own (.ll k) 3 1 (q.Le k).1 (leA S.le k).2.length (q.Le k).2 (natC (leA S.le k).2)
  fr : ∀ k, w.heap.size ≤ k → q.own k = .no
/-- What a call leaves of all else. -/
structure Ext (q q' : Pm) (w w' : World) : Prop where
  old : ∀ k, k < w.heap.size → q'.own k = q.own k
  kf : Kf (fun k => q.own k ≠ .no) w w'
  bt : q'.bt = q.bt
theorem Ext.refl (q : Pm) (w : World) : Ext q q w w := ⟨fun _ _ => rfl, Kf.refl _ _, rfl⟩
theorem Ext.trans {q q1 q2 : Pm} {w w1 w2 : World} (h : Ext q q1 w w1) (k : Ext q1 q2 w1 w2) : Ext q q2 w w2 :=
  ⟨fun j hj => (k.old j (Nat.lt_of_lt_of_le hj h.kf.size)).trans (h.old j hj),
   h.kf.trans k.kf (fun x hx => by
     rcases Nat.lt_or_ge x w.heap.size with e | e
     · exact .inl (by rw [← h.old x e]; exact hx)
     · exact .inr e), k.bt.trans h.bt⟩

section
variable {w w' : World} {b d : Nat} {q : Pm} {S : Eng}
theorem E6.h0 (h : E6 w b q S d) : w.cell? ⟨b, 0, none⟩ = some (.pointer (some ⟨q.bt, 0, none⟩)) := by rw [Lib.cell_of_heap h.head]; rfl
theorem E6.h1 (h : E6 w b q S d) : w.cell? ⟨b, 1, none⟩ = some (.slice q.Ac S.cs.length q.cc) := by rw [Lib.cell_of_heap h.head]; rfl
theorem E6.h2 (h : E6 w b q S d) : w.cell? ⟨b, 2, none⟩ = some (.slice q.Al S.lo.length q.cl) := by rw [Lib.cell_of_heap h.head]; rfl
theorem E6.h3 (h : E6 w b q S d) : w.cell? ⟨b, 3, none⟩ = some (.slice q.Aw S.wa.length q.cw) := by rw [Lib.cell_of_heap h.head]; rfl
theorem E6.h4 (h : E6 w b q S d) : w.cell? ⟨b, 4, none⟩ = some (.int .i64 (S.vi : Nat)) := by rw [Lib.cell_of_heap h.head]; rfl
theorem E6.h5 (h : E6 w b q S d) : w.cell? ⟨b, 5, none⟩ = some (.slice q.Ae S.le.length q.ce) := by rw [Lib.cell_of_heap h.head]; rfl
theorem E6.free (h : E6 w b q S d) (j : Nat) : w.frozen? ⟨b, j, none⟩ = false := Lib.frozen_of_heap h.head j
theorem E6.lt (h : E6 w b q S d) : b < w.heap.size := lt_of_heap h.head
theorem E6.trail (h : E6 w b q S d) : ∃ F, TrailAt w q.bt F S.n d S.L := ⟨h.tr.choose, h.tr.choose_spec.1⟩
theorem E6.ok (h : E6 w b q S d) : Ok S.n d S.L := h.tr.choose_spec.1.ok
/-- All as it was where it is owned. -/
theorem E6.same (h : E6 w b q S d) (hk : ∀ k, q.own k ≠ .no → w'.heap[k]? = w.heap[k]?) (hs : w.heap.size ≤ w'.heap.size) : E6 w' b q S d := by
  have own_ne : ∀ {o : Owner}, o ≠ .no → ∀ j, q.own j = o → w'.heap[j]? = w.heap[j]? := fun ho j e => hk j (by rw [e]; exact ho)
  obtain ⟨F, hT, hF⟩ := h.tr
  refine ⟨by rw [hk b (by rw [h.ob]; intro e; cases e)]; exact h.head, h.ob, ⟨F, ?_, hF⟩, h.cl.same (own_ne (by intro e; cases e)), fun i hi => (h.lc i hi).same (own_ne (by intro e; cases e)), h.lo.same (own_ne (by intro e; cases e)),
    h.wa.same (own_ne (by intro e; cases e)), fun p hp => (h.wb p hp).same (own_ne (by intro e; cases e)), h.le.same (own_ne (by intro e; cases e)), fun k hk => (h.lb k hk).same (own_ne (by intro e; cases e)), fun k hk => h.fr k (by omega)⟩
  obtain ⟨gm, cm, ao, co, az, cz, hQ, hO, rfl⟩ := hT
  exact ⟨gm, cm, ao, co, az, cz, hQ.same fun k hk' => own_ne (by intro e; cases e) k (hF k hk'), hO, rfl⟩
theorem E6.drewN (h : E6 w b q S d) (m : Nat) : E6 (w.drewN m) b q S d := h.same (fun _ _ => rfl) (Nat.le_refl _)
theorem E6.lt_of (h : E6 w b q S d) {k : Nat} (hk : q.own k ≠ .no) : k < w.heap.size := by
  rcases Nat.lt_or_ge k w.heap.size with e | e
  · exact e
  · exact absurd (h.fr k e) hk
theorem E6.below (h : E6 w b q S d) (hb : Below w.heap.size w w') : E6 w' b q S d := h.same (fun k hk => hb.block k (h.lt_of hk)) hb.size
theorem E6.alloc (h : E6 w b q S d) (o : Obj) : E6 (w.alloc o) b q S d := h.below ((Below.refl _ _).alloc (Nat.le_refl _) _)
theorem E6.kept {F : Nat → Prop} (h : E6 w b q S d) (hk : Kf F w w') (hF : ∀ k, q.own k ≠ .no → ¬ F k) : E6 w' b q S d :=
  h.same (fun k ho => hk.block k (h.lt_of ho) (hF k ho)) hk.size
theorem Ext.below (_ : E6 w b q S d) (hb : Below w.heap.size w w') : Ext q q w w' := ⟨fun _ _ => rfl, ⟨hb.os, hb.tape, hb.output, hb.size, fun k hk _ => hb.block k hk⟩, rfl⟩
end
end Go.Proofs.YtkckodpfhlpkgaaGreat
namespace Go.Proofs.YtkckodpfhlpkgaaGreat
open Go.RowKit LitM TrailM EngM

/-- A block's owner is told. -/
def relab (own : Nat → Owner) (g : Nat) (o : Owner) : Nat → Owner := fun k => if k = g then o else own k
theorem relab_at (own : Nat → Owner) (g : Nat) (o : Owner) : relab own g o g = o := by simp [relab]
theorem relab_old {own : Nat → Owner} {g : Nat} {o : Owner} {k : Nat} (h : own g = o ∨ k ≠ g) : relab own g o k = own k := by
  unfold relab
  by_cases e : k = g
  · rw [if_pos e]
    rcases h with h | h
    · rw [e, h]
    · exact absurd e h
  · rw [if_neg e]
section
variable {w w' : World} {b d : Nat} {q : Pm} {S : Eng} {O : Owner → Prop} {own' : Nat → Owner}
theorem E6.chg (h : E6 w b q S d) (hk : Kf (fun k => O (q.own k)) w w') : Chg O q.own q.own w w' := ⟨hk, fun _ _ => rfl, fun k e => h.fr k (Nat.le_trans hk.size e)⟩
theorem E6.chg_new (h : E6 w b q S d) {g : Nat} {o : Owner} (hk : Kf (fun k => O (q.own k)) w w') (hg : q.own g = o ∨ w.heap.size ≤ g) (hl : g < w'.heap.size) : Chg O q.own (relab q.own g o) w w' :=
  ⟨hk, fun k hk' => relab_old (hg.imp id fun e => by omega), fun k e => by
    have := hk.size
    rw [relab_old (.inr (by omega))]; exact h.fr k (by omega)⟩
theorem E6.head_kept (h : E6 w b q S d) (hc : Chg O q.own own' w w') (ho : ¬ O .eng) : w'.heap[b]? = some (.cells (headV q S) 81 (0, 0)) := by
  rw [hc.kf.block b h.lt (fun e => ho (by rw [h.ob] at e; exact e))]; exact h.head
theorem E6.ob_kept (h : E6 w b q S d) (hc : Chg O q.own own' w w') : own' b = .eng := by rw [hc.old b h.lt]; exact h.ob
theorem E6.tr_kept (h : E6 w b q S d) (hc : Chg O q.own own' w w') (ho : ¬ O .trail) : ∃ F, TrailAt w' q.bt F S.n d S.L ∧ ∀ k, F k → own' k = .trail := by
  obtain ⟨F, hT, hF⟩ := h.tr
  exact ⟨F, hT.kept hc.kf (fun k hk e => ho (by rw [hF k hk] at e; exact e)), fun k hk => by rw [hc.old k (hT.foot k hk)]; exact hF k hk⟩
theorem Chg.ext (hc : Chg O q.own own' w w') (ho : ¬ O .no) {q' : Pm} (h1 : q'.own = own') (h2 : q'.bt = q.bt) : Ext q q' w w' :=
  ⟨fun k hk => by rw [h1]; exact hc.old k hk, hc.kf.mono fun x hx => .inl (fun e => ho (by rw [e] at hx; exact hx)), h2⟩

/-- A call of the trail's. -/
theorem E6.trailTo (h : E6 w b q S d) {F : Nat → Prop} (hF : ∀ k, F k → q.own k = .trail) {d' : Nat} {L' : List Ent} (hT : TrailTo F w w' q.bt S.n d' L') :
    ∃ own', E6 w' b { q with own := own' } { S with L := L' } d' ∧ Ext q { q with own := own' } w w' := by
  obtain ⟨F', hT', hN, hK⟩ := hT
  have hK' : Kf (fun k => q.own k = .trail) w w' := hK.mono fun x hx => .inl (hF x hx)
  classical
  have hc : Chg (fun o => o = .trail) q.own (fun k => if F' k then .trail else q.own k) w w' := ⟨hK', fun k hk => by
    by_cases e : F' k
    · simp only [if_pos e]
      rcases hN k e with x | x
      · exact (hF k x).symm
      · omega
    · simp only [if_neg e], fun k hk => by
    have hn : ¬ F' k := fun e => by have := hT'.foot k e; omega
    simp only [if_neg hn]; exact h.fr k (Nat.le_trans hK.size hk)⟩
  refine ⟨fun k => if F' k then .trail else q.own k, ⟨h.head_kept hc (by simp), h.ob_kept hc, ⟨F', hT', fun k hk => by simp only [if_pos hk]⟩, h.cl.kept hc (by simp), fun i hi => (h.lc i hi).kept hc (by simp), h.lo.kept hc (by simp), h.wa.kept hc (by simp), fun p hp => (h.wb p hp).kept hc (by simp), h.le.kept hc (by simp), fun k hk => (h.lb k hk).kept hc (by simp), hc.fr⟩, hc.ext (by simp) rfl rfl⟩

/-- A clause's marks are written: its literals stay. -/
theorem E6.clsTo (h : E6 w b q S d) (hk : Kf (fun k => q.own k = .cls) w w') {cs' : List Cl} (hl : cs'.length = S.cs.length) (hls : ∀ i, (clA cs' i).ls = (clA S.cs i).ls)
    (hr : SlV 112 5 w' q.Ac S.cs.length q.cc (clC cs' q.Lc)) : E6 w' b q { S with cs := cs' } d ∧ Ext q q w w' := by
  have hc : Chg (fun o => o = .cls) q.own q.own w w' := h.chg hk
  refine ⟨⟨?_, h.ob, h.tr_kept hc (by simp), ?_, fun i hi => ?_, h.lo.kept hc (by simp), h.wa.kept hc (by simp), fun p hp => (h.wb p hp).kept hc (by simp), h.le.kept hc (by simp), fun k hk => (h.lb k hk).kept hc (by simp), hc.fr⟩, hc.ext (by simp) rfl rfl⟩
  · have := h.head_kept hc (by simp)
    unfold headV at *
    rw [this]; simp only [hl]
  · rw [show ({ S with cs := cs' } : Eng).cs.length = S.cs.length from hl]; exact ⟨hr, h.cl.2⟩
  · show Part w' q.own (.lits i) _ 1 _ (clA cs' i).ls.length _ (lsC (clA cs' i).ls)
    rw [hls i]; exact (h.lc i (by rw [← hl]; exact hi)).kept hc (by simp)
theorem clA_set {cs : List Cl} {i : Nat} (hi : i < cs.length) (c : Cl) (k : Nat) : clA (cs.set i c) k = if k = i then c else clA cs k := by
  unfold clA
  rw [List.getD, List.getD, List.getElem?_set]
  by_cases e : i = k
  · subst e; rw [if_pos rfl, if_pos rfl, if_pos hi]; rfl
  · rw [if_neg e, if_neg (fun x => e x.symm)]
theorem waA_set {wa : List (List Nat)} {i : Nat} (hi : i < wa.length) (c : List Nat) (k : Nat) : waA (wa.set i c) k = if k = i then c else waA wa k := by
  unfold waA
  rw [List.getD, List.getD, List.getElem?_set]
  by_cases e : i = k
  · subst e; rw [if_pos rfl, if_pos rfl, if_pos hi]; rfl
  · rw [if_neg e, if_neg (fun x => e x.symm)]
theorem leA_set {le : List (Nat × List Nat)} {i : Nat} (hi : i < le.length) (c : Nat × List Nat) (k : Nat) : leA (le.set i c) k = if k = i then c else leA le k := by
  unfold leA
  rw [List.getD, List.getD, List.getElem?_set]
  by_cases e : i = k
  · subst e; rw [if_pos rfl, if_pos rfl, if_pos hi]; rfl
  · rw [if_neg e, if_neg (fun x => e x.symm)]
/-- One of a clause's cells: which. -/
theorem E6.clsRow (h : E6 w b q S d) {id : Nat} (hi : id < S.cs.length) : ∃ g, q.Ac = some ⟨g, 0, none⟩ ∧ RowV 112 5 w g S.cs.length q.cc (clC S.cs q.Lc) ∧ q.own g = .cls := by
  obtain ⟨g, hg, hr⟩ := h.cl.1.row (by omega)
  exact ⟨g, hg, hr, h.cl.2 g (by rw [hg, onB_some])⟩
theorem clC_set {cs : List Cl} {Lc : Nat → Option Addr × Nat} {id : Nat} (hi : id < cs.length) {c : Cl} (hl : c.ls = (clA cs id).ls) {f : Nat → Value} (h0 : f (id * 5) = .bool c.pr) (h1 : f (id * 5 + 1) = clC cs Lc (id * 5 + 1)) (h2 : f (id * 5 + 2) = .int .i32 c.w0) (h3 : f (id * 5 + 3) = .int .i32 c.w1) (h4 : f (id * 5 + 4) = .int .i64 (c.nx : Nat))
    (ho : ∀ j, j / 5 ≠ id → f j = clC cs Lc j) (j : Nat) : clC (cs.set id c) Lc j = f j := by
  by_cases e : j / 5 = id
  · rcases (show j = id * 5 ∨ j = id * 5 + 1 ∨ j = id * 5 + 2 ∨ j = id * 5 + 3 ∨ j = id * 5 + 4 by omega) with x | x | x | x | x <;> subst x
    · rw [h0, clC0, clA_set hi, if_pos rfl]
    · rw [h1, clC1, clC1, clA_set hi, if_pos rfl, hl]
    · rw [h2, clC2, clA_set hi, if_pos rfl]
    · rw [h3, clC3, clA_set hi, if_pos rfl]
    · rw [h4, clC4, clA_set hi, if_pos rfl]
  · rw [ho j e]
    unfold clC
    rw [clA_set hi, if_neg e]

/-- A place's list grew. -/
theorem E6.pushW (h : E6 w b q S d) {p gw : Nat} (hp : p < S.wa.length) (hA : q.Aw = some ⟨gw, 0, none⟩) {W w2 : World} (hW : Below w.heap.size w W) {g' c' id : Nat} (hr : RowV 3 1 w2 g' ((waA S.wa p).length + 1) c' (natC (waA S.wa p ++ [id])))
    (hg : onB (q.Wb p).1 g' ∨ W.heap.size ≤ g') (hk : Kf (fun k => onB (q.Wb p).1 k) W w2) :
    ∃ own', E6 (w2.setCell ⟨gw, p, none⟩ (.slice (some ⟨g', 0, none⟩) ((waA S.wa p).length + 1) c')) b { q with own := own', Wb := fun k => if k = p then (some ⟨g', 0, none⟩, c') else q.Wb k } { S with wa := S.wa.set p (waA S.wa p ++ [id]) } d ∧
      Ext q { q with own := own', Wb := fun k => if k = p then (some ⟨g', 0, none⟩, c') else q.Wb k } w (w2.setCell ⟨gw, p, none⟩ (.slice (some ⟨g', 0, none⟩) ((waA S.wa p).length + 1) c')) := by
  obtain ⟨hr0, how⟩ := h.wa
  rw [hA] at hr0 how
  have ogw : q.own gw = .wrow := how gw (by rw [onB_some])
  obtain ⟨g0, e0, hrow⟩ := hr0.row (by omega)
  injection e0 with e0
  injection e0 with e0
  subst e0
  have hlw : gw < w.heap.size := hrow.lt
  have hWs := hW.size
  have hks := hk.size
  have hob := (h.wb p hp).2
  have hg' : q.own g' = .wl p ∨ w.heap.size ≤ g' := hg.imp (hob g') (fun e => by omega)
  have K1 : Kf (fun k => q.own k = .wl p ∨ q.own k = .wrow) w w2 :=
    (Kf.of_below hW).trans hk (fun x hx => .inl (.inl (hob x hx)))
  have K2 := K1.set (p := ⟨gw, p, none⟩) (.inl (.inr ogw)) (.slice (some ⟨g', 0, none⟩) ((waA S.wa p).length + 1) c')
  have hne : g' ≠ gw := by
    rintro rfl
    rcases hg' with e | e
    · rw [ogw] at e; cases e
    · omega
  have hc : Chg (fun o => o = .wl p ∨ o = .wrow) q.own (relab q.own g' (.wl p)) w (w2.setCell ⟨gw, p, none⟩ (.slice (some ⟨g', 0, none⟩) ((waA S.wa p).length + 1) c')) :=
    h.chg_new (O := fun o => o = .wl p ∨ o = .wrow) K2 hg' (by simp only [World.setCell, Array.size_modify]; exact hr.lt)
  have hrw : RowV 37 1 w2 gw S.wa.length q.cw (waC S.wa q.Wb) := hrow.same ((hk.block gw (by omega) (fun e => by have := hob gw e; rw [ogw] at this; cases this)).trans (hW.block gw hlw))
  refine ⟨relab q.own g' (.wl p), ⟨?_, h.ob_kept hc, h.tr_kept hc (by simp), h.cl.kept hc (by simp), fun i hi => (h.lc i hi).kept hc (by simp), h.lo.kept hc (by simp), ?_, ?_, h.le.kept hc (by simp), fun k hk => (h.lb k hk).kept hc (by simp), hc.fr⟩, hc.ext (by simp) rfl rfl⟩
  · have := h.head_kept hc (by simp)
    unfold headV at *
    rw [this]; simp
  · refine ⟨?_, fun j hj => ?_⟩
    · show SlV _ 1 _ q.Aw (S.wa.set p _).length q.cw _
      rw [hA, List.length_set]
      refine .inr ⟨gw, rfl, (hrw.set (show p < S.wa.length * 1 by omega) _).congr fun j hj => ?_⟩
      unfold waC
      rw [waA_set hp]
      dsimp only
      by_cases e : j = p
      · subst e; rw [updV_at, if_pos rfl, if_pos rfl]; simp
      · rw [updV_ne _ _ e, if_neg e, if_neg e]
    · show relab q.own g' (.wl p) j = .wrow
      have hj' : onB q.Aw j := hj
      rw [hA, onB_some] at hj'
      have hj' : j = gw := hj'
      subst hj'
      rw [relab_old (.inr (fun e => hne e.symm))]; exact ogw
  · intro k hk'
    have hk' : k < S.wa.length := by simpa using hk'
    show Part _ _ (.wl k) _ 1 (if k = p then _ else _ : Option Addr × Nat).1 (waA (S.wa.set p _) k).length (if k = p then _ else _ : Option Addr × Nat).2 (natC (waA (S.wa.set p _) k))
    rw [waA_set hp]
    by_cases e : k = p
    · subst e
      rw [if_pos rfl, if_pos rfl]
      refine ⟨.inr ⟨g', rfl, ?_⟩, fun j hj => ?_⟩
      · rw [List.length_append]
        exact hr.other (fun e => hne e.symm) _
      · rw [onB_some] at hj
        have hj : j = g' := hj
        subst hj
        exact relab_at _ _ _
    · rw [if_neg e, if_neg e]
      exact (h.wb k hk').kept hc (by simp [e])

/-- A level's list grew. -/
theorem E6.pushE (h : E6 w b q S d) {k ge : Nat} (hk' : k < S.le.length) (hA : q.Ae = some ⟨ge, 0, none⟩) {W w2 : World} (hW : Below w.heap.size w W) {g' c' id : Nat} (hr : RowV 3 1 w2 g' ((leA S.le k).2.length + 1) c' (natC ((leA S.le k).2 ++ [id])))
    (hg : onB (q.Le k).1 g' ∨ W.heap.size ≤ g') (hk : Kf (fun x => onB (q.Le k).1 x) W w2) :
    ∃ own', E6 (w2.setCell ⟨ge, k * 2 + 1, none⟩ (.slice (some ⟨g', 0, none⟩) ((leA S.le k).2.length + 1) c')) b { q with own := own', Le := fun x => if x = k then (some ⟨g', 0, none⟩, c') else q.Le x } { S with le := S.le.set k ((leA S.le k).1, (leA S.le k).2 ++ [id]) } d ∧
      Ext q { q with own := own', Le := fun x => if x = k then (some ⟨g', 0, none⟩, c') else q.Le x } w (w2.setCell ⟨ge, k * 2 + 1, none⟩ (.slice (some ⟨g', 0, none⟩) ((leA S.le k).2.length + 1) c')) := by
  obtain ⟨hr0, how⟩ := h.le
  rw [hA] at hr0 how
  have ogw : q.own ge = .lrow := how ge (by rw [onB_some])
  obtain ⟨g0, e0, hrow⟩ := hr0.row (by omega)
  injection e0 with e0
  injection e0 with e0
  subst e0
  have hlw : ge < w.heap.size := hrow.lt
  have hWs := hW.size
  have hks := hk.size
  have hob := (h.lb k hk').2
  have hg' : q.own g' = .ll k ∨ w.heap.size ≤ g' := hg.imp (hob g') (fun e => by omega)
  have K1 : Kf (fun x => q.own x = .ll k ∨ q.own x = .lrow) w w2 :=
    (Kf.of_below hW).trans hk (fun x hx => .inl (.inl (hob x hx)))
  have K2 := K1.set (p := ⟨ge, k * 2 + 1, none⟩) (.inl (.inr ogw)) (.slice (some ⟨g', 0, none⟩) ((leA S.le k).2.length + 1) c')
  have hne : g' ≠ ge := by
    rintro rfl
    rcases hg' with e | e
    · rw [ogw] at e; cases e
    · omega
  have hc : Chg (fun o => o = .ll k ∨ o = .lrow) q.own (relab q.own g' (.ll k)) w (w2.setCell ⟨ge, k * 2 + 1, none⟩ (.slice (some ⟨g', 0, none⟩) ((leA S.le k).2.length + 1) c')) :=
    h.chg_new (O := fun o => o = .ll k ∨ o = .lrow) K2 hg' (by simp only [World.setCell, Array.size_modify]; exact hr.lt)
  have hrw : RowV 91 2 w2 ge S.le.length q.ce (leC S.le q.Le) := hrow.same ((hk.block ge (by omega) (fun e => by have := hob ge e; rw [ogw] at this; cases this)).trans (hW.block ge hlw))
  refine ⟨relab q.own g' (.ll k), ⟨?_, h.ob_kept hc, h.tr_kept hc (by simp), h.cl.kept hc (by simp), fun i hi => (h.lc i hi).kept hc (by simp), h.lo.kept hc (by simp), h.wa.kept hc (by simp), fun p hp => (h.wb p hp).kept hc (by simp), ?_, ?_, hc.fr⟩, hc.ext (by simp) rfl rfl⟩
  · have := h.head_kept hc (by simp)
    unfold headV at *
    rw [this]; simp
  · refine ⟨?_, fun j hj => ?_⟩
    · show SlV _ 2 _ q.Ae (S.le.set k _).length q.ce _
      rw [hA, List.length_set]
      refine .inr ⟨ge, rfl, (hrw.set (show k * 2 + 1 < S.le.length * 2 by omega) _).congr fun j hj => ?_⟩
      unfold leC
      rw [leA_set hk']
      dsimp only
      by_cases e : j / 2 = k
      · rw [if_pos e, if_pos e]
        by_cases e2 : j % 2 = 0
        · rw [if_pos e2, updV_ne _ _ (by omega), if_pos e2, e]
        · rw [if_neg e2, show j = k * 2 + 1 from by omega, updV_at]; simp
      · rw [if_neg e, if_neg e, updV_ne _ _ (by omega)]
    · show relab q.own g' (.ll k) j = .lrow
      have hj' : onB q.Ae j := hj
      rw [hA, onB_some] at hj'
      have hj' : j = ge := hj'
      subst hj'
      rw [relab_old (.inr (fun e => hne e.symm))]; exact ogw
  · intro x hx
    have hx : x < S.le.length := by simpa using hx
    show Part _ _ (.ll x) _ 1 (if x = k then _ else _ : Option Addr × Nat).1 (leA (S.le.set k _) x).2.length (if x = k then _ else _ : Option Addr × Nat).2 (natC (leA (S.le.set k _) x).2)
    rw [leA_set hk']
    by_cases e : x = k
    · subst e
      rw [if_pos rfl, if_pos rfl]
      refine ⟨.inr ⟨g', rfl, ?_⟩, fun j hj => ?_⟩
      · show RowV _ 1 _ g' ((leA S.le x).2 ++ [id]).length c' _
        rw [List.length_append]
        exact hr.other (fun e => hne e.symm) _
      · rw [onB_some] at hj
        have hj : j = g' := hj
        subst hj
        exact relab_at _ _ _
    · rw [if_neg e, if_neg e]
      exact (h.lb x hx).kept hc (by simp [e])
end
end Go.Proofs.YtkckodpfhlpkgaaGreat
