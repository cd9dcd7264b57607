/- The memory of an engine of layer 5: its block, its trail, its rows and their rows, each block of which has one owner. -/
import Derived.Test.YtjhopjokllkipaaTrailB
import Derived.Test.YtjhopjokllkipaaEngM
namespace Go.Proofs.Ytjhopjokllkipaa
open Go.RowKit LitM TrailM EngM

/-- Who owns a block. -/
inductive Owner where
  | no | eng | trail | cls | loose | wrow | lrow
  | lits (i : Nat) | wl (p : Nat) | ll (k : Nat)

/-- A row with its owner. -/
def Part (w : World) (own : Nat → Owner) (o : Owner) (T : TypeId) (k : Nat) (A : Option Addr) (n c : Nat) (f : Nat → Value) : Prop :=
  SlV T k w A n c f ∧ ∀ j, onB A j → own j = o
/-- Only the blocks of O's owners are other ones; what was owned has its owner still. -/
structure Chg (O : Owner → Prop) (own own' : Nat → Owner) (w w' : World) : Prop where
  kf : Kf (fun k => O (own k)) w w'
  old : ∀ k, k < w.heap.size → own' k = own k
  fr : ∀ k, w'.heap.size ≤ k → own' k = .no
section
variable {w w' : World} {own own' : Nat → Owner} {o : Owner} {O : Owner → Prop} {T : TypeId} {k n c : Nat} {A : Option Addr} {f : Nat → Value}
theorem Part.kept (h : Part w own o T k A n c f) (hc : Chg O own own' w w') (hne : ¬ O o) : Part w' own' o T k A n c f :=
  ⟨h.1.same fun j hj => hc.kf.block j (h.1.lt j hj) (fun e => hne (by rw [← h.2 j hj]; exact e)), fun j hj => by rw [hc.old j (h.1.lt j hj)]; exact h.2 j hj⟩
theorem Part.same (h : Part w own o T k A n c f) (hk : ∀ j, own j = o → w'.heap[j]? = w.heap[j]?) : Part w' own o T k A n c f :=
  ⟨h.1.same fun j hj => hk j (h.2 j hj), h.2⟩
theorem Part.congr {f' : Nat → Value} (h : Part w own o T k A n c f) (e : ∀ j, j < n * k → f' j = f j) : Part w own o T k A n c f' := ⟨h.1.congr e, h.2⟩
theorem Part.nil (w : World) (own : Nat → Owner) (o : Owner) (T : TypeId) (k : Nat) (f : Nat → Value) : Part w own o T k none 0 0 f := ⟨SlV.nil T k w f, fun j hj => absurd hj (onB_none j)⟩
end

/-- What the rows read. -/
def natC (l : List Nat) (j : Nat) : Value := .int .i64 (l.getD j 0 : Nat)
def clC (cs : List Cl) (Lc : Nat → Option Addr × Nat) (j : Nat) : Value :=
  if j % 5 = 0 then .bool (clA cs (j / 5)).pr else if j % 5 = 1 then .slice (Lc (j / 5)).1 (clA cs (j / 5)).ls.length (Lc (j / 5)).2
  else if j % 5 = 2 then .int .i32 (clA cs (j / 5)).w0 else if j % 5 = 3 then .int .i32 (clA cs (j / 5)).w1 else .int .i64 ((clA cs (j / 5)).nx : Nat)
def waC (wa : List (List Nat)) (Wb : Nat → Option Addr × Nat) (j : Nat) : Value := .slice (Wb j).1 (waA wa j).length (Wb j).2
def leC (le : List (Nat × List Nat)) (Le : Nat → Option Addr × Nat) (j : Nat) : Value :=
  if j % 2 = 0 then .int .i64 ((leA le (j / 2)).1 : Nat) else .slice (Le (j / 2)).1 (leA le (j / 2)).2.length (Le (j / 2)).2
def lsC (ls : List Int) (j : Nat) : Value := .int .i32 (ls.getD j 0)
section
variable (cs : List Cl) (le : List (Nat × List Nat)) (Lc : Nat → Option Addr × Nat) (i : Nat)
theorem clC0 : clC cs Lc (i * 5) = .bool (clA cs i).pr := by
  unfold clC; rw [if_pos (by omega), show i * 5 / 5 = i from by omega]
theorem clC1 : clC cs Lc (i * 5 + 1) = .slice (Lc i).1 (clA cs i).ls.length (Lc i).2 := by
  unfold clC; rw [if_neg (by omega), if_pos (by omega), show (i * 5 + 1) / 5 = i from by omega]
theorem clC2 : clC cs Lc (i * 5 + 2) = .int .i32 (clA cs i).w0 := by
  unfold clC; rw [if_neg (by omega), if_neg (by omega), if_pos (by omega), show (i * 5 + 2) / 5 = i from by omega]
theorem clC3 : clC cs Lc (i * 5 + 3) = .int .i32 (clA cs i).w1 := by
  unfold clC; rw [if_neg (by omega), if_neg (by omega), if_neg (by omega), if_pos (by omega), show (i * 5 + 3) / 5 = i from by omega]
theorem clC4 : clC cs Lc (i * 5 + 4) = .int .i64 ((clA cs i).nx : Nat) := by
  unfold clC; rw [if_neg (by omega), if_neg (by omega), if_neg (by omega), if_neg (by omega), show (i * 5 + 4) / 5 = i from by omega]
theorem leC0 : leC le Lc (i * 2) = .int .i64 ((leA le i).1 : Nat) := by
  unfold leC; rw [if_pos (by omega), show i * 2 / 2 = i from by omega]
theorem leC1 : leC le Lc (i * 2 + 1) = .slice (Lc i).1 (leA le i).2.length (Lc i).2 := by
  unfold leC; rw [if_neg (by omega), show (i * 2 + 1) / 2 = i from by omega]
end

/-- Where an engine's things lie. -/
structure Pm where
  own : Nat → Owner
  bt : Nat
  Ac : Option Addr
  cc : Nat
  Al : Option Addr
  cl : Nat
  Aw : Option Addr
  cw : Nat
  Ae : Option Addr
  ce : Nat
  Lc : Nat → Option Addr × Nat
  Wb : Nat → Option Addr × Nat
  Le : Nat → Option Addr × Nat
def headV (q : Pm) (S : Eng) : Array Value :=
  #[.pointer (some ⟨q.bt, 0, none⟩), .slice q.Ac S.cs.length q.cc, .slice q.Al S.lo.length q.cl, .slice q.Aw S.wa.length q.cw, .int .i64 (S.vi : Nat), .slice q.Ae S.le.length q.ce]

/-- An engine at block b, whose trail is d levels deep. -/
structure E6 (w : World) (b : Nat) (q : Pm) (S : Eng) (d : Nat) : Prop where
  head : w.heap[b]? = some (.cells (headV q S) 37 (0, 0))
  ob : q.own b = .eng
  tr : ∃ F, TrailAt w q.bt F S.n d S.L ∧ ∀ k, F k → q.own k = .trail
  cl : Part w q.own .cls 71 5 q.Ac S.cs.length q.cc (clC S.cs q.Lc)
  lc : ∀ i, i < S.cs.length → Part w q.own (.lits i) 27 1 (q.Lc i).1 (clA S.cs i).ls.length (q.Lc i).2 (lsC (clA S.cs i).ls)
  lo : Part w q.own .loose 3 1 q.Al S.lo.length q.cl (natC S.lo)
  wa : Part w q.own .wrow 33 1 q.Aw S.wa.length q.cw (waC S.wa q.Wb)
  wb : ∀ p, p < S.wa.length → Part w q.own (.wl p) 3 1 (q.Wb p).1 (waA S.wa p).length (q.Wb p).2 (natC (waA S.wa p))
  le : Part w q.own .lrow 81 2 q.Ae S.le.length q.ce (leC S.le q.Le)
  lb : ∀ k, k < S.le.length → Part w q.own (.ll k) 3 1 (q.Le k).1 (leA S.le k).2.length (q.Le k).2 (natC (leA S.le k).2)
  fr : ∀ k, w.heap.size ≤ k → q.own k = .no
/-- What a call leaves of all else. -/
structure Ext (q q' : Pm) (w w' : World) : Prop where
  old : ∀ k, k < w.heap.size → q'.own k = q.own k
  kf : Kf (fun k => q.own k ≠ .no) w w'
  bt : q'.bt = q.bt
theorem Ext.refl (q : Pm) (w : World) : Ext q q w w := ⟨fun _ _ => rfl, Kf.refl _ _, rfl⟩
theorem Ext.trans {q q1 q2 : Pm} {w w1 w2 : World} (h : Ext q q1 w w1) (k : Ext q1 q2 w1 w2) : Ext q q2 w w2 :=
  ⟨fun j hj => (k.old j (Nat.lt_of_lt_of_le hj h.kf.size)).trans (h.old j hj),
   h.kf.trans k.kf (fun x hx => by
     rcases Nat.lt_or_ge x w.heap.size with e | e
     · exact .inl (by rw [← h.old x e]; exact hx)
     · exact .inr e), k.bt.trans h.bt⟩

section
variable {w w' : World} {b d : Nat} {q : Pm} {S : Eng}
theorem E6.h0 (h : E6 w b q S d) : w.cell? ⟨b, 0, none⟩ = some (.pointer (some ⟨q.bt, 0, none⟩)) := by rw [Lib.cell_of_heap h.head]; rfl
theorem E6.h1 (h : E6 w b q S d) : w.cell? ⟨b, 1, none⟩ = some (.slice q.Ac S.cs.length q.cc) := by rw [Lib.cell_of_heap h.head]; rfl
theorem E6.h2 (h : E6 w b q S d) : w.cell? ⟨b, 2, none⟩ = some (.slice q.Al S.lo.length q.cl) := by rw [Lib.cell_of_heap h.head]; rfl
theorem E6.h3 (h : E6 w b q S d) : w.cell? ⟨b, 3, none⟩ = some (.slice q.Aw S.wa.length q.cw) := by rw [Lib.cell_of_heap h.head]; rfl
theorem E6.h4 (h : E6 w b q S d) : w.cell? ⟨b, 4, none⟩ = some (.int .i64 (S.vi : Nat)) := by rw [Lib.cell_of_heap h.head]; rfl
theorem E6.h5 (h : E6 w b q S d) : w.cell? ⟨b, 5, none⟩ = some (.slice q.Ae S.le.length q.ce) := by rw [Lib.cell_of_heap h.head]; rfl
theorem E6.free (h : E6 w b q S d) (j : Nat) : w.frozen? ⟨b, j, none⟩ = false := Lib.frozen_of_heap h.head j
theorem E6.lt (h : E6 w b q S d) : b < w.heap.size := lt_of_heap h.head
theorem E6.trail (h : E6 w b q S d) : ∃ F, TrailAt w q.bt F S.n d S.L := ⟨h.tr.choose, h.tr.choose_spec.1⟩
theorem E6.ok (h : E6 w b q S d) : Ok S.n d S.L := h.tr.choose_spec.1.ok
/-- All as it was where it is owned. -/
theorem E6.same (h : E6 w b q S d) (hk : ∀ k, q.own k ≠ .no → w'.heap[k]? = w.heap[k]?) (hs : w.heap.size ≤ w'.heap.size) : E6 w' b q S d := by
  have own_ne : ∀ {o : Owner}, o ≠ .no → ∀ j, q.own j = o → w'.heap[j]? = w.heap[j]? := fun ho j e => hk j (by rw [e]; exact ho)
  obtain ⟨F, hT, hF⟩ := h.tr
  refine ⟨by rw [hk b (by rw [h.ob]; intro e; cases e)]; exact h.head, h.ob, ⟨F, ?_, hF⟩, h.cl.same (own_ne (by intro e; cases e)), fun i hi => (h.lc i hi).same (own_ne (by intro e; cases e)), h.lo.same (own_ne (by intro e; cases e)),
    h.wa.same (own_ne (by intro e; cases e)), fun p hp => (h.wb p hp).same (own_ne (by intro e; cases e)), h.le.same (own_ne (by intro e; cases e)), fun k hk => (h.lb k hk).same (own_ne (by intro e; cases e)), fun k hk => h.fr k (by omega)⟩
  obtain ⟨gm, cm, ao, co, az, cz, hQ, hO, rfl⟩ := hT
  exact ⟨gm, cm, ao, co, az, cz, hQ.same fun k hk' => own_ne (by intro e; cases e) k (hF k hk'), hO, rfl⟩
theorem E6.drewN (h : E6 w b q S d) (m : Nat) : E6 (w.drewN m) b q S d := h.same (fun _ _ => rfl) (Nat.le_refl _)
theorem E6.lt_of (h : E6 w b q S d) {k : Nat} (hk : q.own k ≠ .no) : k < w.heap.size := by
  rcases Nat.lt_or_ge k w.heap.size with e | e
  · exact e
  · exact absurd (h.fr k e) hk
theorem E6.below (h : E6 w b q S d) (hb : Below w.heap.size w w') : E6 w' b q S d := h.same (fun k hk => hb.block k (h.lt_of hk)) hb.size
theorem E6.alloc (h : E6 w b q S d) (o : Obj) : E6 (w.alloc o) b q S d := h.below ((Below.refl _ _).alloc (Nat.le_refl _) _)
theorem E6.kept {F : Nat → Prop} (h : E6 w b q S d) (hk : Kf F w w') (hF : ∀ k, q.own k ≠ .no → ¬ F k) : E6 w' b q S d :=
  h.same (fun k ho => hk.block k (h.lt_of ho) (hF k ho)) hk.size
theorem Ext.below (_ : E6 w b q S d) (hb : Below w.heap.size w w') : Ext q q w w' := ⟨fun _ _ => rfl, ⟨hb.os, hb.tape, hb.output, hb.size, fun k hk _ => hb.block k hk⟩, rfl⟩
end
end Go.Proofs.Ytjhopjokllkipaa
