/- Package parse: the reader in memory. -/
import Derived.Test.YtmkhfcdjgdofnaaDoorParG
import Derived.IntWalk
namespace Go.Proofs.YtmkhfcdjgdofnaaDoor
open Go.RowKit TreM WrdM ParM

abbrev Kg (g : Nat) := Kf (fun k => k = g)
/-- The words that are ahead. -/
def ToksAt (W : World) (g : Nat) (A : Option Addr) (L : List Tok) : Prop := ∃ b p, A = some ⟨b, p, none⟩ ∧ b < g ∧ ∀ j t, L[j]? = some t → ∀ i v, (tokC t)[i]? = some v → W.cell? ⟨b, p + j * 5 + i, none⟩ = some v
/-- A reader: what is ahead, how much is open. -/
structure RdrAt (W : World) (g : Nat) (L : List Tok) (o : Nat) (A : Option Addr) (c : Nat) : Prop where
  blk : W.heap[g]? = some (.cells #[.slice A L.length c, .int .i64 (o : Int)] 69 (0, 0))
  n : L.length ≤ c
  c : c ≤ 9223372036854775807
  toks : ToksAt W g A L
  ends : EndsT L
def Rdr (W : World) (g : Nat) (L : List Tok) (o : Nat) : Prop := ∃ A c, RdrAt W g L o A c
theorem cells2 {W : World} {g : Nat} {a b : Value} {t : TypeId} {fr : Nat × Nat} (h : W.heap[g]? = some (.cells #[a, b] t fr)) :
    W.cell? ⟨g, 0, none⟩ = some a ∧ W.cell? ⟨g, 1, none⟩ = some b := by
  refine ⟨?_, ?_⟩ <;> (rw [Lib.cell_of_heap h]; rfl)
theorem ToksAt.below {W W' : World} {g : Nat} {A : Option Addr} {L : List Tok} (h : ToksAt W g A L) (hb : Below g W W') : ToksAt W' g A L := by
  obtain ⟨b, p, hA, hl, hk⟩ := h
  exact ⟨b, p, hA, hl, fun j t hj i v hv => by rw [hb.cell (p := ⟨b, p + j * 5 + i, none⟩) hl]; exact hk j t hj i v hv⟩
section
variable {W W' : World} {g : Nat} {L : List Tok} {o : Nat} {A : Option Addr} {c : Nat}
theorem RdrAt.lt (h : RdrAt W g L o A c) : g < W.heap.size := lt_of_heap h.blk
theorem RdrAt.below (h : RdrAt W g L o A c) (hb : Below W.heap.size W W') : RdrAt W' g L o A c :=
  ⟨(hb.block g h.lt).trans h.blk, h.n, h.c, h.toks.below (hb.mono (Nat.le_of_lt h.lt)), h.ends⟩
theorem Rdr.below (h : Rdr W g L o) (hb : Below W.heap.size W W') : Rdr W' g L o := by
  obtain ⟨A, c, h⟩ := h
  exact ⟨A, c, h.below hb⟩
theorem Rdr.lt (h : Rdr W g L o) : g < W.heap.size := by
  obtain ⟨A, c, h⟩ := h
  exact h.lt
theorem Kg.of_below (h : Below W.heap.size W W') : Kg g W W' := Kf.of_below h
theorem Kg.trans' {w1 w2 w3 : World} (h : Kg g w1 w2) (k : Kg g w2 w3) : Kg g w1 w3 := Kf.trans h k fun _ hx => .inl hx
theorem Kg.low {w1 w2 : World} (h : Kg g w1 w2) (hg : g < w1.heap.size) : Below g w1 w2 := Kf.below h (Nat.le_of_lt hg) fun _ hx => by omega
/-- The words behind the first one. -/
theorem ToksAt.tail {t : Tok} {r : List Tok} (h : ToksAt W g A (t :: r)) : ∃ b p, A = some ⟨b, p, none⟩ ∧ b < g ∧ ToksAt W g (some ⟨b, p + 5, none⟩) r ∧ ∀ i v, (tokC t)[i]? = some v → W.cell? ⟨b, p + i, none⟩ = some v := by
  obtain ⟨b, p, hA, hl, hk⟩ := h
  refine ⟨b, p, hA, hl, ⟨b, p + 5, rfl, hl, fun j t2 hj i v hv => ?_⟩, fun i v hv => ?_⟩
  · have := hk (j + 1) t2 (by simpa using hj) i v hv
    rwa [show p + (j + 1) * 5 + i = p + 5 + j * 5 + i by omega] at this
  · have := hk 0 t rfl i v hv
    rwa [show p + 0 * 5 + i = p + i by omega] at this
theorem Rdr.low (h : Rdr W g L o) (hb : Below (g + 1) W W') : Rdr W' g L o := by
  obtain ⟨A, c, h⟩ := h
  exact ⟨A, c, (hb.block g (by omega)).trans h.blk, h.n, h.c, h.toks.below (hb.mono (by omega)), h.ends⟩
end
/-- An expression that hangs on D's blocks alone. -/
def ExD (D : Nat → Prop) (W : World) (X : Ex) (v : Value) : Prop := ∀ W' : World, (∀ k, D k → k < W.heap.size → W'.heap[k]? = W.heap[k]?) → W.heap.size ≤ W'.heap.size → ExV W' X v
section
variable {D D' : Nat → Prop} {W W' : World} {X : Ex} {v : Value}
theorem ExD.val (h : ExD D W X v) : ExV W X v := h W (fun _ _ _ => rfl) (Nat.le_refl _)
theorem ExD.mono (h : ExD D W X v) (hD : ∀ k, D k → D' k) : ExD D' W X v := fun W' h1 h2 => h W' (fun k hk hl => h1 k (hD k hk) hl) h2
theorem ExD.keep (h : ExD D W X v) (h1 : ∀ k, D k → k < W.heap.size → W'.heap[k]? = W.heap[k]?) (h2 : W.heap.size ≤ W'.heap.size) : ExD D W' X v := fun W2 h3 h4 =>
  h W2 (fun k hk hl => (h3 k hk (Nat.lt_of_lt_of_le hl h2)).trans (h1 k hk hl)) (Nat.le_trans h2 h4)
theorem ExD.below (h : ExD D W X v) (hb : Below W.heap.size W W') : ExD D W' X v := h.keep (fun k _ hl => hb.block k hl) hb.size
theorem wf_in {n : Int} (h0 : -9223372036854775808 ≤ n) (h1 : n ≤ 9223372036854775807) : (Lit.int .i64 n).wf = true := by
  simp only [Lit.wf, Bool.and_eq_true]
  exact ⟨decide_eq_true h0, decide_eq_true h1⟩
/-- Numbers that an expression's fields can hold. -/
structure ExN (o n l c : Int) : Prop where
  o : (Lit.int .i64 o).wf = true
  n : (Lit.int .i64 n).wf = true
  l : (Lit.int .i64 l).wf = true
  c : (Lit.int .i64 c).wf = true
theorem ExD.leaf {o n l c : Int} {s : List UInt8} (hN : ExN o n l c) (hs : s.length ≤ 9223372036854775807) : ExD D W (.mk o n s [] l c) (.agg #[.int .i64 o, .int .i64 n, .string ⟨s.toArray⟩, .slice none 0 0, .int .i64 l, .int .i64 c]) := fun W' _ _ =>
  ⟨[.int .i64 o, .int .i64 n, .string ⟨s.toArray⟩, .slice none 0 0, .int .i64 l, .int .i64 c], rfl, by rw [ExC]; exact ⟨none, 0, rfl, ⟨hN.o, hN.n, hN.l, hN.c⟩, hs, by simp, by omega, .inl rfl⟩⟩
/-- With kids in a block of its own. -/
theorem ExD.node {o n l c : Int} {ks : List Ex} {b : Nat} {cap : Nat} (hN : ExN o n l c) (hDb : D b) (hb : b < W.heap.size) (hk : ∀ j k, ks[j]? = some k → ∃ cs : List Value, (∀ i v, cs[i]? = some v → W.cell? ⟨b, j * 6 + i, none⟩ = some v) ∧ ExD D W k (.agg cs.toArray)) (hc : ks.length ≤ cap) (hc2 : cap ≤ 9223372036854775807) :
    ExD D W (.mk o n [] ks l c) (.agg #[.int .i64 o, .int .i64 n, .string ⟨#[]⟩, .slice (some ⟨b, 0, none⟩) ks.length cap, .int .i64 l, .int .i64 c]) := fun W' h1 h2 =>
  ⟨[.int .i64 o, .int .i64 n, .string ⟨#[]⟩, .slice (some ⟨b, 0, none⟩) ks.length cap, .int .i64 l, .int .i64 c], rfl, by
    rw [ExC]
    refine ⟨some ⟨b, 0, none⟩, cap, rfl, ⟨hN.o, hN.n, hN.l, hN.c⟩, by simp, hc, hc2, .inr ⟨b, 0, rfl, Nat.lt_of_lt_of_le hb h2, ExK.of fun j k hj => ?_⟩⟩
    obtain ⟨cs, h3, h4⟩ := hk j k hj
    obtain ⟨cs', h5, h6⟩ := h4 W' h1 h2
    have e : cs = cs' := by
      have : cs.toArray = cs'.toArray := by injection h5
      have := congrArg Array.toList this
      simpa using this
    subst e
    refine ⟨cs, fun i v hv => ?_, h6⟩
    rw [show 0 + j * 6 + i = j * 6 + i by omega, World.cell?_of_block (h1 b hDb hb)]
    exact h3 i v hv⟩
end
theorem pfive_set {w : World} {g : Nat} {a b c d e : Value} {T : TypeId} {fr : Nat × Nat} (h : w.heap[g]? = some (.cells #[a, b, c, d, e] T fr)) (x y z u v : Value) :
    (((((w.setCell ⟨g, 0, none⟩ x).setCell ⟨g, 1, none⟩ y).setCell ⟨g, 2, none⟩ z).setCell ⟨g, 3, none⟩ u).setCell ⟨g, 4, none⟩ v).heap[g]? = some (.cells #[x, y, z, u, v] T fr) := by
  rw [Lib.heap_setCell_same (Lib.heap_setCell_same (Lib.heap_setCell_same (Lib.heap_setCell_same (Lib.heap_setCell_same h x) y) z) u) v]
  rfl
theorem psix_set {w : World} {g : Nat} {a b c d e f : Value} {T : TypeId} {fr : Nat × Nat} (h : w.heap[g]? = some (.cells #[a, b, c, d, e, f] T fr)) (x y z u v t : Value) :
    ((((((w.setCell ⟨g, 0, none⟩ x).setCell ⟨g, 1, none⟩ y).setCell ⟨g, 2, none⟩ z).setCell ⟨g, 3, none⟩ u).setCell ⟨g, 4, none⟩ v).setCell ⟨g, 5, none⟩ t).heap[g]? = some (.cells #[x, y, z, u, v, t] T fr) := by
  rw [Lib.heap_setCell_same (Lib.heap_setCell_same (Lib.heap_setCell_same (Lib.heap_setCell_same (Lib.heap_setCell_same (Lib.heap_setCell_same h x) y) z) u) v) t]
  rfl
/-- Stores in one block: all else stays. -/
theorem kf_five (k : Nat) (w : World) (x y z u v : Value) : Kg k w (((((w.setCell ⟨k, 0, none⟩ x).setCell ⟨k, 1, none⟩ y).setCell ⟨k, 2, none⟩ z).setCell ⟨k, 3, none⟩ u).setCell ⟨k, 4, none⟩ v) :=
  Kf.set (p := ⟨k, 4, none⟩) (Kf.set (p := ⟨k, 3, none⟩) (Kf.set (p := ⟨k, 2, none⟩) (Kf.set (p := ⟨k, 1, none⟩) (Kf.set (F := fun j => j = k) (p := ⟨k, 0, none⟩) (Kf.refl _ w) (.inl rfl) _) (.inl rfl) _) (.inl rfl) _) (.inl rfl) _) (.inl rfl) _
theorem kf_six (k : Nat) (w : World) (x y z u v t : Value) : Kg k w ((((((w.setCell ⟨k, 0, none⟩ x).setCell ⟨k, 1, none⟩ y).setCell ⟨k, 2, none⟩ z).setCell ⟨k, 3, none⟩ u).setCell ⟨k, 4, none⟩ v).setCell ⟨k, 5, none⟩ t) :=
  Kf.set (p := ⟨k, 5, none⟩) (kf_five k w x y z u v) (.inl rfl) _
/-- What is thrown. -/
def Thr (l c : Int) : Ending := .panicked [{ v := .iface 27 (.agg #[.int .i64 151, .int .i64 l, .int .i64 c]), recovered := false }]
/-- A reading's outcome. -/
def PTo {α : Type} (g o : Nat) (w : World) (V : World → α → Ending → Prop) (x : Res α) (e : Ending) (w' : World) : Prop :=
  match x with
  | .bad l c => e = Thr l c ∧ Below g w w'
  | .ok a r => V w' a e ∧ Rdr w' g r o ∧ Kg g w w'
def RVoid : World → Unit → Ending → Prop := fun _ _ e => e = .returned (.tuple #[])
def RTok : World → Tok → Ending → Prop := fun _ t e => e = .returned (.agg (tokC t).toArray)
def REx (lo : Nat) : World → Ex → Ending → Prop := fun w X e => ∃ v, e = .returned v ∧ ExD (fun k => lo ≤ k) w X v

theorem Kg.of_high {k : Nat} {w0 W W' : World} {g : Nat} (h : Kg g w0 W) (hk : Kg k W W') (hlo : w0.heap.size ≤ k) : Kg g w0 W' := Kf.trans h hk fun _ hx => .inr (by omega)
theorem Rdr.high {k : Nat} {W W' : World} {g o : Nat} {L : List Tok} (h : Rdr W g L o) (hk : Kg k W W') (hlo : g < k) : Rdr W' g L o := by
  have hl := h.lt
  exact h.low ⟨hk.os, hk.tape, hk.output, hk.size, fun x hx => hk.block x (by omega) (by omega)⟩
theorem fail_any (t : Tok) (w : World) : Calls Tryd.prog 27 #[.agg (tokC t).toArray] w fun e w' => e = Thr t.line t.col ∧ Below w.heap.size w w' := by
  have hba := below_alloc w (.cells #[.int .i64 t.kind, .string ⟨t.text.toArray⟩, .int .i64 t.num, .int .i64 t.line, .int .i64 t.col] 71)
  have HBA := Lib.hid hba
  clear hba
  unfold tokC
  generalize (⟨t.text.toArray⟩ : ByteArray) = sb at *
  generalize t.kind = k at *
  generalize t.num = n at *
  generalize t.line = l at *
  generalize t.col = c at *
  go_enter Tryd.func27, Tryd.ntmps27
  go_wp2
  exact ⟨rfl, rfl, HBA.out⟩
set_option maxHeartbeats 800000 in
theorem ahead_any {g o : Nat} {t : Tok} {r : List Tok} (w : World) (h : Rdr w g (t :: r) o) :
    Calls Tryd.prog 24 #[.pointer (some ⟨g, 0, none⟩)] w fun e w' => e = .returned (.agg (tokC t).toArray) ∧ Below w.heap.size w w' := by
  obtain ⟨A, c, h⟩ := h
  obtain ⟨b, p, rfl, hlb, _, hc⟩ := h.toks.tail
  obtain ⟨d0, d1⟩ := cells2 h.blk
  have hlt := h.lt
  have hn := h.n
  have hcc := h.c
  rw [List.length_cons] at hn d0
  have hcell := fun i v hv => hc i v hv
  have c0 := hcell 0 _ rfl
  have c1 := hcell 1 _ rfl
  have c2 := hcell 2 _ rfl
  have c3 := hcell 3 _ rfl
  have c4 := hcell 4 _ rfl
  rw [Nat.add_zero] at c0
  have hbs : b < w.heap.size := by omega
  clear hcell hc h
  unfold tokC
  generalize (⟨t.text.toArray⟩ : ByteArray) = sb at *
  generalize t.kind = k at *
  generalize t.num = n at *
  generalize t.line = l at *
  generalize t.col = cl at *
  generalize r.length = m at *
  have HB : Hid (∀ x y z u v : Value, Below w.heap.size w (w.alloc (.cells #[x, y, z, u, v] 71))) := fun _ _ _ _ _ => below_alloc w _
  go_enter Tryd.func24, Tryd.ntmps24
  go_wp2_with fail
  obtain ⟨p0, p1, p2, p3, p4⟩ := tok_cells w (.int .i64 k) (.string sb) (.int .i64 n) (.int .i64 l) (.int .i64 cl) 71
  refine bodyPost_ret (v := .agg #[.int .i64 k, .string sb, .int .i64 n, .int .i64 l, .int .i64 cl]) (by simp [results, Tryd.results24, go_sem, p0, p1, p2, p3, p4]) rfl ?_
  exact ⟨rfl, HB.out _ _ _ _ _⟩
set_option maxHeartbeats 800000 in
theorem is_any {g o : Nat} {t : Tok} {r : List Tok} (s : List UInt8) (w : World) (h : Rdr w g (t :: r) o) :
    Calls Tryd.prog 29 #[.pointer (some ⟨g, 0, none⟩), .string ⟨s.toArray⟩] w fun e w' => e = .returned (.bool (decide (t.text = s))) ∧ w = w' := by
  obtain ⟨A, c, h⟩ := h
  obtain ⟨b, p, rfl, hlb, _, hc⟩ := h.toks.tail
  obtain ⟨d0, d1⟩ := cells2 h.blk
  have hn := h.n
  have hcc := h.c
  have c1 := hc 1 _ rfl
  rw [List.length_cons] at hn d0
  have he : ((⟨t.text.toArray⟩ : ByteArray).toList == (⟨s.toArray⟩ : ByteArray).toList) = decide (t.text = s) := by
    rw [Lib.toList_data, Lib.toList_data, Bool.eq_iff_iff, beq_iff_eq, decide_eq_true_eq]
  clear hc h
  generalize decide (t.text = s) = q at *
  generalize (⟨t.text.toArray⟩ : ByteArray) = sb at *
  generalize (⟨s.toArray⟩ : ByteArray) = sb2 at *
  generalize r.length = m at *
  go_enter Tryd.func29, Tryd.ntmps29
  go_wp2_with fail
  go_ret
  exact ⟨by simp, rfl⟩
set_option maxHeartbeats 800000 in
theorem take_any {g o : Nat} {t : Tok} {r : List Tok} (w : World) (h : Rdr w g (t :: r) o) (he : EndsT r) :
    Calls Tryd.prog 47 #[.pointer (some ⟨g, 0, none⟩)] w fun e w' => e = .returned (.agg (tokC t).toArray) ∧ Rdr w' g r o ∧ Kg g w w' := by
  obtain ⟨A, c, h⟩ := h
  obtain ⟨b, p, rfl, hlb, ht, hc⟩ := h.toks.tail
  obtain ⟨d0, d1⟩ := cells2 h.blk
  have hlt := h.lt
  have hn := h.n
  have hcc := h.c
  have uf := Lib.frozen_of_heap h.blk
  rw [List.length_cons] at hn d0
  have c0 := hc 0 _ rfl
  have c1 := hc 1 _ rfl
  have c2 := hc 2 _ rfl
  have c3 := hc 3 _ rfl
  have c4 := hc 4 _ rfl
  rw [Nat.add_zero] at c0
  have hbs : b < w.heap.size := by omega
  have H := Lib.hid h
  have HT := Lib.hid ht
  have HE := Lib.hid he
  clear hc h ht he
  unfold tokC
  generalize (⟨t.text.toArray⟩ : ByteArray) = sb at *
  generalize t.kind = k at *
  generalize t.num = n at *
  generalize t.line = l at *
  generalize t.col = cl at *
  have hrn : 1 ≤ r.length := by
    cases r with
    | nil => exact absurd HE.out (fun h => h)
    | cons x xs => simp
  generalize hm : r.length = m at *
  have HM := Lib.hid hm
  clear hm
  have hcne : ¬ c = 1 := by omega
  go_enter Tryd.func47, Tryd.ntmps47
  go_wp2_with fail
  obtain ⟨w1, hw1⟩ : ∃ w1, w1 = w.setCell ⟨g, 0, none⟩ (.slice (some ⟨b, p + 5, none⟩) m (c - 1)) := ⟨_, rfl⟩
  rw [← hw1]
  have hz1 : w1.heap.size = w.heap.size := by rw [hw1]; simp [World.setCell]
  have hk1 : Kg g w w1 := by rw [hw1]; exact Kf.set (F := fun k => k = g) (Kf.refl _ w) (p := ⟨g, 0, none⟩) (.inl rfl) _
  have hr1 : Rdr w1 g r o := ⟨some ⟨b, p + 5, none⟩, c - 1, ⟨by rw [hw1, HM.out, Lib.heap_setCell_same H.out.blk]; rfl, by rw [HM.out]; omega, by omega, HT.out.below (hk1.low hlt), HE.out⟩⟩
  obtain ⟨w2, hw2⟩ : ∃ w2, w2 = w1.alloc (.cells #[.int .i64 k, .string sb, .int .i64 n, .int .i64 l, .int .i64 cl] 71) := ⟨_, rfl⟩
  rw [← hw2]
  have hz2 : w2.heap.size = w.heap.size + 1 := by rw [hw2]; simp [hz1]
  have hb2 : Below w1.heap.size w1 w2 := by rw [hw2]; exact below_alloc _ _
  have hb3 : Below w1.heap.size w1 (w2.alloc (.cells #[.int .i64 k, .string sb, .int .i64 n, .int .i64 l, .int .i64 cl] 71)) := hb2.trans ((below_alloc _ _).mono hb2.size)
  have hnew : w2.heap[w.heap.size]? = some (.cells #[.int .i64 k, .string sb, .int .i64 n, .int .i64 l, .int .i64 cl] 71 (0, 0)) := by rw [hw2, ← hz1]; exact blk_new _ _
  have hn2 := (below_alloc w2 (.cells #[.int .i64 k, .string sb, .int .i64 n, .int .i64 l, .int .i64 cl] 71)).block w.heap.size (by omega)
  rw [hnew] at hn2
  have p0 := Lib.cell_of_heap hn2 0
  have p1 := Lib.cell_of_heap hn2 1
  have p2 := Lib.cell_of_heap hn2 2
  have p3 := Lib.cell_of_heap hn2 3
  have p4 := Lib.cell_of_heap hn2 4
  refine bodyPost_ret (v := .agg #[.int .i64 k, .string sb, .int .i64 n, .int .i64 l, .int .i64 cl]) (by simp [results, Tryd.results47, go_sem, p0, p1, p2, p3, p4]) rfl ?_
  exact ⟨rfl, hr1.below hb3, hk1.trans' (Kg.of_below hb3)⟩
end Go.Proofs.YtmkhfcdjgdofnaaDoor
