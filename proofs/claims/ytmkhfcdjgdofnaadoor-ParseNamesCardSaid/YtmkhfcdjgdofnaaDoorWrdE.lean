/- Package word: the cutter in memory; fault, pass. -/
import Derived.Test.YtmkhfcdjgdofnaaDoorWrdD
namespace Go.Proofs.YtmkhfcdjgdofnaaDoor
open Go.RowKit WrdM

/-- A word's cells; those of many. -/
def tokC (t : Tok) : List Value := [.int .i64 t.kind, .string ⟨t.text.toArray⟩, .int .i64 t.num, .int .i64 t.line, .int .i64 t.col]
def tkF (ts : List Tok) : Nat → Value := fun j => (ts.flatMap tokC).getD j (.int .i64 0)
theorem tkC_len (ts : List Tok) : (ts.flatMap tokC).length = ts.length * 5 := by
  induction ts with
  | nil => rfl
  | cons t ts ih =>
    rw [List.flatMap_cons, List.length_append, ih, List.length_cons]
    show 5 + _ = _
    omega
theorem tkF_snoc (ts : List Tok) (t : Tok) (j : Nat) (_hj : j < (ts.length + 1) * 5) : tkF (ts ++ [t]) j = appV (tkF ts) (ts.length * 5) (tokC t) j := by
  unfold tkF appV
  have hl := tkC_len ts
  rw [List.flatMap_append, List.flatMap_singleton]
  show _ = if j < ts.length * 5 then (ts.flatMap tokC).getD j (.int .i64 0) else _
  simp only [List.getD_eq_getElem?_getD]
  by_cases h : j < ts.length * 5
  · rw [if_pos h, List.getElem?_append_left (by omega)]
  · rw [if_neg h, List.getElem?_append_right (by omega), hl]

/-- A cutter: what is left of its text, where that begins, the words so far. -/
structure CtAt (W : World) (g : Nat) (r : List UInt8) (L C : Int) (A : Option Addr) (c : Nat) (ts : List Tok) : Prop where
  blk : W.heap[g]? = some (.cells #[.string ⟨r.toArray⟩, .int .i64 L, .int .i64 C, .slice A ts.length c] 86 (0, 0))
  row : SlV 71 5 W A ts.length c (tkF ts)
  lo : ∀ k, onB A k → g < k
theorem wcel4 {W : World} {g : Nat} {a b c d : Value} {t : TypeId} {fr : Nat × Nat} (h : W.heap[g]? = some (.cells #[a, b, c, d] t fr)) :
    W.cell? ⟨g, 0, none⟩ = some a ∧ W.cell? ⟨g, 1, none⟩ = some b ∧ W.cell? ⟨g, 2, none⟩ = some c ∧ W.cell? ⟨g, 3, none⟩ = some d := by
  refine ⟨?_, ?_, ?_, ?_⟩ <;> (rw [Lib.cell_of_heap h]; rfl)
section
variable {W W' : World} {g : Nat} {r : List UInt8} {L C : Int} {A : Option Addr} {c : Nat} {ts : List Tok}
theorem CtAt.lt (h : CtAt W g r L C A c ts) : g < W.heap.size := lt_of_heap h.blk
theorem CtAt.off (h : CtAt W g r L C A c ts) : ¬ onB A g := fun e => by have := h.lo g e; omega
theorem CtAt.same (h : CtAt W g r L C A c ts) (hb : ∀ k, k < W.heap.size → W'.heap[k]? = W.heap[k]?) : CtAt W' g r L C A c ts :=
  ⟨(hb g h.lt).trans h.blk, h.row.same fun j hj => hb j (h.row.lt j hj), h.lo⟩
theorem CtAt.below (h : CtAt W g r L C A c ts) {B : Nat} (hb : Below B W W') (hB : W.heap.size ≤ B) : CtAt W' g r L C A c ts :=
  h.same fun k hk => hb.block k (by omega)
theorem CtAt.rest (h : CtAt W g r L C A c ts) (r' : List UInt8) : CtAt (W.setCell ⟨g, 0, none⟩ (.string ⟨r'.toArray⟩)) g r' L C A c ts :=
  ⟨by rw [Lib.heap_setCell_same h.blk]; rfl, h.row.other h.off _, h.lo⟩
theorem CtAt.line (h : CtAt W g r L C A c ts) (L' : Int) : CtAt (W.setCell ⟨g, 1, none⟩ (.int .i64 L')) g r L' C A c ts :=
  ⟨by rw [Lib.heap_setCell_same h.blk]; rfl, h.row.other h.off _, h.lo⟩
theorem CtAt.col (h : CtAt W g r L C A c ts) (C' : Int) : CtAt (W.setCell ⟨g, 2, none⟩ (.int .i64 C')) g r L C' A c ts :=
  ⟨by rw [Lib.heap_setCell_same h.blk]; rfl, h.row.other h.off _, h.lo⟩
end
theorem ret_agg {a b : Array Value} (h : a = b) : Ending.returned (.agg a) = .returned (.agg b) := by rw [h]

set_option maxHeartbeats 1600000 in
theorem fault_any {g : Nat} {r : List UInt8} {L C : Int} {A : Option Addr} {c : Nat} {ts : List Tok} (er : Int) (w : World) (h : CtAt w g r L C A c ts) :
    Calls Tryd.prog 41 #[.pointer (some ⟨g, 0, none⟩), .int .i64 er] w fun e w' => e = .returned (.agg #[.int .i64 er, .int .i64 L, .int .i64 C]) ∧ Below w.heap.size w w' := by
  obtain ⟨c0, c1, c2, c3⟩ := wcel4 h.blk
  have hlt := h.lt
  clear h
  go_enter Tryd.func41, Tryd.ntmps41
  go_wp2_with fail
  go_region
  go_wp2_with fail
  have hnew : (w.alloc (.cells #[.int .i64 er, .int .i64 L, .int .i64 C] 27)).drew.heap[w.heap.size]? = some (.cells #[.int .i64 er, .int .i64 L, .int .i64 C] 27 (0, 0)) := blk_new w _
  have p0 := Lib.cell_of_heap hnew 0
  have p1 := Lib.cell_of_heap hnew 1
  have p2 := Lib.cell_of_heap hnew 2
  refine bodyPost_ret (v := .agg #[.int .i64 er, .int .i64 L, .int .i64 C]) (by simp [results, Tryd.results41, go_sem, p0, p1, p2]) rfl ?_
  exact ⟨rfl, Below.drew (below_alloc _ _)⟩

/-- The last line end. -/
theorem last_ten (p : List UInt8) (k : Nat) (hk : k ≤ p.length) : (Lib.lastIdx ⟨p.toArray⟩ 10 k = -1 ∧ ∀ j, j < k → (p.getD j 0 == 10) = false) ∨
    (∃ i : Nat, i < k ∧ Lib.lastIdx ⟨p.toArray⟩ 10 k = i ∧ (p.getD i 0 == 10) = true ∧ ∀ j, i < j → j < k → (p.getD j 0 == 10) = false) := by
  have hat : ∀ j, j < p.length → ((⟨p.toArray⟩ : ByteArray).data[j]!) = p.getD j 0 := fun j hj => by
    rw [List.getD_eq_getElem?_getD, List.getElem?_eq_getElem hj]
    show (p.toArray)[j]! = _
    rw [getElem!_pos p.toArray j (by simpa using hj)]
    simp
  have hb : ∀ j, j < p.length → ((((⟨p.toArray⟩ : ByteArray).data[j]!).toNat : Int) = 10 ↔ (p.getD j 0 == 10) = true) := fun j hj => by
    rw [hat j hj, beq_iff_eq]
    constructor
    · intro e; exact UInt8.toNat_inj.1 (by show _ = 10; omega)
    · intro e; rw [e]; rfl
  rcases Lib.lastIdx_spec ⟨p.toArray⟩ 10 k with ⟨h1, h2⟩ | ⟨i, h1, h2, h3, h4⟩
  · exact .inl ⟨h1, fun j hj => by rw [Bool.eq_false_iff]; exact fun e => h2 j hj ((hb j (by omega)).2 e)⟩
  · exact .inr ⟨i, h1, h2, (hb i (by omega)).1 h3, fun j h5 h6 => by rw [Bool.eq_false_iff]; exact fun e => h4 j h5 h6 ((hb j (by omega)).2 e)⟩
theorem mem_getD {p : List UInt8} {x : UInt8} (h : x ∈ p) : ∃ j, j < p.length ∧ p.getD j 0 = x := by
  obtain ⟨j, hj, e⟩ := List.getElem_of_mem h
  exact ⟨j, hj, by rw [List.getD_eq_getElem?_getD, List.getElem?_eq_getElem hj]; exact e⟩
theorem adv_cases (p : List UInt8) (L C : Int) : (p.count 10 = 0 ∧ adv L C p = (L, C + p.length)) ∨
    (0 < p.count 10 ∧ ∃ a : Nat, a < p.length ∧ Lib.lastIndexByte ⟨p.toArray⟩ 10 = a ∧ adv L C p = (L + (p.count 10 : Nat), (p.length : Int) - a)) := by
  have hll : Lib.lastIndexByte ⟨p.toArray⟩ 10 = Lib.lastIdx ⟨p.toArray⟩ 10 p.length := by unfold Lib.lastIndexByte; rw [size_mk]
  rcases last_ten p p.length (Nat.le_refl _) with ⟨_, h2⟩ | ⟨i, h1, h2, h3, h4⟩
  · have hno : ∀ x ∈ p, (x == 10) = false := fun x hx => by
      obtain ⟨j, hj, e⟩ := mem_getD hx
      rw [← e]; exact h2 j hj
    refine .inl ⟨?_, adv_flat p L C hno⟩
    rw [List.count_eq_zero]
    intro hm
    have := hno 10 hm
    revert this; decide
  · right
    have hsp : p = p.take i ++ 10 :: p.drop (i + 1) := by
      conv => lhs; rw [← List.take_append_drop i p]
      congr 1
      rw [List.drop_eq_getElem_cons h1]
      congr 1
      rw [List.getD_eq_getElem?_getD, List.getElem?_eq_getElem h1, beq_iff_eq] at h3
      exact h3
    have hq : ∀ x ∈ p.drop (i + 1), (x == 10) = false := fun x hx => by
      obtain ⟨j, hj, e⟩ := mem_getD hx
      rw [List.length_drop] at hj
      rw [← e, List.getD_eq_getElem?_getD, List.getElem?_drop, ← List.getD_eq_getElem?_getD]
      exact h4 _ (by omega) (by omega)
    have hc := adv_col (p.take i) (p.drop (i + 1)) L C hq
    rw [← hsp, List.length_drop] at hc
    have hl := adv_line p L C
    refine ⟨?_, i, h1, by rw [hll, h2], Prod.ext hl (by rw [hc]; show ((p.length - (i + 1) : Nat) : Int) + 1 = (p.length : Int) - i; omega)⟩
    rw [hsp, List.count_append, List.count_cons]
    simp only [BEq.rfl, if_true]
    omega
theorem last_any (s : List UInt8) (w : World) (hs : s.length < 4611686018427387904) :
    Calls Tryd.prog 85 #[.string ⟨s.toArray⟩, .int .u8 10] w fun e w' => e = .returned (.int .i64 (Lib.lastIndexByte ⟨s.toArray⟩ 10)) ∧ w = w' := by
  refine (Any.strings_LastIndexByte Tryd.lays149 ⟨s.toArray⟩ 10 (by rw [size_mk]; exact hs) w).mono ?_
  rintro e w' ⟨rfl, rfl⟩
  exact ⟨rfl, rfl⟩
/-- The cutter is left so. -/
def CtTo (g : Nat) (r : List UInt8) (L C : Int) (A : Option Addr) (c : Nat) (ts : List Tok) (w : World) (e : Ending) (w' : World) : Prop :=
  e = .returned (.tuple #[]) ∧ CtAt w' g r L C A c ts ∧ Below g w w'

set_option maxHeartbeats 1600000 in
theorem pass_any {g : Nat} {r : List UInt8} {L C : Int} {A : Option Addr} {c : Nat} {ts : List Tok} (p : List UInt8) (w : World) (h : CtAt w g (p ++ r) L C A c ts)
    (hp : p.length ≤ 70000) (hL0 : 0 ≤ L) (hL : L ≤ 70000) (hC0 : 0 ≤ C) (hC : C ≤ 70000) :
    Calls Tryd.prog 61 #[.pointer (some ⟨g, 0, none⟩), .string ⟨p.toArray⟩] w (CtTo g r (adv L C p).1 (adv L C p).2 A c ts w) := by
  obtain ⟨c0, c1, c2, c3⟩ := wcel4 h.blk
  have uf := Lib.frozen_of_heap h.blk
  have hlt := h.lt
  have H := Lib.hid h
  obtain ⟨pb, hpb⟩ : ∃ pb : ByteArray, pb = ⟨p.toArray⟩ := ⟨_, rfl⟩
  obtain ⟨sb, hsb⟩ : ∃ sb : ByteArray, sb = ⟨(p ++ r).toArray⟩ := ⟨_, rfl⟩
  obtain ⟨rb, hrb⟩ : ∃ rb : ByteArray, rb = ⟨r.toArray⟩ := ⟨_, rfl⟩
  have hn : (pb.size : Int) = (p.length : Int) := by rw [hpb, size_mk]
  have hn2 : pb.size = p.length := by rw [hpb, size_mk]
  have hle : p.length ≤ sb.size := by rw [hsb, size_mk, List.length_append]; omega
  have hex : sb.extract p.length sb.size = rb := by
    rw [hsb, hrb, extract_mk, List.drop_left, List.take_of_length_le (by rw [size_mk, List.length_append]; omega)]
  have HCN := Lib.hid (count_any p)
  have HLA := Lib.hid fun W => last_any p W (by omega)
  have HB0 := Lib.hid (Below.refl g w)
  rw [← hpb] at HCN HLA
  rw [← hsb] at c0
  have HRB := Lib.hid hrb
  have hac := adv_cases p L C
  rw [← hpb] at hac ⊢
  have h1 := h.rest r
  rw [← hrb] at h1
  rcases hac with ⟨hz, ha⟩ | ⟨hz, a, hal, hla, ha⟩
  · have HE := Lib.hid (show CtTo g r (adv L C p).1 (adv L C p).2 A c ts w (.returned (.tuple #[])) ((w.setCell ⟨g, 0, none⟩ (.string rb)).setCell ⟨g, 2, none⟩ (.int .i64 (C + (p.length : Int)))) from by
      rw [ha]
      exact ⟨rfl, h1.col _, ((Below.refl g w).setCell (p := ⟨g, 0, none⟩) (Nat.le_refl _) _).setCell (p := ⟨g, 2, none⟩) (Nat.le_refl _) _⟩)
    have t1 : decide ((0 : Int) < ((p.count 10 : Nat) : Int)) = false := decide_eq_false (by omega)
    have t2 : decide (0 < p.count 10) = false := decide_eq_false (by omega)
    clear hpb hsb hrb h h1 ha hz
    generalize p.count 10 = m at *
    go_enter Tryd.func61, Tryd.ntmps61
    go_wp2_with fail
    refine (HCN.out _).mono ?_
    rintro e w' ⟨rfl, rfl⟩
    go_wp2_with fail
    go_end0
    exact HE.out
  · have HE := Lib.hid (show CtTo g r (adv L C p).1 (adv L C p).2 A c ts w (.returned (.tuple #[])) ((((w.setCell ⟨g, 0, none⟩ (.string rb)).setCell ⟨g, 2, none⟩ (.int .i64 (C + (p.length : Int)))).setCell ⟨g, 1, none⟩ (.int .i64 (L + (p.count 10 : Nat)))).setCell ⟨g, 2, none⟩ (.int .i64 ((p.length : Int) - a))) from by
      rw [ha]
      exact ⟨rfl, ((h1.col _).line _).col _, ((((Below.refl g w).setCell (p := ⟨g, 0, none⟩) (Nat.le_refl _) _).setCell (p := ⟨g, 2, none⟩) (Nat.le_refl _) _).setCell (p := ⟨g, 1, none⟩) (Nat.le_refl _) _).setCell (p := ⟨g, 2, none⟩) (Nat.le_refl _) _⟩)
    have t1 : decide ((0 : Int) < ((p.count 10 : Nat) : Int)) = true := decide_eq_true (by omega)
    have t2 : decide (0 < p.count 10) = true := decide_eq_true hz
    have hml : p.count 10 ≤ p.length := List.count_le_length
    rw [hla] at HLA
    clear hpb hsb hrb h h1 ha hz hla
    generalize p.count 10 = m at *
    go_enter Tryd.func61, Tryd.ntmps61
    go_wp2_with fail
    refine (HCN.out _).mono ?_
    rintro e w' ⟨rfl, rfl⟩
    go_wp2_with fail
    refine (HLA.out _).mono ?_
    rintro e w' ⟨rfl, rfl⟩
    go_wp2_with fail
    go_end0
    exact HE.out
end Go.Proofs.YtmkhfcdjgdofnaaDoor
