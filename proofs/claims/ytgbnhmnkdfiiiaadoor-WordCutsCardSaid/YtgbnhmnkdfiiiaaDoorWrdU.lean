/- The plain answer's Cut: the loop's state. -/
import Derived.Test.YtgbnhmnkdfiiiaaDoorWrdQ
import Derived.Test.YtgbnhmnkdfiiiaaDoorWrdG
import Derived.IntWalk
namespace Go.Proofs.YtgbnhmnkdfiiiaaDoor
open Go.RowKit WrdM

/-- The state: how far the text is cut, the words so far. -/
structure PcSt (s : List UInt8) (w1 wr : World) (b3 a : Nat) (r : Bool) (ts : List Tok) (A : Option Addr) (c : Nat) : Prop where
  row : SlV 33 5 wr A ts.length c (tkF ts)
  lo : ∀ k, onB A k → b3 < k
  bel : Below (b3 + 1) w1 wr
  goe : go 0 false 1 1 s = Out.pre ts (go 0 r (adv 1 1 (s.take a)).1 (adv 1 1 (s.take a)).2 (s.drop a))
  n : ts.length ≤ a
  a : a ≤ s.length
section
variable {s : List UInt8} {w1 wr w' : World} {b3 a : Nat} {r : Bool} {ts : List Tok} {A : Option Addr} {c : Nat}
theorem drop_cons (s : List UInt8) (a : Nat) (ha : a < s.length) : s.drop a = s.getD a 0 :: s.drop (a + 1) := by
  rw [List.drop_eq_getElem_cons ha, List.getD_eq_getElem?_getD, List.getElem?_eq_getElem ha]; rfl
/-- A byte is passed over. -/
theorem PcSt.skip (h : PcSt s w1 wr b3 a r ts A c) (ha : a < s.length) (r' : Bool) (hb : Below (b3 + 1) wr w') (hr : SlV 33 5 w' A ts.length c (tkF ts))
    (hg : ∀ L C, go 0 r L C (s.drop a) = go 0 r' (nl L (s.getD a 0)) (nc C (s.getD a 0)) (s.drop (a + 1))) : PcSt s w1 w' b3 (a + 1) r' ts A c := by
  refine ⟨hr, h.lo, h.bel.trans (hb.mono (Nat.le_refl _)), ?_, Nat.le_trans h.n (by omega), ha⟩
  rw [h.goe, hg, adv_snoc s a ha]
/-- The state's bytes: how a round goes. -/
theorem go_cases (s : List UInt8) (a : Nat) (r : Bool) (ha : a < s.length) (x : UInt8) (hx : s.getD a 0 = x) :
    ((x == 10) = true ∧ ∀ L C, go 0 r L C (s.drop a) = go 0 false (nl L x) (nc C x) (s.drop (a + 1))) ∨
    ((x == 10) = false ∧ r = true ∧ ∀ L C, go 0 r L C (s.drop a) = go 0 true (nl L x) (nc C x) (s.drop (a + 1))) ∨
    ((x == 10) = false ∧ r = false ∧ rem2 (s.drop a) = true ∧ ∀ L C, go 0 r L C (s.drop a) = go 0 true (nl L x) (nc C x) (s.drop (a + 1))) ∨
    ((x == 10) = false ∧ r = false ∧ rem2 (s.drop a) = false ∧ ((x == 32) = true ∨ (x == 32) = false ∧ (x == 9) = true) ∧ ∀ L C, go 0 r L C (s.drop a) = go 0 false (nl L x) (nc C x) (s.drop (a + 1))) ∨
    ((x == 10) = false ∧ r = false ∧ rem2 (s.drop a) = false ∧ (x == 32) = false ∧ (x == 9) = false) := by
  have hd := drop_cons s a ha
  rw [hx] at hd
  rcases h10 : (x == 10) with _ | _
  · right
    rcases r with _ | _
    · right
      rcases hr : rem2 (s.drop a) with _ | _
      · right
        have hr' := hr
        rw [hd] at hr'
        rcases h32 : (x == 32) with _ | _
        · rcases h9 : (x == 9) with _ | _
          · right; exact ⟨rfl, rfl, rfl, rfl, rfl⟩
          · left
            refine ⟨rfl, rfl, rfl, .inr ⟨rfl, rfl⟩, fun L C => ?_⟩
            rw [hd]
            conv => lhs; unfold go
            simp [h10, hr', blkB, h9, nl, nc]
        · left
          refine ⟨rfl, rfl, rfl, .inl rfl, fun L C => ?_⟩
          rw [hd]
          conv => lhs; unfold go
          simp [h10, hr', blkB, h32, nl, nc]
      · left
        refine ⟨rfl, rfl, rfl, fun L C => ?_⟩
        rw [hd] at hr ⊢
        conv => lhs; unfold go
        simp [h10, hr, nl, nc]
    · left
      refine ⟨rfl, rfl, fun L C => ?_⟩
      rw [hd]
      conv => lhs; unfold go
      simp [h10, nl, nc]
  · left
    refine ⟨rfl, fun L C => ?_⟩
    rw [hd]
    conv => lhs; unfold go
    simp [h10, nl, nc]
end
theorem bq (x y : UInt8) : (x == y) = (y == x) := by rw [Bool.eq_iff_iff, beq_iff_eq, beq_iff_eq]; exact eq_comm
theorem rem2_at (s : List UInt8) (a : Nat) (ha : a < s.length) : rem2 (s.drop a) = ((s.getD a 0 == 47) && (decide (a + 1 < s.length) && (s.getD (a + 1) 0 == 47))) := by
  rw [drop_cons s a ha]
  by_cases h2 : a + 1 < s.length
  · rw [drop_cons s (a + 1) h2]
    simp only [rem2, List.isPrefixOf, decide_eq_true h2, Bool.true_and, Bool.and_true]
    rw [bq 47, bq 47]
  · rw [List.drop_eq_nil_of_le (by omega)]
    simp [rem2, List.isPrefixOf, h2]
/-- The plain answer's word: what the code's word is, by its length. -/
theorem wordL_n (l : List UInt8) : wordL l = if headB letB l then namW (l.take (wordN l)) else if headB digB l then digW (l.take (wordN l)) else sgnW (l.take (wordN l)) := by
  have ht : ∀ p : UInt8 → Bool, l.take (l.takeWhile p).length = l.takeWhile p := fun p => by
    conv => lhs; rw [← List.takeWhile_append_dropWhile (p := p) (l := l)]
    have : ((l.takeWhile p) ++ l.dropWhile p).takeWhile p = l.takeWhile p := by rw [List.takeWhile_append_dropWhile]
    rw [this, List.take_left]
  unfold wordL wordN
  by_cases h1 : headB letB l = true
  · simp only [h1, if_true, ht]
  · simp only [h1, Bool.false_eq_true, if_false]
    by_cases h2 : headB digB l = true
    · simp only [h2, if_true, ht]
    · simp only [h2, Bool.false_eq_true, if_false]
      have hs : l.take (signW l).length = signW l := by
        rcases signW_pre l with h | ⟨_, r, h⟩
        · rw [h]; rfl
        · conv => lhs; arg 2; rw [h]
          rw [List.take_left]
      rw [hs]
theorem wordN_le (l : List UInt8) : wordN l ≤ l.length := by
  unfold wordN
  split
  · exact (List.takeWhile_sublist _).length_le
  · split
    · exact (List.takeWhile_sublist _).length_le
    · rcases signW_pre l with h | ⟨_, r, h⟩
      · rw [h]; simp
      · have := congrArg List.length h
        rw [List.length_append] at this
        omega
theorem take_add (s tx : List UInt8) (a : Nat) (q : List UInt8) (h : s.drop a = tx ++ q) (ha : a ≤ s.length) : s.take (a + tx.length) = s.take a ++ tx ∧ s.drop (a + tx.length) = q ∧ a + tx.length ≤ s.length := by
  have hl := congrArg List.length h
  rw [List.length_drop, List.length_append] at hl
  refine ⟨?_, by rw [← List.drop_drop, h, List.drop_left], by omega⟩
  rw [List.take_add, h, List.take_left]
/-- A word more. -/
theorem PcSt.word {s : List UInt8} {w1 wr vd v4 : World} {b3 a : Nat} {ts : List Tok} {A : Option Addr} {c : Nat} (h : PcSt s w1 wr b3 a false ts A c) (ha : a < s.length) {k n : Int} {tx : List UInt8} {g4 c4 : Nat}
    (hb : blkB (s.getD a 0) = false) (hr : rem2 (s.drop a) = false) (hw : wordL (s.drop a) = ⟨0, k, tx, n⟩) (hbel : Below (b3 + 1) wr vd) (hsz : b3 + 1 ≤ vd.heap.size)
    (hrow : RowV 33 5 v4 g4 (ts.length + 1) c4 (appV (tkF ts) (ts.length * 5) [.int .i64 k, .string ⟨tx.toArray⟩, .int .i64 n, .int .i64 (adv 1 1 (s.take a)).1, .int .i64 (adv 1 1 (s.take a)).2]))
    (hg : onB A g4 ∨ vd.heap.size ≤ g4) (hk : Kf (onB A) vd v4) :
    PcSt s w1 v4 b3 (a + tx.length) false (ts ++ [⟨k, tx, n, (adv 1 1 (s.take a)).1, (adv 1 1 (s.take a)).2⟩]) (some ⟨g4, 0, none⟩) c4 ∧ 1 ≤ tx.length := by
  have he : (wordL (s.drop a)).err = 0 := by rw [hw]
  obtain ⟨d, ds, q, e1, e2, e3, _⟩ := wordL_pre _ he
  rw [hw] at e1 e2 e3
  simp only at e1 e2 e3
  have hflat : ∀ y ∈ tx, (y == 10) = false := by
    intro y hy
    rw [List.all_eq_true] at e3
    have := e3 y hy
    simp [blkB] at this
    simpa using this.2
  obtain ⟨t1, t2, t3⟩ := take_add s tx a q e2 h.a
  have hlen : 1 ≤ tx.length := by rw [e1]; simp
  have hlt : b3 < g4 := by
    rcases hg with e | e
    · exact h.lo _ e
    · omega
  have hd := drop_cons s a ha
  refine ⟨⟨.inr ⟨g4, rfl, ?_⟩, ?_, ?_, ?_, ?_, t3⟩, hlen⟩
  · rw [List.length_append]
    exact hrow.congr fun j hj => tkF_snoc ts _ j hj
  · rintro j ⟨x, hx, rfl⟩
    injection hx with hx; subst hx; exact hlt
  · exact (h.bel.trans (hbel.mono (Nat.le_refl _))).trans ((hk.below hsz (fun x hx => by have := h.lo x hx; omega)).mono (Nat.le_refl _))
  · rw [h.goe]
    have hw2 := hw
    have hr2 := hr
    have he2 := he
    rw [hd] at hw2 hr2 he2
    have hgo := go_word _ _ (adv 1 1 (s.take a)).1 (adv 1 1 (s.take a)).2 hb hr2 he2
    rw [hw2, ← hd] at hgo
    simp only [at_] at hgo
    rw [hgo, Out.pre_pre, t1, adv_app, adv_flat tx _ _ hflat, t2]
    congr 2
    rw [e2, List.drop_left]
  · rw [List.length_append]
    have := h.n
    simp
    omega
theorem PcSt.bad {s : List UInt8} {w1 wr : World} {b3 a : Nat} {ts : List Tok} {A : Option Addr} {c : Nat} (h : PcSt s w1 wr b3 a false ts A c) (ha : a < s.length) {er : Int}
    (hb : blkB (s.getD a 0) = false) (hr : rem2 (s.drop a) = false) (hw : (wordL (s.drop a)).err = er) (he : er ≠ 0) : go 0 false 1 1 s = .bad er (adv 1 1 (s.take a)).1 (adv 1 1 (s.take a)).2 := by
  have hd := drop_cons s a ha
  rw [h.goe, hd]
  rw [hd] at hr hw
  rw [go_bad _ _ _ _ hb hr (by rw [hw]; exact he), hw]
  rfl
theorem PcSt.done {s : List UInt8} {w1 wr : World} {b3 : Nat} {r : Bool} {ts : List Tok} {A : Option Addr} {c : Nat} (h : PcSt s w1 wr b3 s.length r ts A c) : go 0 false 1 1 s = .ok (ts ++ [⟨5, [], 0, (adv 1 1 s).1, (adv 1 1 s).2⟩]) := by
  rw [h.goe, List.drop_length, go_nil, List.take_length]; rfl
theorem byteq (c : UInt8) (k : Nat) (hk : k < 256) : (((c.toNat : Nat) : Int) == (k : Int)) = (c == UInt8.ofNat k) := by
  rw [Bool.eq_iff_iff, beq_iff_eq, beq_iff_eq]
  constructor
  · intro e; apply UInt8.toNat_inj.1; rw [UInt8.toNat_ofNat']; omega
  · intro e; rw [e, UInt8.toNat_ofNat']; omega
/-- The four tests on a byte. -/
theorem byte_tests (x : UInt8) : (((x.toNat : Nat) : Int) == 10) = (x == 10) ∧ (((x.toNat : Nat) : Int) == 47) = (x == 47) ∧ (((x.toNat : Nat) : Int) == 32) = (x == 32) ∧ (((x.toNat : Nat) : Int) == 9) = (x == 9) :=
  ⟨byteq x 10 (by decide), byteq x 47 (by decide), byteq x 32 (by decide), byteq x 9 (by decide)⟩
theorem ne_of (x : UInt8) {k j : UInt8} (h : (x == k) = true) (hk : (k == j) = false) : (x == j) = false := by
  rw [beq_iff_eq] at h; rw [h]; exact hk

/-- The word that is being made, in its box, beside the words so far. -/
structure TkSt (wr W : World) (b3 : Nat) (A : Option Addr) (c : Nat) (ts : List Tok) (bt : Nat) (k : Int) (xb : ByteArray) (n L C : Int) : Prop where
  box : W.heap[bt]? = some (.cells #[.int .i64 k, .string xb, .int .i64 n, .int .i64 L, .int .i64 C] 33 (0, 0))
  row : SlV 33 5 W A ts.length c (tkF ts)
  bel : Below (b3 + 1) wr W
  lo : b3 < bt
  off : ¬ onB A bt
section
variable {wr W W' : World} {b3 c bt : Nat} {A : Option Addr} {ts : List Tok} {k n L C : Int} {xb : ByteArray}
theorem TkSt.below (h : TkSt wr W b3 A c ts bt k xb n L C) (hb : Below W.heap.size W W') : TkSt wr W' b3 A c ts bt k xb n L C :=
  ⟨(hb.block bt (lt_of_heap h.box)).trans h.box, h.row.below hb, h.bel.trans (hb.mono (by have := lt_of_heap h.box; have := h.lo; omega)), h.lo, h.off⟩
theorem TkSt.kind (h : TkSt wr W b3 A c ts bt k xb n L C) (k' : Int) : TkSt wr (W.setCell ⟨bt, 0, none⟩ (.int .i64 k')) b3 A c ts bt k' xb n L C :=
  ⟨by rw [Lib.heap_setCell_same h.box]; rfl, h.row.other h.off _, h.bel.setCell (p := ⟨bt, 0, none⟩) (by show b3 + 1 ≤ bt; have := h.lo; omega) _, h.lo, h.off⟩
theorem TkSt.num (h : TkSt wr W b3 A c ts bt k xb n L C) (n' : Int) : TkSt wr (W.setCell ⟨bt, 2, none⟩ (.int .i64 n')) b3 A c ts bt k xb n' L C :=
  ⟨by rw [Lib.heap_setCell_same h.box]; rfl, h.row.other h.off _, h.bel.setCell (p := ⟨bt, 2, none⟩) (by show b3 + 1 ≤ bt; have := h.lo; omega) _, h.lo, h.off⟩
theorem TkSt.drew (h : TkSt wr W b3 A c ts bt k xb n L C) : TkSt wr W.drew b3 A c ts bt k xb n L C := h.below (Below.drew (Below.refl _ _))
theorem TkSt.start {w2 : World} (hr : SlV 33 5 wr A ts.length c (tkF ts)) (hb : Below wr.heap.size wr w2) (hl : b3 < wr.heap.size) (k : Int) (xb : ByteArray) (n L C : Int) :
    TkSt wr (w2.alloc (.cells #[.int .i64 k, .string xb, .int .i64 n, .int .i64 L, .int .i64 C] 33)) b3 A c ts w2.heap.size k xb n L C := by
  have hal := below_alloc w2 (.cells #[.int .i64 k, .string xb, .int .i64 n, .int .i64 L, .int .i64 C] 33)
  have h2 := hb.trans (hal.mono hb.size)
  exact ⟨blk_new _ _, hr.below h2, h2.mono (by omega), by have := hb.size; omega, fun e => by have := hr.lt _ e; have := hb.size; omega⟩
/-- What the append of the word wants. -/
theorem TkSt.app (h : TkSt wr W b3 A c ts bt k xb n L C) (vd : World) (hvd : vd = W.alloc (.cells #[.int .i64 k, .string xb, .int .i64 n, .int .i64 L, .int .i64 C] 33)) :
    SlV 33 5 vd A ts.length c (tkF ts) ∧ (∀ j u, ([.int .i64 k, .string xb, .int .i64 n, .int .i64 L, .int .i64 C] : List Value)[j]? = some u → vd.cell? ((⟨W.heap.size, 0, none⟩ : Addr).add j) = some u) ∧
    Below (b3 + 1) wr vd ∧ b3 + 1 ≤ vd.heap.size := by
  subst hvd
  have hal := below_alloc W (.cells #[.int .i64 k, .string xb, .int .i64 n, .int .i64 L, .int .i64 C] 33)
  have h2 := h.below hal
  exact ⟨h2.row, box_news W _ _, h2.bel, by have := lt_of_heap h2.box; have := h2.lo; omega⟩
end
theorem kept_len (l : List UInt8) (h : keptB l = true) : l.length ≤ 32 := by
  have hm : l ∈ keptL := by
    have : keptL.contains l = true := h
    simpa using this
  have : ∀ y ∈ keptL, y.length ≤ 32 := by decide
  exact this l hm
theorem sign47 (l : List UInt8) (h : headB (fun x => x == 47) l = true) : signW l = [] := by
  rcases signW_pre l with h2 | ⟨h2, r, h3⟩
  · exact h2
  · obtain ⟨k1, _, k3⟩ := signL_bytes _ h2
    cases hs : signW l with
    | nil => rfl
    | cons d ds =>
      have := k3 d (by rw [hs]; simp)
      rw [h3, hs] at h
      have h47 : d = 47 := by simpa [headB] using h
      exact absurd h47 this.2.1
theorem let47 : letB 47 = false ∧ digB 47 = false := by decide
theorem let_dig (x : UInt8) (h : letB x = true) : digB x = false := by
  have h2 : ∀ n : Nat, n < 256 → letB (UInt8.ofNat n) = true → digB (UInt8.ofNat n) = false := by decide +kernel
  have := h2 x.toNat (UInt8.toNat_lt x)
  rw [UInt8.ofNat_toNat] at this
  exact this h
theorem pow8 : ∀ k, k ≤ 8 → (10 : Int) ^ k ≤ 100000000 := by decide
theorem numL_bd8 {s : List UInt8} (h : s.all digB = true) : ∀ k, k ≤ s.length → k ≤ 8 → 0 ≤ numL (s.take k) ∧ numL (s.take k) < 10 ^ k
  | 0, _, _ => by simp [numL]
  | k + 1, hk, h8 => by
    have ih := numL_bd8 h k (by omega) (by omega)
    have hd := digits_get h k (by omega)
    rw [numL_snoc s k (by omega)]
    have : (10 : Int) ^ (k + 1) = 10 ^ k * 10 := by rw [Int.pow_succ]
    omega
theorem all_take {l : List UInt8} {p : UInt8 → Bool} {n : Nat} (h : n = (l.takeWhile p).length) : (l.take n).all p = true := by
  have : l.take n = l.takeWhile p := by
    rw [h]
    conv => lhs; rw [← List.takeWhile_append_dropWhile (p := p) (l := l)]
    have h2 : ((l.takeWhile p) ++ l.dropWhile p).takeWhile p = l.takeWhile p := by rw [List.takeWhile_append_dropWhile]
    rw [h2, List.take_left]
  rw [this]; exact takeW_all p l
end Go.Proofs.YtgbnhmnkdfiiiaaDoor
