/- The plain answer's entries: a row of scores and whether each waits; append to such a row; There, with, Grow. -/
import Derived.Test.YtffpggdbmfidcaaRLaw
namespace Go.Proofs.Ytffpggdbmfidcaa
open Go.RowKit HeapM

theorem info_ent : (Try.prog.info? 44).map (fun i => (i.zero, i.size, i.bytes)) = some (some (.agg #[.int .i64 0, .bool false]), 2, 16) := by kernel_rfl

/-- The entries as cells. -/
def cellsE (s : Nat → Int) (t : Nat → Bool) (n : Nat) : List Value := (List.range n).flatMap fun j => [Value.int .i64 (s j), Value.bool (t j)]
theorem cellsE_succ (s : Nat → Int) (t : Nat → Bool) (n : Nat) : cellsE s t (n + 1) = cellsE s t n ++ [Value.int .i64 (s n), Value.bool (t n)] := by
  simp [cellsE, List.range_succ, List.flatMap_append]
theorem cellsE_length (s : Nat → Int) (t : Nat → Bool) (n : Nat) : (cellsE s t n).length = n * 2 := by
  induction n with
  | zero => rfl
  | succ n ih => rw [cellsE_succ, List.length_append, ih]; simp; omega
theorem cellsE_get (s : Nat → Int) (t : Nat → Bool) {n j : Nat} (h : j < n) : (cellsE s t n)[j * 2]? = some (.int .i64 (s j)) ∧ (cellsE s t n)[j * 2 + 1]? = some (.bool (t j)) := by
  induction n with
  | zero => omega
  | succ n ih =>
    rw [cellsE_succ]
    have hl := cellsE_length s t n
    by_cases e : j < n
    · rw [List.getElem?_append_left (by omega), List.getElem?_append_left (by omega)]
      exact ih e
    · have : j = n := by omega
      subst this
      rw [List.getElem?_append_right (by omega), List.getElem?_append_right (by omega), hl]
      simp
theorem cellsE_congr {s s' : Nat → Int} {t t' : Nat → Bool} {n : Nat} (h : ∀ j, j < n → s' j = s j ∧ t' j = t j) : cellsE s' t' n = cellsE s t n := by
  induction n with
  | zero => rfl
  | succ n ih => rw [cellsE_succ, cellsE_succ, ih fun j hj => h j (by omega), (h n (by omega)).1, (h n (by omega)).2]
theorem cellsE_one (s : Nat → Int) (t : Nat → Bool) (n : Nat) : ∀ u ∈ cellsE s t n, u.oneCell' = true := by
  intro u hu
  simp only [cellsE, List.mem_flatMap, List.mem_range] at hu
  obtain ⟨j, _, hj⟩ := hu
  simp only [List.mem_cons, List.not_mem_nil, or_false] at hj
  rcases hj with rfl | rfl <;> rfl

/-- Block g holds the entries s, t from 0 to n - 1. -/
def RowE (w : World) (g n cap : Nat) (s : Nat → Int) (t : Nat → Bool) : Prop :=
  ∃ cur : Array Value, w.heap[g]? = some (.cells cur 44 (0, 0)) ∧ n ≤ cap ∧ cap ≤ maxLen ∧ cur.size = cap * 2 ∧ cur.toList.take (n * 2) = cellsE s t n
section
variable {w w' : World} {g n cap : Nat} {s : Nat → Int} {t : Nat → Bool}
theorem RowE.lt (h : RowE w g n cap s t) : g < w.heap.size := by
  obtain ⟨cur, h, _⟩ := h
  rcases Nat.lt_or_ge g w.heap.size with h' | h'
  · exact h'
  · rw [Array.getElem?_eq_none h'] at h; cases h
theorem RowE.same (h : RowE w g n cap s t) (hb : w'.heap[g]? = w.heap[g]?) : RowE w' g n cap s t := by
  obtain ⟨cur, h, r⟩ := h
  exact ⟨cur, by rw [hb]; exact h, r⟩
theorem RowE.below (h : RowE w g n cap s t) (hb : Below w.heap.size w w') : RowE w' g n cap s t := h.same (hb.block g h.lt)
theorem RowE.free (h : RowE w g n cap s t) (j : Nat) : w.frozen? ⟨g, j, none⟩ = false := by
  obtain ⟨cur, h, _⟩ := h
  exact Lib.frozen_of_heap h j
theorem RowE.bd (h : RowE w g n cap s t) : n ≤ cap ∧ cap ≤ 9223372036854775807 := by
  obtain ⟨cur, _, h1, h2, _⟩ := h
  unfold maxLen at h2
  exact ⟨h1, by omega⟩
theorem RowE.cells (h : RowE w g n cap s t) {j : Nat} (hj : j < n) : w.cell? ⟨g, j * 2, none⟩ = some (.int .i64 (s j)) ∧ w.cell? ⟨g, j * 2 + 1, none⟩ = some (.bool (t j)) := by
  obtain ⟨cur, h, h1, h2, h3, h4⟩ := h
  obtain ⟨e1, e2⟩ := cellsE_get s t hj
  rw [← h4] at e1 e2
  rw [List.getElem?_take_of_lt (by omega), Array.getElem?_toList] at e1 e2
  rw [Lib.cell_of_heap h, Lib.cell_of_heap h]
  exact ⟨e1, e2⟩
theorem RowE.news (h : RowE w g n cap s t) : ∀ j u, (cellsE s t n)[j]? = some u → w.cell? ((⟨g, 0, none⟩ : Addr).add j) = some u := by
  obtain ⟨cur, h, h1, h2, h3, h4⟩ := h
  intro j u hu
  have ha : ((⟨g, 0, none⟩ : Addr).add j) = ⟨g, j, none⟩ := by unfold Addr.add; split <;> simp_all
  rw [ha, Lib.cell_of_heap h]
  rw [← h4] at hu
  have hj : j < n * 2 := by
    have := (List.getElem?_eq_some_iff.1 hu).1
    rw [List.length_take] at this; omega
  rw [List.getElem?_take_of_lt hj, Array.getElem?_toList] at hu
  exact hu
theorem RowE.own (h : RowE w g n cap s t) : w.ownsRow g 44 2 (.slice (some ⟨g, 0, none⟩) n cap) n (cellsE s t n) := by
  obtain ⟨cur, h, h1, h2, h3, h4⟩ := h
  exact ⟨cellsE_length s t n, .inr ⟨g, cap, cur, rfl, Nat.le_refl _, h, h1, h2, h3, h4⟩⟩
theorem RowE.of_own {base : Nat} {v : Value} (hn : 0 < n) (h : w.ownsRow base 44 2 v n (cellsE s t n)) : ∃ g cap, v = .slice (some ⟨g, 0, none⟩) n cap ∧ base ≤ g ∧ RowE w g n cap s t := by
  rcases h.2 with ⟨_, h0⟩ | ⟨g, cap, cur, hv, hb, hh, h1, h2, h3, h4⟩
  · omega
  · exact ⟨g, cap, hv, hb, cur, hh, h1, h2, h3, h4⟩
theorem RowE.congr {s' : Nat → Int} {t' : Nat → Bool} (h : RowE w g n cap s t) (e : ∀ j, j < n → s' j = s j ∧ t' j = t j) : RowE w g n cap s' t' := by
  obtain ⟨cur, h, h1, h2, h3, h4⟩ := h
  exact ⟨cur, h, h1, h2, h3, by rw [h4, cellsE_congr e]⟩
theorem RowE.set (h : RowE w g n cap s t) {j : Nat} (_ : j < n) (x : Int) (y : Bool) : RowE ((w.setCell ⟨g, j * 2, none⟩ (.int .i64 x)).setCell ⟨g, j * 2 + 1, none⟩ (.bool y)) g n cap (upd s j x) (upd t j y) := by
  obtain ⟨cur, h, h1, h2, h3, h4⟩ := h
  refine ⟨_, Lib.heap_setCell_same (Lib.heap_setCell_same h _) _, h1, h2, by simp [h3], ?_⟩
  apply List.ext_getElem?
  intro i
  by_cases hi : i < n * 2
  · rw [List.getElem?_take_of_lt hi, Array.getElem?_toList, Array.getElem?_setIfInBounds, Array.getElem?_setIfInBounds]
    have h4' : ∀ k, k < n * 2 → cur[k]? = (cellsE s t n)[k]? := fun k hk => by rw [← h4, List.getElem?_take_of_lt hk, Array.getElem?_toList]
    have hq : i / 2 < n := by omega
    obtain ⟨a1, a2⟩ := cellsE_get (upd s j x) (upd t j y) hq
    obtain ⟨b1, b2⟩ := cellsE_get s t hq
    rcases (show i = i / 2 * 2 ∨ i = i / 2 * 2 + 1 by omega) with e | e
    · rw [e, a1, if_neg (by omega)]
      by_cases ej : i / 2 = j
      · rw [if_pos (by omega), if_pos (by omega), ej, upd_at]
      · rw [if_neg (by omega), h4' _ (by omega), b1, upd_ne _ _ ej]
    · rw [e, a2]
      by_cases ej : i / 2 = j
      · rw [if_pos (by omega), if_pos (by simp; omega), ej, upd_at]
      · rw [if_neg (by omega), if_neg (by omega), h4' _ (by omega), b2, upd_ne _ _ ej]
  · rw [List.getElem?_eq_none (by rw [List.length_take]; omega), List.getElem?_eq_none (by rw [cellsE_length]; omega)]
end
theorem cellsE_upd (s : Nat → Int) (t : Nat → Bool) (n : Nat) (x : Int) (y : Bool) : cellsE s t n ++ [Value.int .i64 x, Value.bool y] = cellsE (upd s n x) (upd t n y) (n + 1) := by
  rw [cellsE_succ, upd_at, upd_at, cellsE_congr fun j hj => ⟨upd_ne _ _ (by omega), upd_ne _ _ (by omega)⟩]

/-- append(out, x...): one entry or a whole row; out is the call's own from block base on. -/
theorem wpList_append_ent {ops : Array Oper} {rest : List Oper} {o : Oper} {a : Act} {Q : Exit → Act → World → Prop} (w : World) (hgd : o.guard = none) (s x : Operand)
    (ho : o.op = .call { callee := .builtin .append, args := #[s, x], argTypes := #[30, 30] })
    (base : Nat) (v : Value) (n : Nat) (xs : List Value) (hs : a.eval s = v) (hown : w.ownsRow base 44 2 v n xs)
    (gx m c : Nat) (news : List Value) (hx : a.eval x = .slice (some ⟨gx, 0, none⟩) m c) (hl : news.length = m * 2) (hnews : ∀ j u, news[j]? = some u → w.cell? ((⟨gx, 0, none⟩ : Addr).add j) = some u) (h1 : ∀ u ∈ news, u.oneCell' = true)
    (hn : n + m ≤ 100000) (hbase : base ≤ w.heap.size)
    (h : ∀ v' w', w'.ownsRow base 44 2 v' (n + m) (xs ++ news) → Below base w w' → wpList Try.prog ops Q rest (a.put o.dst v') w') : wpList Try.prog ops Q (o :: rest) a w := by
  obtain ⟨i0, hi, hz0, hz1, hz2⟩ := info_parts info_ent
  refine wpList_append_own w hgd s x 30 ho base 44 i0 _ 2 16 Try.underlying30 hi hz0 hz1 hz2 rfl (by decide) v n xs hs hown ⟨gx, 0, none⟩ m c news hx hl hnews h1 (by unfold maxLen; omega) (by omega) hbase ?_
  intro v' w' hown' hgrow _
  exact h v' w' hown' ((Below.refl _ _).grown hgrow hbase (fun j hj => (hown.lt j hj).1))

/-- What a call answers that makes a new row. -/
def EntTo (n : Nat) (s : Nat → Int) (t : Nat → Bool) (w : World) (v : Value) (w' : World) : Prop := ∃ g cap, v = .slice (some ⟨g, 0, none⟩) n cap ∧ RowE w' g n cap s t ∧ w.heap.size ≤ g ∧ Below w.heap.size w w'

set_option maxHeartbeats 1600000 in
theorem there_any (A : Option Addr) (n c : Nat) (v : Int) (w : World) (hn : n ≤ 1000) (hn1 : 1 ≤ n) :
    Calls Try.prog 22 #[.slice A n c, .int .i64 v] w fun e w' => e = .returned (.bool (inB (n - 1) v)) ∧ w = w' := by
  by_cases h1 : 0 < v
  · have t1 : decide (0 < v) = true := decide_eq_true h1
    by_cases h2 : v < n
    · have HE := Lib.hid ((inB_iff (n - 1) v).2 ⟨by omega, by omega⟩)
      go_enter Try.func22, Try.ntmps22
      go_wp2_with fail
      go_ret
      exact ⟨ret_bool (by rw [HE.out]), rfl⟩
    · have HE := Lib.hid ((inB_no (n - 1) v).2 (by omega))
      go_enter Try.func22, Try.ntmps22
      go_wp2_with fail
      go_ret
      exact ⟨ret_bool (by rw [HE.out]), rfl⟩
  · have HE := Lib.hid ((inB_no (n - 1) v).2 (by omega))
    have t1 : decide (0 < v) = false := decide_eq_false h1
    go_enter Try.func22, Try.ntmps22
    go_wp2_with fail
    go_ret
    exact ⟨ret_bool (by rw [HE.out]), rfl⟩

section
variable {g n cap : Nat} {s : Nat → Int} {t : Nat → Bool}
set_option maxHeartbeats 3200000 in
set_option maxRecDepth 100000 in
theorem with_any (w : World) (h : RowE w g n cap s t) (hn : n ≤ 1000) (v : Nat) (hv : v < n) (x : Int) (y : Bool) :
    Calls Try.prog 31 #[.slice (some ⟨g, 0, none⟩) n cap, .int .i64 v, .agg #[.int .i64 x, .bool y]] w fun e w' => ∃ z, e = .returned z ∧ EntTo n (upd s v x) (upd t v y) w z w' := by
  have hb0 : Below w.heap.size w (w.alloc (.cells #[.int .i64 x, .bool y] 44)) := (Below.refl _ _).alloc (Nat.le_refl _) _
  have hb1 : Below w.heap.size w ((w.alloc (.cells #[.int .i64 x, .bool y] 44)).alloc (.cells #[] 44)) := hb0.alloc (by simp) _
  have hr1 := h.below hb1
  have hown : (((w.alloc (.cells #[.int .i64 x, .bool y] 44)).alloc (.cells #[] 44))).ownsRow (w.heap.size + 1) 44 2 (.slice (some ⟨w.heap.size + 1, 0, none⟩) 0 0) 0 [] := by
    have := World.ownsRow_made (e := 44) (size := 2) (w.alloc (.cells #[.int .i64 x, .bool y] 44)) (base := w.heap.size + 1) #[] 0 (by simp) (Nat.zero_le _) (by simp)
    simpa using this
  have HOW := Lib.hid hown
  have HR1 := Lib.hid hr1
  have HB1 := Lib.hid hb1
  have hcap := h.bd
  obtain ⟨hcap1, hcap2⟩ := hcap
  clear h hb0 hb1 hr1 hown
  go_enter Try.func31, Try.ntmps31
  go_wp2_with (at_builtin; refine wpList_append_ent _ rfl _ _ rfl (w.heap.size + 1) _ 0 [] rfl HOW.out g n cap (cellsE s t n) rfl (cellsE_length s t n) HR1.out.news (cellsE_one s t n) (by omega) (by simp) ?_)
  intro v' w1 hown1 hB1
  have hown1' : w1.ownsRow (w.heap.size + 1) 44 2 v' n (cellsE s t n) := by simpa using hown1
  obtain ⟨g1, cap1, rfl, hg1, hR1⟩ := RowE.of_own (by omega) hown1'
  have b0 : w1.cell? ⟨w.heap.size, 0, none⟩ = some (.int .i64 x) := by rw [hB1.cell (p := ⟨w.heap.size, 0, none⟩) (by simp)]; simp
  have b1 : w1.cell? ⟨w.heap.size, 1, none⟩ = some (.bool y) := by rw [hB1.cell (p := ⟨w.heap.size, 1, none⟩) (by simp)]; simp
  obtain ⟨c0, c1⟩ := hR1.cells hv
  have fz := hR1.free
  have HE : Hid (EntTo n (upd s v x) (upd t v y) w (.slice (some ⟨g1, 0, none⟩) n cap1) ((w1.setCell ⟨g1, v * 2, none⟩ (.int .i64 x)).setCell ⟨g1, v * 2 + 1, none⟩ (.bool y))) :=
    ⟨g1, cap1, rfl, hR1.set hv x y, by omega, ((HB1.out.trans (hB1.mono (by omega))).setCell (p := ⟨g1, v * 2, none⟩) (by show w.heap.size ≤ g1; omega) _).setCell (p := ⟨g1, v * 2 + 1, none⟩) (by show w.heap.size ≤ g1; omega) _⟩
  have hc1 := hR1.bd
  obtain ⟨hc1, hc2⟩ := hc1
  clear hown1 hown1' hB1 HOW HR1 HB1 hR1
  go_wp2_with fail
  go_ret
  exact ⟨_, rfl, HE.out⟩
end
end Go.Proofs.Ytffpggdbmfidcaa
