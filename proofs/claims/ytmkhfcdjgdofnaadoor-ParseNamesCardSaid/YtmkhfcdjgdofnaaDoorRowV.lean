/- Rows of cells in blocks of the call's own, whatever their element is; append; what stays. -/
import Derived.Test.YtmkhfcdjgdofnaaDoorKf
import Derived.Laws.MakeOwn
import Derived.OwnWalk
import Derived.Laws.AppendOwnNone
import Derived.Deep.WholeRow
import Derived.Great.BuildSlice
namespace Go.Proofs.YtmkhfcdjgdofnaaDoor
open Go.RowKit

/-- f, but x at i. -/
def updV (f : Nat → Value) (i : Nat) (x : Value) : Nat → Value := fun k => if k = i then x else f k
theorem updV_at (f : Nat → Value) (i : Nat) (x : Value) : updV f i x i = x := by simp [updV]
theorem updV_ne (f : Nat → Value) {i k : Nat} (x : Value) (h : k ≠ i) : updV f i x k = f k := by simp [updV, h]
/-- f up to p, then the list. -/
def appV (f : Nat → Value) (p : Nat) (l : List Value) : Nat → Value := fun k => if k < p then f k else l.getD (k - p) (.int .i64 0)

theorem blk_new (w : World) (o : Obj) : (w.alloc o).heap[w.heap.size]? = some o := by show (w.heap.push o)[w.heap.size]? = _; simp
theorem lt_of_heap {w : World} {g : Nat} {o : Obj} (h : w.heap[g]? = some o) : g < w.heap.size := by
  rcases Nat.lt_or_ge g w.heap.size with h' | h'
  · exact h'
  · rw [Array.getElem?_eq_none h'] at h; cases h

/-- Block g holds n elements of k cells each, which read f, and has room for cap. -/
def RowV (T : TypeId) (k : Nat) (w : World) (g n cap : Nat) (f : Nat → Value) : Prop :=
  ∃ cur : Array Value, w.heap[g]? = some (.cells cur T (0, 0)) ∧ n ≤ cap ∧ cap ≤ maxLen ∧ cur.size = cap * k ∧ ∀ j, j < n * k → cur[j]? = some (f j)
section
variable {T : TypeId} {k : Nat} {w w' : World} {g n cap : Nat} {f : Nat → Value}
theorem RowV.lt (h : RowV T k w g n cap f) : g < w.heap.size := by
  obtain ⟨cur, h, _⟩ := h
  exact lt_of_heap h
theorem RowV.cell (h : RowV T k w g n cap f) {j : Nat} (hj : j < n * k) : w.cell? ⟨g, j, none⟩ = some (f j) := by
  obtain ⟨cur, h, _, _, _, hc⟩ := h
  rw [Lib.cell_of_heap h]; exact hc j hj
theorem RowV.free (h : RowV T k w g n cap f) (j : Nat) : w.frozen? ⟨g, j, none⟩ = false := by
  obtain ⟨cur, h, _⟩ := h
  exact Lib.frozen_of_heap h j
theorem RowV.same (h : RowV T k w g n cap f) (hb : w'.heap[g]? = w.heap[g]?) : RowV T k w' g n cap f := by
  obtain ⟨cur, h, r⟩ := h
  exact ⟨cur, by rw [hb]; exact h, r⟩
theorem RowV.set (h : RowV T k w g n cap f) {j : Nat} (hj : j < n * k) (x : Value) : RowV T k (w.setCell ⟨g, j, none⟩ x) g n cap (updV f j x) := by
  obtain ⟨cur, h, h1, h2, h3, hc⟩ := h
  have hjc : j < cur.size := by rw [h3]; exact Nat.lt_of_lt_of_le hj (Nat.mul_le_mul_right _ h1)
  refine ⟨_, Lib.heap_setCell_same h _, h1, h2, by simp [h3], fun i hi => ?_⟩
  rw [Array.getElem?_setIfInBounds]
  by_cases e : j = i
  · subst e; rw [if_pos rfl, if_pos hjc, updV_at]
  · rw [if_neg e, updV_ne _ _ (fun x => e x.symm)]; exact hc i hi
theorem RowV.other (h : RowV T k w g n cap f) {a : Addr} (ha : a.block ≠ g) (v : Value) : RowV T k (w.setCell a v) g n cap f :=
  h.same (Below.heap_setCell _ _ _ _ (fun e => ha e.symm))
theorem RowV.alloc (h : RowV T k w g n cap f) (o : Obj) : RowV T k (w.alloc o) g n cap f := h.same (Below.heap_alloc _ _ _ h.lt)
theorem RowV.congr {f' : Nat → Value} (h : RowV T k w g n cap f) (e : ∀ j, j < n * k → f' j = f j) : RowV T k w g n cap f' := by
  obtain ⟨cur, h, h1, h2, h3, hc⟩ := h
  exact ⟨cur, h, h1, h2, h3, fun j hj => by rw [e j hj]; exact hc j hj⟩
theorem RowV.less {n' : Nat} (h : RowV T k w g n cap f) (e : n' ≤ n) : RowV T k w g n' cap f := by
  obtain ⟨cur, h, h1, h2, h3, hc⟩ := h
  exact ⟨cur, h, by omega, h2, h3, fun j hj => hc j (Nat.lt_of_lt_of_le hj (Nat.mul_le_mul_right _ e))⟩
theorem RowV.cap_le (h : RowV T k w g n cap f) : n ≤ cap ∧ cap ≤ maxLen := by
  obtain ⟨cur, h, h1, h2, _⟩ := h
  exact ⟨h1, h2⟩
theorem RowV.bd (h : RowV T k w g n cap f) : n ≤ cap ∧ cap ≤ 9223372036854775807 := by
  have := h.cap_le
  unfold maxLen at this
  exact ⟨this.1, by omega⟩
end
/-- As the library's own word has it. -/
def cellsV (f : Nat → Value) (p : Nat) : List Value := (List.range p).map f
theorem cellsV_length (f : Nat → Value) (p : Nat) : (cellsV f p).length = p := by simp [cellsV]
theorem cellsV_get (f : Nat → Value) {p j : Nat} (h : j < p) : (cellsV f p)[j]? = some (f j) := by
  simp [cellsV, List.getElem?_map, List.getElem?_range h]
theorem cellsV_app (f : Nat → Value) (p : Nat) (l : List Value) : cellsV f p ++ l = cellsV (appV f p l) (p + l.length) := by
  apply List.ext_getElem?
  intro j
  by_cases h1 : j < p
  · rw [List.getElem?_append_left (by rw [cellsV_length]; exact h1), cellsV_get _ h1, cellsV_get _ (by omega)]
    simp [appV, h1]
  · rw [List.getElem?_append_right (by rw [cellsV_length]; omega), cellsV_length]
    by_cases h2 : j < p + l.length
    · rw [cellsV_get _ h2, List.getElem?_eq_getElem (by omega)]
      simp only [appV, h1, if_false]
      rw [List.getD, List.getElem?_eq_getElem (by omega)]; rfl
    · rw [List.getElem?_eq_none (by omega), List.getElem?_eq_none (by rw [cellsV_length]; omega)]
section
variable {T : TypeId} {k : Nat} {w w' : World} {g n cap : Nat} {f : Nat → Value}
theorem RowV.own (h : RowV T k w g n cap f) : w.ownsRow g T k (.slice (some ⟨g, 0, none⟩) n cap) n (cellsV f (n * k)) := by
  obtain ⟨cur, h, h1, h2, h3, hc⟩ := h
  refine ⟨by rw [cellsV_length], .inr ⟨g, cap, cur, rfl, Nat.le_refl _, h, h1, h2, h3, ?_⟩⟩
  have hle : n * k ≤ cur.size := by rw [h3]; exact Nat.mul_le_mul_right _ h1
  apply List.ext_getElem?
  intro j
  by_cases e : j < n * k
  · rw [cellsV_get f e, List.getElem?_take_of_lt e, Array.getElem?_toList]; exact hc j e
  · rw [List.getElem?_eq_none (l := cellsV f (n * k)) (by rw [cellsV_length]; omega), List.getElem?_eq_none (by rw [List.length_take]; omega)]
theorem RowV.of_take {cur : Array Value} (hh : w.heap[g]? = some (.cells cur T (0, 0))) (h1 : n ≤ cap) (h2 : cap ≤ maxLen) (h3 : cur.size = cap * k) (h4 : cur.toList.take (n * k) = cellsV f (n * k)) : RowV T k w g n cap f :=
  ⟨cur, hh, h1, h2, h3, fun j hj => by rw [← Array.getElem?_toList, ← List.getElem?_take_of_lt hj, h4]; exact cellsV_get f hj⟩
end

/-- A slice of n elements, nil or at the head of a block of its own, that reads f. -/
def SlV (T : TypeId) (k : Nat) (w : World) (A : Option Addr) (n c : Nat) (f : Nat → Value) : Prop :=
  (A = none ∧ n = 0 ∧ c = 0) ∨ ∃ g, A = some ⟨g, 0, none⟩ ∧ RowV T k w g n c f
/-- Is k its block? -/
def onB (A : Option Addr) (k : Nat) : Prop := ∃ a, A = some a ∧ a.block = k
theorem onB_none (k : Nat) : ¬ onB none k := by rintro ⟨a, h, _⟩; cases h
theorem onB_some (a : Addr) (k : Nat) : onB (some a) k ↔ k = a.block := by
  constructor
  · rintro ⟨b, h, rfl⟩; injection h with h; rw [h]
  · rintro rfl; exact ⟨a, rfl, rfl⟩
section
variable {T : TypeId} {k : Nat} {w w' : World} {A : Option Addr} {n c : Nat} {f : Nat → Value}
theorem SlV.nil (T : TypeId) (k : Nat) (w : World) (f : Nat → Value) : SlV T k w none 0 0 f := .inl ⟨rfl, rfl, rfl⟩
theorem SlV.row (h : SlV T k w A n c f) (hn : 0 < n) : ∃ g, A = some ⟨g, 0, none⟩ ∧ RowV T k w g n c f := by
  rcases h with ⟨_, h, _⟩ | h
  · omega
  · exact h
theorem SlV.lt (h : SlV T k w A n c f) : ∀ j, onB A j → j < w.heap.size := by
  rintro j ⟨a, ha, rfl⟩
  rcases h with ⟨rfl, _⟩ | ⟨g, rfl, h⟩
  · cases ha
  · injection ha with ha; subst ha; exact h.lt
theorem SlV.same (h : SlV T k w A n c f) (hb : ∀ j, onB A j → w'.heap[j]? = w.heap[j]?) : SlV T k w' A n c f := by
  rcases h with h | ⟨g, rfl, h⟩
  · exact .inl h
  · exact .inr ⟨g, rfl, h.same (hb g ⟨_, rfl, rfl⟩)⟩
theorem SlV.other (h : SlV T k w A n c f) {a : Addr} (ha : ¬ onB A a.block) (v : Value) : SlV T k (w.setCell a v) A n c f :=
  h.same fun _ hj => Below.heap_setCell _ _ _ _ (fun e => ha (e ▸ hj))
theorem SlV.alloc (h : SlV T k w A n c f) (o : Obj) : SlV T k (w.alloc o) A n c f := h.same fun j hj => Below.heap_alloc _ _ _ (h.lt j hj)
theorem SlV.below (h : SlV T k w A n c f) (hb : Below w.heap.size w w') : SlV T k w' A n c f := h.same fun j hj => hb.block j (h.lt j hj)
theorem SlV.congr {f' : Nat → Value} (h : SlV T k w A n c f) (e : ∀ j, j < n * k → f' j = f j) : SlV T k w A n c f' := by
  rcases h with h | ⟨g, rfl, h⟩
  · exact .inl h
  · exact .inr ⟨g, rfl, h.congr e⟩
theorem SlV.bd (h : SlV T k w A n c f) : n ≤ c ∧ c ≤ 9223372036854775807 := by
  rcases h with ⟨_, rfl, rfl⟩ | ⟨g, _, h⟩
  · omega
  · exact h.bd
theorem SlV.ownBlock (_ : SlV T k w A n c f) (j : Nat) : (Value.slice A n c).ownBlock = some j ↔ onB A j := by
  cases A with
  | none => simp [Value.ownBlock, onB]
  | some a =>
    rw [onB_some]; simp [Value.ownBlock]
    constructor <;> exact fun h => h.symm
end

/-- append(x, y...): the same block, or a new one. -/
theorem run_append_sl {P : Program} (w : World) (t ty e : TypeId) (ht : P.underlying t = some (.slice e)) {z : Value} {size bytes : Nat}
    (hinfo : (P.info? e).map (fun i => (i.zero, i.size, i.bytes)) = some (some z, size, bytes)) (hzs : z.cells.size = size) (hsz : 0 < size) (hby : bytes ≤ 1000)
    (A : Option Addr) (n c : Nat) (f : Nat → Value) (hrow : SlV e size w A n c f) (hn : n ≤ 100000)
    (ad : Addr) (m c' : Nat) (news : List Value) (hl : news.length = m * size) (hnews : ∀ j u, news[j]? = some u → w.cell? (ad.add j) = some u) (h1 : ∀ u ∈ news, u.oneCell' = true) (hm : m ≤ 100000) (hm0 : A = none → 0 < m) :
    ∃ g' cx w', (Builtin.append_ #[t, t] ty #[.slice A n c, .slice (some ad) m c']).run P w = .ok (.slice (some ⟨g', 0, none⟩) (n + m) cx) w' ∧ RowV e size w' g' (n + m) cx (appV f (n * size) news) ∧ (onB A g' ∨ w.heap.size ≤ g') ∧ (∀ B : Nat → Prop, (∀ j, onB A j → B j) → Kf B w w') := by
  obtain ⟨i0, hi, hz0, hz1, hz2⟩ := info_parts hinfo
  have hbytes : (n + m) * bytes ≤ 140737488355328 := by
    have : (n + m) * bytes ≤ 200000 * 1000 := Nat.mul_le_mul (by omega) hby
    omega
  have key : ∃ g' cx w', (Builtin.append_ #[t, t] ty #[.slice A n c, .slice (some ad) m c']).run P w = .ok (.slice (some ⟨g', 0, none⟩) (n + m) cx) w' ∧ RowV e size w' g' (n + m) cx (appV f (n * size) news) ∧ (onB A g' ∨ w.heap.size ≤ g') ∧ w.grownBy w' (Value.slice A n c).ownBlock := by
    rcases hrow with ⟨rfl, rfl, rfl⟩ | ⟨g, rfl, hrow⟩
    · obtain ⟨v', w', hr, hown, hgr, hnil⟩ := run_append_own (P := P) w w.heap.size t ty e i0 z size bytes ht hi hz0 hz1 hz2 hzs hsz (.slice none 0 0) 0 [] (World.ownsRow_nil _ _ _ _) ad m c' news hl hnews h1 (by unfold maxLen; omega) hbytes (Nat.le_refl _)
      rcases hown.2 with ⟨rfl, h0⟩ | ⟨g, cap, cur, rfl, hb, hh, q1, q2, q3, q4⟩
      · have := hm0 rfl; omega
      · refine ⟨g, cap, w', hr, RowV.of_take hh q1 q2 q3 ?_, .inr hb, hgr⟩
        rw [q4, List.nil_append]
        have := cellsV_app f 0 news
        rw [show cellsV f 0 = [] from rfl, List.nil_append, hl, Nat.zero_add] at this
        simp only [Nat.zero_add, Nat.zero_mul]
        exact this
    · have hown0 := hrow.own
      obtain ⟨v', w', hr, hown, hgr, _⟩ := run_append_own (P := P) w g t ty e i0 z size bytes ht hi hz0 hz1 hz2 hzs hsz (.slice (some ⟨g, 0, none⟩) n c) n (cellsV f (n * size)) hown0 ad m c' news hl hnews h1 (by unfold maxLen; omega) hbytes (Nat.le_of_lt hrow.lt)
      rw [cellsV_app, hl, ← Nat.add_mul] at hown
      have hform : ∃ g' cap', v' = .slice (some ⟨g', 0, none⟩) (n + m) cap' ∧ (g' = g ∨ w.heap.size ≤ g') := by
        obtain ⟨cur, hh, q1, q2, q3, q4⟩ := hrow
        by_cases hroom : n + m ≤ c
        · have hr2 := run_append_room (P := P) w t ty e i0 ht hi g n c cur hh ad m c' news (by rw [hz1]; exact hl) hnews h1 hroom (by rw [hz1, hl, q3, ← Nat.add_mul]; exact Nat.mul_le_mul_right _ hroom)
          rw [hr] at hr2
          injection hr2 with e1 e2
          exact ⟨g, c, e1, .inl rfl⟩
        · have holds : ∀ j u, (cellsV f (n * size))[j]? = some u → w.cell? ((⟨g, 0, none⟩ : Addr).add j) = some u := World.ownsRow.cells hown0 (g := g) rfl
          have hr2 := run_append_grow (P := P) w t ty e i0 z ht hi hz0 ⟨g, 0, none⟩ n c (cellsV f (n * size)) (by rw [cellsV_length, hz1]) holds ad m c' news (by rw [hz1]; exact hl) hnews (by omega) (by omega) (by rw [hz2]; exact growslice_fits (by omega) hbytes)
          rw [hr] at hr2
          injection hr2 with e1 e2
          exact ⟨_, _, e1, .inr (Nat.le_refl _)⟩
      obtain ⟨g', cap', rfl, hg'⟩ := hform
      rcases hown.2 with ⟨hv, _⟩ | ⟨g2, cap2, cur, hv, hb, hh, q1, q2, q3, q4⟩
      · cases hv
      · injection hv with e1 e2 e3
        injection e1 with e1
        injection e1 with e1
        subst e1; subst e3
        refine ⟨g', _, w', hr, RowV.of_take hh q1 q2 q3 q4, ?_, hgr⟩
        rcases hg' with e | e
        · exact .inl ((onB_some _ _).2 e)
        · exact .inr e
  obtain ⟨g', c2, w', hr, hrow', hg', hgr⟩ := key
  exact ⟨g', c2, w', hr, hrow', hg', fun B hB => (Kf.refl B w).grown hgr fun j hj => .inl (hB j ((hrow.ownBlock j).1 hj))⟩
theorem wp_append_sl {P : Program} {o : Oper} {a : Act} {K : Act → World → Prop} {Q : Exit → Act → World → Prop} (w : World) (s x : Operand) (t e : TypeId)
    (ho : o.op = .call { callee := .builtin .append, args := #[s, x], argTypes := #[t, t] }) (ht : P.underlying t = some (.slice e)) {z : Value} {size bytes : Nat}
    (hinfo : (P.info? e).map (fun i => (i.zero, i.size, i.bytes)) = some (some z, size, bytes)) (hzs : z.cells.size = size) (hsz : 0 < size) (hby : bytes ≤ 1000)
    (A : Option Addr) (n c : Nat) (f : Nat → Value) (hs : a.eval s = .slice A n c) (hrow : SlV e size w A n c f) (hn : n ≤ 100000)
    (ad : Addr) (m c' : Nat) (news : List Value) (hx : a.eval x = .slice (some ad) m c') (hl : news.length = m * size) (hnews : ∀ j u, news[j]? = some u → w.cell? (ad.add j) = some u) (h1 : ∀ u ∈ news, u.oneCell' = true) (hm : m ≤ 100000) (hm0 : 0 < m)
    (h : ∀ g' c' w', RowV e size w' g' (n + m) c' (appV f (n * size) news) → (onB A g' ∨ w.heap.size ≤ g') → (∀ B : Nat → Prop, (∀ j, onB A j → B j) → Kf B w w') → K (a.put o.dst (.slice (some ⟨g', 0, none⟩) (n + m) c')) w') :
    o.wp P a w K Q := by
  obtain ⟨g', c2, w', hr, hrow', hg', hgr⟩ := run_append_sl (P := P) w t o.type e ht hinfo hzs hsz hby A n c f hrow hn ad m c' news hl hnews h1 hm (fun _ => hm0)
  unfold Oper.wp execOp
  simp only [ho, resolve, invoke, builtin, Sem.run_bind, Sem.run_pure, Result.andThen_ok, List.map_toArray, List.map_cons, List.map_nil, hs, hx, hr]
  exact h g' c2 w' hrow' hg' hgr
theorem wpList_append_sl {P : Program} {ops : Array Oper} {rest : List Oper} {o : Oper} {a : Act} {Q : Exit → Act → World → Prop} (w : World) (hgd : o.guard = none) (s x : Operand) (t e : TypeId)
    (ho : o.op = .call { callee := .builtin .append, args := #[s, x], argTypes := #[t, t] }) (ht : P.underlying t = some (.slice e)) {z : Value} {size bytes : Nat}
    (hinfo : (P.info? e).map (fun i => (i.zero, i.size, i.bytes)) = some (some z, size, bytes)) (hzs : z.cells.size = size) (hsz : 0 < size) (hby : bytes ≤ 1000)
    (A : Option Addr) (n c : Nat) (f : Nat → Value) (hs : a.eval s = .slice A n c) (hrow : SlV e size w A n c f) (hn : n ≤ 100000)
    (ad : Addr) (m c' : Nat) (news : List Value) (hx : a.eval x = .slice (some ad) m c') (hl : news.length = m * size) (hnews : ∀ j u, news[j]? = some u → w.cell? (ad.add j) = some u) (h1 : ∀ u ∈ news, u.oneCell' = true) (hm : m ≤ 100000) (hm0 : 0 < m)
    (h : ∀ g' c' w', RowV e size w' g' (n + m) c' (appV f (n * size) news) → (onB A g' ∨ w.heap.size ≤ g') → (∀ B : Nat → Prop, (∀ j, onB A j → B j) → Kf B w w') → wpList P ops Q rest (a.put o.dst (.slice (some ⟨g', 0, none⟩) (n + m) c')) w') :
    wpList P ops Q (o :: rest) a w :=
  wpList_plain hgd fun _ hK => wp_append_sl w s x t e ho ht hinfo hzs hsz hby A n c f hs hrow hn ad m c' news hx hl hnews h1 hm hm0 fun g' c' w' h2 h3 h4 => hK _ _ (h g' c' w' h2 h3 h4)
/-- The same in a region that draws its order. -/
theorem step_append_sl {P : Program} {ops : Array Oper} {o : Oper} {a : Act} {K : Act → World → Prop} {Q : Exit → Act → World → Prop} {E : Prop} (w : World) (hgd : o.guard = none) (s x : Operand) (t e : TypeId)
    (ho : o.op = .call { callee := .builtin .append, args := #[s, x], argTypes := #[t, t] }) (ht : P.underlying t = some (.slice e)) {z : Value} {size bytes : Nat}
    (hinfo : (P.info? e).map (fun i => (i.zero, i.size, i.bytes)) = some (some z, size, bytes)) (hzs : z.cells.size = size) (hsz : 0 < size) (hby : bytes ≤ 1000)
    (A : Option Addr) (n c : Nat) (f : Nat → Value) (hs : a.eval s = .slice A n c) (hrow : SlV e size w A n c f) (hn : n ≤ 100000)
    (ad : Addr) (m c' : Nat) (news : List Value) (hx : a.eval x = .slice (some ad) m c') (hl : news.length = m * size) (hnews : ∀ j u, news[j]? = some u → w.cell? (ad.add j) = some u) (h1 : ∀ u ∈ news, u.oneCell' = true) (hm : m ≤ 100000) (hm0 : 0 < m)
    (h : ∀ g' c' w', RowV e size w' g' (n + m) c' (appV f (n * size) news) → (onB A g' ∨ w.heap.size ≤ g') → (∀ B : Nat → Prop, (∀ j, onB A j → B j) → Kf B w w') → K (a.put o.dst (.slice (some ⟨g', 0, none⟩) (n + m) c')) w') :
    if Region.wanted o (yielded ops a.tmps) = true then Oper.wp P o a w K Q else E := by
  have hw : Region.wanted o (yielded ops a.tmps) = true := by simp [Region.wanted, hgd]
  rw [if_pos hw]
  exact wp_append_sl w s x t e ho ht hinfo hzs hsz hby A n c f hs hrow hn ad m c' news hx hl hnews h1 hm hm0 h

/-- A value of one cell in a block of its own. -/
theorem box_news (w : World) (T : TypeId) (l : List Value) : ∀ j u, l[j]? = some u → (w.alloc (.cells l.toArray T)).cell? ((⟨w.heap.size, 0, none⟩ : Addr).add j) = some u := by
  intro j u hj
  have ha : ((⟨w.heap.size, 0, none⟩ : Addr).add j) = ⟨w.heap.size, j, none⟩ := by unfold Addr.add; split <;> simp_all
  rw [ha, Lib.cell_of_heap (cs := l.toArray) (T := T) (fr := (0, 0)) (blk_new _ _)]
  simpa using hj
/-- make of n elements, whatever the world. -/
theorem make_sl {P : Program} (t e : TypeId) (ht : P.underlying t = some (.slice e)) {z : Value} {size bytes : Nat} (hinfo : (P.info? e).map (fun i => (i.zero, i.size, i.bytes)) = some (some z, size, bytes)) (hzs : z.cells.size = size) (hs : size ≤ 100) (hby : bytes ≤ 1000) (n : Nat) (hn : n ≤ 100001) :
    ∃ C : Array Value, C.size = n * size ∧ (∀ j, j < n * size → C[j]? = some (z.cells[j % size]!)) ∧ ∀ w : World, (Instr.makeSlice t (.int .i64 (n : Int)) (.int .i64 (n : Int))).run P w = .ok (.slice (some ⟨w.heap.size, 0, none⟩) n n) (w.alloc (.cells C e)) := by
  obtain ⟨i0, hi, hz0, hz1, hz2⟩ := info_parts hinfo
  refine ⟨madeCells z.cells (n * i0.size), ?_, ?_, fun w => ?_⟩
  · rw [size_madeCells, hz1]
  · intro j hj
    rw [hz1]
    unfold madeCells
    rw [Array.getElem?_map, Array.getElem?_range]
    simp [hj, hzs]
  · have h1 : n * size ≤ 100001 * 100 := Nat.mul_le_mul hn hs
    have h2 : bytes * n ≤ 1000 * 100001 := Nat.mul_le_mul hby hn
    have h3 : ((bytes * n : Nat) : Int) ≤ 281474976710656 := by omega
    rw [Int.natCast_mul] at h3
    have := run_makeSlice (P := P) (w := w) t e i0 z ht hi hz0 .i64 .i64 (n : Int) (n : Int) (by omega) (by omega) (by rw [hz1]; simp; omega) (by rw [hz2]; exact h3) (by omega)
    simpa using this
theorem RowV.made {T : TypeId} {k : Nat} {w : World} {n : Nat} {C : Array Value} {f : Nat → Value} (hn : n ≤ 100001) (h : C.size = n * k) (hf : ∀ j, j < n * k → C[j]? = some (f j)) : RowV T k (w.alloc (.cells C T)) w.heap.size n n f :=
  ⟨C, blk_new _ _, Nat.le_refl _, by unfold maxLen; omega, h, hf⟩
/-- A whole array is stored into the block that was made last. -/
theorem wpList_store_new {P : Program} {ops : Array Oper} {rest : List Oper} {o : Oper} {a : Act} {Q : Exit → Act → World → Prop} {w : World} (hgd : o.guard = none) (t : TypeId) (x y : Operand) (ho : o.op = .store t x y) (c c' : Array Value)
    (hx : a.eval x = .pointer (some ⟨w.heap.size, 0, none⟩)) (hy : a.eval y = .agg c') (hi : (P.info? t).map (·.size) = some c'.size) (hs : c.size = c'.size) (h1 : c'.all (·.oneCell') = true)
    (h : wpList P ops Q rest (a.put o.dst undef) (w.alloc (.cells c' t))) : wpList P ops Q (o :: rest) a (w.alloc (.cells c t)) :=
  wpList_plain hgd fun K hK => by
    have hr := run_storeVar_new (P := P) w t c c' hi hs h1
    unfold Oper.wp execOp
    simp only [ho, hx, hy, Instr.storeAt, Instr.sureAddr, Sem.run_bind, Sem.run_pure, Result.andThen_ok, hr]
    exact hK _ _ h
/-- 'x := [n]T{}': its cells are made, a variable is laid, they are stored. -/
theorem wp_region_zeros {P : Program} {id : Nat} {o1 o2 o3 : Oper} {Q : Exit → Act → World → Prop} {a : Act} {w : World} (t : TypeId) (q p : Tmp) (C : Array Value)
    (g1 : o1.guard = none) (g2 : o2.guard = none) (g3 : o3.guard = none) (e1 : o1.op = .build t #[]) (d1 : o1.dst = some q) (e2 : o2.op = .alloc t) (d2 : o2.dst = some p) (e3 : o3.op = .store t (.tmp p) (.tmp q)) (d3 : o3.dst = none)
    (hb : P.built t [] = some C) (hi : (P.info? t).map (fun i => (i.zero, i.size)) = some (some (.agg C), C.size)) (h1 : C.all (·.oneCell') = true)
    (hx : ((a.put (some q) (.agg C)).put (some p) (.pointer (some ⟨w.heap.size, 0, none⟩))).eval (.tmp p) = .pointer (some ⟨w.heap.size, 0, none⟩)) (hy : ((a.put (some q) (.agg C)).put (some p) (.pointer (some ⟨w.heap.size, 0, none⟩))).eval (.tmp q) = .agg C)
    (h : Q .normal (((a.put (some q) (.agg C)).put (some p) (.pointer (some ⟨w.heap.size, 0, none⟩))).put none undef) (w.alloc (.cells C t))) : (Code.region id #[o1, o2, o3] false).wp P Q a w := by
  cases hq : P.info? t with
  | none => rw [hq] at hi; simp at hi
  | some i0 =>
    have hz : i0.zero = some (.agg C) := by rw [hq] at hi; simp at hi; exact hi.1
    have hs : i0.size = C.size := by rw [hq] at hi; simp at hi; exact hi.2
    refine wp_region_list ?_
    refine wpList_buildTo g1 t #[] e1 (some q) d1 C (by simpa using hb) ?_
    refine wpList_plain g2 fun K hK => ?_
    unfold Oper.wp execOp
    have hr : (Instr.alloc t true (.tuple #[])).run P w = .ok (.pointer (some ⟨w.heap.size, 0, none⟩)) (w.alloc (.cells C t)) := by
      simp [Instr.alloc, zeroValue, typeInfo, hq, hz, newVar, newRow, Value.cells]
    simp only [e2, Sem.run_bind, Sem.run_pure, Result.andThen_ok, hr]
    refine hK _ _ ?_
    rw [d2]
    refine wpList_store_new g3 t (.tmp p) (.tmp q) e3 C C hx hy (by rw [hq]; simp [hs]) rfl h1 ?_
    rw [d3]
    exact wpList_nil h
/-- append(x, y...) of a slice that may be nil to a row of the call's own, in a region that draws its order. -/
theorem step_append_src {P : Program} {ops : Array Oper} {o : Oper} {a : Act} {K : Act → World → Prop} {Q : Exit → Act → World → Prop} {E : Prop} (w : World) (hgd : o.guard = none) (s x : Operand) (t e : TypeId)
    (ho : o.op = .call { callee := .builtin .append, args := #[s, x], argTypes := #[t, t] }) (ht : P.underlying t = some (.slice e)) {z : Value} {size bytes : Nat}
    (hinfo : (P.info? e).map (fun i => (i.zero, i.size, i.bytes)) = some (some z, size, bytes)) (hzs : z.cells.size = size) (hsz : 0 < size) (hby : bytes ≤ 1000)
    (g n c : Nat) (f : Nat → Value) (hs : a.eval s = .slice (some ⟨g, 0, none⟩) n c) (hrow : RowV e size w g n c f) (hn : n ≤ 100000)
    (A : Option Addr) (m c' : Nat) (f2 : Nat → Value) (hx : a.eval x = .slice A m c') (hsrc : SlV e size w A m c' f2) (h1 : ∀ j, j < m * size → (f2 j).oneCell' = true) (hm : m ≤ 100000)
    (h : ∀ g' c' w', RowV e size w' g' (n + m) c' (appV f (n * size) (cellsV f2 (m * size))) → (g' = g ∨ w.heap.size ≤ g') → Kf (fun k => k = g) w w' → K (a.put o.dst (.slice (some ⟨g', 0, none⟩) (n + m) c')) w') :
    if Region.wanted o (yielded ops a.tmps) = true then Oper.wp P o a w K Q else E := by
  have hw : Region.wanted o (yielded ops a.tmps) = true := by simp [Region.wanted, hgd]
  rw [if_pos hw]
  rcases hsrc with ⟨rfl, rfl, rfl⟩ | ⟨gx, rfl, hrx⟩
  · obtain ⟨i0, hi, hz0, hz1, hz2⟩ := info_parts hinfo
    have hrun := run_append_owned_none (P := P) (w := w) g t o.type e i0 size ht hi (.slice (some ⟨g, 0, none⟩) n c) n (cellsV f (n * size)) hrow.own
    unfold Oper.wp execOp
    simp only [ho, resolve, invoke, builtin, Sem.run_bind, Sem.run_pure, Result.andThen_ok, List.map_toArray, List.map_cons, List.map_nil, hs, hx, hrun]
    have := h g c w (by simpa using hrow.congr fun j hj => by unfold appV; rw [if_pos (by simpa using hj)]) (.inl rfl) (Kf.refl _ _)
    have h3 : K (a.put o.dst (.slice (some ⟨g, 0, none⟩) n c)) w := by simpa using this
    exact h3
  · obtain ⟨g', c2, w', hr, hrow', hg', hgr⟩ := run_append_sl (P := P) w t o.type e ht hinfo hzs hsz hby (some ⟨g, 0, none⟩) n c f (.inr ⟨g, rfl, hrow⟩) hn ⟨gx, 0, none⟩ m c' (cellsV f2 (m * size)) (cellsV_length _ _) (fun j u hu => by
      have hj : j < m * size := by
        have := (List.getElem?_eq_some_iff.1 hu).1
        rwa [cellsV_length] at this
      rw [cellsV_get _ hj] at hu
      injection hu with hu
      subst hu
      have ha : ((⟨gx, 0, none⟩ : Addr).add j) = ⟨gx, j, none⟩ := by unfold Addr.add; split <;> simp_all
      rw [ha]; exact hrx.cell hj) (fun u hu => by
      unfold cellsV at hu
      obtain ⟨j, hj, rfl⟩ := List.mem_map.1 hu
      exact h1 j (List.mem_range.1 hj)) hm (fun e => by cases e)
    unfold Oper.wp execOp
    simp only [ho, resolve, invoke, builtin, Sem.run_bind, Sem.run_pure, Result.andThen_ok, List.map_toArray, List.map_cons, List.map_nil, hs, hx, hr]
    refine h g' c2 w' hrow' ?_ (hgr _ fun j hj => (onB_some _ _).1 hj)
    rcases hg' with e | e
    · exact .inl ((onB_some _ _).1 e)
    · exact .inr e
end Go.Proofs.YtmkhfcdjgdofnaaDoor
