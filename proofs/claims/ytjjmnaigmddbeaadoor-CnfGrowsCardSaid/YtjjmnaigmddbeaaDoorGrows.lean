/- The walk of CnfGrows: it returns true of any formula, clause and values. -/
import Derived.Test.YtjjmnaigmddbeaaDoorBack
import Derived.Test.YtjjmnaigmddbeaaDoorFormula
import Derived.Test.YtjjmnaigmddbeaaDoorGrowM
import Derived.Deep.AppendLies
import Derived.Laws.AppendOwnNone
set_option linter.unusedSimpArgs false
namespace Go.Proofs.YtjjmnaigmddbeaaDoor.CGrows
open Go.ChangeShapes Go.WideShapes Go.ChangeAt Go.RowKit LitM Words CnfP COnce CBack

theorem own_alloc {w : World} {D n : Nat} {T : TypeId} {v : Value} {xs : List Value} (o : Obj) (h : w.ownsRow D T 1 v n xs) : (w.alloc o).ownsRow D T 1 v n xs := by
  refine ⟨h.1, ?_⟩
  rcases h.2 with h' | ⟨b, cap, cur, hv, hb, hh, r⟩
  · exact .inl h'
  · have hlt : b < w.heap.size := by
      rcases Nat.lt_or_ge b w.heap.size with h' | h'
      · exact h'
      · rw [Array.getElem?_eq_none h'] at hh; cases hh
    exact .inr ⟨b, cap, cur, hv, hb, by rw [blk_old _ _ _ hlt]; exact hh, r⟩
theorem own_ge {w : World} {D g n cap : Nat} {xs : List Value} (h : w.ownsRow D 35 1 (.slice (some ⟨g, 0, none⟩) n cap) n xs) : D ≤ g := by
  rcases h.2 with ⟨e, _⟩ | ⟨g', cap', cur, e, hb, _⟩
  · cases e
  · injection e with e _ _
    injection e with e
    injection e with e _ _
    subst e
    exact hb
/-- append of rows to a row of rows of the call's own, at a step of a region that draws: the new value written out. -/
theorem step_rows {w : World} {ops : Array Oper} {o : Oper} {a : Act} {K : Act → World → Prop} {Q : Exit → Act → World → Prop} {E : Prop} (hgd : o.guard = none) (s x : Operand)
    (ho : o.op = .call { callee := .builtin .append, args := #[s, x], argTypes := #[25, 25] })
    (D g0 cap0 : Nat) (vs : List Value) (hs : a.eval s = .slice (some ⟨g0, 0, none⟩) vs.length cap0) (hown : w.ownsRow D 35 1 (.slice (some ⟨g0, 0, none⟩) vs.length cap0) vs.length vs)
    (A : Option Addr) (m c : Nat) (news : List Value) (hx : a.eval x = .slice A m c) (hlen : news.length = m) (hA : A = none → m = 0 ∧ c = 0) (hcell : ∀ ad, A = some ad → ∀ j u, news[j]? = some u → w.cell? (ad.add j) = some u)
    (h1 : ∀ u ∈ news, u.oneCell' = true) (hb : vs.length + m ≤ 5000000000) (hbase : D ≤ w.heap.size)
    (h : ∀ g cap w', w'.ownsRow D 35 1 (.slice (some ⟨g, 0, none⟩) (vs ++ news).length cap) (vs ++ news).length (vs ++ news) → w.grownBy w' (some g0) → D ≤ g → K (a.put o.dst (.slice (some ⟨g, 0, none⟩) (vs ++ news).length cap)) w') :
    if Region.wanted o (yielded ops a.tmps) = true then Oper.wp Tryd.prog o a w K Q else E := by
  have hw : Region.wanted o (yielded ops a.tmps) = true := by simp [Region.wanted, hgd]
  rw [if_pos hw]
  obtain ⟨i0, hi, hz0, hz1, hz2⟩ := info_parts info_clause
  rcases A with _ | ad
  · obtain ⟨rfl, rfl⟩ := hA rfl
    have hn : news = [] := List.length_eq_zero_iff.1 hlen
    subst hn
    have hrun := run_append_owned_none (P := Tryd.prog) (w := w) D 25 o.type 35 i0 1 Tryd.underlying25 hi _ vs.length vs hown
    unfold Oper.wp
    simp [execOp, ho, resolve, invoke, builtin, hs, hx, hrun, Result.andThen]
    have := h g0 cap0 w (by rw [List.append_nil]; exact hown) ⟨rfl, rfl, rfl, Nat.le_refl _, fun _ _ _ => rfl⟩ (own_ge hown)
    rw [List.append_nil] at this
    exact this
  · refine wp_append_own w s x 25 ho D 35 i0 (.slice none 0 0) 1 24 Tryd.underlying25 hi hz0 hz1 hz2 rfl (by decide) _ vs.length vs hs hown ad m c news hx (by simp [hlen]) (hcell ad rfl) h1 (by unfold maxLen; omega) (by omega) hbase ?_
    intro v' w' h2 h3 h4
    have hl : vs.length + m = (vs ++ news).length := by rw [List.length_append, hlen]
    rw [hl] at h2
    rcases h2.2 with ⟨e, _⟩ | ⟨g, cap, cur, rfl, r⟩
    · exact absurd (h4.1 e).1 (by simp)
    · exact h g cap w' ⟨h2.1, .inr ⟨g, cap, cur, rfl, r⟩⟩ h3 r.1
theorem ne_types {w : World} {D g n cap k : Nat} {xs : List Value} {cs : Array Value} (h : w.ownsRow D 35 1 (.slice (some ⟨g, 0, none⟩) n cap) n xs) (hk : w.heap[k]? = some (.cells cs 27 (0, 0))) : some k ≠ some g := by
  intro e
  injection e with e
  subst e
  rcases h.2 with ⟨e, _⟩ | ⟨g', cap', cur, e, _, hh, _⟩
  · cases e
  · injection e with e _ _
    injection e with e
    injection e with e _ _
    subst e
    rw [hk] at hh
    injection hh with hh
    injection hh with _ hh _
    exact absurd hh (by decide)
theorem frm_alloc {b : Nat} {v : Int} {u : Value} {w : World} (h : FrmAt b v u w) (o : Obj) : FrmAt b v u (w.alloc o) := by
  have := h.lt
  unfold FrmAt at *
  rw [blk_old _ _ _ this]; exact h
theorem frm_grown {b : Nat} {v : Int} {u : Value} {w w' : World} {r : Option Nat} (h : FrmAt b v u w) (hg : w.grownBy w' r) (hne : some b ≠ r) : FrmAt b v u w' := by
  have := h.lt
  unfold FrmAt at *
  rw [hg.block b this hne]; exact h
theorem frm_new (w : World) : FrmAt w.heap.size 0 (.slice none 0 0) (w.alloc (.cells #[.int .i64 0, .slice none 0 0] 27)) := blk_new _ _
/-- A row of one slice, by its block. -/
def RowAt (b : Nat) (u : Value) (w : World) : Prop := w.heap[b]? = some (.cells #[u] 35 (0, 0))
theorem RowAt.alloc {b : Nat} {u : Value} {w : World} (h : RowAt b u w) (o : Obj) : RowAt b u (w.alloc o) := by
  unfold RowAt at *
  rcases Nat.lt_or_ge b w.heap.size with h' | h'
  · rw [blk_old _ _ _ h']; exact h
  · rw [Array.getElem?_eq_none h'] at h; cases h
theorem RowAt.grown {b : Nat} {u : Value} {w w' : World} {r : Option Nat} (h : RowAt b u w) (hg : w.grownBy w' r) (hne : some b ≠ r) : RowAt b u w' := by
  unfold RowAt at *
  rcases Nat.lt_or_ge b w.heap.size with h' | h'
  · rw [hg.block b h' hne]; exact h
  · rw [Array.getElem?_eq_none h'] at h; cases h
theorem row_new (w : World) (u : Value) : RowAt w.heap.size u (w.alloc (.cells #[u] 35)) := blk_new _ _
theorem row_at {w : World} {k : Nat} (h : k = w.heap.size) (u : Value) : RowAt k u (w.alloc (.cells #[u] 35)) := by subst h; exact blk_new _ _
theorem RowAt.cell {b : Nat} {u : Value} {w : World} (h : RowAt b u w) : ∀ ad, some (⟨b, 0, none⟩ : Addr) = some ad → ∀ j y, [u][j]? = some y → w.cell? (ad.add j) = some y := fun ad e j y hy => by
  cases e
  exact World.news_of_block h j y hy
theorem with_fact {p q : Prop} (h : p) (f : p → q) : q := f h
theorem heap_alloc (w : World) (o : Obj) : (w.alloc o).heap = w.heap.push o := rfl
theorem heap_drew (w : World) : w.drew.heap = w.heap := rfl
theorem own_empty {W : World} {D g : Nat} (hg : D ≤ g) (h : W.heap[g]? = some (.cells #[] 35 (0, 0))) : W.ownsRow D 35 1 (.slice (some ⟨g, 0, none⟩) 0 0) ([] : List Value).length [] :=
  ⟨rfl, .inr ⟨g, 0, #[], rfl, hg, h, Nat.le_refl _, by simp, rfl, rfl⟩⟩
/-- The rows of a formula that came in, as values. -/
theorem rows_vals {W : World} {B n : Nat} {A : Option Addr} {cs : List (List Int)} (h : RdF W B A n cs) :
    ∃ vs : List Value, vs.length = n ∧ (∀ u ∈ vs, u.oneCell' = true) ∧ (∀ j, j < n → ∃ Aj nj cj, vs[j]? = some (.slice Aj nj cj) ∧ Rd .i32 W B Aj nj (cs.getD j [])) ∧
      ∀ ad, A = some ad → ∀ j u, vs[j]? = some u → ad.block < B ∧ W.cell? (ad.add j) = some u := by
  by_cases hn : n = 0
  · subst hn
    exact ⟨[], rfl, by simp, fun j hj => absurd hj (by omega), fun ad _ j u hu => by simp at hu⟩
  obtain ⟨b, o, rfl, hb, hc⟩ := h.at_ (by omega)
  refine ⟨(List.range n).map fun j => (W.cell? ⟨b, o + j, none⟩).getD (.bool false), by simp, fun u hu => ?_, fun j hj => ?_, fun ad e j u hu => ?_⟩
  · obtain ⟨j, hj, rfl⟩ := List.mem_map.1 hu
    obtain ⟨Aj, nj, cj, h1, _⟩ := hc j (List.mem_range.1 hj)
    rw [h1]; rfl
  · obtain ⟨Aj, nj, cj, h1, h2⟩ := hc j hj
    exact ⟨Aj, nj, cj, by simp [List.getElem?_map, List.getElem?_range hj, h1], h2⟩
  · cases e
    have hj : j < n := by
      rcases Nat.lt_or_ge j n with h' | h'
      · exact h'
      · rw [List.getElem?_eq_none (by simpa using h')] at hu; cases hu
    obtain ⟨Aj, nj, cj, h1, _⟩ := hc j hj
    rw [List.getElem?_map, List.getElem?_range hj] at hu
    simp only [Option.map_some, Option.some.injEq] at hu
    rw [h1] at hu
    simp only [Option.getD_some] at hu
    subst hu
    exact ⟨hb, by rw [add_plain]; exact h1⟩

theorem add_block (a : Addr) (j : Nat) : (a.add j).block = a.block := by unfold Addr.add; split <;> rfl
theorem own_set {w : World} {D g n cap : Nat} {xs : List Value} (h : w.ownsRow D 35 1 (.slice (some ⟨g, 0, none⟩) n cap) n xs) {p : Addr} (hp : p.block ≠ g) (u : Value) : (w.setCell p u).ownsRow D 35 1 (.slice (some ⟨g, 0, none⟩) n cap) n xs := by
  refine ⟨h.1, ?_⟩
  rcases h.2 with ⟨e, _⟩ | ⟨g', cap', cur, e, hb, hh, r⟩
  · cases e
  · have e' := e
    injection e' with e' _ _
    injection e' with e'
    injection e' with e' _ _
    subst e'
    exact .inr ⟨g, cap', cur, e, hb, by simp [World.setCell, Array.getElem?_modify, hp, hh], r⟩
theorem frm_set0 {b : Nat} {v v' : Int} {u : Value} {w : World} (h : FrmAt b v u w) : FrmAt b v' u (w.setCell ⟨b, 0, none⟩ (.int .i64 v')) := by
  unfold FrmAt at *
  simp [World.setCell, Array.getElem?_modify, h]
theorem rows_rdF {W : World} {D B g cap : Nat} {us : List Value} {ds : List (List Int)} (ho : W.ownsRow D 35 1 (.slice (some ⟨g, 0, none⟩) us.length cap) us.length us) (hl : us.length = ds.length)
    (he : ∀ j, j < ds.length → ∃ Aj nj cj, us[j]? = some (.slice Aj nj cj) ∧ Rd .i32 W B Aj nj (ds.getD j [])) (hB : B ≤ W.heap.size) : RdF W W.heap.size (some ⟨g, 0, none⟩) us.length ds := by
  refine ⟨hl.symm, fun hn => ⟨g, 0, rfl, (ho.lt g rfl).2, fun j hj => ?_⟩⟩
  obtain ⟨Aj, nj, cj, h1, h2⟩ := he j (by omega)
  refine ⟨Aj, nj, cj, ?_, h2.more hB⟩
  have := ho.cells (g := g) rfl j _ h1
  rw [← this]
  congr 1
  unfold Addr.add
  split <;> simp_all
/-- A formula with one clause more lies behind p. -/
def Grown (w2 : World) (v : Int) (m : Nat) (ds : List (List Int)) (p : Value) (wx : World) : Prop :=
  ∃ k A9 c9, p = .pointer (some ⟨k, 0, none⟩) ∧ w2.heap.size ≤ k ∧ FrmAt k v (.slice A9 m c9) wx ∧ RdF wx wx.heap.size A9 m ds ∧ Below w2.heap.size w2 wx
theorem grown_of {w2 wx : World} {v : Int} {k g cap D0 : Nat} {vs : List Value} {cs : List (List Int)} {xs : List Int} {A2 : Option Addr} {n2 c2 : Nat} (hk : w2.heap.size ≤ k) (hF : FrmAt k v (.slice (some ⟨g, 0, none⟩) (vs.length + 1) cap) wx)
    (ho : wx.ownsRow w2.heap.size 35 1 (.slice (some ⟨g, 0, none⟩) (vs ++ [Value.slice A2 n2 c2]).length cap) (vs ++ [Value.slice A2 n2 c2]).length (vs ++ [Value.slice A2 n2 c2])) (hB : Below w2.heap.size w2 wx) (hl : vs.length = cs.length)
    (he : ∀ j, j < cs.length → ∃ Aj nj cj, vs[j]? = some (.slice Aj nj cj) ∧ Rd .i32 w2 D0 Aj nj (cs.getD j [])) (hx : Rd .i32 w2 D0 A2 n2 xs) (hD : D0 ≤ w2.heap.size) : Grown w2 v (vs.length + 1) (cs ++ [xs]) (.pointer (some ⟨k, 0, none⟩)) wx := by
  have hb0 : Below D0 w2 wx := hB.mono hD
  have hR := rows_rdF (B := D0) (ds := cs ++ [xs]) ho (by simp [hl]) (fun j hj => by
    rw [List.length_append, List.length_singleton] at hj
    by_cases hjl : j < cs.length
    · obtain ⟨Aj, nj, cj, h1, h2⟩ := he j hjl
      refine ⟨Aj, nj, cj, by rw [List.getElem?_append_left (by omega)]; exact h1, ?_⟩
      rw [getF_lt (by simp; omega), List.getElem_append_left hjl, ← getF_lt hjl]
      exact h2.below hb0
    · obtain rfl : j = cs.length := by omega
      refine ⟨A2, n2, c2, by rw [← hl]; simp, ?_⟩
      rw [getF_lt (by simp)]
      simpa using hx.below hb0) (by have := hB.size; omega)
  rw [List.length_append, List.length_singleton] at hR
  exact ⟨k, _, _, rfl, hk, hF, hR, hB⟩
theorem grown_set {w2 wb : World} {v : Int} {k g cap D0 : Nat} {vs : List Value} {cs : List (List Int)} {xs : List Int} {A2 : Option Addr} {n2 c2 : Nat} (hk : w2.heap.size ≤ k) (hF : FrmAt k 0 (.slice none 0 0) wb)
    (ho : wb.ownsRow w2.heap.size 35 1 (.slice (some ⟨g, 0, none⟩) (vs ++ [Value.slice A2 n2 c2]).length cap) (vs ++ [Value.slice A2 n2 c2]).length (vs ++ [Value.slice A2 n2 c2])) (hB : Below w2.heap.size w2 wb) (hl : vs.length = cs.length)
    (he : ∀ j, j < cs.length → ∃ Aj nj cj, vs[j]? = some (.slice Aj nj cj) ∧ Rd .i32 w2 D0 Aj nj (cs.getD j [])) (hx : Rd .i32 w2 D0 A2 n2 xs) (hD : D0 ≤ w2.heap.size) :
    Grown w2 v (vs.length + 1) (cs ++ [xs]) (.pointer (some ⟨k, 0, none⟩)) ((wb.setCell ⟨k, 0, none⟩ (.int .i64 v)).setCell ⟨k, 1, none⟩ (.slice (some ⟨g, 0, none⟩) (vs.length + 1) cap)) := by
  have hne : k ≠ g := fun e => ne_types ho hF (by rw [e])
  exact grown_of hk ((frm_set0 hF).set1 _) (own_set (own_set ho hne _) hne _) ((hB.setCell (p := ⟨k, 0, none⟩) hk _).setCell (p := ⟨k, 1, none⟩) hk _) hl he hx hD
theorem grown_new {w2 wb : World} {v : Int} {g cap D0 : Nat} {vs : List Value} {cs : List (List Int)} {xs : List Int} {A2 : Option Addr} {n2 c2 : Nat}
    (ho : wb.ownsRow w2.heap.size 35 1 (.slice (some ⟨g, 0, none⟩) (vs ++ [Value.slice A2 n2 c2]).length cap) (vs ++ [Value.slice A2 n2 c2]).length (vs ++ [Value.slice A2 n2 c2])) (hB : Below w2.heap.size w2 wb) (hl : vs.length = cs.length)
    (he : ∀ j, j < cs.length → ∃ Aj nj cj, vs[j]? = some (.slice Aj nj cj) ∧ Rd .i32 w2 D0 Aj nj (cs.getD j [])) (hx : Rd .i32 w2 D0 A2 n2 xs) (hD : D0 ≤ w2.heap.size) :
    Grown w2 v (vs.length + 1) (cs ++ [xs]) (.pointer (some ⟨wb.heap.size, 0, none⟩)) (wb.alloc (.cells #[.int .i64 v, .slice (some ⟨g, 0, none⟩) (vs.length + 1) cap] 27)) :=
  grown_of hB.size (blk_new _ _) (own_alloc _ ho) (hB.alloc hB.size _) hl he hx hD

set_option maxHeartbeats 6400000 in
set_option maxRecDepth 100000 in
theorem walk (v : Int) (A : Option Addr) (n c : Nat) (cs : List (List Int)) (A2 : Option Addr) (n2 c2 : Nat) (xs : List Int) (A3 : Option Addr) (n3 c3 : Nat) (bs : List Bool) (w : World) (hl : LibAt w) (hw : 8 ≤ w.heap.size)
    (hf : RdF w w.heap.size A n cs) (hA : A = none → n = 0 ∧ c = 0) (hx : Rd .i32 w w.heap.size A2 n2 xs) (hb : RdB w w.heap.size A3 n3 bs) (h32 : ∀ c ∈ cs, In32 c) (hj : ∀ j, (cs.getD j []).length ≤ 9223372036854775807) (hx32 : In32 xs) (hn : n ≤ 9223372036854775807) (hn2 : n2 ≤ 9223372036854775807) (hn3 : n3 ≤ 9223372036854775807) (hv0 : -9223372036854775808 ≤ v) (hv1 : v ≤ 9223372036854775807) :
    Calls Tryd.prog 5 #[.agg #[.int .i64 v, .slice A n c], .slice A2 n2 c2, .slice A3 n3 c3] w fun e w' => e = .returned (.bool true) ∧ Below w.heap.size w w' := by
  have HLA : Hid (∀ W, Below w.heap.size w W → LibAt W) := fun W hb => hl.below hb hw
  have HLF := Lib.hid hf.len
  have HLX := Lib.hid hx.len
  have HLB := Lib.hid hb.len
  have HNA := Lib.hid hA
  obtain ⟨W0, hW0⟩ : ∃ W0, W0 = w.alloc (.cells #[.int .i64 v, .slice A n c] 27) := ⟨_, rfl⟩
  have hs0 : W0.heap.size = w.heap.size + 1 := by rw [hW0]; simp
  have hB0 : Below w.heap.size w W0 := by rw [hW0]; exact below_alloc _ _
  have HT : Hid (∀ W, Below (w.heap.size + 1) W0 W → W.cell? ⟨w.heap.size, 0, none⟩ = some (.int .i64 v) ∧ W.cell? ⟨w.heap.size, 1, none⟩ = some (.slice A n c)) := by rw [hW0]; exact fun W h => frm_cells h
  have HRF : Hid (∀ W, Below (w.heap.size + 1) W0 W → RdF W (w.heap.size + 1) A n cs) := fun W h => (((hf.below hB0).more (by omega : w.heap.size ≤ w.heap.size + 1)).below h)
  have HRX : Hid (∀ W, Below (w.heap.size + 1) W0 W → Rd .i32 W (w.heap.size + 1) A2 n2 xs) := fun W h => (((hx.below hB0).more (by omega : w.heap.size ≤ w.heap.size + 1)).below h)
  have HRB : Hid (∀ W, Below (w.heap.size + 1) W0 W → RdB W (w.heap.size + 1) A3 n3 bs) := fun W h => (((hb.below hB0).more (by omega : w.heap.size ≤ w.heap.size + 1)).below h)
  have HBW : Hid (∀ W, Below (w.heap.size + 1) W0 W → Below w.heap.size w W) := fun W h => hB0.trans (h.mono (by omega))
  have HL0 : Hid (∀ W, Below (w.heap.size + 1) W0 W → LibAt W ∧ 8 ≤ W.heap.size) := fun W h => ⟨HLA.out _ (HBW.out _ h), by have := h.size; omega⟩
  have H32 := Lib.hid h32
  have HX32 := Lib.hid hx32
  have HJ := Lib.hid hj
  have HR00 : Hid (Below (w.heap.size + 1) W0 W0) := Below.refl _ _
  have HZ : Hid (∀ W, Below (w.heap.size + 1) W0 W → w.heap.size + 1 ≤ W.heap.size) := fun W h => by have := h.size; omega
  clear hf hx hb h32 hx32 hj hl hB0 hA
  go_enter Tryd.func5, Tryd.ntmps5
  go_wp2_with fail
  rw [← hW0]
  refine (alive_any W0 (HL0.out _ HR00.out).1 (HL0.out _ HR00.out).2).mono ?_
  rintro e w1 ⟨rfl, hB⟩
  have HB1 : Hid (Below (w.heap.size + 1) W0 w1) := by rw [← hs0]; exact hB
  obtain ⟨hf0, hf1⟩ := HT.out _ HB1.out
  have HG := Lib.hid (great_any v A n c cs w1 ((HRF.out _ HB1.out).more (HZ.out _ HB1.out)) HJ.out hn)
  clear hB
  rcases hgf : greatB cs with _ | _
  all_goals rw [hgf] at HG
  case true =>
    go_wp2_with fail
    refine HG.out.mono ?_
    rintro e w2 ⟨rfl, hB⟩
    have HB2 : Hid (Below (w.heap.size + 1) W0 w2) := HB1.out.trans (hB.mono (HZ.out _ HB1.out))
    clear hB
    go_wp2_with fail
    go_ret
    exact ⟨rfl, HBW.out _ HB2.out⟩
  have HGF := Lib.hid hgf
  have HOK := Lib.hid (great_ok hgf H32.out)
  have HNL : Hid (n ≤ 100) := by have := (great_out hgf).1; have := HLF.out; exact (by omega : n ≤ 100)
  clear hgf
  by_cases hbig : 50 < n2 ∨ 100 < n3
  · by_cases hb1 : 50 < n2
    · clear hbig
      go_wp2_with fail
      refine HG.out.mono ?_
      rintro e w2 ⟨rfl, hB⟩
      have HB2 : Hid (Below (w.heap.size + 1) W0 w2) := HB1.out.trans (hB.mono (HZ.out _ HB1.out))
      clear hB
      go_wp2_with fail
      go_ret
      exact ⟨rfl, HBW.out _ HB2.out⟩
    · have hb2 : 100 < n3 := by omega
      clear hbig
      go_wp2_with fail
      refine HG.out.mono ?_
      rintro e w2 ⟨rfl, hB⟩
      have HB2 : Hid (Below (w.heap.size + 1) W0 w2) := HB1.out.trans (hB.mono (HZ.out _ HB1.out))
      clear hB
      go_wp2_with fail
      go_ret
      exact ⟨rfl, HBW.out _ HB2.out⟩
  have hb1 : n2 ≤ 50 := by omega
  have hb2 : n3 ≤ 100 := by omega
  clear hbig
  have hd1 : decide (50 < (n2 : Int)) = false := by simp; omega
  have hd2 : decide (100 < (n3 : Int)) = false := by simp; omega
  go_wp2_with fail
  refine HG.out.mono ?_
  rintro e w2 ⟨rfl, hB⟩
  have HB2 : Hid (Below (w.heap.size + 1) W0 w2) := HB1.out.trans (hB.mono (HZ.out _ HB1.out))
  clear hB hf0 hf1 HG
  obtain ⟨hf0, hf1⟩ := HT.out _ HB2.out
  go_wp2_with fail
  obtain ⟨vs, hvl, hv1c, hvr, hvc⟩ := rows_vals (HRF.out _ HB2.out)
  have HVL := Lib.hid hvl
  have HV1 := Lib.hid hv1c
  have HZ2 := Lib.hid (HZ.out _ HB2.out)
  have HW2 : Hid (∀ W, Below w2.heap.size w2 W → Below (w.heap.size + 1) W0 W) := fun W h => HB2.out.trans (h.mono HZ2.out)
  have HKS : Hid (∀ W, Below w2.heap.size w2 W → (Below w2.heap.size w2 W ∧ W.cell? ⟨w.heap.size, 0, none⟩ = some (.int .i64 v) ∧ W.cell? ⟨w.heap.size, 1, none⟩ = some (.slice A n c))) := fun W h => ⟨h, (HT.out _ (HW2.out _ h)).1, (HT.out _ (HW2.out _ h)).2⟩
  have HKA : Hid (∀ W o, (Below w2.heap.size w2 W ∧ W.cell? ⟨w.heap.size, 0, none⟩ = some (.int .i64 v) ∧ W.cell? ⟨w.heap.size, 1, none⟩ = some (.slice A n c)) → (Below w2.heap.size w2 (W.alloc o) ∧ (W.alloc o).cell? ⟨w.heap.size, 0, none⟩ = some (.int .i64 v) ∧ (W.alloc o).cell? ⟨w.heap.size, 1, none⟩ = some (.slice A n c))) := fun W o h => HKS.out _ (h.1.alloc h.1.size o)
  have HKG : Hid (∀ W W' r, (Below w2.heap.size w2 W ∧ W.cell? ⟨w.heap.size, 0, none⟩ = some (.int .i64 v) ∧ W.cell? ⟨w.heap.size, 1, none⟩ = some (.slice A n c)) → W.grownBy W' r → (∀ k, r = some k → w2.heap.size ≤ k) → (Below w2.heap.size w2 W' ∧ W'.cell? ⟨w.heap.size, 0, none⟩ = some (.int .i64 v) ∧ W'.cell? ⟨w.heap.size, 1, none⟩ = some (.slice A n c))) := fun W W' r h hg hr => HKS.out _ (h.1.grown hg h.1.size hr)
  have HKC : Hid (∀ W k x y, (Below w2.heap.size w2 W ∧ W.cell? ⟨w.heap.size, 0, none⟩ = some (.int .i64 v) ∧ W.cell? ⟨w.heap.size, 1, none⟩ = some (.slice A n c)) → w2.heap.size ≤ k → (Below w2.heap.size w2 ((W.setCell ⟨k, 0, none⟩ x).setCell ⟨k, 1, none⟩ y) ∧ ((W.setCell ⟨k, 0, none⟩ x).setCell ⟨k, 1, none⟩ y).cell? ⟨w.heap.size, 0, none⟩ = some (.int .i64 v) ∧ ((W.setCell ⟨k, 0, none⟩ x).setCell ⟨k, 1, none⟩ y).cell? ⟨w.heap.size, 1, none⟩ = some (.slice A n c))) := fun W k x y h hk => HKS.out _ ((h.1.setCell (p := ⟨k, 0, none⟩) hk x).setCell (p := ⟨k, 1, none⟩) hk y)
  have HVR : Hid (∀ j, j < cs.length → ∃ Aj nj cj, vs[j]? = some (.slice Aj nj cj) ∧ Rd .i32 w2 (w.heap.size + 1) Aj nj (cs.getD j [])) := fun j hj => hvr j (by have := HLF.out; omega)
  have HRX2 := Lib.hid (HRX.out _ HB2.out)
  have HVN : Hid (vs.length = cs.length) := hvl.trans HLF.out.symm
  have HVC : Hid (∀ W, (Below w2.heap.size w2 W ∧ W.cell? ⟨w.heap.size, 0, none⟩ = some (.int .i64 v) ∧ W.cell? ⟨w.heap.size, 1, none⟩ = some (.slice A n c)) → ∀ ad, A = some ad → ∀ j u, vs[j]? = some u → W.cell? (ad.add j) = some u) := fun W h ad e j u hu => by rw [h.1.cell (by have := (hvc ad e j u hu).1; have := HZ2.out; rw [add_block]; omega)]; exact (hvc ad e j u hu).2
  clear hvl hv1c hvr hvc
  go_cut [7] (fun p wx => Hid (Grown w2 v (vs.length + 1) (cs ++ [xs]) p wx))
  case first =>
    go_region_held3 (fun W => Below w2.heap.size w2 W ∧ W.cell? ⟨w.heap.size, 0, none⟩ = some (.int .i64 v) ∧ W.cell? ⟨w.heap.size, 1, none⟩ = some (.slice A n c))
      (first | exact hSb | exact HKC.out _ _ _ _ hSb (by omega) | exact HKA.out _ _ hSb | exact HKA.out _ _ (by assumption) | exact HKS.out _ (below_drewN (Below.refl _ _) 1) | exact HKG.out _ _ _ (by assumption) (by assumption) (by intro k hk; injection hk with hk; omega))
      (first
        | (refine step_rows rfl (.tmp 33) (.tmp 35) rfl w2.heap.size _ _ [] rfl (own_empty (by omega) (by simp [heap_alloc, heap_drew, Array.getElem?_push, Array.getElem_push] <;> omega)) A n c vs rfl HVL.out HNA.out (HVC.out _ (by assumption)) HV1.out (by have := HNL.out; simp; omega) (by simp [heap_alloc, heap_drew] <;> omega) ?_
           intro g1 cap1 wa hO1 hG1 hD1
           have hz1 : w2.heap.size ≤ wa.heap.size := Nat.le_trans (by simp [heap_alloc, heap_drew] <;> omega) hG1.size
           rw [List.nil_append] at hO1 ⊢
           first
             | (refine with_fact (p := FrmAt w2.heap.size 0 (.slice none 0 0) wa) (frm_grown ?_ hG1 ?_) (fun hFa => ?_); (simp [FrmAt, heap_alloc, heap_drew, Array.getElem?_push, Array.getElem_push] <;> omega); (simp <;> omega))
             | (refine with_fact (p := FrmAt (w2.heap.size + 1) 0 (.slice none 0 0) wa) (frm_grown ?_ hG1 ?_) (fun hFa => ?_); (simp [FrmAt, heap_alloc, heap_drew, Array.getElem?_push, Array.getElem_push] <;> omega); (simp <;> omega))
             | (refine with_fact (p := FrmAt (w2.heap.size + 1 + 1) 0 (.slice none 0 0) wa) (frm_grown ?_ hG1 ?_) (fun hFa => ?_); (simp [FrmAt, heap_alloc, heap_drew, Array.getElem?_push, Array.getElem_push] <;> omega); (simp <;> omega))
             | skip
           first
             | (refine with_fact (p := RowAt w2.heap.size (.slice A2 n2 c2) wa) (RowAt.grown ?_ hG1 ?_) (fun hSa => ?_); (simp [RowAt, heap_alloc, heap_drew, Array.getElem?_push, Array.getElem_push] <;> omega); (simp <;> omega))
             | (refine with_fact (p := RowAt (w2.heap.size + 1) (.slice A2 n2 c2) wa) (RowAt.grown ?_ hG1 ?_) (fun hSa => ?_); (simp [RowAt, heap_alloc, heap_drew, Array.getElem?_push, Array.getElem_push] <;> omega); (simp <;> omega))
             | (refine with_fact (p := RowAt (w2.heap.size + 1 + 1) (.slice A2 n2 c2) wa) (RowAt.grown ?_ hG1 ?_) (fun hSa => ?_); (simp [RowAt, heap_alloc, heap_drew, Array.getElem?_push, Array.getElem_push] <;> omega); (simp <;> omega))
             | skip)
        | (refine step_rows rfl (.tmp 36) (.tmp 38) rfl w2.heap.size _ _ vs rfl (by first | exact hO1 | exact own_alloc _ hO1 | exact own_alloc _ (own_alloc _ hO1)) _ _ _ [.slice A2 n2 c2] rfl rfl (by simp) (by first | exact hSa.cell | exact (hSa.alloc _).cell | exact (row_new _ _).cell | exact ((row_new _ _).alloc _).cell | exact (row_at (w := wa.alloc (.cells #[.int .i64 0, .slice none 0 0] 27)) (size_alloc _ _).symm _).cell) (by simp [Value.oneCell']) (by have := HNL.out; have := HVL.out; simp; omega) (by have := hG1.size; simp [heap_alloc, heap_drew] at this ⊢; omega) ?_
           intro g2 cap2 wb hO2 hG2 hD2
           have hSb := HKG.out _ _ _ (by assumption) hG2 (by intro k hk; injection hk with hk; omega)
           first
             | (have hFb := frm_grown hFa hG2 (ne_types hO1 hFa))
             | (have hq := frm_alloc hFa (.cells #[.slice A2 n2 c2] 35); have hFb := frm_grown hq hG2 (ne_types (own_alloc (.cells #[.slice A2 n2 c2] 35) hO1) hq))
             | (have hq := frm_new wa; have hFb := frm_grown hq hG2 (ne_types (own_alloc (.cells #[.int .i64 0, .slice none 0 0] 27) hO1) hq))
             | (have hq := frm_alloc (frm_new wa) (.cells #[.slice A2 n2 c2] 35); have hFb := frm_grown hq hG2 (ne_types (own_alloc (.cells #[.slice A2 n2 c2] 35) (own_alloc (.cells #[.int .i64 0, .slice none 0 0] 27) hO1)) hq))
             | (have hq := frm_new (wa.alloc (.cells #[.slice A2 n2 c2] 35)); have hFb := frm_grown hq hG2 (ne_types (own_alloc (.cells #[.int .i64 0, .slice none 0 0] 27) (own_alloc (.cells #[.slice A2 n2 c2] 35) hO1)) hq); simp only [size_alloc] at hFb)
             | skip
           try (have hFc0 := hFb.c0; have hFc1 := hFb.c1; have hFz0 := hFb.f 0; have hFz1 := hFb.f 1)))
    all_goals (go_wp2_with fail; go_meet; first | exact grown_set (by omega) hFb hO2 hSb.1 HVN.out HVR.out HRX2.out HZ2.out | exact grown_new hO2 hSb.1 HVN.out HVR.out HRX2.out HZ2.out)
  case rest =>
  obtain ⟨w3, rfl⟩ : ∃ w3, w3 = wc := ⟨wc, rfl⟩
  obtain ⟨k7, A9, c9, rfl, hk7, hF7, hR7, hB7⟩ := hcut.out
  have HC2 : Hid (Below (w.heap.size + 1) W0 w3) := HW2.out _ hB7
  have HF7 := Lib.hid hF7
  have HR7 := Lib.hid hR7
  have HLT7 := Lib.hid hF7.lt
  clear hf0 hf1 hF7 hR7 hk7 hB7 hcut
  obtain ⟨hf0, hf1⟩ := HT.out _ HC2.out
  clear HKS HKA HKG HKC HVR HRX2 HVC HW2 HZ2 HV1
  go_wp2_with fail
  obtain ⟨us, hvl, hv1c, hvr, hvc⟩ := rows_vals (HRF.out _ HC2.out)
  have HVLc := Lib.hid hvl
  have HV1c := Lib.hid hv1c
  have HZC := Lib.hid (HZ.out _ HC2.out)
  have HW2c : Hid (∀ W, Below w3.heap.size w3 W → Below (w.heap.size + 1) W0 W) := fun W h => HC2.out.trans (h.mono HZC.out)
  have HKSc : Hid (∀ W, Below w3.heap.size w3 W → (Below w3.heap.size w3 W ∧ W.cell? ⟨w.heap.size, 0, none⟩ = some (.int .i64 v) ∧ W.cell? ⟨w.heap.size, 1, none⟩ = some (.slice A n c))) := fun W h => ⟨h, (HT.out _ (HW2c.out _ h)).1, (HT.out _ (HW2c.out _ h)).2⟩
  have HKAc : Hid (∀ W o, (Below w3.heap.size w3 W ∧ W.cell? ⟨w.heap.size, 0, none⟩ = some (.int .i64 v) ∧ W.cell? ⟨w.heap.size, 1, none⟩ = some (.slice A n c)) → (Below w3.heap.size w3 (W.alloc o) ∧ (W.alloc o).cell? ⟨w.heap.size, 0, none⟩ = some (.int .i64 v) ∧ (W.alloc o).cell? ⟨w.heap.size, 1, none⟩ = some (.slice A n c))) := fun W o h => HKSc.out _ (h.1.alloc h.1.size o)
  have HKGc : Hid (∀ W W' r, (Below w3.heap.size w3 W ∧ W.cell? ⟨w.heap.size, 0, none⟩ = some (.int .i64 v) ∧ W.cell? ⟨w.heap.size, 1, none⟩ = some (.slice A n c)) → W.grownBy W' r → (∀ k, r = some k → w3.heap.size ≤ k) → (Below w3.heap.size w3 W' ∧ W'.cell? ⟨w.heap.size, 0, none⟩ = some (.int .i64 v) ∧ W'.cell? ⟨w.heap.size, 1, none⟩ = some (.slice A n c))) := fun W W' r h hg hr => HKSc.out _ (h.1.grown hg h.1.size hr)
  have HKCc : Hid (∀ W k x y, (Below w3.heap.size w3 W ∧ W.cell? ⟨w.heap.size, 0, none⟩ = some (.int .i64 v) ∧ W.cell? ⟨w.heap.size, 1, none⟩ = some (.slice A n c)) → w3.heap.size ≤ k → (Below w3.heap.size w3 ((W.setCell ⟨k, 0, none⟩ x).setCell ⟨k, 1, none⟩ y) ∧ ((W.setCell ⟨k, 0, none⟩ x).setCell ⟨k, 1, none⟩ y).cell? ⟨w.heap.size, 0, none⟩ = some (.int .i64 v) ∧ ((W.setCell ⟨k, 0, none⟩ x).setCell ⟨k, 1, none⟩ y).cell? ⟨w.heap.size, 1, none⟩ = some (.slice A n c))) := fun W k x y h hk => HKSc.out _ ((h.1.setCell (p := ⟨k, 0, none⟩) hk x).setCell (p := ⟨k, 1, none⟩) hk y)
  have HVRc : Hid (∀ j, j < cs.length → ∃ Aj nj cj, us[j]? = some (.slice Aj nj cj) ∧ Rd .i32 w3 (w.heap.size + 1) Aj nj (cs.getD j [])) := fun j hj => hvr j (by have := HLF.out; omega)
  have HRX2c : Hid (Rd .i32 w3 (w.heap.size + 1) none 0 []) := Rd.nil
  have HVNc : Hid (us.length = cs.length) := hvl.trans HLF.out.symm
  have HVCc : Hid (∀ W, (Below w3.heap.size w3 W ∧ W.cell? ⟨w.heap.size, 0, none⟩ = some (.int .i64 v) ∧ W.cell? ⟨w.heap.size, 1, none⟩ = some (.slice A n c)) → ∀ ad, A = some ad → ∀ j u, us[j]? = some u → W.cell? (ad.add j) = some u) := fun W h ad e j u hu => by rw [h.1.cell (by have := (hvc ad e j u hu).1; have := HZC.out; rw [add_block]; omega)]; exact (hvc ad e j u hu).2
  clear hvl hv1c hvr hvc
  go_cut [8] (fun p wx => Hid (Grown w3 v (us.length + 1) (cs ++ [[]]) p wx))
  case first =>
    go_region_held3 (fun W => Below w3.heap.size w3 W ∧ W.cell? ⟨w.heap.size, 0, none⟩ = some (.int .i64 v) ∧ W.cell? ⟨w.heap.size, 1, none⟩ = some (.slice A n c))
      (first | exact hSb | exact HKCc.out _ _ _ _ hSb (by omega) | exact HKAc.out _ _ hSb | exact HKAc.out _ _ (by assumption) | exact HKSc.out _ (below_drewN (Below.refl _ _) 1) | exact HKGc.out _ _ _ (by assumption) (by assumption) (by intro k hk; injection hk with hk; omega))
      (first
        | (refine step_rows rfl (.tmp 43) (.tmp 45) rfl w3.heap.size _ _ [] rfl (own_empty (by omega) (by simp [heap_alloc, heap_drew, Array.getElem?_push, Array.getElem_push] <;> omega)) A n c us rfl HVLc.out HNA.out (HVCc.out _ (by assumption)) HV1c.out (by have := HNL.out; simp; omega) (by simp [heap_alloc, heap_drew] <;> omega) ?_
           intro g1 cap1 wa hO1 hG1 hD1
           have hz1 : w3.heap.size ≤ wa.heap.size := Nat.le_trans (by simp [heap_alloc, heap_drew] <;> omega) hG1.size
           rw [List.nil_append] at hO1 ⊢
           first
             | (refine with_fact (p := FrmAt w3.heap.size 0 (.slice none 0 0) wa) (frm_grown ?_ hG1 ?_) (fun hFa => ?_); (simp [FrmAt, heap_alloc, heap_drew, Array.getElem?_push, Array.getElem_push] <;> omega); (simp <;> omega))
             | (refine with_fact (p := FrmAt (w3.heap.size + 1) 0 (.slice none 0 0) wa) (frm_grown ?_ hG1 ?_) (fun hFa => ?_); (simp [FrmAt, heap_alloc, heap_drew, Array.getElem?_push, Array.getElem_push] <;> omega); (simp <;> omega))
             | (refine with_fact (p := FrmAt (w3.heap.size + 1 + 1) 0 (.slice none 0 0) wa) (frm_grown ?_ hG1 ?_) (fun hFa => ?_); (simp [FrmAt, heap_alloc, heap_drew, Array.getElem?_push, Array.getElem_push] <;> omega); (simp <;> omega))
             | skip
           first
             | (refine with_fact (p := RowAt w3.heap.size (.slice none 0 0) wa) (RowAt.grown ?_ hG1 ?_) (fun hSa => ?_); (simp [RowAt, heap_alloc, heap_drew, Array.getElem?_push, Array.getElem_push] <;> omega); (simp <;> omega))
             | (refine with_fact (p := RowAt (w3.heap.size + 1) (.slice none 0 0) wa) (RowAt.grown ?_ hG1 ?_) (fun hSa => ?_); (simp [RowAt, heap_alloc, heap_drew, Array.getElem?_push, Array.getElem_push] <;> omega); (simp <;> omega))
             | (refine with_fact (p := RowAt (w3.heap.size + 1 + 1) (.slice none 0 0) wa) (RowAt.grown ?_ hG1 ?_) (fun hSa => ?_); (simp [RowAt, heap_alloc, heap_drew, Array.getElem?_push, Array.getElem_push] <;> omega); (simp <;> omega))
             | skip)
        | (refine step_rows rfl (.tmp 46) (.tmp 47) rfl w3.heap.size _ _ us rfl (by first | exact hO1 | exact own_alloc _ hO1 | exact own_alloc _ (own_alloc _ hO1)) _ _ _ [.slice none 0 0] rfl rfl (by simp) (by first | exact hSa.cell | exact (hSa.alloc _).cell | exact (row_new _ _).cell | exact ((row_new _ _).alloc _).cell | exact (row_at (w := wa.alloc (.cells #[.int .i64 0, .slice none 0 0] 27)) (size_alloc _ _).symm _).cell) (by simp [Value.oneCell']) (by have := HNL.out; have := HVLc.out; simp; omega) (by have := hG1.size; simp [heap_alloc, heap_drew] at this ⊢; omega) ?_
           intro g2 cap2 wb hO2 hG2 hD2
           have hSb := HKGc.out _ _ _ (by assumption) hG2 (by intro k hk; injection hk with hk; omega)
           first
             | (have hFb := frm_grown hFa hG2 (ne_types hO1 hFa))
             | (have hq := frm_alloc hFa (.cells #[.slice none 0 0] 35); have hFb := frm_grown hq hG2 (ne_types (own_alloc (.cells #[.slice none 0 0] 35) hO1) hq))
             | (have hq := frm_new wa; have hFb := frm_grown hq hG2 (ne_types (own_alloc (.cells #[.int .i64 0, .slice none 0 0] 27) hO1) hq))
             | (have hq := frm_alloc (frm_new wa) (.cells #[.slice none 0 0] 35); have hFb := frm_grown hq hG2 (ne_types (own_alloc (.cells #[.slice none 0 0] 35) (own_alloc (.cells #[.int .i64 0, .slice none 0 0] 27) hO1)) hq))
             | (have hq := frm_new (wa.alloc (.cells #[.slice none 0 0] 35)); have hFb := frm_grown hq hG2 (ne_types (own_alloc (.cells #[.int .i64 0, .slice none 0 0] 27) (own_alloc (.cells #[.slice none 0 0] 35) hO1)) hq); simp only [size_alloc] at hFb)
             | skip
           try (have hFc0 := hFb.c0; have hFc1 := hFb.c1; have hFz0 := hFb.f 0; have hFz1 := hFb.f 1)))
    all_goals (go_wp2_with fail; go_meet; first | exact grown_set (by omega) hFb hO2 hSb.1 HVNc.out HVRc.out HRX2c.out HZC.out | exact grown_new hO2 hSb.1 HVNc.out HVRc.out HRX2c.out HZC.out)
  case rest =>
  obtain ⟨k8, A10, c10, rfl, hk8, hF8, hR8, hB8⟩ := hcut.out
  have HF8 := Lib.hid hF8
  have HR8 := Lib.hid hR8
  have HLT8 := Lib.hid hF8.lt
  have HX : Hid (∀ W, Below wc.heap.size wc W → Below w3.heap.size w3 W) := fun W h => hB8.trans (h.mono hB8.size)
  have HY : Hid (∀ W, Below wc.heap.size wc W → Below (w.heap.size + 1) W0 W) := fun W h => HW2c.out _ (HX.out _ h)
  have H7 : Hid (∀ W, Below wc.heap.size wc W → W.cell? ⟨k7, 0, none⟩ = some (.int .i64 v) ∧ W.cell? ⟨k7, 1, none⟩ = some (.slice A9 (vs.length + 1) c9)) := fun W h => by
    have h' := HX.out _ h
    rw [h'.cell (p := ⟨k7, 0, none⟩) HLT7.out, h'.cell (p := ⟨k7, 1, none⟩) HLT7.out]
    exact ⟨HF7.out.c0, HF7.out.c1⟩
  have H8 : Hid (∀ W, Below wc.heap.size wc W → W.cell? ⟨k8, 0, none⟩ = some (.int .i64 v) ∧ W.cell? ⟨k8, 1, none⟩ = some (.slice A10 (us.length + 1) c10)) := fun W h => by
    rw [h.cell (p := ⟨k8, 0, none⟩) HLT8.out, h.cell (p := ⟨k8, 1, none⟩) HLT8.out]
    exact ⟨HF8.out.c0, HF8.out.c1⟩
  have hgo := great_out HGF.out
  have HO7 : Hid (Ok32 (cs ++ [xs])) := Ok32.of fun c hc => by
    rcases List.mem_append.1 hc with h | h
    · exact ⟨by have := hgo.2 c h; omega, H32.out c h⟩
    · simp at h; subst h; exact ⟨by have := HLX.out; omega, HX32.out⟩
  have HO8 : Hid (Ok32 (cs ++ [[]])) := Ok32.of fun c hc => by
    rcases List.mem_append.1 hc with h | h
    · exact ⟨by have := hgo.2 c h; omega, H32.out c h⟩
    · simp at h; subst h; exact ⟨by simp, In32.of (by simp)⟩
  have hN7 : vs.length + 1 ≤ 9223372036854775807 := by have := HVN.out; have := hgo.1; omega
  have hN8 : us.length + 1 ≤ 9223372036854775807 := by have := HVNc.out; have := hgo.1; omega
  have HC1 : Hid (∀ W, Below wc.heap.size wc W → Calls Tryd.prog 7 #[.agg #[.int .i64 v, .slice A n c], .slice A3 n3 c3] W fun e w' => e = .returned (.tuple #[.bool (holdsV v cs bs), .int .i64 (falseE v cs bs)]) ∧ Below wc.heap.size wc w') := fun W h =>
    (holdsF_any v A n c cs A3 n3 c3 bs W ((HRF.out _ (HY.out _ h)).more (HZ.out _ (HY.out _ h))) HOK.out hn hv0 hv1 ((HRB.out _ (HY.out _ h)).more (HZ.out _ (HY.out _ h))) hn3).mono fun e w' hh => ⟨hh.1, h.trans (hh.2.mono h.size)⟩
  have HC7 : Hid (∀ W, Below wc.heap.size wc W → Calls Tryd.prog 7 #[.agg #[.int .i64 v, .slice A9 (vs.length + 1) c9], .slice A3 n3 c3] W fun e w' => e = .returned (.tuple #[.bool (holdsV v (cs ++ [xs]) bs), .int .i64 (falseE v (cs ++ [xs]) bs)]) ∧ Below wc.heap.size wc w') := fun W h =>
    (holdsF_any v A9 (vs.length + 1) c9 (cs ++ [xs]) A3 n3 c3 bs W ((HR7.out.below (HX.out _ h)).more (HX.out _ h).size) HO7.out hN7 hv0 hv1 ((HRB.out _ (HY.out _ h)).more (HZ.out _ (HY.out _ h))) hn3).mono fun e w' hh => ⟨hh.1, h.trans (hh.2.mono h.size)⟩
  have HC8 : Hid (∀ W, Below wc.heap.size wc W → Calls Tryd.prog 7 #[.agg #[.int .i64 v, .slice A10 (us.length + 1) c10], .slice A3 n3 c3] W fun e w' => e = .returned (.tuple #[.bool (holdsV v (cs ++ [[]]) bs), .int .i64 (falseE v (cs ++ [[]]) bs)]) ∧ Below wc.heap.size wc w') := fun W h =>
    (holdsF_any v A10 (us.length + 1) c10 (cs ++ [[]]) A3 n3 c3 bs W ((HR8.out.below h).more h.size) HO8.out hN8 hv0 hv1 ((HRB.out _ (HY.out _ h)).more (HZ.out _ (HY.out _ h))) hn3).mono fun e w' hh => ⟨hh.1, h.trans (hh.2.mono h.size)⟩
  have HC0 : Hid (∀ W, Below wc.heap.size wc W → Calls Tryd.prog 7 #[.agg #[.int .i64 v, .slice none 0 0], .slice A3 n3 c3] W fun e w' => e = .returned (.tuple #[.bool (holdsV v [] bs), .int .i64 (falseE v [] bs)]) ∧ Below wc.heap.size wc w') := fun W h =>
    (holdsF_any v none 0 0 [] A3 n3 c3 bs W RdF.nil (Ok32.of fun c hc => by simp at hc) (by omega) hv0 hv1 ((HRB.out _ (HY.out _ h)).more (HZ.out _ (HY.out _ h))) hn3).mono fun e w' hh => ⟨hh.1, h.trans (hh.2.mono h.size)⟩
  have HGC := Lib.hid (grow_cases (v := v) (cs := cs) (xs := xs) (bs := bs) hgo.1)
  generalize holdsV v cs bs = ra at *
  generalize falseE v cs bs = re at *
  generalize holdsV v (cs ++ [xs]) bs = rb at *
  generalize falseE v (cs ++ [xs]) bs = rg at *
  generalize holdsV v (cs ++ [[]]) bs = rd at *
  generalize falseE v (cs ++ [[]]) bs = rh at *
  generalize holdsV v [] bs = ri at *
  generalize falseE v [] bs = rk at *
  have HD4 : Hid (Below wc.heap.size wc wc) := Below.refl _ _
  clear hf0 hf1 hF8 hR8 hk8 hB8 hcut hgo HKSc HKAc HKGc HKCc HVRc HRX2c HVCc HV1c hN7 hN8
  obtain ⟨hf0, hf1⟩ := HT.out _ (HY.out _ HD4.out)
  go_wp2_with fail
  refine (HC1.out _ HD4.out).mono ?_
  rintro e w5 ⟨rfl, hB⟩
  have HD5 := Lib.hid hB
  clear hB hf0 hf1
  obtain ⟨hf0, hf1⟩ := H7.out _ HD5.out
  go_wp2_with fail
  refine (HC7.out _ HD5.out).mono ?_
  rintro e w6 ⟨rfl, hB⟩
  have HD6 := Lib.hid hB
  clear hB hf0 hf1
  obtain ⟨hf0, hf1⟩ := H8.out _ HD6.out
  go_wp2_with fail
  refine (HC8.out _ HD6.out).mono ?_
  rintro e w7 ⟨rfl, hB⟩
  have HD7 := Lib.hid hB
  clear hB hf0 hf1
  obtain ⟨hf0, hf1⟩ := HT.out _ (HY.out _ HD7.out)
  go_wp2_with fail
  refine (HC0.out _ HD7.out).mono ?_
  rintro e w8 ⟨rfl, hB⟩
  have HD8 := Lib.hid hB
  clear hB hf0 hf1
  have HEND := Lib.hid (HBW.out _ (HY.out _ HD8.out))
  rcases HGC.out with ⟨rfl, rfl⟩ | ⟨rfl, rfl, rfl, rfl, rfl, (rfl | ⟨rfl, (rfl | rfl)⟩)⟩
  · go_wp2_with fail
    go_ret
    exact ⟨rfl, HEND.out⟩
  · go_wp2_with fail
    go_ret
    exact ⟨rfl, HEND.out⟩
  · go_wp2_with fail
    go_ret
    exact ⟨rfl, HEND.out⟩
  · cases rb
    all_goals (go_wp2_with fail; go_ret; exact ⟨rfl, HEND.out⟩)
end Go.Proofs.YtjjmnaigmddbeaaDoor.CGrows
