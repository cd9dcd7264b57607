/- What ProofMore opens: clauses and how long they can be; a log's beginnings in memory. What ProofMore asks, in plain mathematics; appending clauses at a step of a region that draws its order; a formula stored as a whole. ProofMore is true: the statement Rows.ProofMoreSaid, without a condition. -/
import Derived.Test.YtkckodpfhlpkgaaGreatPGrt
import Derived.Test.YtkckodpfhlpkgaaGreatPrfH
import Derived.Test.YtkckodpfhlpkgaaGreatWOpS
import Derived.Laws.Tables
import Derived.Laws.OwnMore
import Derived.Test.YtkckodpfhlpkgaaGreatRows
namespace Go.Proofs.YtkckodpfhlpkgaaGreat
set_option maxRecDepth 100000
open Go.ChangeShapes Go.WideShapes Go.ChangeAt Go.RowKit LitM TrailM EngM CnfP Go.Deep

theorem RdS.taken {w : World} {B n y : Nat} {A : Option Addr} {log : List (Bool × List Int)} (h : RdS w B A n log) (hy : y ≤ n) : RdS w B A y (log.take y) := by
  refine ⟨by have := h.len; simp; omega, fun h0 => ?_⟩
  obtain ⟨b, o, rfl, hb, hg⟩ := h.at_ (by omega)
  refine ⟨b, o, rfl, hb, fun j hj => ?_⟩
  obtain ⟨Aj, nj, cj, e1, e2, e3⟩ := hg j (by omega)
  have e : (log.take y).getD j (false, []) = log.getD j (false, []) := by rw [List.getD, List.getElem?_take_of_lt hj]; rfl
  rw [e]
  exact ⟨Aj, nj, cj, e1, e2, e3⟩
/-- Clauses that came in, and how long they are. -/
theorem open_matS {H : Type} {enc : TypeId × Value → H} {W : World} {base : Nat} {v : Value} {d : DataW H} {p : List MemPlace} (hok : Value.okWide Tryz.prog W .any base 22 v)
    (hw : ∀ n ∈ d.weights Tryz.prog 22, n ≤ reachBytes)
    (h : DataW.Trod enc Tryz.prog W 0 (fun _ => true) true 22 v d p) :
    ∃ A n c cs, v = .slice A n c ∧ RdF W W.heap.size A n cs ∧ (∀ c ∈ cs, In32 c) ∧ (∀ c ∈ cs, c.length * 4 ≤ 140737488351232) ∧ n ≤ 9223372036854775807 ∧ (A = none → n = 0 ∧ c = 0) ∧ n ≤ c ∧ c ≤ 9223372036854775807 := by
  obtain ⟨a0, len0, cap0, rfl⟩ := okWide_slice Tryz.underlying22 hok
  obtain ⟨fuel, hf⟩ := h
  rcases open_int_rows Tryz.underlying22 Tryz.underlying36 Tryz.underlying34 cells_row cells_lit hf with ⟨hcs, _⟩ | ⟨a, len, cap, A, L, C, Z, hcs, _, hlc, hm, hx1, hrow⟩
  · simp [Value.cells] at hcs
    obtain ⟨rfl, rfl, rfl⟩ := hcs
    exact ⟨none, 0, 0, [], rfl, RdF.nil, by simp, by simp, by omega, fun _ => ⟨rfl, rfl⟩, by omega, by omega⟩
  · simp [Value.cells] at hcs
    obtain ⟨rfl, rfl, rfl⟩ := hcs
    have hm' : cap0 ≤ 9223372036854775807 := by unfold maxLen at hm; omega
    have hget : ∀ j, j < len0 → ((List.range len0).map fun r => (Z r).take (L r)).getD j [] = (Z j).take (L j) := fun j hj => by
      simp [List.getD, List.getElem?_map, List.getElem?_range hj]
    refine ⟨some a, len0, cap0, (List.range len0).map fun r => (Z r).take (L r), rfl, ⟨by simp, fun hn => ?_⟩, fun c hc => ?_, fun c hc => ?_, by omega, (fun e => by cases e), hlc, hm'⟩
    · obtain ⟨b, off, spot⟩ := a
      have hspot : spot = none := by simpa [Addr.add] using World.cell?_spot (hrow 0 (by omega)).1
      subst hspot
      have hcell' : ∀ j, j < cap0 → W.cell? ⟨b, off + j, none⟩ = some (.slice (A j) (L j) (C j)) := fun j hj => by rw [← add_plain]; exact (hrow j hj).1
      refine ⟨b, off, rfl, World.block_lt_of_cell? _ _ (hcell' 0 (by omega)), fun j hj => ?_⟩
      obtain ⟨_, r2, r3, r4, r5, r6, r7⟩ := hrow j (by omega)
      rw [hget j hj]
      exact ⟨A j, L j, C j, hcell' j (by omega), rd_of r2 r4 r6 (fun a' ha' => (r7 a' ha').2)⟩
    · obtain ⟨j, hj, rfl⟩ := List.mem_map.1 hc
      obtain ⟨_, r2, r3, r4, r5, r6, r7⟩ := hrow j (by have := List.mem_range.1 hj; omega)
      exact In32.of fun y hy => i32_of (r5 y (List.mem_of_mem_take hy))
    · obtain ⟨j, hj, rfl⟩ := List.mem_map.1 hc
      have hj : j < len0 := by simpa using hj
      rw [Prod.ext_iff] at hx1
      have hd := hx1.1
      simp only at hd
      have hbl : Tryz.prog.bytesOf 34 = 4 := by kernel_rfl
      obtain ⟨_, r2, r3, r4, r5, r6, r7⟩ := hrow j (by omega)
      rcases hAj : A j with _ | aj
      · have := r6 hAj
        simp; omega
      · have hin : (L j + (C j - L j)) * 4 ∈ d.weights Tryz.prog 22 := by
          have hrow1 : (L j + (C j - L j)) * 4 ∈ (intRow (H := H) .i32 (A j) (L j) (Z j)).weights Tryz.prog 36 := by
            rw [hAj]
            unfold intRow
            simp only [DataW.weights, Tryz.underlying36]
            refine List.mem_cons.2 (.inl ?_)
            rw [hbl]
            simp only [lits, List.length_map, List.length_take, List.length_drop, r4]
            rw [Nat.min_eq_left r2]
          have hmem : intRow (H := H) .i32 (A j) (L j) (Z j) ∈ (List.range len0).map fun r => intRow (H := H) .i32 (A r) (L r) (Z r) := List.mem_map.2 ⟨j, List.mem_range.2 hj, rfl⟩
          rw [hd]
          simp only [DataW.weights, Tryz.underlying22]
          exact List.mem_cons.2 (.inr (List.mem_append_left _ (weights_all hmem hrow1)))
        have h1 := hw _ hin
        have h2 : reachBytes = 140737488351232 := by decide
        rw [h2] at h1
        simp; omega
end Go.Proofs.YtkckodpfhlpkgaaGreat
namespace Go.Proofs.YtkckodpfhlpkgaaGreat
set_option maxRecDepth 100000
open Go.ChangeShapes Go.WideShapes Go.ChangeAt Go.RowKit LitM TrailM EngM CnfP Go.Deep

theorem fit_take {v : Int} {cs : List (List Int)} {log : List (Bool × List Int)} (h : fitB v cs [] log = true) (k : Nat) : fitB v cs [] (log.take k) = true := by
  unfold fitB at h ⊢
  simp only [Bool.and_eq_true, List.all_eq_true] at h ⊢
  exact ⟨h.1, fun s hs => h.2 s (List.mem_of_mem_take hs)⟩
theorem chk_yes {v : Int} {cs : List (List Int)} {log : List (Bool × List Int)} (h : fitB v cs [] log = true) : chkV v cs log = walkZ (handM cs fun _ => 0) log 0 ∧ chkE v cs log = 0 := by
  unfold chkV chkE; rw [if_pos h, if_pos h]; exact ⟨rfl, rfl⟩
theorem chk_or (v : Int) (cs : List (List Int)) (log : List (Bool × List Int)) : (chkE v cs log = 91) ∨ (chkE v cs log = 0 ∧ fitB v cs [] log = true) := by
  unfold chkE
  by_cases h : fitB v cs [] log = true
  · exact .inr ⟨by rw [if_pos h], h⟩
  · exact .inl (by rw [if_neg h])
/-- What the law asks, where both fit. -/
theorem more_all {v : Int} {cs ds : List (List Int)} {log : List (Bool × List Int)} (h1 : fitB v cs [] log = true) (h2 : fitB v (cs ++ ds) [] log = true) :
    (chkV v cs log = -1 ∧ chkV v (cs ++ ds) log = -1 ∧ ∀ k, chkV v cs (log.take k) = -1 ∧ chkE v cs (log.take k) = 0) ∨
    (∃ r : Nat, chkV v cs log = (r : Int) ∧ ∀ k, chkE v cs (log.take k) = 0 ∧ (k ≤ r → chkV v cs (log.take k) = -1) ∧ (r < k → chkV v cs (log.take k) = (r : Int))) := by
  have e1 := (chk_yes h1).1
  have e2 := (chk_yes h2).1
  have e3 := fun k => chk_yes (fit_take h1 k)
  have wt := fun k => walk_take log (handM cs fun _ => 0) 0 k
  rcases walk_from log (handM cs fun _ => 0) 0 with e | e
  · exact .inl ⟨e1.trans e, e2.trans (walk_more cs ds log e), fun k => ⟨(e3 k).1.trans ((wt k).1 e), (e3 k).2⟩⟩
  · obtain ⟨r, hr⟩ : ∃ r : Nat, walkZ (handM cs fun _ => 0) log 0 = (r : Int) := ⟨(walkZ (handM cs fun _ => 0) log 0).toNat, by omega⟩
    refine .inr ⟨r, e1.trans hr, fun k => ⟨(e3 k).2, fun hk => (e3 k).1.trans (((wt k).2 r hr).1 (by omega)), fun hk => (e3 k).1.trans (((wt k).2 r hr).2 (by omega))⟩⟩
/-- Clauses are appended; a formula's struct elsewhere stays. -/
theorem step_append_rows {w : World} {ops : Array Oper} {o : Oper} {a : Act} {K : Act → World → Prop} {Q : Exit → Act → World → Prop} {E : Prop} (hgd : o.guard = none) (s x : Operand)
    (ho : o.op = .call { callee := .builtin .append, args := #[s, x], argTypes := #[22, 22] })
    (Bd base : Nat) (v : Value) (cs : List (List Int)) (hs : a.eval s = v) (hown : OwnF w Bd base v cs) (hBd : Bd ≤ base)
    (A : Option Addr) (m c : Nat) (ds : List (List Int)) (hx : a.eval x = .slice A m c) (hA : A = none → m = 0 ∧ c = 0) (hR : RdG w Bd A m ds)
    (hbytes : (cs.length + m) * 24 ≤ 140737488355328) (hbase : base ≤ w.heap.size)
    (h : ∀ v' w', OwnF w' Bd base v' (cs ++ ds) → Below base w w' → (∀ (g : Nat) (u : Array Value), w.heap[g]? = some (.cells u 24 (0, 0)) → w'.heap[g]? = some (.cells u 24 (0, 0))) → K (a.put o.dst v') w') :
    if Region.wanted o (yielded ops a.tmps) = true then Oper.wp Tryz.prog o a w K Q else E := by
  have hwd : Region.wanted o (yielded ops a.tmps) = true := by simp [Region.wanted, hgd]
  rw [if_pos hwd]
  obtain ⟨i0, hi, hz0, hz1, hz2⟩ := info_parts info_row9
  obtain ⟨vs, how, hr⟩ := hown
  rcases A with _ | ad
  · obtain ⟨rfl, rfl⟩ := hA rfl
    have hn : ds = [] := List.length_eq_zero_iff.1 hR.len
    subst hn
    have hrun := run_append_owned_none (P := Tryz.prog) (w := w) base 22 o.type 36 i0 1 Tryz.underlying22 hi v cs.length vs how
    unfold Oper.wp
    simp [execOp, ho, resolve, invoke, builtin, hs, hx, hrun, Result.andThen]
    exact h v w (by rw [List.append_nil]; exact ⟨vs, how, hr⟩) (Below.refl _ _) fun g u hg => hg
  · have hvs : vs.length = cs.length := by rw [how.1]; omega
    have hex : ∀ j, ∃ (Aj : Option Addr) (nj cj : Nat), j < m → w.cell? (ad.add j) = some (.slice Aj nj cj) ∧ Rd .i32 w Bd Aj nj (ds.getD j []) := fun j => by
      by_cases hj : j < m
      · obtain ⟨b, o, e, hb, hc⟩ := hR.at_ (by omega)
        cases e
        obtain ⟨Aj, nj, cj, h1, h2⟩ := hc j hj
        exact ⟨Aj, nj, cj, fun _ => ⟨by rw [add_plain]; exact h1, h2⟩⟩
      · exact ⟨none, 0, 0, fun h => absurd h hj⟩
    have hF : ∃ F : Nat → Value, ∀ j, j < m → w.cell? (ad.add j) = some (F j) ∧ (F j).oneCell' = true ∧ ∃ Aj nj cj, F j = .slice Aj nj cj ∧ Rd .i32 w Bd Aj nj (ds.getD j []) := by
      obtain ⟨F, hF⟩ := Classical.axiomOfChoice hex
      obtain ⟨G, hG⟩ := Classical.axiomOfChoice hF
      obtain ⟨K, hK⟩ := Classical.axiomOfChoice hG
      exact ⟨fun j => .slice (F j) (G j) (K j), fun j hj => ⟨(hK j hj).1, rfl, _, _, _, rfl, (hK j hj).2⟩⟩
    obtain ⟨F, hF⟩ := hF
    have hget : ∀ (j : Nat) (u : Value), ((List.range m).map F)[j]? = some u → j < m ∧ u = F j := fun j u hu => by
      by_cases hj : j < m
      · rw [List.getElem?_map, List.getElem?_range hj] at hu
        exact ⟨hj, by simpa using hu.symm⟩
      · rw [List.getElem?_eq_none (by simp; omega)] at hu; cases hu
    refine wp_append_own w s x 22 ho base 36 i0 (.slice none 0 0) 1 24 Tryz.underlying22 hi hz0 hz1 hz2 rfl (by decide) v cs.length vs hs how ad m c ((List.range m).map F) hx (by simp)
      (fun j u hu => by obtain ⟨hj, rfl⟩ := hget j u hu; exact (hF j hj).1) (fun u hu => by obtain ⟨j, hj, rfl⟩ := List.mem_map.1 hu; exact (hF j (List.mem_range.1 hj)).2.1) (by unfold maxLen; omega) hbytes hbase ?_
    intro v' w' hown' hgrow _
    have hb : Below base w w' := (Below.refl _ _).grown hgrow hbase (fun j hj => (how.lt j hj).1)
    refine h v' w' ⟨vs ++ (List.range m).map F, by rw [List.length_append, hR.len]; exact hown', fun j hj => ?_⟩ hb fun g u hg => ?_
    · rw [List.length_append, hR.len] at hj
      by_cases hlt : j < cs.length
      · obtain ⟨Aj, nj, cj, h1, h2⟩ := hr j hlt
        refine ⟨Aj, nj, cj, by rw [List.getElem?_append_left (by omega)]; exact h1, ?_⟩
        rw [show (cs ++ ds).getD j [] = cs.getD j [] from by simp [List.getD, List.getElem?_append_left hlt]]
        exact h2.keep fun p hp => hb.cell (by omega)
      · obtain ⟨_, _, Aj, nj, cj, h1, h2⟩ := hF (j - cs.length) (by omega)
        refine ⟨Aj, nj, cj, by rw [List.getElem?_append_right (by omega), hvs, List.getElem?_map, List.getElem?_range (by omega), Option.map_some, h1], ?_⟩
        rw [show (cs ++ ds).getD j [] = ds.getD (j - cs.length) [] from by simp [List.getD, List.getElem?_append_right (Nat.le_of_not_lt hlt)]]
        exact h2.keep fun p hp => hb.cell (by omega)
    · rw [hgrow.block g (lt_of_heap hg) (fun e => ?_)]
      · exact hg
      · rcases how.2 with ⟨rfl, _⟩ | ⟨g', cap, cur, rfl, _, hh, _⟩
        · cases e
        · have e2 : g = g' := Option.some.inj e
          subst e2
          rw [hg] at hh
          injection hh with hh
          injection hh with _ ht
          exact absurd ht (by decide)
/-- A formula is stored as a whole. -/
theorem step_store_form {w : World} {ops : Array Oper} {o : Oper} {a : Act} {K : Act → World → Prop} {Q : Exit → Act → World → Prop} {E : Prop} (hgd : o.guard = none) (x y : Operand)
    (ho : o.op = .store 24 x y) (g : Nat) (u v : Value) (hx : a.eval x = .pointer (some ⟨g, 0, none⟩)) (hy : a.eval y = .agg #[u, v])
    (old : Array Value) (hg : w.heap[g]? = some (.cells old 24 (0, 0))) (hold : old.size = 2) (h1 : u.oneCell' = true) (h2 : v.oneCell' = true)
    (h : ∀ w', w'.heap[g]? = some (.cells #[u, v] 24 (0, 0)) → Kf (fun k => k = g) w w' → K (a.put o.dst undef) w') :
    if Region.wanted o (yielded ops a.tmps) = true then Oper.wp Tryz.prog o a w K Q else E := by
  have hwd : Region.wanted o (yielded ops a.tmps) = true := by simp [Region.wanted, hgd]
  rw [if_pos hwd]
  refine wp_store_row 24 x y ho g #[u, v] hx hy 24 old hg (by kernel_rfl) (by rw [hold]; rfl) (by simp [h1, h2]) (h _ (setRow_heap w g old _ _ _ hg) ⟨rfl, rfl, rfl, by simp [World.setRow], fun k hk hne => ?_⟩)
  have : g ≠ k := fun e => hne e.symm
  simp [World.setRow, Array.getElem?_modify, this]
/-- A formula in memory, its clauses anywhere. -/
def FmAt (w : World) (g : Nat) (v : Int) (cs : List (List Int)) : Prop := ∃ A c, w.cell? ⟨g, 0, none⟩ = some (.int .i64 v) ∧ w.cell? ⟨g, 1, none⟩ = some (.slice A cs.length c) ∧ RdF w w.heap.size A cs.length cs
theorem formed {w w' : World} {Bd base g : Nat} {r : Value} {v : Int} {cs : List (List Int)} {u : Array Value} (ho : OwnF w Bd base r cs) (hBd : Bd ≤ w.heap.size) (hu : w.heap[g]? = some (.cells u 24 (0, 0)))
    (hg : w'.heap[g]? = some (.cells #[.int .i64 v, r] 24 (0, 0))) (hk : Kf (fun k => k = g) w w') (hgB : Bd ≤ g) : FmAt w' g v cs := by
  have ho' : OwnF w' Bd base r cs := by
    obtain ⟨vs, how, hr⟩ := ho
    refine ⟨vs, ⟨how.1, ?_⟩, fun j hj => ?_⟩
    · rcases how.2 with h' | ⟨g', cap, cur, hv, hg', hh, r⟩
      · exact .inl h'
      · refine .inr ⟨g', cap, cur, hv, hg', (hk.block g' (lt_of_heap hh) fun e => ?_).trans hh, r⟩
        subst e
        rw [hu] at hh
        injection hh with hh
        injection hh with _ ht
        exact absurd ht (by decide)
    · obtain ⟨Aj, nj, cj, h1, h2⟩ := hr j hj
      exact ⟨Aj, nj, cj, h1, h2.keep fun p hp => World.cell?_of_block (hk.block p.block (by omega) (by omega))⟩
  obtain ⟨A, c, rfl, hR, _⟩ := ho'.form
  exact ⟨A, c, by rw [Lib.cell_of_heap hg]; rfl, by rw [Lib.cell_of_heap hg]; rfl, hR.ff (by have := hk.size; omega)⟩
theorem oneCell_own {w : World} {Bd base : Nat} {r : Value} {cs : List (List Int)} (ho : OwnF w Bd base r cs) : r.oneCell' = true := by
  obtain ⟨A, c, rfl, _⟩ := ho.form
  rfl
/-- A store into a new block. -/
theorem below_kf {w w1 w' : World} {B g : Nat} (hb : Below B w w1) (hB : B ≤ w1.heap.size) (hk : Kf (fun k => k = g) w1 w') (hg : B ≤ g) : Below B w w' :=
  hb.trans ⟨hk.os, hk.tape, hk.output, hk.size, fun k hk' => hk.block k (by omega) (by omega)⟩
end Go.Proofs.YtkckodpfhlpkgaaGreat
namespace Go.Proofs.YtkckodpfhlpkgaaGreat.PMore
set_option maxRecDepth 100000
open Go.ChangeShapes Go.WideShapes Go.ChangeAt Go.RowKit LitM TrailM EngM CnfP

set_option maxHeartbeats 12800000 in
theorem walk (v : Int) (A Al Am : Option Addr) (n c N cn nm cm : Nat) (cs : List (List Int)) (log : List (Bool × List Int)) (ds : List (List Int)) (w : World) (h : RdF w w.heap.size A n cs) (h32 : ∀ c ∈ cs, In32 c) (hA : A = none → n = 0 ∧ c = 0) (hn : n ≤ 9223372036854775807)
    (hl : RdS w w.heap.size Al N log) (hl32 : ∀ s ∈ log, In32 s.2) (hN : N ≤ 9223372036854775807) (hAl : Al = none → N = 0 ∧ cn = 0) (hNc : N ≤ cn) (hcn : cn ≤ 9223372036854775807) (hv0 : -9223372036854775808 ≤ v) (hv1 : v ≤ 9223372036854775807)
    (hm : RdF w w.heap.size Am nm ds) (hm32 : ∀ c ∈ ds, In32 c) (hmz : ∀ c ∈ ds, c.length * 4 ≤ 140737488351232) (hAm : Am = none → nm = 0 ∧ cm = 0) (hnm : nm ≤ 9223372036854775807) :
    Calls Tryz.prog 3 #[.agg #[.int .i64 v, .slice A n c], .slice Al N cn, .slice Am nm cm] w fun e w' => e = .returned (.bool true) ∧ Below w.heap.size w w' := by
  obtain ⟨W0, hW0⟩ : ∃ W0, W0 = w.alloc (.cells #[.int .i64 v, .slice A n c] 24) := ⟨_, rfl⟩
  have hb0 : Below w.heap.size w W0 := by rw [hW0]; exact (Below.refl _ _).alloc (Nat.le_refl _) _
  have x0 : W0.cell? ⟨w.heap.size, 0, none⟩ = some (.int .i64 v) := by rw [hW0, Lib.cell_of_heap (blk_new w _)]; rfl
  have x1 : W0.cell? ⟨w.heap.size, 1, none⟩ = some (.slice A n c) := by rw [hW0, Lib.cell_of_heap (blk_new w _)]; rfl
  have hlt0 : w.heap.size < W0.heap.size := by rw [hW0]; simp
  have HX : Hid (∀ V, Below W0.heap.size W0 V → V.cell? ⟨w.heap.size, 0, none⟩ = some (.int .i64 v) ∧ V.cell? ⟨w.heap.size, 1, none⟩ = some (.slice A n c) ∧ Below w.heap.size w V) := fun V hV =>
    ⟨(hV.cell (p := ⟨w.heap.size, 0, none⟩) hlt0).trans x0, (hV.cell (p := ⟨w.heap.size, 1, none⟩) hlt0).trans x1, hb0.trans (hV.mono hb0.size)⟩
  have HR : Hid (∀ V, Below w.heap.size w V → RdF V V.heap.size A n cs ∧ RdS V V.heap.size Al N log ∧ RdF V V.heap.size Am nm ds) := fun V hV => ⟨(h.below hV).more hV.size, (hl.keep fun p hp => hV.cell hp).more hV.size, (hm.below hV).more hV.size⟩
  have HG : Hid (∀ V, Below W0.heap.size W0 V → Calls Tryz.prog 6 #[.agg #[.int .i64 v, .slice A n c], .slice Al N cn] V fun e w' => e = .returned (.bool (greatB v cs log)) ∧ Below W0.heap.size W0 w') := fun V hV => by
    obtain ⟨h1, h2, _⟩ := HR.out V (HX.out V hV).2.2
    exact (great_any h1 hA hn h2 hN).mono fun e w' ⟨a, b⟩ => ⟨a, hV.trans (b.mono hV.size)⟩
  have HPA := Lib.hid ((palive_any W0).mono fun e w' ⟨a, b⟩ => (show _ ∧ Below W0.heap.size W0 w' from ⟨a, b⟩))
  have HW0 := Lib.hid hW0
  have HB0 := Lib.hid hb0
  have HCL := Lib.hid h.len
  have HLL := Lib.hid hl.len
  have HML := Lib.hid hm.len
  have H32 := Lib.hid h32
  have HL32 := Lib.hid hl32
  have HM32 := Lib.hid hm32
  have HMZ := Lib.hid hmz
  have HA := Lib.hid hA
  have HAm := Lib.hid hAm
  have HAl := Lib.hid hAl
  clear h h32 hA hl hl32 hW0 hb0 x0 x1 hm hm32 hmz hAm hAl
  go_enter Tryz.func3, Tryz.ntmps3
  go_upto_region 1 with (fail)
  rw [← HW0.out]
  go_wp2_with fail
  refine HPA.out.mono ?_
  rintro e w1 ⟨rfl, hb1⟩
  obtain ⟨x0, x1, _⟩ := HX.out w1 hb1
  have HG1 := Lib.hid (HG.out w1 hb1)
  clear hb1 HPA HG
  cases hgt : greatB v cs log with
  | true =>
    rw [hgt] at HG1
    clear hgt
    go_wp2_with fail
    refine HG1.out.mono ?_
    rintro e w2 ⟨rfl, hb2⟩
    have HB := Lib.hid (HX.out w2 hb2).2.2
    clear hb2 HG1
    go_wp2_with fail
    go_ret
    exact ⟨rfl, HB.out⟩
  | false =>
  rw [hgt] at HG1
  by_cases hbig : 10 < nm
  · have t1 : decide (10 < nm) = true := decide_eq_true hbig
    have t2 : decide ((10 : Int) < (nm : Int)) = true := decide_eq_true (by omega)
    clear hgt hbig
    go_wp2_with fail
    refine HG1.out.mono ?_
    rintro e w2 ⟨rfl, hb2⟩
    have HB := Lib.hid (HX.out w2 hb2).2.2
    clear hb2 HG1
    go_wp2_with fail
    go_ret
    exact ⟨rfl, HB.out⟩
  have t1 : decide (10 < nm) = false := decide_eq_false hbig
  have t2 : decide ((10 : Int) < (nm : Int)) = false := decide_eq_false (by omega)
  have hgr := hgt
  unfold greatB at hgr
  simp only [Bool.or_eq_false_iff, decide_eq_false_iff_not, List.any_eq_false, Bool.not_eq_true] at hgr
  obtain ⟨⟨⟨hvv, gn⟩, gN⟩, gall⟩ := hgr
  have hn6 : n ≤ 60 := by have := HCL.out; omega
  have hN4 : N ≤ 40 := by have := HLL.out; omega
  have hv4 : v ≤ 4000 ∨ 262144 ≤ v := by
    by_cases e1 : v ≤ 4000
    · exact .inl e1
    · by_cases e2 : 262144 ≤ v
      · exact .inr e2
      · exfalso
        simp at hvv
        omega
  have HC20 : Hid (∀ c ∈ cs, c.length ≤ 20) := fun c hc => by have := gall c (List.mem_append_left _ hc); omega
  have HS20 : Hid (∀ s ∈ log, s.2.length ≤ 20) := fun s hs => by have := gall s.2 (List.mem_append_right _ (List.mem_map_of_mem hs)); omega
  have hnm1 : nm ≤ 10 := by omega
  -- Check of the formula, of any beginning of the log
  have HCk : Hid (∀ (V : World) (k : Nat), Below W0.heap.size W0 V → k ≤ N → Calls Tryz.prog 7 #[.agg #[.int .i64 v, .slice A n c], .slice Al k cn] V fun e w' => e = .returned (.tuple #[.int .i64 (chkV v cs (log.take k)), .int .i64 (chkE v cs (log.take k))]) ∧ Below W0.heap.size W0 w') := fun V k hV hk => by
    obtain ⟨h1, h2, _⟩ := HR.out V (HX.out V hV).2.2
    exact (pcheck_any hv0 hv1 hv4 (by omega) (by omega) A cs h1 H32.out (fun c hc => by have := HC20.out c hc; omega) Al (log.take k) (h2.taken hk) (fun s hs => HL32.out s (List.mem_of_mem_take hs)) (fun s hs => by have := HS20.out s (List.mem_of_mem_take hs); omega)).mono fun e w' ⟨a, b⟩ => ⟨a, hV.trans (b.mono hV.size)⟩
  have HCk1 : Hid (∀ (V : World), Below W0.heap.size W0 V → Calls Tryz.prog 7 #[.agg #[.int .i64 v, .slice A n c], .slice Al N cn] V fun e w' => e = .returned (.tuple #[.int .i64 (chkV v cs log), .int .i64 (chkE v cs log)]) ∧ Below W0.heap.size W0 w') := fun V hV => by
    have := HCk.out V N hV (Nat.le_refl _)
    rw [List.take_of_length_le (by rw [HLL.out]; exact Nat.le_refl _)] at this
    exact this
  have HCg : Hid (∀ (V : World) (A2 : Option Addr) (c2 : Nat), Below W0.heap.size W0 V → RdF V V.heap.size A2 (cs ++ ds).length (cs ++ ds) → Calls Tryz.prog 7 #[.agg #[.int .i64 v, .slice A2 (cs ++ ds).length c2], .slice Al N cn] V fun e w' => e = .returned (.tuple #[.int .i64 (chkV v (cs ++ ds) log), .int .i64 (chkE v (cs ++ ds) log)]) ∧ Below W0.heap.size W0 w') := fun V A2 c2 hV hR2 => by
    obtain ⟨_, h2, _⟩ := HR.out V (HX.out V hV).2.2
    refine (pcheck_any hv0 hv1 hv4 (by rw [List.length_append, HCL.out, HML.out]; omega) (by omega) A2 (cs ++ ds) hR2 (fun c hc => ?_) (fun c hc => ?_) Al log h2 HL32.out (fun s hs => by have := HS20.out s hs; omega)).mono fun e w' ⟨a, b⟩ => ⟨a, hV.trans (b.mono hV.size)⟩
    · rcases List.mem_append.1 hc with e | e
      · exact H32.out c e
      · exact HM32.out c e
    · rcases List.mem_append.1 hc with e | e
      · have := HC20.out c e; omega
      · exact HMZ.out c e
  have HFA : Hid (∀ {k : Nat}, chkE v cs log = 0 → chkE v (cs ++ ds) log = 0 → (chkV v cs log = -1 ∧ chkV v (cs ++ ds) log = -1 ∧ ∀ k, chkV v cs (log.take k) = -1 ∧ chkE v cs (log.take k) = 0) ∨
    (∃ r : Nat, chkV v cs log = (r : Int) ∧ ∀ k, chkE v cs (log.take k) = 0 ∧ (k ≤ r → chkV v cs (log.take k) = -1) ∧ (r < k → chkV v cs (log.take k) = (r : Int)))) := fun {_} e1 e2 => by
    rcases chk_or v cs log with e | ⟨_, f1⟩
    · rw [e] at e1; cases e1
    rcases chk_or v (cs ++ ds) log with e | ⟨_, f2⟩
    · rw [e] at e2; cases e2
    exact more_all f1 f2
  have HE1 : Hid (chkE v cs log = 91 ∨ chkE v cs log = 0) := by rcases chk_or v cs log with e | ⟨e, _⟩ <;> simp [Hid, e]
  have HE2 : Hid (chkE v (cs ++ ds) log = 91 ∨ chkE v (cs ++ ds) log = 0) := by rcases chk_or v (cs ++ ds) log with e | ⟨e, _⟩ <;> simp [Hid, e]
  clear gall gn gN hgt hbig hvv
  obtain ⟨nn, hnn⟩ : ∃ nn, nn = chkV v cs log := ⟨_, rfl⟩
  obtain ⟨ee, hee⟩ : ∃ ee, ee = chkE v cs log := ⟨_, rfl⟩
  obtain ⟨mm, hmm⟩ : ∃ mm, mm = chkV v (cs ++ ds) log := ⟨_, rfl⟩
  obtain ⟨hh, hhh⟩ : ∃ hh, hh = chkE v (cs ++ ds) log := ⟨_, rfl⟩
  rw [← hnn, ← hee] at HCk1
  rw [← hmm, ← hhh] at HCg
  rw [← hnn, ← hee, ← hmm, ← hhh] at HFA
  rw [← hee] at HE1
  rw [← hhh] at HE2
  clear hnn hee hmm hhh
  go_wp2_with fail
  refine HG1.out.mono ?_
  rintro e w2 ⟨rfl, hb2⟩
  clear x0 x1 HG1
  obtain ⟨x0, x1, hbw2⟩ := HX.out w2 hb2
  have HCk2 := Lib.hid (HCk1.out w2 hb2)
  clear hb2 hbw2 HCk1
  go_wp2_with fail
  refine HCk2.out.mono ?_
  rintro e w3 ⟨rfl, hb3⟩
  clear x0 x1 HCk2
  obtain ⟨v0, hv0w⟩ : ∃ v0, v0 = w3.drew := ⟨_, rfl⟩
  have hb30 : Below W0.heap.size W0 v0 := by rw [hv0w]; exact hb3.drew
  have hsz0 : W0.heap.size ≤ v0.heap.size := hb30.size
  have HV0 : Hid (Below W0.heap.size W0 v0 ∧ W0.heap.size ≤ v0.heap.size) := ⟨hb30, hsz0⟩
  have HS : Hid (∀ V, Below v0.heap.size v0 V → V.cell? ⟨w.heap.size, 0, none⟩ = some (.int .i64 v) ∧ V.cell? ⟨w.heap.size, 1, none⟩ = some (.slice A n c)) := fun V hV => by
    obtain ⟨y0, y1, _⟩ := HX.out V (hb30.trans (hV.mono hsz0))
    exact ⟨y0, y1⟩
  have HRC : Hid (∀ V, Below v0.heap.size v0 V → RdG V v0.heap.size A n cs) := fun V hV => ((HR.out v0 (HX.out v0 hb30).2.2).1.gg (Nat.le_refl _)).below (Nat.le_refl _) hV
  have HRD : Hid (∀ V, Below v0.heap.size v0 V → RdG V v0.heap.size Am nm ds) := fun V hV => ((HR.out v0 (HX.out v0 hb30).2.2).2.2.gg (Nat.le_refl _)).below (Nat.le_refl _) hV
  have HVW := Lib.hid hv0w
  have hb0 : Below v0.heap.size v0 v0 := Below.refl _ _
  clear hb3 hb30 hsz0 hv0w
  go_upto_region 6 with (fail)
  go_cut [9] (fun u wx => ∃ g9 : Nat, u = .pointer (some ⟨g9, 0, none⟩) ∧ Hid (Below W0.heap.size W0 wx) ∧ Hid (FmAt wx g9 v (cs ++ ds)))
  case first =>
    refine wp_region_held_drew (S := (fun W => W.cell? ⟨w.heap.size, 0, none⟩ = some (.int .i64 v) ∧ W.cell? ⟨w.heap.size, 1, none⟩ = some (.slice A n c))) (by kernel_rfl) (by rw [← HVW.out]; exact HS.out v0 hb0) (fun hHeld => ?_)
    rw [← HVW.out] at hHeld ⊢
    clear HVW
    refine wpAnyH_take (i := 0) (v := ?_) rfl (by kernel_rfl) (by kernel_rfl) (by kernel_rfl) (fun _ _ _ h => h) (Or.inl ⟨by kernel_rfl, ?_⟩) (by assumption) ?_
    rotate_left 1
    · intro w hSw
      (try dsimp only at hSw)
      first | (go_simp; done) | (go_simp; with_reducible rfl)
    go_simp
    refine wpAnyH_take (i := 1) (v := ?_) rfl (by kernel_rfl) (by kernel_rfl) (by kernel_rfl) (fun _ _ _ h => h) (Or.inl ⟨by kernel_rfl, ?_⟩) (by assumption) ?_
    rotate_left 1
    · intro w hSw
      (try dsimp only at hSw)
      first | (go_simp; done) | (go_simp; with_reducible rfl)
    go_simp
    refine wpAnyH_take (i := 3) (v := ?_) rfl (by kernel_rfl) (by kernel_rfl) (by kernel_rfl) (fun _ _ _ h => h) (Or.inl ⟨by kernel_rfl, ?_⟩) (by assumption) ?_
    rotate_left 1
    · intro w hSw
      (try dsimp only at hSw)
      first | (go_simp; done) | (go_simp; with_reducible rfl)
    go_simp
    refine wpAnyH_take (i := 4) (v := ?_) rfl (by kernel_rfl) (by kernel_rfl) (by kernel_rfl) (fun _ _ _ h => h) (Or.inl ⟨by kernel_rfl, ?_⟩) (by assumption) ?_
    rotate_left 1
    · intro w hSw
      (try dsimp only at hSw)
      first | (go_simp; done) | (go_simp; with_reducible rfl)
    go_simp
    refine wpAnyH_take (i := 6) (v := ?_) rfl (by kernel_rfl) (by kernel_rfl) (by kernel_rfl) (fun _ _ _ h => h) (Or.inl ⟨by kernel_rfl, ?_⟩) (by assumption) ?_
    rotate_left 1
    · intro w hSw
      (try dsimp only at hSw)
      first | (go_simp; done) | (go_simp; with_reducible rfl)
    go_simp
    refine wpAnyH_ready (rs := [2, 9]) (by kernel_rfl) (by simp) ?_
    refine AllReadyH.cons rfl (fun K hK => ?_) ?_
    ·
      go_simp
      obtain ⟨v1, hv1⟩ : ∃ v1, v1 = v0.alloc (.cells #[] 36) := ⟨_, rfl⟩
      have hb : Below v0.heap.size v0 v1 := by rw [hv1]; exact (Below.refl _ _).alloc (Nat.le_refl _) _
      have hb1 : Below v0.heap.size v0 v1 := hb0.trans (hb.mono hb0.size)
      refine hK.out _ (v0.alloc (.cells #[] 36)) (by rw [← hv1]; exact HS.out _ hb1) ?_
      clear hHeld
      intro _
      have hHeld := HS.out v1 hb1
      change wpAnyH _ _ _ _ _ _ _ _ (v0.alloc (.cells #[] 36))
      rw [← hv1]
      have HO : Hid (OwnF v1 v0.heap.size v0.heap.size (.slice (some ⟨v0.heap.size, 0, none⟩) 0 0) []) := by unfold Hid; rw [hv1]; exact OwnF.zero _ _ _ hb0.size
      clear hK K hv1 hb
      refine wpAnyH_ready (rs := [5, 9]) (by kernel_rfl) (by simp) ?_
      refine AllReadyH.cons rfl (fun K hK => ?_) ?_
      ·
        refine step_append_rows rfl _ _ rfl v0.heap.size v0.heap.size _ _ rfl HO.out (Nat.le_refl _) A n c cs rfl HA.out (HRC.out _ hb1) (by first | omega | (simp; omega) | (have := HCL.out; simp; omega)) hb1.size (fun r2 v2 ho hbw hbx => ?_)
        have hb2 : Below v0.heap.size v0 v2 := hb1.trans hbw
        have HO := Lib.hid ho
        refine hK.out _ v2 (HS.out _ hb2) (fun hHeld => ?_)
        clear hK K ho hbw hbx
        refine wpAnyH_ready (rs := [7, 9]) (by kernel_rfl) (by simp) ?_
        refine AllReadyH.cons rfl (fun K hK => ?_) ?_
        ·
          refine step_append_rows rfl _ _ rfl v0.heap.size v0.heap.size _ _ rfl HO.out (Nat.le_refl _) Am nm cm ds rfl HAm.out (HRD.out _ hb2) (by first | omega | (simp; omega) | (have := HCL.out; simp; omega)) hb2.size (fun r3 v3 ho hbw hbx => ?_)
          have hb3 : Below v0.heap.size v0 v3 := hb2.trans hbw
          obtain ⟨A7, c7, hr7, _, _⟩ := ho.form
          obtain ⟨L7, hL7⟩ : ∃ L7, L7 = ([] ++ cs ++ ds).length := ⟨_, rfl⟩
          rw [← hL7] at hr7
          clear hL7
          subst hr7
          have HO := Lib.hid ho
          refine hK.out _ v3 (HS.out _ hb3) (fun hHeld => ?_)
          clear hK K ho hbw hbx
          refine wpAnyH_take (i := 8) (v := ?_) rfl (by kernel_rfl) (by kernel_rfl) (by kernel_rfl) (fun _ _ _ h => h) (Or.inl ⟨by kernel_rfl, ?_⟩) (by assumption) ?_
          rotate_left 1
          · intro w hSw
            (try dsimp only at hSw)
            first | (go_simp; done) | (go_simp; with_reducible rfl)
          go_simp
          refine wpAnyH_ready (rs := [9]) (by kernel_rfl) (by simp) ?_
          refine AllReadyH.cons rfl (fun K hK => ?_) ?_
          ·
            go_simp
            obtain ⟨v4, hv4⟩ : ∃ v4, v4 = v3.alloc (.cells #[.int .i64 0, .slice none 0 0] 24) := ⟨_, rfl⟩
            have hb : Below v3.heap.size v3 v4 := by rw [hv4]; exact (Below.refl _ _).alloc (Nat.le_refl _) _
            have hb4 : Below v0.heap.size v0 v4 := hb3.trans (hb.mono hb3.size)
            refine hK.out _ (v3.alloc (.cells #[.int .i64 0, .slice none 0 0] 24)) (by rw [← hv4]; exact HS.out _ hb4) ?_
            clear hHeld
            intro _
            have hHeld := HS.out v4 hb4
            change wpAnyH _ _ _ _ _ _ _ _ (v3.alloc (.cells #[.int .i64 0, .slice none 0 0] 24))
            rw [← hv4]
            obtain ⟨g9, hg9⟩ : ∃ g9, g9 = v3.heap.size := ⟨_, rfl⟩
            have HG9 : Hid (v0.heap.size ≤ g9) := by unfold Hid; rw [hg9]; exact hb3.size
            have HX9 : Hid (v4.heap[g9]? = some (.cells #[.int .i64 0, .slice none 0 0] 24 (0, 0))) := by unfold Hid; rw [hv4, hg9]; exact blk_new _ _
            have HO := Lib.hid (HO.out.below hb3.size hb)
            rw [← hg9]
            clear hg9
            clear hK K hv4 hb
            refine wpAnyH_ready (rs := [10]) (by kernel_rfl) (by simp) ?_
            refine AllReadyH.cons rfl (fun K hK => ?_) ?_
            ·
              refine step_store_form rfl _ _ rfl g9 (.int .i64 v) _ rfl rfl _ HX9.out rfl rfl (oneCell_own HO.out) (fun v5 hg hk => ?_)
              have hb5 : Below v0.heap.size v0 v5 := below_kf hb4 hb4.size hk HG9.out
              have HFB : Hid (Below W0.heap.size W0 v5) := HV0.out.1.trans (hb5.mono HV0.out.2)
              have HFF : Hid (FmAt v5 g9 v (cs ++ ds)) := by have := formed HO.out hb4.size HX9.out hg hk HG9.out; rw [List.nil_append] at this; exact this
              refine hK.out _ v5 (HS.out _ hb5) (fun hHeld => ?_)
              clear hK K hg hk HO HX9 HG9
              refine wpAnyH_done (by kernel_rfl) ?_ _
              clear HS HRC HRD HV0
              go_wp2_with fail
              go_meet
              exact ⟨_, rfl, HFB, HFF⟩
            exact AllReadyH.nil
          exact AllReadyH.nil
        refine AllReadyH.cons rfl (fun K hK => ?_) ?_
        ·
          go_simp
          obtain ⟨v3, hv3⟩ : ∃ v3, v3 = v2.alloc (.cells #[.int .i64 0, .slice none 0 0] 24) := ⟨_, rfl⟩
          have hb : Below v2.heap.size v2 v3 := by rw [hv3]; exact (Below.refl _ _).alloc (Nat.le_refl _) _
          have hb3 : Below v0.heap.size v0 v3 := hb2.trans (hb.mono hb2.size)
          refine hK.out _ (v2.alloc (.cells #[.int .i64 0, .slice none 0 0] 24)) (by rw [← hv3]; exact HS.out _ hb3) ?_
          clear hHeld
          intro _
          have hHeld := HS.out v3 hb3
          change wpAnyH _ _ _ _ _ _ _ _ (v2.alloc (.cells #[.int .i64 0, .slice none 0 0] 24))
          rw [← hv3]
          obtain ⟨g9, hg9⟩ : ∃ g9, g9 = v2.heap.size := ⟨_, rfl⟩
          have HG9 : Hid (v0.heap.size ≤ g9) := by unfold Hid; rw [hg9]; exact hb2.size
          have HX9 : Hid (v3.heap[g9]? = some (.cells #[.int .i64 0, .slice none 0 0] 24 (0, 0))) := by unfold Hid; rw [hv3, hg9]; exact blk_new _ _
          have HO := Lib.hid (HO.out.below hb2.size hb)
          rw [← hg9]
          clear hg9
          clear hK K hv3 hb
          refine wpAnyH_ready (rs := [7]) (by kernel_rfl) (by simp) ?_
          refine AllReadyH.cons rfl (fun K hK => ?_) ?_
          ·
            refine step_append_rows rfl _ _ rfl v0.heap.size v0.heap.size _ _ rfl HO.out (Nat.le_refl _) Am nm cm ds rfl HAm.out (HRD.out _ hb3) (by first | omega | (simp; omega) | (have := HCL.out; simp; omega)) hb3.size (fun r4 v4 ho hbw hbx => ?_)
            have hb4 : Below v0.heap.size v0 v4 := hb3.trans hbw
            obtain ⟨A7, c7, hr7, _, _⟩ := ho.form
            obtain ⟨L7, hL7⟩ : ∃ L7, L7 = ([] ++ cs ++ ds).length := ⟨_, rfl⟩
            rw [← hL7] at hr7
            clear hL7
            subst hr7
            have HO := Lib.hid ho
            have HX9 := Lib.hid (hbx _ _ HX9.out)
            refine hK.out _ v4 (HS.out _ hb4) (fun hHeld => ?_)
            clear hK K ho hbw hbx
            refine wpAnyH_take (i := 8) (v := ?_) rfl (by kernel_rfl) (by kernel_rfl) (by kernel_rfl) (fun _ _ _ h => h) (Or.inl ⟨by kernel_rfl, ?_⟩) (by assumption) ?_
            rotate_left 1
            · intro w hSw
              (try dsimp only at hSw)
              first | (go_simp; done) | (go_simp; with_reducible rfl)
            go_simp
            refine wpAnyH_ready (rs := [10]) (by kernel_rfl) (by simp) ?_
            refine AllReadyH.cons rfl (fun K hK => ?_) ?_
            ·
              refine step_store_form rfl _ _ rfl g9 (.int .i64 v) _ rfl rfl _ HX9.out rfl rfl (oneCell_own HO.out) (fun v5 hg hk => ?_)
              have hb5 : Below v0.heap.size v0 v5 := below_kf hb4 hb4.size hk HG9.out
              have HFB : Hid (Below W0.heap.size W0 v5) := HV0.out.1.trans (hb5.mono HV0.out.2)
              have HFF : Hid (FmAt v5 g9 v (cs ++ ds)) := by have := formed HO.out hb4.size HX9.out hg hk HG9.out; rw [List.nil_append] at this; exact this
              refine hK.out _ v5 (HS.out _ hb5) (fun hHeld => ?_)
              clear hK K hg hk HO HX9 HG9
              refine wpAnyH_done (by kernel_rfl) ?_ _
              clear HS HRC HRD HV0
              go_wp2_with fail
              go_meet
              exact ⟨_, rfl, HFB, HFF⟩
            exact AllReadyH.nil
          exact AllReadyH.nil
        exact AllReadyH.nil
      refine AllReadyH.cons rfl (fun K hK => ?_) ?_
      ·
        go_simp
        obtain ⟨v2, hv2⟩ : ∃ v2, v2 = v1.alloc (.cells #[.int .i64 0, .slice none 0 0] 24) := ⟨_, rfl⟩
        have hb : Below v1.heap.size v1 v2 := by rw [hv2]; exact (Below.refl _ _).alloc (Nat.le_refl _) _
        have hb2 : Below v0.heap.size v0 v2 := hb1.trans (hb.mono hb1.size)
        refine hK.out _ (v1.alloc (.cells #[.int .i64 0, .slice none 0 0] 24)) (by rw [← hv2]; exact HS.out _ hb2) ?_
        clear hHeld
        intro _
        have hHeld := HS.out v2 hb2
        change wpAnyH _ _ _ _ _ _ _ _ (v1.alloc (.cells #[.int .i64 0, .slice none 0 0] 24))
        rw [← hv2]
        obtain ⟨g9, hg9⟩ : ∃ g9, g9 = v1.heap.size := ⟨_, rfl⟩
        have HG9 : Hid (v0.heap.size ≤ g9) := by unfold Hid; rw [hg9]; exact hb1.size
        have HX9 : Hid (v2.heap[g9]? = some (.cells #[.int .i64 0, .slice none 0 0] 24 (0, 0))) := by unfold Hid; rw [hv2, hg9]; exact blk_new _ _
        have HO := Lib.hid (HO.out.below hb1.size hb)
        rw [← hg9]
        clear hg9
        clear hK K hv2 hb
        refine wpAnyH_ready (rs := [5]) (by kernel_rfl) (by simp) ?_
        refine AllReadyH.cons rfl (fun K hK => ?_) ?_
        ·
          refine step_append_rows rfl _ _ rfl v0.heap.size v0.heap.size _ _ rfl HO.out (Nat.le_refl _) A n c cs rfl HA.out (HRC.out _ hb2) (by first | omega | (simp; omega) | (have := HCL.out; simp; omega)) hb2.size (fun r3 v3 ho hbw hbx => ?_)
          have hb3 : Below v0.heap.size v0 v3 := hb2.trans hbw
          have HO := Lib.hid ho
          have HX9 := Lib.hid (hbx _ _ HX9.out)
          refine hK.out _ v3 (HS.out _ hb3) (fun hHeld => ?_)
          clear hK K ho hbw hbx
          refine wpAnyH_ready (rs := [7]) (by kernel_rfl) (by simp) ?_
          refine AllReadyH.cons rfl (fun K hK => ?_) ?_
          ·
            refine step_append_rows rfl _ _ rfl v0.heap.size v0.heap.size _ _ rfl HO.out (Nat.le_refl _) Am nm cm ds rfl HAm.out (HRD.out _ hb3) (by first | omega | (simp; omega) | (have := HCL.out; simp; omega)) hb3.size (fun r4 v4 ho hbw hbx => ?_)
            have hb4 : Below v0.heap.size v0 v4 := hb3.trans hbw
            obtain ⟨A7, c7, hr7, _, _⟩ := ho.form
            obtain ⟨L7, hL7⟩ : ∃ L7, L7 = ([] ++ cs ++ ds).length := ⟨_, rfl⟩
            rw [← hL7] at hr7
            clear hL7
            subst hr7
            have HO := Lib.hid ho
            have HX9 := Lib.hid (hbx _ _ HX9.out)
            refine hK.out _ v4 (HS.out _ hb4) (fun hHeld => ?_)
            clear hK K ho hbw hbx
            refine wpAnyH_take (i := 8) (v := ?_) rfl (by kernel_rfl) (by kernel_rfl) (by kernel_rfl) (fun _ _ _ h => h) (Or.inl ⟨by kernel_rfl, ?_⟩) (by assumption) ?_
            rotate_left 1
            · intro w hSw
              (try dsimp only at hSw)
              first | (go_simp; done) | (go_simp; with_reducible rfl)
            go_simp
            refine wpAnyH_ready (rs := [10]) (by kernel_rfl) (by simp) ?_
            refine AllReadyH.cons rfl (fun K hK => ?_) ?_
            ·
              refine step_store_form rfl _ _ rfl g9 (.int .i64 v) _ rfl rfl _ HX9.out rfl rfl (oneCell_own HO.out) (fun v5 hg hk => ?_)
              have hb5 : Below v0.heap.size v0 v5 := below_kf hb4 hb4.size hk HG9.out
              have HFB : Hid (Below W0.heap.size W0 v5) := HV0.out.1.trans (hb5.mono HV0.out.2)
              have HFF : Hid (FmAt v5 g9 v (cs ++ ds)) := by have := formed HO.out hb4.size HX9.out hg hk HG9.out; rw [List.nil_append] at this; exact this
              refine hK.out _ v5 (HS.out _ hb5) (fun hHeld => ?_)
              clear hK K hg hk HO HX9 HG9
              refine wpAnyH_done (by kernel_rfl) ?_ _
              clear HS HRC HRD HV0
              go_wp2_with fail
              go_meet
              exact ⟨_, rfl, HFB, HFF⟩
            exact AllReadyH.nil
          exact AllReadyH.nil
        exact AllReadyH.nil
      exact AllReadyH.nil
    refine AllReadyH.cons rfl (fun K hK => ?_) ?_
    ·
      go_simp
      obtain ⟨v1, hv1⟩ : ∃ v1, v1 = v0.alloc (.cells #[.int .i64 0, .slice none 0 0] 24) := ⟨_, rfl⟩
      have hb : Below v0.heap.size v0 v1 := by rw [hv1]; exact (Below.refl _ _).alloc (Nat.le_refl _) _
      have hb1 : Below v0.heap.size v0 v1 := hb0.trans (hb.mono hb0.size)
      refine hK.out _ (v0.alloc (.cells #[.int .i64 0, .slice none 0 0] 24)) (by rw [← hv1]; exact HS.out _ hb1) ?_
      clear hHeld
      intro _
      have hHeld := HS.out v1 hb1
      change wpAnyH _ _ _ _ _ _ _ _ (v0.alloc (.cells #[.int .i64 0, .slice none 0 0] 24))
      rw [← hv1]
      obtain ⟨g9, hg9⟩ : ∃ g9, g9 = v0.heap.size := ⟨_, rfl⟩
      have HG9 : Hid (v0.heap.size ≤ g9) := by unfold Hid; rw [hg9]; exact hb0.size
      have HX9 : Hid (v1.heap[g9]? = some (.cells #[.int .i64 0, .slice none 0 0] 24 (0, 0))) := by unfold Hid; rw [hv1, hg9]; exact blk_new _ _
      rw [← hg9]
      clear hg9
      clear hK K hv1 hb
      refine wpAnyH_ready (rs := [2]) (by kernel_rfl) (by simp) ?_
      refine AllReadyH.cons rfl (fun K hK => ?_) ?_
      ·
        go_simp
        obtain ⟨v2, hv2⟩ : ∃ v2, v2 = v1.alloc (.cells #[] 36) := ⟨_, rfl⟩
        have hb : Below v1.heap.size v1 v2 := by rw [hv2]; exact (Below.refl _ _).alloc (Nat.le_refl _) _
        have hb2 : Below v0.heap.size v0 v2 := hb1.trans (hb.mono hb1.size)
        refine hK.out _ (v1.alloc (.cells #[] 36)) (by rw [← hv2]; exact HS.out _ hb2) ?_
        clear hHeld
        intro _
        have hHeld := HS.out v2 hb2
        change wpAnyH _ _ _ _ _ _ _ _ (v1.alloc (.cells #[] 36))
        rw [← hv2]
        have HO : Hid (OwnF v2 v0.heap.size v0.heap.size (.slice (some ⟨v1.heap.size, 0, none⟩) 0 0) []) := by unfold Hid; rw [hv2]; exact OwnF.zero _ _ _ hb1.size
        have HX9 : Hid (v2.heap[g9]? = some (.cells #[.int .i64 0, .slice none 0 0] 24 (0, 0))) := by unfold Hid; rw [hv2]; exact alloc_old HX9.out
        clear hK K hv2 hb
        refine wpAnyH_ready (rs := [5]) (by kernel_rfl) (by simp) ?_
        refine AllReadyH.cons rfl (fun K hK => ?_) ?_
        ·
          refine step_append_rows rfl _ _ rfl v0.heap.size v0.heap.size _ _ rfl HO.out (Nat.le_refl _) A n c cs rfl HA.out (HRC.out _ hb2) (by first | omega | (simp; omega) | (have := HCL.out; simp; omega)) hb2.size (fun r3 v3 ho hbw hbx => ?_)
          have hb3 : Below v0.heap.size v0 v3 := hb2.trans hbw
          have HO := Lib.hid ho
          have HX9 := Lib.hid (hbx _ _ HX9.out)
          refine hK.out _ v3 (HS.out _ hb3) (fun hHeld => ?_)
          clear hK K ho hbw hbx
          refine wpAnyH_ready (rs := [7]) (by kernel_rfl) (by simp) ?_
          refine AllReadyH.cons rfl (fun K hK => ?_) ?_
          ·
            refine step_append_rows rfl _ _ rfl v0.heap.size v0.heap.size _ _ rfl HO.out (Nat.le_refl _) Am nm cm ds rfl HAm.out (HRD.out _ hb3) (by first | omega | (simp; omega) | (have := HCL.out; simp; omega)) hb3.size (fun r4 v4 ho hbw hbx => ?_)
            have hb4 : Below v0.heap.size v0 v4 := hb3.trans hbw
            obtain ⟨A7, c7, hr7, _, _⟩ := ho.form
            obtain ⟨L7, hL7⟩ : ∃ L7, L7 = ([] ++ cs ++ ds).length := ⟨_, rfl⟩
            rw [← hL7] at hr7
            clear hL7
            subst hr7
            have HO := Lib.hid ho
            have HX9 := Lib.hid (hbx _ _ HX9.out)
            refine hK.out _ v4 (HS.out _ hb4) (fun hHeld => ?_)
            clear hK K ho hbw hbx
            refine wpAnyH_take (i := 8) (v := ?_) rfl (by kernel_rfl) (by kernel_rfl) (by kernel_rfl) (fun _ _ _ h => h) (Or.inl ⟨by kernel_rfl, ?_⟩) (by assumption) ?_
            rotate_left 1
            · intro w hSw
              (try dsimp only at hSw)
              first | (go_simp; done) | (go_simp; with_reducible rfl)
            go_simp
            refine wpAnyH_ready (rs := [10]) (by kernel_rfl) (by simp) ?_
            refine AllReadyH.cons rfl (fun K hK => ?_) ?_
            ·
              refine step_store_form rfl _ _ rfl g9 (.int .i64 v) _ rfl rfl _ HX9.out rfl rfl (oneCell_own HO.out) (fun v5 hg hk => ?_)
              have hb5 : Below v0.heap.size v0 v5 := below_kf hb4 hb4.size hk HG9.out
              have HFB : Hid (Below W0.heap.size W0 v5) := HV0.out.1.trans (hb5.mono HV0.out.2)
              have HFF : Hid (FmAt v5 g9 v (cs ++ ds)) := by have := formed HO.out hb4.size HX9.out hg hk HG9.out; rw [List.nil_append] at this; exact this
              refine hK.out _ v5 (HS.out _ hb5) (fun hHeld => ?_)
              clear hK K hg hk HO HX9 HG9
              refine wpAnyH_done (by kernel_rfl) ?_ _
              clear HS HRC HRD HV0
              go_wp2_with fail
              go_meet
              exact ⟨_, rfl, HFB, HFF⟩
            exact AllReadyH.nil
          exact AllReadyH.nil
        exact AllReadyH.nil
      exact AllReadyH.nil
    exact AllReadyH.nil
  case rest =>
  obtain ⟨g9, rfl, HB5, HF5⟩ := hcut
  clear HS HRC HRD HV0 HVW hb0
  obtain ⟨A2, c2, z0, z1, hR2⟩ := HF5.out
  have HCG := Lib.hid (HCg.out wc A2 c2 HB5.out hR2)
  clear hR2 HF5 HCg
  obtain ⟨gs, hgs⟩ : ∃ gs, gs = (cs ++ ds).length := ⟨_, rfl⟩
  rw [← hgs] at z1 HCG
  clear hgs hv4 hn6 hnm1 t1 t2
  go_upto_region 7 with (fail)
  go_wp2_with fail
  refine HCG.out.mono ?_
  rintro e w4 ⟨rfl, hb4⟩
  have HB4 := Lib.hid hb4
  have HBF := Lib.hid (HX.out w4 hb4).2.2
  clear HCG hb4 z0 z1 HB5
  rcases HE1.out with rfl | rfl
  · clear HE1 HE2 HFA
    go_wp2_with fail
    go_ret
    exact ⟨rfl, HBF.out⟩
  rcases HE2.out with rfl | rfl
  · clear HE1 HE2 HFA
    go_wp2_with fail
    go_ret
    exact ⟨rfl, HBF.out⟩
  clear HE1 HE2 HBF
  rcases HFA.out (k := 0) rfl rfl with ⟨rfl, rfl, hT⟩ | ⟨r, rfl, hT⟩
  · have HT := Lib.hid hT
    clear hT HFA
    go_wp2_with fail
    go_loopw [12] (fun u wr => ∃ k : Nat, u = .int .i64 (k : Int) ∧ k ≤ N + 1 ∧ Hid (Below W0.heap.size W0 wr)) (fun u _ => N + 1 - (intOf u).toNat)
    case atStart => exact ⟨0, rfl, by omega, HB4⟩
    case round =>
      clear HB4
      obtain ⟨k, rfl, hk, hbr⟩ := hrel
      obtain ⟨x0, x1, hbw⟩ := HX.out wr hbr.out
      by_cases hlt : k ≤ N
      · have tk : decide ((k : Int) ≤ (N : Int)) = true := decide_eq_true (by omega)
        have tk2 : decide (k ≤ N) = true := decide_eq_true hlt
        obtain ⟨wx, hwx⟩ : ∃ wx, wx = wr.drew := ⟨_, rfl⟩
        have hbx : Below W0.heap.size W0 wx := by rw [hwx]; exact hbr.out.drew
        obtain ⟨y0, y1, _⟩ := HX.out wx hbx
        have HWX := Lib.hid hwx
        have hkc : k ≤ cn := Nat.le_trans hlt hNc
        clear x0 x1 hbw hwx hbr
        go_upto_region 15 with (fail)
        refine wp_region_any (by kernel_rfl) ?_
        change wpAny _ _ _ _ _ _ _ (World.drew _)
        rw [← HWX.out]
        refine wpAny_take (i := 1) (v := ?_) rfl (by kernel_rfl) (by kernel_rfl) (by kernel_rfl) (fun _ _ _ h => h) (Or.inl ⟨by kernel_rfl, ?_⟩) ?_
        rotate_left 1
        · (intro w; go_simp <;> with_reducible rfl)
        go_simp
        refine wpAny_take (i := 2) (v := ?_) rfl (by kernel_rfl) (by kernel_rfl) (by kernel_rfl) (fun _ _ _ h => h) (Or.inl ⟨by kernel_rfl, ?_⟩) ?_
        rotate_left 1
        · (intro w; go_simp <;> with_reducible rfl)
        go_simp
        refine wpAny_take (i := 3) (v := ?_) rfl (by kernel_rfl) (by kernel_rfl) (by kernel_rfl) (fun _ _ _ h => h) (Or.inl ⟨by kernel_rfl, ?_⟩) ?_
        rotate_left 1
        · (intro w; go_simp <;> with_reducible rfl)
        go_simp
        refine wpAny_ready (rs := [0]) (by kernel_rfl) (by simp) ?_
        refine AllReady.cons rfl (fun K hK => ?_) ?_
        ·
          go_simp
          refine hK _ _ ?_; clear hK K
          refine wpAny_ready (rs := [4]) (by kernel_rfl) (by simp) ?_
          refine AllReady.cons rfl (fun K hK => ?_) ?_
          ·
            go_simp
            go_wp2_with (first | (go_at_call 7; refine (HCk.out _ k hbx hlt).mono ?_; rintro e w6 ⟨rfl, hb6⟩))
            first | (refine hK _ _ ?_; clear hK K) | skip
            refine wpAny_take (i := 5) (v := ?_) rfl (by kernel_rfl) (by kernel_rfl) (by kernel_rfl) (fun _ _ _ h => h) (Or.inl ⟨by kernel_rfl, ?_⟩) ?_
            rotate_left 1
            · (intro w; go_simp <;> with_reducible rfl)
            go_simp
            refine wpAny_take (i := 6) (v := ?_) rfl (by kernel_rfl) (by kernel_rfl) (by kernel_rfl) (fun _ _ _ h => h) (Or.inl ⟨by kernel_rfl, ?_⟩) ?_
            rotate_left 1
            · (intro w; go_simp <;> with_reducible rfl)
            go_simp
            refine wpAny_take (i := 7) (v := ?_) rfl (by kernel_rfl) (by kernel_rfl) (by kernel_rfl) (fun _ _ _ h => h) (Or.inl ⟨by kernel_rfl, ?_⟩) ?_
            rotate_left 1
            · (intro w; go_simp <;> with_reducible rfl)
            go_simp
            refine wpAny_take (i := 8) (v := ?_) rfl (by kernel_rfl) (by kernel_rfl) (by kernel_rfl) (fun _ _ _ h => h) (Or.inl ⟨by kernel_rfl, ?_⟩) ?_
            rotate_left 1
            · (intro w; go_simp <;> with_reducible rfl)
            go_simp
            refine wpAny_take (i := 9) (v := ?_) rfl (by kernel_rfl) (by kernel_rfl) (by kernel_rfl) (fun _ _ _ h => h) (Or.inl ⟨by kernel_rfl, ?_⟩) ?_
            rotate_left 1
            · (intro w; go_simp <;> with_reducible rfl)
            go_simp
            refine wpAny_done (by kernel_rfl) ?_ _
            obtain ⟨f1, f2⟩ := HT.out k
            rw [f1, f2]
            have HB6 := Lib.hid hb6
            clear f1 f2 hb6
            go_wp2_with fail
            go_roundw
            case rel => exact ⟨k + 1, by go_num, by omega, HB6⟩
            case measure => simp [intOf]; omega
          exact AllReady.nil
        exact AllReady.nil
      · have tk : decide ((k : Int) ≤ (N : Int)) = false := decide_eq_false (by omega)
        have tk2 : decide (k ≤ N) = false := decide_eq_false hlt
        have HB := Lib.hid hbw
        clear hbw hbr x0 x1
        go_wp2_with fail
        go_ret
        exact ⟨rfl, HB.out⟩
  · have HT := Lib.hid hT
    have u1 : ((r : Int) == -1) = false := by rw [beq_eq_false_iff_ne]; omega
    have u2 : ((r : Int) != -1) = true := by rw [bne_iff_ne]; omega
    have u3 : decide ((r : Int) < 0) = false := decide_eq_false (by omega)
    have u4 : decide (0 ≤ (r : Int)) = true := decide_eq_true (by omega)
    clear hT HFA
    go_wp2_with fail
    go_loopw [12] (fun u wr => ∃ k : Nat, u = .int .i64 (k : Int) ∧ k ≤ N + 1 ∧ Hid (Below W0.heap.size W0 wr)) (fun u _ => N + 1 - (intOf u).toNat)
    case atStart => exact ⟨0, rfl, by omega, HB4⟩
    case round =>
      clear HB4
      obtain ⟨k, rfl, hk, hbr⟩ := hrel
      obtain ⟨x0, x1, hbw⟩ := HX.out wr hbr.out
      by_cases hlt : k ≤ N
      · have tk : decide ((k : Int) ≤ (N : Int)) = true := decide_eq_true (by omega)
        have tk2 : decide (k ≤ N) = true := decide_eq_true hlt
        obtain ⟨wx, hwx⟩ : ∃ wx, wx = wr.drew := ⟨_, rfl⟩
        have hbx : Below W0.heap.size W0 wx := by rw [hwx]; exact hbr.out.drew
        obtain ⟨y0, y1, _⟩ := HX.out wx hbx
        have HWX := Lib.hid hwx
        have hkc : k ≤ cn := Nat.le_trans hlt hNc
        clear x0 x1 hbw hwx hbr
        go_upto_region 15 with (fail)
        refine wp_region_any (by kernel_rfl) ?_
        change wpAny _ _ _ _ _ _ _ (World.drew _)
        rw [← HWX.out]
        refine wpAny_take (i := 1) (v := ?_) rfl (by kernel_rfl) (by kernel_rfl) (by kernel_rfl) (fun _ _ _ h => h) (Or.inl ⟨by kernel_rfl, ?_⟩) ?_
        rotate_left 1
        · (intro w; go_simp <;> with_reducible rfl)
        go_simp
        refine wpAny_take (i := 2) (v := ?_) rfl (by kernel_rfl) (by kernel_rfl) (by kernel_rfl) (fun _ _ _ h => h) (Or.inl ⟨by kernel_rfl, ?_⟩) ?_
        rotate_left 1
        · (intro w; go_simp <;> with_reducible rfl)
        go_simp
        refine wpAny_take (i := 3) (v := ?_) rfl (by kernel_rfl) (by kernel_rfl) (by kernel_rfl) (fun _ _ _ h => h) (Or.inl ⟨by kernel_rfl, ?_⟩) ?_
        rotate_left 1
        · (intro w; go_simp <;> with_reducible rfl)
        go_simp
        refine wpAny_ready (rs := [0]) (by kernel_rfl) (by simp) ?_
        refine AllReady.cons rfl (fun K hK => ?_) ?_
        ·
          go_simp
          refine hK _ _ ?_; clear hK K
          refine wpAny_ready (rs := [4]) (by kernel_rfl) (by simp) ?_
          refine AllReady.cons rfl (fun K hK => ?_) ?_
          ·
            go_simp
            go_wp2_with (first | (go_at_call 7; refine (HCk.out _ k hbx hlt).mono ?_; rintro e w6 ⟨rfl, hb6⟩))
            first | (refine hK _ _ ?_; clear hK K) | skip
            refine wpAny_take (i := 5) (v := ?_) rfl (by kernel_rfl) (by kernel_rfl) (by kernel_rfl) (fun _ _ _ h => h) (Or.inl ⟨by kernel_rfl, ?_⟩) ?_
            rotate_left 1
            · (intro w; go_simp <;> with_reducible rfl)
            go_simp
            refine wpAny_take (i := 6) (v := ?_) rfl (by kernel_rfl) (by kernel_rfl) (by kernel_rfl) (fun _ _ _ h => h) (Or.inl ⟨by kernel_rfl, ?_⟩) ?_
            rotate_left 1
            · (intro w; go_simp <;> with_reducible rfl)
            go_simp
            refine wpAny_take (i := 7) (v := ?_) rfl (by kernel_rfl) (by kernel_rfl) (by kernel_rfl) (fun _ _ _ h => h) (Or.inl ⟨by kernel_rfl, ?_⟩) ?_
            rotate_left 1
            · (intro w; go_simp <;> with_reducible rfl)
            go_simp
            refine wpAny_take (i := 8) (v := ?_) rfl (by kernel_rfl) (by kernel_rfl) (by kernel_rfl) (fun _ _ _ h => h) (Or.inl ⟨by kernel_rfl, ?_⟩) ?_
            rotate_left 1
            · (intro w; go_simp <;> with_reducible rfl)
            go_simp
            refine wpAny_take (i := 9) (v := ?_) rfl (by kernel_rfl) (by kernel_rfl) (by kernel_rfl) (fun _ _ _ h => h) (Or.inl ⟨by kernel_rfl, ?_⟩) ?_
            rotate_left 1
            · (intro w; go_simp <;> with_reducible rfl)
            go_simp
            refine wpAny_done (by kernel_rfl) ?_ _
            obtain ⟨f2, f3, f4⟩ := HT.out k
            rw [f2]
            have HB6 := Lib.hid hb6
            clear f2 hb6
            by_cases hkr : k ≤ r
            · have s1 : decide ((k : Int) ≤ (r : Int)) = true := decide_eq_true (by omega)
              have s2 : decide ((r : Int) < (k : Int)) = false := decide_eq_false (by omega)
              have s3 : decide (k ≤ r) = true := decide_eq_true hkr
              have s4 : decide (r < k) = false := decide_eq_false (by omega)
              rw [f3 hkr]
              clear f3 f4
              go_wp2_with fail
              go_roundw
              case rel => exact ⟨k + 1, by go_num, by omega, HB6⟩
              case measure => simp [intOf]; omega
            · have s1 : decide ((k : Int) ≤ (r : Int)) = false := decide_eq_false (by omega)
              have s2 : decide ((r : Int) < (k : Int)) = true := decide_eq_true (by omega)
              have s3 : decide (k ≤ r) = false := decide_eq_false hkr
              have s4 : decide (r < k) = true := decide_eq_true (by omega)
              rw [f4 (by omega)]
              clear f3 f4
              go_wp2_with fail
              go_roundw
              case rel => exact ⟨k + 1, by go_num, by omega, HB6⟩
              case measure => simp [intOf]; omega
          exact AllReady.nil
        exact AllReady.nil
      · have tk : decide ((k : Int) ≤ (N : Int)) = false := decide_eq_false (by omega)
        have tk2 : decide (k ≤ N) = false := decide_eq_false hlt
        have HB := Lib.hid hbw
        clear hbw hbr x0 x1
        go_wp2_with fail
        go_ret
        exact ⟨rfl, HB.out⟩
theorem own_knob : ownKnob Tryz.prog.godebug = none := by kernel_rfl
set_option maxHeartbeats 800000 in
set_option maxRecDepth 100000 in
theorem lifted (os : Os) (started : os.Started) (H : Type) (enc : TypeId × Value → H) :
    ReturnsInHanded {} Tryz.checked os 3 .any (Rows.proofMoreSpec.pre6 enc Tryz.prog Tryz.f3 Rows.proofMoreRow.domain false) (Rows.proofMoreSpec.post enc Tryz.prog Tryz.f3 false true false false) := by
  refine returnsInHanded_of_change_sized (C := Tryz.checked) own_knob started (by kernel_rfl) Tryz.func3
    (ChangeSpec.witness6 (enc := enc) (C := Tryz.checked) false ⟨#[], #[.agg #[.int .i64 0, .slice none 0 0], .slice none 0 0, .slice none 0 0], []⟩ 8 (by kernel_rfl) (by kernel_rfl) (by kernel_rfl) (by kernel_rfl)) ?_
  intro W base args ds gs before hval0 hW _ hsize _
  have hval : ∀ (j : Nat) t v, Tryz.f3.params[j]? = some t → args[j]? = some v → Value.okWide Tryz.prog W .any base t v := hval0
  have hW' := hW
  obtain ⟨p, q, hA0, hV, rfl, _, _⟩ := hW
  have hA : DataW.TrodAll enc Tryz.prog W 0 (fun _ => true) true Tryz.f3.params.toList args.toList ds p := hA0
  rw [Tryz.params3] at hA hval
  obtain ⟨v0, v1, v2, d0, d1, d2, p0, p1, p2, rfl, rfl, rfl, h0, h1, h2⟩ := trodAll_three hA
  obtain ⟨rfl, rfl⟩ := trodVars_none hV
  obtain ⟨x0, A0, n0, c0, cs0, rfl, hR0, h320, _, hn0, hv00, hv10, hnil0, _, _⟩ := open_form (hval 0 24 v0 rfl rfl) h0
  obtain ⟨A1, n1, c1, log1, rfl, hR1, h321, _, hn1, hA1, hcc1, hcd1⟩ := open_steps (hval 1 25 v1 rfl rfl) h1
  have hwt : ∀ n ∈ d2.weights Tryz.prog 22, n ≤ reachBytes := fun n hn => by
    have := List.all_eq_true.1 hsize n (DataW.weights_mem_each (j := 2) (t := 22) (d := d2) (by rw [Tryz.params3]; rfl) rfl n hn)
    simpa using this
  obtain ⟨A2, n2, c2, ds2, rfl, hR2, h322, hsz2, hn2, hnil2, _, _⟩ := open_matS (hval 2 22 v2 rfl rfl) hwt h2
  clear hA0 hval0
  have hlt0 : ∀ y ∈ p0, y.block < W.heap.size := fun y hy => by simpa using hW'.lt y (by simp [hy])
  have hlt1 : ∀ y ∈ p1, y.block < W.heap.size := fun y hy => by simpa using hW'.lt y (by simp [hy])
  have hlt2 : ∀ y ∈ p2, y.block < W.heap.size := fun y hy => by simpa using hW'.lt y (by simp [hy])
  refine (walk x0 A0 A1 A2 n0 c0 n1 c1 n2 c2 cs0 log1 ds2 W hR0 h320 hnil0 hn0 hR1 h321 hn1 hA1 hcc1 hcd1 hv00 hv10 hR2 h322 hsz2 hnil2 hn2).mono fun e W' ⟨he, hB⟩ => ?_
  subst he
  exact ⟨_, rfl, _, _, _, [], _, [], hW', trodAll_mk1 (shut_bool Tryz.underlying4 true), trodAll_mk3 (Below.trod laid_out (by kernel_rfl) (of_decide_eq_true (by kernel_rfl)) h0 hB hlt0) (Below.trod laid_out (by kernel_rfl) (of_decide_eq_true (by kernel_rfl)) h1 hB hlt1) (Below.trod laid_out (by kernel_rfl) (of_decide_eq_true (by kernel_rfl)) h2 hB hlt2), rfl, hB.frame _, fun h => by cases h⟩

theorem proved : Rows.ProofMoreSaid :=
  OpenClaim.holds_of_wide 3 Tryz.f3 rfl rfl rfl rfl rfl rfl rfl ⟨rfl, rfl, rfl, rfl, rfl⟩ rfl rfl rfl rfl rfl (by kernel_rfl) Tryz.func3 (by kernel_rfl)
    (of_decide_eq_true (by kernel_rfl)) (by unfold Func.isWrapper; first | (rw [if_pos (by decide +kernel)]; kernel_rfl) | (rw [if_neg (by decide +kernel)]; exact ⟨rfl, rfl⟩))
    (fun os started H enc _ => lifted os started H enc)
end Go.Proofs.YtkckodpfhlpkgaaGreat.PMore
namespace Go.Proofs.YtkckodpfhlpkgaaGreat
theorem proofMore_holds : Rows.ProofMoreSaid := PMore.proved
#print axioms proofMore_holds
end Go.Proofs.YtkckodpfhlpkgaaGreat
