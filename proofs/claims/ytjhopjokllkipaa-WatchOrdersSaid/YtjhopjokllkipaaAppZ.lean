/- append(x, make([]T, m)...): the same block, or a new one; what is new reads zero. No function of the program. -/
import Derived.Test.YtjhopjokllkipaaEVisM
import Derived.Lib.AppendZeros
namespace Go.Proofs.Ytjhopjokllkipaa
open Go.RowKit Go.Lib

theorem zeroCells_one (z0 : Value) (m : Nat) : (Builtin.zeroCells #[z0] m).size = m ∧ ∀ j, j < m → (Builtin.zeroCells #[z0] m)[j]? = some z0 := by
  refine ⟨by simp [Builtin.zeroCells], fun j hj => ?_⟩
  simp [Builtin.zeroCells, hj, Nat.mod_one]
/-- A row read as far as its room. -/
theorem RowV.wide {T : TypeId} {w : World} {g n c : Nat} {f : Nat → Value} (h : RowV T 1 w g n c f) : ∃ f', RowV T 1 w g c c f' ∧ ∀ j, j < n → f' j = f j := by
  obtain ⟨cur, h0, h1, h2, h3, h4⟩ := h
  refine ⟨fun j => cur.getD j undef, ⟨cur, h0, Nat.le_refl _, h2, h3, fun j hj => ?_⟩, fun j hj => ?_⟩
  · show cur[j]? = some (cur.getD j undef)
    rw [Array.getD_eq_getD_getElem?, Array.getElem?_eq_getElem (by omega)]; rfl
  · show cur.getD j undef = f j
    rw [Array.getD_eq_getD_getElem?, h4 j (by omega)]; rfl
theorem run_append_zeros {P : Program} (w : World) (t tn ty e : TypeId) (k kn : IntKind) (ht : P.underlying t = some (.slice e)) (htn : P.underlying tn = some (.int kn)) {z z0 : Value} {bytes : Nat}
    (hinfo : (P.info? e).map (fun i => (i.zero, i.size, i.bytes)) = some (some z, 1, bytes)) (hzc : z.cells = #[z0]) (hz1 : z0.oneCell' = true) (hby : bytes ≤ 1000)
    (A : Option Addr) (n c : Nat) (f : Nat → Value) (hrow : SlV e 1 w A n c f) (hn : n ≤ 1000000) (m : Nat) (h0 : 0 < m) (hm : m ≤ 1000000) :
    ∃ g' cx w', (Builtin.append_ #[t, tn] ty #[.slice A n c, .int k m]).run P w = .ok (.slice (some ⟨g', 0, none⟩) (n + m) cx) w' ∧ RowV e 1 w' g' (n + m) cx (fun j => if j < n then f j else z0) ∧ (onB A g' ∨ w.heap.size ≤ g') ∧ (∀ B : Nat → Prop, (∀ j, onB A j → B j) → Kf B w w') := by
  obtain ⟨i0, hi, hzz, hsz, hb⟩ := info_parts hinfo
  have hzc' := zeroCells_one z0
  have hbm : (n + m) * bytes ≤ 2000000 * 1000 := Nat.mul_le_mul (by omega) hby
  have hmb : m * bytes ≤ 2000000 * 1000 := Nat.le_trans (Nat.mul_le_mul_right _ (by omega)) hbm
  have hw : IntKind.i64.wrap (m : Int) = m := by rw [IntKind.wrap_i64]; omega
  have hneg : ¬ ((m : Int) < 0) := by omega
  have h48i : ¬ (281474976710656 < (m : Int) * (i0.bytes : Int)) := by
    rw [hb, ← Int.natCast_mul]; omega
  have hmne : m ≠ 0 := by omega
  -- what a new row is
  have grown : ∀ (old : Nat) (xs : List Value), xs.length = n → (∀ j, j < n → xs[j]? = some (f j)) →
      RowV e 1 (w.drew.alloc (.cells (xs.toArray ++ Builtin.zeroCells z.cells m ++ Builtin.zeroCells z.cells (grownCap w (n + m) old e - (n + m))) e)) w.heap.size (n + m) (grownCap w (n + m) old e) (fun j => if j < n then f j else z0) := by
    intro old xs hx hxf
    have hge := grownCap_ge w (n + m) old e
    have hcm := grownCap_le_maxLen w (n + m) old e (by unfold maxLen; omega)
    refine ⟨_, blk_new w.drew _, hge, hcm, ?_, fun j hj => ?_⟩
    · rw [hzc]
      simp only [Array.size_append, List.size_toArray, (hzc' _).1, hx]
      omega
    · rw [hzc]
      have hj : j < n + m := by omega
      show _ = some (if j < n then f j else z0)
      by_cases e1 : j < n
      · rw [if_pos e1, Array.append_assoc, Array.getElem?_append_left (by simp; omega), List.getElem?_toArray]; exact hxf j e1
      · rw [if_neg e1, Array.append_assoc, Array.getElem?_append_right (by simp; omega), Array.getElem?_append_left (by rw [(hzc' _).1]; simp; omega)]
        exact (hzc' m).2 _ (by simp; omega)
  have kfg : ∀ (o : Obj) (B : Nat → Prop), Kf B w (w.drew.alloc o) := fun o B => ((Kf.refl B w).drew).alloc o
  rcases hrow with ⟨rfl, rfl, rfl⟩ | ⟨g, rfl, hr⟩
  · have hrun := run_append_nil_zeros (P := P) w t tn ty e i0 z k kn ht htn hi hzz m h0 (by omega) (by omega) (by rw [hb]; omega)
    have := grown 0 [] rfl (fun j hj => by omega)
    simp only [Nat.zero_add, Array.empty_append] at this
    exact ⟨w.heap.size, _, _, by rw [Nat.zero_add]; exact hrun, by rw [Nat.zero_add]; simpa using this, .inr (Nat.le_refl _), fun B _ => kfg _ B⟩
  · by_cases hroom : n + m ≤ c
    · obtain ⟨f', hr', hf'⟩ := hr.wide
      have hst := run_storeCells_cells (P := P) g n (Builtin.zeroCells z.cells m).toList 0 w (fun j hj => by
        rw [hzc, Array.length_toList, (hzc' m).1] at hj
        rw [Nat.add_zero, hr'.cell (show n + j < c * 1 by omega)]; rfl) (fun j hj => hr'.free _) (fun v hv => by
        rw [hzc] at hv
        obtain ⟨j, hj, rfl⟩ := List.getElem_of_mem hv
        rw [Array.length_toList, (hzc' m).1] at hj
        have := (hzc' m).2 j hj
        rw [Array.getElem?_eq_getElem (by rw [(hzc' m).1]; exact hj)] at this
        injection this with this
        rw [Array.getElem_toList, this]; exact hz1)
      have hrun : (Builtin.append_ #[t, tn] ty #[.slice (some ⟨g, 0, none⟩) n c, .int k m]).run P w = .ok (.slice (some ⟨g, 0, none⟩) (n + m) c) (w.setCells g n (Builtin.zeroCells z.cells m).toList) := by
        rw [Nat.add_zero] at hst
        simp [Builtin.append_, run_underlying ht, run_underlying htn, sizeOf, typeInfo, zeroValue, hi, hzz, hsz, asInt, asIntOf, hw, hneg, h48i, hmne, hroom, Addr.add_lit, hst]
      refine ⟨g, c, _, hrun, ?_, .inl ((onB_some _ _).2 rfl), fun B hB => Kf.sets (hB g ((onB_some _ _).2 rfl)) _ (Kf.refl _ _) _⟩
      have h5 := hr'.sets (Builtin.zeroCells z.cells m).toList n (by rw [hzc, Array.length_toList, (hzc' m).1]; exact hroom)
      refine (h5.less hroom).congr fun j hj => ?_
      unfold putL
      rw [hzc, Array.length_toList, (hzc' m).1]
      have hj : j < n + m := by omega
      by_cases e1 : j < n
      · rw [if_pos e1, if_neg (by omega), hf' j e1]
      · rw [if_neg e1, if_pos (by omega), List.getD, Array.getElem?_toList, (hzc' m).2 _ (by omega)]; rfl
    · have hxs : ∀ j u, (cellsV f n)[j]? = some u → w.cell? ((⟨g, 0, none⟩ : Addr).add j) = some u := fun j u hu => by
        have hj : j < n := by
          have := (List.getElem?_eq_some_iff.1 hu).1
          rwa [cellsV_length] at this
        rw [cellsV_get _ hj] at hu
        injection hu with hu
        subst hu
        have ha : ((⟨g, 0, none⟩ : Addr).add j) = ⟨g, j, none⟩ := by unfold Addr.add; split <;> simp_all
        rw [ha]; exact hr.cell (by omega)
      have hfo := run_firstCells_some (P := P) w.drew i0.size n ⟨g, 0, none⟩ n c (cellsV f n) (by rw [cellsV_length, hsz, Nat.mul_one]) (by simpa using hxs)
      have h63' : ¬ (9223372036854775807 < ((n : Int) + (m : Int))) := by omega
      have hfit := growslice_fits (need := n + m) (old := c) (bytes := bytes) (by omega) (by omega)
      have h48' : ¬ (281474976710656 < Builtin.nextslicecap (n + m) c * i0.bytes) := by rw [hb]; omega
      have hrun : (Builtin.append_ #[t, tn] ty #[.slice (some ⟨g, 0, none⟩) n c, .int k m]).run P w = .ok (.slice (some ⟨w.heap.size, 0, none⟩) (n + m) (grownCap w (n + m) c e)) (w.drew.alloc (.cells ((cellsV f n).toArray ++ Builtin.zeroCells z.cells m ++ Builtin.zeroCells z.cells (grownCap w (n + m) c e - (n + m))) e)) := by
        rw [hsz] at hfo
        simp [Builtin.append_, run_underlying ht, run_underlying htn, sizeOf, typeInfo, zeroValue, hi, hzz, hsz, asInt, asIntOf, hw, hneg, h48i, hmne, hroom, h63', h48', Question.forced, hfo, newRow, grownCap]
      exact ⟨w.heap.size, _, _, hrun, grown c (cellsV f n) (cellsV_length _ _) (fun j hj => cellsV_get f hj), .inr (Nat.le_refl _), fun B _ => kfg _ B⟩
theorem wpList_append_zeros {P : Program} {ops : Array Oper} {rest : List Oper} {o : Oper} {a : Act} {Q : Exit → Act → World → Prop} (w : World) (hgd : o.guard = none) (s x : Operand) (t tn e : TypeId) (k kn : IntKind)
    (ho : o.op = .call { callee := .builtin .append, args := #[s, x], argTypes := #[t, tn] }) (ht : P.underlying t = some (.slice e)) (htn : P.underlying tn = some (.int kn)) {z z0 : Value} {bytes : Nat}
    (hinfo : (P.info? e).map (fun i => (i.zero, i.size, i.bytes)) = some (some z, 1, bytes)) (hzc : z.cells = #[z0]) (hz1 : z0.oneCell' = true) (hby : bytes ≤ 1000)
    (A : Option Addr) (n c : Nat) (f : Nat → Value) (hs : a.eval s = .slice A n c) (hrow : SlV e 1 w A n c f) (hn : n ≤ 1000000) (m : Nat) (hx : a.eval x = .int k m) (h0 : 0 < m) (hm : m ≤ 1000000)
    (h : ∀ g' c' w', RowV e 1 w' g' (n + m) c' (fun j => if j < n then f j else z0) → (onB A g' ∨ w.heap.size ≤ g') → (∀ B : Nat → Prop, (∀ j, onB A j → B j) → Kf B w w') → wpList P ops Q rest (a.put o.dst (.slice (some ⟨g', 0, none⟩) (n + m) c')) w') :
    wpList P ops Q (o :: rest) a w := by
  obtain ⟨g', c2, w', hr, hrow', hg', hgr⟩ := run_append_zeros (P := P) w t tn o.type e k kn ht htn hinfo hzc hz1 hby A n c f hrow hn m h0 hm
  exact wpList_append_run w hgd s x t tn ho _ _ hs hx _ _ hr (h g' c2 w' hrow' hg' hgr)
end Go.Proofs.Ytjhopjokllkipaa
