/- append(x, make([]T, m)...): the same block, or a new one; what is new reads zero. No function of the program. (The first part of XERoom, for seats without the engine.) -/
import Derived.Test.YtmiifhclcknhdaaGrtE
import Derived.Lib.AppendZeros
import Derived.Deep.AppendSrc
import Derived.Deep.QuietTactic
import Derived.BigQuiet
import Derived.Deep.DeepCutAuto
namespace Go.Proofs.Ytmiifhclcknhdaa
open Go.RowKit Go.Lib

theorem setCells_one (w : World) (g k : Nat) (x : Value) : w.setCells g k [x] = w.setCell ⟨g, k, none⟩ x := by
  simp [World.setCells]
/-- f, but the list from o on. -/
def putL (f : Nat → Value) (o : Nat) (vs : List Value) (j : Nat) : Value := if o ≤ j ∧ j < o + vs.length then vs.getD (j - o) undef else f j
theorem RowV.sets {T : TypeId} {g n c : Nat} : ∀ (vs : List Value) {w : World} {f : Nat → Value} (_ : RowV T 1 w g n c f) (o : Nat), o + vs.length ≤ n → RowV T 1 (w.setCells g o vs) g n c (putL f o vs)
  | [], _, f, h, o, _ => h.congr fun j _ => by unfold putL; rw [if_neg (by simp only [List.length_nil]; omega)]
  | v :: r, _, f, h, o, hl => by
    simp only [List.length_cons] at hl
    refine (RowV.sets r (h.set (show o < n * 1 by omega) v) (o + 1) (by omega)).congr fun j hj => ?_
    unfold putL
    simp only [List.length_cons]
    by_cases e : j = o
    · subst e
      rw [if_pos (by omega), if_neg (by omega), updV_at, Nat.sub_self]; rfl
    · by_cases e2 : o ≤ j ∧ j < o + (r.length + 1)
      · rw [if_pos e2, if_pos (by omega), show j - o = (j - (o + 1)) + 1 from by omega]; rfl
      · rw [if_neg e2, if_neg (by omega), updV_ne _ _ e]
theorem Kf.sets {F : Nat → Prop} {a : World} {g : Nat} (hg : F g) : ∀ (vs : List Value) {b : World} (_ : Kf F a b) (o : Nat), Kf F a (b.setCells g o vs)
  | [], _, h, _ => h
  | v :: r, _, h, o => Kf.sets hg r (h.set (p := ⟨g, o, none⟩) (.inl hg) v) (o + 1)
theorem zeroCells_one (z0 : Value) (m : Nat) : (Builtin.zeroCells #[z0] m).size = m ∧ ∀ j, j < m → (Builtin.zeroCells #[z0] m)[j]? = some z0 := by
  refine ⟨by simp [Builtin.zeroCells], fun j hj => ?_⟩
  simp [Builtin.zeroCells, hj, Nat.mod_one]
/-- A row read as far as its room. -/
theorem RowV.wide {T : TypeId} {w : World} {g n c : Nat} {f : Nat → Value} (h : RowV T 1 w g n c f) : ∃ f', RowV T 1 w g c c f' ∧ ∀ j, j < n → f' j = f j := by
  obtain ⟨cur, h0, h1, h2, h3, h4⟩ := h
  refine ⟨fun j => cur.getD j undef, ⟨cur, h0, Nat.le_refl _, h2, h3, fun j hj => ?_⟩, fun j hj => ?_⟩
  · show cur[j]? = some (cur.getD j undef)
    rw [Array.getD_eq_getD_getElem?, Array.getElem?_eq_getElem (by omega)]; rfl
  · show cur.getD j undef = f j
    rw [Array.getD_eq_getD_getElem?, h4 j (by omega)]; rfl
theorem run_append_zeros {P : Program} (w : World) (t tn ty e : TypeId) (k kn : IntKind) (ht : P.underlying t = some (.slice e)) (htn : P.underlying tn = some (.int kn)) {z z0 : Value} {bytes : Nat}
    (hinfo : (P.info? e).map (fun i => (i.zero, i.size, i.bytes)) = some (some z, 1, bytes)) (hzc : z.cells = #[z0]) (hz1 : z0.oneCell' = true) (hby : bytes ≤ 1000)
    (A : Option Addr) (n c : Nat) (f : Nat → Value) (hrow : SlV e 1 w A n c f) (hn : n ≤ 1000000) (m : Nat) (h0 : 0 < m) (hm : m ≤ 1000000) :
    ∃ g' cx w', (Builtin.append_ #[t, tn] ty #[.slice A n c, .int k m]).run P w = .ok (.slice (some ⟨g', 0, none⟩) (n + m) cx) w' ∧ RowV e 1 w' g' (n + m) cx (fun j => if j < n then f j else z0) ∧ (onB A g' ∨ w.heap.size ≤ g') ∧ (∀ B : Nat → Prop, (∀ j, onB A j → B j) → Kf B w w') := by
  obtain ⟨i0, hi, hzz, hsz, hb⟩ := info_parts hinfo
  have hzc' := zeroCells_one z0
  have hbm : (n + m) * bytes ≤ 2000000 * 1000 := Nat.mul_le_mul (by omega) hby
  have hmb : m * bytes ≤ 2000000 * 1000 := Nat.le_trans (Nat.mul_le_mul_right _ (by omega)) hbm
  have hw : IntKind.i64.wrap (m : Int) = m := by rw [IntKind.wrap_i64]; omega
  have hneg : ¬ ((m : Int) < 0) := by omega
  have h48i : ¬ (281474976710656 < (m : Int) * (i0.bytes : Int)) := by
    rw [hb, ← Int.natCast_mul]; omega
  have hmne : m ≠ 0 := by omega
  -- what a new row is
  have grown : ∀ (old : Nat) (xs : List Value), xs.length = n → (∀ j, j < n → xs[j]? = some (f j)) →
      RowV e 1 (w.drew.alloc (.cells (xs.toArray ++ Builtin.zeroCells z.cells m ++ Builtin.zeroCells z.cells (grownCap w (n + m) old e - (n + m))) e)) w.heap.size (n + m) (grownCap w (n + m) old e) (fun j => if j < n then f j else z0) := by
    intro old xs hx hxf
    have hge := grownCap_ge w (n + m) old e
    have hcm := grownCap_le_maxLen w (n + m) old e (by unfold maxLen; omega)
    refine ⟨_, blk_new w.drew _, hge, hcm, ?_, fun j hj => ?_⟩
    · rw [hzc]
      simp only [Array.size_append, List.size_toArray, (hzc' _).1, hx]
      omega
    · rw [hzc]
      have hj : j < n + m := by omega
      show _ = some (if j < n then f j else z0)
      by_cases e1 : j < n
      · rw [if_pos e1, Array.append_assoc, Array.getElem?_append_left (by simp; omega), List.getElem?_toArray]; exact hxf j e1
      · rw [if_neg e1, Array.append_assoc, Array.getElem?_append_right (by simp; omega), Array.getElem?_append_left (by rw [(hzc' _).1]; simp; omega)]
        exact (hzc' m).2 _ (by simp; omega)
  have kfg : ∀ (o : Obj) (B : Nat → Prop), Kf B w (w.drew.alloc o) := fun o B => ((Kf.refl B w).drew).alloc o
  rcases hrow with ⟨rfl, rfl, rfl⟩ | ⟨g, rfl, hr⟩
  · have hrun := run_append_nil_zeros (P := P) w t tn ty e i0 z k kn ht htn hi hzz m h0 (by omega) (by omega) (by rw [hb]; omega)
    have := grown 0 [] rfl (fun j hj => by omega)
    simp only [Nat.zero_add, Array.empty_append] at this
    exact ⟨w.heap.size, _, _, by rw [Nat.zero_add]; exact hrun, by rw [Nat.zero_add]; simpa using this, .inr (Nat.le_refl _), fun B _ => kfg _ B⟩
  · by_cases hroom : n + m ≤ c
    · obtain ⟨f', hr', hf'⟩ := hr.wide
      have hst := run_storeCells_cells (P := P) g n (Builtin.zeroCells z.cells m).toList 0 w (fun j hj => by
        rw [hzc, Array.length_toList, (hzc' m).1] at hj
        rw [Nat.add_zero, hr'.cell (show n + j < c * 1 by omega)]; rfl) (fun j hj => hr'.free _) (fun v hv => by
        rw [hzc] at hv
        obtain ⟨j, hj, rfl⟩ := List.getElem_of_mem hv
        rw [Array.length_toList, (hzc' m).1] at hj
        have := (hzc' m).2 j hj
        rw [Array.getElem?_eq_getElem (by rw [(hzc' m).1]; exact hj)] at this
        injection this with this
        rw [Array.getElem_toList, this]; exact hz1)
      have hrun : (Builtin.append_ #[t, tn] ty #[.slice (some ⟨g, 0, none⟩) n c, .int k m]).run P w = .ok (.slice (some ⟨g, 0, none⟩) (n + m) c) (w.setCells g n (Builtin.zeroCells z.cells m).toList) := by
        rw [Nat.add_zero] at hst
        simp [Builtin.append_, run_underlying ht, run_underlying htn, sizeOf, typeInfo, zeroValue, hi, hzz, hsz, asInt, asIntOf, hw, hneg, h48i, hmne, hroom, Addr.add_lit, hst]
      refine ⟨g, c, _, hrun, ?_, .inl ((onB_some _ _).2 rfl), fun B hB => Kf.sets (hB g ((onB_some _ _).2 rfl)) _ (Kf.refl _ _) _⟩
      have h5 := hr'.sets (Builtin.zeroCells z.cells m).toList n (by rw [hzc, Array.length_toList, (hzc' m).1]; exact hroom)
      refine (h5.less hroom).congr fun j hj => ?_
      unfold putL
      rw [hzc, Array.length_toList, (hzc' m).1]
      have hj : j < n + m := by omega
      by_cases e1 : j < n
      · rw [if_pos e1, if_neg (by omega), hf' j e1]
      · rw [if_neg e1, if_pos (by omega), List.getD, Array.getElem?_toList, (hzc' m).2 _ (by omega)]; rfl
    · have hxs : ∀ j u, (cellsV f n)[j]? = some u → w.cell? ((⟨g, 0, none⟩ : Addr).add j) = some u := fun j u hu => by
        have hj : j < n := by
          have := (List.getElem?_eq_some_iff.1 hu).1
          rwa [cellsV_length] at this
        rw [cellsV_get _ hj] at hu
        injection hu with hu
        subst hu
        have ha : ((⟨g, 0, none⟩ : Addr).add j) = ⟨g, j, none⟩ := by unfold Addr.add; split <;> simp_all
        rw [ha]; exact hr.cell (by omega)
      have hfo := run_firstCells_some (P := P) w.drew i0.size n ⟨g, 0, none⟩ n c (cellsV f n) (by rw [cellsV_length, hsz, Nat.mul_one]) (by simpa using hxs)
      have h63' : ¬ (9223372036854775807 < ((n : Int) + (m : Int))) := by omega
      have hfit := growslice_fits (need := n + m) (old := c) (bytes := bytes) (by omega) (by omega)
      have h48' : ¬ (281474976710656 < Builtin.nextslicecap (n + m) c * i0.bytes) := by rw [hb]; omega
      have hrun : (Builtin.append_ #[t, tn] ty #[.slice (some ⟨g, 0, none⟩) n c, .int k m]).run P w = .ok (.slice (some ⟨w.heap.size, 0, none⟩) (n + m) (grownCap w (n + m) c e)) (w.drew.alloc (.cells ((cellsV f n).toArray ++ Builtin.zeroCells z.cells m ++ Builtin.zeroCells z.cells (grownCap w (n + m) c e - (n + m))) e)) := by
        rw [hsz] at hfo
        simp [Builtin.append_, run_underlying ht, run_underlying htn, sizeOf, typeInfo, zeroValue, hi, hzz, hsz, asInt, asIntOf, hw, hneg, h48i, hmne, hroom, h63', h48', Question.forced, hfo, newRow, grownCap]
      exact ⟨w.heap.size, _, _, hrun, grown c (cellsV f n) (cellsV_length _ _) (fun j hj => cellsV_get f hj), .inr (Nat.le_refl _), fun B _ => kfg _ B⟩
theorem wpList_append_zeros {P : Program} {ops : Array Oper} {rest : List Oper} {o : Oper} {a : Act} {Q : Exit → Act → World → Prop} (w : World) (hgd : o.guard = none) (s x : Operand) (t tn e : TypeId) (k kn : IntKind)
    (ho : o.op = .call { callee := .builtin .append, args := #[s, x], argTypes := #[t, tn] }) (ht : P.underlying t = some (.slice e)) (htn : P.underlying tn = some (.int kn)) {z z0 : Value} {bytes : Nat}
    (hinfo : (P.info? e).map (fun i => (i.zero, i.size, i.bytes)) = some (some z, 1, bytes)) (hzc : z.cells = #[z0]) (hz1 : z0.oneCell' = true) (hby : bytes ≤ 1000)
    (A : Option Addr) (n c : Nat) (f : Nat → Value) (hs : a.eval s = .slice A n c) (hrow : SlV e 1 w A n c f) (hn : n ≤ 1000000) (m : Nat) (hx : a.eval x = .int k m) (h0 : 0 < m) (hm : m ≤ 1000000)
    (h : ∀ g' c' w', RowV e 1 w' g' (n + m) c' (fun j => if j < n then f j else z0) → (onB A g' ∨ w.heap.size ≤ g') → (∀ B : Nat → Prop, (∀ j, onB A j → B j) → Kf B w w') → wpList P ops Q rest (a.put o.dst (.slice (some ⟨g', 0, none⟩) (n + m) c')) w') :
    wpList P ops Q (o :: rest) a w := by
  obtain ⟨g', c2, w', hr, hrow', hg', hgr⟩ := run_append_zeros (P := P) w t tn o.type e k kn ht htn hinfo hzc hz1 hby A n c f hrow hn m h0 hm
  exact wpList_append_run w hgd s x t tn ho _ _ hs hx _ _ hr (h g' c2 w' hrow' hg' hgr)
/-- Nothing is appended. -/
theorem run_append_zeros0 {P : Program} (w : World) (t tn ty e : TypeId) (k kn : IntKind) (ht : P.underlying t = some (.slice e)) (htn : P.underlying tn = some (.int kn)) {z : Value} {bytes : Nat}
    (hinfo : (P.info? e).map (fun i => (i.zero, i.size, i.bytes)) = some (some z, 1, bytes)) (A : Option Addr) (n c : Nat) (hn : n ≤ c) :
    (Builtin.append_ #[t, tn] ty #[.slice A n c, .int k (0 : Nat)]).run P w = .ok (.slice A n c) w := by
  obtain ⟨i0, hi, hzz, hsz, hb⟩ := info_parts hinfo
  have hw : IntKind.i64.wrap 0 = 0 := by rw [IntKind.wrap_i64]; omega
  cases A with
  | none => simp [Builtin.append_, run_underlying ht, run_underlying htn, sizeOf, typeInfo, hi, asInt, asIntOf, hw, hn]
  | some a => simp [Builtin.append_, run_underlying ht, run_underlying htn, sizeOf, typeInfo, hi, asInt, asIntOf, hw, hn, storeCells]
/-- append(x, make([]T, m)...), whatever m. -/
theorem run_append_zs {P : Program} (w : World) (t tn ty e : TypeId) (k kn : IntKind) (ht : P.underlying t = some (.slice e)) (htn : P.underlying tn = some (.int kn)) {z z0 : Value} {bytes : Nat}
    (hinfo : (P.info? e).map (fun i => (i.zero, i.size, i.bytes)) = some (some z, 1, bytes)) (hzc : z.cells = #[z0]) (hz1 : z0.oneCell' = true) (hby : bytes ≤ 1000)
    (A : Option Addr) (n c : Nat) (f : Nat → Value) (hrow : SlV e 1 w A n c f) (hn : n ≤ 1000000) (m : Nat) (hm : m ≤ 1000000) :
    ∃ A' cx w', (Builtin.append_ #[t, tn] ty #[.slice A n c, .int k m]).run P w = .ok (.slice A' (n + m) cx) w' ∧ SlV e 1 w' A' (n + m) cx (fun j => if j < n then f j else z0) ∧ (∀ g, onB A' g → onB A g ∨ w.heap.size ≤ g) ∧ (∀ B : Nat → Prop, (∀ j, onB A j → B j) → Kf B w w') := by
  rcases Nat.eq_zero_or_pos m with rfl | h0
  · exact ⟨A, c, w, run_append_zeros0 w t tn ty e k kn ht htn hinfo A n c hrow.bd.1, hrow.congr fun j hj => by rw [if_pos (by omega)], fun g h => .inl h, fun B _ => Kf.refl B w⟩
  · obtain ⟨g', cx, w', h1, h2, h3, h4⟩ := run_append_zeros w t tn ty e k kn ht htn hinfo hzc hz1 hby A n c f hrow hn m h0 hm
    exact ⟨_, cx, w', h1, .inr ⟨g', rfl, h2⟩, fun g hg => by rw [onB_some] at hg; have hg : g = g' := hg; subst hg; exact h3, h4⟩

/-! ### A slice somewhere in a block -/
/-- A slice of n cells somewhere in a block of the call's own, with room for c. -/
def SlO (T : TypeId) (w : World) (A : Option Addr) (n c : Nat) (f : Nat → Value) : Prop :=
  (A = none ∧ n = 0 ∧ c = 0) ∨ ∃ g o, ∃ cur : Array Value, A = some ⟨g, o, none⟩ ∧ w.heap[g]? = some (.cells cur T (0, 0)) ∧ n ≤ c ∧ c ≤ maxLen ∧ o + c ≤ cur.size ∧ ∀ j, j < n → cur[o + j]? = some (f j)
section
variable {T : TypeId} {w w' : World} {A : Option Addr} {n c : Nat} {f : Nat → Value}
theorem SlO.nil (T : TypeId) (w : World) (f : Nat → Value) : SlO T w none 0 0 f := .inl ⟨rfl, rfl, rfl⟩
theorem SlO.lt (h : SlO T w A n c f) : ∀ j, onB A j → j < w.heap.size := by
  rintro j ⟨a, ha, rfl⟩
  rcases h with ⟨rfl, _⟩ | ⟨g, o, cur, rfl, h, _⟩
  · cases ha
  · injection ha with ha; subst ha; exact lt_of_heap h
theorem SlO.same (h : SlO T w A n c f) (hb : ∀ j, onB A j → w'.heap[j]? = w.heap[j]?) : SlO T w' A n c f := by
  rcases h with h | ⟨g, o, cur, rfl, h, r⟩
  · exact .inl h
  · exact .inr ⟨g, o, cur, rfl, by rw [hb g ⟨_, rfl, rfl⟩]; exact h, r⟩
theorem SlO.congr {f' : Nat → Value} (h : SlO T w A n c f) (e : ∀ j, j < n → f' j = f j) : SlO T w A n c f' := by
  rcases h with h | ⟨g, o, cur, rfl, h, h1, h2, h3, h4⟩
  · exact .inl h
  · exact .inr ⟨g, o, cur, rfl, h, h1, h2, h3, fun j hj => by rw [e j hj]; exact h4 j hj⟩
theorem SlO.bd (h : SlO T w A n c f) : n ≤ c ∧ c ≤ 9223372036854775807 := by
  rcases h with ⟨_, rfl, rfl⟩ | ⟨g, o, cur, _, _, h1, h2, _⟩
  · omega
  · unfold maxLen at h2; omega
/-- Its cells. -/
theorem SlO.get (h : SlO T w A n c f) {j : Nat} (hj : j < n) : ∃ g o, A = some ⟨g, o, none⟩ ∧ w.cell? ⟨g, o + j, none⟩ = some (f j) := by
  rcases h with ⟨_, h, _⟩ | ⟨g, o, cur, rfl, h, h1, h2, h3, h4⟩
  · omega
  · exact ⟨g, o, rfl, by rw [Lib.cell_of_heap h]; exact h4 j hj⟩
/-- What is left of it behind the first y. -/
theorem SlO.dropped (h : SlO T w A n c f) {y : Nat} (hy : y ≤ n) : SlO T w (if c = y then A else A.map (·.add y)) (n - y) (c - y) (fun j => f (y + j)) ∧ ∀ k, onB (if c = y then A else A.map (·.add y)) k → onB A k := by
  rcases h with ⟨rfl, rfl, rfl⟩ | ⟨g, o, cur, rfl, h, h1, h2, h3, h4⟩
  · refine ⟨.inl ⟨by split <;> rfl, by omega, by omega⟩, fun k hk => ?_⟩
    split at hk
    · exact hk
    · exact hk
  · by_cases e : c = y
    · rw [if_pos e]
      exact ⟨.inr ⟨g, o, cur, rfl, h, by omega, by omega, by omega, fun j hj => by omega⟩, fun _ h => h⟩
    · rw [if_neg e]
      have ha : (some (⟨g, o, none⟩ : Addr)).map (·.add y) = some ⟨g, o + y, none⟩ := by
        rw [Option.map_some]; unfold Addr.add; split <;> simp_all
      rw [ha]
      refine ⟨.inr ⟨g, o + y, cur, rfl, h, by omega, by omega, by omega, fun j hj => ?_⟩, fun k hk => ?_⟩
      · rw [Nat.add_assoc]; exact h4 (y + j) (by omega)
      · rw [onB_some] at hk ⊢; exact hk
end
/-- append(x, v) at such a slice. -/
theorem run_append_o {P : Program} (w : World) (t ty e : TypeId) (ht : P.underlying t = some (.slice e)) {z z0 : Value} {bytes : Nat}
    (hinfo : (P.info? e).map (fun i => (i.zero, i.size, i.bytes)) = some (some z, 1, bytes)) (hzc : z.cells = #[z0]) (hby : bytes ≤ 1000)
    (A : Option Addr) (n c : Nat) (f : Nat → Value) (h : SlO e w A n c f) (hn : n ≤ 100000) (ad : Addr) (c' : Nat) (x : Value) (hx : w.cell? ad = some x) (had : ad.add 0 = ad) (h1 : x.oneCell' = true) :
    ∃ A' c2 w', (Builtin.append_ #[t, t] ty #[.slice A n c, .slice (some ad) 1 c']).run P w = .ok (.slice A' (n + 1) c2) w' ∧ SlO e w' A' (n + 1) c2 (fun j => if j < n then f j else x) ∧ (∀ k, onB A' k → onB A k ∨ w.heap.size ≤ k) ∧ (∀ B : Nat → Prop, (∀ j, onB A j → B j) → Kf B w w') := by
  obtain ⟨i0, hi, hzz, hsz, hb⟩ := info_parts hinfo
  have hsrc : Src P i0.size t (.slice (some ad) 1 c') 1 [x] w := Src.ofSlice w ht ad 1 c' [x] (by rw [hsz]; rfl) (fun j u hj => by
    cases j with
    | zero => rw [had]; simp at hj; rw [← hj]; exact hx
    | succ j => simp at hj) (by simpa using h1)
  by_cases hroom : n + 1 ≤ c
  · rcases h with ⟨_, _, e⟩ | ⟨g, o, cur, rfl, hh, p1, p2, p3, p4⟩
    · omega
    · have hr := run_append_room_src (P := P) w t t ty e i0 ht hi g o n c _ 1 [x] hsrc hroom (fun j hj => by
        simp at hj
        rw [Lib.cell_of_heap hh, hsz, Array.getElem?_eq_getElem (by omega)]; rfl) (fun j hj => Lib.frozen_of_heap hh _)
      rw [setCells_one, hsz, Nat.mul_one] at hr
      refine ⟨_, c, _, hr, .inr ⟨g, o, _, rfl, Lib.heap_setCell_same hh _, hroom, p2, by simpa using p3, fun j hj => ?_⟩, fun k hk => .inl hk, fun B hB => (Kf.refl B w).set (.inl (hB g ((onB_some _ _).2 rfl))) _⟩
      simp only [Array.getElem?_setIfInBounds]
      by_cases q : j = n
      · subst q; rw [if_pos rfl, if_pos (by omega), if_neg (by omega)]
      · rw [if_neg (by omega), if_pos (by omega)]; exact p4 j (by omega)
  · have hcn : c = n := by have := h.bd; omega
    have hold : (Builtin.firstCells i0.size n (.slice A n c)).run P w.drew = .ok (cellsV f n).toArray w.drew := by
      rcases h with ⟨rfl, rfl, rfl⟩ | ⟨g, o, cur, rfl, hh, p1, p2, p3, p4⟩
      · exact run_firstCells_none w.drew _ _ _ _
      · refine run_firstCells_some (P := P) w.drew i0.size n ⟨g, o, none⟩ n c (cellsV f n) (by rw [cellsV_length, hsz, Nat.mul_one]) fun j u hu => ?_
        have hj : j < n := by
          have := (List.getElem?_eq_some_iff.1 hu).1
          rwa [cellsV_length] at this
        rw [cellsV_get _ hj] at hu
        injection hu with hu
        subst hu
        have ha : ((⟨g, o, none⟩ : Addr).add j) = ⟨g, o + j, none⟩ := by unfold Addr.add; split <;> simp_all
        show w.cell? _ = _
        rw [ha, Lib.cell_of_heap hh]; exact p4 j hj
    have hbm : (n + 1) * bytes ≤ 100001 * 1000 := Nat.mul_le_mul (by omega) hby
    have hfit := growslice_fits (need := n + 1) (old := c) (bytes := bytes) (by omega) (by omega)
    have hr := run_append_grow_src (P := P) w t t ty e i0 z ht hi hzz A n c (cellsV f n) hold _ 1 [x] hsrc (by omega) (by omega) (by rw [hb]; omega)
    have hge := grownCap_ge w (n + 1) c e
    have hcm := grownCap_le_maxLen w (n + 1) c e (by unfold maxLen; omega)
    refine ⟨_, _, _, hr, .inr ⟨w.heap.size, 0, _, rfl, blk_new w.drew _, hge, hcm, ?_, fun j hj => ?_⟩, fun k hk => .inr ?_, fun B _ => ((Kf.refl B w).drew).alloc _⟩
    · rw [hzc]
      simp only [Array.size_append, List.size_toArray, (zeroCells_one z0 _).1, List.length_append, cellsV_length, List.length_singleton]
      omega
    · rw [Nat.zero_add, Array.getElem?_append_left (by simp [cellsV_length]; omega), List.getElem?_toArray]
      show _ = some (if j < n then f j else x)
      by_cases q : j < n
      · rw [if_pos q, List.getElem?_append_left (by rw [cellsV_length]; exact q)]; exact cellsV_get f q
      · rw [if_neg q, List.getElem?_append_right (by rw [cellsV_length]; omega), cellsV_length]
        have : j - n = 0 := by omega
        rw [this]; rfl
    · rw [onB_some] at hk; exact Nat.le_of_eq hk.symm
end Go.Proofs.Ytmiifhclcknhdaa
