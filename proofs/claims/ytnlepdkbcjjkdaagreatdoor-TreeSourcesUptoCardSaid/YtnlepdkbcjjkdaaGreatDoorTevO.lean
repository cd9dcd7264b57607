/- A model that came in, part by part; the reading's bulk bounds how long its text is. -/
import Derived.Test.YtnlepdkbcjjkdaaGreatDoorTevM
namespace Go.Proofs.YtnlepdkbcjjkdaaGreatDoor
open Go.RowKit Go.ChangeShapes Go.WideShapes Go.ChangeAt Go.Deep TreM

def wtE (e : Enu) : Nat := 1 + e.name.length + (e.values.map (fun s => s.length + 1)).sum
def wtD (d : Dcl) : Nat := 1 + d.name.length + d.type.length + (d.begins.map wt).sum
def wtA (a : Asg) : Nat := 1 + a.name.length + wt a.to_
def wtR (r : Rul) : Nat := 1 + wt r.when_ + (r.do_.map wtA).sum
def wtP (p : Prc) : Nat := 1 + p.name.length + (p.rules.map wtR).sum
def wtS (m : Src) : Nat := (m.enums.map wtE).sum + (m.vars.map wtD).sum + (m.procs.map wtP).sum
theorem flat_len {α : Type} (f : α → List UInt8) (g : α → Nat) (k : Nat) : ∀ xs : List α, (∀ x ∈ xs, (f x).length ≤ k * g x) → (xs.flatMap f).length ≤ k * (xs.map g).sum
  | [], _ => by simp
  | x :: xs, h => by
    have h1 := h x (by simp)
    have h2 := flat_len f g k xs fun y hy => h y (by simp [hy])
    rw [List.flatMap_cons, List.length_append, List.map_cons, List.sum_cons, Nat.mul_add]
    omega
theorem join_len {α : Type} (f : α → List UInt8) (g : α → Nat) (k : Nat) : ∀ xs : List α, (∀ x ∈ xs, (f x).length + 2 ≤ k * g x) → (joinC (xs.map f)).length ≤ k * (xs.map g).sum
  | [], _ => by simp [joinC]
  | [x], h => by
    have h1 := h x (by simp)
    simp only [List.map_cons, List.map_nil, joinC, List.sum_cons, List.sum_nil, Nat.add_zero]
    omega
  | x :: y :: r, h => by
    have h1 := h x (by simp)
    have h2 := join_len f g k (y :: r) fun z hz => h z (by simp [hz])
    rw [List.map_cons, List.map_cons, joinC, List.length_append, List.length_append, List.map_cons, List.sum_cons, Nat.mul_add]
    rw [List.map_cons] at h2
    simp only [List.length_cons, List.length_nil]
    omega
theorem enum_len (e : Enu) : (enumT e).length ≤ 64 * wtE e := by
  have h : (joinC e.values).length ≤ 64 * (e.values.map (fun s => s.length + 1)).sum := by
    have := join_len (fun s : List UInt8 => s) (fun s => s.length + 1) 64 e.values (fun x _ => by omega)
    rwa [List.map_id'] at this
  unfold enumT wtE
  simp only [List.length_append, List.length_cons, List.length_nil]
  omega
theorem all_shape {xs : List Ex} (h : xs.all writB = true) (x : Ex) (hx : x ∈ xs) : (text x).length + 2 ≤ 32 * wt x := text_len x (writ_shape (List.all_eq_true.1 h x hx))
theorem decl_len (d : Dcl) (hd : declB d = true) (hlo : in64 d.low) (hhi : in64 d.high) : (declT d).length ≤ 64 * wtD d := by
  unfold declB at hd
  simp only [Bool.and_eq_true] at hd
  have h := flat_len (fun x => [32, 61, 32] ++ text x) wt 64 d.begins (fun x hx => by
    have := all_shape hd.2.2.2 x hx
    have := wt_pos x
    simp only [List.length_append, List.length_cons, List.length_nil]; omega)
  have h1 := Lib.itoa_length_le d.low hlo.1 hlo.2
  have h2 := Lib.itoa_length_le d.high hhi.1 hhi.2
  have h3 : (if d.type.isEmpty then Lib.itoa d.low ++ [46, 46] ++ Lib.itoa d.high else d.type).length ≤ 44 + d.type.length := by
    split
    · simp only [List.length_append, List.length_cons, List.length_nil]; omega
    · omega
  unfold declT wtD
  simp only [List.length_append, List.length_cons, List.length_nil] at h3 ⊢
  omega
theorem rule_len (r : Rul) (hr : ruleB r = true) : (ruleT r).length ≤ 64 * wtR r := by
  unfold ruleB at hr
  simp only [Bool.and_eq_true] at hr
  have h1 := text_len r.when_ (writ_shape hr.1)
  have h2 := join_len asgT wtA 64 r.do_ (fun x hx => by
    have hx' := List.all_eq_true.1 hr.2.2.2 x hx
    unfold asgB at hx'
    rw [Bool.and_eq_true] at hx'
    have := text_len x.to_ (writ_shape hx'.2)
    unfold asgT wtA
    simp only [List.length_append, List.length_cons, List.length_nil]; omega)
  unfold ruleT wtR
  simp only [List.length_append, List.length_cons, List.length_nil]
  omega
theorem proc_len (p : Prc) (hp : procB p = true) : (procT p).length ≤ 64 * wtP p := by
  unfold procB at hp
  simp only [Bool.and_eq_true] at hp
  have h := flat_len ruleT wtR 64 p.rules (fun x hx => rule_len x (List.all_eq_true.1 hp.2.2 x hx))
  unfold procT wtP
  simp only [List.length_append, List.length_cons, List.length_nil]
  omega
theorem src_len (m : Src) (hm : srcB m = true) (hi : ∀ d ∈ m.vars, in64 d.low ∧ in64 d.high) (hw : wtS m ≤ 1048576) : (srcT m).length ≤ 140737488355328 := by
  unfold srcB at hm
  simp only [Bool.and_eq_true] at hm
  have h1 := flat_len enumT wtE 64 m.enums (fun x _ => enum_len x)
  have h2 := flat_len declT wtD 64 m.vars (fun x hx => decl_len x (List.all_eq_true.1 hm.2.2.2.2.1 x hx) (hi x hx).1 (hi x hx).2)
  have h3 := flat_len procT wtP 64 m.procs (fun x hx => proc_len x (List.all_eq_true.1 hm.2.2.2.2.2 x hx))
  unfold wtS at hw
  unfold srcT
  rw [List.length_append, List.length_append]
  omega

section
variable {H : Type} {enc : TypeId × Value → H} {P : Program} {W : World} {base : Nat} {sp : Nat → Bool} {held : Bool}
/-- A struct's fields, with their data. -/
theorem open_fieldsB {t : TypeId} {fs : Array Field} (ht : P.underlying t = some (.struct fs)) (L : List (TypeId × Nat)) (hf : fs.toList.map (fun f => (f.type, f.offset)) = L)
    {fuel : Nat} {cs : List Value} {x : DataW H × List MemPlace} (h : DataW.trod enc P W base sp held fuel t cs = some x) :
    ∃ (n : Nat) (ys : List (DataW H × List MemPlace)), cs.length = P.cellsOf t ∧ ys.length = L.length ∧ Rows.uptoBulk x.1 = 1 + Rows.uptoBulkAll (ys.map (·.1)) ∧ ∀ (i : Nat) (e : TypeId) (o : Nat), L[i]? = some (e, o) → DataW.trod enc P W base sp held n e ((cs.drop o).take (P.cellsOf e)) = ys[i]? := by
  obtain ⟨xs, n, hfu, hx, hcl, hn, hel⟩ := DataW.trod_struct ht h
  refine ⟨n, xs, hcl, ?_, by rw [hx]; simp only [Rows.uptoBulk]; omega, fun i e o hi => ?_⟩
  · rw [hn, ← hf, List.length_map, Array.length_toList]
  · rw [← hf, List.getElem?_map, Array.getElem?_toList] at hi
    cases hx2 : fs[i]? with
    | none => rw [hx2] at hi; cases hi
    | some f =>
      rw [hx2] at hi
      simp only [Option.map_some, Option.some.injEq, Prod.mk.injEq] at hi
      have := hel i f hx2
      rw [hi.1, hi.2] at this
      exact this
theorem sum_le {α : Type} (w : α → Nat) : ∀ (L : List α) (D : List (DataW H)), L.length = D.length → (∀ (j : Nat) (X : α) (d : DataW H), L[j]? = some X → D[j]? = some d → w X ≤ Rows.uptoBulk d) → (L.map w).sum ≤ Rows.uptoBulkAll D
  | [], _, _, _ => by simp
  | _ :: _, [], h, _ => by simp at h
  | X :: L, d :: D, h, hh => by
    have h1 := hh 0 X d rfl rfl
    have h2 := sum_le w L D (by simpa using h) fun j X d hX hd => hh (j + 1) X d (by simpa using hX) (by simpa using hd)
    simp only [List.map_cons, List.sum_cons, Rows.uptoBulkAll]; omega
/-- A slice, with how much it holds. -/
theorem open_sliceB {α : Type} (dflt : α) (wx : α → Nat) {R : α → List Value → Prop} {tK e : TypeId} {k : Nat} (hK : P.underlying tK = some (.slice e)) (hk : P.cellsOf e = k) (hk0 : 0 < k) {fuel : Nat}
    (hop : ∀ (m : Nat) (cs : List Value) (x : DataW H × List MemPlace), DataW.trod enc P W base sp held m e cs = some x → ∃ X, R X cs ∧ wx X ≤ Rows.uptoBulk x.1)
    {cs : List Value} {x : DataW H × List MemPlace} (h : DataW.trod enc P W base sp held fuel tK cs = some x) : ∃ (xs : List α) (v : Value), cs = [v] ∧ SlV2 W R k xs v ∧ (xs.map wx).sum + 1 ≤ Rows.uptoBulk x.1 := by
  rcases DataW.trod_slice hK h with ⟨e3, hx⟩ | ⟨a, len, cap, elems, rest, m, hm, e3, hx, _, hlc, hcap, hle, hi, _⟩
  · exact ⟨[], _, e3, ⟨none, 0, rfl, Nat.le_refl _, by omega, .inl rfl⟩, by rw [hx]; simp [Rows.uptoBulk]⟩
  · rw [hk] at hi
    have elem : ∀ j, ∃ X : α, j < len → ∃ cs' : List Value, cs'.length = k ∧ (∀ i, i < k → W.cell? ((a.add (j * k)).add i) = cs'[i]?) ∧ R X cs' ∧ ∀ d, (elems.map (·.1))[j]? = some d → wx X ≤ Rows.uptoBulk d := by
      intro j
      by_cases hj : j < len
      · have h6 := hi j hj
        rw [List.getElem?_eq_getElem (show j < elems.length by omega), Option.bind_eq_some_iff] at h6
        obtain ⟨cs', hc, ht⟩ := h6
        obtain ⟨_, hcl', hat⟩ := World.cells?_some hc
        obtain ⟨X, hX, hXw⟩ := hop m cs' _ ht
        exact ⟨X, fun _ => ⟨cs', hcl', fun i hi6 => hat i hi6, hX, fun d hd => by
          rw [List.getElem?_map, List.getElem?_eq_getElem (show j < elems.length by omega)] at hd
          simp only [Option.map_some, Option.some.injEq] at hd
          rw [← hd]; exact hXw⟩⟩
      · exact ⟨dflt, fun h => absurd h hj⟩
    obtain ⟨F, hF⟩ := Classical.axiomOfChoice elem
    have hlen : ((List.range len).map F).length = len := by simp
    have hwl : (((List.range len).map F).map wx).sum ≤ Rows.uptoBulkAll (elems.map (·.1)) := sum_le wx _ _ (by simp [hle]) fun j X d hX hd => by
      have hjl : j < len := by
        rcases Nat.lt_or_ge j len with h | h
        · exact h
        · rw [List.getElem?_eq_none (by simpa using h)] at hX; cases hX
      rw [List.getElem?_map, List.getElem?_range hjl] at hX
      simp only [Option.map_some, Option.some.injEq] at hX
      obtain ⟨_, _, _, _, hw⟩ := hF j hjl
      rw [← hX]; exact hw d hd
    refine ⟨(List.range len).map F, _, e3, ⟨some a, cap, by rw [hlen], by rw [hlen]; exact hlc, by unfold maxLen at hcap; omega, ?_⟩, by rw [hx]; simp only [Rows.uptoBulk]; omega⟩
    by_cases h0l : len = 0
    · left; rw [h0l]; rfl
    · right
      obtain ⟨b, p, spot⟩ := a
      obtain ⟨cs', c1, c2, _, _⟩ := hF 0 (by omega)
      have hc0 := c2 0 hk0
      rw [List.getElem?_eq_getElem (show 0 < cs'.length by omega)] at hc0
      have hspot : spot = none := by simpa [Addr.add] using World.cell?_spot hc0
      subst hspot
      have hb := World.block_lt_of_cell? _ _ hc0
      refine ⟨b, p, rfl, by simpa [Addr.add] using hb, fun j x hj => ?_⟩
      have hjl : j < len := by
        rcases Nat.lt_or_ge j len with h | h
        · exact h
        · rw [List.getElem?_eq_none (by rw [hlen]; exact h)] at hj; cases hj
      obtain ⟨cs2, d1, d2, d3, _⟩ := hF j hjl
      have hk2 : F j = x := by
        rw [List.getElem?_map, List.getElem?_range hjl] at hj
        simpa using hj
      subst hk2
      refine ⟨cs2, d1, fun i v hv => ?_, d3⟩
      have hi6 : i < k := by
        rw [← d1]
        rcases Nat.lt_or_ge i cs2.length with h | h
        · exact h
        · rw [List.getElem?_eq_none h] at hv; cases hv
      have := d2 i hi6
      rw [hv, addr_plain, addr_plain] at this
      exact this
end
section
variable {H : Type} {enc : TypeId × Value → H} {W : World} {base : Nat} {sp : Nat → Bool} {held : Bool} {fuel : Nat} {cs : List Value} {x : DataW H × List MemPlace}
theorem open_str1 (h : DataW.trod enc Tryz.prog W base sp held fuel 9 cs = some x) : ∃ s : List UInt8, StrC s cs ∧ s.length + 1 ≤ Rows.uptoBulk x.1 := by
  obtain ⟨s, e, q, w⟩ := DataW.trod_string Tryz.underlying9 h
  refine ⟨s.data.toList, ⟨?_, by rw [← Lib.size_eq]; unfold maxLen at w; omega⟩, by rw [q]; simp only [Rows.uptoBulk]; omega⟩
  rw [e, show (⟨s.data.toList.toArray⟩ : ByteArray) = s from by cases s; simp]
theorem in64_wf {n : Int} (h : (Lit.int .i64 n).wf = true) : in64 n := wf_i64 h
set_option maxRecDepth 100000 in
theorem open_enu (h : DataW.trod enc Tryz.prog W base sp held fuel 48 cs = some x) : ∃ e : Enu, EnuC W e cs ∧ wtE e ≤ Rows.uptoBulk x.1 := by
  obtain ⟨n, ys, hcl, hyl, hbk, hel⟩ := open_fieldsB (fs := (match Tryz.prog.underlying 48 with | some (.struct fs) => fs | _ => #[])) (by kernel_rfl) [(9, 0), (46, 1), (3, 2), (3, 3)] (by kernel_rfl) h
  match ys, hyl with
  | [y0, y1, y2, y3], _ =>
  have h0 := hel 0 _ _ rfl
  have h1 := hel 1 _ _ rfl
  have h2 := hel 2 _ _ rfl
  have h3 := hel 3 _ _ rfl
  rw [show Tryz.prog.cellsOf 9 = 1 from by kernel_rfl] at h0
  rw [show Tryz.prog.cellsOf 46 = 1 from by kernel_rfl] at h1
  rw [show Tryz.prog.cellsOf 3 = 1 from by kernel_rfl] at h2 h3
  rw [show Tryz.prog.cellsOf 48 = 4 from by kernel_rfl] at hcl
  obtain ⟨s, ⟨e0, hs⟩, b0⟩ := open_str1 h0
  obtain ⟨vs, v, e1, hv, b1⟩ := open_sliceB (R := StrC) (k := 1) [] (fun s : List UInt8 => s.length + 1) Tryz.underlying46 (by kernel_rfl) (by decide) (fun m cs x h => open_str1 h) h1
  obtain ⟨l, e2, _, w2⟩ := DataW.trod_int Tryz.underlying3 h2
  obtain ⟨c, e3, _, w3⟩ := DataW.trod_int Tryz.underlying3 h3
  refine ⟨⟨s, vs⟩, ⟨v, l, c, ?_, hs, hv⟩, ?_⟩
  · match cs, hcl with
    | [a0, a1, a2, a3], _ =>
      have g0 := one_of1 e0
      have g1 := one_of1 e1
      have g2 := one_of1 e2
      have g3 := one_of1 e3
      simp at g0 g1 g2 g3
      subst g0; subst g1; subst g2; subst g3
      rfl
  · rw [hbk]
    simp only [List.map_cons, List.map_nil, Rows.uptoBulkAll]
    unfold wtE
    dsimp only
    omega
set_option maxRecDepth 100000 in
theorem open_dcl (h : DataW.trod enc Tryz.prog W base sp held fuel 52 cs = some x) : ∃ d : Dcl, DclC W d cs ∧ wtD d ≤ Rows.uptoBulk x.1 := by
  obtain ⟨n, ys, hcl, hyl, hbk, hel⟩ := open_fieldsB (fs := (match Tryz.prog.underlying 52 with | some (.struct fs) => fs | _ => #[])) (by kernel_rfl) [(9, 0), (9, 1), (2, 2), (2, 3), (38, 4), (3, 5), (3, 6)] (by kernel_rfl) h
  match ys, hyl with
  | [y0, y1, y2, y3, y4, y5, y6], _ =>
  have h0 := hel 0 _ _ rfl
  have h1 := hel 1 _ _ rfl
  have h2 := hel 2 _ _ rfl
  have h3 := hel 3 _ _ rfl
  have h4 := hel 4 _ _ rfl
  have h5 := hel 5 _ _ rfl
  have h6 := hel 6 _ _ rfl
  rw [show Tryz.prog.cellsOf 9 = 1 from by kernel_rfl] at h0 h1
  rw [show Tryz.prog.cellsOf 2 = 1 from by kernel_rfl] at h2 h3
  rw [show Tryz.prog.cellsOf 38 = 1 from by kernel_rfl] at h4
  rw [show Tryz.prog.cellsOf 3 = 1 from by kernel_rfl] at h5 h6
  rw [show Tryz.prog.cellsOf 52 = 7 from by kernel_rfl] at hcl
  obtain ⟨s, ⟨e0, hs⟩, b0⟩ := open_str1 h0
  obtain ⟨s1, ⟨e1, hs1⟩, b1⟩ := open_str1 h1
  obtain ⟨lo, e2, _, w2⟩ := DataW.trod_int Tryz.underlying2 h2
  obtain ⟨hi, e3, _, w3⟩ := DataW.trod_int Tryz.underlying2 h3
  obtain ⟨vs, v, e4, hv, b4⟩ := open_sliceB (R := ExC W) (k := 6) (.mk 0 0 [] [] 0 0) wt Tryz.underlying38 (by kernel_rfl) (by decide) (fun m cs x h => open_exv h) h4
  obtain ⟨l, e5, _, w5⟩ := DataW.trod_int Tryz.underlying3 h5
  obtain ⟨c, e6, _, w6⟩ := DataW.trod_int Tryz.underlying3 h6
  refine ⟨⟨s, s1, lo, hi, vs⟩, ⟨v, l, c, ?_, hs, hs1, in64_wf w2, in64_wf w3, hv⟩, ?_⟩
  · match cs, hcl with
    | [a0, a1, a2, a3, a4, a5, a6], _ =>
      have g0 := one_of1 e0
      have g1 := one_of1 e1
      have g2 := one_of1 e2
      have g3 := one_of1 e3
      have g4 := one_of1 e4
      have g5 := one_of1 e5
      have g6 := one_of1 e6
      simp at g0 g1 g2 g3 g4 g5 g6
      subst g0; subst g1; subst g2; subst g3; subst g4; subst g5; subst g6
      rfl
  · rw [hbk]
    simp only [List.map_cons, List.map_nil, Rows.uptoBulkAll]
    unfold wtD
    dsimp only
    omega
set_option maxRecDepth 100000 in
theorem open_asg (h : DataW.trod enc Tryz.prog W base sp held fuel 105 cs = some x) : ∃ a : Asg, AsgC W a cs ∧ wtA a ≤ Rows.uptoBulk x.1 := by
  obtain ⟨n, ys, hcl, hyl, hbk, hel⟩ := open_fieldsB (fs := (match Tryz.prog.underlying 105 with | some (.struct fs) => fs | _ => #[])) (by kernel_rfl) [(9, 0), (40, 1), (3, 7), (3, 8)] (by kernel_rfl) h
  match ys, hyl with
  | [y0, y1, y2, y3], _ =>
  have h0 := hel 0 _ _ rfl
  have h1 := hel 1 _ _ rfl
  have h2 := hel 2 _ _ rfl
  have h3 := hel 3 _ _ rfl
  rw [show Tryz.prog.cellsOf 9 = 1 from by kernel_rfl] at h0
  rw [show Tryz.prog.cellsOf 40 = 6 from by kernel_rfl] at h1
  rw [show Tryz.prog.cellsOf 3 = 1 from by kernel_rfl] at h2 h3
  rw [show Tryz.prog.cellsOf 105 = 9 from by kernel_rfl] at hcl
  obtain ⟨s, ⟨e0, hs⟩, b0⟩ := open_str1 h0
  obtain ⟨X, hX, b1⟩ := open_exv h1
  obtain ⟨l, e2, _, w2⟩ := DataW.trod_int Tryz.underlying3 h2
  obtain ⟨c, e3, _, w3⟩ := DataW.trod_int Tryz.underlying3 h3
  refine ⟨⟨s, X⟩, ?_, ?_⟩
  · match cs, hcl with
    | [a0, a1, a2, a3, a4, a5, a6, a7, a8], _ =>
      have g0 := one_of1 e0
      have g2 := one_of1 e2
      have g3 := one_of1 e3
      simp at g0 g2 g3
      subst g0; subst g2; subst g3
      exact ⟨[a1, a2, a3, a4, a5, a6], l, c, rfl, rfl, hs, hX⟩
  · rw [hbk]
    simp only [List.map_cons, List.map_nil, Rows.uptoBulkAll]
    unfold wtA
    dsimp only
    omega
set_option maxRecDepth 100000 in
theorem open_rul (h : DataW.trod enc Tryz.prog W base sp held fuel 76 cs = some x) : ∃ r : Rul, RulC W r cs ∧ wtR r ≤ Rows.uptoBulk x.1 := by
  obtain ⟨n, ys, hcl, hyl, hbk, hel⟩ := open_fieldsB (fs := (match Tryz.prog.underlying 76 with | some (.struct fs) => fs | _ => #[])) (by kernel_rfl) [(40, 0), (74, 6)] (by kernel_rfl) h
  match ys, hyl with
  | [y0, y1], _ =>
  have h0 := hel 0 _ _ rfl
  have h1 := hel 1 _ _ rfl
  rw [show Tryz.prog.cellsOf 40 = 6 from by kernel_rfl] at h0
  rw [show Tryz.prog.cellsOf 74 = 1 from by kernel_rfl] at h1
  rw [show Tryz.prog.cellsOf 76 = 7 from by kernel_rfl] at hcl
  obtain ⟨X, hX, b0⟩ := open_exv h0
  obtain ⟨vs, v, e1, hv, b1⟩ := open_sliceB (R := AsgC W) (k := 9) ⟨[], .mk 0 0 [] [] 0 0⟩ wtA Tryz.underlying74 (by kernel_rfl) (by decide) (fun m cs x h => open_asg h) h1
  refine ⟨⟨X, vs⟩, ?_, ?_⟩
  · match cs, hcl with
    | [a0, a1, a2, a3, a4, a5, a6], _ =>
      have g1 := one_of1 e1
      simp at g1
      subst g1
      exact ⟨[a0, a1, a2, a3, a4, a5], a6, rfl, rfl, hX, hv⟩
  · rw [hbk]
    simp only [List.map_cons, List.map_nil, Rows.uptoBulkAll]
    unfold wtR
    dsimp only
    omega
set_option maxRecDepth 100000 in
theorem open_prc (h : DataW.trod enc Tryz.prog W base sp held fuel 36 cs = some x) : ∃ p : Prc, PrcC W p cs ∧ wtP p ≤ Rows.uptoBulk x.1 := by
  obtain ⟨n, ys, hcl, hyl, hbk, hel⟩ := open_fieldsB (fs := (match Tryz.prog.underlying 36 with | some (.struct fs) => fs | _ => #[])) (by kernel_rfl) [(9, 0), (34, 1), (3, 2), (3, 3)] (by kernel_rfl) h
  match ys, hyl with
  | [y0, y1, y2, y3], _ =>
  have h0 := hel 0 _ _ rfl
  have h1 := hel 1 _ _ rfl
  have h2 := hel 2 _ _ rfl
  have h3 := hel 3 _ _ rfl
  rw [show Tryz.prog.cellsOf 9 = 1 from by kernel_rfl] at h0
  rw [show Tryz.prog.cellsOf 34 = 1 from by kernel_rfl] at h1
  rw [show Tryz.prog.cellsOf 3 = 1 from by kernel_rfl] at h2 h3
  rw [show Tryz.prog.cellsOf 36 = 4 from by kernel_rfl] at hcl
  obtain ⟨s, ⟨e0, hs⟩, b0⟩ := open_str1 h0
  obtain ⟨vs, v, e1, hv, b1⟩ := open_sliceB (R := RulC W) (k := 7) ⟨.mk 0 0 [] [] 0 0, []⟩ wtR Tryz.underlying34 (by kernel_rfl) (by decide) (fun m cs x h => open_rul h) h1
  obtain ⟨l, e2, _, w2⟩ := DataW.trod_int Tryz.underlying3 h2
  obtain ⟨c, e3, _, w3⟩ := DataW.trod_int Tryz.underlying3 h3
  refine ⟨⟨s, vs⟩, ⟨v, l, c, ?_, hs, hv⟩, ?_⟩
  · match cs, hcl with
    | [a0, a1, a2, a3], _ =>
      have g0 := one_of1 e0
      have g1 := one_of1 e1
      have g2 := one_of1 e2
      have g3 := one_of1 e3
      simp at g0 g1 g2 g3
      subst g0; subst g1; subst g2; subst g3
      rfl
  · rw [hbk]
    simp only [List.map_cons, List.map_nil, Rows.uptoBulkAll]
    unfold wtP
    dsimp only
    omega
end
set_option maxRecDepth 100000 in
/-- A model that came in. -/
theorem open_srcarg {H : Type} {enc : TypeId × Value → H} {W : World} {base base2 : Nat} {sp : Nat → Bool} {held : Bool} {v : Value} {d : DataW H} {p : List MemPlace} (hok : Value.okWide Tryz.prog W .any base2 26 v)
    (h : DataW.Trod enc Tryz.prog W base sp held 26 v d p) :
    ∃ (m : Src) (Ae : Option Addr) (ce : Nat) (Av : Option Addr) (cv : Nat) (Ap : Option Addr) (cp : Nat), v = .agg (cS Ae m.enums.length ce Av m.vars.length cv Ap m.procs.length cp).toArray ∧ SrcC W m Ae ce Av cv Ap cp ∧ wtS m ≤ Rows.uptoBulk d := by
  simp only [Value.okWide, Tryz.underlying26] at hok
  obtain ⟨cs, rfl, _, _⟩ := hok
  obtain ⟨fuel, h⟩ := h
  obtain ⟨n, ys, hcl, hyl, hbk, hel⟩ := open_fieldsB (fs := (match Tryz.prog.underlying 26 with | some (.struct fs) => fs | _ => #[])) (by kernel_rfl) [(22, 0), (23, 1), (24, 2)] (by kernel_rfl) h
  match ys, hyl with
  | [y0, y1, y2], _ =>
  have h0 := hel 0 _ _ rfl
  have h1 := hel 1 _ _ rfl
  have h2 := hel 2 _ _ rfl
  rw [show Tryz.prog.cellsOf 22 = 1 from by kernel_rfl] at h0
  rw [show Tryz.prog.cellsOf 23 = 1 from by kernel_rfl] at h1
  rw [show Tryz.prog.cellsOf 24 = 1 from by kernel_rfl] at h2
  rw [show Tryz.prog.cellsOf 26 = 3 from by kernel_rfl] at hcl
  obtain ⟨es, v0, e0, ⟨Ae, ce, rfl, hme, hce, hae⟩, b0⟩ := open_sliceB (R := EnuC W) (k := 4) ⟨[], []⟩ wtE Tryz.underlying22 (by kernel_rfl) (by decide) (fun m cs x h => open_enu h) h0
  obtain ⟨ds, v1, e1, ⟨Av, cv, rfl, hmv, hcv, hav⟩, b1⟩ := open_sliceB (R := DclC W) (k := 7) ⟨[], [], 0, 0, []⟩ wtD Tryz.underlying23 (by kernel_rfl) (by decide) (fun m cs x h => open_dcl h) h1
  obtain ⟨ps, v2, e2, ⟨Ap, cp, rfl, hmp, hcp, hap⟩, b2⟩ := open_sliceB (R := PrcC W) (k := 4) ⟨[], []⟩ wtP Tryz.underlying24 (by kernel_rfl) (by decide) (fun m cs x h => open_prc h) h2
  refine ⟨⟨es, ds, ps⟩, Ae, ce, Av, cv, Ap, cp, ?_, ⟨hme, hce, hae, hmv, hcv, hav, hmp, hcp, hap⟩, ?_⟩
  · have g0 := one_of1 e0
    have g1 := one_of1 e1
    have g2 := one_of1 e2
    have hcs : cs.toList = cS Ae es.length ce Av ds.length cv Ap ps.length cp := by
      have hv : (Value.agg cs).cells.toList = cs.toList := rfl
      rw [hv] at g0 g1 g2 hcl
      generalize cs.toList = L at *
      match L, hcl with
      | [a0, a1, a2], _ =>
        simp at g0 g1 g2
        subst g0; subst g1; subst g2
        rfl
    rw [← hcs]
  · rw [hbk]
    simp only [List.map_cons, List.map_nil, Rows.uptoBulkAll]
    unfold wtS
    dsimp only
    omega
theorem dcl_in64 {W : World} {A : Option Addr} {xs : List Dcl} (h : SlAt W (DclC W) 7 A xs) : ∀ d ∈ xs, in64 d.low ∧ in64 d.high := fun d hd => by
  rcases h with h | ⟨b, p, _, _, hk⟩
  · rw [h] at hd; cases hd
  · obtain ⟨j, hj⟩ := List.getElem?_of_mem hd
    obtain ⟨cs, _, _, v, l, c, _, _, _, h1, h2, _⟩ := hk j d hj
    exact ⟨h1, h2⟩
end Go.Proofs.YtnlepdkbcjjkdaaGreatDoor
