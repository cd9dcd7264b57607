/- How much an expression that came in holds: its weight, its text's length; the reading's bulk bounds it. -/
import Derived.Test.YtnlepdkbcjjkdaaGreatDoorTreO
import Derived.Test.YtnlepdkbcjjkdaaGreatDoorTreS
import Derived.Test.YtnlepdkbcjjkdaaGreatDoorRows
import Derived.Lib.ItoaLen
namespace Go.Proofs.YtnlepdkbcjjkdaaGreatDoor
open Go.RowKit Go.ChangeShapes Go.WideShapes Go.ChangeAt Go.Deep TreM

mutual
/-- How many expressions and letters. -/
def wt : Ex → Nat
  | .mk _ _ s ks _ _ => 1 + s.length + wtL ks
def wtL : List Ex → Nat
  | [] => 0
  | k :: ks => wt k + wtL ks
end
theorem wt_pos (X : Ex) : 1 ≤ wt X := by cases X; rw [wt]; omega
theorem wtL_mem : ∀ (ks : List Ex) (k : Ex), k ∈ ks → wt k ≤ wtL ks
  | [], k, h => by cases h
  | y :: ys, k, h => by
    rw [wtL]
    rcases List.mem_cons.1 h with rfl | h
    · omega
    · have := wtL_mem ys k h; omega
theorem sizeL_wt : ∀ ks : List Ex, (∀ k ∈ ks, size k ≤ wt k) → sizeL ks ≤ wtL ks
  | [], _ => by simp [sizeL, wtL]
  | y :: ys, h => by
    have := h y (by simp)
    have := sizeL_wt ys fun k hk => h k (by simp [hk])
    simp only [sizeL, wtL]; omega
theorem size_wt : ∀ X : Ex, size X ≤ wt X := by
  apply Ex.ind (P := fun X => size X ≤ wt X)
  intro o n s ks l c ih
  have := sizeL_wt ks ih
  rw [size, wt]; omega
theorem wtL_le {H : Type} : ∀ (L : List Ex) (D : List (DataW H)), L.length = D.length → (∀ (j : Nat) (X : Ex) (d : DataW H), L[j]? = some X → D[j]? = some d → wt X ≤ Rows.uptoBulk d) → wtL L ≤ Rows.uptoBulkAll D
  | [], _, _, _ => by simp [wtL]
  | _ :: _, [], h, _ => by simp at h
  | X :: L, d :: D, h, hh => by
    have h1 := hh 0 X d rfl rfl
    have h2 := wtL_le L D (by simpa using h) fun j X d hX hd => hh (j + 1) X d (by simpa using hX) (by simpa using hd)
    simp only [wtL, Rows.uptoBulkAll]; omega
theorem sign_len (o : Int) : (signE o).length ≤ 3 := by
  unfold signE
  split
  · rename_i h
    have hh : ∀ j : Nat, j < 26 → (signT.getD j []).length ≤ 3 := by decide
    exact hh _ (by omega)
  · decide
theorem inner_len (X : Ex) : (inner X).length ≤ (text X).length + 2 := by
  rw [inner_eq]
  split
  · omega
  · simp only [List.length_append, List.length_cons, List.length_nil]; omega
/-- Its text is no longer than its weight allows. -/
theorem text_len : ∀ X : Ex, TreM.shape X = true → (text X).length + 2 ≤ 32 * wt X := by
  apply Ex.ind (P := fun X => TreM.shape X = true → (text X).length + 2 ≤ 32 * wt X)
  intro o n s ks l c ih h
  rw [TreM.shape, Bool.and_eq_true] at h
  have hk := (shapeL_mem ks).1 h.2
  have h1 := h.1
  unfold ownB at h1
  simp only [Bool.and_eq_true, decide_eq_true_eq] at h1
  have hkn := kidsN_le o
  have hs := sign_len o
  match ks, ih, hk, h1 with
  | [], _, _, h1 =>
    rw [text, textK, wt, wtL]
    · split
      · rename_i ho
        have h2 := h1.2.2
        rw [if_pos ho] at h2
        simp only [Bool.and_eq_true, decide_eq_true_eq] at h2
        have := Lib.itoa_length_le n (by omega) (by omega)
        omega
      · split
        · split <;> simp <;> omega
        · omega
    all_goals (intros; contradiction)
  | [a], ih, hk, _ =>
    have ha := ih a (by simp) (hk a (by simp))
    have hi := inner_len a
    rw [text, textK, wt, wtL, wtL]
    split
    · simp only [List.length_append, List.length_cons, List.length_nil]; omega
    · simp only [List.length_append]; omega
  | [a, b], ih, hk, _ =>
    have ha := ih a (by simp) (hk a (by simp))
    have hb := ih b (by simp) (hk b (by simp))
    have hi := inner_len a
    have hj := inner_len b
    rw [text, textK, wt, wtL, wtL, wtL]
    simp only [List.length_append, List.length_cons, List.length_nil]; omega
  | a :: b :: d :: r, _, _, h1 =>
    exfalso
    have := h1.1
    simp at this
    omega
theorem writ_len {X : Ex} (h : writB X = true) (hw : wt X ≤ 2097160) : (text X).length ≤ 140737488355328 := by
  have := text_len X (writ_shape h)
  omega

section
variable {H : Type} {enc : TypeId × Value → H} {P : Program} {W : World} {base : Nat} {sp : Nat → Bool} {held : Bool} {tE tI tJ tS tK : TypeId} {fs : Array Field}
/-- An expression, as the reading of an argument tells it. -/
theorem open_exw (hE : P.underlying tE = some (.struct fs)) (hf : fs.toList.map (fun f => (f.type, f.offset)) = [(tI, 0), (tJ, 1), (tS, 2), (tK, 3), (tI, 4), (tI, 5)])
    (hI : P.underlying tI = some (.int .i64)) (hJ : P.underlying tJ = some (.int .i64)) (hS : P.underlying tS = some .string) (hK : P.underlying tK = some (.slice tE))
    (cI : P.cellsOf tI = 1) (cJ : P.cellsOf tJ = 1) (cS : P.cellsOf tS = 1) (cK : P.cellsOf tK = 1) (cE : P.cellsOf tE = 6) :
    ∀ (fuel : Nat) (cs : List Value) (x : DataW H × List MemPlace), DataW.trod enc P W base sp held fuel tE cs = some x → ∃ X : Ex, ExC W X cs ∧ wt X ≤ Rows.uptoBulk x.1 := by
  intro fuel
  induction fuel using Nat.strongRecOn with
  | ind fuel ih =>
    intro cs x h
    obtain ⟨xs, n, rfl, hx0, hcl, hn, hel⟩ := DataW.trod_struct hE h
    rw [cE] at hcl
    have hfs : ∀ (i : Nat) (t : TypeId) (o : Nat), ([(tI, 0), (tJ, 1), (tS, 2), (tK, 3), (tI, 4), (tI, 5)] : List (TypeId × Nat))[i]? = some (t, o) → ∃ f, fs[i]? = some f ∧ f.type = t ∧ f.offset = o := by
      intro i t o hi
      rw [← hf, List.getElem?_map, Array.getElem?_toList] at hi
      cases hx : fs[i]? with
      | none => rw [hx] at hi; cases hi
      | some f =>
        rw [hx] at hi
        simp only [Option.map_some, Option.some.injEq, Prod.mk.injEq] at hi
        exact ⟨f, rfl, hi.1, hi.2⟩
    have hsz : fs.size = 6 := by
      have := congrArg List.length hf
      simpa using this
    have key : ∀ (i : Nat) (t : TypeId) (o : Nat), ([(tI, 0), (tJ, 1), (tS, 2), (tK, 3), (tI, 4), (tI, 5)] : List (TypeId × Nat))[i]? = some (t, o) → ∃ y, DataW.trod enc P W base sp held n t ((cs.drop o).take (P.cellsOf t)) = some y ∧ xs[i]? = some y := by
      intro i t o hi
      obtain ⟨f, h1, h2, h3⟩ := hfs i t o hi
      have hlt : i < xs.length := by
        rw [hn]
        rcases Nat.lt_or_ge i fs.size with h | h
        · exact h
        · rw [Array.getElem?_eq_none h] at h1; cases h1
      have := hel i f h1
      rw [h2, h3, List.getElem?_eq_getElem hlt] at this
      exact ⟨_, this, List.getElem?_eq_getElem hlt⟩
    obtain ⟨y0, h0, z0⟩ := key 0 tI 0 rfl
    obtain ⟨y1, h1, z1⟩ := key 1 tJ 1 rfl
    obtain ⟨y2, h2, z2⟩ := key 2 tS 2 rfl
    obtain ⟨y3, h3, z3⟩ := key 3 tK 3 rfl
    obtain ⟨y4, h4, z4⟩ := key 4 tI 4 rfl
    obtain ⟨y5, h5, z5⟩ := key 5 tI 5 rfl
    have hbk : Rows.uptoBulk y2.1 + Rows.uptoBulk y3.1 + 1 ≤ Rows.uptoBulk x.1 := by
      rw [hx0]
      match xs, hn.trans hsz with
      | [a0, a1, a2, a3, a4, a5], _ =>
        simp at z2 z3
        subst z2; subst z3
        simp only [List.map_cons, List.map_nil, Rows.uptoBulk, Rows.uptoBulkAll]
        omega
    rw [cI] at h0 h4 h5
    rw [cJ] at h1
    rw [cS] at h2
    rw [cK] at h3
    obtain ⟨o, e0, _, w0⟩ := DataW.trod_int hI h0
    obtain ⟨nm, e1, _, w1⟩ := DataW.trod_int hJ h1
    obtain ⟨s, e2, q2, w2⟩ := DataW.trod_string hS h2
    have hb2 : Rows.uptoBulk y2.1 = s.data.toList.length + 1 := by rw [q2]; simp only [Rows.uptoBulk]
    obtain ⟨l, e4, _, w4⟩ := DataW.trod_int hI h4
    obtain ⟨c, e5, _, w5⟩ := DataW.trod_int hI h5
    have hcs : ∀ v3, (cs.drop 3).take 1 = [v3] → cs = [.int .i64 o, .int .i64 nm, .string s, v3, .int .i64 l, .int .i64 c] := by
      intro v3 e3
      have g0 := one_of1 e0
      have g1 := one_of1 e1
      have g2 := one_of1 e2
      have g3 := one_of1 e3
      have g4 := one_of1 e4
      have g5 := one_of1 e5
      match cs, hcl with
      | [a0, a1, a2, a3, a4, a5], _ =>
        simp at g0 g1 g2 g3 g4 g5
        subst g0; subst g1; subst g2; subst g3; subst g4; subst g5
        rfl
    have hss : (⟨s.data.toList.toArray⟩ : ByteArray) = s := by cases s; simp
    have hsl : s.data.toList.length ≤ 9223372036854775807 := by rw [← Lib.size_eq]; unfold maxLen at w2; omega
    rcases DataW.trod_slice hK h3 with ⟨e3, _⟩ | ⟨a, len, cap, elems, rest, m, hm, e3, q3, _, hlc, hcap, hle, hi, _⟩
    · refine ⟨.mk o nm s.data.toList [] l c, ?_, by rw [wt, wtL]; omega⟩
      rw [ExC]
      exact ⟨none, 0, by rw [hcs _ e3, hss]; rfl, ⟨w0, w1, w4, w5⟩, hsl, Nat.le_refl _, by omega, .inl rfl⟩
    · rw [cE] at hi
      have elem : ∀ j, ∃ X : Ex, j < len → ∃ cs' : List Value, cs'.length = 6 ∧ (∀ i, i < 6 → W.cell? ((a.add (j * 6)).add i) = cs'[i]?) ∧ ExC W X cs' ∧ ∀ d, (elems.map (·.1))[j]? = some d → wt X ≤ Rows.uptoBulk d := by
        intro j
        by_cases hj : j < len
        · have h6 := hi j hj
          rw [List.getElem?_eq_getElem (show j < elems.length by omega), Option.bind_eq_some_iff] at h6
          obtain ⟨cs', hc, ht⟩ := h6
          obtain ⟨_, hcl', hat⟩ := World.cells?_some hc
          obtain ⟨X, hX, hXw⟩ := ih m (by omega) cs' _ ht
          exact ⟨X, fun _ => ⟨cs', hcl', fun i hi6 => hat i hi6, hX, fun d hd => by
            rw [List.getElem?_map, List.getElem?_eq_getElem (show j < elems.length by omega)] at hd
            simp only [Option.map_some, Option.some.injEq] at hd
            rw [← hd]; exact hXw⟩⟩
        · exact ⟨.mk 0 0 [] [] 0 0, fun h => absurd h hj⟩
      obtain ⟨F, hF⟩ := Classical.axiomOfChoice elem
      have hwl : wtL ((List.range len).map F) ≤ Rows.uptoBulkAll (elems.map (·.1)) := wtL_le _ _ (by simp [hle]) fun j X d hX hd => by
        have hjl : j < len := by
          rcases Nat.lt_or_ge j len with h | h
          · exact h
          · rw [List.getElem?_eq_none (by simpa using h)] at hX; cases hX
        rw [List.getElem?_map, List.getElem?_range hjl] at hX
        simp only [Option.map_some, Option.some.injEq] at hX
        obtain ⟨_, _, _, _, hw⟩ := hF j hjl
        rw [← hX]; exact hw d hd
      have hb3 : Rows.uptoBulkAll (elems.map (·.1)) + 1 ≤ Rows.uptoBulk y3.1 := by rw [q3]; simp only [Rows.uptoBulk]; omega
      refine ⟨.mk o nm s.data.toList ((List.range len).map F) l c, ?_, by rw [wt]; omega⟩
      rw [ExC]
      have hlen : ((List.range len).map F).length = len := by simp
      refine ⟨some a, cap, by rw [hlen, hcs _ e3, hss], ⟨w0, w1, w4, w5⟩, hsl, by rw [hlen]; exact hlc, by unfold maxLen at hcap; omega, ?_⟩
      by_cases h0l : len = 0
      · left; rw [h0l]; rfl
      · right
        obtain ⟨b, p, spot⟩ := a
        obtain ⟨cs', c1, c2, _, _⟩ := hF 0 (by omega)
        have hc0 := c2 0 (by decide)
        rw [List.getElem?_eq_getElem (show 0 < cs'.length by omega)] at hc0
        have hspot : spot = none := by simpa [Addr.add] using World.cell?_spot hc0
        subst hspot
        have hb := World.block_lt_of_cell? _ _ hc0
        refine ⟨b, p, rfl, by simpa [Addr.add] using hb, ExK.of fun j k hj => ?_⟩
        have hjl : j < len := by
          rcases Nat.lt_or_ge j len with h | h
          · exact h
          · rw [List.getElem?_eq_none (by rw [hlen]; exact h)] at hj; cases hj
        obtain ⟨cs2, d1, d2, d3, _⟩ := hF j hjl
        have hk : F j = k := by
          rw [List.getElem?_map, List.getElem?_range hjl] at hj
          simpa using hj
        subst hk
        refine ⟨cs2, fun i v hv => ?_, d3⟩
        have hi6 : i < 6 := by
          rw [← d1]
          rcases Nat.lt_or_ge i cs2.length with h | h
          · exact h
          · rw [List.getElem?_eq_none h] at hv; cases hv
        have := d2 i hi6
        rw [hv, addr_plain, addr_plain] at this
        exact this
end
end Go.Proofs.YtnlepdkbcjjkdaaGreatDoor
