/- What a circuit's gates say is a model of its clauses, and no other one is, where the inputs are the same; a sink's clauses as a reading. -/
import Derived.Test.YtmiifhclcknhdaaKntO
import Derived.Test.YtmiifhclcknhdaaRfS
namespace Go.Proofs.Ytmiifhclcknhdaa
open Go.RowKit GatM KntM LitM CnfP

/-- What the gates say, by their variables. -/
def modelL (vals : List Bool) (gs : Gs) (K : List Nat) : List Bool := K.map (tru vals gs)
/-- A gate's value in a model. -/
def valB (bs : List Bool) (K : List Nat) (n : Nat) : Bool := bs.getD (vr K n - 1) false
def litB' (bs : List Bool) (K : List Nat) (e : Nat) : Bool := valB bs K (e / 2) != odd e
theorem model_val {vals : List Bool} {gs : Gs} {K : List Nat} {n : Nat} (h : n ∈ K) : valB (modelL vals gs K) K n = tru vals gs n := by
  unfold valB modelL vr
  rw [if_pos h]
  have h1 := List.idxOf_lt_length_of_mem h
  simp [List.getD, List.getElem?_map, List.getElem?_eq_getElem h1]
theorem true_lit {bs : List Bool} {K : List Nat} {e : Nat} (h : e / 2 ∈ K) (hK : K.length ≤ 200000) : trueB bs (lt K e) = litB' bs K e := by
  have h0 := vr_pos.2 h
  have h1 := vr_le K (e / 2)
  unfold trueB litB' valB lt odd
  rcases Nat.mod_two_eq_zero_or_one e with q | q
  · rw [if_neg (by omega), varZ_pos (by omega) (by omega), decide_eq_true (show (0 : Int) < (vr K (e / 2) : Int) by omega), decide_eq_false (by omega)]
    rw [show ((vr K (e / 2) : Int) - 1).toNat = vr K (e / 2) - 1 by omega]
    cases bs.getD (vr K (e / 2) - 1) false <;> rfl
  · rw [if_pos q, varZ_neg (by omega) (by omega), decide_eq_false (show ¬ (0 : Int) < -(vr K (e / 2) : Int) by omega), decide_eq_true q]
    rw [show (-(-(vr K (e / 2) : Int)) - 1).toNat = vr K (e / 2) - 1 by omega]
    cases bs.getD (vr K (e / 2) - 1) false <;> rfl
theorem litB_turn (bs : List Bool) (K : List Nat) (e : Nat) : litB' bs K (turnE e) = !litB' bs K e := by
  unfold litB'
  rw [turn_div, odd_turn]
  cases valB bs K (e / 2) <;> cases odd e <;> rfl
theorem true_neg {bs : List Bool} {K : List Nat} {e : Nat} (h : e / 2 ∈ K) (hK : K.length ≤ 200000) : trueB bs (-lt K e) = !litB' bs K e := by
  rw [← lt_turn, true_lit (by rw [turn_div]; exact h) hK, litB_turn]
theorem true_var {bs : List Bool} {K : List Nat} {n : Nat} (h : n ∈ K) (hK : K.length ≤ 200000) : trueB bs (vr K n : Int) = valB bs K n ∧ trueB bs (-(vr K n : Int)) = !valB bs K n := by
  have e1 : (2 * n) / 2 = n := by omega
  have e2 : lt K (2 * n) = (vr K n : Int) := by unfold lt; rw [if_neg (by omega), e1]
  have e3 : litB' bs K (2 * n) = valB bs K n := by
    unfold litB' odd
    rw [e1, decide_eq_false (by omega)]
    cases valB bs K n <;> rfl
  refine ⟨?_, ?_⟩
  · rw [← e2, true_lit (by rw [e1]; exact h) hK, e3]
  · rw [← e2, true_neg (by rw [e1]; exact h) hK, e3]
/-- When what is told of a gate holds. -/
theorem tell_holds {bs : List Bool} {gs : Gs} {K : List Nat} {n : Nat} (hn : n ∈ K) (hK : K.length ≤ 200000) (hz : getG gs 0 = (0, 0)) (hc : getG gs n ≠ (0, 0) → (getG gs n).1 / 2 ∈ K ∧ (getG gs n).2 / 2 ∈ K) :
    (∀ c ∈ tellL gs K n, clauseH bs c = true) ↔ ((n = 0 → valB bs K n = false) ∧ (getG gs n ≠ (0, 0) → valB bs K n = (litB' bs K (getG gs n).1 && litB' bs K (getG gs n).2))) := by
  unfold tellL
  by_cases h0 : n = 0
  · subst h0
    rw [if_pos rfl]
    have := (true_var (bs := bs) hn hK).2
    constructor
    · intro h
      have h1 := h _ (List.mem_singleton.2 rfl)
      unfold clauseH at h1
      simp only [List.any_cons, List.any_nil, Bool.or_false] at h1
      rw [this] at h1
      exact ⟨fun _ => by simpa using h1, fun h2 => absurd hz h2⟩
    · rintro ⟨h, _⟩ c hcm
      obtain rfl := List.mem_singleton.1 hcm
      unfold clauseH
      simp only [List.any_cons, List.any_nil, Bool.or_false]
      rw [this, h rfl]; rfl
  · rw [if_neg h0]
    by_cases hg : getG gs n = (0, 0)
    · rw [if_pos hg]
      exact ⟨fun _ => ⟨fun e => absurd e h0, fun e => absurd hg e⟩, fun _ c hcm => by simp at hcm⟩
    · rw [if_neg hg]
      obtain ⟨ha, hb⟩ := hc hg
      obtain ⟨v1, v2⟩ := true_var (bs := bs) hn hK
      have a1 := true_lit (bs := bs) ha hK
      have b1 := true_lit (bs := bs) hb hK
      have a2 := true_neg (bs := bs) ha hK
      have b2 := true_neg (bs := bs) hb hK
      unfold clauseH
      simp only [List.mem_cons, List.not_mem_nil, or_false, forall_eq_or_imp, forall_eq, List.any_cons, List.any_nil, Bool.or_false]
      rw [v1, v2, a1, b1, a2, b2]
      have : ∀ x y z : Bool, (((!x || y) = true ∧ (!x || z) = true ∧ (x || (!y || !z)) = true)) ↔ x = (y && z) := by decide
      rw [this]
      exact ⟨fun h => ⟨fun e => absurd e h0, fun _ => h⟩, fun h => h.2 hg⟩
theorem falseAt_some {bs : List Bool} : ∀ {cs : List (List Int)}, (∃ c ∈ cs, clauseH bs c = false) → 0 ≤ falseAt bs cs
  | [], h => by obtain ⟨c, hc, _⟩ := h; simp at hc
  | d :: cs, h => by
    obtain ⟨c, hc, he⟩ := h
    unfold falseAt
    by_cases hd : clauseH bs d = true
    · rw [if_pos hd]
      have : 0 ≤ falseAt bs cs := falseAt_some ⟨c, by
        rcases List.mem_cons.1 hc with e | e
        · rw [e, hd] at he; cases he
        · exact e, he⟩
      split <;> omega
    · rw [if_neg hd]; omega
theorem falseAt_all {bs : List Bool} {cs : List (List Int)} (h : ∀ c ∈ cs, clauseH bs c = true) : falseAt bs cs = -1 :=
  falseAt_no bs cs fun j hj => h _ (by rw [List.getD, List.getElem?_eq_getElem hj]; exact List.getElem_mem hj)
section
variable {vals : List Bool} {gs : Gs} {K : List Nat}
theorem model_lit (_ : OkK gs K) {e : Nat} (he : e / 2 ∈ K) : litB' (modelL vals gs K) K e = sayE vals gs e := by
  unfold litB' sayE
  rw [model_val he]
/-- What the gates say is a model. -/
theorem model_holds (hw : Wf gs) (h : OkK gs K) (hK : K.length ≤ 200000) : falseAt (modelL vals gs K) (clsK gs K) = -1 := by
  refine falseAt_all fun c hc => ?_
  unfold clsK at hc
  obtain ⟨n, hn, hcn⟩ := List.mem_flatMap.1 hc
  refine (tell_holds hn hK hw.zero (h.cl n hn)).2 ⟨fun e => ?_, fun hg => ?_⟩ c hcn
  · rw [model_val hn, e, tru_zero hw]
  · obtain ⟨ha, hb⟩ := h.cl n hn hg
    rw [model_val hn, model_lit h ha, model_lit h hb, tru_and hw (h.lt n hn) hg]
/-- Is a gate an INPUT? -/
def freeG (gs : Gs) (n : Nat) : Bool := !andB gs n && decide (0 < n)
/-- With any one turned that isn't an INPUT's it is none. -/
theorem model_turned (hw : Wf gs) (h : OkK gs K) (hK : K.length ≤ 200000) {i : Nat} (hi : i < K.length) (hf : freeG gs (K.getD i 0) = false) :
    0 ≤ falseAt ((modelL vals gs K).set i (!(modelL vals gs K).getD i false)) (clsK gs K) := by
  have hki : K.getD i 0 = K[i] := by simp [List.getD, List.getElem?_eq_getElem hi]
  rw [hki] at hf
  obtain ⟨n, hn⟩ : ∃ n, n = K[i] := ⟨_, rfl⟩
  rw [← hn] at hf
  have hnK : n ∈ K := by rw [hn]; exact List.getElem_mem hi
  have hvi : vr K n = i + 1 := by rw [hn, vr_get h.nd hi]
  obtain ⟨bs, hbs⟩ : ∃ bs, bs = (modelL vals gs K).set i (!(modelL vals gs K).getD i false) := ⟨_, rfl⟩
  rw [← hbs]
  have hml : (modelL vals gs K).length = K.length := by unfold modelL; rw [List.length_map]
  have v1 : valB bs K n = !tru vals gs n := by
    have e := model_val (vals := vals) (gs := gs) hnK
    unfold valB at e ⊢
    rw [hvi] at e ⊢
    rw [hbs, ← e, show i + 1 - 1 = i by omega]
    simp [List.getD, hml, hi]
  have v2 : ∀ k, k ∈ K → k ≠ n → valB bs K k = tru vals gs k := fun k hk hne => by
    have e := model_val (vals := vals) (gs := gs) hk
    have hvk : vr K k ≠ i + 1 := fun e2 => hne (vr_inj hk (by rw [e2, hvi]))
    have hv0 := vr_pos.2 hk
    unfold valB at e ⊢
    rw [← e, hbs]
    simp only [List.getD]
    rw [List.getElem?_set_ne (by omega)]
  apply falseAt_some
  apply Classical.byContradiction
  intro hno
  have hall : ∀ c ∈ tellL gs K n, clauseH bs c = true := fun c hc => by
    cases hcl : clauseH bs c with
    | true => rfl
    | false => exact absurd ⟨c, List.mem_flatMap.2 ⟨n, hnK, hc⟩, hcl⟩ hno
  obtain ⟨t0, t1⟩ := (tell_holds hnK hK hw.zero (h.cl n hnK)).1 hall
  by_cases hg : getG gs n = (0, 0)
  · have hn0 : n = 0 := by
      unfold freeG andB at hf
      rw [decide_eq_false (by exact fun e => e hg)] at hf
      simpa using hf
    have := t0 hn0
    rw [v1, hn0, tru_zero hw] at this
    cases this
  · obtain ⟨ha, hb⟩ := h.cl n hnK hg
    have hlt := hw.lt1 (h.lt n hnK) hg
    have := t1 hg
    have ea : litB' bs K (getG gs n).1 = sayE vals gs (getG gs n).1 := by unfold litB' sayE; rw [v2 _ ha (by omega)]
    have eb : litB' bs K (getG gs n).2 = sayE vals gs (getG gs n).2 := by unfold litB' sayE; rw [v2 _ hb (by omega)]
    rw [v1, ea, eb, ← tru_and hw (h.lt n hnK) hg] at this
    cases ht : tru vals gs n <;> rw [ht] at this <;> cases this
theorem tell_lits {gs : Gs} {K : List Nat} (h : OkK gs K) {n : Nat} (hn : n ∈ K) {c : List Int} (hc : c ∈ tellL gs K n) : c.length ≤ 3 ∧ ∀ l ∈ c, l ≠ 0 ∧ -(K.length : Int) ≤ l ∧ l ≤ K.length := by
  have hv0 := vr_pos.2 hn
  have hv1 := vr_le K n
  unfold tellL at hc
  split at hc
  · rename_i h0
    subst h0
    obtain rfl := List.mem_singleton.1 hc
    refine ⟨by simp, fun l hl => ?_⟩
    obtain rfl := List.mem_singleton.1 hl
    omega
  · split at hc
    · simp at hc
    · rename_i hg
      obtain ⟨ha, hb⟩ := h.cl n hn hg
      have a0 := lt_ne ha
      have b0 := lt_ne hb
      have a1 := lt_bd K (getG gs n).1
      have b1 := lt_bd K (getG gs n).2
      simp only [List.mem_cons, List.not_mem_nil, or_false] at hc
      rcases hc with rfl | rfl | rfl
      · refine ⟨by simp, fun l hl => ?_⟩
        simp only [List.mem_cons, List.not_mem_nil, or_false] at hl
        rcases hl with rfl | rfl <;> omega
      · refine ⟨by simp, fun l hl => ?_⟩
        simp only [List.mem_cons, List.not_mem_nil, or_false] at hl
        rcases hl with rfl | rfl <;> omega
      · refine ⟨by simp, fun l hl => ?_⟩
        simp only [List.mem_cons, List.not_mem_nil, or_false] at hl
        rcases hl with rfl | rfl | rfl <;> omega
theorem total_le : ∀ (cs : List (List Int)), (∀ c ∈ cs, c.length ≤ 3) → total cs ≤ 3 * cs.length
  | [], _ => by simp [total]
  | c :: cs, h => by
    have h1 := h c (List.mem_cons_self ..)
    have h2 := total_le cs fun d hd => h d (List.mem_cons_of_mem _ hd)
    rw [total_cons, List.length_cons]; omega
theorem cls_facts (h : OkK gs K) (hK : K.length ≤ 1000) : rightF (K.length : Int) (clsK gs K) = true ∧ Ok32 (clsK gs K) ∧ total (clsK gs K) ≤ 100000 ∧ (clsK gs K).length ≤ 100000 := by
  have hl := cls_len gs K
  have hc : ∀ c ∈ clsK gs K, c.length ≤ 3 ∧ ∀ l ∈ c, l ≠ 0 ∧ -(K.length : Int) ≤ l ∧ l ≤ K.length := fun c hc => by
    unfold clsK at hc
    obtain ⟨n, hn, hcn⟩ := List.mem_flatMap.1 hc
    exact tell_lits h hn hcn
  have ht := total_le _ fun c hx => (hc c hx).1
  refine ⟨?_, Ok32.of fun c hx => ⟨by have := (hc c hx).1; omega, In32.of fun l hlm => by have := (hc c hx).2 l hlm; omega⟩, by omega, by omega⟩
  unfold rightF
  simp only [Bool.and_eq_true, decide_eq_true_eq, List.all_eq_true]
  refine ⟨⟨⟨⟨by omega, by omega⟩, by omega⟩, by omega⟩, fun c hx => ?_⟩
  unfold clauseB
  rw [List.all_eq_true]
  intro l hlm
  have hb := (hc c hx).2 l hlm
  have h1 : LitM.one l = true := (one_iff l).2 (by omega)
  unfold litB
  rw [h1, Bool.true_and, decide_eq_true_eq]
  by_cases hneg : l < 0
  · rw [varZ_neg (by omega) (by omega)]; omega
  · rw [varZ_pos (by omega) (by omega)]; omega
/-- What False answers of a model. -/
theorem false_model (hw : Wf gs) (h : OkK gs K) (hK : K.length ≤ 1000) : falseV (K.length : Int) (clsK gs K) (modelL vals gs K) = -1 ∧ falseE (K.length : Int) (clsK gs K) (modelL vals gs K) = 0 := by
  have hc : (((modelL vals gs K).length : Int) = (K.length : Int)) ∧ rightF (K.length : Int) (clsK gs K) = true := ⟨by unfold modelL; rw [List.length_map], (cls_facts h hK).1⟩
  unfold falseV falseE
  rw [if_pos hc, if_pos hc]
  exact ⟨model_holds hw h (by omega), rfl⟩
theorem false_turned (hw : Wf gs) (h : OkK gs K) (hK : K.length ≤ 1000) {i : Nat} (hi : i < K.length) (hf : freeG gs (K.getD i 0) = false) :
    0 ≤ falseV (K.length : Int) (clsK gs K) ((modelL vals gs K).set i (!(modelL vals gs K).getD i false)) := by
  have hc : ((((modelL vals gs K).set i (!(modelL vals gs K).getD i false)).length : Int) = (K.length : Int)) ∧ rightF (K.length : Int) (clsK gs K) = true := ⟨by rw [List.length_set]; unfold modelL; rw [List.length_map], (cls_facts h hK).1⟩
  unfold falseV
  rw [if_pos hc]
  exact model_turned hw h (by omega) hi hf
end
/-- The sink's clauses can be read. -/
theorem KnAt.rdF {w : World} {q : KnC} {s : KnS} (h : KnAt w q s) : RdF w w.heap.size q.Ac s.F.length s.F := by
  obtain ⟨f, ⟨h1, _⟩, h2⟩ := h.cl
  refine ⟨rfl, fun hn => ?_⟩
  obtain ⟨g, e, hr⟩ := h1.row hn
  refine ⟨g, 0, e, hr.lt, fun j hj => ?_⟩
  obtain ⟨b, c, e1, _, hrb⟩ := h2 j hj
  refine ⟨some ⟨b, 0, none⟩, _, c, by rw [Nat.zero_add, hr.cell (show j < s.F.length * 1 by omega), e1], ⟨rfl, fun hn2 => ⟨b, 0, rfl, hrb.lt, fun i hi => ?_⟩⟩⟩
  rw [Nat.zero_add]
  exact hrb.cell (by omega)
theorem RdO.rdB {w : World} {B n : Nat} {A : Option Addr} {bs : List Bool} (h : RdO w B A n bs) : RdB w B A n bs := ⟨h.len, h.at_⟩
end Go.Proofs.Ytmiifhclcknhdaa
