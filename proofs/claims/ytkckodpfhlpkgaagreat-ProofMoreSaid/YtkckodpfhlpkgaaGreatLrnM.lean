/- What a conflict teaches, in plain words: reasons in the place of literals, and what can be spared. No program. -/
import Derived.Test.YtkckodpfhlpkgaaGreatEngB
namespace Go.Proofs.YtkckodpfhlpkgaaGreat
open LitM TrailM EngM

/-- A literal's level. -/
def lvl (S : Eng) (l : Int) : Int := levZ S.L (varZ l)
/-- Literals that follow of clauses, all together: none is true and false, and of no clause just one is left. -/
structure Cls (S : Eng) (T : Int → Prop) : Prop where
  con : ∀ y, LitM.one y = true → T y → T (-y) → False
  ful : ∀ i, i < S.cs.length → (clA S.cs i).pr = true → bothB (clA S.cs i).ls = false → (∃ y ∈ (clA S.cs i).ls, T y) ∨ ∃ a b, a ∈ (clA S.cs i).ls ∧ b ∈ (clA S.cs i).ls ∧ a ≠ b ∧ ¬ T a ∧ ¬ T (-a) ∧ ¬ T b ∧ ¬ T (-b)
/-- What was decided stands first at its level, which isn't 0. -/
def DecI (S : Eng) : Prop := ∀ (j : Nat) (x : Ent), S.L[j]? = some x → x.rs < 0 → 1 ≤ x.lv ∧ ∀ (i : Nat) (y : Ent), i < j → S.L[i]? = some y → y.lv < x.lv
section
variable {S : Eng} {T : Int → Prop}
theorem Cls.unit (h : Cls S T) (hI : Inv S) {i : Nat} (hi : i < S.cs.length) (hp : (clA S.cs i).pr = true) (hb : bothB (clA S.cs i).ls = false) {x : Int} (ho : ∀ y ∈ (clA S.cs i).ls, y ≠ x → T (-y)) : T x := by
  rcases h.ful i hi hp hb with ⟨y, hy, ht⟩ | ⟨a, b, ha, hb', hab, _, a2, _, b2⟩
  · by_cases e : y = x
    · rw [← e]; exact ht
    · exact (h.con y (hI.ls hi y hy).1 ht (ho y hy e)).elim
  · by_cases e : a = x
    · exact absurd (ho b hb' (fun q => hab (e.trans q.symm))) b2
    · exact absurd (ho a ha e) a2
theorem Cls.none (h : Cls S T) (hI : Inv S) {i : Nat} (hi : i < S.cs.length) (hp : (clA S.cs i).pr = true) (hf : ∀ y ∈ (clA S.cs i).ls, T (-y)) : False := by
  cases hb : bothB (clA S.cs i).ls with
  | true =>
    obtain ⟨y, hy1, hy2⟩ := (bothB_iff _).1 hb
    have h1 := hf y hy1
    have h2 := hf (-y) hy2
    rw [not_not] at h2
    exact h.con y (hI.ls hi y hy1).1 h2 h1
  | false =>
    rcases h.ful i hi hp hb with ⟨y, hy, ht⟩ | ⟨a, b, ha, hb', hab, _, a2, _, b2⟩
    · exact h.con y (hI.ls hi y hy).1 ht (hf y hy)
    · exact a2 (hf a ha)
theorem get_take {L : List Ent} {j : Nat} {z : Ent} (hz : z ∈ L.take j) : ∃ i, i < j ∧ L[i]? = some z := by
  obtain ⟨i, hi, rfl⟩ := List.getElem_of_mem hz
  have hi2 : i < j := by have := hi; rw [List.length_take] at this; omega
  exact ⟨i, hi2, by rw [← List.getElem?_take_of_lt hi2, List.getElem?_eq_getElem hi]⟩
theorem tr_of_take {L : List Ent} {j i : Nat} {z : Ent} (hi : i < j) (hz : L[i]? = some z) : z ∈ L.take j := by
  rw [← List.getElem?_take_of_lt hi] at hz
  exact List.mem_of_getElem? hz
/-- No literal stands twice. -/
theorem tr_once {n d : Nat} {L : List Ent} (h : Pre n d L) {i j : Nat} {x y : Ent} (hx : L[i]? = some x) (hy : L[j]? = some y) (e : varZ x.l = varZ y.l) : i = j := by
  rcases Nat.lt_trichotomy i j with q | q | q
  · exfalso
    have h1 := List.pairwise_iff_getElem.1 h.dis i j (List.getElem?_eq_some_iff.1 hx).1 (List.getElem?_eq_some_iff.1 hy).1 q
    rw [(List.getElem?_eq_some_iff.1 hx).2, (List.getElem?_eq_some_iff.1 hy).2] at h1
    exact h1 e
  · exact q
  · exfalso
    have h1 := List.pairwise_iff_getElem.1 h.dis j i (List.getElem?_eq_some_iff.1 hy).1 (List.getElem?_eq_some_iff.1 hx).1 q
    rw [(List.getElem?_eq_some_iff.1 hx).2, (List.getElem?_eq_some_iff.1 hy).2] at h1
    exact h1 e.symm
theorem lv_mono {n d : Nat} {L : List Ent} (h : Pre n d L) {i j : Nat} {x y : Ent} (hx : L[i]? = some x) (hy : L[j]? = some y) (hij : i ≤ j) : x.lv ≤ y.lv := by
  rcases Nat.lt_or_ge i j with q | q
  · have h1 := List.pairwise_iff_getElem.1 h.inc i j (List.getElem?_eq_some_iff.1 hx).1 (List.getElem?_eq_some_iff.1 hy).1 q
    rw [(List.getElem?_eq_some_iff.1 hx).2, (List.getElem?_eq_some_iff.1 hy).2] at h1
    exact h1
  · have : i = j := by omega
    subst this
    rw [hx] at hy; injection hy with hy
    rw [hy]; exact Nat.le_refl _
/-- A reason: its clause, all other literals of which are false ahead of it. -/
theorem reason_of (hI : Inv S) {j : Nat} {x : Ent} (hx : S.L[j]? = some x) (h0 : 0 ≤ x.rs) : ∃ r : Nat, x.rs = (r : Int) ∧ r < S.cs.length ∧ (clA S.cs r).pr = true ∧ bothB (clA S.cs r).ls = false ∧ x.l ∈ (clA S.cs r).ls ∧ ∀ y ∈ (clA S.cs r).ls, y ≠ x.l → Tr (S.L.take j) (-y) := by
  obtain ⟨r, q1, q2, q3, q4, q5⟩ := hI.i8 j x hx h0
  refine ⟨r, q1, q2, q3, ?_, q4, q5⟩
  have hls := hI.ls q2
  have hnot : ¬ Tr (S.L.take j) x.l := fun ⟨z, hz, e⟩ => by
    obtain ⟨i, hi, hz⟩ := get_take hz
    have := tr_once hI.pre hz hx (by rw [e])
    omega
  rw [Bool.eq_false_iff]
  intro hb
  obtain ⟨y, hy1, hy2⟩ := (bothB_iff _).1 hb
  have hxn : x.l ≠ 0 := by have := (one_iff x.l).1 (hls _ q4).1; omega
  by_cases e1 : y = x.l
  · have := q5 (-y) hy2 (by omega)
    rw [e1, not_not] at this
    exact hnot this
  · by_cases e2 : -y = x.l
    · have := q5 y hy1 e1
      rw [e2] at this
      exact hnot this
    · have a1 := tr_take (q5 y hy1 e1)
      have a2 := tr_take (q5 (-y) hy2 e2)
      exact tr_both hI.pre (one_neg (hls y hy1).1) a1 a2
theorem Cls.zero (h : Cls S T) (hI : Inv S) (hD : DecI S) : ∀ (j : Nat) (x : Ent), S.L[j]? = some x → x.lv = 0 → T x.l := by
  intro j
  induction j using Nat.strongRecOn with
  | _ j ih =>
    intro x hx hl
    by_cases h0 : 0 ≤ x.rs
    · obtain ⟨r, _, q2, q3, qb, q4, q5⟩ := reason_of hI hx h0
      refine h.unit hI q2 q3 qb fun y hy hne => ?_
      obtain ⟨z, hz, e⟩ := q5 y hy hne
      obtain ⟨i, hi, hz⟩ := get_take hz
      have := lv_mono hI.pre hz hx (Nat.le_of_lt hi)
      rw [← e]; exact ih i hi z hz (by omega)
    · have := (hD j x hx (by omega)).1
      omega
/-- A false literal: the entry of its other sign. -/
theorem false_at (hI : Inv S) {l : Int} (hv : valZ S.L l = -1) : LitM.one l = true ∧ ∃ (j : Nat) (x : Ent), S.L[j]? = some x ∧ x.l = -l ∧ findE S.L (varZ l) = some x ∧ lvl S l = (x.lv : Int) ∧ reaZ S.L (varZ l) = x.rs := by
  have h1 : ∃ x, findE S.L (varZ l) = some x := by
    unfold valZ at hv
    split at hv
    · exact ⟨_, by assumption⟩
    · omega
  obtain ⟨x, hx⟩ := h1
  obtain ⟨_, a2, a3, _⟩ := hI.pre.at_ hx
  have ho : LitM.one l = true := by
    cases e : LitM.one l with
    | true => rfl
    | false => rw [varZ_out e] at a3; omega
  refine ⟨ho, ?_⟩
  obtain ⟨hm, hv2⟩ := findE_some hx
  obtain ⟨j, hj, rfl⟩ := List.getElem_of_mem hm
  have hxl : S.L[j].l = -l := by
    rcases var_eq (hI.pre.one _ hm).1 ho hv2 with e | e
    · unfold valZ at hv
      rw [hx] at hv
      simp [e] at hv
    · exact e
  exact ⟨j, S.L[j], List.getElem?_eq_getElem hj, hxl, hx, by unfold lvl levZ; rw [hx], by unfold reaZ; rw [hx]⟩
theorem false_of (hI : Inv S) {j : Nat} {x : Ent} (hx : S.L[j]? = some x) : valZ S.L (-x.l) = -1 ∧ lvl S (-x.l) = (x.lv : Int) ∧ LitM.one x.l = true := by
  have hm := List.mem_of_getElem? hx
  have ho := (hI.pre.one x hm).1
  have hf := hI.pre.find hm
  refine ⟨(val_neg hI.pre (one_neg ho)).2 ⟨x, hm, (not_not).symm⟩, ?_, ho⟩
  unfold lvl levZ
  rw [var_neg ho, hf]
/-- Literals put in, but what is true, or false for ever, or in already. -/
def putM (S : Eng) (M : List Int) (l : Int) : List Int := if lvl S l = 0 ∨ valZ S.L l ≠ -1 ∨ l ∈ M then M else M ++ [l]
def addM (S : Eng) (M : List Int) (xs : List Int) : List Int := xs.foldl (putM S) M
theorem putM_mem {M : List Int} {l y : Int} : y ∈ putM S M l ↔ y ∈ M ∨ (y = l ∧ lvl S l ≠ 0 ∧ valZ S.L l = -1) := by
  unfold putM
  split
  · rename_i h
    constructor
    · exact fun e => .inl e
    · rintro (e | ⟨rfl, a, b⟩)
      · exact e
      · rcases h with h | h | h
        · exact absurd h a
        · exact absurd b h
        · exact h
  · rename_i h
    rw [List.mem_append]
    constructor
    · rintro (e | e)
      · exact .inl e
      · have : y = l := by simpa using e
        exact .inr ⟨this, fun e => h (.inl e), Decidable.of_not_not fun e => h (.inr (.inl e))⟩
    · rintro (e | ⟨rfl, _⟩)
      · exact .inl e
      · exact .inr (by simp)
theorem putM_nodup {M : List Int} {l : Int} (h : M.Nodup) : (putM S M l).Nodup := by
  unfold putM
  split
  · exact h
  · rename_i hn
    rw [List.nodup_append]
    refine ⟨h, by simp, fun a ha b hb e => ?_⟩
    have : b = l := by simpa using hb
    subst this; subst e
    exact hn (.inr (.inr ha))
theorem addM_mem : ∀ {xs M : List Int} {y : Int}, y ∈ addM S M xs ↔ y ∈ M ∨ (y ∈ xs ∧ lvl S y ≠ 0 ∧ valZ S.L y = -1)
  | [], M, y => by simp [addM]
  | x :: xs, M, y => by
    show y ∈ addM S (putM S M x) xs ↔ _
    rw [addM_mem, putM_mem]
    constructor
    · rintro ((e | ⟨rfl, a, b⟩) | ⟨e, a, b⟩)
      · exact .inl e
      · exact .inr ⟨by simp, a, b⟩
      · exact .inr ⟨List.mem_cons_of_mem _ e, a, b⟩
    · rintro (e | ⟨e, a, b⟩)
      · exact .inl (.inl e)
      · rcases List.mem_cons.1 e with rfl | e
        · exact .inl (.inr ⟨rfl, a, b⟩)
        · exact .inr ⟨e, a, b⟩
theorem addM_nodup : ∀ {xs M : List Int}, M.Nodup → (addM S M xs).Nodup
  | [], _, h => h
  | _ :: xs, _, h => addM_nodup (xs := xs) (putM_nodup h)
/-- How many have a level. -/
def cntM (S : Eng) (t : Nat) (M : List Int) : Nat := (M.filter fun l => decide (lvl S l = (t : Int))).length
/-- The draft: k entries of the trail may still be looked at. -/
structure Good (S : Eng) (t k : Nat) (M : List Int) : Prop where
  nd : M.Nodup
  fl : ∀ l ∈ M, valZ S.L l = -1 ∧ 1 ≤ lvl S l ∧ lvl S l ≤ (t : Int)
  pos : ∀ l ∈ M, lvl S l = (t : Int) → Tr (S.L.take k) (-l)
  top : ∃ l ∈ M, lvl S l = (t : Int)
  rup : ∀ T, Cls S T → ¬ ∀ l ∈ M, T (-l)
theorem lvl_zero (h : Cls S T) (hI : Inv S) (hD : DecI S) {l : Int} (hv : valZ S.L l = -1) (h0 : lvl S l = 0) : T (-l) := by
  obtain ⟨_, j, x, hx, e, _, e2, _⟩ := false_at hI hv
  rw [← e]; exact h.zero hI hD j x hx (by omega)
/-- A conflict. -/
theorem good_start (hI : Inv S) (hD : DecI S) {id t : Nat} (hi : id < S.cs.length) (hp : (clA S.cs id).pr = true) (hf : ∀ l ∈ (clA S.cs id).ls, valZ S.L l = -1) (ht : 0 < t) (hle : ∀ l ∈ (clA S.cs id).ls, lvl S l ≤ (t : Int)) (hex : ∃ l ∈ (clA S.cs id).ls, lvl S l = (t : Int)) : Good S t S.L.length (addM S [] (clA S.cs id).ls) := by
  have hm : ∀ {y}, y ∈ addM S [] (clA S.cs id).ls ↔ y ∈ (clA S.cs id).ls ∧ lvl S y ≠ 0 ∧ valZ S.L y = -1 := by
    intro y; rw [addM_mem]; simp
  refine ⟨addM_nodup List.nodup_nil, fun l hl => ?_, fun l hl _ => ?_, ?_, fun T h hT => ?_⟩
  · obtain ⟨a, b, c⟩ := hm.1 hl
    obtain ⟨_, j, x, hx, e, _, e2, _⟩ := false_at hI c
    exact ⟨c, by omega, hle l a⟩
  · obtain ⟨_, _, c⟩ := hm.1 hl
    obtain ⟨_, j, x, hx, e, _, e2, _⟩ := false_at hI c
    rw [List.take_length]
    exact ⟨x, List.mem_of_getElem? hx, e⟩
  · obtain ⟨l, hl, e⟩ := hex
    exact ⟨l, hm.2 ⟨hl, by omega, hf l hl⟩, e⟩
  · refine h.none hI hi hp fun y hy => ?_
    by_cases h0 : lvl S y = 0
    · exact lvl_zero h hI hD (hf y hy) h0
    · exact hT y (hm.2 ⟨hy, h0, hf y hy⟩)
/-- The literals of a reason. -/
def reaL (S : Eng) (v : Int) : List Int := if 0 ≤ reaZ S.L v then (clA S.cs (reaZ S.L v).toNat).ls else []
theorem two_of {t : Nat} {M : List Int} {l : Int} (hl : l ∈ M) (hv : lvl S l = (t : Int)) (h : cntM S t M ≠ 1) (hn : M.Nodup) : ∃ y ∈ M, lvl S y = (t : Int) ∧ y ≠ l := by
  unfold cntM at h
  have hm : l ∈ M.filter fun l => decide (lvl S l = (t : Int)) := List.mem_filter.2 ⟨hl, by simpa using hv⟩
  have hn2 : (M.filter fun l => decide (lvl S l = (t : Int))).Nodup := hn.sublist List.filter_sublist
  generalize hF : (M.filter fun l => decide (lvl S l = (t : Int))) = F at *
  match F, hm, h, hn2 with
  | [x], _, h, _ => simp at h
  | x :: y :: r, hm, _, hn2 =>
    have hx : x ∈ M ∧ lvl S x = (t : Int) := by have : x ∈ x :: y :: r := by simp
                                                rw [← hF] at this; simpa using List.mem_filter.1 this
    have hy : y ∈ M ∧ lvl S y = (t : Int) := by have : y ∈ x :: y :: r := by simp
                                                rw [← hF] at this; simpa using List.mem_filter.1 this
    have hxy : x ≠ y := fun e => by simp [e] at hn2
    by_cases e : x = l
    · exact ⟨y, hy.1, hy.2, fun e2 => hxy (e.trans e2.symm)⟩
    · exact ⟨x, hx.1, hx.2, e⟩
/-- The entry that is looked at isn't in the draft, at its greatest level. -/
theorem good_skip {t k : Nat} {M : List Int} {x : Ent} (h : Good S t (k + 1) M) (hx : S.L[k]? = some x) (hn : ¬ (-x.l ∈ M ∧ lvl S (-x.l) = (t : Int))) : Good S t k M := by
  refine ⟨h.nd, h.fl, fun l hl e => ?_, h.top, h.rup⟩
  obtain ⟨z, hz0, ez⟩ := h.pos l hl e
  obtain ⟨i, hi, hz⟩ := get_take hz0
  rcases Nat.lt_or_ge i k with q | q
  · exact ⟨z, tr_of_take q hz, ez⟩
  · have : i = k := by omega
    subst this
    rw [hx] at hz; injection hz with hz
    subst hz
    exact absurd ⟨by rw [ez, not_not]; exact hl, by rw [ez, not_not]; exact e⟩ hn
/-- It is: its reason comes in its place. -/
theorem good_step (hI : Inv S) (hD : DecI S) {t k : Nat} {M : List Int} {x : Ent} (h : Good S t (k + 1) M) (hx : S.L[k]? = some x) (hm : -x.l ∈ M) (hv : lvl S (-x.l) = (t : Int)) (hc : cntM S t M ≠ 1) : Good S t k (addM S (M.filter fun l => decide (l ≠ -x.l)) (reaL S (varZ x.l))) := by
  obtain ⟨f1, f2, f3⟩ := false_of hI hx
  obtain ⟨l', hl', hlv', hne'⟩ := two_of hm hv hc h.nd
  have hlt : x.lv = t := by omega
  have old : ∀ l ∈ M, lvl S l = (t : Int) → l ≠ -x.l → ∃ i z, i < k ∧ S.L[i]? = some z ∧ z.l = -l := fun l hl e hne => by
    obtain ⟨z, hz0, ez⟩ := h.pos l hl e
    obtain ⟨i, hi, hz⟩ := get_take hz0
    rcases Nat.lt_or_ge i k with q | q
    · exact ⟨i, z, q, hz, ez⟩
    · have : i = k := by omega
      subst this
      rw [hx] at hz; injection hz with hz
      subst hz
      exact absurd (by rw [ez, not_not]) hne
  have h0 : 0 ≤ x.rs := by
    obtain ⟨i, z, hi, hz, ez⟩ := old l' hl' hlv' hne'
    rcases Int.lt_or_le x.rs 0 with q | q
    · have h1 := (hD k x hx q).2 i z hi hz
      have h2 := (false_of hI hz).2.1
      rw [ez, not_not] at h2
      omega
    · exact q
  obtain ⟨r, q1, q2, q3, qb, q4, q5⟩ := reason_of hI hx h0
  have hrl : reaL S (varZ x.l) = (clA S.cs r).ls := by
    have hf := hI.pre.find (List.mem_of_getElem? hx)
    unfold reaL reaZ
    rw [hf]
    simp only [q1]
    rw [if_pos (by omega)]; rfl
  rw [hrl]
  have hmem : ∀ {y}, y ∈ addM S (M.filter fun l => decide (l ≠ -x.l)) (clA S.cs r).ls ↔ (y ∈ M ∧ y ≠ -x.l) ∨ (y ∈ (clA S.cs r).ls ∧ lvl S y ≠ 0 ∧ valZ S.L y = -1) := by
    intro y; rw [addM_mem, List.mem_filter]; simp
  have hval1 : valZ S.L x.l = 1 := (val_one hI.pre).2 ⟨x, List.mem_of_getElem? hx, rfl⟩
  have hrea : ∀ y ∈ (clA S.cs r).ls, y ≠ x.l → ∃ i z, i < k ∧ S.L[i]? = some z ∧ z.l = -y := fun y hy hne => by
    obtain ⟨z, hz, e⟩ := q5 y hy hne
    obtain ⟨i, hi, hz⟩ := get_take hz
    exact ⟨i, z, hi, hz, e⟩
  refine ⟨addM_nodup (h.nd.sublist List.filter_sublist), fun l hl => ?_, fun l hl e => ?_, ⟨l', hmem.2 (.inl ⟨hl', hne'⟩), hlv'⟩, fun T hT hall => ?_⟩
  · rcases hmem.1 hl with ⟨a, _⟩ | ⟨a, b, c⟩
    · exact h.fl l a
    · have hne : l ≠ x.l := fun e => by rw [e, hval1] at c; omega
      obtain ⟨i, z, hi, hz, ez⟩ := hrea l a hne
      have h2 := (false_of hI hz).2.1
      rw [ez, not_not] at h2
      have := lv_mono hI.pre hz hx (Nat.le_of_lt hi)
      exact ⟨c, by omega, by omega⟩
  · rcases hmem.1 hl with ⟨a, b⟩ | ⟨a, b, c⟩
    · obtain ⟨i, z, hi, hz, ez⟩ := old l a e b
      exact ⟨z, tr_of_take hi hz, ez⟩
    · have hne : l ≠ x.l := fun e => by rw [e, hval1] at c; omega
      obtain ⟨i, z, hi, hz, ez⟩ := hrea l a hne
      exact ⟨z, tr_of_take hi hz, ez⟩
  · have hx1 : T x.l := hT.unit hI q2 q3 qb fun y hy hne => by
      obtain ⟨i, z, hi, hz, ez⟩ := hrea y hy hne
      have hvy := (false_of hI hz).1
      rw [ez, not_not] at hvy
      by_cases h0 : lvl S y = 0
      · exact lvl_zero hT hI hD hvy h0
      · exact hall y (hmem.2 (.inr ⟨hy, h0, hvy⟩))
    refine h.rup T hT fun l hl => ?_
    by_cases e : l = -x.l
    · rw [e, not_not]; exact hx1
    · exact hall l (hmem.2 (.inl ⟨hl, e⟩))
theorem good_end {t : Nat} {M : List Int} (h : Good S t 0 M) : False := by
  obtain ⟨l, hl, e⟩ := h.top
  obtain ⟨z, hz, _⟩ := h.pos l hl e
  simp at hz
/-- Is a literal spared by its reason alone? -/
def sparB (S : Eng) (M : List Int) (l : Int) : Bool := decide (0 ≤ reaZ S.L (varZ l)) && !(reaL S (varZ l)).any fun y => decide (y ≠ -l) && decide (0 < lvl S y) && !decide (y ∈ M)
/-- What is learnt. -/
def keepB (S : Eng) (t : Nat) (M : List Int) (l : Int) : Bool := decide (lvl S l = (t : Int)) || !sparB S M l
/-- What is left follows. -/
theorem keep_rup (hI : Inv S) (hD : DecI S) {t k : Nat} {M : List Int} (h : Good S t k M) (hT : Cls S T) (hall : ∀ l ∈ M, keepB S t M l = true → T (-l)) : False := by
  have key : ∀ (j : Nat) (x : Ent), S.L[j]? = some x → -x.l ∈ M → T x.l := by
    intro j
    induction j using Nat.strongRecOn with
    | _ j ih =>
      intro x hx hm
      cases hk : keepB S t M (-x.l) with
      | true => have := hall _ hm hk; rw [not_not] at this; exact this
      | false =>
        unfold keepB at hk
        rw [Bool.or_eq_false_iff] at hk
        have hs : sparB S M (-x.l) = true := by simpa using hk.2
        unfold sparB at hs
        rw [Bool.and_eq_true] at hs
        have ho := (false_of hI hx).2.2
        have hf := hI.pre.find (List.mem_of_getElem? hx)
        have hrz : reaZ S.L (varZ (-x.l)) = x.rs := by unfold reaZ; rw [var_neg ho, hf]
        have h0 : 0 ≤ x.rs := by have := of_decide_eq_true hs.1; rw [hrz] at this; exact this
        obtain ⟨r, q1, q2, q3, qb, q4, q5⟩ := reason_of hI hx h0
        have hrl : reaL S (varZ (-x.l)) = (clA S.cs r).ls := by
          unfold reaL; rw [hrz, if_pos h0, q1]; rfl
        rw [hrl] at hs
        have hany := hs.2
        rw [Bool.not_eq_true', List.any_eq_false] at hany
        refine hT.unit hI q2 q3 qb fun y hy hne => ?_
        obtain ⟨z, hz, e⟩ := q5 y hy hne
        obtain ⟨i, hi, hz⟩ := get_take hz
        have h2 := false_of hI hz
        rw [e, not_not] at h2
        have hy2 := hany y hy
        rw [not_not] at hy2
        by_cases hl0 : lvl S y = 0
        · exact lvl_zero hT hI hD h2.1 hl0
        · have hyM : y ∈ M := by
            by_cases hyM : y ∈ M
            · exact hyM
            · exfalso
              refine hy2 ?_
              have : 0 < lvl S y := by omega
              simp [hne, this, hyM]
          rw [← e]
          exact ih i hi z hz (by rw [e, not_not]; exact hyM)
  refine h.rup T hT fun l hl => ?_
  obtain ⟨_, j, x, hx, e, _⟩ := false_at hI (h.fl l hl).1
  rw [← e]
  exact key j x hx (by rw [e, not_not]; exact hl)
end
end Go.Proofs.YtkckodpfhlpkgaaGreat
