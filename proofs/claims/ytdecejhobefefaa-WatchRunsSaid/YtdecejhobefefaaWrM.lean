/- What a record of all that was done says of an engine: clauses, which are present, what was decided; what follows of it is what the engine says. -/
import Derived.Test.YtdecejhobefefaaLrnW
import Derived.Test.YtdecejhobefefaaLead
import Derived.Test.YtdecejhobefefaaFols
namespace Go.Proofs.Ytdecejhobefefaa
open Go.RowKit LitM TrailM EngM

structure Rec (S : Eng) (all : List (List Int)) (pres : List Bool) (dec : List Int) : Prop where
  al : all.length = S.cs.length
  pl : pres.length = S.cs.length
  pr : ∀ i, i < S.cs.length → pres.getD i false = (clA S.cs i).pr
  cl : ∀ i, i < S.cs.length → (clA S.cs i).pr = true → all.getD i [] = (clA S.cs i).ls
  ok : ∀ c ∈ all, c.length ≤ 20 ∧ ∀ y ∈ c, LitM.one y = true ∧ varZ y ≤ S.n
  dl : dec.length = S.le.length
  d1 : ∀ x ∈ S.L, x.rs < 0 → 1 ≤ x.lv ∧ dec[x.lv - 1]? = some x.l
  d2 : ∀ k, k < dec.length → ∃ x ∈ S.L, x.lv = k + 1 ∧ x.rs < 0 ∧ x.l = dec.getD k 0
section
variable {S : Eng} {all : List (List Int)} {pres : List Bool} {dec : List Int}
theorem rec_new (n : Nat) : Rec (newE n) [] [] [] := ⟨rfl, rfl, fun i hi => by simp [newE] at hi, fun i hi => by simp [newE] at hi, by simp, rfl, fun x hx => by simp [newE] at hx, fun k hk => by simp at hk⟩
theorem rec_add (h : Rec S all pres dec) {ys : List Int} (both : Bool) (hy : ys.length ≤ 20) (hf : ∀ y ∈ ys, LitM.one y = true ∧ varZ y ≤ S.n) : Rec (addF S ys both) (all ++ [ys]) (pres ++ [true]) dec := by
  have hl : (addF S ys both).cs.length = S.cs.length + 1 := by show (S.cs ++ [_]).length = _; simp
  have hc : ∀ i, i < S.cs.length → clA (addF S ys both).cs i = clA S.cs i := fun i hi => by
    show clA (S.cs ++ [_]) i = _
    unfold clA
    rw [List.getD, List.getD, List.getElem?_append_left hi]
  have hn : clA (addF S ys both).cs S.cs.length = ⟨true, ys, 0, 0, 0⟩ := by
    show clA (S.cs ++ [_]) _ = _
    unfold clA
    simp
  refine ⟨by rw [hl, List.length_append, h.al]; rfl, by rw [hl, List.length_append, h.pl]; rfl, fun i hi => ?_, fun i hi hp => ?_, fun c hc => ?_, h.dl, h.d1, h.d2⟩
  · by_cases e : i < S.cs.length
    · rw [hc i e, List.getD, List.getElem?_append_left (by rw [h.pl]; exact e)]
      exact h.pr i e
    · obtain rfl : i = S.cs.length := by omega
      rw [hn, ← h.pl]; simp
  · by_cases e : i < S.cs.length
    · rw [hc i e] at hp ⊢
      rw [List.getD, List.getElem?_append_left (by rw [h.al]; exact e)]
      exact h.cl i e hp
    · obtain rfl : i = S.cs.length := by omega
      rw [hn, ← h.al]; simp
  · rcases List.mem_append.1 hc with e | e
    · exact h.ok c e
    · rw [List.mem_singleton.1 e]; exact ⟨hy, hf⟩
theorem rec_decide (h : Rec S all pres dec) (hp : Pre S.n S.le.length S.L) (l : Int) : Rec (decideF S l) all pres (dec ++ [l]) := by
  have hl : (decideF S l).le.length = S.le.length + 1 := by simp [decideF]
  refine ⟨h.al, h.pl, h.pr, h.cl, h.ok, by rw [hl, List.length_append, h.dl]; rfl, fun x hx hr => ?_, fun k hk => ?_⟩
  · have hx : x ∈ S.L ++ [⟨l, S.le.length + 1, -1⟩] := hx
    rcases List.mem_append.1 hx with e | e
    · obtain ⟨a, b⟩ := h.d1 x e hr
      have := (hp.one x e).2.2
      exact ⟨a, by rw [List.getElem?_append_left (by rw [h.dl]; omega)]; exact b⟩
    · rw [List.mem_singleton.1 e]
      refine ⟨by show 1 ≤ S.le.length + 1; omega, ?_⟩
      show (dec ++ [l])[S.le.length + 1 - 1]? = some l
      rw [Nat.add_sub_cancel, ← h.dl]; simp
  · rw [List.length_append, List.length_singleton] at hk
    by_cases e : k < dec.length
    · obtain ⟨x, hx, a, b, c⟩ := h.d2 k e
      refine ⟨x, List.mem_append_left _ hx, a, b, ?_⟩
      rw [c, List.getD, List.getD, List.getElem?_append_left e]
    · obtain rfl : k = dec.length := by omega
      refine ⟨⟨l, S.le.length + 1, -1⟩, by show _ ∈ S.L ++ _; simp, by show S.le.length + 1 = _; rw [h.dl], by show (-1 : Int) < 0; omega, by simp⟩
theorem rec_ker {S' : Eng} (h : Rec S all pres dec) (k : Ker S S') : Rec S' all pres dec := by
  obtain ⟨M, hM, hN⟩ := k.L
  have k1 := k.cs
  have k2 := k.le
  refine ⟨by rw [k1]; exact h.al, by rw [k1]; exact h.pl, fun i hi => by rw [(k.cl i).1]; exact h.pr i (by omega), fun i hi hp => ?_, fun c hc => ?_, by rw [k2]; exact h.dl, fun x hx hr => ?_, fun j hj => ?_⟩
  · rw [(k.cl i).2]; rw [(k.cl i).1] at hp; exact h.cl i (by omega) hp
  · have := h.ok c hc
    rw [k.n]; exact this
  · rw [hM] at hx
    rcases List.mem_append.1 hx with e | e
    · exact h.d1 x e hr
    · have := (hN x e).1; omega
  · obtain ⟨x, hx, a, b, c⟩ := h.d2 j hj
    exact ⟨x, by rw [hM]; exact List.mem_append_left _ hx, a, b, c⟩
theorem rec_prop (hI : Inv S) (h : Rec S all pres dec) : Rec (propF S).1 all pres dec := rec_ker (S := roomF S) (by exact ⟨h.al, h.pl, h.pr, h.cl, h.ok, h.dl, h.d1, h.d2⟩) (inv_prop hI).2.1
theorem rec_back (h : Rec S all pres dec) (hp : Pre S.n S.le.length S.L) {k : Nat} : Rec (backF S k) all pres (dec.take k) := by
  unfold backF
  split
  · rename_i e
    rw [List.take_of_length_le (by rw [h.dl, e]; exact Nat.le_refl _)]; exact h
  · refine ⟨h.al, h.pl, h.pr, h.cl, h.ok, by show _ = (S.le.take k).length; rw [List.length_take, List.length_take, h.dl], fun x hx hr => ?_, fun j hj => ?_⟩
    · have hx : x ∈ S.L.take (upTo S.L k) := hx
      rw [(take_upTo hp.inc k).1, List.mem_filter] at hx
      have hle := of_decide_eq_true hx.2
      obtain ⟨a, b⟩ := h.d1 x hx.1 hr
      exact ⟨a, by rw [List.getElem?_take_of_lt (by omega)]; exact b⟩
    · rw [List.length_take] at hj
      obtain ⟨x, hx, a, b, c⟩ := h.d2 j (by omega)
      refine ⟨x, ?_, a, b, ?_⟩
      · show x ∈ S.L.take (upTo S.L k)
        rw [(take_upTo hp.inc k).1, List.mem_filter]
        exact ⟨hx, decide_eq_true (by omega)⟩
      · rw [c, List.getD, List.getD, List.getElem?_take_of_lt (by omega)]
theorem rec_remove (h : Rec S all pres dec) {id : Nat} (hi : id < S.cs.length) : Rec (removeF S id) all (pres.set id false) dec := by
  have hl : (removeF S id).cs.length = S.cs.length := by show (S.cs.set id _).length = _; simp
  have hc : ∀ i, clA (removeF S id).cs i = if i = id then Cl.gone else clA S.cs i := fun i => clA_set hi Cl.gone i
  refine ⟨by rw [hl]; exact h.al, by rw [hl, List.length_set]; exact h.pl, fun i hi2 => ?_, fun i hi2 hp => ?_, h.ok, h.dl, h.d1, h.d2⟩
  · rw [hl] at hi2
    rw [hc i, List.getD, List.getElem?_set]
    have h1 := h.pl
    by_cases e : i = id
    · subst e
      rw [if_pos rfl, if_pos rfl, if_pos (by omega)]; rfl
    · rw [if_neg (fun e2 => e e2.symm), if_neg e]; exact h.pr i hi2
  · rw [hl] at hi2
    rw [hc i] at hp ⊢
    by_cases e : i = id
    · rw [if_pos e] at hp; cases hp
    · rw [if_neg e] at hp ⊢; exact h.cl i hi2 hp
theorem rec_grow (h : Rec S all pres dec) : Rec (growF S) all pres dec :=
  ⟨h.al, h.pl, h.pr, h.cl, fun c hc => ⟨(h.ok c hc).1, fun y hy => ⟨((h.ok c hc).2 y hy).1, by have := ((h.ok c hc).2 y hy).2; show varZ y ≤ ((S.n + 1 : Nat) : Int); omega⟩⟩, h.dl, h.d1, h.d2⟩
/-- What was decided is true. -/
theorem Rec.tr (h : Rec S all pres dec) {y : Int} (hy : y ∈ dec) : Tr S.L y := by
  obtain ⟨k, hk, rfl⟩ := List.getElem_of_mem hy
  obtain ⟨x, hx, _, _, e⟩ := h.d2 k hk
  exact ⟨x, hx, by rw [e, List.getD, List.getElem?_eq_getElem hk]; rfl⟩
theorem Rec.lit (h : Rec S all pres dec) (hp : Pre S.n S.le.length S.L) {y : Int} (hy : y ∈ dec) : LitM.one y = true ∧ varZ y ≤ S.n := by
  obtain ⟨x, hx, rfl⟩ := h.tr hy
  exact ⟨(hp.one x hx).1, (hp.one x hx).2.1⟩
/-- The clauses that All tells. -/
def alB (all : List (List Int)) (pres : List Bool) (i : Nat) : Bool := pres.getD i false && !bothB (all.getD i [])
def alT (all : List (List Int)) (pres : List Bool) (j : Nat) : List (List Int) := ((List.range j).filter (alB all pres)).map fun i => all.getD i []
def alA (all : List (List Int)) (pres : List Bool) : List (List Int) := alT all pres all.length
theorem alT_succ (all : List (List Int)) (pres : List Bool) (j : Nat) : alT all pres (j + 1) = if alB all pres j = true then alT all pres j ++ [all.getD j []] else alT all pres j := by
  unfold alT
  rw [List.range_succ, List.filter_append, List.map_append]
  cases e : alB all pres j <;> simp [e]
theorem alT_len (all : List (List Int)) (pres : List Bool) (j : Nat) : (alT all pres j).length ≤ j := by
  unfold alT
  rw [List.length_map]
  have := List.length_filter_le (alB all pres) (List.range j)
  rw [List.length_range] at this; exact this
theorem alA_mem (h : Rec S all pres dec) (c : List Int) : c ∈ alA all pres ↔ ∃ i, i < S.cs.length ∧ (clA S.cs i).pr = true ∧ bothB (clA S.cs i).ls = false ∧ c = (clA S.cs i).ls := by
  unfold alA alT
  rw [List.mem_map]
  constructor
  · rintro ⟨i, hi, rfl⟩
    rw [List.mem_filter, List.mem_range] at hi
    obtain ⟨h1, h2⟩ := hi
    unfold alB at h2
    rw [Bool.and_eq_true] at h2
    have hi : i < S.cs.length := by rw [← h.al]; exact h1
    have hp := h.pr i hi
    rw [h2.1] at hp
    have hc := h.cl i hi hp.symm
    exact ⟨i, hi, hp.symm, by rw [← hc]; simpa using h2.2, hc⟩
  · rintro ⟨i, hi, hp, hb, rfl⟩
    have hc := h.cl i hi hp
    refine ⟨i, List.mem_filter.2 ⟨List.mem_range.2 (by rw [h.al]; exact hi), ?_⟩, hc⟩
    unfold alB
    rw [h.pr i hi, hp, hc, hb]; rfl
theorem alA_ok (h : Rec S all pres dec) : ∀ c ∈ alA all pres, c.length ≤ 100000 ∧ ∀ y ∈ c, LitM.one y = true ∧ varZ y < ((S.n + 1 : Nat) : Int) := fun c hc => by
  unfold alA alT at hc
  obtain ⟨i, hi, rfl⟩ := List.mem_map.1 hc
  have hi := List.mem_range.1 (List.mem_filter.1 hi).1
  have := h.ok (all.getD i []) (by rw [List.getD, List.getElem?_eq_getElem hi]; exact List.getElem_mem hi)
  exact ⟨by omega, fun y hy => ⟨(this.2 y hy).1, by have := (this.2 y hy).2; omega⟩⟩
/-- Values that tell just what was decided. -/
structure Dec0 (dec : List Int) (V0 : Nat → Int) : Prop where
  bd : ∀ k, -1 ≤ V0 k ∧ V0 k ≤ 1
  z : V0 0 = 0
  yes : ∀ y ∈ dec, valV V0 y = 1
  only : ∀ y, LitM.one y = true → valV V0 y = 1 → y ∈ dec
variable {V0 V : Nat → Int}
/-- What is true, is so in the closure, where nothing is open in that. -/
theorem trail_in (hI : Inv S) (h : Rec S all pres dec) (h0 : Dec0 dec V0) (hC : Clo (alA all pres) V0 V) (hq : ∀ c ∈ alA all pres, Quiet V c) : ∀ (j : Nat) (x : Ent), S.L[j]? = some x → valV V x.l = 1 := by
  intro j
  induction j using Nat.strongRecOn with
  | ind j ih =>
    intro x hx
    by_cases hr : x.rs < 0
    · obtain ⟨_, e⟩ := h.d1 x (List.mem_of_getElem? hx) hr
      exact ext_val hC.ext (h0.yes _ (List.mem_of_getElem? e))
    · obtain ⟨r, _, hrl, hp, hb, hin, ho⟩ := reason_of hI hx (by omega)
      have hneg : ∀ y ∈ (clA S.cs r).ls, y ≠ x.l → valV V y = -1 := fun y hy hne => by
        obtain ⟨z, hz, e⟩ := ho y hy hne
        obtain ⟨i, hi, hzi⟩ := get_take hz
        have h1 := ih i hi z hzi
        have hyo := (one_iff y).1 (hI.ls hrl y hy).1
        rw [e, valV_neg (by omega)] at h1
        omega
      rcases hq _ ((alA_mem h _).2 ⟨r, hrl, hp, hb, rfl⟩) with ⟨y, hy, e⟩ | ⟨a, b, ha, hb', hne, ea, eb⟩
      · by_cases e2 : y = x.l
        · rw [← e2]; exact e
        · have := hneg y hy e2; omega
      · by_cases e2 : a = x.l
        · have := hneg b hb' (fun e3 => hne (e2.trans e3.symm)); omega
        · have := hneg a ha e2; omega
/-- What is true in the closure, is so, where nothing is open. -/
theorem clo_in (hI : Inv S) (h : Rec S all pres dec) (h0 : Dec0 dec V0) (hC : Clo (alA all pres) V0 V) (hvi : S.vi = S.L.length) (hlo : S.lo = []) : ∀ y, LitM.one y = true → valV V y = 1 → Tr S.L y :=
  hC.snd (Tr S.L) (fun c hc x hx ho => by
    obtain ⟨i, hi, hp, hb, rfl⟩ := (alA_mem h c).1 hc
    rcases prop_done hI hvi hlo hi hp hb with ⟨y, hy, ht⟩ | ⟨a, b, ha, hb', hne, _, ea, _, eb⟩
    · by_cases e : y = x
      · rw [← e]; exact ht
      · exact (tr_both hI.pre (hI.ls hi y hy).1 ht (ho y hy e)).elim
    · by_cases e : a = x
      · exact absurd (ho b hb' (fun e2 => hne (e.trans e2.symm))) eb
      · exact absurd (ho a ha e) ea) (fun y hy hv => h.tr (h0.only y hy hv))
/-- Where nothing is open, the closure has no conflict. -/
theorem done_no (hI : Inv S) (h : Rec S all pres dec) (h0 : Dec0 dec V0) (hC : Clo (alA all pres) V0 V) (hvi : S.vi = S.L.length) (hlo : S.lo = []) : ¬ ∃ c ∈ alA all pres, ∀ y ∈ c, valV V y = -1 := by
  rintro ⟨c, hc, hf⟩
  obtain ⟨i, hi, hp, hb, rfl⟩ := (alA_mem h c).1 hc
  have hn : ∀ y ∈ (clA S.cs i).ls, Tr S.L (-y) := fun y hy => by
    have ho := (hI.ls hi y hy).1
    have := (one_iff y).1 ho
    exact clo_in hI h h0 hC hvi hlo (-y) (one_neg ho) (by rw [valV_neg (by omega), hf y hy]; omega)
  rcases prop_done hI hvi hlo hi hp hb with ⟨y, hy, ht⟩ | ⟨a, b, ha, _, _, _, ea, _, _⟩
  · exact tr_both hI.pre (hI.ls hi y hy).1 ht (hn y hy)
  · exact ea (hn a ha)
/-- .. and says the same of each literal. -/
theorem done_val (hI : Inv S) (h : Rec S all pres dec) (h0 : Dec0 dec V0) (hC : Clo (alA all pres) V0 V) (hq : ∀ c ∈ alA all pres, Quiet V c) (hvi : S.vi = S.L.length) (hlo : S.lo = []) {y : Int} (hy : LitM.one y = true) : valZ S.L y = valV V y := by
  have hin : ∀ z, Tr S.L z → valV V z = 1 := fun z ⟨x, hx, e⟩ => by
    obtain ⟨j, hj, rfl⟩ := List.getElem_of_mem hx
    rw [← e]; exact trail_in hI h h0 hC hq j _ (List.getElem?_eq_getElem hj)
  have ho := (one_iff y).1 hy
  have hb := val_bd hC.bd y
  by_cases t1 : Tr S.L y
  · rw [(val_one hI.pre).2 t1, hin y t1]
  · by_cases t2 : Tr S.L (-y)
    · have := hin _ t2
      rw [valV_neg (by omega)] at this
      rw [(val_neg hI.pre hy).2 t2]; omega
    · rw [(val_nil hI.pre hy).2 ⟨t1, t2⟩]
      have h1 : valV V y ≠ 1 := fun e => t1 (clo_in hI h h0 hC hvi hlo y hy e)
      have h2 : valV V y ≠ -1 := fun e => t2 (clo_in hI h h0 hC hvi hlo (-y) (one_neg hy) (by rw [valV_neg (by omega), e]; omega))
      omega
/-- A conflict is one of the closure. -/
theorem conf_no (hI : Inv S) (h : Rec S all pres dec) (h0 : Dec0 dec V0) (hC : Clo (alA all pres) V0 V) {id : Int} (hc : Conf S id) : ¬ ∀ c ∈ alA all pres, Quiet V c := by
  intro hq
  obtain ⟨i, _, hi, hp, hf⟩ := hc
  have hb : bothB (clA S.cs i).ls = false := by
    cases e : bothB (clA S.cs i).ls with
    | false => rfl
    | true =>
      obtain ⟨x, h1, h2⟩ := (bothB_iff _).1 e
      have t2 := hf _ h2
      rw [Int.neg_neg] at t2
      exact (tr_both hI.pre (hI.ls hi x h1).1 t2 (hf x h1)).elim
  have hin : ∀ y ∈ (clA S.cs i).ls, valV V y = -1 := fun y hy => by
    obtain ⟨x, hx, e⟩ := hf y hy
    obtain ⟨j, hj, rfl⟩ := List.getElem_of_mem hx
    have := trail_in hI h h0 hC hq j _ (List.getElem?_eq_getElem hj)
    have ho := (one_iff y).1 (hI.ls hi y hy).1
    rw [e, valV_neg (by omega)] at this
    omega
  rcases hq _ ((alA_mem h _).2 ⟨i, hi, hp, hb, rfl⟩) with ⟨y, hy, e⟩ | ⟨a, _, ha, _, _, ea, _⟩
  · have := hin y hy; omega
  · have := hin a ha; omega
/-- How many have values. -/
def knV (V : Nat → Int) (n : Nat) : Nat := ((List.range n).filter fun k => decide (V k ≠ 0)).length
theorem knV_succ (V : Nat → Int) (n : Nat) : knV V (n + 1) = if V n = 0 then knV V n else knV V n + 1 := by
  unfold knV
  rw [List.range_succ, List.filter_append, List.length_append]
  by_cases e : V n = 0 <;> simp [e]
theorem knV_le (V : Nat → Int) (n : Nat) : knV V n ≤ n := by
  unfold knV
  have := List.length_filter_le (fun k => decide (V k ≠ 0)) (List.range n)
  rw [List.length_range] at this; exact this
theorem pos_one {k : Nat} (h1 : 1 ≤ k) (h2 : k ≤ 262144) : LitM.one (k : Int) = true ∧ varZ (k : Int) = k := by
  refine ⟨(one_iff _).2 (.inl ⟨by omega, by omega⟩), varZ_pos (by omega) (by omega)⟩
theorem done_known (hI : Inv S) (h : Rec S all pres dec) (h0 : Dec0 dec V0) (hC : Clo (alA all pres) V0 V) (hq : ∀ c ∈ alA all pres, Quiet V c) (hvi : S.vi = S.L.length) (hlo : S.lo = []) : knV V (S.n + 1) = S.L.length := by
  have hn := hI.small.n
  have hz : V 0 = 0 := hC.zer.trans h0.z
  have hv : ∀ k : Nat, 1 ≤ k → k ≤ S.n → (V k ≠ 0 ↔ ∃ x ∈ S.L, varZ x.l = (k : Int)) := fun k k1 k2 => by
    obtain ⟨p1, p2⟩ := pos_one k1 (by omega)
    have hk := done_val hI h h0 hC hq hvi hlo p1
    have hvk : valV V (k : Int) = V k := by unfold valV; rw [if_neg (by omega)]; rfl
    rw [← hvk, ← hk]
    unfold valZ
    rw [p2]
    cases e : findE S.L (k : Int) with
    | none =>
      simp only [ne_eq, not_true, false_iff]
      rintro ⟨x, hx, e2⟩
      exact findE_none.1 e x hx e2
    | some x =>
      obtain ⟨a, b⟩ := findE_some e
      constructor
      · exact fun _ => ⟨x, a, b⟩
      · intro _
        dsimp only
        split <;> omega
  have hnd : (S.L.map fun x => (varZ x.l).toNat).Nodup := by
    unfold List.Nodup
    rw [List.pairwise_map]
    refine hI.pre.dis.imp_of_mem ?_
    intro a b ha hb hne e
    have h1 := varZ_ge (hI.pre.one a ha).1
    have h2 := varZ_ge (hI.pre.one b hb).1
    omega
  have hnd2 : ((List.range (S.n + 1)).filter fun k => decide (V k ≠ 0)).Nodup := (List.filter_sublist).nodup List.nodup_range
  have hmem : ∀ k, k ∈ (S.L.map fun x => (varZ x.l).toNat) ↔ k ∈ ((List.range (S.n + 1)).filter fun k => decide (V k ≠ 0)) := fun k => by
    rw [List.mem_map, List.mem_filter, List.mem_range, decide_eq_true_iff]
    constructor
    · rintro ⟨x, hx, rfl⟩
      have h1 := varZ_ge (hI.pre.one x hx).1
      have h2 := (hI.pre.one x hx).2.1
      exact ⟨by omega, (hv _ (by omega) (by omega)).2 ⟨x, hx, by omega⟩⟩
    · rintro ⟨h1, h2⟩
      by_cases e : k = 0
      · rw [e] at h2; exact absurd hz h2
      · obtain ⟨x, hx, e2⟩ := (hv k (by omega) (by omega)).1 h2
        exact ⟨x, hx, by omega⟩
  have l1 := List.Nodup.length_le_of_subset hnd fun k hk => (hmem k).1 hk
  have l2 := List.Nodup.length_le_of_subset hnd2 fun k hk => (hmem k).2 hk
  rw [List.length_map] at l1 l2
  unfold knV
  omega
/-- Is a clause leant on? -/
theorem lean_iff (hI : Inv S) {id : Nat} (hi : id < S.cs.length) : leanB S id = true ↔ ∃ v : Nat, 1 ≤ v ∧ v ≤ S.n ∧ reaZ S.L (v : Int) = (id : Int) := by
  unfold leanB
  rw [List.any_eq_true]
  constructor
  · rintro ⟨l, hl, e⟩
    have e : reaZ S.L (varZ l) = (id : Int) := by simpa using e
    have ho := hI.ls hi l hl
    have h1 := varZ_ge ho.1
    exact ⟨(varZ l).toNat, by omega, by omega, by rw [show (((varZ l).toNat : Nat) : Int) = varZ l by omega]; exact e⟩
  · rintro ⟨v, _, _, e⟩
    unfold reaZ at e
    cases hf : findE S.L (v : Int) with
    | none => rw [hf] at e; dsimp only at e; omega
    | some x =>
      rw [hf] at e
      dsimp only at e
      obtain ⟨hx, hv⟩ := findE_some hf
      obtain ⟨j, hj, rfl⟩ := List.getElem_of_mem hx
      obtain ⟨r, q1, q2, q3, q4, q5⟩ := hI.i8 j _ (List.getElem?_eq_getElem hj) (by omega)
      have : r = id := by omega
      subst this
      exact ⟨_, q4, by rw [hv]; unfold reaZ; rw [hf]; simpa using e⟩
end
end Go.Proofs.Ytdecejhobefefaa
