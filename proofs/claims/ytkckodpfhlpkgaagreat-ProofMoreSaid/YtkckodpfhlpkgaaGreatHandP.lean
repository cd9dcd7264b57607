/- What a hand's lists, its team and its engine say of the clauses at hand: how often each is there. No program. -/
import Derived.Test.YtkckodpfhlpkgaaGreatHandR
namespace Go.Proofs.YtkckodpfhlpkgaaGreat
open Go.RowKit LitM TrailM EngM

/-- A clean clause of so many variables. -/
structure OkC (n : Nat) (ys : List Int) : Prop where
  so : ys.Pairwise (fun a b => placeZ a < placeZ b)
  one : ∀ y ∈ ys, LitM.one y = true ∧ varZ y ≤ (n : Int)
theorem OkC.in32 {n : Nat} {ys : List Int} (h : OkC n ys) : In32 ys := In32.of fun y hy => by
  have := (one_iff y).1 (h.one y hy).1; omega
theorem OkC.of {n : Nat} {xs ys : List Int} (hc : IsClean xs ys) (hx : ∀ x ∈ xs, LitM.one x = true ∧ varZ x ≤ (n : Int)) : OkC n ys := ⟨hc.1, fun y hy => hx y ((hc.2 y).1 hy)⟩
theorem OkC.key {n : Nat} {ys zs : List Int} (h : OkC n ys) (k : OkC n zs) (e : zs ≠ ys) : keyL zs ≠ keyL ys := fun q => e (keyL_inj k.in32 h.in32 q)
def incM (m : List Int → Nat) (ys : List Int) : List Int → Nat := fun zs => if zs = ys then m zs + 1 else m zs
def decM (m : List Int → Nat) (ys : List Int) : List Int → Nat := fun zs => if zs = ys then m zs - 1 else m zs
/-- The clauses at hand: each so often as m says; their numbers are below nx; k bounds all that there is. -/
structure HOk (h : HdC) (c : TmC) (S : Eng) (n nx k : Nat) (m : List Int → Nat) : Prop where
  t : TmOk c S n
  len : ∀ ys, OkC n ys → (h.ns (keyL ys)).length = m ys
  ok : ∀ ys, m ys ≠ 0 → OkC n ys
  pl : ∀ ys, m ys ≠ 0 → ∃ z r id, h.ns (keyL ys) = z :: r ∧ c.pl z = some id ∧ id < S.cs.length ∧ (clA S.cs id).pr = true ∧ (clA S.cs id).ls = ys
  cv : ∀ id, id < S.cs.length → (clA S.cs id).pr = true → m (clA S.cs id).ls ≠ 0 ∧ ∃ z r, h.ns (keyL (clA S.cs id).ls) = z :: r ∧ c.pl z = some id
  nx : ∀ ys z, OkC n ys → z ∈ h.ns (keyL ys) → z < nx
  sz : S.cs.length ≤ k ∧ h.n ≤ k ∧ ∀ s, (h.ns s).length ≤ k
section
variable {h h' : HdC} {c c' : TmC} {S S' : Eng} {n nx k : Nat} {m : List Int → Nat}
theorem HOk.has (H : HOk h c S n nx k m) (ys : List Int) : hasE S ys ↔ m ys ≠ 0 := by
  constructor
  · rintro ⟨i, hi, hp, rfl⟩
    exact (H.cv i hi hp).1
  · intro hm
    obtain ⟨z, r, id, _, _, h1, h2, h3⟩ := H.pl ys hm
    exact ⟨id, h1, h2, h3⟩
theorem clA_add (S : Eng) (ys : List Int) (both : Bool) (i : Nat) (hi : i < S.cs.length) : clA (addF S ys both).cs i = clA S.cs i := by
  show clA (S.cs ++ [_]) i = _
  unfold clA
  rw [List.getD, List.getD, List.getElem?_append_left hi]
theorem clA_new (S : Eng) (ys : List Int) (both : Bool) : clA (addF S ys both).cs S.cs.length = ⟨true, ys, 0, 0, 0⟩ := by
  show clA (S.cs ++ [_]) _ = _
  unfold clA
  simp
theorem len_add (S : Eng) (ys : List Int) (both : Bool) : (addF S ys both).cs.length = S.cs.length + 1 := by show (S.cs ++ [_]).length = _; simp
/-- The same engine, other numbers: behind a follows. -/
theorem HOk.alike {s kk : Bool} {d : Int} (H : HOk h c S n nx k m) (ha : Alike S S') (ht : TmOk { c with settled := s, stuck := kk, depth := d } S' n) : HOk h { c with settled := s, stuck := kk, depth := d } S' n nx k m :=
  ⟨ht, H.len, H.ok, fun ys hm => by
    obtain ⟨z, r, id, a1, a2, a3, a4, a5⟩ := H.pl ys hm
    exact ⟨z, r, id, a1, a2, by rw [ha.cs]; exact a3, by rw [(ha.cl id).1]; exact a4, by rw [(ha.cl id).2]; exact a5⟩, fun id hi hp => by
    rw [ha.cs] at hi
    rw [(ha.cl id).1] at hp
    rw [(ha.cl id).2]
    exact H.cv id hi hp, H.nx, by rw [ha.cs]; exact H.sz⟩
/-- The hand's own numbers don't count. -/
theorem HOk.lists (H : HOk h c S n nx k m) (e1 : h'.ns = h.ns) (e2 : h'.n = h.n) : HOk h' c S n nx k m :=
  ⟨H.t, by rw [e1]; exact H.len, H.ok, by rw [e1]; exact H.pl, by rw [e1]; exact H.cv, by rw [e1]; exact H.nx, by rw [e1, e2]; exact H.sz⟩
/-- One more of a clause that is at hand. -/
theorem HOk.again (H : HOk h c S n nx k m) {ys : List Int} (ho : OkC n ys) (hz : h.ns (keyL ys) ≠ []) {num : Nat} (hnum : nx ≤ num) (e1 : h'.ns = updL h.ns (keyL ys) (h.ns (keyL ys) ++ [num])) (e2 : h'.n = h.n + 1) : HOk h' c S n (num + 1) (k + 1) (incM m ys) := by
  have hm : m ys ≠ 0 := by rw [← H.len ys ho]; exact fun e => hz (List.eq_nil_of_length_eq_zero e)
  have at_ : ∀ zs, OkC n zs → h'.ns (keyL zs) = if zs = ys then h.ns (keyL ys) ++ [num] else h.ns (keyL zs) := fun zs hzs => by
    rw [e1]
    by_cases e : zs = ys
    · rw [if_pos e, e, updL_at]
    · rw [if_neg e, updL_ne _ _ (ho.key hzs e)]
  have hi : ∀ zs, incM m ys zs ≠ 0 ↔ m zs ≠ 0 := fun zs => by
    unfold incM
    by_cases e : zs = ys
    · rw [if_pos e, e]; simp [hm]
    · rw [if_neg e]
  refine ⟨H.t, fun zs hzs => ?_, fun zs hm' => H.ok zs ((hi zs).1 hm'), fun zs hm' => ?_, fun id hid hp => ?_, fun zs z hzs hz' => ?_, Nat.le_succ_of_le H.sz.1, by rw [e2]; have := H.sz.2.1; omega, fun s => ?_⟩
  · rw [at_ zs hzs]
    unfold incM
    by_cases e : zs = ys
    · rw [if_pos e, if_pos e, e, List.length_append, H.len ys ho]; rfl
    · rw [if_neg e, if_neg e]; exact H.len zs hzs
  · have hm0 := (hi zs).1 hm'
    obtain ⟨z, r, id, a1, a2⟩ := H.pl zs hm0
    rw [at_ zs (H.ok zs hm0)]
    by_cases e : zs = ys
    · refine ⟨z, r ++ [num], id, ?_, a2⟩
      rw [if_pos e, ← e, a1]; rfl
    · exact ⟨z, r, id, by rw [if_neg e]; exact a1, a2⟩
  · obtain ⟨a1, z, r, a2, a3⟩ := H.cv id hid hp
    refine ⟨(hi _).2 a1, ?_⟩
    rw [at_ _ (H.ok _ a1)]
    by_cases e : (clA S.cs id).ls = ys
    · refine ⟨z, r ++ [num], ?_, a3⟩
      rw [if_pos e, ← e, a2]; rfl
    · exact ⟨z, r, by rw [if_neg e]; exact a2, a3⟩
  · rw [at_ zs hzs] at hz'
    by_cases e : zs = ys
    · rw [if_pos e] at hz'
      rcases List.mem_append.1 hz' with x | x
      · have := H.nx ys z ho x; omega
      · have : z = num := by simpa using x
        omega
    · rw [if_neg e] at hz'
      have := H.nx zs z hzs hz'; omega
  · rw [e1]
    unfold updL
    have h1 := H.sz.2.2 s
    have h2 := H.sz.2.2 (keyL ys)
    split
    · rw [List.length_append]
      show _ + 1 ≤ _
      omega
    · omega
/-- A clause that wasn't at hand. -/
theorem HOk.first (H : HOk h c S n nx k m) {ys : List Int} {both : Bool} (ho : OkC n ys) (hz : h.ns (keyL ys) = []) {num : Nat} (hnum : nx ≤ num) (e1 : h'.ns = updL h.ns (keyL ys) (h.ns (keyL ys) ++ [num])) (e2 : h'.n = h.n + 1) {An : Option Addr} {cn : Nat} {tl : Nat → Tl} (hI : Inv (addF S ys both)) :
    HOk h' { c with settled := false, nums := c.nums ++ [num], An := An, cn := cn, pl := updF c.pl num (some S.cs.length), tl := tl } (addF S ys both) n (num + 1) (k + 1) (incM m ys) := by
  have hm : m ys = 0 := by rw [← H.len ys ho, hz]; rfl
  have at_ : ∀ zs, OkC n zs → h'.ns (keyL zs) = if zs = ys then [num] else h.ns (keyL zs) := fun zs hzs => by
    rw [e1]
    by_cases e : zs = ys
    · rw [if_pos e, e, updL_at, hz]; rfl
    · rw [if_neg e, updL_ne _ _ (ho.key hzs e)]
  have plo : ∀ z, z < nx → updF c.pl num (some S.cs.length) z = c.pl z := fun z hz' => by unfold updF; rw [if_neg (by omega)]
  have pln : updF c.pl num (some S.cs.length) num = some S.cs.length := by unfold updF; rw [if_pos rfl]
  have hsub : ∀ c', hasE S c' → hasE (addF S ys both) c' := by
    rintro c' ⟨i, hi, hp, hl⟩
    exact ⟨i, by rw [len_add]; omega, by rw [clA_add _ _ _ i hi]; exact hp, by rw [clA_add _ _ _ i hi]; exact hl⟩
  have hof : ∀ zs, zs ≠ ys → incM m ys zs = m zs := fun zs e => by unfold incM; rw [if_neg e]
  have hon : incM m ys ys ≠ 0 := by unfold incM; rw [if_pos rfl]; omega
  refine ⟨⟨⟨hI, H.t.E.nn, fun c' hc' => ?_, H.t.E.dec, H.t.E.lv1, H.t.E.nb⟩, H.t.v, (fun e => by cases e), fun e cl => (H.t.s e cl).mono hsub⟩, fun zs hzs => ?_, fun zs hm' => ?_, fun zs hm' => ?_, fun id hid hp => ?_, fun zs z hzs hz' => ?_, by rw [len_add]; have := H.sz.1; omega, by rw [e2]; have := H.sz.2.1; omega, fun s => ?_⟩
  · obtain ⟨i, hi, hp, hl⟩ := hc'
    rw [len_add] at hi
    by_cases e : i < S.cs.length
    · rw [clA_add _ _ _ i e] at hp hl
      exact H.t.E.vr c' ⟨i, e, hp, hl⟩
    · obtain rfl : i = S.cs.length := by omega
      rw [clA_new] at hl
      rw [← hl]; exact ho.one
  · rw [at_ zs hzs]
    by_cases e : zs = ys
    · rw [if_pos e, e]; unfold incM; rw [if_pos rfl, hm]; rfl
    · rw [if_neg e, hof zs e]; exact H.len zs hzs
  · by_cases e : zs = ys
    · rw [e]; exact ho
    · rw [hof zs e] at hm'; exact H.ok zs hm'
  · by_cases e : zs = ys
    · rw [e]
      exact ⟨num, [], S.cs.length, by rw [at_ ys ho, if_pos rfl], pln, by rw [len_add]; omega, by rw [clA_new], by rw [clA_new]⟩
    · rw [hof zs e] at hm'
      obtain ⟨z, r, id, a1, a2, a3, a4, a5⟩ := H.pl zs hm'
      have hzn := H.nx zs z (H.ok zs hm') (by rw [a1]; simp)
      exact ⟨z, r, id, by rw [at_ zs (H.ok zs hm'), if_neg e]; exact a1, (plo z hzn).trans a2, by rw [len_add]; omega, by rw [clA_add _ _ _ id a3]; exact a4, by rw [clA_add _ _ _ id a3]; exact a5⟩
  · rw [len_add] at hid
    by_cases e : id < S.cs.length
    · rw [clA_add _ _ _ id e] at hp ⊢
      obtain ⟨a1, z, r, a2, a3⟩ := H.cv id e hp
      have hne : (clA S.cs id).ls ≠ ys := fun q => a1 (by rw [q]; exact hm)
      have hzn := H.nx _ z (H.ok _ a1) (by rw [a2]; simp)
      exact ⟨by rw [hof _ hne]; exact a1, z, r, by rw [at_ _ (H.ok _ a1), if_neg hne]; exact a2, (plo z hzn).trans a3⟩
    · obtain rfl : id = S.cs.length := by omega
      rw [clA_new]
      exact ⟨hon, num, [], by rw [at_ ys ho, if_pos rfl], pln⟩
  · rw [at_ zs hzs] at hz'
    by_cases e : zs = ys
    · rw [if_pos e] at hz'
      have : z = num := by simpa using hz'
      omega
    · rw [if_neg e] at hz'
      have := H.nx zs z hzs hz'; omega
  · rw [e1]
    unfold updL
    have h1 := H.sz.2.2 s
    split
    · rw [hz]; show 1 ≤ _; omega
    · omega
/-- The last one of a clause goes. -/
theorem HOk.gone (H : HOk h c S n nx k m) {ys : List Int} (ho : OkC n ys) {z id : Nat} (hz : h.ns (keyL ys) = [z]) (hp : c.pl z = some id) (hb : But S S' id) {s : Bool} {g : Int} (ht : TmOk { c with settled := s, gone := g, stuck := false } S' n) (e1 : h'.ns = updL h.ns (keyL ys) []) (e2 : h'.n = h.n) :
    HOk h' { c with settled := s, gone := g, stuck := false } S' n nx k (decM m ys) := by
  have hm : m ys = 1 := by rw [← H.len ys ho, hz]; rfl
  have hid : (clA S.cs id).ls = ys := by
    obtain ⟨z2, r, id2, a1, a2, a3, a4, a5⟩ := H.pl ys (by omega)
    rw [hz] at a1
    injection a1 with a1 _
    rw [← a1, hp] at a2
    injection a2 with a2
    rw [a2]; exact a5
  have at_ : ∀ zs, OkC n zs → h'.ns (keyL zs) = if zs = ys then [] else h.ns (keyL zs) := fun zs hzs => by
    rw [e1]
    by_cases e : zs = ys
    · rw [if_pos e, e, updL_at]
    · rw [if_neg e, updL_ne _ _ (ho.key hzs e)]
  have hof : ∀ zs, zs ≠ ys → decM m ys zs = m zs := fun zs e => by unfold decM; rw [if_neg e]
  have hon : decM m ys ys = 0 := by unfold decM; rw [if_pos rfl]; omega
  refine ⟨ht, fun zs hzs => ?_, fun zs hm' => ?_, fun zs hm' => ?_, fun i hi hp' => ?_, fun zs y hzs hz' => ?_, by rw [hb.cs]; exact H.sz.1, by rw [e2]; exact H.sz.2.1, fun s => ?_⟩
  · rw [at_ zs hzs]
    by_cases e : zs = ys
    · rw [if_pos e, e, hon]; rfl
    · rw [if_neg e, hof zs e]; exact H.len zs hzs
  · by_cases e : zs = ys
    · rw [e] at hm'; exact absurd hon hm'
    · rw [hof zs e] at hm'; exact H.ok zs hm'
  · by_cases e : zs = ys
    · rw [e] at hm'; exact absurd hon hm'
    · rw [hof zs e] at hm'
      obtain ⟨y, r, i, a1, a2, a3, a4, a5⟩ := H.pl zs hm'
      have hne : i ≠ id := fun q => e (by rw [← a5, q, hid])
      exact ⟨y, r, i, by rw [at_ zs (H.ok zs hm'), if_neg e]; exact a1, a2, by rw [hb.cs]; exact a3, by rw [(hb.cl i hne).1]; exact a4, by rw [(hb.cl i hne).2]; exact a5⟩
  · rw [hb.cs] at hi
    have hne : i ≠ id := fun q => by rw [q, hb.one] at hp'; cases hp'
    rw [(hb.cl i hne).1] at hp'
    rw [(hb.cl i hne).2]
    obtain ⟨a1, y, r, a2, a3⟩ := H.cv i hi hp'
    have hne2 : (clA S.cs i).ls ≠ ys := fun q => by
      rw [q, hz] at a2
      injection a2 with a2 _
      rw [← a2, hp] at a3
      injection a3 with a3
      exact hne a3.symm
    exact ⟨by rw [hof _ hne2]; exact a1, y, r, by rw [at_ _ (H.ok _ a1), if_neg hne2]; exact a2, a3⟩
  · rw [at_ zs hzs] at hz'
    by_cases e : zs = ys
    · rw [if_pos e] at hz'; cases hz'
    · rw [if_neg e] at hz'; exact H.nx zs y hzs hz'
  · rw [e1]
    unfold updL
    split
    · exact Nat.zero_le _
    · exact H.sz.2.2 s
/-- One of several goes. -/
theorem HOk.fewer (H : HOk h c S n nx k m) {ys : List Int} (ho : OkC n ys) (hz : 2 ≤ (h.ns (keyL ys)).length) (e1 : h'.ns = updL h.ns (keyL ys) (h.ns (keyL ys)).dropLast) (e2 : h'.n = h.n + 1) : HOk h' c S n nx (k + 1) (decM m ys) := by
  have hm : 2 ≤ m ys := by rw [← H.len ys ho]; exact hz
  have at_ : ∀ zs, OkC n zs → h'.ns (keyL zs) = if zs = ys then (h.ns (keyL ys)).dropLast else h.ns (keyL zs) := fun zs hzs => by
    rw [e1]
    by_cases e : zs = ys
    · rw [if_pos e, e, updL_at]
    · rw [if_neg e, updL_ne _ _ (ho.key hzs e)]
  have hi : ∀ zs, decM m ys zs ≠ 0 ↔ m zs ≠ 0 := fun zs => by
    unfold decM
    by_cases e : zs = ys
    · rw [if_pos e, e]; omega
    · rw [if_neg e]
  have hdl : ∀ (z : Nat) (r : List Nat), h.ns (keyL ys) = z :: r → ∃ r', (h.ns (keyL ys)).dropLast = z :: r' := fun z r e => by
    rw [e] at hz ⊢
    match r, hz with
    | y :: r, _ => exact ⟨(y :: r).dropLast, rfl⟩
  refine ⟨H.t, fun zs hzs => ?_, fun zs hm' => H.ok zs ((hi zs).1 hm'), fun zs hm' => ?_, fun id hid hp => ?_, fun zs z hzs hz' => ?_, Nat.le_succ_of_le H.sz.1, by rw [e2]; have := H.sz.2.1; omega, fun s => ?_⟩
  · rw [at_ zs hzs]
    unfold decM
    by_cases e : zs = ys
    · rw [if_pos e, if_pos e, e, List.length_dropLast, H.len ys ho]
    · rw [if_neg e, if_neg e]; exact H.len zs hzs
  · have hm0 := (hi zs).1 hm'
    obtain ⟨z, r, id, a1, a2⟩ := H.pl zs hm0
    rw [at_ zs (H.ok zs hm0)]
    by_cases e : zs = ys
    · obtain ⟨r', hr'⟩ := hdl z r (by rw [← e]; exact a1)
      exact ⟨z, r', id, by rw [if_pos e]; exact hr', a2⟩
    · exact ⟨z, r, id, by rw [if_neg e]; exact a1, a2⟩
  · obtain ⟨a1, z, r, a2, a3⟩ := H.cv id hid hp
    refine ⟨(hi _).2 a1, ?_⟩
    rw [at_ _ (H.ok _ a1)]
    by_cases e : (clA S.cs id).ls = ys
    · obtain ⟨r', hr'⟩ := hdl z r (by rw [← e]; exact a2)
      exact ⟨z, r', by rw [if_pos e]; exact hr', a3⟩
    · exact ⟨z, r, by rw [if_neg e]; exact a2, a3⟩
  · rw [at_ zs hzs] at hz'
    by_cases e : zs = ys
    · rw [if_pos e] at hz'
      exact H.nx ys z ho (List.dropLast_subset _ hz')
    · rw [if_neg e] at hz'; exact H.nx zs z hzs hz'
  · rw [e1]
    unfold updL
    have h1 := H.sz.2.2 s
    have h2 := H.sz.2.2 (keyL ys)
    split
    · rw [List.length_dropLast]; omega
    · omega
end
/-- A clause, clean. -/
noncomputable def clZ (xs : List Int) : List Int := Classical.epsilon (IsClean xs)
theorem clZ_eq {xs ys : List Int} (h : IsClean xs ys) : clZ xs = ys := (Classical.epsilon_spec (p := IsClean xs) ⟨ys, h⟩).unique h
/-- Is a step one, of these clauses at hand? -/
def StepOk (m : List Int → Nat) (s : Bool × List Int) : Prop := if s.1 = true then m (clZ s.2) ≠ 0 else Rup (fun c => m c ≠ 0) s.2
noncomputable def nextM (m : List Int → Nat) (s : Bool × List Int) : List Int → Nat := if s.1 = true then decM m (clZ s.2) else incM m (clZ s.2)
open Classical in
/-- The first step that isn't one; -1. -/
noncomputable def walkZ : (List Int → Nat) → List (Bool × List Int) → Nat → Int
  | _, [], _ => -1
  | m, s :: r, i => if StepOk m s then walkZ (nextM m s) r (i + 1) else (i : Int)
/-- A formula's clauses. -/
noncomputable def handM : List (List Int) → (List Int → Nat) → (List Int → Nat)
  | [], m => m
  | c :: r, m => handM r (incM m (clZ c))
end Go.Proofs.YtkckodpfhlpkgaaGreat
