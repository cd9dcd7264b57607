/- What holds of an engine, whatever was done: clauses are loose, due with a level, true for ever, or watched; what is true was decided, or follows. No program. What holds of an engine stays, while it propagates. No program. What holds of an engine stays, while one literal is visited, and all of them. No program. What an engine says behind a Propagate. No program. What follows of fewer clauses follows of more. No program. -/
import Derived.Test.YtkckodpfhlpkgaaGreatEngS
import Derived.Test.YtkckodpfhlpkgaaGreatCleanM
import Derived.Test.YtkckodpfhlpkgaaGreatEVis
import Derived.Test.YtkckodpfhlpkgaaGreatESett
namespace Go.Proofs.YtkckodpfhlpkgaaGreat
open LitM TrailM EngM

/-- Is a literal true? -/
def Tr (L : List Ent) (y : Int) : Prop := ∃ x ∈ L, x.l = y
/-- How far a level was visited. -/
def vk (S : Eng) (k : Nat) : Nat := if k < S.le.length then (leA S.le k).1 else S.vi
theorem one_neg {y : Int} (h : LitM.one y = true) : LitM.one (-y) = true := by
  have := (one_iff y).1 h
  exact (one_iff _).2 (by omega)
theorem var_neg {y : Int} (h : LitM.one y = true) : varZ (-y) = varZ y := by
  have := (one_iff y).1 h
  rcases this with ⟨a, b⟩ | ⟨a, b⟩
  · rw [varZ_pos a b, varZ_neg (by omega) (by omega)]; omega
  · rw [varZ_neg a b, varZ_pos (by omega) (by omega)]
theorem var_eq {a b : Int} (ha : LitM.one a = true) (hb : LitM.one b = true) (h : varZ a = varZ b) : a = b ∨ a = -b := by
  have h1 := (one_iff a).1 ha
  have h2 := (one_iff b).1 hb
  rcases h1 with ⟨c, d⟩ | ⟨c, d⟩ <;> rcases h2 with ⟨e, f⟩ | ⟨e, f⟩
  · rw [varZ_pos c d, varZ_pos e f] at h; omega
  · rw [varZ_pos c d, varZ_neg e f] at h; omega
  · rw [varZ_neg c d, varZ_pos e f] at h; omega
  · rw [varZ_neg c d, varZ_neg e f] at h; omega
section
variable {n d : Nat} {L : List Ent} {y : Int}
theorem tr_find (h : Pre n d L) (ht : Tr L y) : ∃ x, findE L (varZ y) = some x ∧ x.l = y := by
  obtain ⟨x, hx, rfl⟩ := ht
  exact ⟨x, h.find hx, rfl⟩
theorem val_one (h : Pre n d L) : valZ L y = 1 ↔ Tr L y := by
  constructor
  · intro hv
    unfold valZ at hv
    split at hv
    · rename_i x hx
      split at hv
      · exact ⟨x, (findE_some hx).1, by assumption⟩
      · omega
    · omega
  · intro ht
    obtain ⟨x, hx, e⟩ := tr_find h ht
    unfold valZ
    rw [hx]; simp [e]
theorem val_neg (h : Pre n d L) (hy : LitM.one y = true) : valZ L y = -1 ↔ Tr L (-y) := by
  constructor
  · intro hv
    unfold valZ at hv
    split at hv
    · rename_i x hx
      split at hv
      · omega
      · obtain ⟨hm, he⟩ := findE_some hx
        have := (h.one x hm).1
        rcases var_eq this hy he with e | e
        · contradiction
        · exact ⟨x, hm, e⟩
    · omega
  · intro ht
    obtain ⟨x, hx, e⟩ := tr_find h ht
    rw [var_neg hy] at hx
    unfold valZ
    rw [hx]
    have : x.l ≠ y := by have := (one_iff y).1 hy; omega
    simp [this]
theorem val_nil (h : Pre n d L) (hy : LitM.one y = true) : valZ L y = 0 ↔ ¬ Tr L y ∧ ¬ Tr L (-y) := by
  rw [← val_one h, ← val_neg h hy]
  unfold valZ
  split
  · split <;> omega
  · omega
theorem tr_both (h : Pre n d L) (hy : LitM.one y = true) (h1 : Tr L y) (h2 : Tr L (-y)) : False := by
  have a := (val_one h).2 h1
  have b := (val_neg h hy).2 h2
  omega
theorem tr_take {j : Nat} (h : Tr (L.take j) y) : Tr L y := by
  obtain ⟨x, hx, e⟩ := h
  exact ⟨x, List.mem_of_mem_take hx, e⟩
theorem tr_app {M : List Ent} (h : Tr L y) : Tr (L ++ M) y := by
  obtain ⟨x, hx, e⟩ := h
  exact ⟨x, List.mem_append_left _ hx, e⟩
end
/-- The search goes round all of them. -/
theorem anoF_none {L : List Ent} {c : Cl} (h0 : ∀ x ∈ c.ls, x ≠ 0) : ∀ k i, 0 < c.ls.length → i < c.ls.length → (anoF L c k i).2 = 0 → ∀ t, t < k → fitB L c (c.ls.getD ((i + 1 + t) % c.ls.length) 0) = false := by
  intro k
  induction k with
  | zero => intro i _ _ _ t ht; omega
  | succ k ih =>
    intro i hn hi hz t ht
    have hx : nextI c i = (i + 1) % c.ls.length := by
      unfold nextI
      split
      · rename_i e; rw [e, Nat.mod_self]
      · rw [Nat.mod_eq_of_lt (by omega)]
    have hlt : nextI c i < c.ls.length := by rw [hx]; exact Nat.mod_lt _ hn
    unfold anoF at hz
    split at hz
    · exfalso
      have : c.ls.getD (nextI c i) 0 ∈ c.ls := by rw [List.getD, List.getElem?_eq_getElem hlt]; exact List.getElem_mem hlt
      exact h0 _ this hz
    · rename_i hf
      cases t with
      | zero => rw [Nat.add_zero, ← hx]; simpa using hf
      | succ t =>
        have := ih (nextI c i) hn hlt hz t (by omega)
        rw [hx] at this
        rw [show i + 1 + (t + 1) = (i + 1) + 1 + t from by omega]
        have e : ((i + 1) % c.ls.length + 1 + t) % c.ls.length = ((i + 1) + 1 + t) % c.ls.length := by
          rw [Nat.add_assoc, Nat.add_assoc, Nat.mod_add_mod]
        rw [e] at this; exact this
theorem anoF_all {L : List Ent} {c : Cl} (h0 : ∀ x ∈ c.ls, x ≠ 0) (hn : c.nx = 0 ∨ c.nx < c.ls.length) (hz : (anoF L c c.ls.length c.nx).2 = 0) : ∀ x ∈ c.ls, fitB L c x = false := by
  intro x hx
  obtain ⟨j, hj, rfl⟩ := List.getElem_of_mem hx
  have hnx : c.nx < c.ls.length := by omega
  have key := anoF_none h0 c.ls.length c.nx (by omega) hnx hz
  by_cases e : c.nx + 1 ≤ j
  · have := key (j - (c.nx + 1)) (by omega)
    rw [show c.nx + 1 + (j - (c.nx + 1)) = j from by omega, Nat.mod_eq_of_lt hj, List.getD, List.getElem?_eq_getElem hj] at this
    exact this
  · have := key (j + c.ls.length - (c.nx + 1)) (by omega)
    rw [show c.nx + 1 + (j + c.ls.length - (c.nx + 1)) = j + c.ls.length from by omega, Nat.add_mod_right, Nat.mod_eq_of_lt hj, List.getD, List.getElem?_eq_getElem hj] at this
    exact this

/-- All of an engine. -/
structure Inv (S : Eng) : Prop where
  sf : ∃ K, Sf S K
  nd : ∀ i, i < S.cs.length → (clA S.cs i).ls.Nodup
  i1 : (S.lo ++ S.le.flatMap Prod.snd).Nodup
  i2 : ∀ p, (waA S.wa p).Nodup
  i3 : ∀ p i, i ∈ waA S.wa p → (clA S.cs i).pr = true → (p = plc (clA S.cs i).w0 ∨ p = plc (clA S.cs i).w1) ∧ (clA S.cs i).w0 ≠ (clA S.cs i).w1 ∧ (clA S.cs i).w0 ∈ (clA S.cs i).ls ∧ (clA S.cs i).w1 ∈ (clA S.cs i).ls ∧ i ∈ waA S.wa (plc (clA S.cs i).w0) ∧ i ∈ waA S.wa (plc (clA S.cs i).w1)
  i4 : ∀ i ∈ S.lo ++ S.le.flatMap Prod.snd, ∀ p, i ∉ waA S.wa p
  i5 : ∀ i, i < S.cs.length → (clA S.cs i).pr = true → bothB (clA S.cs i).ls = false → i ∈ S.lo ∨ (∃ k, k < S.le.length ∧ i ∈ (leA S.le k).2 ∧ ∃ x ∈ S.L, x.l ∈ (clA S.cs i).ls ∧ x.lv ≤ k + 1) ∨ (∃ x ∈ S.L, x.l ∈ (clA S.cs i).ls ∧ x.lv = 0) ∨ (i ∈ waA S.wa (plc (clA S.cs i).w0) ∧ i ∈ waA S.wa (plc (clA S.cs i).w1))
  i6 : ∀ p i, i ∈ waA S.wa p → (clA S.cs i).pr = true → ∀ k, k ≤ S.le.length → ∀ j x, j < vk S k → S.L[j]? = some x → (x.l = -(clA S.cs i).w0 → ∃ y ∈ S.L, y.l = (clA S.cs i).w1 ∧ y.lv ≤ k) ∧ (x.l = -(clA S.cs i).w1 → ∃ y ∈ S.L, y.l = (clA S.cs i).w0 ∧ y.lv ≤ k)
  i7 : ∀ k, k < S.le.length → vk S k ≤ vk S (k + 1) ∧ vk S k ≤ upTo S.L k
  i8 : ∀ j x, S.L[j]? = some x → 0 ≤ x.rs → ∃ r : Nat, x.rs = (r : Int) ∧ r < S.cs.length ∧ (clA S.cs r).pr = true ∧ x.l ∈ (clA S.cs r).ls ∧ ∀ y ∈ (clA S.cs r).ls, y ≠ x.l → Tr (S.L.take j) (-y)
theorem nodup_le : ∀ (l : List Nat) (m : Nat), l.Nodup → (∀ x ∈ l, x < m) → l.length ≤ m := by
  intro l m hl hm
  have := List.Nodup.length_le_of_subset hl (l₂ := List.range m) (fun x hx => List.mem_range.2 (hm x hx))
  simpa using this
section
variable {S : Eng}
theorem Inv.ok (h : Inv S) : Ok S.n S.le.length S.L := h.sf.choose_spec.ok
theorem Inv.pre (h : Inv S) : Pre S.n S.le.length S.L := h.ok.pre
theorem le_mem {le : List (Nat × List Nat)} {k i : Nat} (hk : k < le.length) (hi : i ∈ (leA le k).2) : i ∈ le.flatMap Prod.snd := by
  unfold leA at hi
  rw [List.getD, List.getElem?_eq_getElem hk] at hi
  exact List.mem_flatMap.2 ⟨le[k], List.getElem_mem hk, hi⟩
theorem wa_lt {wa : List (List Nat)} {p i : Nat} (hi : i ∈ waA wa p) : p < wa.length := by
  rcases Nat.lt_or_ge p wa.length with e | e
  · exact e
  · unfold waA at hi
    rw [List.getD, List.getElem?_eq_none e] at hi
    cases hi
theorem sub_flat {le : List (Nat × List Nat)} {x : Nat × List Nat} (hx : x ∈ le) : x.2.Sublist (le.flatMap Prod.snd) := by
  induction le with
  | nil => cases hx
  | cons y le ih =>
    rw [List.flatMap_cons]
    rcases List.mem_cons.1 hx with e | e
    · subst e; exact List.sublist_append_left _ _
    · exact (ih e).trans (List.sublist_append_right _ _)
/-- The lists are no longer than there are clauses. -/
theorem Inv.small (h : Inv S) : Sf S S.cs.length := by
  obtain ⟨K, hs⟩ := h.sf
  have hle : ∀ i ∈ S.le.flatMap Prod.snd, i < S.cs.length := fun i hi => by
    obtain ⟨x, hx, hi⟩ := List.mem_flatMap.1 hi
    obtain ⟨k, hk, rfl⟩ := List.getElem_of_mem hx
    exact hs.le k hk i (by unfold leA; rw [List.getD, List.getElem?_eq_getElem hk]; exact hi)
  have h1 := List.nodup_append.1 h.i1
  refine ⟨hs.n, hs.cl, Nat.le_refl _, hs.lo, nodup_le _ _ h1.1 hs.lo, hs.wa, fun p hp => nodup_le _ _ (h.i2 p) (hs.wa p hp), hs.wl, hs.le, fun k hk => ?_, hs.vi, hs.ok⟩
  refine nodup_le _ _ ?_ (hs.le k hk)
  have h2 := h1.2.1
  unfold leA
  rw [List.getD, List.getElem?_eq_getElem hk]
  exact h2.sublist (sub_flat (List.getElem_mem hk))
theorem Inv.vk_le (h : Inv S) : ∀ k, k ≤ S.le.length → vk S k ≤ S.vi := by
  intro k hk
  obtain ⟨m, rfl⟩ : ∃ m, k = S.le.length - m := ⟨S.le.length - k, by omega⟩
  induction m with
  | zero => unfold vk; rw [if_neg (by omega)]; exact Nat.le_refl _
  | succ m ih =>
    by_cases e : m + 1 ≤ S.le.length
    · have := (h.i7 (S.le.length - (m + 1)) (by omega)).1
      rw [show S.le.length - (m + 1) + 1 = S.le.length - m from by omega] at this
      exact Nat.le_trans this (ih (by omega))
    · rw [show S.le.length - (m + 1) = S.le.length - m from by omega]; exact ih (by omega)
theorem Inv.vi_le (h : Inv S) : S.vi ≤ S.L.length := by
  obtain ⟨K, hs⟩ := h.sf
  exact hs.vi
theorem Inv.ls (h : Inv S) {i : Nat} (hi : i < S.cs.length) : ∀ x ∈ (clA S.cs i).ls, LitM.one x = true ∧ varZ x ≤ S.n := by
  obtain ⟨K, hs⟩ := h.sf
  exact (hs.cl i hi).1
theorem inv_new {n : Nat} (hn : n ≤ 90000) : Inv (newE n) := by
  have w0 : ∀ p, waA (newE n).wa p = [] := fun p => rfl
  have l0 : (newE n).cs.length = 0 := rfl
  have k0 : (newE n).le.length = 0 := rfl
  have a0 : (newE n).wa.length = 0 := rfl
  have sf : Sf (newE n) 0 := by
    refine ⟨hn, fun i hi => by omega, Nat.le_refl _, fun i hi => absurd hi (List.not_mem_nil), Nat.le_refl _, fun p hp => by omega, fun p hp => by omega, by omega, fun k hk => by omega, fun k hk => by omega, Nat.le_refl _, Ok.nil n⟩
  refine ⟨⟨0, sf⟩, fun i hi => by omega, List.nodup_nil, fun p => by rw [w0]; exact List.nodup_nil, fun p i hi => ?_, fun i hi => absurd hi (List.not_mem_nil), fun i hi => by omega, fun p i hi => ?_, fun k hk => by omega, fun j x hx => ?_⟩
  · rw [w0] at hi; exact absurd hi List.not_mem_nil
  · rw [w0] at hi; exact absurd hi List.not_mem_nil
  · have : (newE n).L[j]? = none := rfl
    rw [this] at hx; cases hx
theorem waA_room {wa : List (List Nat)} {m p : Nat} : waA (wa ++ List.replicate m []) p = waA wa p := by
  unfold waA
  rcases Nat.lt_or_ge p wa.length with e | e
  · rw [List.getD, List.getD, List.getElem?_append_left e]
  · rw [List.getD, List.getD, List.getElem?_append_right e, List.getElem?_eq_none e, List.getElem?_replicate]
    split <;> rfl
theorem inv_room (h : Inv S) : Inv (roomF S) := by
  obtain ⟨K, hs⟩ := h.sf
  have e : ∀ p, waA (roomF S).wa p = waA S.wa p := fun p => waA_room
  refine ⟨⟨K, ⟨hs.n, hs.cl, hs.cn, hs.lo, hs.ln, fun p hp i hi => ?_, fun p hp => ?_, ?_, hs.le, hs.en, hs.vi, hs.ok⟩⟩, h.nd, h.i1, fun p => ?_, fun p i hi => ?_, fun i hi p => ?_, fun i hi hp hb => ?_, fun p i hi => ?_, h.i7, h.i8⟩
  · rw [e] at hi; exact hs.wa p (wa_lt hi) i hi
  · rw [e]
    rcases Nat.lt_or_ge p S.wa.length with e1 | e1
    · exact hs.wn p e1
    · unfold waA; rw [List.getD, List.getElem?_eq_none e1]; exact Nat.zero_le _
  · have := hs.wl
    unfold roomF; simp only [List.length_append, List.length_replicate]; omega
  · rw [e]; exact h.i2 p
  · rw [e] at hi
    intro hp
    show _ ∧ _ ∧ _ ∧ _ ∧ i ∈ waA (roomF S).wa _ ∧ i ∈ waA (roomF S).wa _
    rw [e, e]; exact h.i3 p i hi hp
  · rw [e]; exact h.i4 i hi p
  · show _ ∨ _ ∨ _ ∨ (i ∈ waA (roomF S).wa _ ∧ i ∈ waA (roomF S).wa _)
    rw [e, e]; exact h.i5 i hi hp hb
  · rw [e] at hi; exact h.i6 p i hi
theorem room_len (h : Inv S) : (roomF S).wa.length = 2 * (S.n + 1) := by
  obtain ⟨K, hs⟩ := h.sf
  have := hs.wl
  unfold roomF; simp only [List.length_append, List.length_replicate]; omega

/-- A literal that follows is true. -/
theorem inv_set (h : Inv S) {l : Int} {r : Nat} (h1 : LitM.one l = true) (h2 : varZ l ≤ S.n) (h3 : valZ S.L l = 0) (hr : r < S.cs.length) (hp : (clA S.cs r).pr = true) (hl : l ∈ (clA S.cs r).ls) (ho : ∀ y ∈ (clA S.cs r).ls, y ≠ l → Tr S.L (-y)) : Inv (setF S l r) := by
  obtain ⟨K, hs⟩ := h.sf
  have hget : ∀ j x, (S.L ++ [⟨l, S.le.length, (r : Int)⟩])[j]? = some x → S.L[j]? = some x ∨ (j = S.L.length ∧ x = ⟨l, S.le.length, (r : Int)⟩) := fun j x hx => by
    rcases Nat.lt_or_ge j S.L.length with e | e
    · rw [List.getElem?_append_left e] at hx; exact .inl hx
    · rw [List.getElem?_append_right e] at hx
      by_cases e2 : j = S.L.length
      · subst e2; rw [Nat.sub_self] at hx; simp at hx; exact .inr ⟨rfl, hx.symm⟩
      · rw [List.getElem?_eq_none (by simp; omega)] at hx; cases hx
  refine ⟨⟨K, setF_sf hs h1 h2 h3 r⟩, h.nd, h.i1, h.i2, h.i3, h.i4, fun i hi hpi hb => ?_, fun p i hi hpi k hk j x hj hx => ?_, fun k hk => ?_, fun j x hx hx0 => ?_⟩
  · rcases h.i5 i hi hpi hb with e | ⟨k, e1, e2, x, e3, e4⟩ | ⟨x, e3, e4⟩ | e
    · exact .inl e
    · exact .inr (.inl ⟨k, e1, e2, x, List.mem_append_left _ e3, e4⟩)
    · exact .inr (.inr (.inl ⟨x, List.mem_append_left _ e3, e4⟩))
    · exact .inr (.inr (.inr e))
  · have hjl : j < S.L.length := by
      have := h.vk_le k hk
      have := h.vi_le
      have : vk (setF S l r) k = vk S k := rfl
      omega
    have hx' : S.L[j]? = some x := by
      rcases hget j x hx with e | ⟨e, _⟩
      · exact e
      · omega
    obtain ⟨a, b⟩ := h.i6 p i hi hpi k hk j x hj hx'
    exact ⟨fun e => by obtain ⟨y, hy, q⟩ := a e; exact ⟨y, List.mem_append_left _ hy, q⟩, fun e => by obtain ⟨y, hy, q⟩ := b e; exact ⟨y, List.mem_append_left _ hy, q⟩⟩
  · have hk : k < S.le.length := hk
    have := h.i7 k hk
    refine ⟨this.1, ?_⟩
    show vk S k ≤ upTo (S.L ++ [_]) k
    rw [upTo_snoc _ _ _ hk]; exact this.2
  · rcases hget j x hx with e | ⟨e, rfl⟩
    · obtain ⟨r', q1, q2, q3, q4, q5⟩ := h.i8 j x e hx0
      refine ⟨r', q1, q2, q3, q4, fun y hy hne => ?_⟩
      have hj : j ≤ S.L.length := by
        rcases Nat.lt_or_ge j S.L.length with a | a
        · omega
        · rw [List.getElem?_eq_none a] at e; cases e
      show Tr ((S.L ++ [_]).take j) (-y)
      rw [List.take_append_of_le_length hj]; exact q5 y hy hne
    · refine ⟨r, rfl, hr, hp, hl, fun y hy hne => ?_⟩
      show Tr ((S.L ++ [_]).take j) (-y)
      rw [e, List.take_left]; exact ho y hy hne
/-- A clause's marks beside. -/
theorem inv_cs (h : Inv S) {cs' : List Cl} (hl : cs'.length = S.cs.length) (he : ∀ i, (clA cs' i).pr = (clA S.cs i).pr ∧ (clA cs' i).ls = (clA S.cs i).ls ∧ (clA cs' i).w0 = (clA S.cs i).w0 ∧ (clA cs' i).w1 = (clA S.cs i).w1) (hs : ∃ K, Sf { S with cs := cs' } K) : Inv { S with cs := cs' } := by
  refine ⟨hs, fun i hi => ?_, h.i1, h.i2, fun p i hi hp => ?_, h.i4, fun i hi hp hb => ?_, fun p i hi hp => ?_, h.i7, fun j x hx h0 => ?_⟩
  · show (clA cs' i).ls.Nodup
    rw [(he i).2.1]; exact h.nd i (by rw [← hl]; exact hi)
  · have hp : (clA cs' i).pr = true := hp
    rw [(he i).1] at hp
    show (p = plc (clA cs' i).w0 ∨ p = plc (clA cs' i).w1) ∧ (clA cs' i).w0 ≠ (clA cs' i).w1 ∧ (clA cs' i).w0 ∈ (clA cs' i).ls ∧ (clA cs' i).w1 ∈ (clA cs' i).ls ∧ i ∈ waA S.wa (plc (clA cs' i).w0) ∧ i ∈ waA S.wa (plc (clA cs' i).w1)
    rw [(he i).2.1, (he i).2.2.1, (he i).2.2.2]; exact h.i3 p i hi hp
  · have hp : (clA cs' i).pr = true := hp
    have hb : bothB (clA cs' i).ls = false := hb
    rw [(he i).1] at hp
    rw [(he i).2.1] at hb
    show i ∈ S.lo ∨ (∃ k, k < S.le.length ∧ i ∈ (leA S.le k).2 ∧ ∃ x ∈ S.L, x.l ∈ (clA cs' i).ls ∧ x.lv ≤ k + 1) ∨ (∃ x ∈ S.L, x.l ∈ (clA cs' i).ls ∧ x.lv = 0) ∨ (i ∈ waA S.wa (plc (clA cs' i).w0) ∧ i ∈ waA S.wa (plc (clA cs' i).w1))
    rw [(he i).2.1, (he i).2.2.1, (he i).2.2.2]; exact h.i5 i (by rw [← hl]; exact hi) hp hb
  · have hp : (clA cs' i).pr = true := hp
    rw [(he i).1] at hp
    show ∀ k, k ≤ S.le.length → ∀ j x, j < vk S k → S.L[j]? = some x → (x.l = -(clA cs' i).w0 → ∃ y ∈ S.L, y.l = (clA cs' i).w1 ∧ y.lv ≤ k) ∧ (x.l = -(clA cs' i).w1 → ∃ y ∈ S.L, y.l = (clA cs' i).w0 ∧ y.lv ≤ k)
    rw [(he i).2.2.1, (he i).2.2.2]; exact h.i6 p i hi hp
  · obtain ⟨r, q1, q2, q3, q4, q5⟩ := h.i8 j x hx h0
    refine ⟨r, q1, by show r < cs'.length; omega, by show (clA cs' r).pr = true; rw [(he r).1]; exact q3, ?_, ?_⟩
    · show x.l ∈ (clA cs' r).ls
      rw [(he r).2.1]; exact q4
    · show ∀ y ∈ (clA cs' r).ls, y ≠ x.l → Tr (S.L.take j) (-y)
      rw [(he r).2.1]; exact q5
theorem inv_next (h : Inv S) {id : Nat} (hi : id < S.cs.length) : Inv (nextF S id) := by
  obtain ⟨K, hs⟩ := h.sf
  refine inv_cs h (by simp) (fun i => ?_) ⟨K, nextF_sf hs hi⟩
  rw [clA_set hi]
  by_cases e : i = id
  · rw [if_pos e, e]; exact ⟨rfl, rfl, rfl, rfl⟩
  · rw [if_neg e]; exact ⟨rfl, rfl, rfl, rfl⟩
/-- A clause is watched anew. -/
theorem inv_watch (h : Inv S) {id : Nat} (hi : id < S.cs.length) (hp : (clA S.cs id).pr = true) {a b : Int} (hab : a ≠ b) (ha : a ∈ (clA S.cs id).ls) (hb : b ∈ (clA S.cs id).ls)
    (hv : ∀ k, k ≤ S.le.length → ∀ j x, j < vk S k → S.L[j]? = some x → x.l ≠ -a ∧ x.l ≠ -b) {wa' : List (List Nat)} {lo' : List Nat}
    (w1 : ∀ p, (waA wa' p).Nodup) (w2 : ∀ p i, i ≠ id → (i ∈ waA wa' p ↔ i ∈ waA S.wa p)) (w3 : ∀ p, id ∈ waA wa' p ↔ (p = plc a ∨ p = plc b)) (w4 : ∀ i, i ∈ lo' ↔ (i ∈ S.lo ∧ i ≠ id)) (w5 : (lo' ++ S.le.flatMap Prod.snd).Nodup) (w6 : id ∉ S.le.flatMap Prod.snd)
    (hs : ∃ K, Sf { S with cs := S.cs.set id { clA S.cs id with w0 := a, w1 := b }, wa := wa', lo := lo' } K) : Inv { S with cs := S.cs.set id { clA S.cs id with w0 := a, w1 := b }, wa := wa', lo := lo' } := by
  have hc : ∀ i, clA (S.cs.set id { clA S.cs id with w0 := a, w1 := b }) i = if i = id then { clA S.cs id with w0 := a, w1 := b } else clA S.cs i := fun i => clA_set hi _ i
  refine ⟨hs, fun i hi' => ?_, w5, w1, fun p i hm hpi => ?_, fun i hm p hin => ?_, fun i hi' hpi hbi => ?_, fun p i hm hpi k hk j x hj hx => ?_, h.i7, fun j x hx h0 => ?_⟩
  · simp only [List.length_set] at hi'
    show (clA (S.cs.set id _) i).ls.Nodup
    rw [hc]
    split
    · exact h.nd id hi
    · exact h.nd i hi'
  · have hm : i ∈ waA wa' p := hm
    have hpi : (clA (S.cs.set id { clA S.cs id with w0 := a, w1 := b }) i).pr = true := hpi
    show (p = plc (clA (S.cs.set id { clA S.cs id with w0 := a, w1 := b }) i).w0 ∨ p = plc (clA (S.cs.set id { clA S.cs id with w0 := a, w1 := b }) i).w1) ∧ (clA (S.cs.set id { clA S.cs id with w0 := a, w1 := b }) i).w0 ≠ (clA (S.cs.set id { clA S.cs id with w0 := a, w1 := b }) i).w1 ∧ (clA (S.cs.set id { clA S.cs id with w0 := a, w1 := b }) i).w0 ∈ (clA (S.cs.set id { clA S.cs id with w0 := a, w1 := b }) i).ls ∧ (clA (S.cs.set id { clA S.cs id with w0 := a, w1 := b }) i).w1 ∈ (clA (S.cs.set id { clA S.cs id with w0 := a, w1 := b }) i).ls ∧ i ∈ waA wa' (plc (clA (S.cs.set id { clA S.cs id with w0 := a, w1 := b }) i).w0) ∧ i ∈ waA wa' (plc (clA (S.cs.set id { clA S.cs id with w0 := a, w1 := b }) i).w1)
    rw [hc] at hpi ⊢
    by_cases e : i = id
    · rw [if_pos e]
      subst e
      exact ⟨(w3 p).1 hm, hab, ha, hb, (w3 _).2 (.inl rfl), (w3 _).2 (.inr rfl)⟩
    · rw [if_neg e] at hpi ⊢
      obtain ⟨a1, a2, a3, a4, a5, a6⟩ := h.i3 p i ((w2 p i e).1 hm) hpi
      exact ⟨a1, a2, a3, a4, (w2 _ i e).2 a5, (w2 _ i e).2 a6⟩
  · have hin : i ∈ waA wa' p := hin
    have hm : i ∈ lo' ++ S.le.flatMap Prod.snd := hm
    have hne : i ≠ id := by
      rintro rfl
      rcases List.mem_append.1 hm with e | e
      · exact ((w4 i).1 e).2 rfl
      · exact w6 e
    refine h.i4 i ?_ p ((w2 p i hne).1 hin)
    rcases List.mem_append.1 hm with e | e
    · exact List.mem_append_left _ ((w4 i).1 e).1
    · exact List.mem_append_right _ e
  · simp only [List.length_set] at hi'
    have hpi : (clA (S.cs.set id { clA S.cs id with w0 := a, w1 := b }) i).pr = true := hpi
    have hbi : bothB (clA (S.cs.set id { clA S.cs id with w0 := a, w1 := b }) i).ls = false := hbi
    show i ∈ lo' ∨ (∃ k, k < S.le.length ∧ i ∈ (leA S.le k).2 ∧ ∃ x ∈ S.L, x.l ∈ (clA (S.cs.set id { clA S.cs id with w0 := a, w1 := b }) i).ls ∧ x.lv ≤ k + 1) ∨ (∃ x ∈ S.L, x.l ∈ (clA (S.cs.set id { clA S.cs id with w0 := a, w1 := b }) i).ls ∧ x.lv = 0) ∨ (i ∈ waA wa' (plc (clA (S.cs.set id { clA S.cs id with w0 := a, w1 := b }) i).w0) ∧ i ∈ waA wa' (plc (clA (S.cs.set id { clA S.cs id with w0 := a, w1 := b }) i).w1))
    rw [hc] at hpi hbi ⊢
    by_cases e : i = id
    · rw [if_pos e]
      subst e
      exact .inr (.inr (.inr ⟨(w3 _).2 (.inl rfl), (w3 _).2 (.inr rfl)⟩))
    · rw [if_neg e] at hpi hbi ⊢
      rcases h.i5 i hi' hpi hbi with q | q | q | ⟨q1, q2⟩
      · exact .inl ((w4 i).2 ⟨q, e⟩)
      · exact .inr (.inl q)
      · exact .inr (.inr (.inl q))
      · exact .inr (.inr (.inr ⟨(w2 _ i e).2 q1, (w2 _ i e).2 q2⟩))
  · have hm : i ∈ waA wa' p := hm
    have hpi : (clA (S.cs.set id { clA S.cs id with w0 := a, w1 := b }) i).pr = true := hpi
    have hj : j < vk S k := hj
    have hk : k ≤ S.le.length := hk
    have hx : S.L[j]? = some x := hx
    show (x.l = -(clA (S.cs.set id { clA S.cs id with w0 := a, w1 := b }) i).w0 → ∃ y ∈ S.L, y.l = (clA (S.cs.set id { clA S.cs id with w0 := a, w1 := b }) i).w1 ∧ y.lv ≤ k) ∧ (x.l = -(clA (S.cs.set id { clA S.cs id with w0 := a, w1 := b }) i).w1 → ∃ y ∈ S.L, y.l = (clA (S.cs.set id { clA S.cs id with w0 := a, w1 := b }) i).w0 ∧ y.lv ≤ k)
    rw [hc] at hpi ⊢
    by_cases e : i = id
    · rw [if_pos e]
      have := hv k hk j x hj hx
      exact ⟨fun q => absurd q this.1, fun q => absurd q this.2⟩
    · rw [if_neg e] at hpi ⊢
      exact h.i6 p i ((w2 p i e).1 hm) hpi k hk j x hj hx
  · obtain ⟨r, q1, q2, q3, q4, q5⟩ := h.i8 j x hx h0
    refine ⟨r, q1, by simp only [List.length_set]; exact q2, ?_, ?_, ?_⟩
    · show (clA (S.cs.set id _) r).pr = true
      rw [hc]; split
      · exact hp
      · exact q3
    · show x.l ∈ (clA (S.cs.set id _) r).ls
      rw [hc]; split
      · rename_i e; subst e; exact q4
      · exact q4
    · show ∀ y ∈ (clA (S.cs.set id _) r).ls, y ≠ x.l → Tr (S.L.take j) (-y)
      rw [hc]; split
      · rename_i e; subst e; exact q5
      · exact q5
end
end Go.Proofs.YtkckodpfhlpkgaaGreat
namespace Go.Proofs.YtkckodpfhlpkgaaGreat
open LitM TrailM EngM

/-- A clause that is false. -/
def Conf (S : Eng) (c : Int) : Prop := ∃ id : Nat, c = (id : Int) ∧ id < S.cs.length ∧ (clA S.cs id).pr = true ∧ ∀ y ∈ (clA S.cs id).ls, Tr S.L (-y)
/-- What propagating leaves as it was: clauses; what was true; and what is new is no decision. -/
structure Ker (S S' : Eng) : Prop where
  n : S'.n = S.n
  cs : S'.cs.length = S.cs.length
  cl : ∀ i, (clA S'.cs i).pr = (clA S.cs i).pr ∧ (clA S'.cs i).ls = (clA S.cs i).ls
  wa : S'.wa.length = S.wa.length
  le : S'.le.length = S.le.length
  L : ∃ M, S'.L = S.L ++ M ∧ ∀ x ∈ M, 0 ≤ x.rs ∧ x.lv = S.le.length
theorem Ker.refl (S : Eng) : Ker S S := ⟨rfl, rfl, fun _ => ⟨rfl, rfl⟩, rfl, rfl, [], by simp, by simp⟩
theorem Ker.trans {A B C : Eng} (h : Ker A B) (k : Ker B C) : Ker A C := by
  obtain ⟨M, h1, h2⟩ := h.L
  obtain ⟨N, k1, k2⟩ := k.L
  refine ⟨k.n.trans h.n, k.cs.trans h.cs, fun i => ⟨(k.cl i).1.trans (h.cl i).1, (k.cl i).2.trans (h.cl i).2⟩, k.wa.trans h.wa, k.le.trans h.le, M ++ N, by rw [k1, h1, List.append_assoc], fun x hx => ?_⟩
  rcases List.mem_append.1 hx with e | e
  · exact h2 x e
  · have := k2 x e
    rw [h.le] at this; exact this
theorem Ker.tr {A B : Eng} (h : Ker A B) {y : Int} (ht : Tr A.L y) : Tr B.L y := by
  obtain ⟨M, h1, _⟩ := h.L
  rw [h1]; exact tr_app ht
section
variable {S : Eng}
theorem ker_cs (S : Eng) {id : Nat} (hi : id < S.cs.length) {c : Cl} (h1 : c.pr = (clA S.cs id).pr) (h2 : c.ls = (clA S.cs id).ls) : Ker S { S with cs := S.cs.set id c } := by
  refine ⟨rfl, by simp, fun i => ?_, rfl, rfl, [], by simp, by simp⟩
  show (clA (S.cs.set id c) i).pr = _ ∧ (clA (S.cs.set id c) i).ls = _
  rw [clA_set hi]
  split
  · rename_i e; subst e; exact ⟨h1, h2⟩
  · exact ⟨rfl, rfl⟩
theorem ker_rew (S : Eng) {id : Nat} (hi : id < S.cs.length) (x y : Int) : Ker S (rewatch S id x y) := ker_cs S hi (c := { clA S.cs id with w0 := x, w1 := y }) rfl rfl
theorem ker_next {id : Nat} (hi : id < S.cs.length) : Ker S (nextF S id) := ker_cs S hi rfl rfl
theorem ker_set (S : Eng) (l : Int) (r : Nat) : Ker S (setF S l r) := ⟨rfl, rfl, fun _ => ⟨rfl, rfl⟩, rfl, rfl, [⟨l, S.le.length, (r : Int)⟩], rfl, fun x hx => by
  have : x = ⟨l, S.le.length, (r : Int)⟩ := by simpa using hx
  subst this; exact ⟨by simp, rfl⟩⟩
theorem ker_try (S : Eng) (l : Int) (r : Nat) : Ker S (trySet S l r) := by unfold trySet; split; exact ker_set S l r; exact Ker.refl S
theorem ker_due (S : Eng) (id : Nat) (lv : Int) : Ker S (dueF S id lv) := by
  unfold dueF
  split
  · exact ⟨rfl, rfl, fun _ => ⟨rfl, rfl⟩, rfl, by simp, [], by simp, by simp⟩
  · exact Ker.refl S
theorem ker_wa (S : Eng) (p : Nat) (X : List Nat) : Ker S (setWa S p X) := ⟨rfl, rfl, fun _ => ⟨rfl, rfl⟩, by simp [setWa], rfl, [], by simp [setWa], by simp⟩
theorem ker_lo (S : Eng) (X : List Nat) : Ker S { S with lo := X } := ⟨rfl, rfl, fun _ => ⟨rfl, rfl⟩, rfl, rfl, [], by simp, by simp⟩
theorem ker_watch (S : Eng) (id : Nat) (l : Int) : Ker S (watchF S id l) := ker_wa S _ _
theorem ker_fast {id : Nat} (hi : id < S.cs.length) : Ker S (fastF S id).1 := by
  unfold fastF
  split
  · exact Ker.refl S
  · split
    · exact Ker.refl S
    · exact (ker_try S _ _).trans (ker_due _ _ _)
    · exact ((ker_rew S hi _ _).trans (ker_watch _ _ _)).trans (ker_watch _ _ _)
theorem ker_tell {id : Nat} (hi : id < S.cs.length) (wrong : Int) : Ker S (tellF S id wrong).1 := by
  unfold tellF
  split
  · exact Ker.refl S
  · split
    · exact Ker.refl S
    · split
      · refine ((ker_next hi).trans (ker_rew (nextF S id) (by simp [nextF]; exact hi) _ _)).trans (ker_watch _ _ _)
      · split
        · exact (ker_next hi).trans (ker_set _ _ _)
        · exact ker_next hi
theorem lo_tail {id : Nat} {r : List Nat} (h : Inv S) (hlo : S.lo = id :: r) : id ∉ r ∧ id ∉ S.le.flatMap Prod.snd ∧ (r ++ S.le.flatMap Prod.snd).Nodup ∧ ∀ p, id ∉ waA S.wa p := by
  have h1 := h.i1
  rw [hlo, List.cons_append, List.nodup_cons] at h1
  refine ⟨fun e => h1.1 (List.mem_append_left _ e), fun e => h1.1 (List.mem_append_right _ e), h1.2, fun p => h.i4 id (by rw [hlo]; simp) p⟩
/-- A clause that was removed isn't loose any more. -/
theorem inv_gone (h : Inv S) {id : Nat} {r : List Nat} (hlo : S.lo = id :: r) (hp : (clA S.cs id).pr = false) : Inv { S with lo := r } := by
  obtain ⟨K, hs⟩ := h.sf
  obtain ⟨_, _, n3, _⟩ := lo_tail h hlo
  refine ⟨⟨K, ⟨hs.n, hs.cl, hs.cn, fun i hi => hs.lo i (by rw [hlo]; exact List.mem_cons_of_mem _ hi), by have := hs.ln; rw [hlo] at this; simp at this; show r.length ≤ K; omega, hs.wa, hs.wn, hs.wl, hs.le, hs.en, hs.vi, hs.ok⟩⟩, h.nd, n3, h.i2, h.i3, fun i hi => h.i4 i (by
    rw [hlo]
    rcases List.mem_append.1 hi with e | e
    · exact List.mem_append_left _ (List.mem_cons_of_mem _ e)
    · exact List.mem_append_right _ e), fun i hi hpi hb => ?_, h.i6, h.i7, h.i8⟩
  have hpi : (clA S.cs i).pr = true := hpi
  rcases h.i5 i hi hpi hb with e | e
  · rw [hlo] at e
    rcases List.mem_cons.1 e with q | q
    · subst q; rw [hp] at hpi; cases hpi
    · exact .inl q
  · exact .inr e
theorem flat_set {le : List (Nat × List Nat)} {k id : Nat} (hk : k < le.length) : List.Perm ((le.set k ((leA le k).1, (leA le k).2 ++ [id])).flatMap Prod.snd) (id :: le.flatMap Prod.snd) := by
  induction le generalizing k with
  | nil => simp at hk
  | cons x le ih =>
    cases k with
    | zero =>
      show List.Perm (((x.1, x.2 ++ [id]) :: le).flatMap Prod.snd) _
      rw [List.flatMap_cons, List.flatMap_cons]
      show List.Perm ((x.2 ++ [id]) ++ le.flatMap Prod.snd) _
      rw [List.append_assoc]
      exact List.perm_middle
    | succ k =>
      have hk : k < le.length := by simpa using hk
      show List.Perm ((x :: le.set k ((leA le k).1, (leA le k).2 ++ [id])).flatMap Prod.snd) _
      rw [List.flatMap_cons, List.flatMap_cons]
      exact ((ih hk).append_left x.2).trans List.perm_middle
/-- A clause that holds by a literal of a level alone. -/
theorem inv_due (h : Inv S) {id : Nat} {r : List Nat} (hlo : S.lo = id :: r) {x : Ent} (hx : x ∈ S.L) (hxl : x.l ∈ (clA S.cs id).ls) : Inv { dueF S id (x.lv : Int) with lo := r } := by
  obtain ⟨K, hs⟩ := h.sf
  obtain ⟨n1, n2, n3, n4⟩ := lo_tail h hlo
  have hlv := (h.pre.one x hx).2.2
  have hidl : id < S.cs.length := hs.lo id (by rw [hlo]; simp)
  by_cases h0 : x.lv = 0
  · have hd : dueF S id (x.lv : Int) = S := by unfold dueF; rw [if_neg (by omega)]
    rw [hd]
    refine ⟨⟨K, ⟨hs.n, hs.cl, hs.cn, fun i hi => hs.lo i (by rw [hlo]; exact List.mem_cons_of_mem _ hi), by have := hs.ln; rw [hlo] at this; simp at this; show r.length ≤ K; omega, hs.wa, hs.wn, hs.wl, hs.le, hs.en, hs.vi, hs.ok⟩⟩, h.nd, n3, h.i2, h.i3, fun i hi => h.i4 i (by
      rw [hlo]
      rcases List.mem_append.1 hi with e | e
      · exact List.mem_append_left _ (List.mem_cons_of_mem _ e)
      · exact List.mem_append_right _ e), fun i hi hpi hb => ?_, h.i6, h.i7, h.i8⟩
    rcases h.i5 i hi hpi hb with e | e
    · rw [hlo] at e
      rcases List.mem_cons.1 e with q | q
      · subst q; exact .inr (.inr (.inl ⟨x, hx, hxl, h0⟩))
      · exact .inl q
    · exact .inr e
  · obtain ⟨k, hk⟩ : ∃ k, x.lv = k + 1 := ⟨x.lv - 1, by omega⟩
    have hkl : k < S.le.length := by omega
    have hd : dueF S id (x.lv : Int) = { S with le := S.le.set k ((leA S.le k).1, (leA S.le k).2 ++ [id]) } := by
      unfold dueF
      rw [if_pos (by omega), show ((x.lv : Int)).toNat - 1 = k from by omega]
    have hsf : Sf (dueF S id (x.lv : Int)) (K + 1) := dueF_sf hs hidl _ (by omega)
    rw [hd] at hsf ⊢
    have hlen : (S.le.set k ((leA S.le k).1, (leA S.le k).2 ++ [id])).length = S.le.length := by simp
    have hvk : ∀ k', vk { S with le := S.le.set k ((leA S.le k).1, (leA S.le k).2 ++ [id]), lo := r } k' = vk S k' := fun k' => by
      unfold vk
      simp only [hlen]
      split
      · rw [leA_set hkl]
        split
        · rename_i e; subst e; rfl
        · rfl
      · rfl
    have hmem : ∀ i, i ∈ (S.le.set k ((leA S.le k).1, (leA S.le k).2 ++ [id])).flatMap Prod.snd ↔ (i = id ∨ i ∈ S.le.flatMap Prod.snd) := fun i => by
      rw [(flat_set hkl).mem_iff, List.mem_cons]
    refine ⟨⟨K + 1, ⟨hsf.n, hsf.cl, hsf.cn, fun i hi => hs.lo i (by rw [hlo]; exact List.mem_cons_of_mem _ hi), by have := hs.ln; rw [hlo] at this; simp at this; show r.length ≤ K + 1; omega, hsf.wa, hsf.wn, hsf.wl, hsf.le, hsf.en, hsf.vi, hsf.ok⟩⟩, h.nd, ?_, h.i2, h.i3, fun i hi p => ?_, fun i hi hpi hb => ?_, fun p i hi hpi k' hk' j y hj hy => ?_, fun k' hk' => ?_, h.i8⟩
    · have : List.Perm (r ++ (S.le.set k ((leA S.le k).1, (leA S.le k).2 ++ [id])).flatMap Prod.snd) (id :: (r ++ S.le.flatMap Prod.snd)) := ((flat_set hkl).append_left r).trans List.perm_middle
      rw [this.nodup_iff, List.nodup_cons]
      exact ⟨fun e => (List.mem_append.1 e).elim n1 n2, n3⟩
    · rcases List.mem_append.1 hi with e | e
      · exact h.i4 i (by rw [hlo]; exact List.mem_append_left _ (List.mem_cons_of_mem _ e)) p
      · rcases (hmem i).1 e with q | q
        · subst q; exact n4 p
        · exact h.i4 i (List.mem_append_right _ q) p
    · show i ∈ r ∨ (∃ k', k' < (S.le.set k ((leA S.le k).1, (leA S.le k).2 ++ [id])).length ∧ i ∈ (leA (S.le.set k ((leA S.le k).1, (leA S.le k).2 ++ [id])) k').2 ∧ ∃ x ∈ S.L, x.l ∈ (clA S.cs i).ls ∧ x.lv ≤ k' + 1) ∨ (∃ x ∈ S.L, x.l ∈ (clA S.cs i).ls ∧ x.lv = 0) ∨ (i ∈ waA S.wa (plc (clA S.cs i).w0) ∧ i ∈ waA S.wa (plc (clA S.cs i).w1))
      by_cases e : i = id
      · subst e
        refine .inr (.inl ⟨k, by rw [hlen]; exact hkl, ?_, x, hx, hxl, by omega⟩)
        rw [leA_set hkl, if_pos rfl]; simp
      · rcases h.i5 i hi hpi hb with q | ⟨k', q1, q2, q3⟩ | q | q
        · rw [hlo] at q
          rcases List.mem_cons.1 q with q | q
          · exact absurd q e
          · exact .inl q
        · refine .inr (.inl ⟨k', by rw [hlen]; exact q1, ?_, q3⟩)
          rw [leA_set hkl]
          split
          · rename_i e2; subst e2; exact List.mem_append_left _ q2
          · exact q2
        · exact .inr (.inr (.inl q))
        · exact .inr (.inr (.inr q))
    · rw [hvk] at hj
      exact h.i6 p i hi hpi k' (by rw [← hlen]; exact hk') j y hj hy
    · rw [hvk, hvk]
      exact h.i7 k' (by rw [← hlen]; exact hk')
theorem nf_mem {L : List Ent} {ls : List Int} {y : Int} : y ∈ nf L ls ↔ y ∈ ls ∧ valZ L y ≠ -1 := by
  unfold nf
  rw [List.mem_filter]; simp
/-- A loose clause is looked at. -/
theorem inv_fast (h : Inv S) {id : Nat} {r : List Nat} (hlo : S.lo = id :: r) (hwa : S.wa.length = 2 * (S.n + 1)) :
    ((fastF S id).2 = true → Inv { (fastF S id).1 with lo := r }) ∧ ((fastF S id).2 = false → (fastF S id).1 = S ∧ Conf S (id : Int)) := by
  obtain ⟨K, hs⟩ := h.sf
  obtain ⟨n1, n2, n3, n4⟩ := lo_tail h hlo
  have hidl : id < S.cs.length := hs.lo id (by rw [hlo]; simp)
  have hls := h.ls hidl
  have hplc : ∀ l : Int, LitM.one l = true ∧ varZ l ≤ S.n → plc l < S.wa.length := fun l hl => plc_lt hl (by omega)
  have hsf := fastF_sf hs hidl hplc
  cases hp : (clA S.cs id).pr with
  | false =>
    have hR : fastF S id = (S, true) := by unfold fastF; rw [if_pos hp]
    rw [hR]
    exact ⟨fun _ => inv_gone h hlo hp, fun e => by cases e⟩
  | true =>
    have hR : fastF S id = match nf S.L (clA S.cs id).ls with
      | [] => (S, false)
      | [f] => (dueF (trySet S f id) id (levZ (trySet S f id).L (varZ f)), true)
      | f :: s :: _ => (watchF (watchF { S with cs := S.cs.set id { clA S.cs id with w0 := f, w1 := s } } id f) id s, true) := by unfold fastF; rw [if_neg (by rw [hp]; simp)]; rfl
    cases hf : nf S.L (clA S.cs id).ls with
    | nil =>
      rw [hf] at hR
      rw [hR]
      refine ⟨fun e => (by cases e), fun _ => ⟨rfl, id, rfl, hidl, hp, fun y hy => ?_⟩⟩
      rw [← val_neg h.pre (hls y hy).1]
      by_cases e : valZ S.L y = -1
      · exact e
      · have : y ∈ nf S.L (clA S.cs id).ls := nf_mem.2 ⟨hy, e⟩
        rw [hf] at this; cases this
    | cons f t =>
      obtain ⟨m1, v1⟩ := nf_mem.1 (show f ∈ nf S.L (clA S.cs id).ls by rw [hf]; simp)
      cases t with
      | nil =>
        rw [hf] at hR
        have hothers : ∀ y ∈ (clA S.cs id).ls, y ≠ f → Tr S.L (-y) := fun y hy hne => by
          rw [← val_neg h.pre (hls y hy).1]
          by_cases e : valZ S.L y = -1
          · exact e
          · have : y ∈ nf S.L (clA S.cs id).ls := nf_mem.2 ⟨hy, e⟩
            rw [hf] at this
            exact absurd (by simpa using this) hne
        have key : Inv (trySet S f id) ∧ (trySet S f id).lo = id :: r ∧ (trySet S f id).cs = S.cs ∧ ∃ x ∈ (trySet S f id).L, x.l = f := by
          unfold trySet
          split
          · rename_i hv
            exact ⟨inv_set h (hls f m1).1 (hls f m1).2 hv hidl hp m1 hothers, hlo, rfl, ⟨f, S.le.length, (id : Int)⟩, by simp [setF], rfl⟩
          · rename_i hv
            have : valZ S.L f = 1 := by
              unfold valZ at v1 hv ⊢
              split at v1 <;> simp_all
            exact ⟨h, hlo, rfl, (val_one h.pre).1 this⟩
        obtain ⟨k1, k2, k3, x, k4, k5⟩ := key
        have hlev : levZ (trySet S f id).L (varZ f) = (x.lv : Int) := by
          have := k1.pre.find k4
          rw [k5] at this
          unfold levZ; rw [this]
        rw [hR]
        simp only [hlev]
        exact ⟨fun _ => inv_due k1 k2 k4 (by rw [k3, k5]; exact m1), fun e => by cases e⟩
      | cons s t =>
        obtain ⟨m2, v2⟩ := nf_mem.1 (show s ∈ nf S.L (clA S.cs id).ls by rw [hf]; simp)
        have hne : f ≠ s := by
          have : (nf S.L (clA S.cs id).ls).Nodup := (h.nd id hidl).sublist List.filter_sublist
          rw [hf, List.nodup_cons] at this
          intro e; exact this.1 (by rw [e]; simp)
        rw [hf] at hR
        rw [hR] at hsf ⊢
        have p1 := hplc f (hls f m1)
        have p2 := hplc s (hls s m2)
        have hpn : plc f ≠ plc s := fun e => hne (plc_inj (hls f m1).1 (hls s m2).1 e)
        have hwv : ∀ p, waA ((S.wa.set (plc f) (waA S.wa (plc f) ++ [id])).set (plc s) (waA (S.wa.set (plc f) (waA S.wa (plc f) ++ [id])) (plc s) ++ [id])) p = if p = plc s then waA S.wa (plc s) ++ [id] else if p = plc f then waA S.wa (plc f) ++ [id] else waA S.wa p := fun p => by
          rw [waA_set (by simpa using p2), waA_set p1, waA_set p1]
          split
          · rw [if_neg (fun e => hpn e.symm)]
          · rfl
        refine ⟨fun _ => ?_, fun e => by cases e⟩
        have hnod : ∀ p, (waA S.wa p ++ [id]).Nodup := fun p => by
          rw [List.nodup_append]
          exact ⟨h.i2 p, by simp, fun a ha b hb e => by
            have : b = id := by simpa using hb
            subst this; subst e; exact n4 p ha⟩
        refine inv_watch h hidl hp hne m1 m2 (fun k hk j x hj hx => ⟨fun e => ?_, fun e => ?_⟩) (fun p => ?_) (fun p i hi => ?_) (fun p => ?_) (fun i => ?_) n3 n2 ⟨K + 2, ?_⟩
        · exact v1 ((val_neg h.pre (hls f m1).1).2 ⟨x, List.mem_of_getElem? hx, e⟩)
        · exact v2 ((val_neg h.pre (hls s m2).1).2 ⟨x, List.mem_of_getElem? hx, e⟩)
        · show (waA ((S.wa.set (plc f) (waA S.wa (plc f) ++ [id])).set (plc s) (waA (S.wa.set (plc f) (waA S.wa (plc f) ++ [id])) (plc s) ++ [id])) p).Nodup
          rw [hwv]
          split
          · exact hnod _
          · split
            · exact hnod _
            · exact h.i2 p
        · show i ∈ waA ((S.wa.set (plc f) (waA S.wa (plc f) ++ [id])).set (plc s) (waA (S.wa.set (plc f) (waA S.wa (plc f) ++ [id])) (plc s) ++ [id])) p ↔ _
          rw [hwv]
          split
          · rename_i e; rw [e, List.mem_append]; simp [hi]
          · split
            · rename_i e; rw [e, List.mem_append]; simp [hi]
            · exact Iff.rfl
        · show id ∈ waA ((S.wa.set (plc f) (waA S.wa (plc f) ++ [id])).set (plc s) (waA (S.wa.set (plc f) (waA S.wa (plc f) ++ [id])) (plc s) ++ [id])) p ↔ _
          rw [hwv]
          split
          · rename_i e; simp [e]
          · split
            · rename_i e; simp [e]
            · rename_i e1 e2
              constructor
              · intro e; exact absurd e (n4 p)
              · rintro (e | e)
                · exact absurd e e2
                · exact absurd e e1
        · rw [hlo, List.mem_cons]
          constructor
          · intro e; exact ⟨.inr e, fun q => n1 (q ▸ e)⟩
          · rintro ⟨e | e, q⟩
            · exact absurd e q
            · exact e
        · exact ⟨hsf.n, hsf.cl, hsf.cn, fun i hi => by
            have := hs.lo i (by rw [hlo]; exact List.mem_cons_of_mem _ hi)
            show i < (S.cs.set id _).length
            simp only [List.length_set]; exact this, by have := hs.ln; rw [hlo] at this; simp at this; show r.length ≤ K + 2; omega, hsf.wa, hsf.wn, hsf.wl, hsf.le, hsf.en, hsf.vi, hsf.ok⟩
theorem fastF_lo (S : Eng) (id : Nat) (X : List Nat) : fastF { S with lo := X } id = ({ (fastF S id).1 with lo := X }, (fastF S id).2) := by
  unfold fastF
  simp only
  split
  · rfl
  · split
    · rfl
    · unfold trySet dueF setF
      simp only
      split <;> (try split) <;> rfl
    · rfl
theorem settF_lo : ∀ (l : List Nat) (S : Eng) (X : List Nat), settF l { S with lo := X } = settF l S
  | [], S, X => rfl
  | id :: r, S, X => by
    rw [settF_cons, settF_cons, fastF_lo]
    simp only
    rw [settF_lo r]
theorem inv_sett : ∀ (l : List Nat) (S : Eng), Inv S → S.lo = l → S.wa.length = 2 * (S.n + 1) →
    Inv (settF l S).1 ∧ Ker S (settF l S).1 ∧ (settF l S).1.vi = S.vi ∧ (((settF l S).2 = -1 ∧ (settF l S).1.lo = []) ∨ Conf (settF l S).1 (settF l S).2)
  | [], S, h, hlo, _ => by
    have e : settF [] S = (S, -1) := by
      show ({ S with lo := [] }, (-1 : Int)) = (S, -1)
      rw [← hlo]
    rw [e]
    exact ⟨h, Ker.refl S, rfl, .inl ⟨rfl, hlo⟩⟩
  | id :: r, S, h, hlo, hwa => by
    obtain ⟨K, hs⟩ := h.sf
    have hidl : id < S.cs.length := hs.lo id (by rw [hlo]; simp)
    have hf := inv_fast h hlo hwa
    have hk := ker_fast hidl
    have hv := (fastF_kep S id).vi
    rw [settF_cons]
    cases hb : (fastF S id).2 with
    | true =>
      rw [if_pos rfl]
      have hi := hf.1 hb
      have := inv_sett r { (fastF S id).1 with lo := r } hi rfl (by show (fastF S id).1.wa.length = 2 * ((fastF S id).1.n + 1); rw [hk.wa, hk.n]; exact hwa)
      rw [settF_lo] at this
      obtain ⟨a, b, c, d⟩ := this
      exact ⟨a, (hk.trans (ker_lo _ r)).trans b, c.trans hv, d⟩
    | false =>
      rw [if_neg (by simp)]
      obtain ⟨e1, e2⟩ := hf.2 hb
      rw [e1]
      have e3 : ({ S with lo := id :: r } : Eng) = S := by rw [← hlo]
      rw [e3]
      exact ⟨h, Ker.refl S, rfl, .inr e2⟩
end
end Go.Proofs.YtkckodpfhlpkgaaGreat
namespace Go.Proofs.YtkckodpfhlpkgaaGreat
open LitM TrailM EngM

section
variable {S : Eng}
theorem not_not {l : Int} : - -l = l := by omega
/-- A place's list without a clause that was removed. -/
theorem inv_less (h : Inv S) {p id : Nat} {a b : List Nat} (hw : waA S.wa p = a ++ id :: b) (hp : (clA S.cs id).pr = false) : Inv (setWa S p (a ++ b)) := by
  obtain ⟨K, hs⟩ := h.sf
  have hpl : p < S.wa.length := wa_lt (i := id) (by rw [hw]; simp)
  have hsub : (a ++ b).Sublist (waA S.wa p) := by rw [hw]; exact (List.sublist_cons_self id b).append_left a
  have hv : ∀ r, waA (setWa S p (a ++ b)).wa r = if r = p then a ++ b else waA S.wa r := fun r => waA_set hpl _ r
  have hin : ∀ r i, i ∈ waA (setWa S p (a ++ b)).wa r → i ∈ waA S.wa r := fun r i hi => by
    rw [hv] at hi
    split at hi
    · rename_i e; subst e; exact hsub.subset hi
    · exact hi
  have hback : ∀ r i, i ≠ id → i ∈ waA S.wa r → i ∈ waA (setWa S p (a ++ b)).wa r := fun r i hne hi => by
    rw [hv]
    split
    · rename_i e; subst e
      rw [hw] at hi
      rcases List.mem_append.1 hi with q | q
      · exact List.mem_append_left _ q
      · rcases List.mem_cons.1 q with q | q
        · exact absurd q hne
        · exact List.mem_append_right _ q
    · exact hi
  have hne : ∀ i, (clA S.cs i).pr = true → i ≠ id := fun i hi e => by subst e; rw [hp] at hi; cases hi
  refine ⟨⟨K, setWa_sf hs hpl (fun i hi => hs.wa p hpl i (hsub.subset hi)) (Nat.le_trans hsub.length_le (hs.wn p hpl))⟩, h.nd, h.i1, fun r => ?_, fun r i hi hpi => ?_, fun i hi r hm => h.i4 i hi r (hin r i hm), fun i hi hpi hb => ?_, fun r i hi => h.i6 r i (hin r i hi), h.i7, h.i8⟩
  · rw [hv]
    split
    · exact (h.i2 p).sublist hsub
    · exact h.i2 r
  · obtain ⟨a1, a2, a3, a4, a5, a6⟩ := h.i3 r i (hin r i hi) hpi
    exact ⟨a1, a2, a3, a4, hback _ i (hne i hpi) a5, hback _ i (hne i hpi) a6⟩
  · rcases h.i5 i hi hpi hb with q | q | q | ⟨q1, q2⟩
    · exact .inl q
    · exact .inr (.inl q)
    · exact .inr (.inr (.inl q))
    · exact .inr (.inr (.inr ⟨hback _ i (hne i hpi) q1, hback _ i (hne i hpi) q2⟩))
/-- The other literal that a clause watches. -/
theorem other_cases {c : Cl} {wrong : Int} (h : wrong = c.w0 ∨ wrong = c.w1) (hne : c.w0 ≠ c.w1) : (wrong = c.w0 ∧ otherW c wrong = c.w1) ∨ (wrong = c.w1 ∧ otherW c wrong = c.w0) := by
  unfold otherW
  rcases h with e | e
  · left; rw [if_pos e.symm]; exact ⟨e, rfl⟩
  · right; rw [if_neg (fun q => hne (q.trans e))]; exact ⟨e, rfl⟩
/-- A clause is told. -/
theorem inv_tell (h : Inv S) {p id : Nat} {a b : List Nat} (hw : waA S.wa p = a ++ id :: b) {wrong : Int} (hw1 : LitM.one wrong = true) (hp : p = plc wrong) (hfa : Tr S.L (-wrong)) (hwa : S.wa.length = 2 * (S.n + 1)) :
    ((tellF S id wrong).2 = 0 → Inv (tellF S id wrong).1 ∧ ((clA S.cs id).pr = true → Tr (tellF S id wrong).1.L (otherW (clA (tellF S id wrong).1.cs id) wrong)) ∧ waA (tellF S id wrong).1.wa p = a ++ id :: b) ∧
    ((tellF S id wrong).2 = 1 → Inv (setWa (tellF S id wrong).1 p (a ++ b))) ∧
    ((tellF S id wrong).2 = 2 → Inv (tellF S id wrong).1 ∧ Conf (tellF S id wrong).1 (id : Int) ∧ waA (tellF S id wrong).1.wa p = a ++ id :: b) := by
  obtain ⟨K, hs⟩ := h.sf
  have hpl : p < S.wa.length := wa_lt (i := id) (by rw [hw]; simp)
  have hmem : id ∈ waA S.wa p := by rw [hw]; simp
  have hidl : id < S.cs.length := hs.wa p hpl id hmem
  have hls := h.ls hidl
  cases hpr : (clA S.cs id).pr with
  | false =>
    have hR : tellF S id wrong = (S, 1) := by unfold tellF; rw [if_pos hpr]
    rw [hR]
    exact ⟨fun e => (by simp at e), fun _ => inv_less h hw hpr, fun e => (by simp at e)⟩
  | true =>
    obtain ⟨i3a, i3b, i3c, i3d, i3e, i3f⟩ := h.i3 p id hmem hpr
    have hwr : wrong = (clA S.cs id).w0 ∨ wrong = (clA S.cs id).w1 := by
      rw [hp] at i3a
      rcases i3a with e | e
      · exact .inl (plc_inj hw1 (hls _ i3c).1 e)
      · exact .inr (plc_inj hw1 (hls _ i3d).1 e)
    have hoc := other_cases hwr i3b
    have hom : otherW (clA S.cs id) wrong ∈ (clA S.cs id).ls := by
      rcases hoc with ⟨_, e⟩ | ⟨_, e⟩ <;> rw [e] <;> assumption
    have hT : tellF S id wrong = if valZ S.L (otherW (clA S.cs id) wrong) = 1 then (S, 0) else if anoL S id ≠ 0 then (watchF (rewatch (nextF S id) id (otherW (clA S.cs id) wrong) (anoL S id)) id (anoL S id), 1) else if valZ S.L (otherW (clA S.cs id) wrong) = 0 then (setF (nextF S id) (otherW (clA S.cs id) wrong) id, 0) else (nextF S id, 2) := by
      conv => lhs; unfold tellF
      rw [if_neg (by rw [hpr]; simp)]
    have hon := hls _ hom
    have hnx := inv_next h hidl
    have hncl : clA (nextF S id).cs id = { clA S.cs id with nx := (anoF S.L (clA S.cs id) (clA S.cs id).ls.length (clA S.cs id).nx).1 } := nextF_at hidl
    have hothers : anoL S id = 0 → ∀ y ∈ (clA S.cs id).ls, y ≠ otherW (clA S.cs id) wrong → Tr S.L (-y) := fun hz y hy hne => by
      by_cases e : y = wrong
      · subst e; exact hfa
      · have hfit := anoF_all (c := clA S.cs id) (L := S.L) (fun x hx e => by have := (one_iff x).1 (hls x hx).1; omega) (hs.cl id hidl).2.1 hz y hy
        have y0 : y ≠ (clA S.cs id).w0 ∧ y ≠ (clA S.cs id).w1 := by
          rcases hoc with ⟨q1, q2⟩ | ⟨q1, q2⟩
          · exact ⟨fun q => e (q.trans q1.symm), fun q => hne (q.trans q2.symm)⟩
          · exact ⟨fun q => hne (q.trans q2.symm), fun q => e (q.trans q1.symm)⟩
        unfold fitB at hfit
        rw [decide_eq_true y0.1, decide_eq_true y0.2] at hfit
        rw [← val_neg h.pre (hls y hy).1]
        simpa using hfit
    by_cases hv1 : valZ S.L (otherW (clA S.cs id) wrong) = 1
    · rw [if_pos hv1] at hT
      rw [hT]
      exact ⟨fun _ => ⟨h, fun _ => (val_one h.pre).1 hv1, hw⟩, fun e => (by simp at e), fun e => (by simp at e)⟩
    · rw [if_neg hv1] at hT
      by_cases hz : anoL S id = 0
      · rw [if_neg (by simpa using hz)] at hT
        by_cases hv0 : valZ S.L (otherW (clA S.cs id) wrong) = 0
        · rw [if_pos hv0] at hT
          rw [hT]
          refine ⟨fun _ => ⟨inv_set hnx hon.1 hon.2 hv0 (by simp [nextF]; exact hidl) (by rw [hncl]; exact hpr) (by rw [hncl]; exact hom) (by rw [hncl]; exact hothers hz), fun _ => ?_, hw⟩, fun e => (by simp at e), fun e => (by simp at e)⟩
          show Tr (S.L ++ [_]) (otherW (clA (nextF S id).cs id) wrong)
          rw [hncl]
          exact ⟨_, List.mem_append_right _ (List.mem_singleton.2 rfl), rfl⟩
        · rw [if_neg hv0] at hT
          rw [hT]
          refine ⟨fun e => (by simp at e), fun e => (by simp at e), fun _ => ⟨hnx, ⟨id, rfl, by simp [nextF]; exact hidl, by rw [hncl]; exact hpr, ?_⟩, hw⟩⟩
          rw [hncl]
          intro y hy
          by_cases e : y = otherW (clA S.cs id) wrong
          · rw [e]
            show Tr S.L _
            rw [← val_neg h.pre hon.1]
            unfold valZ at hv0 hv1 ⊢
            split at hv0 <;> simp_all
          · exact hothers hz y hy e
      · rw [if_pos hz] at hT
        rw [hT]
        refine ⟨fun e => (by simp at e), fun _ => ?_, fun e => (by simp at e)⟩
        rcases anoL_in hs hidl with e | ⟨hal, hfit⟩
        · exact absurd e hz
        · unfold fitB at hfit
          simp only [Bool.and_eq_true, decide_eq_true_eq] at hfit
          obtain ⟨⟨hf0, hf1⟩, hf2⟩ := hfit
          generalize anoL S id = l at *
          have hol : otherW (clA S.cs id) wrong ≠ l := by
            rcases hoc with ⟨_, e⟩ | ⟨_, e⟩ <;> rw [e] <;> intro q <;> first | exact hf0 q.symm | exact hf1 q.symm
          have hlw : l ≠ wrong := by rcases hwr with e | e <;> rw [e] <;> assumption
          have hpo : plc (otherW (clA S.cs id) wrong) ≠ p := fun e => by
            rw [hp] at e
            have := plc_inj hon.1 hw1 e
            rcases hoc with ⟨q1, q2⟩ | ⟨q1, q2⟩
            · exact i3b (by rw [← q1, ← this, q2])
            · exact i3b (by rw [← q1, ← this, q2])
          have hpl2 : plc l ≠ p := fun e => hlw (plc_inj (hls l hal).1 hw1 (by rw [e, hp]))
          have hplo : plc l ≠ plc (otherW (clA S.cs id) wrong) := fun e => hol (plc_inj (hls l hal).1 hon.1 e).symm
          have p1 : plc l < S.wa.length := plc_lt (hls l hal) (by omega)
          have hnot : ∀ r, r ≠ plc (clA S.cs id).w0 → r ≠ plc (clA S.cs id).w1 → id ∉ waA S.wa r := fun r h0 h1 hm => by
            rcases (h.i3 r id hm hpr).1 with q | q
            · exact h0 q
            · exact h1 q
          have hpc : (plc (clA S.cs id).w0 = p ∧ plc (clA S.cs id).w1 = plc (otherW (clA S.cs id) wrong)) ∨ (plc (clA S.cs id).w1 = p ∧ plc (clA S.cs id).w0 = plc (otherW (clA S.cs id) wrong)) := by
            rcases hoc with ⟨q1, q2⟩ | ⟨q1, q2⟩
            · left; rw [q2, hp, q1]; exact ⟨rfl, rfl⟩
            · right; rw [q2, hp, q1]; exact ⟨rfl, rfl⟩
          have hno : ∀ r, r ≠ p → r ≠ plc (otherW (clA S.cs id) wrong) → id ∉ waA S.wa r := fun r h0 h1 => by
            rcases hpc with ⟨q1, q2⟩ | ⟨q1, q2⟩
            · exact hnot r (fun e => h0 (e.trans q1)) (fun e => h1 (e.trans q2))
            · exact hnot r (fun e => h1 (e.trans q2)) (fun e => h0 (e.trans q1))
          have hino : id ∈ waA S.wa (plc (otherW (clA S.cs id) wrong)) := by
            rcases hpc with ⟨q1, q2⟩ | ⟨q1, q2⟩
            · rw [← q2]; exact i3f
            · rw [← q2]; exact i3e
          have hnd := h.i2 p
          rw [hw] at hnd
          have hnab : id ∉ a ++ b := fun hm => by
            rw [List.nodup_append] at hnd
            rcases List.mem_append.1 hm with q | q
            · exact hnd.2.2 id q id (by simp) rfl
            · exact (List.nodup_cons.1 hnd.2.1).1 q
          have hwv : ∀ r, waA ((S.wa.set (plc l) (waA S.wa (plc l) ++ [id])).set p (a ++ b)) r = if r = p then a ++ b else if r = plc l then waA S.wa (plc l) ++ [id] else waA S.wa r := fun r => by
            rw [waA_set (by simpa using hpl), waA_set p1]
          have hncs : (nextF S id).cs.length = S.cs.length := by simp [nextF]
          have hsf : Sf (setWa (watchF (rewatch (nextF S id) id (otherW (clA S.cs id) wrong) l) id l) p (a ++ b)) (K + 1) := by
            have h1 := rewatch_sf (nextF_sf hs hidl) (id := id) (by rw [hncs]; exact hidl) (x := otherW (clA S.cs id) wrong) (y := l) (.inr (by rw [hncl]; exact hom)) (.inr (by rw [hncl]; exact hal))
            have h2 := watchF_sf h1 (id := id) (by simp [rewatch, nextF]; exact hidl) (l := l) p1
            refine setWa_sf h2 (by simp [watchF, rewatch, nextF]; exact hpl) (fun i hi => ?_) ?_
            · show i < ((nextF S id).cs.set id _).length
              simp only [List.length_set, hncs]
              refine hs.wa p hpl i ?_
              rw [hw]
              rcases List.mem_append.1 hi with q | q
              · exact List.mem_append_left _ q
              · exact List.mem_append_right _ (List.mem_cons_of_mem _ q)
            · have := hs.wn p hpl
              rw [hw] at this
              simp only [List.length_append, List.length_cons] at this ⊢
              omega
          have hid4 : id ∉ S.lo ++ S.le.flatMap Prod.snd := fun hm => h.i4 id hm p hmem
          have key := inv_watch hnx (id := id) (by rw [hncs]; exact hidl) (by rw [hncl]; exact hpr) (a := otherW (clA S.cs id) wrong) (b := l) hol (by rw [hncl]; exact hom) (by rw [hncl]; exact hal) (fun k hk j x hj hx => ⟨fun e => ?_, fun e => ?_⟩) (wa' := (S.wa.set (plc l) (waA S.wa (plc l) ++ [id])).set p (a ++ b)) (lo' := S.lo) (fun r => ?_) (fun r i hi => ?_) (fun r => ?_) (fun i => ?_) h.i1 (fun e => hid4 (List.mem_append_right _ e)) ⟨K + 1, hsf⟩
          · exact key
          · obtain ⟨f0, f1⟩ := h.i6 p id hmem hpr k hk j x hj hx
            have : Tr S.L wrong := by
              rcases hoc with ⟨q1, q2⟩ | ⟨q1, q2⟩
              · obtain ⟨y, hy, hyl, _⟩ := f1 (by rw [e, q2])
                exact ⟨y, hy, by rw [hyl, q1]⟩
              · obtain ⟨y, hy, hyl, _⟩ := f0 (by rw [e, q2])
                exact ⟨y, hy, by rw [hyl, q1]⟩
            exact tr_both h.pre hw1 this hfa
          · exact hf2 ((val_neg h.pre (hls l hal).1).2 ⟨x, List.mem_of_getElem? hx, e⟩)
          · rw [hwv]
            split
            · exact hnd.sublist ((List.sublist_cons_self id b).append_left a)
            · split
              · rw [List.nodup_append]
                exact ⟨h.i2 _, by simp, fun u hu v hv e => by
                  have : v = id := by simpa using hv
                  subst this; subst e; exact hno (plc l) hpl2 hplo hu⟩
              · exact h.i2 r
          · rw [hwv]
            show _ ↔ i ∈ waA S.wa r
            split
            · rename_i e; subst e; rw [hw]; simp [hi]
            · split
              · rename_i e; rw [e, List.mem_append]; simp [hi]
              · exact Iff.rfl
          · rw [hwv]
            split
            · rename_i e
              subst e
              exact ⟨fun q => absurd q hnab, fun q => by rcases q with q | q; exact absurd q.symm hpo; exact absurd q.symm hpl2⟩
            · split
              · rename_i e; simp [e]
              · rename_i e1 e2
                constructor
                · intro q
                  by_cases e3 : r = plc (otherW (clA S.cs id) wrong)
                  · exact .inl e3
                  · exact absurd q (hno r e1 e3)
                · rintro (q | q)
                  · rw [q]; exact hino
                  · exact absurd q e2
          · exact ⟨fun q => ⟨q, fun e => hid4 (List.mem_append_left _ (e ▸ q))⟩, fun q => q.1⟩
end
end Go.Proofs.YtkckodpfhlpkgaaGreat
namespace Go.Proofs.YtkckodpfhlpkgaaGreat
open LitM TrailM EngM

theorem setWa_at {S : Eng} {p : Nat} (hp : p < S.wa.length) (X : List Nat) : waA (setWa S p X).wa p = X := by
  unfold setWa; simp only; rw [waA_set hp, if_pos rfl]
/-- Those that are told, one behind the other. -/
theorem inv_vis {p : Nat} {wrong : Int} (hw1 : LitM.one wrong = true) (hp : p = plc wrong) : ∀ (told rest : List Nat) (S : Eng), Inv (setWa S p (rest ++ told)) → p < S.wa.length → Tr S.L (-wrong) → S.wa.length = 2 * (S.n + 1) →
    (∀ i ∈ rest, (clA S.cs i).pr = true → Tr S.L (otherW (clA S.cs i) wrong)) →
    Inv (visF p wrong told rest S).1 ∧ Ker S (visF p wrong told rest S).1 ∧ (visF p wrong told rest S).1.vi = S.vi ∧ (visF p wrong told rest S).1.lo = S.lo ∧
      (((visF p wrong told rest S).2 = -1 ∧ ∀ i ∈ waA (visF p wrong told rest S).1.wa p, (clA (visF p wrong told rest S).1.cs i).pr = true → Tr (visF p wrong told rest S).1.L (otherW (clA (visF p wrong told rest S).1.cs i) wrong)) ∨ Conf (visF p wrong told rest S).1 (visF p wrong told rest S).2)
  | [], rest, S, h, hpl, hfa, hwa, hr => by
    rw [List.append_nil] at h
    show Inv (setWa S p rest) ∧ Ker S (setWa S p rest) ∧ S.vi = S.vi ∧ S.lo = S.lo ∧ (((-1 : Int) = -1 ∧ ∀ i ∈ waA (setWa S p rest).wa p, (clA S.cs i).pr = true → Tr S.L (otherW (clA S.cs i) wrong)) ∨ Conf (setWa S p rest) (-1))
    refine ⟨h, ker_wa S p rest, rfl, rfl, .inl ⟨rfl, ?_⟩⟩
    rw [setWa_at hpl]; exact hr
  | id :: r, rest, S, h, hpl, hfa, hwa, hr => by
    have hM : waA (setWa S p (rest ++ id :: r)).wa p = rest ++ id :: r := setWa_at hpl _
    have hML : (setWa S p (rest ++ id :: r)).wa.length = S.wa.length := by simp [setWa]
    obtain ⟨K, hs⟩ := h.sf
    have hidl : id < S.cs.length := hs.wa p (by rw [hML]; exact hpl) id (by rw [hM]; simp)
    have hmem : id ∈ waA (setWa S p (rest ++ id :: r)).wa p := by rw [hM]; simp
    have hls := h.ls (i := id) hidl
    have hne : (clA S.cs id).pr = true → anoL S id ≠ 0 → plc (anoL S id) ≠ p := fun hpr h0 e => by
      obtain ⟨i3a, i3b, i3c, i3d, _, _⟩ := h.i3 p id hmem hpr
      have hwr : wrong = (clA S.cs id).w0 ∨ wrong = (clA S.cs id).w1 := by
        rw [hp] at i3a
        rcases i3a with q | q
        · exact .inl (plc_inj hw1 (hls _ i3c).1 q)
        · exact .inr (plc_inj hw1 (hls _ i3d).1 q)
      rcases anoL_in hs (id := id) hidl with q | ⟨q1, q2⟩
      · exact h0 q
      · have q1 : anoL S id ∈ (clA S.cs id).ls := q1
        have q2 : fitB S.L (clA S.cs id) (anoL S id) = true := q2
        have := plc_inj (hls _ q1).1 hw1 (by rw [e, hp])
        unfold fitB at q2
        simp only [Bool.and_eq_true, decide_eq_true_eq] at q2
        rcases hwr with x | x
        · exact q2.1.1 (this.trans x)
        · exact q2.1.2 (this.trans x)
    have hT := tellF_setWa (X := rest ++ id :: r) (wrong := wrong) hpl hne
    obtain ⟨t0, t1, t2⟩ := inv_tell h hM hw1 hp hfa (by rw [hML]; exact hwa)
    rw [hT] at t0 t1 t2
    have hker := ker_tell (S := S) hidl wrong
    have hkep := tellF_kep S id wrong
    have hpT : p < (tellF S id wrong).1.wa.length := by rw [hkep.wa]; exact hpl
    have hwT : (tellF S id wrong).1.wa.length = 2 * ((tellF S id wrong).1.n + 1) := by rw [hkep.wa, hkep.n]; exact hwa
    have hfT : Tr (tellF S id wrong).1.L (-wrong) := hker.tr hfa
    have hnd : (rest ++ id :: r).Nodup := by rw [← hM]; exact h.i2 p
    have hrT : ∀ i ∈ rest, (clA (tellF S id wrong).1.cs i).pr = true → Tr (tellF S id wrong).1.L (otherW (clA (tellF S id wrong).1.cs i) wrong) := fun i hi hpr => by
      have hne : i ≠ id := fun e => by
        subst e
        rw [List.nodup_append] at hnd
        exact hnd.2.2 i hi i (by simp) rfl
      rw [tellF_other hidl hne] at hpr ⊢
      exact hker.tr (hr i hi hpr)
    rw [visF_cons]
    rcases tellF_res S id wrong with e | e | e
    · rw [if_pos e]
      obtain ⟨a1, a2, _⟩ := t0 e
      have := inv_vis hw1 hp r (rest ++ [id]) (tellF S id wrong).1 (by rw [List.append_assoc]; exact a1) hpT hfT hwT (fun i hi hpr => by
        rcases List.mem_append.1 hi with q | q
        · exact hrT i q hpr
        · have : i = id := by simpa using q
          subst this
          exact a2 (show (clA S.cs i).pr = true by rw [← (hker.cl i).1]; exact hpr))
      obtain ⟨b1, b2, b3, b4, b5⟩ := this
      exact ⟨b1, hker.trans b2, b3.trans hkep.vi, b4.trans hkep.lo, b5⟩
    · rw [if_neg (by omega), if_neg (by omega)]
      have a1 := t1 e
      rw [setWa_setWa] at a1
      have := inv_vis hw1 hp r rest (tellF S id wrong).1 a1 hpT hfT hwT hrT
      obtain ⟨b1, b2, b3, b4, b5⟩ := this
      exact ⟨b1, hker.trans b2, b3.trans hkep.vi, b4.trans hkep.lo, b5⟩
    · rw [if_neg (by omega), if_pos e]
      obtain ⟨a1, a2, _⟩ := t2 e
      exact ⟨a1, hker.trans (ker_wa _ _ _), hkep.vi, hkep.lo, .inr a2⟩
section
variable {S : Eng}
/-- One literal more is visited. -/
theorem inv_vi (h : Inv S) {x : Ent} (hx : S.L[S.vi]? = some x) (hall : ∀ i ∈ waA S.wa (plc (-x.l)), (clA S.cs i).pr = true → Tr S.L (otherW (clA S.cs i) (-x.l))) : Inv { S with vi := S.vi + 1 } := by
  obtain ⟨K, hs⟩ := h.sf
  have hlt : S.vi < S.L.length := (List.getElem?_eq_some_iff.1 hx).1
  have hone := (h.pre.one x (List.mem_of_getElem? hx)).1
  have hvk : ∀ k, k < S.le.length → vk { S with vi := S.vi + 1 } k = vk S k := fun k hk => by unfold vk; rw [if_pos hk, if_pos hk]
  have hvd : ∀ k, ¬ k < S.le.length → vk { S with vi := S.vi + 1 } k = S.vi + 1 := fun k hk => by unfold vk; rw [if_neg hk]
  refine ⟨⟨K, ⟨hs.n, hs.cl, hs.cn, hs.lo, hs.ln, hs.wa, hs.wn, hs.wl, hs.le, hs.en, by show S.vi + 1 ≤ S.L.length; omega, hs.ok⟩⟩, h.nd, h.i1, h.i2, h.i3, h.i4, h.i5, fun p i hi hpi k hk j y hj hy => ?_, fun k hk => ?_, h.i8⟩
  · have hk : k ≤ S.le.length := hk
    by_cases hkd : k < S.le.length
    · rw [hvk k hkd] at hj; exact h.i6 p i hi hpi k hk j y hj hy
    · rw [hvd k hkd] at hj
      by_cases hjv : j < S.vi
      · exact h.i6 p i hi hpi k hk j y (by unfold vk; rw [if_neg hkd]; exact hjv) hy
      · have hjv : j = S.vi := by omega
        subst hjv
        have hy : S.L[S.vi]? = some y := hy
        rw [hx] at hy
        injection hy with hy
        subst hy
        obtain ⟨i3a, i3b, i3c, i3d, i3e, i3f⟩ := h.i3 p i hi hpi
        have hlv : ∀ z ∈ S.L, z.lv ≤ k := fun z hz => Nat.le_trans (h.pre.one z hz).2.2 (by omega)
        refine ⟨fun e => ?_, fun e => ?_⟩
        · have hw : -x.l = (clA S.cs i).w0 := by rw [e]; exact not_not
          obtain ⟨z, hz, q⟩ := hall i (by rw [hw]; exact i3e) hpi
          have : otherW (clA S.cs i) (-x.l) = (clA S.cs i).w1 := by unfold otherW; rw [if_pos hw.symm]
          exact ⟨z, hz, q.trans this, hlv z hz⟩
        · have hw : -x.l = (clA S.cs i).w1 := by rw [e]; exact not_not
          obtain ⟨z, hz, q⟩ := hall i (by rw [hw]; exact i3f) hpi
          have : otherW (clA S.cs i) (-x.l) = (clA S.cs i).w0 := by unfold otherW; rw [if_neg (fun q => i3b (q.trans hw))]
          exact ⟨z, hz, q.trans this, hlv z hz⟩
  · have hk : k < S.le.length := hk
    have := h.i7 k hk
    rw [hvk k hk]
    refine ⟨?_, this.2⟩
    by_cases hkd : k + 1 < S.le.length
    · rw [hvk _ hkd]; exact this.1
    · rw [hvd _ hkd]
      have h1 := this.1
      unfold vk at h1 ⊢
      rw [if_pos hk] at h1 ⊢
      rw [if_neg hkd] at h1
      omega
theorem litA_at {L : List Ent} {j : Nat} {x : Ent} (hx : L[j]? = some x) : litA L j = x.l := by
  unfold litA
  rw [List.getD, List.getElem?_map, hx]; rfl
theorem not_one {l : Int} (h : LitM.one l = true) : notZ l = -l := by unfold notZ; rw [if_pos h]
theorem inv_visit (h : Inv S) (hwa : S.wa.length = 2 * (S.n + 1)) {x : Ent} (hx : S.L[S.vi]? = some x) :
    Inv (visitF S x.l).1 ∧ Ker S (visitF S x.l).1 ∧ (visitF S x.l).1.vi = S.vi ∧ (visitF S x.l).1.lo = S.lo ∧ (((visitF S x.l).2 = -1 ∧ Inv { (visitF S x.l).1 with vi := S.vi + 1 }) ∨ Conf (visitF S x.l).1 (visitF S x.l).2) := by
  have hm := List.mem_of_getElem? hx
  have hone := (h.pre.one x hm).1
  have hn1 : LitM.one (-x.l) = true := one_neg hone
  have hp : plc (-x.l) < S.wa.length := plc_lt ⟨hn1, by rw [var_neg hone]; exact (h.pre.one x hm).2.1⟩ (by omega)
  have hS : setWa S (plc (-x.l)) ([] ++ waA S.wa (plc (-x.l))) = S := by
    rw [List.nil_append]; unfold setWa; rw [waA_self hp]
  have key := inv_vis hn1 rfl (waA S.wa (plc (-x.l))) [] S (by rw [hS]; exact h) hp ⟨x, hm, by rw [not_not]⟩ hwa (fun i hi => absurd hi List.not_mem_nil)
  have e : visitF S x.l = visF (plc (-x.l)) (-x.l) (waA S.wa (plc (-x.l))) [] S := by unfold visitF; rw [not_one hone]
  rw [e]
  obtain ⟨a1, a2, a3, a4, a5⟩ := key
  refine ⟨a1, a2, a3, a4, ?_⟩
  rcases a5 with ⟨b1, b2⟩ | b
  · refine .inl ⟨b1, ?_⟩
    have hx' : (visF (plc (-x.l)) (-x.l) (waA S.wa (plc (-x.l))) [] S).1.L[(visF (plc (-x.l)) (-x.l) (waA S.wa (plc (-x.l))) [] S).1.vi]? = some x := by
      obtain ⟨M, hM, _⟩ := a2.L
      rw [a3, hM, List.getElem?_append_left (List.getElem?_eq_some_iff.1 hx).1]; exact hx
    have := inv_vi a1 hx' b2
    rw [a3] at this
    exact this
  · exact .inr b
theorem ker_vi (S : Eng) (v : Nat) : Ker S { S with vi := v } := ⟨rfl, rfl, fun _ => ⟨rfl, rfl⟩, rfl, rfl, [], by simp, by simp⟩
theorem inv_go : ∀ (k : Nat) (S : Eng), Inv S → S.wa.length = 2 * (S.n + 1) → S.n ≤ k + S.vi →
    Inv (goF k S).1 ∧ Ker S (goF k S).1 ∧ (goF k S).1.lo = S.lo ∧ (((goF k S).2 = -1 ∧ (goF k S).1.vi = (goF k S).1.L.length) ∨ Conf (goF k S).1 (goF k S).2)
  | 0, S, h, _, hk => by
    refine ⟨h, Ker.refl S, rfl, .inl ⟨rfl, ?_⟩⟩
    show S.vi = S.L.length
    have := h.vi_le
    have := h.ok.len
    omega
  | k + 1, S, h, hwa, hk => by
    unfold goF
    by_cases hlt : S.vi < S.L.length
    · rw [if_pos hlt]
      have hx : S.L[S.vi]? = some S.L[S.vi] := List.getElem?_eq_getElem hlt
      rw [litA_at hx]
      obtain ⟨a1, a2, a3, a4, a5⟩ := inv_visit h hwa hx
      rcases a5 with ⟨b1, b2⟩ | b
      · rw [if_pos b1]
        have := inv_go k { (visitF S S.L[S.vi].l).1 with vi := S.vi + 1 } b2 (by show (visitF S S.L[S.vi].l).1.wa.length = 2 * ((visitF S S.L[S.vi].l).1.n + 1); rw [a2.wa, a2.n]; exact hwa) (by show (visitF S S.L[S.vi].l).1.n ≤ k + (S.vi + 1); rw [a2.n]; omega)
        obtain ⟨c1, c2, c3, c4⟩ := this
        exact ⟨c1, (a2.trans (ker_vi _ _)).trans c2, c3.trans a4, c4⟩
      · have hne : ¬ (visitF S S.L[S.vi].l).2 = -1 := by
          obtain ⟨id, e, _⟩ := b
          rw [e]; omega
        rw [if_neg hne]
        exact ⟨a1, a2, a4, .inr b⟩
    · rw [if_neg hlt]
      have := h.vi_le
      exact ⟨h, Ker.refl S, rfl, .inl ⟨rfl, by show S.vi = S.L.length; omega⟩⟩
/-- Behind a Propagate. -/
theorem inv_prop (h : Inv S) : Inv (propF S).1 ∧ Ker (roomF S) (propF S).1 ∧ (((propF S).2 = -1 ∧ (propF S).1.vi = (propF S).1.L.length ∧ (propF S).1.lo = []) ∨ Conf (propF S).1 (propF S).2) := by
  have hr := inv_room h
  have hrl := room_len h
  obtain ⟨a1, a2, a3, a4⟩ := inv_sett S.lo (roomF S) hr rfl hrl
  unfold propF
  rcases a4 with ⟨b1, b2⟩ | b
  · rw [if_pos b1]
    have hn : (settF S.lo (roomF S)).1.n = S.n := a2.n
    obtain ⟨c1, c2, c3, c4⟩ := inv_go (S.n + 1) (settF S.lo (roomF S)).1 a1 (by rw [a2.wa, a2.n]; exact hrl) (by rw [hn]; omega)
    refine ⟨c1, a2.trans c2, ?_⟩
    rcases c4 with ⟨d1, d2⟩ | d
    · exact .inl ⟨d1, d2, c3.trans b2⟩
    · exact .inr d
  · have hne : ¬ (settF S.lo (roomF S)).2 = -1 := by
      obtain ⟨id, e, _⟩ := b
      rw [e]; omega
    rw [if_neg hne]
    exact ⟨a1, a2, .inr b⟩
/-- Nothing is open any more. -/
theorem prop_done (h : Inv S) (hvi : S.vi = S.L.length) (hlo : S.lo = []) {i : Nat} (hi : i < S.cs.length) (hp : (clA S.cs i).pr = true) (hb : bothB (clA S.cs i).ls = false) :
    (∃ y ∈ (clA S.cs i).ls, Tr S.L y) ∨ ∃ a b, a ∈ (clA S.cs i).ls ∧ b ∈ (clA S.cs i).ls ∧ a ≠ b ∧ ¬ Tr S.L a ∧ ¬ Tr S.L (-a) ∧ ¬ Tr S.L b ∧ ¬ Tr S.L (-b) := by
  rcases h.i5 i hi hp hb with e | ⟨k, _, _, x, hx, hxl, _⟩ | ⟨x, hx, hxl, _⟩ | ⟨e0, e1⟩
  · rw [hlo] at e; cases e
  · exact .inl ⟨x.l, hxl, x, hx, rfl⟩
  · exact .inl ⟨x.l, hxl, x, hx, rfl⟩
  · obtain ⟨_, i3b, i3c, i3d, _, _⟩ := h.i3 _ i e0 hp
    by_cases t0 : Tr S.L (clA S.cs i).w0
    · exact .inl ⟨_, i3c, t0⟩
    · by_cases t1 : Tr S.L (clA S.cs i).w1
      · exact .inl ⟨_, i3d, t1⟩
      · have hvd : vk S S.le.length = S.L.length := by unfold vk; rw [if_neg (by omega)]; exact hvi
        refine .inr ⟨_, _, i3c, i3d, i3b, t0, ?_, t1, ?_⟩
        · rintro ⟨x, hx, e⟩
          obtain ⟨j, hj, rfl⟩ := List.getElem_of_mem hx
          obtain ⟨f0, _⟩ := h.i6 _ i e0 hp S.le.length (Nat.le_refl _) j _ (by rw [hvd]; exact hj) (List.getElem?_eq_getElem hj)
          obtain ⟨y, hy, q, _⟩ := f0 e
          exact t1 ⟨y, hy, q⟩
        · rintro ⟨x, hx, e⟩
          obtain ⟨j, hj, rfl⟩ := List.getElem_of_mem hx
          obtain ⟨_, f1⟩ := h.i6 _ i e0 hp S.le.length (Nat.le_refl _) j _ (by rw [hvd]; exact hj) (List.getElem?_eq_getElem hj)
          obtain ⟨y, hy, q, _⟩ := f1 e
          exact t0 ⟨y, hy, q⟩
end
end Go.Proofs.YtkckodpfhlpkgaaGreat
namespace Go.Proofs.YtkckodpfhlpkgaaGreat
open LitM TrailM EngM

theorem sub_true {S T : Eng} (hS : Inv S) (hT : Inv T) (hvi : T.vi = T.L.length) (hlo : T.lo = []) (hc : ∀ i, i < S.cs.length → (clA S.cs i).pr = true → ∃ k, k < T.cs.length ∧ (clA T.cs k).pr = true ∧ (clA T.cs k).ls = (clA S.cs i).ls)
    (hd : ∀ x ∈ S.L, x.rs < 0 → Tr T.L x.l) : ∀ (j : Nat) (x : Ent), S.L[j]? = some x → Tr T.L x.l := by
  intro j
  induction j using Nat.strongRecOn with
  | _ j ih =>
    intro x hx
    have hm := List.mem_of_getElem? hx
    by_cases h0 : 0 ≤ x.rs
    · obtain ⟨r, q1, q2, q3, q4, q5⟩ := hS.i8 j x hx h0
      have hls := hS.ls q2
      have hprev : ∀ y, Tr (S.L.take j) y → Tr T.L y := fun y hy => by
        obtain ⟨z, hz, e⟩ := hy
        obtain ⟨i, hi, rfl⟩ := List.getElem_of_mem hz
        have hi2 : i < j := by have := hi; rw [List.length_take] at this; omega
        have hz2 : S.L[i]? = some (S.L.take j)[i] := by rw [← List.getElem?_take_of_lt hi2, List.getElem?_eq_getElem hi]
        rw [← e]; exact ih i hi2 _ hz2
      have hfa : ∀ y ∈ (clA S.cs r).ls, y ≠ x.l → Tr T.L (-y) := fun y hy hne => hprev _ (q5 y hy hne)
      have hxo := hls _ q4
      have hxn : x.l ≠ 0 := by have := (one_iff x.l).1 hxo.1; omega
      have hnot : ¬ Tr (S.L.take j) x.l := fun ⟨z, hz, e⟩ => by
        obtain ⟨i, hi, rfl⟩ := List.getElem_of_mem hz
        have hi2 : i < j := by have := hi; rw [List.length_take] at this; omega
        have hjl := (List.getElem?_eq_some_iff.1 hx).1
        have h1 := List.pairwise_iff_getElem.1 hS.pre.dis i j (by omega) hjl hi2
        rw [List.getElem_take] at e
        have h2 : S.L[j] = x := (List.getElem?_eq_some_iff.1 hx).2
        rw [h2, e] at h1
        exact h1 rfl
      have hb : bothB (clA S.cs r).ls = false := by
        rw [Bool.eq_false_iff]
        intro hb
        obtain ⟨y, hy1, hy2⟩ := (bothB_iff _).1 hb
        by_cases e1 : y = x.l
        · have := q5 (-y) hy2 (by omega)
          rw [e1, not_not] at this
          exact hnot this
        · by_cases e2 : -y = x.l
          · have := q5 y hy1 e1
            rw [e2] at this
            exact hnot this
          · have a1 := hfa y hy1 e1
            have a2 := hfa (-y) hy2 e2
            exact tr_both hT.pre (one_neg (hls y hy1).1) a1 a2
      obtain ⟨k, k1, k2, k3⟩ := hc r q2 q3
      rcases prop_done hT hvi hlo k1 k2 (by rw [k3]; exact hb) with ⟨y, hy, ht⟩ | ⟨a, b, ha, hb', hab, _, a2, _, b2⟩
      · rw [k3] at hy
        by_cases e : y = x.l
        · rw [← e]; exact ht
        · exact (tr_both hT.pre (hls y hy).1 ht (hfa y hy e)).elim
      · rw [k3] at ha hb'
        by_cases e : a = x.l
        · exact absurd (hfa b hb' (fun q => hab (e.trans q.symm))) b2
        · exact absurd (hfa a ha e) a2
    · exact hd x hm (by omega)
theorem sub_conf {S T : Eng} (hS : Inv S) (hT : Inv T) (hvi : T.vi = T.L.length) (hlo : T.lo = []) (hc : ∀ i, i < S.cs.length → (clA S.cs i).pr = true → ∃ k, k < T.cs.length ∧ (clA T.cs k).pr = true ∧ (clA T.cs k).ls = (clA S.cs i).ls)
    (hd : ∀ x ∈ S.L, x.rs < 0 → Tr T.L x.l) {c : Int} (hco : Conf S c) : False := by
  obtain ⟨id, _, hi, hp, hf⟩ := hco
  have hls := hS.ls hi
  have hfa : ∀ y ∈ (clA S.cs id).ls, Tr T.L (-y) := fun y hy => by
    obtain ⟨z, hz, e⟩ := hf y hy
    obtain ⟨j, hj, rfl⟩ := List.getElem_of_mem hz
    rw [← e]; exact sub_true hS hT hvi hlo hc hd j _ (List.getElem?_eq_getElem hj)
  have hb : bothB (clA S.cs id).ls = false := by
    rw [Bool.eq_false_iff]
    intro hb
    obtain ⟨y, hy1, hy2⟩ := (bothB_iff _).1 hb
    exact tr_both hT.pre (one_neg (hls y hy1).1) (hfa y hy1) (hfa (-y) hy2)
  obtain ⟨k, k1, k2, k3⟩ := hc id hi hp
  rcases prop_done hT hvi hlo k1 k2 (by rw [k3]; exact hb) with ⟨y, hy, ht⟩ | ⟨a, b, ha, _, _, _, a2, _, _⟩
  · rw [k3] at hy
    exact tr_both hT.pre (hls y hy).1 ht (hfa y hy)
  · rw [k3] at ha
    exact a2 (hfa a ha)
/-- Behind the Propagates of two engines, one of which has the other's clauses and decisions. -/
theorem prop_sub {S T : Eng} (hS : Inv S) (hT : Inv T) (hc : ∀ i, i < S.cs.length → (clA S.cs i).pr = true → ∃ k, k < T.cs.length ∧ (clA T.cs k).pr = true ∧ (clA T.cs k).ls = (clA S.cs i).ls)
    (hd : ∀ x ∈ S.L, Tr T.L x.l) (h1 : (propF T).2 = -1) : (propF S).2 = -1 ∧ ∀ y, Tr (propF S).1.L y → Tr (propF T).1.L y := by
  obtain ⟨s1, s2, s3⟩ := inv_prop hS
  obtain ⟨t1, t2, t3⟩ := inv_prop hT
  have tv : (propF T).1.vi = (propF T).1.L.length ∧ (propF T).1.lo = [] := by
    rcases t3 with ⟨_, a, b⟩ | ⟨id, e, _⟩
    · exact ⟨a, b⟩
    · omega
  have hc' : ∀ i, i < (propF S).1.cs.length → (clA (propF S).1.cs i).pr = true → ∃ k, k < (propF T).1.cs.length ∧ (clA (propF T).1.cs k).pr = true ∧ (clA (propF T).1.cs k).ls = (clA (propF S).1.cs i).ls := fun i hi hp => by
    have e1 : (propF S).1.cs.length = S.cs.length := s2.cs
    have e2 : (propF T).1.cs.length = T.cs.length := t2.cs
    have p1 : (clA (propF S).1.cs i).pr = (clA S.cs i).pr := (s2.cl i).1
    have p2 : (clA (propF S).1.cs i).ls = (clA S.cs i).ls := (s2.cl i).2
    rw [p1] at hp
    obtain ⟨k, k1, k2, k3⟩ := hc i (by omega) hp
    have p3 : (clA (propF T).1.cs k).pr = (clA T.cs k).pr := (t2.cl k).1
    have p4 : (clA (propF T).1.cs k).ls = (clA T.cs k).ls := (t2.cl k).2
    exact ⟨k, by omega, by rw [p3]; exact k2, by rw [p4, p2]; exact k3⟩
  have hd' : ∀ x ∈ (propF S).1.L, x.rs < 0 → Tr (propF T).1.L x.l := fun x hx h0 => by
    obtain ⟨M, hM, hM2⟩ := s2.L
    rw [hM] at hx
    rcases List.mem_append.1 hx with e | e
    · exact t2.tr (A := roomF T) (hd x e)
    · have := (hM2 x e).1; omega
  refine ⟨?_, fun y ⟨x, hx, e⟩ => ?_⟩
  · rcases s3 with ⟨a, _, _⟩ | b
    · exact a
    · exact (sub_conf s1 t1 tv.1 tv.2 hc' hd' b).elim
  · obtain ⟨j, hj, rfl⟩ := List.getElem_of_mem hx
    rw [← e]; exact sub_true s1 t1 tv.1 tv.2 hc' hd' j _ (List.getElem?_eq_getElem hj)
theorem val_same {n d m e : Nat} {L M : List Ent} (h : Pre n d L) (k : Pre m e M) {y : Int} (hy : LitM.one y = true) (hs : ∀ z, Tr L z → Tr M z) (h0 : valZ L y ≠ 0) : valZ M y = valZ L y := by
  by_cases h1 : valZ L y = 1
  · rw [h1]; exact (val_one k).2 (hs y ((val_one h).1 h1))
  · have h2 : valZ L y = -1 := by
      unfold valZ at h0 h1 ⊢
      split at h0
      · split at h0 <;> simp_all
      · exact absurd rfl h0
    rw [h2]; exact (val_neg k hy).2 (hs (-y) ((val_neg h hy).1 h2))
end Go.Proofs.YtkckodpfhlpkgaaGreat
