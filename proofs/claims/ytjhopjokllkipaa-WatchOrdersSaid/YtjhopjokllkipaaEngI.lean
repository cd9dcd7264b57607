/- What holds of an engine, whatever was done: clauses are loose, due with a level, true for ever, or watched; what is true was decided, or follows. No program. -/
import Derived.Test.YtjhopjokllkipaaEngS
import Derived.Test.YtjhopjokllkipaaCleanM
namespace Go.Proofs.Ytjhopjokllkipaa
open LitM TrailM EngM

/-- Is a literal true? -/
def Tr (L : List Ent) (y : Int) : Prop := ∃ x ∈ L, x.l = y
/-- How far a level was visited. -/
def vk (S : Eng) (k : Nat) : Nat := if k < S.le.length then (leA S.le k).1 else S.vi
theorem one_neg {y : Int} (h : one y = true) : one (-y) = true := by
  have := (one_iff y).1 h
  exact (one_iff _).2 (by omega)
theorem var_neg {y : Int} (h : one y = true) : varZ (-y) = varZ y := by
  have := (one_iff y).1 h
  rcases this with ⟨a, b⟩ | ⟨a, b⟩
  · rw [varZ_pos a b, varZ_neg (by omega) (by omega)]; omega
  · rw [varZ_neg a b, varZ_pos (by omega) (by omega)]
theorem var_eq {a b : Int} (ha : one a = true) (hb : one b = true) (h : varZ a = varZ b) : a = b ∨ a = -b := by
  have h1 := (one_iff a).1 ha
  have h2 := (one_iff b).1 hb
  rcases h1 with ⟨c, d⟩ | ⟨c, d⟩ <;> rcases h2 with ⟨e, f⟩ | ⟨e, f⟩
  · rw [varZ_pos c d, varZ_pos e f] at h; omega
  · rw [varZ_pos c d, varZ_neg e f] at h; omega
  · rw [varZ_neg c d, varZ_pos e f] at h; omega
  · rw [varZ_neg c d, varZ_neg e f] at h; omega
section
variable {n d : Nat} {L : List Ent} {y : Int}
theorem tr_find (h : Pre n d L) (ht : Tr L y) : ∃ x, findE L (varZ y) = some x ∧ x.l = y := by
  obtain ⟨x, hx, rfl⟩ := ht
  exact ⟨x, h.find hx, rfl⟩
theorem val_one (h : Pre n d L) : valZ L y = 1 ↔ Tr L y := by
  constructor
  · intro hv
    unfold valZ at hv
    split at hv
    · rename_i x hx
      split at hv
      · exact ⟨x, (findE_some hx).1, by assumption⟩
      · omega
    · omega
  · intro ht
    obtain ⟨x, hx, e⟩ := tr_find h ht
    unfold valZ
    rw [hx]; simp [e]
theorem val_neg (h : Pre n d L) (hy : one y = true) : valZ L y = -1 ↔ Tr L (-y) := by
  constructor
  · intro hv
    unfold valZ at hv
    split at hv
    · rename_i x hx
      split at hv
      · omega
      · obtain ⟨hm, he⟩ := findE_some hx
        have := (h.one x hm).1
        rcases var_eq this hy he with e | e
        · contradiction
        · exact ⟨x, hm, e⟩
    · omega
  · intro ht
    obtain ⟨x, hx, e⟩ := tr_find h ht
    rw [var_neg hy] at hx
    unfold valZ
    rw [hx]
    have : x.l ≠ y := by have := (one_iff y).1 hy; omega
    simp [this]
theorem val_nil (h : Pre n d L) (hy : one y = true) : valZ L y = 0 ↔ ¬ Tr L y ∧ ¬ Tr L (-y) := by
  rw [← val_one h, ← val_neg h hy]
  unfold valZ
  split
  · split <;> omega
  · omega
theorem tr_both (h : Pre n d L) (hy : one y = true) (h1 : Tr L y) (h2 : Tr L (-y)) : False := by
  have a := (val_one h).2 h1
  have b := (val_neg h hy).2 h2
  omega
theorem tr_take {j : Nat} (h : Tr (L.take j) y) : Tr L y := by
  obtain ⟨x, hx, e⟩ := h
  exact ⟨x, List.mem_of_mem_take hx, e⟩
theorem tr_app {M : List Ent} (h : Tr L y) : Tr (L ++ M) y := by
  obtain ⟨x, hx, e⟩ := h
  exact ⟨x, List.mem_append_left _ hx, e⟩
end
/-- The search goes round all of them. -/
theorem anoF_none {L : List Ent} {c : Cl} (h0 : ∀ x ∈ c.ls, x ≠ 0) : ∀ k i, 0 < c.ls.length → i < c.ls.length → (anoF L c k i).2 = 0 → ∀ t, t < k → fitB L c (c.ls.getD ((i + 1 + t) % c.ls.length) 0) = false := by
  intro k
  induction k with
  | zero => intro i _ _ _ t ht; omega
  | succ k ih =>
    intro i hn hi hz t ht
    have hx : nextI c i = (i + 1) % c.ls.length := by
      unfold nextI
      split
      · rename_i e; rw [e, Nat.mod_self]
      · rw [Nat.mod_eq_of_lt (by omega)]
    have hlt : nextI c i < c.ls.length := by rw [hx]; exact Nat.mod_lt _ hn
    unfold anoF at hz
    split at hz
    · exfalso
      have : c.ls.getD (nextI c i) 0 ∈ c.ls := by rw [List.getD, List.getElem?_eq_getElem hlt]; exact List.getElem_mem hlt
      exact h0 _ this hz
    · rename_i hf
      cases t with
      | zero => rw [Nat.add_zero, ← hx]; simpa using hf
      | succ t =>
        have := ih (nextI c i) hn hlt hz t (by omega)
        rw [hx] at this
        rw [show i + 1 + (t + 1) = (i + 1) + 1 + t from by omega]
        have e : ((i + 1) % c.ls.length + 1 + t) % c.ls.length = ((i + 1) + 1 + t) % c.ls.length := by
          rw [Nat.add_assoc, Nat.add_assoc, Nat.mod_add_mod]
        rw [e] at this; exact this
theorem anoF_all {L : List Ent} {c : Cl} (h0 : ∀ x ∈ c.ls, x ≠ 0) (hn : c.nx = 0 ∨ c.nx < c.ls.length) (hz : (anoF L c c.ls.length c.nx).2 = 0) : ∀ x ∈ c.ls, fitB L c x = false := by
  intro x hx
  obtain ⟨j, hj, rfl⟩ := List.getElem_of_mem hx
  have hnx : c.nx < c.ls.length := by omega
  have key := anoF_none h0 c.ls.length c.nx (by omega) hnx hz
  by_cases e : c.nx + 1 ≤ j
  · have := key (j - (c.nx + 1)) (by omega)
    rw [show c.nx + 1 + (j - (c.nx + 1)) = j from by omega, Nat.mod_eq_of_lt hj, List.getD, List.getElem?_eq_getElem hj] at this
    exact this
  · have := key (j + c.ls.length - (c.nx + 1)) (by omega)
    rw [show c.nx + 1 + (j + c.ls.length - (c.nx + 1)) = j + c.ls.length from by omega, Nat.add_mod_right, Nat.mod_eq_of_lt hj, List.getD, List.getElem?_eq_getElem hj] at this
    exact this

/-- All of an engine. -/
structure Inv (S : Eng) : Prop where
  sf : ∃ K, Sf S K
  nd : ∀ i, i < S.cs.length → (clA S.cs i).ls.Nodup
  i1 : (S.lo ++ S.le.flatMap Prod.snd).Nodup
  i2 : ∀ p, (waA S.wa p).Nodup
  i3 : ∀ p i, i ∈ waA S.wa p → (clA S.cs i).pr = true → (p = plc (clA S.cs i).w0 ∨ p = plc (clA S.cs i).w1) ∧ (clA S.cs i).w0 ≠ (clA S.cs i).w1 ∧ (clA S.cs i).w0 ∈ (clA S.cs i).ls ∧ (clA S.cs i).w1 ∈ (clA S.cs i).ls ∧ i ∈ waA S.wa (plc (clA S.cs i).w0) ∧ i ∈ waA S.wa (plc (clA S.cs i).w1)
  i4 : ∀ i ∈ S.lo ++ S.le.flatMap Prod.snd, ∀ p, i ∉ waA S.wa p
  i5 : ∀ i, i < S.cs.length → (clA S.cs i).pr = true → bothB (clA S.cs i).ls = false → i ∈ S.lo ∨ (∃ k, k < S.le.length ∧ i ∈ (leA S.le k).2 ∧ ∃ x ∈ S.L, x.l ∈ (clA S.cs i).ls ∧ x.lv ≤ k + 1) ∨ (∃ x ∈ S.L, x.l ∈ (clA S.cs i).ls ∧ x.lv = 0) ∨ (i ∈ waA S.wa (plc (clA S.cs i).w0) ∧ i ∈ waA S.wa (plc (clA S.cs i).w1))
  i6 : ∀ p i, i ∈ waA S.wa p → (clA S.cs i).pr = true → ∀ k, k ≤ S.le.length → ∀ j x, j < vk S k → S.L[j]? = some x → (x.l = -(clA S.cs i).w0 → ∃ y ∈ S.L, y.l = (clA S.cs i).w1 ∧ y.lv ≤ k) ∧ (x.l = -(clA S.cs i).w1 → ∃ y ∈ S.L, y.l = (clA S.cs i).w0 ∧ y.lv ≤ k)
  i7 : ∀ k, k < S.le.length → vk S k ≤ vk S (k + 1) ∧ vk S k ≤ upTo S.L k
  i8 : ∀ j x, S.L[j]? = some x → 0 ≤ x.rs → ∃ r : Nat, x.rs = (r : Int) ∧ r < S.cs.length ∧ (clA S.cs r).pr = true ∧ x.l ∈ (clA S.cs r).ls ∧ ∀ y ∈ (clA S.cs r).ls, y ≠ x.l → Tr (S.L.take j) (-y)
theorem nodup_le : ∀ (l : List Nat) (m : Nat), l.Nodup → (∀ x ∈ l, x < m) → l.length ≤ m := by
  intro l m hl hm
  have := List.Nodup.length_le_of_subset hl (l₂ := List.range m) (fun x hx => List.mem_range.2 (hm x hx))
  simpa using this
section
variable {S : Eng}
theorem Inv.ok (h : Inv S) : Ok S.n S.le.length S.L := h.sf.choose_spec.ok
theorem Inv.pre (h : Inv S) : Pre S.n S.le.length S.L := h.ok.pre
theorem le_mem {le : List (Nat × List Nat)} {k i : Nat} (hk : k < le.length) (hi : i ∈ (leA le k).2) : i ∈ le.flatMap Prod.snd := by
  unfold leA at hi
  rw [List.getD, List.getElem?_eq_getElem hk] at hi
  exact List.mem_flatMap.2 ⟨le[k], List.getElem_mem hk, hi⟩
theorem wa_lt {wa : List (List Nat)} {p i : Nat} (hi : i ∈ waA wa p) : p < wa.length := by
  rcases Nat.lt_or_ge p wa.length with e | e
  · exact e
  · unfold waA at hi
    rw [List.getD, List.getElem?_eq_none e] at hi
    cases hi
theorem sub_flat {le : List (Nat × List Nat)} {x : Nat × List Nat} (hx : x ∈ le) : x.2.Sublist (le.flatMap Prod.snd) := by
  induction le with
  | nil => cases hx
  | cons y le ih =>
    rw [List.flatMap_cons]
    rcases List.mem_cons.1 hx with e | e
    · subst e; exact List.sublist_append_left _ _
    · exact (ih e).trans (List.sublist_append_right _ _)
/-- The lists are no longer than there are clauses. -/
theorem Inv.small (h : Inv S) : Sf S S.cs.length := by
  obtain ⟨K, hs⟩ := h.sf
  have hle : ∀ i ∈ S.le.flatMap Prod.snd, i < S.cs.length := fun i hi => by
    obtain ⟨x, hx, hi⟩ := List.mem_flatMap.1 hi
    obtain ⟨k, hk, rfl⟩ := List.getElem_of_mem hx
    exact hs.le k hk i (by unfold leA; rw [List.getD, List.getElem?_eq_getElem hk]; exact hi)
  have h1 := List.nodup_append.1 h.i1
  refine ⟨hs.n, hs.cl, Nat.le_refl _, hs.lo, nodup_le _ _ h1.1 hs.lo, hs.wa, fun p hp => nodup_le _ _ (h.i2 p) (hs.wa p hp), hs.wl, hs.le, fun k hk => ?_, hs.vi, hs.ok⟩
  refine nodup_le _ _ ?_ (hs.le k hk)
  have h2 := h1.2.1
  unfold leA
  rw [List.getD, List.getElem?_eq_getElem hk]
  exact h2.sublist (sub_flat (List.getElem_mem hk))
theorem Inv.vk_le (h : Inv S) : ∀ k, k ≤ S.le.length → vk S k ≤ S.vi := by
  intro k hk
  obtain ⟨m, rfl⟩ : ∃ m, k = S.le.length - m := ⟨S.le.length - k, by omega⟩
  induction m with
  | zero => unfold vk; rw [if_neg (by omega)]; exact Nat.le_refl _
  | succ m ih =>
    by_cases e : m + 1 ≤ S.le.length
    · have := (h.i7 (S.le.length - (m + 1)) (by omega)).1
      rw [show S.le.length - (m + 1) + 1 = S.le.length - m from by omega] at this
      exact Nat.le_trans this (ih (by omega))
    · rw [show S.le.length - (m + 1) = S.le.length - m from by omega]; exact ih (by omega)
theorem Inv.vi_le (h : Inv S) : S.vi ≤ S.L.length := by
  obtain ⟨K, hs⟩ := h.sf
  exact hs.vi
theorem Inv.ls (h : Inv S) {i : Nat} (hi : i < S.cs.length) : ∀ x ∈ (clA S.cs i).ls, one x = true ∧ varZ x ≤ S.n := by
  obtain ⟨K, hs⟩ := h.sf
  exact (hs.cl i hi).1
theorem inv_new {n : Nat} (hn : n ≤ 90000) : Inv (newE n) := by
  have w0 : ∀ p, waA (newE n).wa p = [] := fun p => rfl
  have l0 : (newE n).cs.length = 0 := rfl
  have k0 : (newE n).le.length = 0 := rfl
  have a0 : (newE n).wa.length = 0 := rfl
  have sf : Sf (newE n) 0 := by
    refine ⟨hn, fun i hi => by omega, Nat.le_refl _, fun i hi => absurd hi (List.not_mem_nil), Nat.le_refl _, fun p hp => by omega, fun p hp => by omega, by omega, fun k hk => by omega, fun k hk => by omega, Nat.le_refl _, Ok.nil n⟩
  refine ⟨⟨0, sf⟩, fun i hi => by omega, List.nodup_nil, fun p => by rw [w0]; exact List.nodup_nil, fun p i hi => ?_, fun i hi => absurd hi (List.not_mem_nil), fun i hi => by omega, fun p i hi => ?_, fun k hk => by omega, fun j x hx => ?_⟩
  · rw [w0] at hi; exact absurd hi List.not_mem_nil
  · rw [w0] at hi; exact absurd hi List.not_mem_nil
  · have : (newE n).L[j]? = none := rfl
    rw [this] at hx; cases hx
theorem waA_room {wa : List (List Nat)} {m p : Nat} : waA (wa ++ List.replicate m []) p = waA wa p := by
  unfold waA
  rcases Nat.lt_or_ge p wa.length with e | e
  · rw [List.getD, List.getD, List.getElem?_append_left e]
  · rw [List.getD, List.getD, List.getElem?_append_right e, List.getElem?_eq_none e, List.getElem?_replicate]
    split <;> rfl
theorem inv_room (h : Inv S) : Inv (roomF S) := by
  obtain ⟨K, hs⟩ := h.sf
  have e : ∀ p, waA (roomF S).wa p = waA S.wa p := fun p => waA_room
  refine ⟨⟨K, ⟨hs.n, hs.cl, hs.cn, hs.lo, hs.ln, fun p hp i hi => ?_, fun p hp => ?_, ?_, hs.le, hs.en, hs.vi, hs.ok⟩⟩, h.nd, h.i1, fun p => ?_, fun p i hi => ?_, fun i hi p => ?_, fun i hi hp hb => ?_, fun p i hi => ?_, h.i7, h.i8⟩
  · rw [e] at hi; exact hs.wa p (wa_lt hi) i hi
  · rw [e]
    rcases Nat.lt_or_ge p S.wa.length with e1 | e1
    · exact hs.wn p e1
    · unfold waA; rw [List.getD, List.getElem?_eq_none e1]; exact Nat.zero_le _
  · have := hs.wl
    unfold roomF; simp only [List.length_append, List.length_replicate]; omega
  · rw [e]; exact h.i2 p
  · rw [e] at hi
    intro hp
    show _ ∧ _ ∧ _ ∧ _ ∧ i ∈ waA (roomF S).wa _ ∧ i ∈ waA (roomF S).wa _
    rw [e, e]; exact h.i3 p i hi hp
  · rw [e]; exact h.i4 i hi p
  · show _ ∨ _ ∨ _ ∨ (i ∈ waA (roomF S).wa _ ∧ i ∈ waA (roomF S).wa _)
    rw [e, e]; exact h.i5 i hi hp hb
  · rw [e] at hi; exact h.i6 p i hi
theorem room_len (h : Inv S) : (roomF S).wa.length = 2 * (S.n + 1) := by
  obtain ⟨K, hs⟩ := h.sf
  have := hs.wl
  unfold roomF; simp only [List.length_append, List.length_replicate]; omega

/-- A literal that follows is true. -/
theorem inv_set (h : Inv S) {l : Int} {r : Nat} (h1 : one l = true) (h2 : varZ l ≤ S.n) (h3 : valZ S.L l = 0) (hr : r < S.cs.length) (hp : (clA S.cs r).pr = true) (hl : l ∈ (clA S.cs r).ls) (ho : ∀ y ∈ (clA S.cs r).ls, y ≠ l → Tr S.L (-y)) : Inv (setF S l r) := by
  obtain ⟨K, hs⟩ := h.sf
  have hget : ∀ j x, (S.L ++ [⟨l, S.le.length, (r : Int)⟩])[j]? = some x → S.L[j]? = some x ∨ (j = S.L.length ∧ x = ⟨l, S.le.length, (r : Int)⟩) := fun j x hx => by
    rcases Nat.lt_or_ge j S.L.length with e | e
    · rw [List.getElem?_append_left e] at hx; exact .inl hx
    · rw [List.getElem?_append_right e] at hx
      by_cases e2 : j = S.L.length
      · subst e2; rw [Nat.sub_self] at hx; simp at hx; exact .inr ⟨rfl, hx.symm⟩
      · rw [List.getElem?_eq_none (by simp; omega)] at hx; cases hx
  refine ⟨⟨K, setF_sf hs h1 h2 h3 r⟩, h.nd, h.i1, h.i2, h.i3, h.i4, fun i hi hpi hb => ?_, fun p i hi hpi k hk j x hj hx => ?_, fun k hk => ?_, fun j x hx hx0 => ?_⟩
  · rcases h.i5 i hi hpi hb with e | ⟨k, e1, e2, x, e3, e4⟩ | ⟨x, e3, e4⟩ | e
    · exact .inl e
    · exact .inr (.inl ⟨k, e1, e2, x, List.mem_append_left _ e3, e4⟩)
    · exact .inr (.inr (.inl ⟨x, List.mem_append_left _ e3, e4⟩))
    · exact .inr (.inr (.inr e))
  · have hjl : j < S.L.length := by
      have := h.vk_le k hk
      have := h.vi_le
      have : vk (setF S l r) k = vk S k := rfl
      omega
    have hx' : S.L[j]? = some x := by
      rcases hget j x hx with e | ⟨e, _⟩
      · exact e
      · omega
    obtain ⟨a, b⟩ := h.i6 p i hi hpi k hk j x hj hx'
    exact ⟨fun e => by obtain ⟨y, hy, q⟩ := a e; exact ⟨y, List.mem_append_left _ hy, q⟩, fun e => by obtain ⟨y, hy, q⟩ := b e; exact ⟨y, List.mem_append_left _ hy, q⟩⟩
  · have hk : k < S.le.length := hk
    have := h.i7 k hk
    refine ⟨this.1, ?_⟩
    show vk S k ≤ upTo (S.L ++ [_]) k
    rw [upTo_snoc _ _ _ hk]; exact this.2
  · rcases hget j x hx with e | ⟨e, rfl⟩
    · obtain ⟨r', q1, q2, q3, q4, q5⟩ := h.i8 j x e hx0
      refine ⟨r', q1, q2, q3, q4, fun y hy hne => ?_⟩
      have hj : j ≤ S.L.length := by
        rcases Nat.lt_or_ge j S.L.length with a | a
        · omega
        · rw [List.getElem?_eq_none a] at e; cases e
      show Tr ((S.L ++ [_]).take j) (-y)
      rw [List.take_append_of_le_length hj]; exact q5 y hy hne
    · refine ⟨r, rfl, hr, hp, hl, fun y hy hne => ?_⟩
      show Tr ((S.L ++ [_]).take j) (-y)
      rw [e, List.take_left]; exact ho y hy hne
/-- A clause's marks beside. -/
theorem inv_cs (h : Inv S) {cs' : List Cl} (hl : cs'.length = S.cs.length) (he : ∀ i, (clA cs' i).pr = (clA S.cs i).pr ∧ (clA cs' i).ls = (clA S.cs i).ls ∧ (clA cs' i).w0 = (clA S.cs i).w0 ∧ (clA cs' i).w1 = (clA S.cs i).w1) (hs : ∃ K, Sf { S with cs := cs' } K) : Inv { S with cs := cs' } := by
  refine ⟨hs, fun i hi => ?_, h.i1, h.i2, fun p i hi hp => ?_, h.i4, fun i hi hp hb => ?_, fun p i hi hp => ?_, h.i7, fun j x hx h0 => ?_⟩
  · show (clA cs' i).ls.Nodup
    rw [(he i).2.1]; exact h.nd i (by rw [← hl]; exact hi)
  · have hp : (clA cs' i).pr = true := hp
    rw [(he i).1] at hp
    show (p = plc (clA cs' i).w0 ∨ p = plc (clA cs' i).w1) ∧ (clA cs' i).w0 ≠ (clA cs' i).w1 ∧ (clA cs' i).w0 ∈ (clA cs' i).ls ∧ (clA cs' i).w1 ∈ (clA cs' i).ls ∧ i ∈ waA S.wa (plc (clA cs' i).w0) ∧ i ∈ waA S.wa (plc (clA cs' i).w1)
    rw [(he i).2.1, (he i).2.2.1, (he i).2.2.2]; exact h.i3 p i hi hp
  · have hp : (clA cs' i).pr = true := hp
    have hb : bothB (clA cs' i).ls = false := hb
    rw [(he i).1] at hp
    rw [(he i).2.1] at hb
    show i ∈ S.lo ∨ (∃ k, k < S.le.length ∧ i ∈ (leA S.le k).2 ∧ ∃ x ∈ S.L, x.l ∈ (clA cs' i).ls ∧ x.lv ≤ k + 1) ∨ (∃ x ∈ S.L, x.l ∈ (clA cs' i).ls ∧ x.lv = 0) ∨ (i ∈ waA S.wa (plc (clA cs' i).w0) ∧ i ∈ waA S.wa (plc (clA cs' i).w1))
    rw [(he i).2.1, (he i).2.2.1, (he i).2.2.2]; exact h.i5 i (by rw [← hl]; exact hi) hp hb
  · have hp : (clA cs' i).pr = true := hp
    rw [(he i).1] at hp
    show ∀ k, k ≤ S.le.length → ∀ j x, j < vk S k → S.L[j]? = some x → (x.l = -(clA cs' i).w0 → ∃ y ∈ S.L, y.l = (clA cs' i).w1 ∧ y.lv ≤ k) ∧ (x.l = -(clA cs' i).w1 → ∃ y ∈ S.L, y.l = (clA cs' i).w0 ∧ y.lv ≤ k)
    rw [(he i).2.2.1, (he i).2.2.2]; exact h.i6 p i hi hp
  · obtain ⟨r, q1, q2, q3, q4, q5⟩ := h.i8 j x hx h0
    refine ⟨r, q1, by show r < cs'.length; omega, by show (clA cs' r).pr = true; rw [(he r).1]; exact q3, ?_, ?_⟩
    · show x.l ∈ (clA cs' r).ls
      rw [(he r).2.1]; exact q4
    · show ∀ y ∈ (clA cs' r).ls, y ≠ x.l → Tr (S.L.take j) (-y)
      rw [(he r).2.1]; exact q5
theorem inv_next (h : Inv S) {id : Nat} (hi : id < S.cs.length) : Inv (nextF S id) := by
  obtain ⟨K, hs⟩ := h.sf
  refine inv_cs h (by simp) (fun i => ?_) ⟨K, nextF_sf hs hi⟩
  rw [clA_set hi]
  by_cases e : i = id
  · rw [if_pos e, e]; exact ⟨rfl, rfl, rfl, rfl⟩
  · rw [if_neg e]; exact ⟨rfl, rfl, rfl, rfl⟩
/-- A clause is watched anew. -/
theorem inv_watch (h : Inv S) {id : Nat} (hi : id < S.cs.length) (hp : (clA S.cs id).pr = true) {a b : Int} (hab : a ≠ b) (ha : a ∈ (clA S.cs id).ls) (hb : b ∈ (clA S.cs id).ls)
    (hv : ∀ k, k ≤ S.le.length → ∀ j x, j < vk S k → S.L[j]? = some x → x.l ≠ -a ∧ x.l ≠ -b) {wa' : List (List Nat)} {lo' : List Nat}
    (w1 : ∀ p, (waA wa' p).Nodup) (w2 : ∀ p i, i ≠ id → (i ∈ waA wa' p ↔ i ∈ waA S.wa p)) (w3 : ∀ p, id ∈ waA wa' p ↔ (p = plc a ∨ p = plc b)) (w4 : ∀ i, i ∈ lo' ↔ (i ∈ S.lo ∧ i ≠ id)) (w5 : (lo' ++ S.le.flatMap Prod.snd).Nodup) (w6 : id ∉ S.le.flatMap Prod.snd)
    (hs : ∃ K, Sf { S with cs := S.cs.set id { clA S.cs id with w0 := a, w1 := b }, wa := wa', lo := lo' } K) : Inv { S with cs := S.cs.set id { clA S.cs id with w0 := a, w1 := b }, wa := wa', lo := lo' } := by
  have hc : ∀ i, clA (S.cs.set id { clA S.cs id with w0 := a, w1 := b }) i = if i = id then { clA S.cs id with w0 := a, w1 := b } else clA S.cs i := fun i => clA_set hi _ i
  refine ⟨hs, fun i hi' => ?_, w5, w1, fun p i hm hpi => ?_, fun i hm p hin => ?_, fun i hi' hpi hbi => ?_, fun p i hm hpi k hk j x hj hx => ?_, h.i7, fun j x hx h0 => ?_⟩
  · simp only [List.length_set] at hi'
    show (clA (S.cs.set id _) i).ls.Nodup
    rw [hc]
    split
    · exact h.nd id hi
    · exact h.nd i hi'
  · have hm : i ∈ waA wa' p := hm
    have hpi : (clA (S.cs.set id { clA S.cs id with w0 := a, w1 := b }) i).pr = true := hpi
    show (p = plc (clA (S.cs.set id { clA S.cs id with w0 := a, w1 := b }) i).w0 ∨ p = plc (clA (S.cs.set id { clA S.cs id with w0 := a, w1 := b }) i).w1) ∧ (clA (S.cs.set id { clA S.cs id with w0 := a, w1 := b }) i).w0 ≠ (clA (S.cs.set id { clA S.cs id with w0 := a, w1 := b }) i).w1 ∧ (clA (S.cs.set id { clA S.cs id with w0 := a, w1 := b }) i).w0 ∈ (clA (S.cs.set id { clA S.cs id with w0 := a, w1 := b }) i).ls ∧ (clA (S.cs.set id { clA S.cs id with w0 := a, w1 := b }) i).w1 ∈ (clA (S.cs.set id { clA S.cs id with w0 := a, w1 := b }) i).ls ∧ i ∈ waA wa' (plc (clA (S.cs.set id { clA S.cs id with w0 := a, w1 := b }) i).w0) ∧ i ∈ waA wa' (plc (clA (S.cs.set id { clA S.cs id with w0 := a, w1 := b }) i).w1)
    rw [hc] at hpi ⊢
    by_cases e : i = id
    · rw [if_pos e]
      subst e
      exact ⟨(w3 p).1 hm, hab, ha, hb, (w3 _).2 (.inl rfl), (w3 _).2 (.inr rfl)⟩
    · rw [if_neg e] at hpi ⊢
      obtain ⟨a1, a2, a3, a4, a5, a6⟩ := h.i3 p i ((w2 p i e).1 hm) hpi
      exact ⟨a1, a2, a3, a4, (w2 _ i e).2 a5, (w2 _ i e).2 a6⟩
  · have hin : i ∈ waA wa' p := hin
    have hm : i ∈ lo' ++ S.le.flatMap Prod.snd := hm
    have hne : i ≠ id := by
      rintro rfl
      rcases List.mem_append.1 hm with e | e
      · exact ((w4 i).1 e).2 rfl
      · exact w6 e
    refine h.i4 i ?_ p ((w2 p i hne).1 hin)
    rcases List.mem_append.1 hm with e | e
    · exact List.mem_append_left _ ((w4 i).1 e).1
    · exact List.mem_append_right _ e
  · simp only [List.length_set] at hi'
    have hpi : (clA (S.cs.set id { clA S.cs id with w0 := a, w1 := b }) i).pr = true := hpi
    have hbi : bothB (clA (S.cs.set id { clA S.cs id with w0 := a, w1 := b }) i).ls = false := hbi
    show i ∈ lo' ∨ (∃ k, k < S.le.length ∧ i ∈ (leA S.le k).2 ∧ ∃ x ∈ S.L, x.l ∈ (clA (S.cs.set id { clA S.cs id with w0 := a, w1 := b }) i).ls ∧ x.lv ≤ k + 1) ∨ (∃ x ∈ S.L, x.l ∈ (clA (S.cs.set id { clA S.cs id with w0 := a, w1 := b }) i).ls ∧ x.lv = 0) ∨ (i ∈ waA wa' (plc (clA (S.cs.set id { clA S.cs id with w0 := a, w1 := b }) i).w0) ∧ i ∈ waA wa' (plc (clA (S.cs.set id { clA S.cs id with w0 := a, w1 := b }) i).w1))
    rw [hc] at hpi hbi ⊢
    by_cases e : i = id
    · rw [if_pos e]
      subst e
      exact .inr (.inr (.inr ⟨(w3 _).2 (.inl rfl), (w3 _).2 (.inr rfl)⟩))
    · rw [if_neg e] at hpi hbi ⊢
      rcases h.i5 i hi' hpi hbi with q | q | q | ⟨q1, q2⟩
      · exact .inl ((w4 i).2 ⟨q, e⟩)
      · exact .inr (.inl q)
      · exact .inr (.inr (.inl q))
      · exact .inr (.inr (.inr ⟨(w2 _ i e).2 q1, (w2 _ i e).2 q2⟩))
  · have hm : i ∈ waA wa' p := hm
    have hpi : (clA (S.cs.set id { clA S.cs id with w0 := a, w1 := b }) i).pr = true := hpi
    have hj : j < vk S k := hj
    have hk : k ≤ S.le.length := hk
    have hx : S.L[j]? = some x := hx
    show (x.l = -(clA (S.cs.set id { clA S.cs id with w0 := a, w1 := b }) i).w0 → ∃ y ∈ S.L, y.l = (clA (S.cs.set id { clA S.cs id with w0 := a, w1 := b }) i).w1 ∧ y.lv ≤ k) ∧ (x.l = -(clA (S.cs.set id { clA S.cs id with w0 := a, w1 := b }) i).w1 → ∃ y ∈ S.L, y.l = (clA (S.cs.set id { clA S.cs id with w0 := a, w1 := b }) i).w0 ∧ y.lv ≤ k)
    rw [hc] at hpi ⊢
    by_cases e : i = id
    · rw [if_pos e]
      have := hv k hk j x hj hx
      exact ⟨fun q => absurd q this.1, fun q => absurd q this.2⟩
    · rw [if_neg e] at hpi ⊢
      exact h.i6 p i ((w2 p i e).1 hm) hpi k hk j x hj hx
  · obtain ⟨r, q1, q2, q3, q4, q5⟩ := h.i8 j x hx h0
    refine ⟨r, q1, by simp only [List.length_set]; exact q2, ?_, ?_, ?_⟩
    · show (clA (S.cs.set id _) r).pr = true
      rw [hc]; split
      · exact hp
      · exact q3
    · show x.l ∈ (clA (S.cs.set id _) r).ls
      rw [hc]; split
      · rename_i e; subst e; exact q4
      · exact q4
    · show ∀ y ∈ (clA (S.cs.set id _) r).ls, y ≠ x.l → Tr (S.L.take j) (-y)
      rw [hc]; split
      · rename_i e; subst e; exact q5
      · exact q5
end
end Go.Proofs.Ytjhopjokllkipaa
