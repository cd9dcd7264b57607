/- Proofs in plain words: closed sets of literals, what follows of clauses, what an engine tells of it, and the clauses at hand of a log. No program. -/
import Derived.Test.YtkckodpfhlpkgaaGreatLrnM
import Derived.Test.YtkckodpfhlpkgaaGreatEGo
namespace Go.Proofs.YtkckodpfhlpkgaaGreat
open LitM TrailM EngM

/-- Literals that follow of clauses, all together: none is true and false, and of no clause just one is left. -/
structure ClsK (K : List Int → Prop) (T : Int → Prop) : Prop where
  con : ∀ y, LitM.one y = true → T y → T (-y) → False
  ful : ∀ c, K c → bothB c = false → (∃ y ∈ c, T y) ∨ ∃ a b, a ∈ c ∧ b ∈ c ∧ a ≠ b ∧ ¬ T a ∧ ¬ T (-a) ∧ ¬ T b ∧ ¬ T (-b)
/-- A clause follows. -/
def Rup (K : List Int → Prop) (c : List Int) : Prop := ∀ T, ClsK K T → ¬ ∀ l ∈ c, T (-l)
/-- An engine has a clause. -/
def hasE (S : Eng) (c : List Int) : Prop := ∃ i, i < S.cs.length ∧ (clA S.cs i).pr = true ∧ (clA S.cs i).ls = c
theorem cls_has {S : Eng} {T : Int → Prop} : Cls S T ↔ ClsK (hasE S) T := by
  constructor
  · intro h
    refine ⟨h.con, ?_⟩
    rintro c ⟨i, hi, hp, rfl⟩ hb
    exact h.ful i hi hp hb
  · intro h
    exact ⟨h.con, fun i hi hp hb => h.ful _ ⟨i, hi, hp, rfl⟩ hb⟩
theorem Rup.mono {K K' : List Int → Prop} {c : List Int} (r : Rup K c) (h : ∀ c, K c → K' c) : Rup K' c := fun T hT => r T ⟨hT.con, fun c hc => hT.ful c (h c hc)⟩
theorem Rup.more {K : List Int → Prop} {c d : List Int} (r : Rup K c) (h : ∀ x ∈ c, x ∈ d) : Rup K d := fun T hT hd => r T hT fun l hl => hd l (h l hl)
theorem Rup.iff {K K' : List Int → Prop} {c : List Int} (h : ∀ c, K c ↔ K' c) : Rup K c ↔ Rup K' c := ⟨fun r => r.mono fun c => (h c).1, fun r => r.mono fun c => (h c).2⟩

section
variable {S : Eng} {T : Int → Prop}
theorem entries_in (hI : Inv S) (h : Cls S T) (hd : ∀ x ∈ S.L, x.rs < 0 → T x.l) : ∀ (j : Nat) (x : Ent), S.L[j]? = some x → T x.l := by
  intro j
  induction j using Nat.strongRecOn with
  | _ j ih =>
    intro x hx
    by_cases h0 : 0 ≤ x.rs
    · obtain ⟨r, _, q2, q3, qb, q4, q5⟩ := reason_of hI hx h0
      refine h.unit hI q2 q3 qb fun y hy hne => ?_
      obtain ⟨z, hz, e⟩ := q5 y hy hne
      obtain ⟨i, hi, hz⟩ := get_take hz
      rw [← e]; exact ih i hi z hz
    · exact hd x (List.mem_of_getElem? hx) (by omega)
theorem tr_in (hI : Inv S) (h : Cls S T) (hd : ∀ x ∈ S.L, x.rs < 0 → T x.l) {y : Int} (hy : Tr S.L y) : T y := by
  obtain ⟨x, hx, rfl⟩ := hy
  obtain ⟨j, hj, rfl⟩ := List.getElem_of_mem hx
  exact entries_in hI h hd j _ (List.getElem?_eq_getElem hj)
theorem conf_none (hI : Inv S) (h : Cls S T) (hd : ∀ x ∈ S.L, x.rs < 0 → T x.l) {id : Int} (hc : Conf S id) : False := by
  obtain ⟨i, _, hi, hp, hf⟩ := hc
  exact h.none hI hi hp fun y hy => tr_in hI h hd (hf y hy)
theorem done_cls (hI : Inv S) (hvi : S.vi = S.L.length) (hlo : S.lo = []) : Cls S (Tr S.L) :=
  ⟨fun _ hy a b => tr_both hI.pre hy a b, fun _ hi hp hb => prop_done hI hvi hlo hi hp hb⟩
end
/-- A literal more, that no clause has. -/
def withX (N : Int) (T : Int → Prop) (y : Int) : Prop := y = N ∨ (y ≠ -N ∧ T y)
theorem withX_off {N y : Int} {T : Int → Prop} (h1 : y ≠ N) (h2 : y ≠ -N) : withX N T y ↔ T y := by simp [withX, h1, h2]
theorem ClsK.extra {K : List Int → Prop} {T : Int → Prop} (h : ClsK K T) {N : Int} (hN : 0 < N) (hv : ∀ c, K c → ∀ y ∈ c, y ≠ N ∧ y ≠ -N) : ClsK K (withX N T) := by
  refine ⟨fun y hy a b => ?_, fun c hc hb => ?_⟩
  · rcases a with rfl | ⟨a1, a2⟩
    · rcases b with b | ⟨b1, _⟩
      · omega
      · exact b1 rfl
    · rcases b with b | ⟨_, b2⟩
      · exact a1 (by omega)
      · exact h.con y hy a2 b2
  · have off : ∀ y ∈ c, (withX N T y ↔ T y) ∧ (withX N T (-y) ↔ T (-y)) := fun y hy => by
      obtain ⟨h1, h2⟩ := hv c hc y hy
      exact ⟨withX_off h1 h2, withX_off (by omega) (by omega)⟩
    rcases h.ful c hc hb with ⟨y, hy, t⟩ | ⟨a, b, ha, hb', hab, a1, a2, b1, b2⟩
    · exact .inl ⟨y, hy, (off y hy).1.2 t⟩
    · exact .inr ⟨a, b, ha, hb', hab, fun e => a1 ((off a ha).1.1 e), fun e => a2 ((off a ha).2.1 e), fun e => b1 ((off b hb').1.1 e), fun e => b2 ((off b hb').2.1 e)⟩

/-- All literals of a clause are false; true, if one of them can't be. -/
def denyF : List Int → Eng → Eng × Bool
  | [], S => (S, false)
  | l :: r, S => if valZ S.L l = 1 then (S, true) else denyF r (decE S (notZ l))
/-- Of S came S', at a greater level than d: the clauses are the same, and what was decided since is in D. -/
structure Went (S S' : Eng) (N : Int) (d : Nat) (D : Int → Prop) : Prop where
  inv : Inv S'
  n : S'.n = S.n
  cs : S'.cs.length = S.cs.length
  cl : ∀ i, (clA S'.cs i).pr = (clA S.cs i).pr ∧ (clA S'.cs i).ls = (clA S.cs i).ls
  le : d ≤ S'.le.length
  dec : ∀ x ∈ S'.L, x.rs < 0 → x.l = N ∨ (d < x.lv ∧ D x.l)
  tr : ∀ y, Tr S.L y → Tr S'.L y
  lv1 : ∀ x ∈ S'.L, 1 ≤ x.lv
section
variable {S S' S'' : Eng} {N : Int} {d : Nat} {D : Int → Prop}
theorem Went.has (h : Went S S' N d D) (c : List Int) : hasE S' c ↔ hasE S c := by
  constructor
  · rintro ⟨i, hi, hp, hl⟩
    exact ⟨i, by rw [← h.cs]; exact hi, by rw [← (h.cl i).1]; exact hp, by rw [← (h.cl i).2]; exact hl⟩
  · rintro ⟨i, hi, hp, hl⟩
    exact ⟨i, by rw [h.cs]; exact hi, by rw [(h.cl i).1]; exact hp, by rw [(h.cl i).2]; exact hl⟩
theorem Went.start (hI : Inv S) (hd : d ≤ S.le.length) (h : ∀ x ∈ S.L, x.rs < 0 → x.l = N) (h1 : ∀ x ∈ S.L, 1 ≤ x.lv) : Went S S N d D :=
  ⟨hI, rfl, rfl, fun _ => ⟨rfl, rfl⟩, hd, fun x hx hr => .inl (h x hx hr), fun _ h => h, h1⟩
theorem Went.dec1 (h : Went S S' N d D) {l : Int} (hD : D l) : Went S (decE S' l) N d D := by
  have hI := inv_decE h.inv l
  unfold decE at hI ⊢
  by_cases he : errZ S'.n S'.L l = 0
  · rw [if_pos he] at hI ⊢
    refine ⟨hI, h.n, h.cs, h.cl, ?_, fun x hx hr => ?_, fun y hy => tr_app (h.tr y hy), fun x hx => ?_⟩
    · show d ≤ (S'.le ++ [_]).length
      have := h.le
      simp; omega
    · have hx : x ∈ S'.L ++ [⟨l, S'.le.length + 1, -1⟩] := hx
      rcases List.mem_append.1 hx with e | e
      · exact h.dec x e hr
      · have : x = ⟨l, S'.le.length + 1, -1⟩ := by simpa using e
        subst this
        have := h.le
        exact .inr ⟨by show d < S'.le.length + 1; omega, hD⟩
    · have hx : x ∈ S'.L ++ [⟨l, S'.le.length + 1, -1⟩] := hx
      rcases List.mem_append.1 hx with e | e
      · exact h.lv1 x e
      · have : x = ⟨l, S'.le.length + 1, -1⟩ := by simpa using e
        subst this
        show 1 ≤ S'.le.length + 1; omega
  · rw [if_neg he] at hI ⊢; exact h
/-- A literal that isn't true and is then decided against is false. -/
theorem dec_false (hI : Inv S) {l : Int} (ho : LitM.one l = true) (hn : varZ l ≤ (S.n : Int)) (hv : valZ S.L l ≠ 1) : Tr (decE S (notZ l)).L (-l) := by
  have hl : notZ l = -l := not_one ho
  by_cases h0 : valZ S.L l = 0
  · have hf : findE S.L (varZ l) = none := by
      unfold valZ at h0
      split at h0
      · split at h0 <;> omega
      · assumption
    have he : errZ S.n S.L (-l) = 0 := by
      unfold errZ
      rw [var_neg ho, one_neg ho, hf]
      simp; omega
    unfold decE
    rw [hl, if_pos he]
    exact ⟨⟨-l, S.le.length + 1, -1⟩, by show _ ∈ S.L ++ [_]; simp, rfl⟩
  · have hm : valZ S.L l = -1 := by
      unfold valZ at hv h0 ⊢
      split at hv
      · split at hv <;> simp_all
      · simp_all
    have ht : Tr S.L (-l) := (val_neg hI.pre ho).1 hm
    unfold decE
    split
    · exact tr_app ht
    · exact ht
theorem deny_went : ∀ (c : List Int) (S' : Eng), Went S S' N d D → (∀ l ∈ c, LitM.one l = true ∧ varZ l ≤ (S.n : Int) ∧ D (-l)) →
    Went S (denyF c S').1 N d D ∧ (∀ y, Tr S'.L y → Tr (denyF c S').1.L y) ∧ ((denyF c S').2 = true → ∃ l ∈ c, Tr (denyF c S').1.L l) ∧ ((denyF c S').2 = false → ∀ l ∈ c, Tr (denyF c S').1.L (-l))
  | [], S', h, _ => ⟨h, fun _ h => h, fun e => (by simp [denyF] at e), fun _ _ hl => (by simp at hl)⟩
  | l :: r, S', h, hc => by
    obtain ⟨ho, hn, hD⟩ := hc l (by simp)
    unfold denyF
    by_cases hv : valZ S'.L l = 1
    · rw [if_pos hv]
      exact ⟨h, fun _ h => h, fun _ => ⟨l, by simp, (val_one h.inv.pre).1 hv⟩, fun e => (by simp at e)⟩
    · rw [if_neg hv]
      have h1 : Went S (decE S' (notZ l)) N d D := h.dec1 (by rw [not_one ho]; exact hD)
      obtain ⟨a1, a2, a3, a4⟩ := deny_went r _ h1 (fun x hx => hc x (List.mem_cons_of_mem _ hx))
      have ht : ∀ y, Tr S'.L y → Tr (decE S' (notZ l)).L y := fun y hy => by
        unfold decE
        split
        · exact tr_app hy
        · exact hy
      refine ⟨a1, fun y hy => a2 y (ht y hy), fun e => ?_, fun e x hx => ?_⟩
      · obtain ⟨x, hx, t⟩ := a3 e
        exact ⟨x, List.mem_cons_of_mem _ hx, t⟩
      · rcases List.mem_cons.1 hx with rfl | hx
        · exact a2 _ (dec_false h.inv ho (by rw [h.n]; exact hn) hv)
        · exact a4 e x hx
theorem Went.prop (h : Went S S' N d D) (hl : 1 ≤ S'.le.length) : Went S (propF S').1 N d D := by
  obtain ⟨a, k, _⟩ := inv_prop h.inv
  obtain ⟨M, k1, k2⟩ := k.L
  have k1 : (propF S').1.L = S'.L ++ M := k1
  have kn : (propF S').1.n = S'.n := k.n
  have kc : (propF S').1.cs.length = S'.cs.length := k.cs
  have kl : (propF S').1.le.length = S'.le.length := k.le
  refine ⟨a, kn.trans h.n, kc.trans h.cs, fun i => ?_, ?_, fun x hx hr => ?_, fun y hy => ?_, fun x hx => ?_⟩
  · have e1 : (clA (propF S').1.cs i).pr = (clA S'.cs i).pr ∧ (clA (propF S').1.cs i).ls = (clA S'.cs i).ls := k.cl i
    exact ⟨e1.1.trans (h.cl i).1, e1.2.trans (h.cl i).2⟩
  · rw [kl]; exact h.le
  · rw [k1] at hx
    rcases List.mem_append.1 hx with e | e
    · exact h.dec x e hr
    · have := (k2 x e).1; omega
  · rw [k1]; exact tr_app (h.tr y hy)
  · rw [k1] at hx
    rcases List.mem_append.1 hx with e | e
    · exact h.lv1 x e
    · have e2 : x.lv = S'.le.length := (k2 x e).2
      omega
theorem Went.back (h : Went S S' N d D) : Inv (backE S' d) ∧ (backE S' d).n = S.n ∧ (backE S' d).cs.length = S.cs.length ∧ (∀ i, (clA (backE S' d).cs i).pr = (clA S.cs i).pr ∧ (clA (backE S' d).cs i).ls = (clA S.cs i).ls) ∧ (backE S' d).le.length = d ∧ (∀ x ∈ (backE S' d).L, x.rs < 0 → x.l = N) ∧ ∀ x ∈ (backE S' d).L, 1 ≤ x.lv ∧ x.lv ≤ d := by
  have hlv : levB S' (d : Int) = true := by unfold levB; have := h.le; simp; omega
  have hb : backE S' d = backF S' d := by unfold backE; rw [if_pos hlv]; rfl
  rw [hb]
  have hcs : (backF S' d).cs = S'.cs := by unfold backF; split <;> rfl
  have hn : (backF S' d).n = S'.n := by unfold backF; split <;> rfl
  have hx2 : ∀ x ∈ (backF S' d).L, x ∈ S'.L ∧ x.lv ≤ d := fun x hx => by
    unfold backF at hx
    split at hx
    · rename_i e
      exact ⟨hx, by rw [e]; exact (h.inv.pre.one x hx).2.2⟩
    · exact up_lv h.inv.pre hx
  refine ⟨inv_back h.inv h.le, hn.trans h.n, by rw [hcs]; exact h.cs, fun i => by rw [hcs]; exact h.cl i, back_len h.le, fun x hx hr => ?_, fun x hx => ⟨h.lv1 x (hx2 x hx).1, (hx2 x hx).2⟩⟩
  rcases h.dec x (hx2 x hx).1 hr with e | ⟨e, _⟩
  · exact e
  · have := (hx2 x hx).2
    omega
end
/-- What follows of a team's engine: a conflict, just if the clause follows. -/
structure TeamE (S : Eng) (n : Nat) : Prop where
  inv : Inv S
  nn : S.n = n + 1
  vr : ∀ c, hasE S c → ∀ y ∈ c, LitM.one y = true ∧ varZ y ≤ (n : Int)
  dec : ∀ x ∈ S.L, x.rs < 0 → x.l = (n + 1 : Int)
  lv1 : ∀ x ∈ S.L, 1 ≤ x.lv
  nb : n ≤ 10000
section
variable {S : Eng} {n d : Nat}
theorem off_of {n : Nat} {y : Int} (h1 : LitM.one y = true) (h2 : varZ y ≤ (n : Int)) : y ≠ (n : Int) + 1 ∧ y ≠ -((n : Int) + 1) := by
  rcases (one_iff y).1 h1 with e | e
  · rw [varZ_pos e.1 e.2] at h2; omega
  · rw [varZ_neg e.1 e.2] at h2; omega
theorem TeamE.extra (h : TeamE S n) {S' : Eng} {D : Int → Prop} (hw : Went S S' (n + 1 : Int) d D) {T : Int → Prop} (hT : ClsK (hasE S) T) (hD : ∀ y, D y → LitM.one y = true ∧ varZ y ≤ (n : Int) ∧ T y) :
    Cls S' (withX (n + 1 : Int) T) ∧ ∀ x ∈ S'.L, x.rs < 0 → withX (n + 1 : Int) T x.l := by
  refine ⟨cls_has.2 ?_, fun x hx hr => ?_⟩
  · have h1 := hT.extra (N := (n + 1 : Int)) (by omega) (fun c hc y hy => off_of (h.vr c hc y hy).1 (h.vr c hc y hy).2)
    exact ⟨h1.con, fun c hc => h1.ful c ((hw.has c).1 hc)⟩
  · rcases hw.dec x hx hr with e | ⟨_, e⟩
    · exact .inl e
    · obtain ⟨a, b, c⟩ := hD _ e
      obtain ⟨o1, o2⟩ := off_of a b
      exact (withX_off o1 o2).2 c
/-- The base: a conflict of the clauses alone. -/
theorem TeamE.base (h : TeamE S n) : Went S (propF (decE S (n + 1 : Int))).1 (n + 1 : Int) 0 (fun _ => False) ∧ 1 ≤ (propF (decE S (n + 1 : Int))).1.le.length ∧ ((propF (decE S (n + 1 : Int))).2 ≠ -1 → ∀ c, Rup (hasE S) c) := by
  have h0 : Went S S (n + 1 : Int) 0 (fun _ => False) := Went.start h.inv (Nat.zero_le _) h.dec h.lv1
  have h1 : Went S (decE S (n + 1 : Int)) (n + 1 : Int) 0 (fun _ => False) := by
    have hI := inv_decE h.inv (n + 1 : Int)
    unfold decE at hI ⊢
    split at hI
    · rename_i he
      rw [if_pos he]
      refine ⟨hI, rfl, rfl, fun _ => ⟨rfl, rfl⟩, Nat.zero_le _, fun x hx hr => ?_, fun y hy => tr_app hy, fun x hx => ?_⟩
      have hx : x ∈ S.L ++ [⟨(n + 1 : Int), S.le.length + 1, -1⟩] := hx
      rcases List.mem_append.1 hx with e | e
      · exact .inl (h.dec x e hr)
      · have : x = ⟨(n + 1 : Int), S.le.length + 1, -1⟩ := by simpa using e
        subst this; exact .inl rfl
      · have hx : x ∈ S.L ++ [⟨(n + 1 : Int), S.le.length + 1, -1⟩] := hx
        rcases List.mem_append.1 hx with e | e
        · exact h.lv1 x e
        · have : x = ⟨(n + 1 : Int), S.le.length + 1, -1⟩ := by simpa using e
          subst this
          show 1 ≤ S.le.length + 1; omega
    · rename_i he
      rw [if_neg he]; exact h0
  have hl : 1 ≤ (decE S (n + 1 : Int)).le.length := by
    unfold decE
    by_cases he : errZ S.n S.L (n + 1 : Int) = 0
    · rw [if_pos he]; simp [decideF]
    · rw [if_neg he]
      have hnb := h.nb
      have ho : LitM.one (n + 1 : Int) = true := (one_iff _).2 (by omega)
      have hv : varZ (n + 1 : Int) = (n + 1 : Int) := varZ_pos (by omega) (by omega)
      have hs : (findE S.L (varZ (n + 1 : Int))).isSome = true := by
        unfold errZ at he
        rw [if_neg (by rw [ho, hv, h.nn]; simp)] at he
        by_cases q : (findE S.L (varZ (n + 1 : Int))).isSome = true
        · exact q
        · rw [if_neg q] at he; exact absurd rfl he
      obtain ⟨x, hx⟩ := Option.isSome_iff_exists.1 hs
      have hm := (findE_some hx).1
      have h3 := h.lv1 x hm
      have h4 := (h.inv.pre.one x hm).2.2
      omega
  have h2 := h1.prop hl
  refine ⟨h2, by rw [prop_len h1.inv]; exact hl, fun hne c T hT hc => ?_⟩
  obtain ⟨a1, a2⟩ := h.extra h2 hT (fun y hy => hy.elim)
  rcases (inv_prop h1.inv).2.2 with ⟨e, _⟩ | e
  · exact hne e
  · exact conf_none h2.inv a1 a2 e
/-- A clause: denied, and propagated where none of its literals is true. -/
theorem TeamE.follows (h : TeamE S n) (hd1 : 1 ≤ d) (hd : d ≤ S.le.length) {c : List Int} (hc : ∀ l ∈ c, LitM.one l = true ∧ varZ l ≤ (n : Int)) :
    Went S (denyF c S).1 (n + 1 : Int) d (fun y => -y ∈ c) ∧ ((denyF c S).2 = true → Rup (hasE S) c) ∧
    ((denyF c S).2 = false → Went S (propF (denyF c S).1).1 (n + 1 : Int) d (fun y => -y ∈ c) ∧ ((propF (denyF c S).1).2 ≠ -1 ↔ Rup (hasE S) c)) := by
  have h0 : Went S S (n + 1 : Int) d (fun y => -y ∈ c) := Went.start h.inv hd h.dec h.lv1
  obtain ⟨a1, _, a3, a4⟩ := deny_went (D := fun y => -y ∈ c) c S h0 (fun l hl => ⟨(hc l hl).1, by have := (hc l hl).2; have := h.nn; omega, by rw [not_not]; exact hl⟩)
  have dd : ∀ {T : Int → Prop}, (∀ l ∈ c, T (-l)) → ∀ y, -y ∈ c → LitM.one y = true ∧ varZ y ≤ (n : Int) ∧ T y := fun {T} hT y hy => by
    have o := hc _ hy
    have o1 := one_neg o.1
    rw [not_not] at o1
    refine ⟨o1, ?_, ?_⟩
    · have := o.2; rw [var_neg o1] at this; exact this
    · have := hT _ hy; rw [not_not] at this; exact this
  refine ⟨a1, fun e T hT hcl => ?_, fun e => ?_⟩
  · obtain ⟨b1, b2⟩ := h.extra a1 hT (dd hcl)
    obtain ⟨l, hl, t⟩ := a3 e
    have o := hc l hl
    obtain ⟨o1, o2⟩ := off_of o.1 o.2
    exact hT.con l o.1 ((withX_off o1 o2).1 (tr_in a1.inv b1 b2 t)) (hcl l hl)
  · have h2 := a1.prop (Nat.le_trans hd1 a1.le)
    refine ⟨h2, fun hne T hT hcl => ?_, fun r hm => ?_⟩
    · obtain ⟨b1, b2⟩ := h.extra h2 hT (dd hcl)
      rcases (inv_prop a1.inv).2.2 with ⟨e, _⟩ | e
      · exact hne e
      · exact conf_none h2.inv b1 b2 e
    · rcases (inv_prop a1.inv).2.2 with ⟨_, e1, e2⟩ | ⟨id, e1, _⟩
      · have hcl := done_cls h2.inv e1 e2
        obtain ⟨k1, k2⟩ := (inv_prop a1.inv).2.1.L
        refine r _ ⟨(cls_has.1 hcl).con, fun c' hc' => (cls_has.1 hcl).ful c' ((h2.has c').2 hc')⟩ fun l hl => ?_
        have k3 : (propF (denyF c S).1).1.L = (denyF c S).1.L ++ k1 := k2.1
        rw [k3]
        exact tr_app (a4 e l hl)
      · rw [hm] at e1; omega
end
end Go.Proofs.YtkckodpfhlpkgaaGreat
