/- Plain facts: where what is read stands. No program. -/
import Derived.Test.YtmkhfcdjgdofnaaDoorParJ
namespace Go.Proofs.YtmkhfcdjgdofnaaDoor.ParM
open WrdM TreM

/-- A word within N lines, M columns; the end may stand one further. -/
def PlOk (N M : Int) (t : Tok) : Prop := 1 ≤ t.line ∧ t.line ≤ N ∧ 1 ≤ t.col ∧ t.col ≤ M + 1 ∧ (t.kind ≠ 5 → t.col ≤ M) ∧ (t.kind = 5 → t.text = [])
/-- All parts stand so. -/
inductive PlEx (N M : Int) : Ex → Prop
  | mk (o n : Int) (s : List UInt8) (ks : List Ex) (l c : Int) : 1 ≤ l → l ≤ N → 1 ≤ c → c ≤ M → (∀ k ∈ ks, PlEx N M k) → PlEx N M (.mk o n s ks l c)
def PlR (N M : Int) : Res Ex → Prop
  | .bad l c => 1 ≤ l ∧ l ≤ N ∧ 1 ≤ c ∧ c ≤ M + 1
  | .ok x r => PlEx N M x ∧ hasOp 4 x = false ∧ EndsT r ∧ ∀ t ∈ r, PlOk N M t
def OutPl (N M : Int) : Out → Prop
  | .bad _ l c => 1 ≤ l ∧ l ≤ N ∧ 1 ≤ c ∧ c ≤ M + 1
  | .ok ts => ts ≠ [] ∧ ∀ t ∈ ts, PlOk N M t
theorem go_place : ∀ (cs : List UInt8) (k : Nat) (r : Bool) (L C N M : Int), 1 ≤ L → 1 ≤ C → L + (cs.count 10 : Nat) ≤ N → C + cs.length ≤ M + 1 → OutPl N M (go k r L C cs)
  | [], k, r, L, C, N, M, h1, h2, h3, h4 => by
    have hg : go k r L C [] = .ok [⟨5, [], 0, L, C⟩] := by cases k <;> rfl
    rw [hg]
    simp only [List.count_nil, List.length_nil] at h3 h4
    refine ⟨by simp, fun t ht => ?_⟩
    have : t = ⟨5, [], 0, L, C⟩ := by simpa using ht
    subst this
    exact ⟨h1, by show L ≤ N; omega, h2, by show C ≤ M + 1; omega, fun h => absurd rfl h, fun _ => rfl⟩
  | c :: cs, k + 1, r, L, C, N, M, h1, h2, h3, h4 => by
    rw [go]
    rw [List.length_cons] at h4
    have hn : 1 ≤ nl L c ∧ nl L c + (cs.count 10 : Nat) ≤ N := by
      rw [List.count_cons] at h3
      unfold nl
      split <;> rename_i he
      · rw [if_pos he] at h3; omega
      · rw [if_neg he] at h3; omega
    have hc : 1 ≤ nc C c ∧ nc C c ≤ C + 1 := by unfold nc; split <;> omega
    exact go_place cs k r _ _ N M hn.1 hc.1 hn.2 (by omega)
  | c :: cs, 0, r, L, C, N, M, h1, h2, h3, h4 => by
    rw [go]
    rw [List.length_cons] at h4
    rw [List.count_cons] at h3
    split
    · rename_i he
      rw [if_pos he] at h3
      exact go_place cs 0 false _ _ N M (by omega) (by omega) (by omega) (by omega)
    · rename_i he
      rw [if_neg he] at h3
      split
      · exact go_place cs 0 true _ _ N M h1 (by omega) (by omega) (by omega)
      · split
        · exact go_place cs 0 false _ _ N M h1 (by omega) (by omega) (by omega)
        · split
          · rename_i hw
            have hw : (wordL (c :: cs)).err = 0 := by simpa using hw
            obtain ⟨d, ds, r', e1, e2, e3, e4⟩ := wordL_pre (c :: cs) hw
            obtain ⟨k1, _⟩ := word_ok hw
            have ih := go_place cs ((wordL (c :: cs)).text.length - 1) false L (C + 1) N M h1 (by omega) (by omega) (by omega)
            cases hg : go ((wordL (c :: cs)).text.length - 1) false L (C + 1) cs with
            | bad e l c2 => rw [hg] at ih; exact ih
            | ok us =>
              rw [hg] at ih
              refine ⟨by simp, fun t ht => ?_⟩
              rcases List.mem_cons.1 ht with rfl | ht
              · exact ⟨h1, by show L ≤ N; omega, h2, by show C ≤ M + 1; omega, fun _ => by show C ≤ M; omega, fun h => absurd h k1⟩
              · exact ih.2 t ht
          · exact ⟨h1, by omega, h2, by omega⟩
theorem fail_pl {N M : Int} {L : List Tok} (hn : EndsT L) (h : ∀ t ∈ L, PlOk N M t) : PlR N M (failR L) := by
  cases L with
  | nil => exact absurd hn (fun h => h)
  | cons t r => exact ⟨(h t (by simp)).1, (h t (by simp)).2.1, (h t (by simp)).2.2.1, (h t (by simp)).2.2.2.1⟩
theorem bind_pl {N M : Int} {x : Res Ex} {f : Ex → List Tok → Res Ex} (h : PlR N M x) (hf : ∀ y r, x = .ok y r → PlEx N M y → hasOp 4 y = false → EndsT r → (∀ t ∈ r, PlOk N M t) → PlR N M (f y r)) : PlR N M (x.bind f) := by
  cases x with
  | bad l c => exact h
  | ok y r => exact hf y r rfl h.1 h.2.1 h.2.2.1 h.2.2.2
theorem pends_kind {t : Tok} {r : List Tok} (h : EndsT (t :: r)) (he : t.kind ≠ 5) : EndsT r := by
  obtain ⟨_, ⟨_, h3, _⟩ | ⟨_, _, h3⟩⟩ := h
  · exact absurd h3 he
  · exact h3
theorem pl_in {N M : Int} {t : Tok} (h : PlOk N M t) (hk : t.kind ≠ 5) : 1 ≤ t.line ∧ t.line ≤ N ∧ 1 ≤ t.col ∧ t.col ≤ M := ⟨h.1, h.2.1, h.2.2.1, h.2.2.2.2.1 hk⟩
theorem kind_of {N M : Int} {t : Tok} (h : PlOk N M t) (ht : t.text ≠ []) : t.kind ≠ 5 := fun e => ht (h.2.2.2.2.2 e)
theorem psignO_in (s : List UInt8) : ∀ (n : Nat) (a : Int), 1 ≤ a → signO s n a = 0 ∨ (a ≤ signO s n a ∧ signO s n a < a + n ∧ signE (signO s n a) = s)
  | 0, a, _ => .inl rfl
  | n + 1, a, ha => by
    rw [signO]
    by_cases h : signE a == s
    · rw [if_pos h]
      exact .inr ⟨by omega, by omega, by simpa using h⟩
    · rw [if_neg h]
      rcases psignO_in s n (a + 1) (by omega) with h1 | ⟨h1, h2, h3⟩
      · exact .inl h1
      · exact .inr ⟨by omega, by omega, h3⟩
theorem psignE_ne (j : Nat) (h5 : 5 ≤ j) (h : j < 31) : signE (j : Int) ≠ [] := by
  have : ∀ j : Nat, j < 31 → 5 ≤ j → signE (j : Int) ≠ [] := by decide
  exact this j h h5
theorem psign_text {s : List UInt8} {n : Nat} {a : Int} (ha : 5 ≤ a) (hn : a + n ≤ 31) (h : signO s n a ≠ 0) : s ≠ [] ∧ a ≤ signO s n a ∧ signO s n a < a + n := by
  rcases psignO_in s n a (by omega) with h1 | ⟨h1, h2, h3⟩
  · exact absurd h1 h
  · refine ⟨fun e => ?_, h1, h2⟩
    obtain ⟨j, hj⟩ := Int.eq_ofNat_of_zero_le (show 0 ≤ signO s n a by omega)
    rw [hj] at h1 h2 h3
    exact psignE_ne j (by omega) (by omega) (h3.trans e)
theorem place_all (N M : Int) : ∀ n : Nat, (∀ o least L, 3 * L.length + 2 ≤ n → EndsT L → (∀ t ∈ L, PlOk N M t) → PlR N M (exprR n o least L)) ∧
    (∀ o least most X L, 3 * L.length ≤ n → EndsT L → (∀ t ∈ L, PlOk N M t) → PlEx N M X → hasOp 4 X = false → PlR N M (loopR n o least most X L)) ∧
    (∀ o L, 3 * L.length + 1 ≤ n → EndsT L → (∀ t ∈ L, PlOk N M t) → PlR N M (prefR n o L)) ∧ (∀ o L, 3 * L.length ≤ n → EndsT L → (∀ t ∈ L, PlOk N M t) → PlR N M (valueR n o L))
  | 0 => by
    refine ⟨fun o least L hn => ?_, fun o least most X L hn he => ?_, fun o L hn => ?_, fun o L hn he => ?_⟩
    · exfalso; omega
    · exfalso
      cases L with
      | nil => exact he
      | cons t r => rw [List.length_cons] at hn; omega
    · exfalso; omega
    · exfalso
      cases L with
      | nil => exact he
      | cons t r => rw [List.length_cons] at hn; omega
  | n + 1 => by
    obtain ⟨hE, hL, hP, hV⟩ := place_all N M n
    refine ⟨fun o least L hn he hp => ?_, fun o least most X L hn he hp hx hx4 => ?_, fun o L hn he hp => ?_, fun o L hn he hp => ?_⟩
    · rw [exprR]
      exact bind_pl (hP o L (by omega) he hp) fun y r hy h1 h2 h3 h4 => hL o least 7 y r (by have := (len_all n).2.2.1 o L y r hy; omega) h3 h4 h1 h2
    · cases L with
      | nil => exact absurd he (fun h => h)
      | cons t r =>
        rw [loopR]
        rw [List.length_cons] at hn
        split
        · exact ⟨hx, hx4, he, hp⟩
        · rename_i hc
          have hb0 : binO t.text ≠ 0 := fun e => hc (.inl e)
          obtain ⟨htx, hb14, hb31⟩ := psign_text (s := t.text) (n := 17) (a := 14) (by omega) (by omega) hb0
          have hkk := kind_of (hp t (by simp)) htx
          have hpl := pl_in (hp t (by simp)) hkk
          refine bind_pl (hE o _ r (by omega) (pends_kind he hkk) fun u hu => hp u (by simp [hu])) fun y r2 hy h1 h2 h3 h4 => ?_
          refine hL o least _ _ r2 (by have := (len_all n).1 o _ r y r2 hy; omega) h3 h4 (.mk _ _ _ _ _ _ hpl.1 hpl.2.1 hpl.2.2.1 hpl.2.2.2 fun k hk => ?_) ?_
          · rcases List.mem_cons.1 hk with rfl | hk
            · exact hx
            · have : k = y := by simpa using hk
              subst this; exact h1
          · rw [hasOp, hasL, hasL, hasL, hx4, h2]
            have : decide (binO t.text = 4) = false := decide_eq_false (by show ¬ signO t.text 17 14 = 4; omega)
            rw [this]; rfl
    · cases L with
      | nil => exact absurd he (fun h => h)
      | cons t r =>
        rw [prefR]
        rw [List.length_cons] at hn
        split
        · exact hV o (t :: r) (by rw [List.length_cons]; omega) he hp
        · rename_i hb0
          obtain ⟨htx, hb14, hb31⟩ := psign_text (s := t.text) (n := 9) (a := 5) (by omega) (by omega) hb0
          have hkk := kind_of (hp t (by simp)) htx
          have hpl := pl_in (hp t (by simp)) hkk
          have her := pends_kind he hkk
          split
          · exact fail_pl her fun u hu => hp u (by simp [hu])
          · refine bind_pl (hP (o + 1) r (by omega) her fun u hu => hp u (by simp [hu])) fun y r2 hy h1 h2 h3 h4 => ?_
            refine ⟨.mk _ _ _ _ _ _ hpl.1 hpl.2.1 hpl.2.2.1 hpl.2.2.2 fun k hk => ?_, ?_, h3, h4⟩
            · have : k = y := by simpa using hk
              subst this; exact h1
            · rw [hasOp, hasL, hasL, h2]
              have : decide (preO t.text = 4) = false := decide_eq_false (by show ¬ signO t.text 9 5 = 4; omega)
              rw [this]; rfl
    · cases L with
      | nil => exact absurd he (fun h => h)
      | cons t r =>
        rw [valueR]
        rw [List.length_cons] at hn
        have hleaf : ∀ (o num : Int) (s : List UInt8), t.kind ≠ 5 → o ≠ 4 → PlR N M (.ok (.mk o num s [] t.line t.col) r) := fun o num s hk ho => by
          have hpl := pl_in (hp t (by simp)) hk
          refine ⟨.mk _ _ _ _ _ _ hpl.1 hpl.2.1 hpl.2.2.1 hpl.2.2.2 (fun k hk => by cases hk), ?_, pends_kind he hk, fun u hu => hp u (by simp [hu])⟩
          rw [hasOp, hasL, decide_eq_false ho]; rfl
        split
        · rename_i ht
          have hkk := kind_of (hp t (by simp)) (by rw [ht]; simp)
          have her := pends_kind he hkk
          split
          · exact fail_pl her fun u hu => hp u (by simp [hu])
          · refine bind_pl (hE (o + 1) 0 r (by omega) her fun u hu => hp u (by simp [hu])) fun y r2 hy h1 h2 h3 h4 => ?_
            cases r2 with
            | nil => exact absurd h3 (fun h => h)
            | cons u r3 =>
              rw [closeR]
              split
              · rename_i hu
                have hku := kind_of (h4 u (by simp)) (by rw [hu]; simp)
                exact ⟨h1, h2, pends_kind h3 hku, fun z hz => h4 z (by simp [hz])⟩
              · have := h4 u (by simp)
                exact ⟨this.1, this.2.1, this.2.2.1, this.2.2.2.1⟩
        · split
          · rename_i hk
            exact hleaf 1 t.num [] (by omega) (by omega)
          · split
            · rename_i hk
              exact hleaf 3 0 t.text (by omega) (by omega)
            · split
              · rename_i ht
                exact hleaf 2 0 [] (kind_of (hp t (by simp)) (by rw [ht]; simp [fal])) (by omega)
              · split
                · rename_i ht
                  exact hleaf 2 1 [] (kind_of (hp t (by simp)) (by rw [ht]; simp [tru])) (by omega)
                · have := hp t (by simp)
                  exact ⟨this.1, this.2.1, this.2.2.1, this.2.2.2.1⟩
/-- Of a text that isn't too long: a fault stands within it, and so does all that is read, which can be written. -/
theorem expr_place (s : List UInt8) (hs : s.length ≤ 65536) : match exprA s with
    | .bad _ l c => 1 ≤ l ∧ l ≤ 1 + (s.count 10 : Nat) ∧ 1 ≤ c ∧ c ≤ s.length + 1
    | .ok x => PlEx (1 + (s.count 10 : Nat)) s.length x ∧ writB x = true := by
  have hg := go_place s 0 false 1 1 (1 + (s.count 10 : Nat)) s.length (by omega) (by omega) (by omega) (by omega)
  have hcl : cutL s = go 0 false 1 1 s := by unfold cutL; rw [if_neg (by omega)]
  unfold exprA ansR
  cases hc : cutL s with
  | bad e l c =>
    rw [← hcl, hc] at hg
    exact hg
  | ok ts =>
    rw [← hcl, hc] at hg
    dsimp only
    have he := ends_cut hc
    have h1 := (place_all (1 + (s.count 10 : Nat)) s.length (fuel ts)).1 0 0 ts (by unfold fuel; omega) he hg.2
    have hwh : PlR (1 + (s.count 10 : Nat)) s.length (wholeR ts) ∧ ∀ x r, wholeR ts = .ok x r → rightB x = true := by
      unfold wholeR
      cases hx : exprR (fuel ts) 0 0 ts with
      | bad l c => rw [hx] at h1; exact ⟨h1, fun x r h => by cases h⟩
      | ok x r =>
        rw [hx] at h1
        show PlR _ _ (if rightB x then .ok x r else failR ts) ∧ _
        cases hr : rightB x with
        | false => exact ⟨fail_pl he hg.2, fun y r' h => by exact (fail_no (show failR ts = .ok y r' by simpa [Res.bind, hr] using h)).elim⟩
        | true => exact ⟨h1, fun y r' h => by
            have : (Res.ok x r : Res Ex) = .ok y r' := by simpa [Res.bind, hr] using h
            injection this with h2 h3; rw [← h2]; exact hr⟩
    cases hw : wholeR ts with
    | bad l c => rw [hw] at hwh; exact hwh.1
    | ok x r =>
      have hrx := hwh.2 x r hw
      rw [hw] at hwh
      obtain ⟨⟨h1, h2, h3, h4⟩, _⟩ := hwh
      have hbe : (Res.ok x r).bind endR = endR x r := rfl
      rw [hbe]
      cases r with
      | nil => exact absurd h3 (fun h => h)
      | cons t r' =>
        by_cases hk : t.kind = 5
        · have : endR x (t :: r') = .ok x (t :: r') := by show (if t.kind = 5 then _ else _) = _; rw [if_pos hk]
          rw [this]
          refine ⟨h1, ?_⟩
          unfold writB; rw [hrx, h2]; rfl
        · have : endR x (t :: r') = .bad t.line t.col := by show (if t.kind = 5 then _ else _) = _; rw [if_neg hk]
          rw [this]
          have := h4 t (by simp)
          exact ⟨this.1, this.2.1, this.2.2.1, this.2.2.2.1⟩
end Go.Proofs.YtmkhfcdjgdofnaaDoor.ParM
