/- Plain facts on the words of two texts, of a text's words again, and on where words stand. No program. -/
import Derived.Test.YtmkhfcdjgdofnaaDoorWrdM
namespace Go.Proofs.YtmkhfcdjgdofnaaDoor.WrdM

theorem takeW_stop (p : UInt8 → Bool) (x : UInt8) (h : p x = false) (t : List UInt8) : ∀ l : List UInt8, (l ++ x :: t).takeWhile p = l.takeWhile p
  | [] => by simp [h]
  | c :: cs => by
    rw [List.cons_append, List.takeWhile_cons, List.takeWhile_cons, takeW_stop p x h t cs]
theorem prefix_stop (x : UInt8) (t : List UInt8) : ∀ (y l : List UInt8), x ∉ y → y.isPrefixOf (l ++ x :: t) = y.isPrefixOf l
  | [], _, _ => by simp [List.isPrefixOf]
  | a :: as, [], h => by
    have : (a == x) = false := by rw [beq_eq_false_iff_ne]; intro e; exact h (by simp [e])
    simp [List.isPrefixOf, this]
  | a :: as, c :: cs, h => by
    rw [List.cons_append]
    simp only [List.isPrefixOf]
    rw [prefix_stop x t as cs (fun e => h (by simp [e]))]
theorem find_congr {p q : List UInt8 → Bool} : ∀ (l : List (List UInt8)), (∀ y ∈ l, p y = q y) → l.find? p = l.find? q
  | [], _ => rfl
  | y :: ys, h => by
    rw [List.find?_cons, List.find?_cons, h y (by simp), find_congr ys (fun z hz => h z (by simp [hz]))]
theorem signW_stop (x : UInt8) (hx : ∀ y ∈ signL, x ∉ y) (l t : List UInt8) : signW (l ++ x :: t) = signW l := by
  unfold signW
  rw [find_congr (q := fun y => y.isPrefixOf l) signL (fun y hy => prefix_stop x t y l (hx y hy))]
theorem wordL_stop (x : UInt8) (hx : ∀ y ∈ signL, x ∉ y) (h1 : namB x = false) (c : UInt8) (cs t : List UInt8) : wordL (c :: cs ++ x :: t) = wordL (c :: cs) := by
  have h2 : digB x = false := by unfold namB at h1; simp only [Bool.or_eq_false_iff] at h1; exact h1.1.2
  unfold wordL
  rw [takeW_stop namB x h1, takeW_stop digB x h2, signW_stop x hx]
  rfl
theorem ten_sign : ∀ y ∈ signL, (10 : UInt8) ∉ y := by decide
theorem blank_sign : ∀ y ∈ signL, (32 : UInt8) ∉ y := by decide
theorem rem2_stop (x : UInt8) (hx : x ≠ 47) (l t : List UInt8) : rem2 (l ++ x :: t) = rem2 l := by
  unfold rem2
  exact prefix_stop x t _ l (by simp; intro e; exact hx e)

/-- A text, a line end, another text. -/
theorem go_join (t : List UInt8) : ∀ (s : List UInt8) (k : Nat) (r : Bool) (L C : Int) (ts : List Tok), k ≤ s.length → go k r L C s = .ok ts →
    ∃ us, ts = us ++ [⟨5, [], 0, (adv L C s).1, (adv L C s).2⟩] ∧ go k r L C (s ++ 10 :: t) = Out.pre us (go 0 false ((adv L C s).1 + 1) 1 t)
  | [], k, r, L, C, ts, hk, h => by
    have hk0 : k = 0 := by simpa using hk
    subst hk0
    rw [go_nil] at h
    injection h with h
    refine ⟨[], by rw [← h]; rfl, ?_⟩
    rw [Out.pre_nil]
    show go 0 r L C (10 :: t) = _
    simp [go, adv]
  | c :: cs, k + 1, r, L, C, ts, hk, h => by
    simp only [go] at h
    obtain ⟨us, h1, h2⟩ := go_join t cs k r _ _ ts (by simpa using hk) h
    exact ⟨us, h1, by rw [List.cons_append]; simp only [go, adv]; exact h2⟩
  | c :: cs, 0, r, L, C, ts, hk, h => by
    unfold go at h
    by_cases h10 : (c == 10) = true
    · rw [if_pos h10] at h
      obtain ⟨us, h1, h2⟩ := go_join t cs 0 false _ _ ts (Nat.zero_le _) h
      refine ⟨us, ?_, ?_⟩
      · rw [h1]; simp [adv, nl, nc, h10]
      · rw [List.cons_append]
        conv => lhs; unfold go
        rw [if_pos h10, h2]
        simp [adv, nl, nc, h10]
    · rw [if_neg h10] at h
      have hR : rem2 (c :: (cs ++ 10 :: t)) = rem2 (c :: cs) := rem2_stop 10 (by decide) (c :: cs) t
      have hW : wordL (c :: (cs ++ 10 :: t)) = wordL (c :: cs) := wordL_stop 10 ten_sign (by decide) c cs t
      by_cases hr : (r || rem2 (c :: cs)) = true
      · rw [if_pos hr] at h
        obtain ⟨us, h1, h2⟩ := go_join t cs 0 true _ _ ts (Nat.zero_le _) h
        refine ⟨us, ?_, ?_⟩
        · rw [h1]; simp [adv, nl, nc, h10]
        · rw [List.cons_append]
          conv => lhs; unfold go
          rw [if_neg h10, hR, if_pos hr, h2]
          simp [adv, nl, nc, h10]
      · rw [if_neg hr] at h
        by_cases hb : blkB c = true
        · rw [if_pos hb] at h
          obtain ⟨us, h1, h2⟩ := go_join t cs 0 false _ _ ts (Nat.zero_le _) h
          refine ⟨us, ?_, ?_⟩
          · rw [h1]; simp [adv, nl, nc, h10]
          · rw [List.cons_append]
            conv => lhs; unfold go
            rw [if_neg h10, hR, if_neg hr, if_pos hb, h2]
            simp [adv, nl, nc, h10]
        · rw [if_neg hb] at h
          by_cases he : ((wordL (c :: cs)).err == 0) = true
          · rw [if_pos he] at h
            have hlen : (wordL (c :: cs)).text.length - 1 ≤ cs.length := by
              obtain ⟨d, ds, q, e1, e2, _⟩ := wordL_pre (c :: cs) (by simpa using he)
              have := congrArg List.length e2
              rw [List.length_append, List.length_cons] at this
              omega
            cases hg : go ((wordL (c :: cs)).text.length - 1) false L (C + 1) cs with
            | bad e l d => rw [hg] at h; cases h
            | ok ts' =>
              rw [hg] at h
              injection h with h
              obtain ⟨us, h1, h2⟩ := go_join t cs _ false _ _ ts' hlen hg
              refine ⟨at_ (wordL (c :: cs)) L C :: us, ?_, ?_⟩
              · rw [← h, h1]; simp [adv, nl, nc, h10]
              · rw [List.cons_append]
                conv => lhs; unfold go
                rw [if_neg h10, hR, if_neg hr, if_neg hb, hW, if_pos he, h2, Out.pre_pre]
                simp [adv, nl, nc, h10]
          · rw [if_neg he] at h; cases h

/-- Lines further on. -/
def shT (d : Int) (t : Tok) : Tok := ⟨t.kind, t.text, t.num, t.line + d, t.col⟩
def Out.sh (d : Int) : Out → Out
  | .bad e l c => .bad e (l + d) c
  | .ok ts => .ok (ts.map (shT d))
theorem sh_pre (d : Int) (ts : List Tok) (o : Out) : Out.sh d (Out.pre ts o) = Out.pre (ts.map (shT d)) (Out.sh d o) := by
  cases o <;> simp [Out.sh, Out.pre]
theorem nl_add (L d : Int) (c : UInt8) : nl (L + d) c = nl L c + d := by unfold nl; split <;> omega
theorem go_shift (d : Int) : ∀ (s : List UInt8) (k : Nat) (r : Bool) (L C : Int), go k r (L + d) C s = Out.sh d (go k r L C s)
  | [], k, r, L, C => by unfold go; rfl
  | c :: cs, k + 1, r, L, C => by simp only [go]; rw [nl_add, go_shift d cs k r]
  | c :: cs, 0, r, L, C => by
    unfold go
    split
    · rw [show L + d + 1 = L + 1 + d from by omega, go_shift d cs]
    · split
      · exact go_shift d cs _ _ _ _
      · split
        · exact go_shift d cs _ _ _ _
        · split
          · rw [go_shift d cs, sh_pre]; rfl
          · rfl
/-- The words of two texts with a line end between: those of the first one, but its end, and those of the other one, further on. -/
theorem cut_join (s t : List UInt8) (as bs : List Tok) (hs : s.length ≤ 4000) (ht : t.length ≤ 4000) (ha : cutL s = .ok as) (hb : cutL t = .ok bs) :
    ∃ us L C, as = us ++ [⟨5, [], 0, L, C⟩] ∧ cutL (s ++ 10 :: t) = .ok (us ++ bs.map (shT L)) := by
  unfold cutL at ha hb ⊢
  rw [if_neg (by omega)] at ha hb
  rw [if_neg (by simp; omega)]
  obtain ⟨us, h1, h2⟩ := go_join t s 0 false 1 1 as (Nat.zero_le _) ha
  refine ⟨us, _, _, h1, ?_⟩
  rw [h2, show (adv 1 1 s).1 + 1 = 1 + (adv 1 1 s).1 from by omega, go_shift, hb]
  rfl

/-- A word that is read again, wherever a blank stands behind it. -/
def Good (t : Tok) : Prop := ∀ r, wordL (t.text ++ 32 :: r) = ⟨0, t.kind, t.text, t.num⟩
theorem takeW_self2 (p : UInt8 → Bool) (l : List UInt8) (h : l.all p = true) : l.takeWhile p = l := by
  induction l with
  | nil => rfl
  | cons c cs ih =>
    simp only [List.all_cons, Bool.and_eq_true] at h
    rw [List.takeWhile_cons, if_pos h.1, ih h.2]
theorem sign_again : ∀ y ∈ signL, signW y = y ∧ headB letB y = false ∧ headB digB y = false := by decide
theorem headB_app {p : UInt8 → Bool} {l r : List UInt8} (h : l ≠ []) : headB p (l ++ r) = headB p l := by
  cases l with
  | nil => exact absurd rfl h
  | cons c cs => rfl
theorem wordL_again (l : List UInt8) (h : (wordL l).err = 0) (r : List UInt8) : wordL ((wordL l).text ++ 32 :: r) = wordL l := by
  have h0 := wordL_pre l h
  obtain ⟨d, ds, q, e1, e2, _⟩ := h0
  have hne : (wordL l).text ≠ [] := by rw [e1]; simp
  have e3 : headB letB l = headB letB (wordL l).text := (congrArg (headB letB) e2).trans (headB_app hne)
  have e4 : headB digB l = headB digB (wordL l).text := (congrArg (headB digB) e2).trans (headB_app hne)
  have h5 : wordL ((wordL l).text ++ 32 :: r) = wordL (wordL l).text := by
    rw [e1]; exact wordL_stop 32 blank_sign (by decide) d ds r
  rw [h5]
  unfold wordL at h hne e3 e4 ⊢
  by_cases h1 : headB letB l = true
  · rw [if_pos h1] at h hne e3 ⊢
    unfold namW at h hne e3 ⊢
    by_cases h3 : 32 < (l.takeWhile namB).length
    · rw [if_pos h3] at h; simp at h
    · rw [if_neg h3] at hne e3 ⊢
      simp only at hne e3 ⊢
      rw [if_pos (by rw [← e3]; exact h1), takeW_self2 _ _ (takeW_all namB l), if_neg h3]
  · rw [if_neg h1] at h hne e3 e4 ⊢
    by_cases h2 : headB digB l = true
    · rw [if_pos h2] at h hne e3 e4 ⊢
      unfold digW at h hne e3 e4 ⊢
      by_cases h3 : 7 < (l.takeWhile digB).length
      · rw [if_pos h3] at h; simp at h
      · rw [if_neg h3] at h hne e3 e4 ⊢
        by_cases h4 : 1000000 < numL (l.takeWhile digB)
        · rw [if_pos h4] at h; simp at h
        · rw [if_neg h4] at hne e3 e4 ⊢
          simp only at hne e3 e4 ⊢
          rw [if_neg (by rw [← e3]; exact h1), if_pos (by rw [← e4]; exact h2), takeW_self2 _ _ (takeW_all digB l), if_neg h3, if_neg h4]
    · rw [if_neg h2] at h hne e3 e4 ⊢
      unfold sgnW at h hne e3 e4 ⊢
      by_cases h3 : signW l = []
      · rw [if_pos h3] at h; simp at h
      · rw [if_neg h3] at hne e3 e4 ⊢
        simp only at hne e3 e4 ⊢
        rcases signW_pre l with h4 | ⟨h4, _⟩
        · exact absurd h4 h3
        · obtain ⟨a1, a2, a3⟩ := sign_again _ h4
          rw [if_neg (by rw [a2]; simp), if_neg (by rw [a3]; simp), a1, if_neg h3]
theorem go_good : ∀ (s : List UInt8) (k : Nat) (r : Bool) (L C : Int) (ts : List Tok), go k r L C s = .ok ts → ∃ us e, ts = us ++ [e] ∧ e.kind = 5 ∧ e.text = [] ∧ e.num = 0 ∧ ∀ t ∈ us, Good t ∧ ∃ l, (wordL l).err = 0 ∧ t.text = (wordL l).text
  | [], k, r, L, C, ts, h => by
    unfold go at h
    injection h with h
    exact ⟨[], _, h.symm, rfl, rfl, rfl, by simp⟩
  | c :: cs, k + 1, r, L, C, ts, h => by simp only [go] at h; exact go_good cs _ _ _ _ _ h
  | c :: cs, 0, r, L, C, ts, h => by
    unfold go at h
    split at h
    · exact go_good cs _ _ _ _ _ h
    · split at h
      · exact go_good cs _ _ _ _ _ h
      · split at h
        · exact go_good cs _ _ _ _ _ h
        · split at h
          · rename_i he
            cases hg : go ((wordL (c :: cs)).text.length - 1) false L (C + 1) cs with
            | bad e l d => rw [hg] at h; cases h
            | ok ts' =>
              rw [hg] at h
              injection h with h
              obtain ⟨us, e, h1, h2, h3, h4, h5⟩ := go_good cs _ _ _ _ _ hg
              have he' : (wordL (c :: cs)).err = 0 := by simpa using he
              refine ⟨at_ (wordL (c :: cs)) L C :: us, e, by rw [← h, h1]; rfl, h2, h3, h4, fun t ht => ?_⟩
              rcases List.mem_cons.1 ht with rfl | ht
              · refine ⟨fun q => ?_, c :: cs, he', rfl⟩
                show wordL ((wordL (c :: cs)).text ++ 32 :: q) = _
                rw [wordL_again _ he' q]
                rcases hw : wordL (c :: cs) with ⟨a, b, d, f⟩
                rw [hw] at he'
                simp only at he'
                subst he'
                rfl
              · exact h5 t ht
          · cases h
/-- The words' texts, a blank behind each. -/
def agL (ts : List Tok) : List UInt8 := ts.flatMap (fun t => t.text ++ [32])
/-- Like words, but for where they stand. -/
def Like (ts us : List Tok) : Prop := ts.length = us.length ∧ ∀ i, i < ts.length → ∀ a b, ts[i]? = some a → us[i]? = some b → a.kind = b.kind ∧ a.text = b.text ∧ a.num = b.num
theorem go_again : ∀ (us : List Tok), (∀ t ∈ us, Good t ∧ ∃ l, (wordL l).err = 0 ∧ t.text = (wordL l).text) → ∀ (L C : Int) (r : List UInt8), ∃ vs, Like vs us ∧ ∃ L' C', go 0 false L C (agL us ++ r) = Out.pre vs (go 0 false L' C' r)
  | [], _, L, C, r => ⟨[], ⟨rfl, fun i hi => absurd hi (by simp)⟩, L, C, by rw [Out.pre_nil]; rfl⟩
  | t :: us, h, L, C, r => by
    obtain ⟨hg, l, hl, htx⟩ := h t (by simp)
    obtain ⟨d, ds, q, e1, e2, e3, e4⟩ := wordL_pre l hl
    rw [← htx] at e1 e2 e3 e4
    have hw := hg (agL us ++ r)
    have hb : blkB d = false := by
      rw [e1] at e3
      simp only [List.all_cons, Bool.and_eq_true, Bool.not_eq_true'] at e3
      exact e3.1
    have e5 : agL (t :: us) ++ r = d :: (ds ++ 32 :: (agL us ++ r)) := by
      show (t.text ++ [32] ++ agL us) ++ r = _
      rw [e1]; simp
    have hr : rem2 (d :: (ds ++ 32 :: (agL us ++ r))) = false := by
      have h1 : rem2 (d :: (ds ++ 32 :: (agL us ++ r))) = rem2 (d :: ds) := rem2_stop 32 (by decide) (d :: ds) _
      rw [h1, Bool.eq_false_iff]
      intro e
      have h47 := (rem2_cons e).1
      have hnt : t.text ≠ [] := by rw [e1]; simp
      have hlet : headB letB l = false := by rw [(congrArg (headB letB) e2).trans (headB_app hnt), e1, h47]; rfl
      have hdig : headB digB l = false := by rw [(congrArg (headB digB) e2).trans (headB_app hnt), e1, h47]; rfl
      unfold wordL at htx hl
      rw [if_neg (by rw [hlet]; simp), if_neg (by rw [hdig]; simp)] at htx hl
      unfold sgnW at htx hl
      by_cases h3 : signW l = []
      · rw [if_pos h3] at hl; simp at hl
      · rw [if_neg h3] at htx
        simp only at htx
        rcases signW_pre l with h4 | ⟨h4, _⟩
        · exact absurd h4 h3
        · have := (signL_bytes _ h4).2.2 d (by rw [← htx, e1]; simp)
          exact this.2.1 h47
    have e6 : t.text ++ 32 :: (agL us ++ r) = d :: (ds ++ 32 :: (agL us ++ r)) := by rw [e1]; rfl
    rw [e6] at hw
    have hgo := go_word d (ds ++ 32 :: (agL us ++ r)) L C hb hr (by rw [hw])
    rw [hw] at hgo
    simp only at hgo
    rw [e1, show (d :: (ds ++ 32 :: (agL us ++ r))).drop (d :: ds).length = [32] ++ (agL us ++ r) from by rw [← List.cons_append, List.drop_left]; rfl, go_blk [32] _ _ _ (by decide)] at hgo
    obtain ⟨vs, hv, L', C', hq⟩ := go_again us (fun x hx => h x (by simp [hx])) (adv L (C + ((d :: ds).length : Int)) [32]).1 (adv L (C + ((d :: ds).length : Int)) [32]).2 r
    refine ⟨⟨t.kind, t.text, t.num, L, C⟩ :: vs, ⟨by simp [hv.1], ?_⟩, L', C', ?_⟩
    · intro i hi a b ha hb'
      cases i with
      | zero =>
        simp at ha hb'
        subst ha; subst hb'
        exact ⟨rfl, rfl, rfl⟩
      | succ i =>
        simp at ha hb' hi
        exact hv.2 i hi a b ha hb'
    · rw [e5, hgo, hq, Out.pre_pre, e1]; rfl
theorem agL_len : ∀ (ts : List Tok), (∀ t ∈ ts, t.text.length ≤ 32) → (agL ts).length ≤ 33 * ts.length
  | [], _ => by simp [agL]
  | t :: ts, h => by
    have h1 := h t (by simp)
    have h2 := agL_len ts (fun x hx => h x (by simp [hx]))
    show (t.text ++ [32] ++ agL ts).length ≤ _
    simp only [List.length_append, List.length_cons, List.length_nil]
    omega
/-- How long the texts are together, and how many words there are. -/
def txL (ts : List Tok) : Nat := (ts.flatMap (fun t => t.text)).length
theorem txL_cons (t : Tok) (ts : List Tok) : txL (t :: ts) = t.text.length + txL ts := by simp [txL]
theorem go_len : ∀ (s : List UInt8) (k : Nat) (r : Bool) (L C : Int) (ts : List Tok), k ≤ s.length → go k r L C s = .ok ts → txL ts + k ≤ s.length ∧ ts.length + k ≤ s.length + 1
  | [], k, r, L, C, ts, hk, h => by
    unfold go at h
    injection h with h
    subst h
    simp at hk
    subst hk
    simp [txL]
  | c :: cs, k + 1, r, L, C, ts, hk, h => by
    simp only [go] at h
    have := go_len cs k r _ _ ts (by simpa using hk) h
    simp only [List.length_cons]
    omega
  | c :: cs, 0, r, L, C, ts, hk, h => by
    unfold go at h
    simp only [List.length_cons]
    split at h
    · have := go_len cs _ _ _ _ ts (Nat.zero_le _) h; omega
    · split at h
      · have := go_len cs _ _ _ _ ts (Nat.zero_le _) h; omega
      · split at h
        · have := go_len cs _ _ _ _ ts (Nat.zero_le _) h; omega
        · split at h
          · rename_i he
            cases hg : go ((wordL (c :: cs)).text.length - 1) false L (C + 1) cs with
            | bad e l d => rw [hg] at h; cases h
            | ok ts' =>
              rw [hg] at h
              injection h with h
              obtain ⟨d, ds, q, e1, e2, _⟩ := wordL_pre (c :: cs) (by simpa using he)
              have hl := congrArg List.length e2
              rw [List.length_append, List.length_cons] at hl
              have hl2 := congrArg List.length e1
              rw [List.length_cons] at hl2
              have := go_len cs _ _ _ _ ts' (by omega) hg
              rw [← h]
              show txL (at_ (wordL (c :: cs)) L C :: ts') + 0 ≤ _ ∧ (at_ (wordL (c :: cs)) L C :: ts').length + 0 ≤ _
              rw [txL_cons, List.length_cons]
              have e9 : (at_ (wordL (c :: cs)) L C).text.length = (wordL (c :: cs)).text.length := rfl
              omega
          · cases h
theorem agL_len2 : ∀ ts : List Tok, (agL ts).length = txL ts + ts.length
  | [] => rfl
  | t :: ts => by
    have h := agL_len2 ts
    show (t.text ++ [32] ++ agL ts).length = _
    rw [List.length_append, List.length_append, h, txL_cons]
    simp; omega
theorem agL_app (a b : List Tok) : agL (a ++ b) = agL a ++ agL b := by simp [agL]
/-- The words' texts with blanks: like words. -/
theorem cut_again (s : List UInt8) (as : List Tok) (hs : s.length ≤ 4000) (ha : cutL s = .ok as) : (agL as).length ≤ 8001 ∧ as.length ≤ 4001 ∧ 0 < as.length ∧ ∃ cs, cutL (agL as) = .ok cs ∧ Like cs as := by
  have hcu : go 0 false 1 1 s = .ok as := by
    unfold cutL at ha
    rw [if_neg (by omega)] at ha
    exact ha
  obtain ⟨h1, h2⟩ := go_len s 0 false 1 1 as (Nat.zero_le _) hcu
  obtain ⟨us, e, h3, h4, h5, h6, h7⟩ := go_good s 0 false 1 1 as hcu
  have hal := agL_len2 as
  refine ⟨by omega, by omega, by rw [h3]; simp, ?_⟩
  obtain ⟨vs, hv, L', C', hg⟩ := go_again us h7 1 1 [32]
  have e1 : agL as = agL us ++ [32] := by
    rw [h3, agL_app]
    show _ ++ (e.text ++ [32] ++ []) = _
    rw [h5]; rfl
  have hend : go 0 false L' C' [32] = .ok [⟨5, [], 0, L', C' + 1⟩] := by
    unfold go
    simp [rem2, List.isPrefixOf, blkB, go]
  refine ⟨vs ++ [⟨5, [], 0, L', C' + 1⟩], ?_, ?_, ?_⟩
  · unfold cutL
    rw [if_neg (by omega), e1, hg, hend]
    rfl
  · rw [h3, List.length_append, List.length_append, hv.1]; rfl
  · intro i hi a b ha' hb'
    rw [h3] at hb'
    rw [List.length_append] at hi
    by_cases hil : i < vs.length
    · rw [List.getElem?_append_left hil] at ha'
      rw [List.getElem?_append_left (by rw [← hv.1]; exact hil)] at hb'
      exact hv.2 i hil a b ha' hb'
    · have hie : i = vs.length := by simp at hi; omega
      subst hie
      rw [List.getElem?_append_right (Nat.le_refl _)] at ha'
      rw [hv.1, List.getElem?_append_right (Nat.le_refl _)] at hb'
      simp at ha' hb'
      subst ha'; subst hb'
      exact ⟨h4.symm, h5.symm, h6.symm⟩
theorem wordL_err (l : List UInt8) : (wordL l).err = 0 ∨ (wordL l).err = 131 ∨ (wordL l).err = 132 := by
  unfold wordL namW digW sgnW
  repeat' split
  all_goals simp
/-- A fault, and its place. -/
theorem go_fault : ∀ (s : List UInt8) (k : Nat) (r : Bool) (L C e l c : Int), 1 ≤ L → 1 ≤ C → go k r L C s = .bad e l c → (e = 131 ∨ e = 132) ∧ 1 ≤ l ∧ 1 ≤ c
  | [], k, r, L, C, e, l, c, hL, hC, h => by unfold go at h; cases h
  | x :: cs, k + 1, r, L, C, e, l, c, hL, hC, h => by
    simp only [go] at h
    exact go_fault cs k r _ _ e l c (by unfold nl; split <;> omega) (by unfold nc; split <;> omega) h
  | x :: cs, 0, r, L, C, e, l, c, hL, hC, h => by
    unfold go at h
    split at h
    · exact go_fault cs _ _ _ _ e l c (by omega) (by omega) h
    · split at h
      · exact go_fault cs _ _ _ _ e l c hL (by omega) h
      · split at h
        · exact go_fault cs _ _ _ _ e l c hL (by omega) h
        · split at h
          · cases hg : go ((wordL (x :: cs)).text.length - 1) false L (C + 1) cs with
            | bad e' l' d' =>
              rw [hg] at h
              injection h with h1 h2 h3
              subst h1; subst h2; subst h3
              exact go_fault cs _ _ _ _ _ _ _ hL (by omega) hg
            | ok ts' => rw [hg] at h; cases h
          · rename_i he
            injection h with h1 h2 h3
            subst h1; subst h2; subst h3
            refine ⟨?_, hL, hC⟩
            rcases wordL_err (x :: cs) with h4 | h4
            · exact absurd (by simpa using h4) he
            · exact h4
theorem cut_fault (s : List UInt8) (e l c : Int) (h : cutL s = .bad e l c) : (e = 131 ∨ e = 132) ∧ 1 ≤ l ∧ 1 ≤ c := by
  unfold cutL at h
  split at h
  · injection h with h1 h2 h3
    omega
  · exact go_fault s 0 false 1 1 e l c (by omega) (by omega) h

/-- Words stand no earlier than where one is. -/
theorem go_ge : ∀ (s : List UInt8) (k : Nat) (r : Bool) (L C : Int) (ts : List Tok), go k r L C s = .ok ts → 1 ≤ C → ts ≠ [] ∧ ∀ t ∈ ts, L < t.line ∨ (t.line = L ∧ C ≤ t.col)
  | [], k, r, L, C, ts, h, hC => by
    unfold go at h
    injection h with h
    subst h
    exact ⟨by simp, fun t ht => by simp at ht; subst ht; exact .inr ⟨rfl, Int.le_refl _⟩⟩
  | c :: cs, k + 1, r, L, C, ts, h, hC => by
    simp only [go] at h
    obtain ⟨h1, h2⟩ := go_ge cs k r _ _ ts h (by unfold nc; split <;> omega)
    refine ⟨h1, fun t ht => ?_⟩
    have := h2 t ht
    unfold nl nc at this
    by_cases h10 : (c == 10) = true
    · simp only [h10, if_true] at this; omega
    · rw [if_neg h10, if_neg h10] at this; omega
  | c :: cs, 0, r, L, C, ts, h, hC => by
    unfold go at h
    split at h
    · obtain ⟨h1, h2⟩ := go_ge cs _ _ _ _ ts h (by omega)
      exact ⟨h1, fun t ht => by have := h2 t ht; omega⟩
    · split at h
      · obtain ⟨h1, h2⟩ := go_ge cs _ _ _ _ ts h (by omega)
        exact ⟨h1, fun t ht => by have := h2 t ht; omega⟩
      · split at h
        · obtain ⟨h1, h2⟩ := go_ge cs _ _ _ _ ts h (by omega)
          exact ⟨h1, fun t ht => by have := h2 t ht; omega⟩
        · split at h
          · cases hg : go ((wordL (c :: cs)).text.length - 1) false L (C + 1) cs with
            | bad e l d => rw [hg] at h; cases h
            | ok ts' =>
              rw [hg] at h
              injection h with h
              obtain ⟨h1, h2⟩ := go_ge cs _ _ _ _ ts' hg (by omega)
              rw [← h]
              refine ⟨by simp, fun t ht => ?_⟩
              rcases List.mem_cons.1 ht with rfl | ht
              · exact .inr ⟨rfl, Int.le_refl _⟩
              · have := h2 t ht; omega
          · cases h
theorem wordL_kind (l : List UInt8) : (wordL l).kind ≠ 5 := by
  unfold wordL namW digW sgnW
  repeat' split
  all_goals simp
/-- Where one is: a word, or a byte that is passed over. -/
theorem place_step (l : List UInt8) (r : Bool) (L C : Int) (ts : List Tok) (h : go 0 r L C l = .ok ts) (hC : 1 ≤ C) :
    (l = [] ∧ ts = [⟨5, [], 0, L, C⟩]) ∨
    (∃ t us, ts = t :: us ∧ t.line = L ∧ t.col = C ∧ t.text ≠ [] ∧ (∃ q, l = t.text ++ q ∧ go 0 false L (C + t.text.length) q = .ok us) ∧ t.kind ≠ 5) ∨
    (∃ c cs r' t us, l = c :: cs ∧ ts = t :: us ∧ go 0 r' (nl L c) (nc C c) cs = .ok ts ∧ ¬ (t.line = L ∧ t.col = C)) := by
  cases l with
  | nil =>
    left
    rw [go_nil] at h
    injection h with h
    exact ⟨rfl, h.symm⟩
  | cons c cs =>
    right
    have hskip : ∀ r', go 0 r' (nl L c) (nc C c) cs = .ok ts → ∃ c' cs' r' t us, c :: cs = c' :: cs' ∧ ts = t :: us ∧ go 0 r' (nl L c') (nc C c') cs' = .ok ts ∧ ¬ (t.line = L ∧ t.col = C) := by
      intro r' hg
      obtain ⟨h1, h2⟩ := go_ge cs 0 r' _ _ ts hg (by unfold nc; split <;> omega)
      cases ts with
      | nil => exact absurd rfl h1
      | cons t us =>
        refine ⟨c, cs, r', t, us, rfl, rfl, hg, ?_⟩
        have := h2 t (by simp)
        unfold nl nc at this
        by_cases h10 : (c == 10) = true
        · simp only [h10, if_true] at this; omega
        · rw [if_neg h10, if_neg h10] at this; omega
    have h0 := h
    unfold go at h
    by_cases h10 : (c == 10) = true
    · rw [if_pos h10] at h
      exact .inr (hskip false (by simp only [nl, nc, h10, if_true]; exact h))
    · rw [if_neg h10] at h
      have hn : nl L c = L ∧ nc C c = C + 1 := by simp [nl, nc, h10]
      by_cases hr : (r || rem2 (c :: cs)) = true
      · rw [if_pos hr] at h
        exact .inr (hskip true (by rw [hn.1, hn.2]; exact h))
      · rw [if_neg hr] at h
        by_cases hb : blkB c = true
        · rw [if_pos hb] at h
          exact .inr (hskip false (by rw [hn.1, hn.2]; exact h))
        · left
          simp only [Bool.not_eq_true, Bool.or_eq_false_iff] at hr hb
          have hrf : r = false := hr.1
          subst hrf
          rw [if_neg (by rw [hb]; simp)] at h
          by_cases he : (wordL (c :: cs)).err = 0
          · have hw := go_word c cs L C hb hr.2 he
            rw [hw] at h0
            cases hg : go 0 false L (C + (wordL (c :: cs)).text.length) ((c :: cs).drop (wordL (c :: cs)).text.length) with
            | bad e l d => rw [hg] at h0; cases h0
            | ok us =>
              rw [hg] at h0
              injection h0 with h0
              obtain ⟨d, ds, q, e1, e2, _⟩ := wordL_pre (c :: cs) he
              refine ⟨at_ (wordL (c :: cs)) L C, us, h0.symm, rfl, rfl, by show (wordL (c :: cs)).text ≠ []; rw [e1]; simp, ⟨(c :: cs).drop (wordL (c :: cs)).text.length, ?_, hg⟩, wordL_kind _⟩
              show c :: cs = (wordL (c :: cs)).text ++ _
              conv => rhs; arg 2; arg 2; rw [e2]
              rw [List.drop_left]
              exact e2
          · have hw := go_bad c cs L C hb hr.2 he
            rw [hw] at h0; cases h0

/-- The walk over a text, byte by byte: how many bytes and words lie behind. -/
def PlSt (s : List UInt8) (ts : List Tok) (L C : Int) (a k : Nat) : Prop :=
  ∃ rem, k + rem.length = ts.length ∧ (∀ i t, rem[i]? = some t → ts[k + i]? = some t) ∧ 1 ≤ L ∧ L ≤ 1 + a ∧ 1 ≤ C ∧ C ≤ 1 + a ∧ ((a ≤ s.length ∧ ∃ r, go 0 r L C (s.drop a) = .ok rem) ∨ (a = s.length + 1 ∧ rem = []))
theorem PlSt.start {s : List UInt8} {ts : List Tok} (h : go 0 false 1 1 s = .ok ts) : PlSt s ts 1 1 0 0 :=
  ⟨ts, by simp, fun i t ht => by rw [Nat.zero_add]; exact ht, by omega, by omega, by omega, by omega, .inl ⟨Nat.zero_le _, false, h⟩⟩
theorem PlSt.cases {s : List UInt8} {ts : List Tok} {L C : Int} {a k : Nat} (h : PlSt s ts L C a k) :
    (a = s.length + 1 ∧ k = ts.length) ∨ (a ≤ s.length ∧ k < ts.length ∧ ∃ t, ts[k]? = some t ∧
      ((a = s.length ∧ t = ⟨5, [], 0, L, C⟩ ∧ PlSt s ts L (C + 1) (a + 1) (k + 1)) ∨
       (t.line = L ∧ t.col = C ∧ 1 ≤ t.text.length ∧ a + t.text.length ≤ s.length ∧ (s.drop a).take t.text.length = t.text ∧ t.kind ≠ 5 ∧ PlSt s ts L (C + t.text.length) (a + t.text.length) (k + 1)) ∨
       (¬ (t.line = L ∧ t.col = C) ∧ a < s.length ∧ PlSt s ts (nl L (s.getD a 0)) (nc C (s.getD a 0)) (a + 1) k))) := by
  obtain ⟨rem, h1, h2, h3, h4, h5, h6, h7⟩ := h
  rcases h7.symm with ⟨h8, rfl⟩ | ⟨h8, r, hg⟩
  · left; exact ⟨h8, by simpa using h1⟩
  right
  clear h7
  have h7 := h8
  have hnext : ∀ t us, rem = t :: us → k < ts.length ∧ ts[k]? = some t ∧ k + 1 + us.length = ts.length ∧ ∀ i t', us[i]? = some t' → ts[k + 1 + i]? = some t' := by
    intro t us e
    subst e
    simp only [List.length_cons] at h1
    refine ⟨by omega, by have := h2 0 t rfl; simpa using this, by omega, fun i t' hi => ?_⟩
    have := h2 (i + 1) t' (by simpa using hi)
    rw [show k + 1 + i = k + (i + 1) from by omega]; exact this
  rcases place_step (s.drop a) r L C rem hg h5 with ⟨e1, e2⟩ | ⟨t, us, e1, e2, e3, e4, ⟨q, e5, e6⟩, e7⟩ | ⟨c, cs, r', t, us, e1, e2, e3, e4⟩
  · obtain ⟨n1, n2, n3, n4⟩ := hnext _ _ e2
    have ha : a = s.length := by
      have := congrArg List.length e1
      rw [List.length_drop] at this
      simp at this
      omega
    exact ⟨h7, n1, _, n2, .inl ⟨ha, rfl, ⟨[], n3, n4, h3, by omega, by omega, by omega, .inr ⟨by omega, rfl⟩⟩⟩⟩
  · obtain ⟨n1, n2, n3, n4⟩ := hnext _ _ e1
    have hl := congrArg List.length e5
    rw [List.length_drop, List.length_append] at hl
    have ht1 : 1 ≤ t.text.length := by
      cases ht : t.text with
      | nil => exact absurd ht e4
      | cons x xs => simp
    have hq : s.drop (a + t.text.length) = q := by
      rw [← List.drop_drop, e5, List.drop_left]
    exact ⟨h7, n1, t, n2, .inr (.inl ⟨e2, e3, ht1, by omega, by rw [e5, List.take_left], e7, ⟨us, n3, n4, h3, by omega, by omega, by omega, .inl ⟨by omega, false, by rw [hq]; exact e6⟩⟩⟩)⟩
  · obtain ⟨n1, n2, n3, n4⟩ := hnext _ _ e2
    have ha : a < s.length := by
      have := congrArg List.length e1
      rw [List.length_drop] at this
      simp at this
      omega
    have hc : s.getD a 0 = c := by
      have := congrArg (fun l => l.getD 0 0) e1
      simp only [List.getD_eq_getElem?_getD, List.getElem?_drop, Nat.add_zero] at this
      rw [List.getD_eq_getElem?_getD, this]
      rfl
    have hd : s.drop (a + 1) = cs := by
      rw [← List.drop_drop, e1]; rfl
    rw [hc]
    have hb1 : 1 ≤ nl L c ∧ nl L c ≤ L + 1 := by unfold nl; split <;> omega
    have hb2 : 1 ≤ nc C c ∧ nc C c ≤ C + 1 := by unfold nc; split <;> omega
    exact ⟨h7, n1, t, n2, .inr (.inr ⟨e4, ha, ⟨rem, h1, h2, hb1.1, by omega, hb2.1, by omega, .inl ⟨by omega, r', by rw [hd]; exact e3⟩⟩⟩)⟩

/-- No word stands further on than the text is long. -/
theorem go_hi : ∀ (s : List UInt8) (k : Nat) (r : Bool) (L C : Int) (ts : List Tok), go k r L C s = .ok ts → ∀ t ∈ ts, L ≤ t.line ∧ t.line ≤ L + s.length
  | [], k, r, L, C, ts, h => by
    unfold go at h
    injection h with h
    subst h
    intro t ht
    simp at ht
    subst ht
    simp
  | c :: cs, k + 1, r, L, C, ts, h => by
    simp only [go] at h
    intro t ht
    have := go_hi cs k r _ _ ts h t ht
    have h2 : L ≤ nl L c ∧ nl L c ≤ L + 1 := by unfold nl; split <;> omega
    simp only [List.length_cons]
    omega
  | c :: cs, 0, r, L, C, ts, h => by
    unfold go at h
    intro t ht
    simp only [List.length_cons]
    split at h
    · have := go_hi cs _ _ _ _ ts h t ht; omega
    · split at h
      · have := go_hi cs _ _ _ _ ts h t ht; omega
      · split at h
        · have := go_hi cs _ _ _ _ ts h t ht; omega
        · split at h
          · cases hg : go ((wordL (c :: cs)).text.length - 1) false L (C + 1) cs with
            | bad e l d => rw [hg] at h; cases h
            | ok ts' =>
              rw [hg] at h
              injection h with h
              rw [← h] at ht
              rcases List.mem_cons.1 ht with rfl | ht
              · show L ≤ L ∧ L ≤ _
                omega
              · have := go_hi cs _ _ _ _ ts' hg t ht; omega
          · cases h
theorem cut_lines (s : List UInt8) (ts : List Tok) (hs : s.length ≤ 4000) (h : cutL s = .ok ts) : ∀ t ∈ ts, 1 ≤ t.line ∧ t.line ≤ 4001 := by
  unfold cutL at h
  rw [if_neg (by omega)] at h
  intro t ht
  have := go_hi s 0 false 1 1 ts h t ht
  omega

/-- The signs as the plain answer lists them; the longest one that stands at the beginning, asked length by length. -/
def signR : List (List UInt8) :=
  [[123], [125], [40], [41], [58], [44], [59], [46, 46], [58, 61], [61], [33, 61], [60], [60, 61], [62], [62, 61], [43], [45], [42], [33], [38], [124], [45, 62], [60, 45, 62]]
def sgN (l : List UInt8) : Nat → Nat
  | 0 => 0
  | j + 1 => if j + 1 ≤ l.length ∧ signR.contains (l.take (j + 1)) = true then j + 1 else sgN l j
theorem signR_in : ∀ y ∈ signR, y ∈ signL := by decide
theorem signL_in : ∀ y ∈ signL, y ∈ signR := by decide
theorem signL_sorted : signL.Pairwise (fun a b => b.length ≤ a.length) := by decide
theorem sgN_short (l : List UInt8) (k : Nat) (h : l.length < k + 1) : ∀ j, sgN l (k + j) = sgN l k
  | 0 => rfl
  | j + 1 => by
    show sgN l (k + j + 1) = _
    rw [sgN, if_neg (by omega), sgN_short l k h j]
theorem sgN_above (l : List UInt8) (i : Nat) (h : ∀ j, i < j → j ≤ l.length → signR.contains (l.take j) = false) : ∀ j, sgN l (i + j) = sgN l i
  | 0 => rfl
  | j + 1 => by
    show sgN l (i + j + 1) = _
    rw [sgN, if_neg (fun e => by rw [h (i + j + 1) (by omega) e.1] at e; cases e.2), sgN_above l i h j]
theorem take_pre (l : List UInt8) (j : Nat) : (l.take j).isPrefixOf l = true := List.isPrefixOf_iff_prefix.2 (List.take_prefix j l)
theorem sgN_sign (l : List UInt8) : sgN l 3 = (signW l).length := by
  unfold signW
  cases hf : signL.find? (fun x => x.isPrefixOf l) with
  | none =>
    have h := List.find?_eq_none.1 hf
    have := sgN_above l 0 (fun j _ _ => by
      rw [Bool.eq_false_iff]
      intro e
      have hm : l.take j ∈ signR := by simpa using e
      exact h _ (signR_in _ hm) (take_pre l j)) 3
    exact this
  | some x =>
    obtain ⟨hp, as, bs, he, ha⟩ := List.find?_eq_some_iff_append.1 hf
    have hx : x ∈ signL := by rw [he]; simp
    obtain ⟨r, hr⟩ := List.isPrefixOf_iff_prefix.1 hp
    obtain ⟨x1, x2, _⟩ := signL_bytes x hx
    have hxt : l.take x.length = x := by rw [← hr, List.take_left]
    have hxl : x.length ≤ l.length := by rw [← hr, List.length_append]; omega
    have hab := sgN_above l x.length (fun j hj hjl => by
      rw [Bool.eq_false_iff]
      intro e
      have hm : l.take j ∈ signR := by simpa using e
      have hy := signR_in _ hm
      have hlen : (l.take j).length = j := by rw [List.length_take]; omega
      rw [he] at hy
      rcases List.mem_append.1 hy with h1 | h1
      · have := ha _ h1
        rw [take_pre] at this
        cases this
      · rcases List.mem_cons.1 h1 with h1 | h1
        · rw [h1] at hlen; omega
        · have hs := signL_sorted
          rw [he] at hs
          have := (List.pairwise_cons.1 (List.pairwise_append.1 hs).2.1).1 _ h1
          omega) (3 - x.length)
    rw [show x.length + (3 - x.length) = 3 from by omega] at hab
    rw [hab, Option.getD_some]
    cases hxe : x.length with
    | zero => exact absurd (List.length_eq_zero_iff.1 hxe) x1
    | succ i =>
      rw [sgN, if_pos ⟨by omega, by rw [← hxe, hxt]; simpa using signL_in x hx⟩]
/-- How many bytes a word has. -/
def wordN (l : List UInt8) : Nat := if headB letB l then (l.takeWhile namB).length else if headB digB l then (l.takeWhile digB).length else (signW l).length
end Go.Proofs.YtmkhfcdjgdofnaaDoor.WrdM
