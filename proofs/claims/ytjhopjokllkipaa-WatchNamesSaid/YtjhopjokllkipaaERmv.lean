/- The contract of an engine's Remove; of a Back that is refused. -/
import Derived.Test.YtjhopjokllkipaaERem
import Derived.Test.YtjhopjokllkipaaELive
namespace Go.Proofs.Ytjhopjokllkipaa
open Go.RowKit LitM TrailM EngM

section
variable {w : World} {b d : Nat} {q : Pm} {S : Eng}
/-- A clause's cells are those of none. -/
theorem E6.rem {id gc : Nat} (h : E6 w b q S d) (hi : id < S.cs.length) (hA : q.Ac = some ⟨gc, 0, none⟩) :
    ∃ q', E6 (((((w.setCell ⟨gc, id * 5, none⟩ (.bool false)).setCell ⟨gc, id * 5 + 1, none⟩ (.slice none 0 0)).setCell ⟨gc, id * 5 + 2, none⟩ (.int .i32 0)).setCell ⟨gc, id * 5 + 3, none⟩ (.int .i32 0)).setCell ⟨gc, id * 5 + 4, none⟩ (.int .i64 0)) b q' (removeF S id) d ∧
      Ext q q' w (((((w.setCell ⟨gc, id * 5, none⟩ (.bool false)).setCell ⟨gc, id * 5 + 1, none⟩ (.slice none 0 0)).setCell ⟨gc, id * 5 + 2, none⟩ (.int .i32 0)).setCell ⟨gc, id * 5 + 3, none⟩ (.int .i32 0)).setCell ⟨gc, id * 5 + 4, none⟩ (.int .i64 0)) := by
  obtain ⟨g, e, hr, ho⟩ := h.clsRow hi
  rw [hA] at e
  injection e with e
  injection e with e
  subst e
  have hk : Kf (fun k => q.own k = .cls) w (((((w.setCell ⟨gc, id * 5, none⟩ (.bool false)).setCell ⟨gc, id * 5 + 1, none⟩ (.slice none 0 0)).setCell ⟨gc, id * 5 + 2, none⟩ (.int .i32 0)).setCell ⟨gc, id * 5 + 3, none⟩ (.int .i32 0)).setCell ⟨gc, id * 5 + 4, none⟩ (.int .i64 0)) :=
    (((((Kf.refl _ _).set (.inl ho) _).set (.inl ho) _).set (.inl ho) _).set (.inl ho) _).set (.inl ho) _
  have hc : Chg (fun o => o = .cls) q.own q.own w _ := h.chg hk
  have hcl : ∀ i, clA (S.cs.set id Cl.gone) i = if i = id then Cl.gone else clA S.cs i := fun i => clA_set hi _ i
  refine ⟨{ q with Lc := fun i => if i = id then (none, 0) else q.Lc i }, ⟨?_, h.ob, h.tr_kept hc (by simp), ⟨?_, h.cl.2⟩, fun i hi' => ?_, h.lo.kept hc (by simp), h.wa.kept hc (by simp), fun p hp => (h.wb p hp).kept hc (by simp), h.le.kept hc (by simp), fun k hk => (h.lb k hk).kept hc (by simp), hc.fr⟩, hc.ext (by simp) rfl rfl⟩
  · have := h.head_kept hc (by simp)
    unfold headV removeF at *
    rw [this]; simp
  · show SlV _ 5 _ q.Ac (S.cs.set id Cl.gone).length q.cc _
    rw [hA, List.length_set]
    refine .inr ⟨gc, rfl, (((((hr.set (show id * 5 < S.cs.length * 5 by omega) _).set (show id * 5 + 1 < S.cs.length * 5 by omega) _).set (show id * 5 + 2 < S.cs.length * 5 by omega) _).set (show id * 5 + 3 < S.cs.length * 5 by omega) _).set (show id * 5 + 4 < S.cs.length * 5 by omega) _).congr fun j hj => ?_⟩
    show clC (S.cs.set id Cl.gone) (fun i => if i = id then (none, 0) else q.Lc i) j = _
    by_cases e : j / 5 = id
    · have hg : clA (S.cs.set id Cl.gone) (j / 5) = Cl.gone := by rw [hcl, if_pos e]
      unfold clC
      rw [hg]
      simp only
      rw [if_pos e]
      rcases (show j = id * 5 ∨ j = id * 5 + 1 ∨ j = id * 5 + 2 ∨ j = id * 5 + 3 ∨ j = id * 5 + 4 by omega) with x | x | x | x | x <;> subst x
      · rw [if_pos (by omega), updV_ne _ _ (by omega), updV_ne _ _ (by omega), updV_ne _ _ (by omega), updV_ne _ _ (by omega), updV_at]; rfl
      · rw [if_neg (by omega), if_pos (by omega), updV_ne _ _ (by omega), updV_ne _ _ (by omega), updV_ne _ _ (by omega), updV_at]; rfl
      · rw [if_neg (by omega), if_neg (by omega), if_pos (by omega), updV_ne _ _ (by omega), updV_ne _ _ (by omega), updV_at]; rfl
      · rw [if_neg (by omega), if_neg (by omega), if_neg (by omega), if_pos (by omega), updV_ne _ _ (by omega), updV_at]; rfl
      · rw [if_neg (by omega), if_neg (by omega), if_neg (by omega), if_neg (by omega), updV_at]; rfl
    · have hg : clA (S.cs.set id Cl.gone) (j / 5) = clA S.cs (j / 5) := by rw [hcl, if_neg e]
      rw [updV_ne _ _ (by omega), updV_ne _ _ (by omega), updV_ne _ _ (by omega), updV_ne _ _ (by omega), updV_ne _ _ (by omega)]
      unfold clC
      rw [hg]
      simp only
      rw [if_neg e]
  · have hi' : i < S.cs.length := by simpa [removeF] using hi'
    show Part _ q.own (.lits i) _ 1 (if i = id then (none, 0) else q.Lc i).1 (clA (S.cs.set id Cl.gone) i).ls.length (if i = id then (none, 0) else q.Lc i).2 (lsC (clA (S.cs.set id Cl.gone) i).ls)
    rw [hcl]
    by_cases e : i = id
    · rw [if_pos e, if_pos e]; exact Part.nil _ _ _ _ _ _
    · rw [if_neg e, if_neg e]; exact (h.lc i hi').kept hc (by simp)
end
/-- Can it be removed? -/
def remOk (S : Eng) (id : Int) : Bool := thereB S id && !leanB S id.toNat
/-- What Remove leaves. -/
def RemTo (w : World) (b : Nat) (q : Pm) (S : Eng) (d : Nat) (id : Int) (e : Ending) (w' : World) : Prop :=
  (remOk S id = false ∧ e = .returned (.int .i64 51) ∧ E6 w' b q S d ∧ Ext q q w w') ∨ (remOk S id = true ∧ e = .returned (.int .i64 0) ∧ ∃ q', E6 w' b q' (removeF S id.toNat) d ∧ Ext q q' w w')
set_option maxHeartbeats 3200000 in
set_option maxRecDepth 100000 in
theorem remove_any {w : World} {b : Nat} {q : Pm} {S : Eng} {d K : Nat} (h : E6 w b q S d) (hS : Sf S K) (id : Int) :
    Calls Try.prog 13 #[.pointer (some ⟨b, 0, none⟩), .int .i64 id] w (RemTo w b q S d id) := by
  have HP := Lib.hid (present_any h id)
  have HE := Lib.hid h
  unfold RemTo
  cases ht : thereB S id with
  | false =>
    rw [ht] at HP
    have HR : Hid (remOk S id = false) := by unfold Hid remOk; rw [ht]; rfl
    clear h ht
    go_enter Try.func13, Try.ntmps13
    go_wp2_with fail
    refine HP.out.mono ?_
    rintro e w' ⟨rfl, rfl⟩
    go_wp2_with fail
    go_ret
    exact .inl ⟨HR.out, rfl, HE.out, Ext.refl _ _⟩
  | true =>
    rw [ht] at HP
    have h3 : 0 ≤ id ∧ id < (S.cs.length : Int) := by
      unfold thereB at ht
      simp only [Bool.and_eq_true, decide_eq_true_eq] at ht
      exact ht.1
    obtain ⟨k, rfl⟩ := Int.eq_ofNat_of_zero_le h3.1
    have hk : k < S.cs.length := by omega
    obtain ⟨hls, _, hll, _, _⟩ := hS.cl k hk
    have HL := Lib.hid (leantOn_any h hk (fun x hx => (hls x hx).1) hll hS.n)
    have HR : Hid (remOk S (k : Int) = !leanB S k) := by unfold Hid remOk; rw [ht]; simp
    cases hl : leanB S k with
    | true =>
      rw [hl] at HL HR
      clear h ht hl hls hll h3
      go_enter Try.func13, Try.ntmps13
      go_wp2_with fail
      refine HP.out.mono ?_
      rintro e w' ⟨rfl, rfl⟩
      go_wp2_with fail
      refine HL.out.mono ?_
      rintro e w' ⟨rfl, hB⟩
      have HE1 := Lib.hid (show _ ∧ _ from ⟨HE.out.below hB, Ext.below HE.out hB⟩)
      clear hB HL HP
      go_wp2_with fail
      go_ret
      exact .inl ⟨HR.out, rfl, HE1.out.1, HE1.out.2⟩
    | false =>
      rw [hl] at HL HR
      clear h ht hl hls hll h3
      have HK := Lib.hid hk
      go_enter Try.func13, Try.ntmps13
      go_wp2_with fail
      refine HP.out.mono ?_
      rintro e w' ⟨rfl, rfl⟩
      go_wp2_with fail
      refine HL.out.mono ?_
      rintro e w1 ⟨rfl, hB⟩
      have hE1 := HE.out.below hB
      obtain ⟨gc, hA, hrow, _⟩ := hE1.clsRow hk
      have hcw := hrow.bd
      obtain ⟨hcw1, hcw2⟩ := hcw
      have g1 := hE1.h1
      rw [hA] at g1
      obtain ⟨c0, c1, c2, c3, c4, cf⟩ := hE1.clCells hk hA
      obtain ⟨q', e1, e2⟩ := hE1.rem hk hA
      have HX := Lib.hid (show _ ∧ _ from ⟨e1, (Ext.below HE.out hB).trans e2⟩)
      clear hB HL HP hrow hE1 e1 e2
      generalize S.cs.length = n at *
      generalize (clA S.cs k).pr = y0 at *
      generalize (clA S.cs k).ls.length = y1 at *
      generalize (clA S.cs k).w0 = y2 at *
      generalize (clA S.cs k).w1 = y3 at *
      generalize (clA S.cs k).nx = y4 at *
      go_wp2_with fail
      go_ret
      exact .inr ⟨HR.out, rfl, q', HX.out.1, HX.out.2⟩
set_option maxHeartbeats 1600000 in
/-- A Back that is refused. -/
theorem eback_no {w : World} {b : Nat} {q : Pm} {S : Eng} {d : Nat} (h : E6 w b q S d) (v : Int) (hv : v < 0 ∨ (d : Int) < v) :
    Calls Try.prog 15 #[.pointer (some ⟨b, 0, none⟩), .int .i64 v] w fun e w' => e = .returned (.int .i64 51) ∧ w = w' := by
  have h0 := h.h0
  obtain ⟨F, hT, _⟩ := h.tr
  have HB := Lib.hid (back_no w hT v hv)
  clear h hT
  go_enter Try.func15, Try.ntmps15
  go_wp2_with fail
  refine HB.out.mono ?_
  rintro e w' ⟨rfl, rfl⟩
  go_wp2_with fail
  go_ret
  exact ⟨rfl, rfl⟩
theorem setCl_gone {S : Eng} {K id : Nat} (h : Sf S K) (hi : id < S.cs.length) : Sf (removeF S id) K := by
  have hcl : ∀ i, clA (S.cs.set id Cl.gone) i = if i = id then Cl.gone else clA S.cs i := fun i => clA_set hi _ i
  have hlen : (S.cs.set id Cl.gone).length = S.cs.length := by simp
  refine ⟨h.n, fun i hi' => ?_, by show (S.cs.set id Cl.gone).length ≤ K; rw [hlen]; exact h.cn, fun i hm => by show i < (S.cs.set id Cl.gone).length; rw [hlen]; exact h.lo i hm, h.ln, fun p hp i hm => by show i < (S.cs.set id Cl.gone).length; rw [hlen]; exact h.wa p hp i hm, h.wn, h.wl, fun k hk i hm => by show i < (S.cs.set id Cl.gone).length; rw [hlen]; exact h.le k hk i hm, h.en, h.vi, h.ok⟩
  have hi' : i < S.cs.length := by rw [← hlen]; exact hi'
  show (∀ x ∈ (clA (S.cs.set id Cl.gone) i).ls, LitM.one x = true ∧ varZ x ≤ S.n) ∧ ((clA (S.cs.set id Cl.gone) i).nx = 0 ∨ (clA (S.cs.set id Cl.gone) i).nx < (clA (S.cs.set id Cl.gone) i).ls.length) ∧ (clA (S.cs.set id Cl.gone) i).ls.length ≤ 90000 ∧ ((clA (S.cs.set id Cl.gone) i).w0 = 0 ∨ (clA (S.cs.set id Cl.gone) i).w0 ∈ (clA (S.cs.set id Cl.gone) i).ls) ∧ ((clA (S.cs.set id Cl.gone) i).w1 = 0 ∨ (clA (S.cs.set id Cl.gone) i).w1 ∈ (clA (S.cs.set id Cl.gone) i).ls)
  rw [hcl]
  by_cases e : i = id
  · rw [if_pos e]
    exact ⟨fun x hx => absurd hx List.not_mem_nil, .inl rfl, Nat.zero_le _, .inl rfl, .inl rfl⟩
  · rw [if_neg e]; exact h.cl i hi'
theorem inv_remove {S : Eng} (h : Inv S) {id : Nat} (hi : id < S.cs.length) (hl : leanB S id = false) : Inv (removeF S id) := by
  obtain ⟨K, hs⟩ := h.sf
  have hcl : ∀ i, clA (S.cs.set id Cl.gone) i = if i = id then Cl.gone else clA S.cs i := fun i => clA_set hi _ i
  have hne : ∀ i, (clA (S.cs.set id Cl.gone) i).pr = true → i ≠ id ∧ clA (S.cs.set id Cl.gone) i = clA S.cs i := fun i hp => by
    rw [hcl] at hp ⊢
    by_cases e : i = id
    · rw [if_pos e] at hp; cases hp
    · rw [if_neg e]; exact ⟨e, rfl⟩
  have hlen : (S.cs.set id Cl.gone).length = S.cs.length := by simp
  refine ⟨⟨K, setCl_gone hs hi⟩, fun i hi' => ?_, h.i1, h.i2, fun p i hm hp => ?_, h.i4, fun i hi' hp hb => ?_, fun p i hm hp => ?_, h.i7, fun j x hx h0 => ?_⟩
  · show (clA (S.cs.set id Cl.gone) i).ls.Nodup
    rw [hcl]
    split
    · exact List.nodup_nil
    · exact h.nd i (by rw [← hlen]; exact hi')
  · obtain ⟨e1, e2⟩ := hne i hp
    have hp : (clA (S.cs.set id Cl.gone) i).pr = true := hp
    show (p = plc (clA (S.cs.set id Cl.gone) i).w0 ∨ p = plc (clA (S.cs.set id Cl.gone) i).w1) ∧ (clA (S.cs.set id Cl.gone) i).w0 ≠ (clA (S.cs.set id Cl.gone) i).w1 ∧ (clA (S.cs.set id Cl.gone) i).w0 ∈ (clA (S.cs.set id Cl.gone) i).ls ∧ (clA (S.cs.set id Cl.gone) i).w1 ∈ (clA (S.cs.set id Cl.gone) i).ls ∧ i ∈ waA S.wa (plc (clA (S.cs.set id Cl.gone) i).w0) ∧ i ∈ waA S.wa (plc (clA (S.cs.set id Cl.gone) i).w1)
    rw [e2] at hp ⊢
    exact h.i3 p i hm hp
  · obtain ⟨e1, e2⟩ := hne i hp
    have hp : (clA (S.cs.set id Cl.gone) i).pr = true := hp
    have hb : bothB (clA (S.cs.set id Cl.gone) i).ls = false := hb
    show i ∈ S.lo ∨ (∃ k, k < S.le.length ∧ i ∈ (leA S.le k).2 ∧ ∃ x ∈ S.L, x.l ∈ (clA (S.cs.set id Cl.gone) i).ls ∧ x.lv ≤ k + 1) ∨ (∃ x ∈ S.L, x.l ∈ (clA (S.cs.set id Cl.gone) i).ls ∧ x.lv = 0) ∨ (i ∈ waA S.wa (plc (clA (S.cs.set id Cl.gone) i).w0) ∧ i ∈ waA S.wa (plc (clA (S.cs.set id Cl.gone) i).w1))
    rw [e2] at hp hb ⊢
    exact h.i5 i (by rw [← hlen]; exact hi') hp hb
  · obtain ⟨e1, e2⟩ := hne i hp
    have hp : (clA (S.cs.set id Cl.gone) i).pr = true := hp
    show ∀ k, k ≤ S.le.length → ∀ j x, j < vk S k → S.L[j]? = some x → (x.l = -(clA (S.cs.set id Cl.gone) i).w0 → ∃ y ∈ S.L, y.l = (clA (S.cs.set id Cl.gone) i).w1 ∧ y.lv ≤ k) ∧ (x.l = -(clA (S.cs.set id Cl.gone) i).w1 → ∃ y ∈ S.L, y.l = (clA (S.cs.set id Cl.gone) i).w0 ∧ y.lv ≤ k)
    rw [e2] at hp ⊢
    exact h.i6 p i hm hp
  · obtain ⟨r, q1, q2, q3, q4, q5⟩ := h.i8 j x hx h0
    have hr : r ≠ id := fun e => by
      subst e
      have hm := List.mem_of_getElem? hx
      have hf := h.pre.find hm
      unfold leanB at hl
      rw [List.any_eq_false] at hl
      have := hl x.l q4
      unfold reaZ at this
      rw [hf] at this
      simp [q1] at this
    refine ⟨r, q1, by show r < (S.cs.set id Cl.gone).length; rw [hlen]; exact q2, ?_, ?_, ?_⟩
    · show (clA (S.cs.set id Cl.gone) r).pr = true
      rw [hcl, if_neg hr]; exact q3
    · show x.l ∈ (clA (S.cs.set id Cl.gone) r).ls
      rw [hcl, if_neg hr]; exact q4
    · show ∀ y ∈ (clA (S.cs.set id Cl.gone) r).ls, y ≠ x.l → Tr (S.L.take j) (-y)
      rw [hcl, if_neg hr]; exact q5
section
variable {B b : Nat} {w0 w : World} {S : Eng}
/-- What Remove leaves of an engine. -/
def remE (S : Eng) (id : Int) : Eng := if remOk S id = true then removeF S id.toNat else S
theorem remOk_lt {id : Int} (h : remOk S id = true) : id.toNat < S.cs.length ∧ leanB S id.toNat = false := by
  unfold remOk thereB at h
  simp only [Bool.and_eq_true, decide_eq_true_eq, Bool.not_eq_true'] at h
  exact ⟨by omega, h.2⟩
theorem Solo.remove (h : Solo B w0 w b S) (id : Int) :
    Calls Try.prog 13 #[.pointer (some ⟨b, 0, none⟩), .int .i64 id] w fun e w' => e = .returned (.int .i64 (if remOk S id = true then 0 else 51)) ∧ Solo B w0 w' b (remE S id) := by
  obtain ⟨q, hE, hI, hB, h0, hs⟩ := h
  refine (remove_any hE hI.small id).mono fun e w' ht => ?_
  unfold remE
  rcases ht with ⟨a, e1, hE', hX⟩ | ⟨a, e1, q', hE', hX⟩
  · rw [if_neg (by rw [a]; simp), if_neg (by rw [a]; simp)]
    exact ⟨e1, Solo.to hB h0 hs hE' hI hX⟩
  · rw [if_pos a, if_pos a]
    obtain ⟨r1, r2⟩ := remOk_lt a
    exact ⟨e1, Solo.to hB h0 hs hE' (inv_remove hI r1 r2) hX⟩
theorem Solo.backNo (h : Solo B w0 w b S) (v : Int) (hv : v < 0 ∨ (S.le.length : Int) < v) :
    Calls Try.prog 15 #[.pointer (some ⟨b, 0, none⟩), .int .i64 v] w fun e w' => e = .returned (.int .i64 51) ∧ Solo B w0 w' b S := by
  obtain ⟨q, hE, hI, hB, h0, hs⟩ := h
  exact (eback_no hE v hv).mono fun e w' ⟨he, hw⟩ => ⟨he, by subst hw; exact ⟨q, hE, hI, hB, h0, hs⟩⟩
end
end Go.Proofs.Ytjhopjokllkipaa
