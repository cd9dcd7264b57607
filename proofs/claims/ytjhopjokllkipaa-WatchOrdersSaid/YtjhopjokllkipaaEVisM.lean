/- What visit leans on: a place's list that is written over while it is gone through. -/
import Derived.Test.YtjhopjokllkipaaETell
import Derived.ArgAppend
namespace Go.Proofs.Ytjhopjokllkipaa
open Go.RowKit LitM TrailM EngM

/-- An engine with another list at a place. -/
def setWa (S : Eng) (p : Nat) (X : List Nat) : Eng := { S with wa := S.wa.set p X }
theorem setWa_setWa (S : Eng) (p : Nat) (X Y : List Nat) : setWa (setWa S p X) p Y = setWa S p Y := by unfold setWa; simp
theorem waA_self {wa : List (List Nat)} {p : Nat} (hp : p < wa.length) : wa.set p (waA wa p) = wa := by
  unfold waA
  rw [List.getD, List.getElem?_eq_getElem hp]
  show wa.set p wa[p] = wa
  exact List.set_getElem_self hp
theorem setWa_sf {S : Eng} {K p : Nat} {X : List Nat} (h : Sf S K) (hp : p < S.wa.length) (hx : ∀ i ∈ X, i < S.cs.length) (hl : X.length ≤ K) : Sf (setWa S p X) K := by
  refine ⟨h.n, h.cl, h.cn, h.lo, h.ln, ?_, ?_, by unfold setWa; simp only [List.length_set]; exact h.wl, h.le, h.en, h.vi, h.ok⟩
  · intro r hr i hm
    unfold setWa at hr hm
    simp only [List.length_set] at hr hm
    rw [waA_set hp] at hm
    split at hm
    · exact hx i hm
    · exact h.wa r hr i hm
  · intro r hr
    unfold setWa at hr ⊢
    simp only [List.length_set] at hr ⊢
    rw [waA_set hp]
    split
    · exact hl
    · exact h.wn r hr
theorem setWa_watchF {S : Eng} {p id : Nat} {l : Int} {X : List Nat} (hp : p < S.wa.length) (hne : plc l ≠ p) : watchF (setWa S p X) id l = setWa (watchF S id l) p X := by
  unfold watchF setWa
  simp only
  rw [waA_set hp, if_neg hne, List.set_comm _ _ (fun e => hne e.symm)]
/-- A tell doesn't hang on the list that is gone through. -/
theorem tellF_setWa {S : Eng} {p id : Nat} {wrong : Int} {X : List Nat} (hp : p < S.wa.length) (hne : (clA S.cs id).pr = true → anoL S id ≠ 0 → plc (anoL S id) ≠ p) :
    tellF (setWa S p X) id wrong = (setWa (tellF S id wrong).1 p X, (tellF S id wrong).2) := by
  have e1 : (setWa S p X).cs = S.cs := rfl
  have e2 : (setWa S p X).L = S.L := rfl
  have e3 : anoL (setWa S p X) id = anoL S id := rfl
  unfold tellF
  rw [e1, e2, e3]
  by_cases h1 : (clA S.cs id).pr = false
  · rw [if_pos h1, if_pos h1]
  · rw [if_neg h1, if_neg h1]
    by_cases h2 : valZ S.L (otherW (clA S.cs id) wrong) = 1
    · rw [if_pos h2, if_pos h2]
    · rw [if_neg h2, if_neg h2]
      by_cases h3 : anoL S id ≠ 0
      · rw [if_pos h3, if_pos h3]
        have : rewatch (nextF (setWa S p X) id) id (otherW (clA S.cs id) wrong) (anoL S id) = setWa (rewatch (nextF S id) id (otherW (clA S.cs id) wrong) (anoL S id)) p X := rfl
        rw [this, setWa_watchF (by simp [rewatch, nextF]; exact hp) (hne (by simpa using h1) h3)]
      · rw [if_neg h3, if_neg h3]
        by_cases h4 : valZ S.L (otherW (clA S.cs id) wrong) = 0
        · rw [if_pos h4, if_pos h4]; rfl
        · rw [if_neg h4, if_neg h4]; rfl
/-- A tell changes one clause. -/
theorem tellF_other {S : Eng} {id j : Nat} {wrong : Int} (hi : id < S.cs.length) (hj : j ≠ id) : clA (tellF S id wrong).1.cs j = clA S.cs j := by
  have hn : clA (nextF S id).cs j = clA S.cs j := by unfold nextF; rw [clA_set hi, if_neg hj]
  unfold tellF
  split
  · rfl
  · split
    · rfl
    · split
      · show clA ((nextF S id).cs.set id _) j = _
        rw [clA_set (by simp [nextF]; exact hi), if_neg hj]; exact hn
      · split
        · exact hn
        · exact hn
/-- append(x, y...) where there is room. -/
theorem wpList_append_in {P : Program} {ops : Array Oper} {rest : List Oper} {o : Oper} {a : Act} {Q : Exit → Act → World → Prop} (w : World) (hgd : o.guard = none) (s x : Operand) (t e : TypeId)
    (ho : o.op = .call { callee := .builtin .append, args := #[s, x], argTypes := #[t, t] }) (ht : P.underlying t = some (.slice e)) {z : Value} {size bytes : Nat}
    (hinfo : (P.info? e).map (fun i => (i.zero, i.size, i.bytes)) = some (some z, size, bytes)) (g n c : Nat) (hs : a.eval s = .slice (some ⟨g, 0, none⟩) n c)
    (ad : Addr) (m c' : Nat) (news : List Value) (hx : a.eval x = .slice (some ad) m c') (hl : news.length = m * size) (hnews : ∀ j u, news[j]? = some u → w.cell? (ad.add j) = some u) (h1 : ∀ u ∈ news, u.oneCell' = true) (hroom : n + m ≤ c)
    (hc : ∀ j, j < news.length → (w.cell? ⟨g, n * size + j, none⟩).isSome = true ∧ w.frozen? ⟨g, n * size + j, none⟩ = false)
    (h : wpList P ops Q rest (a.put o.dst (.slice (some ⟨g, 0, none⟩) (n + m) c)) (w.setCells g (n * size) news)) :
    wpList P ops Q (o :: rest) a w := by
  refine wpList_plain hgd fun K hK' => ?_
  obtain ⟨i0, hi, hz0, hz1, hz2⟩ := info_parts hinfo
  have hrun := run_append_room_cells (P := P) (w := w) t o.type e i0 ht hi g 0 n c ad m c' news (by rw [hz1]; exact hl) hnews h1 hroom (fun j hj => by rw [hz1, Nat.zero_add]; exact (hc j hj).1) (fun j hj => by rw [hz1, Nat.zero_add]; exact (hc j hj).2)
  rw [hz1, Nat.zero_add] at hrun
  unfold Oper.wp execOp
  simp only [ho, resolve, invoke, builtin, Sem.run_bind, Sem.run_pure, Result.andThen_ok, List.map_toArray, List.map_cons, List.map_nil, hs, hx, hrun]
  exact hK' _ _ h
theorem setCells_one (w : World) (g k : Nat) (x : Value) : w.setCells g k [x] = w.setCell ⟨g, k, none⟩ x := by
  simp [World.setCells]
/-- f, but the list from o on. -/
def putL (f : Nat → Value) (o : Nat) (vs : List Value) (j : Nat) : Value := if o ≤ j ∧ j < o + vs.length then vs.getD (j - o) undef else f j
theorem RowV.sets {T : TypeId} {g n c : Nat} : ∀ (vs : List Value) {w : World} {f : Nat → Value} (_ : RowV T 1 w g n c f) (o : Nat), o + vs.length ≤ n → RowV T 1 (w.setCells g o vs) g n c (putL f o vs)
  | [], _, f, h, o, _ => h.congr fun j _ => by unfold putL; rw [if_neg (by simp only [List.length_nil]; omega)]
  | v :: r, _, f, h, o, hl => by
    simp only [List.length_cons] at hl
    refine (RowV.sets r (h.set (show o < n * 1 by omega) v) (o + 1) (by omega)).congr fun j hj => ?_
    unfold putL
    simp only [List.length_cons]
    by_cases e : j = o
    · subst e
      rw [if_pos (by omega), if_neg (by omega), updV_at, Nat.sub_self]; rfl
    · by_cases e2 : o ≤ j ∧ j < o + (r.length + 1)
      · rw [if_pos e2, if_pos (by omega), show j - o = (j - (o + 1)) + 1 from by omega]; rfl
      · rw [if_neg e2, if_neg (by omega), updV_ne _ _ e]
theorem Kf.sets {F : Nat → Prop} {a : World} {g : Nat} (hg : F g) : ∀ (vs : List Value) {b : World} (_ : Kf F a b) (o : Nat), Kf F a (b.setCells g o vs)
  | [], _, h, _ => h
  | v :: r, _, h, o => Kf.sets hg r (h.set (p := ⟨g, o, none⟩) (.inl hg) v) (o + 1)
section
variable {w w' : World} {b d : Nat} {q : Pm} {S : Eng}
/-- A place's list is written over. -/
theorem E6.wbTo (h : E6 w b q S d) {p : Nat} (hp : p < S.wa.length) (hk : Kf (fun k => q.own k = .wl p) w w') {l' : List Nat} (hl : l'.length = (waA S.wa p).length) (hr : SlV 3 1 w' (q.Wb p).1 l'.length (q.Wb p).2 (natC l')) :
    E6 w' b q (setWa S p l') d ∧ Ext q q w w' := by
  have hc : Chg (fun o => o = .wl p) q.own q.own w w' := h.chg hk
  refine ⟨⟨?_, h.ob, h.tr_kept hc (by simp), h.cl.kept hc (by simp), fun i hi => (h.lc i hi).kept hc (by simp), h.lo.kept hc (by simp), ?_, fun k hk' => ?_, h.le.kept hc (by simp), fun k hk => (h.lb k hk).kept hc (by simp), hc.fr⟩, hc.ext (by simp) rfl rfl⟩
  · have := h.head_kept hc (by simp)
    unfold headV setWa at *
    rw [this]; simp
  · have := (h.wa.kept hc (by simp))
    unfold setWa
    simp only [List.length_set]
    refine this.congr fun j hj => ?_
    unfold waC
    rw [waA_set hp]
    by_cases e : j = p
    · subst e; rw [if_pos rfl, hl]
    · rw [if_neg e]
  · unfold setWa at hk' ⊢
    simp only [List.length_set] at hk' ⊢
    rw [waA_set hp]
    by_cases e : k = p
    · subst e; rw [if_pos rfl]; exact ⟨hr, (h.wb k hk').2⟩
    · rw [if_neg e]; exact (h.wb k hk').kept hc (by simp [e])
/-- A place's list is written over, and is another one. -/
theorem E6.cutW (h : E6 w b q S d) {p gw : Nat} (hp : p < S.wa.length) (hA : q.Aw = some ⟨gw, 0, none⟩) (hk : Kf (fun k => q.own k = .wl p) w w') {l' : List Nat} (hr : SlV 3 1 w' (q.Wb p).1 l'.length (q.Wb p).2 (natC l')) :
    E6 (w'.setCell ⟨gw, p, none⟩ (.slice (q.Wb p).1 l'.length (q.Wb p).2)) b q (setWa S p l') d ∧ Ext q q w (w'.setCell ⟨gw, p, none⟩ (.slice (q.Wb p).1 l'.length (q.Wb p).2)) := by
  obtain ⟨hr0, how⟩ := h.wa
  rw [hA] at hr0 how
  have ogw : q.own gw = .wrow := how gw (by rw [onB_some])
  obtain ⟨g0, e0, hrow⟩ := hr0.row (by omega)
  injection e0 with e0
  injection e0 with e0
  subst e0
  have hrw : RowV 33 1 w' gw S.wa.length q.cw (waC S.wa q.Wb) := hrow.same (hk.block gw hrow.lt (fun e => by rw [ogw] at e; cases e))
  have hnb : ¬ onB (q.Wb p).1 gw := fun e => by have := (h.wb p hp).2 gw e; rw [ogw] at this; cases this
  have K2 : Kf (fun k => q.own k = .wl p ∨ q.own k = .wrow) w (w'.setCell ⟨gw, p, none⟩ (.slice (q.Wb p).1 l'.length (q.Wb p).2)) := (hk.mono fun x hx => .inl (.inl hx)).set (.inl (.inr ogw)) _
  have hc : Chg (fun o => o = .wl p ∨ o = .wrow) q.own q.own w _ := h.chg (O := fun o => o = .wl p ∨ o = .wrow) K2
  refine ⟨⟨?_, h.ob, h.tr_kept hc (by simp), h.cl.kept hc (by simp), fun i hi => (h.lc i hi).kept hc (by simp), h.lo.kept hc (by simp), ⟨?_, ?_⟩, fun k hk' => ?_, h.le.kept hc (by simp), fun k hk => (h.lb k hk).kept hc (by simp), hc.fr⟩, hc.ext (by simp) rfl rfl⟩
  · have := h.head_kept hc (by simp)
    unfold headV setWa at *
    rw [this]; simp
  · unfold setWa
    simp only [List.length_set]
    rw [hA]
    refine .inr ⟨gw, rfl, (hrw.set (show p < S.wa.length * 1 by omega) _).congr fun j hj => ?_⟩
    unfold waC
    rw [waA_set hp]
    by_cases e : j = p
    · subst e; rw [updV_at, if_pos rfl]
    · rw [updV_ne _ _ e, if_neg e]
  · intro j hj; rw [hA] at hj; exact how j hj
  · unfold setWa at hk' ⊢
    simp only [List.length_set] at hk' ⊢
    rw [waA_set hp]
    by_cases e : k = p
    · subst e; rw [if_pos rfl]; exact ⟨hr.other hnb _, (h.wb k hk').2⟩
    · rw [if_neg e]; exact (h.wb k hk').kept hc (by simp [e])
end
end Go.Proofs.Ytjhopjokllkipaa
