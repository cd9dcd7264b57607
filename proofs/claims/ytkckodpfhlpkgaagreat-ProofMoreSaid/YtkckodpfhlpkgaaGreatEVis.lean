/- What visit leans on: a place's list that is written over while it is gone through. The contract of an engine's visit: those are told that watch the other sign. -/
import Derived.Test.YtkckodpfhlpkgaaGreatETell
import Derived.ArgAppend
import Derived.Deep.RegionWith
import Derived.Deep.RegionLaw
namespace Go.Proofs.YtkckodpfhlpkgaaGreat
open Go.RowKit LitM TrailM EngM

/-- An engine with another list at a place. -/
def setWa (S : Eng) (p : Nat) (X : List Nat) : Eng := { S with wa := S.wa.set p X }
theorem setWa_setWa (S : Eng) (p : Nat) (X Y : List Nat) : setWa (setWa S p X) p Y = setWa S p Y := by unfold setWa; simp
theorem waA_self {wa : List (List Nat)} {p : Nat} (hp : p < wa.length) : wa.set p (waA wa p) = wa := by
  unfold waA
  rw [List.getD, List.getElem?_eq_getElem hp]
  show wa.set p wa[p] = wa
  exact List.set_getElem_self hp
theorem setWa_sf {S : Eng} {K p : Nat} {X : List Nat} (h : Sf S K) (hp : p < S.wa.length) (hx : ∀ i ∈ X, i < S.cs.length) (hl : X.length ≤ K) : Sf (setWa S p X) K := by
  refine ⟨h.n, h.cl, h.cn, h.lo, h.ln, ?_, ?_, by unfold setWa; simp only [List.length_set]; exact h.wl, h.le, h.en, h.vi, h.ok⟩
  · intro r hr i hm
    unfold setWa at hr hm
    simp only [List.length_set] at hr hm
    rw [waA_set hp] at hm
    split at hm
    · exact hx i hm
    · exact h.wa r hr i hm
  · intro r hr
    unfold setWa at hr ⊢
    simp only [List.length_set] at hr ⊢
    rw [waA_set hp]
    split
    · exact hl
    · exact h.wn r hr
theorem setWa_watchF {S : Eng} {p id : Nat} {l : Int} {X : List Nat} (hp : p < S.wa.length) (hne : plc l ≠ p) : watchF (setWa S p X) id l = setWa (watchF S id l) p X := by
  unfold watchF setWa
  simp only
  rw [waA_set hp, if_neg hne, List.set_comm _ _ (fun e => hne e.symm)]
/-- A tell doesn't hang on the list that is gone through. -/
theorem tellF_setWa {S : Eng} {p id : Nat} {wrong : Int} {X : List Nat} (hp : p < S.wa.length) (hne : (clA S.cs id).pr = true → anoL S id ≠ 0 → plc (anoL S id) ≠ p) :
    tellF (setWa S p X) id wrong = (setWa (tellF S id wrong).1 p X, (tellF S id wrong).2) := by
  have e1 : (setWa S p X).cs = S.cs := rfl
  have e2 : (setWa S p X).L = S.L := rfl
  have e3 : anoL (setWa S p X) id = anoL S id := rfl
  unfold tellF
  rw [e1, e2, e3]
  by_cases h1 : (clA S.cs id).pr = false
  · rw [if_pos h1, if_pos h1]
  · rw [if_neg h1, if_neg h1]
    by_cases h2 : valZ S.L (otherW (clA S.cs id) wrong) = 1
    · rw [if_pos h2, if_pos h2]
    · rw [if_neg h2, if_neg h2]
      by_cases h3 : anoL S id ≠ 0
      · rw [if_pos h3, if_pos h3]
        have : rewatch (nextF (setWa S p X) id) id (otherW (clA S.cs id) wrong) (anoL S id) = setWa (rewatch (nextF S id) id (otherW (clA S.cs id) wrong) (anoL S id)) p X := rfl
        rw [this, setWa_watchF (by simp [rewatch, nextF]; exact hp) (hne (by simpa using h1) h3)]
      · rw [if_neg h3, if_neg h3]
        by_cases h4 : valZ S.L (otherW (clA S.cs id) wrong) = 0
        · rw [if_pos h4, if_pos h4]; rfl
        · rw [if_neg h4, if_neg h4]; rfl
/-- A tell changes one clause. -/
theorem tellF_other {S : Eng} {id j : Nat} {wrong : Int} (hi : id < S.cs.length) (hj : j ≠ id) : clA (tellF S id wrong).1.cs j = clA S.cs j := by
  have hn : clA (nextF S id).cs j = clA S.cs j := by unfold nextF; rw [clA_set hi, if_neg hj]
  unfold tellF
  split
  · rfl
  · split
    · rfl
    · split
      · show clA ((nextF S id).cs.set id _) j = _
        rw [clA_set (by simp [nextF]; exact hi), if_neg hj]; exact hn
      · split
        · exact hn
        · exact hn
/-- append(x, y...) where there is room. -/
theorem wpList_append_in {P : Program} {ops : Array Oper} {rest : List Oper} {o : Oper} {a : Act} {Q : Exit → Act → World → Prop} (w : World) (hgd : o.guard = none) (s x : Operand) (t e : TypeId)
    (ho : o.op = .call { callee := .builtin .append, args := #[s, x], argTypes := #[t, t] }) (ht : P.underlying t = some (.slice e)) {z : Value} {size bytes : Nat}
    (hinfo : (P.info? e).map (fun i => (i.zero, i.size, i.bytes)) = some (some z, size, bytes)) (g n c : Nat) (hs : a.eval s = .slice (some ⟨g, 0, none⟩) n c)
    (ad : Addr) (m c' : Nat) (news : List Value) (hx : a.eval x = .slice (some ad) m c') (hl : news.length = m * size) (hnews : ∀ j u, news[j]? = some u → w.cell? (ad.add j) = some u) (h1 : ∀ u ∈ news, u.oneCell' = true) (hroom : n + m ≤ c)
    (hc : ∀ j, j < news.length → (w.cell? ⟨g, n * size + j, none⟩).isSome = true ∧ w.frozen? ⟨g, n * size + j, none⟩ = false)
    (h : wpList P ops Q rest (a.put o.dst (.slice (some ⟨g, 0, none⟩) (n + m) c)) (w.setCells g (n * size) news)) :
    wpList P ops Q (o :: rest) a w := by
  refine wpList_plain hgd fun K hK' => ?_
  obtain ⟨i0, hi, hz0, hz1, hz2⟩ := info_parts hinfo
  have hrun := run_append_room_cells (P := P) (w := w) t o.type e i0 ht hi g 0 n c ad m c' news (by rw [hz1]; exact hl) hnews h1 hroom (fun j hj => by rw [hz1, Nat.zero_add]; exact (hc j hj).1) (fun j hj => by rw [hz1, Nat.zero_add]; exact (hc j hj).2)
  rw [hz1, Nat.zero_add] at hrun
  unfold Oper.wp execOp
  simp only [ho, resolve, invoke, builtin, Sem.run_bind, Sem.run_pure, Result.andThen_ok, List.map_toArray, List.map_cons, List.map_nil, hs, hx, hrun]
  exact hK' _ _ h
theorem setCells_one (w : World) (g k : Nat) (x : Value) : w.setCells g k [x] = w.setCell ⟨g, k, none⟩ x := by
  simp [World.setCells]
/-- f, but the list from o on. -/
def putL (f : Nat → Value) (o : Nat) (vs : List Value) (j : Nat) : Value := if o ≤ j ∧ j < o + vs.length then vs.getD (j - o) undef else f j
theorem RowV.sets {T : TypeId} {g n c : Nat} : ∀ (vs : List Value) {w : World} {f : Nat → Value} (_ : RowV T 1 w g n c f) (o : Nat), o + vs.length ≤ n → RowV T 1 (w.setCells g o vs) g n c (putL f o vs)
  | [], _, f, h, o, _ => h.congr fun j _ => by unfold putL; rw [if_neg (by simp only [List.length_nil]; omega)]
  | v :: r, _, f, h, o, hl => by
    simp only [List.length_cons] at hl
    refine (RowV.sets r (h.set (show o < n * 1 by omega) v) (o + 1) (by omega)).congr fun j hj => ?_
    unfold putL
    simp only [List.length_cons]
    by_cases e : j = o
    · subst e
      rw [if_pos (by omega), if_neg (by omega), updV_at, Nat.sub_self]; rfl
    · by_cases e2 : o ≤ j ∧ j < o + (r.length + 1)
      · rw [if_pos e2, if_pos (by omega), show j - o = (j - (o + 1)) + 1 from by omega]; rfl
      · rw [if_neg e2, if_neg (by omega), updV_ne _ _ e]
theorem Kf.sets {F : Nat → Prop} {a : World} {g : Nat} (hg : F g) : ∀ (vs : List Value) {b : World} (_ : Kf F a b) (o : Nat), Kf F a (b.setCells g o vs)
  | [], _, h, _ => h
  | v :: r, _, h, o => Kf.sets hg r (h.set (p := ⟨g, o, none⟩) (.inl hg) v) (o + 1)
section
variable {w w' : World} {b d : Nat} {q : Pm} {S : Eng}
/-- A place's list is written over. -/
theorem E6.wbTo (h : E6 w b q S d) {p : Nat} (hp : p < S.wa.length) (hk : Kf (fun k => q.own k = .wl p) w w') {l' : List Nat} (hl : l'.length = (waA S.wa p).length) (hr : SlV 3 1 w' (q.Wb p).1 l'.length (q.Wb p).2 (natC l')) :
    E6 w' b q (setWa S p l') d ∧ Ext q q w w' := by
  have hc : Chg (fun o => o = .wl p) q.own q.own w w' := h.chg hk
  refine ⟨⟨?_, h.ob, h.tr_kept hc (by simp), h.cl.kept hc (by simp), fun i hi => (h.lc i hi).kept hc (by simp), h.lo.kept hc (by simp), ?_, fun k hk' => ?_, h.le.kept hc (by simp), fun k hk => (h.lb k hk).kept hc (by simp), hc.fr⟩, hc.ext (by simp) rfl rfl⟩
  · have := h.head_kept hc (by simp)
    unfold headV setWa at *
    rw [this]; simp
  · have := (h.wa.kept hc (by simp))
    unfold setWa
    simp only [List.length_set]
    refine this.congr fun j hj => ?_
    unfold waC
    rw [waA_set hp]
    by_cases e : j = p
    · subst e; rw [if_pos rfl, hl]
    · rw [if_neg e]
  · unfold setWa at hk' ⊢
    simp only [List.length_set] at hk' ⊢
    rw [waA_set hp]
    by_cases e : k = p
    · subst e; rw [if_pos rfl]; exact ⟨hr, (h.wb k hk').2⟩
    · rw [if_neg e]; exact (h.wb k hk').kept hc (by simp [e])
/-- A place's list is written over, and is another one. -/
theorem E6.cutW (h : E6 w b q S d) {p gw : Nat} (hp : p < S.wa.length) (hA : q.Aw = some ⟨gw, 0, none⟩) (hk : Kf (fun k => q.own k = .wl p) w w') {l' : List Nat} (hr : SlV 3 1 w' (q.Wb p).1 l'.length (q.Wb p).2 (natC l')) :
    E6 (w'.setCell ⟨gw, p, none⟩ (.slice (q.Wb p).1 l'.length (q.Wb p).2)) b q (setWa S p l') d ∧ Ext q q w (w'.setCell ⟨gw, p, none⟩ (.slice (q.Wb p).1 l'.length (q.Wb p).2)) := by
  obtain ⟨hr0, how⟩ := h.wa
  rw [hA] at hr0 how
  have ogw : q.own gw = .wrow := how gw (by rw [onB_some])
  obtain ⟨g0, e0, hrow⟩ := hr0.row (by omega)
  injection e0 with e0
  injection e0 with e0
  subst e0
  have hrw : RowV 37 1 w' gw S.wa.length q.cw (waC S.wa q.Wb) := hrow.same (hk.block gw hrow.lt (fun e => by rw [ogw] at e; cases e))
  have hnb : ¬ onB (q.Wb p).1 gw := fun e => by have := (h.wb p hp).2 gw e; rw [ogw] at this; cases this
  have K2 : Kf (fun k => q.own k = .wl p ∨ q.own k = .wrow) w (w'.setCell ⟨gw, p, none⟩ (.slice (q.Wb p).1 l'.length (q.Wb p).2)) := (hk.mono fun x hx => .inl (.inl hx)).set (.inl (.inr ogw)) _
  have hc : Chg (fun o => o = .wl p ∨ o = .wrow) q.own q.own w _ := h.chg (O := fun o => o = .wl p ∨ o = .wrow) K2
  refine ⟨⟨?_, h.ob, h.tr_kept hc (by simp), h.cl.kept hc (by simp), fun i hi => (h.lc i hi).kept hc (by simp), h.lo.kept hc (by simp), ⟨?_, ?_⟩, fun k hk' => ?_, h.le.kept hc (by simp), fun k hk => (h.lb k hk).kept hc (by simp), hc.fr⟩, hc.ext (by simp) rfl rfl⟩
  · have := h.head_kept hc (by simp)
    unfold headV setWa at *
    rw [this]; simp
  · unfold setWa
    simp only [List.length_set]
    rw [hA]
    refine .inr ⟨gw, rfl, (hrw.set (show p < S.wa.length * 1 by omega) _).congr fun j hj => ?_⟩
    unfold waC
    rw [waA_set hp]
    by_cases e : j = p
    · subst e; rw [updV_at, if_pos rfl]
    · rw [updV_ne _ _ e, if_neg e]
  · intro j hj; rw [hA] at hj; exact how j hj
  · unfold setWa at hk' ⊢
    simp only [List.length_set] at hk' ⊢
    rw [waA_set hp]
    by_cases e : k = p
    · subst e; rw [if_pos rfl]; exact ⟨hr.other hnb _, (h.wb k hk').2⟩
    · rw [if_neg e]; exact (h.wb k hk').kept hc (by simp [e])
end
end Go.Proofs.YtkckodpfhlpkgaaGreat
namespace Go.Proofs.YtkckodpfhlpkgaaGreat
open Go.RowKit LitM TrailM EngM

/-- What the list reads while it is gone through. -/
def halfL (told rest : List Nat) : List Nat := rest ++ told.drop rest.length
def newsL (l : List Nat) : List Value := l.map fun (x : Nat) => Value.int .i64 (x : Int)
theorem newsL_len (l : List Nat) : (newsL l).length = l.length := by simp [newsL]
theorem halfL_len {told rest : List Nat} (h : rest.length ≤ told.length) : (halfL told rest).length = told.length := by
  unfold halfL; simp; omega
theorem halfL_at {told rest : List Nat} {i : Nat} (h : rest.length ≤ i) (hi : i < told.length) : (halfL told rest).getD i 0 = told[i] := by
  unfold halfL
  rw [List.getD, List.getElem?_append_right h, List.getElem?_drop, show rest.length + (i - rest.length) = i from by omega, List.getElem?_eq_getElem hi]; rfl
theorem natC_half {told rest : List Nat} (id j : Nat) : natC (halfL told (rest ++ [id])) j = putL (natC (halfL told rest)) rest.length [.int .i64 (id : Int)] j := by
  unfold putL natC halfL
  simp only [List.length_singleton, List.length_append]
  by_cases e : j < rest.length
  · rw [if_neg (by omega), List.getD, List.getD, List.append_assoc, List.getElem?_append_left e, List.getElem?_append_left e]
  · by_cases e2 : j = rest.length
    · subst e2
      rw [if_pos (by omega), Nat.sub_self, List.getD, List.append_assoc, List.getElem?_append_right (Nat.le_refl _), Nat.sub_self]; rfl
    · rw [if_neg (by omega), List.getD, List.getD, List.getElem?_append_right (by simp; omega), List.getElem?_append_right (by omega), List.getElem?_drop, List.getElem?_drop]
      simp only [List.length_append, List.length_singleton]
      rw [show rest.length + 1 + (j - (rest.length + 1)) = rest.length + (j - rest.length) from by omega]
theorem natC_clash {told rest : List Nat} {i : Nat} (hi : i ≤ told.length) (j : Nat) (hj : j < (rest ++ told.drop i).length) : natC (rest ++ told.drop i) j = putL (natC (halfL told rest)) rest.length (newsL (told.drop i)) j := by
  simp only [List.length_append, List.length_drop] at hj
  unfold putL natC
  rw [newsL_len, List.length_drop]
  by_cases e : j < rest.length
  · rw [if_neg (by omega), List.getD, List.getElem?_append_left e, List.getD]
    unfold halfL
    rw [List.getElem?_append_left e]
  · unfold newsL
    rw [if_pos (by omega), List.getD, List.getElem?_append_right (by omega), List.getD, List.getElem?_map, List.getElem?_drop, List.getElem?_eq_getElem (by omega)]; rfl
theorem visF_cons (p : Nat) (wrong : Int) (id : Nat) (r rest : List Nat) (S : Eng) : visF p wrong (id :: r) rest S = if (tellF S id wrong).2 = 0 then visF p wrong r (rest ++ [id]) (tellF S id wrong).1
    else if (tellF S id wrong).2 = 2 then (setWa (tellF S id wrong).1 p (rest ++ id :: r), id) else visF p wrong r rest (tellF S id wrong).1 := rfl
theorem tellF_res (S : Eng) (id : Nat) (wrong : Int) : (tellF S id wrong).2 = 0 ∨ (tellF S id wrong).2 = 1 ∨ (tellF S id wrong).2 = 2 := by
  unfold tellF
  repeat' split
  all_goals simp
/-- Does a clause watch the literal that is false, and one more? -/
def Wok (S : Eng) (wrong : Int) (id : Nat) : Prop := (clA S.cs id).pr = true → (clA S.cs id).w0 ∈ (clA S.cs id).ls ∧ (clA S.cs id).w1 ∈ (clA S.cs id).ls ∧ (wrong = (clA S.cs id).w0 ∨ wrong = (clA S.cs id).w1)
/-- What visit leaves. -/
def VisTo (w : World) (b : Nat) (q : Pm) (S : Eng) (d : Nat) (l : Int) (e : Ending) (w' : World) : Prop :=
  e = .returned (.int .i64 (visitF S l).2) ∧ ∃ q', E6 w' b q' (visitF S l).1 d ∧ Ext q q' w w'
set_option maxHeartbeats 6400000 in
set_option maxRecDepth 100000 in
theorem visit_any {w : World} {b : Nat} {q : Pm} {S : Eng} {d K : Nat} (h : E6 w b q S d) (hS : Sf S K) (hd : d = S.le.length) (hK : K ≤ 20000) (hwa : 2 * (S.n + 1) ≤ S.wa.length) (l : Int) (h1 : one l = true) (hv : varZ l ≤ S.n)
    (hnd : (waA S.wa (plc (notZ l))).Nodup) (hW : ∀ id ∈ waA S.wa (plc (notZ l)), Wok S (notZ l) id) :
    Calls Tryz.prog 58 #[.pointer (some ⟨b, 0, none⟩), .int .i32 l] w (VisTo w b q S d l) := by
  have hl := (one_iff _).1 h1
  have HNot := Lib.hid (not_any l w (by omega) (by omega))
  have hw1 : one (notZ l) = true := by unfold notZ; rw [if_pos h1]; exact (one_iff _).2 (by omega)
  have hwv : varZ (notZ l) ≤ S.n := by
    unfold notZ; rw [if_pos h1]
    rcases hl with ⟨a, c⟩ | ⟨a, c⟩
    · rw [varZ_pos a c] at hv; rw [varZ_neg (by omega) (by omega)]; omega
    · rw [varZ_neg a c] at hv; rw [varZ_pos (by omega) (by omega)]; omega
  have hwb := (one_iff _).1 hw1
  obtain ⟨R, hR⟩ : ∃ R, R = visitF S l := ⟨_, rfl⟩
  unfold VisTo
  rw [← hR]
  unfold visitF at hR
  generalize notZ l = wrong at *
  have hp : plc wrong < S.wa.length := plc_lt ⟨hw1, hwv⟩ hwa
  have hpl : placeZ wrong = (plc wrong : Int) := by unfold plc; have := (show 0 ≤ placeZ wrong from by unfold placeZ absZ; split <;> (try split) <;> (try split) <;> omega); omega
  have HPl := Lib.hid (place_any wrong w (by omega) (by omega))
  rw [hpl] at HPl
  obtain ⟨p, hpe⟩ : ∃ p, p = plc wrong := ⟨_, rfl⟩
  rw [← hpe] at HPl hR hnd hW hp
  have HPE := Lib.hid hpe
  clear hpl hpe
  obtain ⟨told, htold⟩ : ∃ told, told = waA S.wa p := ⟨_, rfl⟩
  rw [← htold] at hR hnd hW
  have HTO := Lib.hid htold
  have hn0 := hS.wn p hp
  rw [← htold] at hn0
  have hids : ∀ i ∈ told, i < S.cs.length := fun i hi => hS.wa p hp i (by rw [← htold]; exact hi)
  obtain ⟨gw, hA, hrw⟩ := h.wa.1.row (by omega)
  have hcw := hrw.bd
  obtain ⟨hcw1, hcw2⟩ := hcw
  have ogw : q.own gw = .wrow := h.wa.2 gw (by rw [hA, onB_some])
  have h3 := h.h3
  rw [hA] at h3
  have hgp : w.cell? ⟨gw, p, none⟩ = some (.slice (q.Wb p).1 told.length (q.Wb p).2) := by
    have := hrw.cell (show p < S.wa.length * 1 by omega)
    rw [this, htold]; rfl
  obtain ⟨A, hAe⟩ : ∃ A, A = (q.Wb p).1 := ⟨_, rfl⟩
  obtain ⟨c, hce⟩ : ∃ c, c = (q.Wb p).2 := ⟨_, rfl⟩
  rw [← hAe, ← hce] at hgp
  have HWB : Hid (q.Wb p = (A, c)) := by unfold Hid; rw [hAe, hce]
  have hwb0 := h.wb p hp
  rw [← hAe, ← hce, ← htold] at hwb0
  have hbd := hwb0.1.bd
  obtain ⟨hbd1, hbd2⟩ := hbd
  have HW0 : Hid (∀ g, A = some g → w.cell? g ≠ none ∨ True) := fun _ _ => .inr trivial
  have HR := Lib.hid hR
  have HST : Hid (setWa S p (halfL told []) = S) := by
    unfold Hid setWa halfL
    simp only [List.nil_append, List.length_nil, List.drop_zero]
    rw [htold, waA_self hp]
  have HE0 : Hid (E6 w b q (setWa S p (halfL told [])) d) := by unfold Hid; rw [HST.out]; exact h
  have HS := Lib.hid hS
  have HP := Lib.hid hp
  have HWA := Lib.hid hwa
  have HD := Lib.hid hd
  have HIDS := Lib.hid hids
  have HND := Lib.hid hnd
  have HWO := Lib.hid hW
  clear hR hAe hce HST h hS hd hwa hids hnd hW htold hrw hwb0 ogw HW0
  obtain ⟨wo, rfl⟩ : ∃ wo : World, wo = w := ⟨_, rfl⟩
  go_enter Tryz.func58, Tryz.ntmps58
  go_wp2_with fail
  refine HNot.out.mono ?_
  rintro e w' ⟨rfl, rfl⟩
  go_wp2_with fail
  refine HPl.out.mono ?_
  rintro e w' ⟨rfl, rfl⟩
  go_wp2_with fail
  go_loopw [8, 9, 10, 26] (fun rs _ _ v wr => ∃ (i : Nat) (rest : List Nat) (S' : Eng) (q' : Pm), v = .int .i64 (i : Int) ∧ i ≤ told.length ∧ rs = .slice A rest.length c ∧ rest.length ≤ i ∧ Hid (∀ x ∈ rest, x < S.cs.length) ∧ Hid (R = visF p wrong (told.drop i) rest S') ∧ Hid (E6 wr b q' (setWa S' p (halfL told rest)) d) ∧ Hid (Ext q q' wo wr) ∧ Hid (Sf S' (K + i)) ∧ Hid (Kep S S') ∧ Hid (q'.Wb p = (A, c)) ∧ Hid (∀ j ∈ told.drop i, Wok S' wrong j)) (fun _ _ _ v _ => told.length - (intOf v).toNat)
  case atStart => exact ⟨0, [], S, q, rfl, by omega, rfl, by simp, by simp [Hid], HR, HE0, Lib.hid (Ext.refl _ _), HS, Lib.hid (Kep.refl S), HWB, HWO⟩
  case round =>
    obtain ⟨i, rest, S', q', rfl, hil, rfl, hri, hrid, hr, hE, hX, hSf, hKp, hQ, hWo⟩ := hrel
    have hpS : p < S'.wa.length := by have := HP.out; have h2 := hKp.out.wa; omega
    have hlh : (halfL told rest).length = told.length := halfL_len (by omega)
    have HM : Hid (waA (setWa S' p (halfL told rest)).wa p = halfL told rest) := by
      unfold Hid setWa
      simp only
      rw [waA_set hpS, if_pos rfl]
    have HLM : Hid (p < (setWa S' p (halfL told rest)).wa.length) := by unfold Hid setWa; simpa using hpS
    by_cases hlt : i < told.length
    · have ti : decide ((i : Int) < (told.length : Int)) = true := decide_eq_true (by omega)
      obtain ⟨id, hid⟩ : ∃ id, id = told[i] := ⟨_, rfl⟩
      have hmem : id ∈ told := by rw [hid]; exact List.getElem_mem hlt
      have hrow : SlV 3 1 wr A told.length c (natC (halfL told rest)) := by
        have := (hE.out.wb p HLM.out).1
        rw [HM.out, hlh, hQ.out] at this
        exact this
      obtain ⟨g, hAg, hrg⟩ := hrow.row (by omega)
      have ci : wr.cell? ⟨g, i, none⟩ = some (.int .i64 (id : Int)) := by
        rw [hrg.cell (show i < told.length * 1 by omega)]
        unfold natC
        rw [halfL_at hri hlt, hid]
      have hdrop : told.drop i = id :: told.drop (i + 1) := by rw [hid]; exact List.drop_eq_getElem_cons hlt
      have hidl : id < S'.cs.length := by rw [hKp.out.cs]; exact HIDS.out id hmem
      have hwok := hWo.out id (by rw [hdrop]; simp)
      have hnin : ∀ j ∈ told.drop (i + 1), j ≠ id := fun j hj e => by
        have hd2 : (told.drop i).Nodup := HND.out.sublist (List.drop_sublist _ _)
        rw [hdrop, List.nodup_cons] at hd2
        exact hd2.1 (e ▸ hj)
      have hSM : Sf (setWa S' p (halfL told rest)) (K + i) := setWa_sf hSf.out hpS (fun x hx => by
        rw [hKp.out.cs]
        unfold halfL at hx
        rcases List.mem_append.1 hx with e | e
        · exact hrid.out x e
        · exact HIDS.out x (List.mem_of_mem_drop e)) (by rw [hlh]; omega)
      have hwaM : 2 * ((setWa S' p (halfL told rest)).n + 1) ≤ (setWa S' p (halfL told rest)).wa.length := by
        unfold setWa
        simp only [List.length_set]
        rw [hKp.out.n, hKp.out.wa]; exact HWA.out
      have hdM : d = (setWa S' p (halfL told rest)).le.length := by show d = S'.le.length; rw [hKp.out.le]; exact HD.out
      have HT := Lib.hid (tell_any hE.out hSM hdM (by omega) hwaM (id := id) hidl wrong hw1 hwok)
      have HTE : Hid (tellF (setWa S' p (halfL told rest)) id wrong = (setWa (tellF S' id wrong).1 p (halfL told rest), (tellF S' id wrong).2)) := tellF_setWa hpS (fun hpr h0 => by
        rcases anoL_in hSf.out hidl with e | ⟨e, e2⟩
        · exact absurd e h0
        · intro hpp
          have hone := ((hSf.out.cl id hidl).1 _ e).1
          have := plc_inj hone hw1 (by rw [hpp]; exact HPE.out)
          unfold fitB at e2
          simp only [Bool.and_eq_true, decide_eq_true_eq] at e2
          rcases (hwok hpr).2.2 with x | x
          · exact e2.1.1 (this.trans x)
          · exact e2.1.2 (this.trans x))
      have HSf : Hid (Sf (tellF S' id wrong).1 (K + (i + 1))) := tellF_sf hSf.out hidl (fun l hl => plc_lt hl (by rw [hKp.out.n, hKp.out.wa]; exact HWA.out)) wrong (fun hpr => ⟨(hwok hpr).1, (hwok hpr).2.1⟩)
      have HKp : Hid (Kep S (tellF S' id wrong).1) := hKp.out.trans (tellF_kep S' id wrong)
      have HWo : Hid (∀ j ∈ told.drop (i + 1), Wok (tellF S' id wrong).1 wrong j) := fun j hj => by
        have := hWo.out j (by rw [hdrop]; exact List.mem_cons_of_mem _ hj)
        unfold Wok at *
        rw [tellF_other hidl (hnin j hj)]; exact this
      have HRs : Hid (R = if (tellF S' id wrong).2 = 0 then visF p wrong (told.drop (i + 1)) (rest ++ [id]) (tellF S' id wrong).1 else if (tellF S' id wrong).2 = 2 then (setWa (tellF S' id wrong).1 p (rest ++ told.drop i), (id : Int)) else visF p wrong (told.drop (i + 1)) rest (tellF S' id wrong).1) := by
        unfold Hid
        rw [hr.out, hdrop, visF_cons]
      have HREL := Lib.hid (tellF_res S' id wrong)
      have HMI : Hid (id ∈ told) := hmem
      obtain ⟨T, hTe⟩ : ∃ T, T = (tellF S' id wrong).1 := ⟨_, rfl⟩
      obtain ⟨r, hre⟩ : ∃ r, r = (tellF S' id wrong).2 := ⟨_, rfl⟩
      rw [← hTe] at HTE HSf HKp HWo HRs
      rw [← hre] at HTE HRs HREL
      have HTT : Hid (∀ e w2, TellTo wr b q' (setWa S' p (halfL told rest)) d id wrong e w2 → e = .returned (.int .i64 r) ∧ ∃ q2, E6 w2 b q2 (setWa T p (halfL told rest)) d ∧ Ext q q2 wo w2 ∧ q2.Wb p = (A, c)) := fun e w2 ht => by
        obtain ⟨x1, q2, x2, x3, x4⟩ := ht
        rw [HTE.out] at x1 x2
        rw [← HPE.out, hQ.out] at x4
        exact ⟨x1, q2, x2, hX.out.trans x3, x4⟩
      have hpT : p < T.wa.length := by rw [hTe, (tellF_kep S' id wrong).wa]; exact hpS
      have HPT := Lib.hid hpT
      subst hAg
      clear hrow hrg hdrop hidl hwok hnin hSM hwaM hdM hTe hre hr hE hX hSf hKp hQ hWo hid hmem HTE hpS HM HLM hpT
      go_wp2_with fail
      refine HT.out.mono ?_
      intro e w2 ht
      obtain ⟨rfl, q2, hE2, hX2, hQ2⟩ := HTT.out e w2 ht
      have HE2 := Lib.hid hE2
      have HX2 := Lib.hid hX2
      have HQ2 := Lib.hid hQ2
      have hM2 : waA (setWa T p (halfL told rest)).wa p = halfL told rest := by
        unfold setWa
        simp only
        rw [waA_set HPT.out, if_pos rfl]
      have hL2 : p < (setWa T p (halfL told rest)).wa.length := by unfold setWa; simpa using HPT.out
      have hrow2 : RowV 3 1 w2 g told.length c (natC (halfL told rest)) := by
        have := (hE2.wb p hL2).1
        rw [hM2, hlh, hQ2] at this
        obtain ⟨g2, e2, r2⟩ := this.row (by omega)
        injection e2 with e2
        injection e2 with e2
        subst e2
        exact r2
      have og2 : q2.own g = .wl p := (hE2.wb p hL2).2 g (by rw [hQ2, onB_some])
      have HROW := Lib.hid hrow2
      have HOG := Lib.hid og2
      clear ht hE2 hX2 hQ2 HT HTT hrow2
      rcases HREL.out with hr0 | hr1 | hr2
      · -- stays
        subst hr0
        rw [if_pos rfl] at HRs
        have HNEW : Hid (∀ W, Below w2.heap.size w2 W → E6 (W.setCells g (rest.length * 1) [.int .i64 (id : Int)]) b q2 (setWa T p (halfL told (rest ++ [id]))) d ∧ Ext q q2 wo (W.setCells g (rest.length * 1) [.int .i64 (id : Int)])) := fun W hW => by
          have hEW := HE2.out.below hW
          have hRW : RowV 3 1 W g told.length c (natC (halfL told rest)) := HROW.out.same (hW.block g HROW.out.lt)
          have hkf : Kf (fun k => q2.own k = .wl p) W (W.setCells g (rest.length * 1) [.int .i64 (id : Int)]) := Kf.sets (g := g) HOG.out _ (Kf.refl _ _) _
          have hlen : (halfL told (rest ++ [id])).length = told.length := halfL_len (by simp; omega)
          have hr5 := hRW.sets [.int .i64 (id : Int)] (rest.length * 1) (by simp; omega)
          obtain ⟨e1, e2⟩ := hEW.wbTo hL2 hkf (l' := halfL told (rest ++ [id])) (by rw [hlen, hM2, hlh]) (by
            rw [hlen, HQ2.out]
            exact .inr ⟨g, rfl, hr5.congr fun j hj => by rw [Nat.mul_one]; exact natC_half id j⟩)
          rw [setWa_setWa] at e1
          exact ⟨e1, (HX2.out.trans (Ext.below HE2.out hW)).trans e2⟩
        have hcells : ∀ j, j < ([.int .i64 (id : Int)] : List Value).length → ((w2.alloc (.cells #[.int .i64 (id : Int)] 3)).cell? ⟨g, rest.length * 1 + j, none⟩).isSome = true ∧ (w2.alloc (.cells #[.int .i64 (id : Int)] 3)).frozen? ⟨g, rest.length * 1 + j, none⟩ = false := fun j hj => by
          have hRA := HROW.out.alloc (.cells #[.int .i64 (id : Int)] 3)
          simp only [List.length_singleton] at hj
          refine ⟨?_, hRA.free _⟩
          rw [hRA.cell (show rest.length * 1 + j < told.length * 1 by omega)]; rfl
        have HCE := Lib.hid hcells
        have HRID : Hid (∀ x ∈ rest ++ [id], x < S.cs.length) := fun x hx => by
          rcases List.mem_append.1 hx with e | e
          · exact hrid.out x e
          · have : x = id := by simpa using e
            rw [this]; exact HIDS.out id HMI.out
        clear hcells hM2 hL2 og2
        as_aux_lemma =>
        go_wp2_with (at_builtin; refine wpList_append_in _ rfl _ _ 37 3 rfl Tryz.underlying37 info_tint g rest.length c rfl ⟨w2.heap.size, 0, none⟩ 1 1 [.int .i64 (id : Int)] rfl rfl (box_news w2 3 [.int .i64 (id : Int)]) (by intro u hu; simp at hu; subst hu; rfl) (by omega) HCE.out ?_)
        have HN := HNEW.out (w2.alloc (.cells #[.int .i64 (id : Int)] 3)) ((Below.refl _ _).alloc (Nat.le_refl _) _)
        rw [Nat.mul_one] at HN
        have HN1 := Lib.hid HN.1
        have HN2 := Lib.hid HN.2
        clear HN HNEW
        go_wp2_with fail
        go_roundw
        case rel => exact ⟨i + 1, rest ++ [id], T, q2, by go_num, by omega, by simp, by simp; omega, HRID, HRs, HN1, HN2, HSf, HKp, HQ2, HWo⟩
        case measure => simp [intOf]; omega
      · -- leaves
        subst hr1
        rw [if_neg (by omega), if_neg (by omega)] at HRs
        clear hM2 hL2 og2
        as_aux_lemma =>
        go_wp2_with fail
        go_roundw
        case rel => exact ⟨i + 1, rest, T, q2, by go_num, by omega, rfl, by omega, hrid, HRs, HE2, HX2, HSf, HKp, HQ2, HWo⟩
        case measure => simp [intOf]; omega
      · -- clashes
        subst hr2
        rw [if_neg (by omega), if_pos rfl] at HRs
        obtain ⟨gw2, hAw2, hrw2⟩ := HE2.out.wa.1.row (by omega)
        have ogw2 : q2.own gw2 = .wrow := HE2.out.wa.2 gw2 (by rw [hAw2, onB_some])
        have hcb := hrw2.bd
        obtain ⟨hcb1, hcb2⟩ := hcb
        have hnews : (newsL (told.drop i)).length = (told.length - i) * 1 := by rw [newsL_len]; simp
        have hrl : rest.length * 1 + (newsL (told.drop i)).length ≤ told.length := by rw [hnews]; omega
        obtain ⟨W1, hW1⟩ : ∃ W1, W1 = w2.drew.setCells g (0 + rest.length * 1) (newsL (told.drop i)) := ⟨_, rfl⟩
        have hkf : Kf (fun k => q2.own k = .wl p) w2 W1 := by rw [hW1]; exact Kf.sets (g := g) HOG.out _ ((Kf.refl _ w2).drew) _
        have hr5 : RowV 3 1 W1 g told.length c (putL (natC (halfL told rest)) rest.length (newsL (told.drop i))) := by
          rw [hW1]
          have hRD : RowV 3 1 w2.drew g told.length c (natC (halfL told rest)) := HROW.out.same rfl
          have := hRD.sets (newsL (told.drop i)) (0 + rest.length * 1) (by omega)
          rw [show 0 + rest.length * 1 = rest.length from by omega] at this ⊢
          exact this
        have hlen : (rest ++ told.drop i).length = rest.length + (told.length - i) := by simp
        obtain ⟨e1, e2⟩ := HE2.out.cutW (w' := W1) hL2 hAw2 hkf (l' := rest ++ told.drop i) (by
          rw [HQ2.out]
          refine .inr ⟨g, rfl, (hr5.less (by rw [hlen]; omega)).congr fun j hj => natC_clash (by omega) j (by omega)⟩)
        rw [setWa_setWa, HQ2.out, hlen] at e1
        rw [HQ2.out, hlen] at e2
        have hRR := HRs.out
        subst hRR
        have HFIN := Lib.hid (show _ ∧ _ from ⟨e1, HX2.out.trans e2⟩)
        have g3 : w2.cell? ⟨b, 3, none⟩ = some (.slice (some ⟨gw2, 0, none⟩) (setWa T p (halfL told rest)).wa.length q2.cw) := by have := HE2.out.h3; rw [hAw2] at this; exact this
        have hb1 : W1.heap[b]? = w2.heap[b]? := hkf.block b HE2.out.lt (fun e => by rw [HE2.out.ob] at e; cases e)
        have hg1 : W1.heap[gw2]? = w2.heap[gw2]? := hkf.block gw2 hrw2.lt (fun e => by rw [ogw2] at e; cases e)
        have k3 : W1.cell? ⟨b, 3, none⟩ = some (.slice (some ⟨gw2, 0, none⟩) (setWa T p (halfL told rest)).wa.length q2.cw) := (World.cell?_of_block (a := ⟨b, 3, none⟩) hb1).trans g3
        have kp : ∃ v, W1.cell? ⟨gw2, p, none⟩ = some v := ⟨_, (World.cell?_of_block (a := ⟨gw2, p, none⟩) hg1).trans (hrw2.cell (show p < (setWa T p (halfL told rest)).wa.length * 1 by omega))⟩
        obtain ⟨vp, kp⟩ := kp
        have fp : W1.frozen? ⟨gw2, p, none⟩ = false := by rw [World.frozen?_of_block (a := ⟨gw2, p, none⟩) hg1]; exact hrw2.free p
        have HCE : Hid (∀ j, j < (newsL (told.drop i)).length → (w2.drew.cell? ⟨g, 0 + rest.length * 1 + j, none⟩).isSome = true ∧ w2.drew.frozen? ⟨g, 0 + rest.length * 1 + j, none⟩ = false) := fun j hj => by
          have hRD : RowV 3 1 w2.drew g told.length c (natC (halfL told rest)) := HROW.out.same rfl
          rw [hnews] at hj
          refine ⟨?_, hRD.free _⟩
          rw [show 0 + rest.length * 1 + j = rest.length + j from by omega, hRD.cell (show rest.length + j < told.length * 1 by omega)]; rfl
        have HNW : Hid (∀ j u, (newsL (told.drop i))[j]? = some u → w2.drew.cell? ((⟨g, i, none⟩ : Addr).add j) = some u) := fun j u hu => by
          have hRD : RowV 3 1 w2.drew g told.length c (natC (halfL told rest)) := HROW.out.same rfl
          have hj : j < told.length - i := by
            have := (List.getElem?_eq_some_iff.1 hu).1
            rw [hnews] at this; omega
          have ha : ((⟨g, i, none⟩ : Addr).add j) = ⟨g, i + j, none⟩ := by unfold Addr.add; split <;> simp_all
          rw [ha, hRD.cell (show i + j < told.length * 1 by omega), ← hu]
          unfold natC
          unfold newsL
          rw [halfL_at (by omega) (by omega), List.getElem?_map, List.getElem?_drop, List.getElem?_eq_getElem (by omega)]
          rfl
        have HN1 : Hid (∀ u ∈ (newsL (told.drop i)), u.oneCell' = true) := fun u hu => by
          unfold newsL at hu
          obtain ⟨x, _, rfl⟩ := List.mem_map.1 hu
          rfl
        have HW1 := Lib.hid hW1
        have HNL := Lib.hid hnews
        obtain ⟨i0, hi0, _, hi1, _⟩ := info_parts (P := Tryz.prog) info_tint
        have HI0 := Lib.hid hi0
        have HI1 := Lib.hid hi1
        clear hi0 hi1
        have hic : i < c := by omega
        have tci : (c == i) = false := by rw [beq_eq_false_iff_ne]; omega
        have hcne : ¬ c = i := by omega
        clear hM2 og2 hrw2 hAw2 hkf hr5 hlen e1 e2 hb1 hg1 hW1 hnews hrl HE2 HX2 HQ2 HROW HSf HKp HWo HRs
        generalize (setWa T p (halfL told rest)).wa.length = nw2 at *
        generalize (newsL (told.drop i)) = news at *
        as_aux_lemma =>
        go_upto_region 12 with (fail)
        refine wp_region_any (by kernel_rfl) ?_
        change wpAny _ _ _ _ _ _ _ (World.drew _)
        refine wpAny_take (i := 0) (v := ?_) rfl (by kernel_rfl) (by kernel_rfl) (by kernel_rfl) (fun _ _ _ h => h) (Or.inl ⟨by kernel_rfl, ?_⟩) ?_
        rotate_left 1
        · (intro w; go_simp <;> with_reducible rfl)
        go_simp
        refine wpAny_take (i := 1) (v := ?_) rfl (by kernel_rfl) (by kernel_rfl) (by kernel_rfl) (fun _ _ _ h => h) (Or.inl ⟨by kernel_rfl, ?_⟩) ?_
        rotate_left 1
        · (intro w; go_simp <;> with_reducible rfl)
        go_simp
        refine wpAny_take (i := 2) (v := ?_) rfl (by kernel_rfl) (by kernel_rfl) (by kernel_rfl) (fun _ _ _ h => h) (Or.inl ⟨by kernel_rfl, ?_⟩) ?_
        rotate_left 1
        · (intro w; go_simp <;> with_reducible rfl)
        go_simp
        refine wpAny_take (i := 4) (v := ?_) rfl (by kernel_rfl) (by kernel_rfl) (by kernel_rfl) (fun _ _ _ h => h) (Or.inl ⟨by kernel_rfl, ?_⟩) ?_
        rotate_left 1
        · (intro w; go_simp <;> with_reducible rfl)
        go_simp
        refine wpAny_take (i := 5) (v := ?_) rfl (by kernel_rfl) (by kernel_rfl) (by kernel_rfl) (fun _ _ _ h => h) (Or.inl ⟨by kernel_rfl, ?_⟩) ?_
        rotate_left 1
        · (intro w; go_simp <;> with_reducible rfl)
        go_simp
        refine wpAny_take (i := 6) (v := ?_) rfl (by kernel_rfl) (by kernel_rfl) (by kernel_rfl) (fun _ _ _ h => h) (Or.inl ⟨by kernel_rfl, ?_⟩) ?_
        rotate_left 1
        · (intro w; go_simp <;> with_reducible rfl)
        go_simp
        refine wpAny_take (i := 7) (v := ?_) rfl (by kernel_rfl) (by kernel_rfl) (by kernel_rfl) (fun _ _ _ h => h) (Or.inl ⟨by kernel_rfl, ?_⟩) ?_
        rotate_left 1
        · (intro w; go_simp <;> with_reducible rfl)
        go_simp
        refine wpAny_ready (rs := [3, 8]) (by kernel_rfl) (by simp) ?_
        refine AllReady.cons rfl (fun K hK => ?_) ?_
        ·
          go_simp
          refine hK _ _ ?_; clear hK K
          refine wpAny_ready (rs := [8]) (by kernel_rfl) (by simp) ?_
          refine AllReady.cons rfl (fun K hK => ?_) ?_
          ·
            go_simp
            refine hK _ _ ?_; clear hK K
            refine wpAny_ready (rs := [9]) (by kernel_rfl) (by simp) ?_
            refine AllReady.cons rfl (fun K hK => ?_) ?_
            ·
              refine step_append_room rfl _ _ 37 rfl 3 i0 1 Tryz.underlying37 HI0.out HI1.out g 0 rest.length c rfl ⟨g, i, none⟩ (told.length - i) (c - i) news rfl HNL.out HNW.out HN1.out (by omega) HCE.out ?_
              rw [← HW1.out]
              refine hK _ _ ?_; clear hK K
              refine wpAny_ready (rs := [10]) (by kernel_rfl) (by simp) ?_
              refine AllReady.cons rfl (fun K hK => ?_) ?_
              ·
                go_simp
                refine hK _ _ ?_; clear hK K
                refine wpAny_ready (rs := [11]) (by kernel_rfl) (by simp) ?_
                refine AllReady.cons rfl (fun K hK => ?_) ?_
                ·
                  go_simp
                  refine hK _ _ ?_; clear hK K
                  refine wpAny_done (by kernel_rfl) ?_ _
                  go_wp2_with fail; go_ret; exact ⟨rfl, q2, HFIN.out.1, HFIN.out.2⟩
                exact AllReady.nil
              exact AllReady.nil
            exact AllReady.nil
          exact AllReady.nil
        refine AllReady.cons rfl (fun K hK => ?_) ?_
        ·
          go_simp
          refine hK _ _ ?_; clear hK K
          refine wpAny_ready (rs := [3, 9]) (by kernel_rfl) (by simp) ?_
          refine AllReady.cons rfl (fun K hK => ?_) ?_
          ·
            go_simp
            refine hK _ _ ?_; clear hK K
            refine wpAny_ready (rs := [9]) (by kernel_rfl) (by simp) ?_
            refine AllReady.cons rfl (fun K hK => ?_) ?_
            ·
              refine step_append_room rfl _ _ 37 rfl 3 i0 1 Tryz.underlying37 HI0.out HI1.out g 0 rest.length c rfl ⟨g, i, none⟩ (told.length - i) (c - i) news rfl HNL.out HNW.out HN1.out (by omega) HCE.out ?_
              rw [← HW1.out]
              refine hK _ _ ?_; clear hK K
              refine wpAny_ready (rs := [10]) (by kernel_rfl) (by simp) ?_
              refine AllReady.cons rfl (fun K hK => ?_) ?_
              ·
                go_simp
                refine hK _ _ ?_; clear hK K
                refine wpAny_ready (rs := [11]) (by kernel_rfl) (by simp) ?_
                refine AllReady.cons rfl (fun K hK => ?_) ?_
                ·
                  go_simp
                  refine hK _ _ ?_; clear hK K
                  refine wpAny_done (by kernel_rfl) ?_ _
                  go_wp2_with fail; go_ret; exact ⟨rfl, q2, HFIN.out.1, HFIN.out.2⟩
                exact AllReady.nil
              exact AllReady.nil
            exact AllReady.nil
          refine AllReady.cons rfl (fun K hK => ?_) ?_
          ·
            refine step_append_room rfl _ _ 37 rfl 3 i0 1 Tryz.underlying37 HI0.out HI1.out g 0 rest.length c rfl ⟨g, i, none⟩ (told.length - i) (c - i) news rfl HNL.out HNW.out HN1.out (by omega) HCE.out ?_
            rw [← HW1.out]
            refine hK _ _ ?_; clear hK K
            refine wpAny_ready (rs := [3]) (by kernel_rfl) (by simp) ?_
            refine AllReady.cons rfl (fun K hK => ?_) ?_
            ·
              go_simp
              refine hK _ _ ?_; clear hK K
              refine wpAny_ready (rs := [10]) (by kernel_rfl) (by simp) ?_
              refine AllReady.cons rfl (fun K hK => ?_) ?_
              ·
                go_simp
                refine hK _ _ ?_; clear hK K
                refine wpAny_ready (rs := [11]) (by kernel_rfl) (by simp) ?_
                refine AllReady.cons rfl (fun K hK => ?_) ?_
                ·
                  go_simp
                  refine hK _ _ ?_; clear hK K
                  refine wpAny_done (by kernel_rfl) ?_ _
                  go_wp2_with fail; go_ret; exact ⟨rfl, q2, HFIN.out.1, HFIN.out.2⟩
                exact AllReady.nil
              exact AllReady.nil
            exact AllReady.nil
          exact AllReady.nil
        exact AllReady.nil
    · have ti : decide ((i : Int) < (told.length : Int)) = false := decide_eq_false (by omega)
      have hrow : SlV 3 1 wr A told.length c (natC (halfL told rest)) := by
        have := (hE.out.wb p HLM.out).1
        rw [HM.out, hlh, hQ.out] at this
        exact this
      have hdrop : told.drop i = [] := List.drop_eq_nil_of_le (by omega)
      have hRR : R = (setWa S' p rest, -1) := by rw [hr.out, hdrop]; rfl
      obtain ⟨gw2, hAw2, hrw2⟩ := hE.out.wa.1.row (by have := HLM.out; omega)
      obtain ⟨e1, e2⟩ := hE.out.cutW (w' := wr) HLM.out hAw2 (Kf.refl _ _) (l' := rest) (by
        rw [hQ.out]
        rcases hrow with ⟨x1, x2, x3⟩ | ⟨g, x1, x2⟩
        · exact .inl ⟨x1, by omega, x3⟩
        · refine .inr ⟨g, x1, (x2.less (show rest.length ≤ told.length by omega)).congr fun j hj => ?_⟩
          unfold natC halfL
          rw [List.getD, List.getD, List.getElem?_append_left (by omega)])
      rw [setWa_setWa, hQ.out] at e1
      rw [hQ.out] at e2
      subst hRR
      have HFIN := Lib.hid (show _ ∧ _ from ⟨e1, hX.out.trans e2⟩)
      have g3 : wr.cell? ⟨b, 3, none⟩ = some (.slice (some ⟨gw2, 0, none⟩) (setWa S' p (halfL told rest)).wa.length q'.cw) := by have := hE.out.h3; rw [hAw2] at this; exact this
      have gp := hrw2.cell (show p < (setWa S' p (halfL told rest)).wa.length * 1 by have := HLM.out; omega)
      have fp := hrw2.free p
      have hcb := hrw2.bd
      obtain ⟨hcb1, hcb2⟩ := hcb
      have hlm := HLM.out
      clear hr hE hX hSf hKp hQ hWo hdrop hrow hrw2 hAw2 e1 e2 HM HLM hpS
      generalize (setWa S' p (halfL told rest)).wa.length = nw2 at *
      generalize waC (setWa S' p (halfL told rest)).wa q'.Wb p = vp at *
      as_aux_lemma =>
      go_wp2_with fail
      go_ret
      exact ⟨rfl, q', HFIN.out.1, HFIN.out.2⟩
end Go.Proofs.YtkckodpfhlpkgaaGreat
