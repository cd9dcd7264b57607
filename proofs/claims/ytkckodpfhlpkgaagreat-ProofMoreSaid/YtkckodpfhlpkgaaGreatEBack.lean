/- The contract of an engine's Back. -/
import Derived.Test.YtkckodpfhlpkgaaGreatEngB
import Derived.Test.YtkckodpfhlpkgaaGreatDelL
import Derived.Test.YtkckodpfhlpkgaaGreatELive
import Derived.Deep.RegionWith
import Derived.Deep.CutBlock
namespace Go.Proofs.YtkckodpfhlpkgaaGreat
open Go.RowKit LitM TrailM EngM

/-- append(x, y...), each of which may be nil. -/
theorem step_append_any {P : Program} {ops : Array Oper} {o : Oper} {a : Act} {K : Act → World → Prop} {Q : Exit → Act → World → Prop} {E : Prop} (w : World) (hgd : o.guard = none) (s x : Operand) (t e : TypeId)
    (ho : o.op = .call { callee := .builtin .append, args := #[s, x], argTypes := #[t, t] }) (ht : P.underlying t = some (.slice e)) {z : Value} {size bytes : Nat}
    (hinfo : (P.info? e).map (fun i => (i.zero, i.size, i.bytes)) = some (some z, size, bytes)) (hzs : z.cells.size = size) (hsz : 0 < size) (hby : bytes ≤ 1000)
    (A : Option Addr) (n c : Nat) (f : Nat → Value) (hs : a.eval s = .slice A n c) (hrow : SlV e size w A n c f) (hn : n ≤ 100000)
    (A2 : Option Addr) (m c2 : Nat) (f2 : Nat → Value) (hx : a.eval x = .slice A2 m c2) (hsrc : SlV e size w A2 m c2 f2) (h1 : ∀ j, j < m * size → (f2 j).oneCell' = true) (hm : m ≤ 100000)
    (h : ∀ A' c' w', SlV e size w' A' (n + m) c' (appV f (n * size) (cellsV f2 (m * size))) → (∀ j, onB A' j → onB A j ∨ w.heap.size ≤ j) → Kf (fun k => onB A k) w w' → K (a.put o.dst (.slice A' (n + m) c')) w') :
    if Region.wanted o (yielded ops a.tmps) = true then Oper.wp P o a w K Q else E := by
  have hw : Region.wanted o (yielded ops a.tmps) = true := by simp [Region.wanted, hgd]
  rw [if_pos hw]
  obtain ⟨i0, hi, hz0, hz1, hz2⟩ := info_parts hinfo
  rcases hsrc with ⟨rfl, rfl, rfl⟩ | ⟨gx, rfl, hrx⟩
  · have hown : ∃ G, w.ownsRow G e size (.slice A n c) n (cellsV f (n * size)) := by
      rcases hrow with ⟨rfl, rfl, rfl⟩ | ⟨g, rfl, hrow⟩
      · exact ⟨0, by rw [Nat.zero_mul]; exact World.ownsRow_nil _ _ _ _⟩
      · exact ⟨g, hrow.own⟩
    obtain ⟨G, hown⟩ := hown
    have hrun := run_append_owned_none (P := P) (w := w) G t o.type e i0 size ht hi (.slice A n c) n (cellsV f (n * size)) hown
    unfold Oper.wp execOp
    simp only [ho, resolve, invoke, builtin, Sem.run_bind, Sem.run_pure, Result.andThen_ok, List.map_toArray, List.map_cons, List.map_nil, hs, hx, hrun]
    have := h A c w (by simpa using hrow.congr fun j hj => by unfold appV; rw [if_pos (by simpa using hj)]) (fun j hj => .inl hj) (Kf.refl _ _)
    have h3 : K (a.put o.dst (.slice A n c)) w := by simpa using this
    exact h3
  · have hnews : ∀ j u, (cellsV f2 (m * size))[j]? = some u → w.cell? ((⟨gx, 0, none⟩ : Addr).add j) = some u := fun j u hu => by
      have hj : j < m * size := by
        have := (List.getElem?_eq_some_iff.1 hu).1
        rwa [cellsV_length] at this
      rw [cellsV_get _ hj] at hu
      injection hu with hu
      subst hu
      have ha : ((⟨gx, 0, none⟩ : Addr).add j) = ⟨gx, j, none⟩ := by unfold Addr.add; split <;> simp_all
      rw [ha]; exact hrx.cell hj
    have hone : ∀ u ∈ cellsV f2 (m * size), u.oneCell' = true := fun u hu => by
      unfold cellsV at hu
      obtain ⟨j, hj, rfl⟩ := List.mem_map.1 hu
      exact h1 j (List.mem_range.1 hj)
    by_cases h0 : A = none ∧ m = 0
    · obtain ⟨rfl, rfl⟩ := h0
      have hrow' := hrow
      rcases hrow with ⟨_, rfl, rfl⟩ | ⟨g, e1, _⟩
      · obtain ⟨v', w', hr, hown, hgr, hnil⟩ := run_append_own (P := P) w w.heap.size t o.type e i0 z size bytes ht hi hz0 hz1 hz2 hzs hsz (.slice none 0 0) 0 [] (World.ownsRow_nil _ _ _ _) ⟨gx, 0, none⟩ 0 c2 (cellsV f2 (0 * size)) (cellsV_length _ _) hnews hone (by unfold maxLen; omega) (by omega) (Nat.le_refl _)
        have hsl : ∃ A' c', v' = .slice A' (0 + 0) c' ∧ SlV e size w' A' (0 + 0) c' (appV f (0 * size) (cellsV f2 (0 * size))) ∧ (∀ j, onB A' j → w.heap.size ≤ j) := by
          rcases hown.2 with ⟨rfl, _⟩ | ⟨g, cap, cur, rfl, hb, hh, q1, q2, q3, q4⟩
          · exact ⟨none, 0, rfl, .inl ⟨rfl, rfl, rfl⟩, fun j hj => absurd hj (onB_none j)⟩
          · refine ⟨some ⟨g, 0, none⟩, cap, rfl, .inr ⟨g, rfl, ⟨cur, hh, q1, q2, q3, fun j hj => by simp at hj⟩⟩, fun j hj => ?_⟩
            rw [onB_some] at hj
            have hj : j = g := hj
            omega
        obtain ⟨A', c', rfl, s1, s2⟩ := hsl
        unfold Oper.wp execOp
        simp only [ho, resolve, invoke, builtin, Sem.run_bind, Sem.run_pure, Result.andThen_ok, List.map_toArray, List.map_cons, List.map_nil, hs, hx, hr]
        exact h A' c' w' s1 (fun j hj => .inr (s2 j hj)) ((Kf.refl _ w).grown hgr fun j hj => by cases hj)
      · cases e1
    · obtain ⟨g', c3, w', hr, hrow', hg', hgr⟩ := run_append_sl (P := P) w t o.type e ht hinfo hzs hsz hby A n c f hrow hn ⟨gx, 0, none⟩ m c2 (cellsV f2 (m * size)) (cellsV_length _ _) hnews hone hm (fun e1 => by
        rcases Nat.eq_zero_or_pos m with x | x
        · exact absurd ⟨e1, x⟩ h0
        · exact x)
      unfold Oper.wp execOp
      simp only [ho, resolve, invoke, builtin, Sem.run_bind, Sem.run_pure, Result.andThen_ok, List.map_toArray, List.map_cons, List.map_nil, hs, hx, hr]
      refine h (some ⟨g', 0, none⟩) c3 w' (.inr ⟨g', rfl, hrow'⟩) (fun j hj => ?_) (hgr _ fun j hj => hj)
      rw [onB_some] at hj
      have hj : j = g' := hj
      rw [hj]; exact hg'
theorem natC_app (l m : List Nat) (j : Nat) (hj : j < l.length + m.length) : natC (l ++ m) j = appV (natC l) l.length (cellsV (natC m) m.length) j := by
  unfold appV
  by_cases e : j < l.length
  · rw [if_pos e]
    unfold natC
    rw [List.getD, List.getD, List.getElem?_append_left e]
  · rw [if_neg e, List.getD, cellsV_get _ (by omega)]
    unfold natC
    rw [List.getD, List.getElem?_append_right (by omega)]; rfl
/-- Loose ones more, or none. -/
theorem E6.pushLs {w : World} {b d : Nat} {q : Pm} {S : Eng} (h : E6 w b q S d) {W w2 : World} (hW : Below w.heap.size w W) {A' : Option Addr} {c' : Nat} {news : List Nat} (hr : SlV 3 1 w2 A' (S.lo.length + news.length) c' (natC (S.lo ++ news))) (hg : ∀ j, onB A' j → onB q.Al j ∨ W.heap.size ≤ j) (hk : Kf (fun k => onB q.Al k) W w2) :
    ∃ q', E6 (w2.setCell ⟨b, 2, none⟩ (.slice A' (S.lo.length + news.length) c')) b q' { S with lo := S.lo ++ news } d ∧ Ext q q' w (w2.setCell ⟨b, 2, none⟩ (.slice A' (S.lo.length + news.length) c')) ∧ (∀ k, q'.Le k = q.Le k) ∧ q'.Ae = q.Ae ∧ q'.ce = q.ce := by
  rcases hr with ⟨rfl, h0, rfl⟩ | ⟨g', rfl, hr⟩
  · have hWs := hW.size
    have hks := hk.size
    have hbl := h.lt
    have hol := h.lo.2
    have hnb : ¬ onB q.Al b := fun e => by have := hol b e; rw [h.ob] at this; cases this
    have K1 : Kf (fun k => q.own k = .loose ∨ q.own k = .eng) w w2 := (Kf.of_below hW).trans hk (fun x hx => .inl (.inl (hol x hx)))
    have K2 := K1.set (p := ⟨b, 2, none⟩) (.inl (.inr h.ob)) (.slice none (S.lo.length + news.length) 0)
    have hc := h.chg (O := fun o => o = .loose ∨ o = .eng) K2
    have hb2 : w2.heap[b]? = w.heap[b]? := (hk.block b (by omega) hnb).trans (hW.block b hbl)
    have hll : (S.lo ++ news).length = S.lo.length + news.length := by simp
    obtain ⟨e1, e2⟩ := h.setLo hc (lo' := S.lo ++ news) (A' := none) (c' := 0) (by rw [← hll]; exact set_head2 h w2 hb2 _ _ _) ⟨.inl ⟨rfl, by omega, rfl⟩, fun j hj => absurd hj (onB_none j)⟩
    exact ⟨_, e1, e2, fun _ => rfl, rfl, rfl⟩
  · exact h.pushL hW hr (hg g' (by rw [onB_some])) hk
/-- Levels are taken off. -/
theorem E6.cutR {w : World} {b d k : Nat} {q : Pm} {S : Eng} (h : E6 w b q S d) (hk : k < S.le.length) {w2 : World} {g : Nat} (hA : q.Ae = some ⟨g, 0, none⟩) (hr : RowV 91 2 w2 g k q.ce (leC S.le q.Le)) (hkf : Kf (fun x => x = g) w w2) :
    ∃ q', E6 (w2.setCell ⟨b, 5, none⟩ (.slice (some ⟨g, 0, none⟩) k q.ce)) b q' { S with le := S.le.take k } d ∧ Ext q q' w (w2.setCell ⟨b, 5, none⟩ (.slice (some ⟨g, 0, none⟩) k q.ce)) := by
  have hog : q.own g = .lrow := h.le.2 g (by rw [hA, onB_some])
  have hne : g ≠ b := fun e => by rw [e, h.ob] at hog; cases hog
  have K1 : Kf (fun x => q.own x = .lrow ∨ q.own x = .eng) w w2 := hkf.mono fun x hx => .inl (.inl (by rw [hx]; exact hog))
  have K2 := K1.set (p := ⟨b, 5, none⟩) (.inl (.inr h.ob)) (.slice (some ⟨g, 0, none⟩) k q.ce)
  have hc := h.chg (O := fun o => o = .lrow ∨ o = .eng) K2
  have hb2 : w2.heap[b]? = w.heap[b]? := hkf.block b h.lt (fun e => hne e.symm)
  have hlen : (S.le.take k).length = k := by rw [List.length_take]; omega
  refine ⟨q, ⟨?_, h.ob_kept hc, h.tr_kept hc (by simp), h.cl.kept hc (by simp), fun i hi => (h.lc i hi).kept hc (by simp), h.lo.kept hc (by simp), h.wa.kept hc (by simp), fun p hp => (h.wb p hp).kept hc (by simp), ⟨?_, h.le.2⟩, fun j hj => ?_, hc.fr⟩, hc.ext (by simp) rfl rfl⟩
  · rw [set_head h hb2]
    unfold headV
    simp [hlen, hA]
  · show SlV _ 2 _ q.Ae (S.le.take k).length q.ce _
    rw [hlen, hA]
    refine .inr ⟨g, rfl, (hr.other (fun e => hne e.symm) _).congr fun j hj => ?_⟩
    unfold leC
    rw [leA_take (show j / 2 < k by omega)]
  · have hj : j < (S.le.take k).length := hj
    rw [hlen] at hj
    show Part _ _ (.ll j) _ 1 (q.Le j).1 (leA (S.le.take k) j).2.length (q.Le j).2 (natC (leA (S.le.take k) j).2)
    rw [leA_take hj]
    exact (h.lb j (by omega)).kept hc (by simp)
/-- What Back leaves. -/
def BackTo (w : World) (b : Nat) (q : Pm) (S : Eng) (k : Nat) (e : Ending) (w' : World) : Prop :=
  e = .returned (.int .i64 0) ∧ ∃ q', E6 w' b q' (backF S k) k ∧ Ext q q' w w'
set_option maxHeartbeats 1600000 in
theorem eback_same {w : World} {b : Nat} {q : Pm} {S : Eng} {d : Nat} (h : E6 w b q S d) (hd : d = S.le.length) :
    Calls Tryz.prog 23 #[.pointer (some ⟨b, 0, none⟩), .int .i64 (d : Int)] w fun e w' => e = .returned (.int .i64 0) ∧ w = w' := by
  have h0 := h.h0
  have h5 := h.h5
  obtain ⟨F, hT, _⟩ := h.tr
  have HB := Lib.hid (back_same w hT)
  rw [← hd] at h5
  have t2 : ((d : Int) == (d : Int)) = true := by simp
  clear h hT hd
  go_enter Tryz.func23, Tryz.ntmps23
  go_wp2_with fail
  refine HB.out.mono ?_
  rintro e w' ⟨rfl, rfl⟩
  go_wp2_with fail
  go_ret
  exact ⟨rfl, rfl⟩
/-- Behind the j-th level that is undone. -/
def Undo6 (wo : World) (b : Nat) (q1 : Pm) (S1 : Eng) (k j : Nat) (wr : World) : Prop :=
  ∃ q', E6 wr b q' { S1 with lo := S1.lo ++ ((S1.le.drop k).take j).flatMap Prod.snd } k ∧ Ext q1 q' wo wr ∧ (∀ x, q'.Le x = q1.Le x) ∧ q'.Ae = q1.Ae ∧ q'.ce = q1.ce
theorem drop_take_succ {le : List (Nat × List Nat)} {k j : Nat} (hj : k + j < le.length) : ((le.drop k).take (j + 1)).flatMap Prod.snd = ((le.drop k).take j).flatMap Prod.snd ++ (leA le (k + j)).2 := by
  rw [List.take_add_one, List.getElem?_drop, List.getElem?_eq_getElem hj, List.flatMap_append]
  unfold leA
  rw [List.getD, List.getElem?_eq_getElem hj]
  simp
set_option maxHeartbeats 6400000 in
set_option maxRecDepth 100000 in
theorem eback_yes {w : World} {b : Nat} {q : Pm} {S : Eng} {d : Nat} (h : E6 w b q S d) (hI : Inv S) (hd : d = S.le.length) (hcn : S.cs.length ≤ 20000) {k : Nat} (hk : k < d) :
    Calls Tryz.prog 23 #[.pointer (some ⟨b, 0, none⟩), .int .i64 (k : Int)] w (BackTo w b q S k) := by
  have h0 := h.h0
  obtain ⟨F, hT, hF⟩ := h.tr
  have hn := hI.small.n
  have hdl := hI.ok.dle
  have hll := hI.ok.len
  have HB := Lib.hid (back_yes w hT (by omega) k hk)
  have HT : Hid (∀ w', TrailAt w' q.bt F S.n k (S.L.take (upTo S.L k)) → Kf F w w' → ∃ q1, E6 w' b q1 { S with L := S.L.take (upTo S.L k) } k ∧ Ext q q1 w w' ∧ q1.Le = q.Le ∧ q1.Ae = q.Ae ∧ q1.ce = q.ce) := fun w' t1 t2 => by
    obtain ⟨own', e1, e2⟩ := h.trailTo hF (w' := w') ⟨F, t1, fun x hx => .inl hx, t2⟩
    exact ⟨_, e1, e2, rfl, rfl, rfl⟩
  obtain ⟨S1, hS1⟩ : ∃ S1 : Eng, S1 = { S with L := S.L.take (upTo S.L k) } := ⟨_, rfl⟩
  rw [← hS1] at HT
  have HBF : Hid (backF S k = { S1 with lo := S1.lo ++ (S1.le.drop k).flatMap Prod.snd, vi := (leA S1.le k).1, le := S1.le.take k }) := by
    unfold Hid backF
    rw [if_neg (by omega), hS1]
  obtain ⟨D, hD⟩ : ∃ D, D = S1.le.length := ⟨_, rfl⟩
  have hSle : S.le.length = D := by rw [hD, hS1]
  have hkD : k < D := by omega
  have hD9 : D ≤ 90000 := by omega
  have HSM : Hid (∀ j, k + j ≤ D → (S1.lo ++ ((S1.le.drop k).take j).flatMap Prod.snd).length ≤ 20000) := fun j hj => by
    have hsub : (S1.lo ++ ((S1.le.drop k).take j).flatMap Prod.snd).length ≤ (backF S k).lo.length := by
      rw [HBF.out]
      show _ ≤ (S1.lo ++ (S1.le.drop k).flatMap Prod.snd).length
      rw [List.length_append, List.length_append]
      have : (((S1.le.drop k).take j).flatMap Prod.snd).length ≤ ((S1.le.drop k).flatMap Prod.snd).length := by
        conv => rhs; rw [← List.take_append_drop j (S1.le.drop k), List.flatMap_append, List.length_append]
        omega
      omega
    have hb := (inv_back hI (k := k) (by omega)).small.ln
    have hcs : (backF S k).cs = S.cs := by rw [HBF.out, hS1]
    rw [hcs] at hb
    omega
  have HLL : Hid (∀ j, k + j < D → (leA S1.le (k + j)).2.length ≤ 20000) := fun j hj => by
    have := hI.small.en (k + j) (by rw [hSle]; exact hj)
    have e : S1.le = S.le := by rw [hS1]
    rw [e]; omega
  have t2 : ((k : Int) == (D : Int)) = false := by rw [beq_eq_false_iff_ne]; omega
  have t2n : (k == D) = false := by rw [beq_eq_false_iff_ne]; omega
  unfold BackTo
  rw [HBF.out]
  have HD := Lib.hid hD
  clear HBF h hT hF hI hd hS1 hSle hk hdl hll hcn hn hD
  obtain ⟨w0, rfl⟩ : ∃ w0 : World, w0 = w := ⟨_, rfl⟩
  go_enter Tryz.func23, Tryz.ntmps23
  go_wp2_with fail
  refine HB.out.mono ?_
  rintro e w1 ⟨g, c, rfl, _, _, hT1, hK1⟩
  obtain ⟨q1, hE1, hX1, hL1, hA1, hc1⟩ := HT.out w1 hT1 hK1
  have h5 := hE1.h5
  rw [← HD.out] at h5
  obtain ⟨ge, hAe, hrow⟩ := hE1.le.1.row (by rw [← HD.out]; omega)
  rw [← HD.out] at hrow
  rw [hAe] at h5
  have hbd := hrow.bd
  obtain ⟨hbd1, hbd2⟩ := hbd
  have HAe := Lib.hid hAe
  have HE1 := Lib.hid hE1
  have HX1 := Lib.hid hX1
  have HROW := Lib.hid hrow
  have HU0 : Hid (Undo6 w1 b q1 S1 k 0 w1) := ⟨q1, by simpa using hE1, Ext.refl _ _, fun _ => rfl, rfl, rfl⟩
  clear hT1 hK1 hE1 hX1 hL1 hA1 hc1 hAe hrow HB HT
  go_wp2_with fail
  go_loopw [34] (fun v wr => ∃ j : Nat, v = .int .i64 (j : Int) ∧ j ≤ D - k ∧ Hid (Undo6 w1 b q1 S1 k j wr)) (fun v _ => (D - k) - (intOf v).toNat)
  case atStart => exact ⟨0, rfl, by omega, HU0⟩
  case round =>
    obtain ⟨j, rfl, hj, hU⟩ := hrel
    obtain ⟨q', hE, hX, hL, hA, hc⟩ := hU.out
    by_cases hlt : j < D - k
    · have tj : decide (j < D - k) = true := decide_eq_true hlt
      have tj2 : decide ((j : Int) < ((D - k : Nat) : Int)) = true := decide_eq_true (by omega)
      have hrow' : RowV 91 2 wr ge D q1.ce (leC S1.le q'.Le) := by
        obtain ⟨g2, e2, r2⟩ := hE.le.1.row (by have := HD.out; show 0 < S1.le.length; omega)
        rw [hA, HAe.out] at e2
        injection e2 with e2
        injection e2 with e2
        subst e2
        rw [hc] at r2
        have e3 := HD.out
        rw [e3]; exact r2
      have d0 := hrow'.cell (show (k + j) * 2 < D * 2 by omega)
      have d1 := hrow'.cell (show (k + j) * 2 + 1 < D * 2 by omega)
      rw [leC0] at d0
      rw [leC1, hL] at d1
      have hB1 : Hid (E6 wr b q' { S1 with lo := S1.lo ++ ((S1.le.drop k).take j).flatMap Prod.snd } k) := hE
      have hlb := (hE.lb (k + j) (by have := HD.out; show k + j < S1.le.length; omega))
      rw [hL] at hlb
      have HLB := Lib.hid hlb.1
      have hll := HLL.out j (by omega)
      have hls := HSM.out (j) (by omega)
      have h2 := hE.h2
      have HX := Lib.hid hX
      have HQ := Lib.hid (show _ ∧ _ ∧ _ from ⟨hL, hA, hc⟩)
      rw [show (k + j) * 2 = k * 2 + j * 2 from by omega] at d0 d1
      have HDT := Lib.hid (drop_take_succ (le := S1.le) (k := k) (j := j) (by have := HD.out; omega))
      clear hU hE hX hL hA hc hrow' hlb
      generalize q1.Le (k + j) = a at *
      obtain ⟨a1, a2⟩ := a
      obtain ⟨M, hM⟩ : ∃ M, M = (leA S1.le (k + j)).2 := ⟨_, rfl⟩
      simp only [] at d1 h2 hls
      rw [← hM] at d1 HLB hll HDT
      obtain ⟨lo', hlo⟩ : ∃ lo', lo' = S1.lo ++ ((S1.le.drop k).take j).flatMap Prod.snd := ⟨_, rfl⟩
      have HLO := Lib.hid hlo
      rw [← hlo] at h2 hls hB1
      clear hM hlo
      generalize ((leA S1.le (k + j)).1 : Int) = v0 at *
      go_upto_region 9 with (fail)
      obtain ⟨wu, hwu⟩ : ∃ wu : World, wu = wr.alloc (.cells #[.int .i64 v0, .slice a1 M.length a2] 91) := ⟨_, rfl⟩
      have hbu : Below wr.heap.size wr wu := by rw [hwu]; exact (Below.refl _ _).alloc (Nat.le_refl _) _
      have hcu : wu.cell? ⟨wr.heap.size, 1, none⟩ = some (.slice a1 M.length a2) := by rw [hwu]; exact Lib.cell_of_heap (blk_new wr _) 1
      rw [← hwu]
      have HEd : Hid (E6 wu.drew b q' { S1 with lo := lo' } k) := (hB1.out.below hbu).drewN 1
      have g2 : wu.cell? ⟨b, 2, none⟩ = some (.slice q'.Al lo'.length q'.cl) := HEd.out.h2
      have HSR : Hid (SlV 3 1 wu.drew a1 M.length a2 (natC M)) := (HLB.out.below hbu).same fun _ _ => rfl
      have HXd : Hid (Ext q1 q' w1 wu.drew) := ⟨HX.out.old, (HX.out.kf.trans (Kf.of_below hbu) (fun x hx => .inl hx)).drew, HX.out.bt⟩
      have HFIN : Hid (∀ A' c' w', SlV 3 1 w' A' (lo'.length + M.length) c' (appV (natC lo') (lo'.length * 1) (cellsV (natC M) (M.length * 1))) → (∀ j, onB A' j → onB q'.Al j ∨ wu.drew.heap.size ≤ j) → Kf (fun k => onB q'.Al k) wu.drew w' →
          w'.cell? ⟨b, 2, none⟩ = some (.slice q'.Al lo'.length q'.cl) ∧ w'.frozen? ⟨b, 2, none⟩ = false ∧ Undo6 w1 b q1 S1 k (j + 1) (w'.setCell ⟨b, 2, none⟩ (.slice A' (lo'.length + M.length) c'))) := fun A' c' w' x1 x2 x3 => by
        obtain ⟨q'', e1, e2, e3, e4, e5⟩ := HEd.out.pushLs (Below.refl _ _) (news := M) (x1.congr fun i hi => by rw [Nat.mul_one, Nat.mul_one]; exact natC_app lo' M i (by simpa using hi)) x2 x3
        have hnb : ¬ onB q'.Al b := fun e => by have := HEd.out.lo.2 b e; rw [HEd.out.ob] at this; cases this
        have hb5 : w'.heap[b]? = wu.drew.heap[b]? := x3.block b HEd.out.lt hnb
        refine ⟨(World.cell?_of_block (a := ⟨b, 2, none⟩) hb5).trans HEd.out.h2, ?_, q'', ?_, HXd.out.trans e2, fun x => (e3 x).trans (HQ.out.1 x), e4.trans HQ.out.2.1, e5.trans HQ.out.2.2⟩
        · rw [World.frozen?_of_block (a := ⟨b, 2, none⟩) hb5]; exact HEd.out.free 2
        · rw [HDT.out, ← List.append_assoc, ← HLO.out]; exact e1
      clear HX hB1 HLB HXd hbu h2 d0 d1 hwu
      generalize hnl : lo'.length = nl at *
      generalize hnm : M.length = nm at *
      refine wp_region_any (by kernel_rfl) ?_
      change wpAny _ _ _ _ _ _ _ (World.drew _)
      refine wpAny_take (i := 0) (v := ?_) rfl (by kernel_rfl) (by kernel_rfl) (by kernel_rfl) (fun _ _ _ h => h) (Or.inl ⟨by kernel_rfl, ?_⟩) ?_
      rotate_left 1
      · (intro w; go_simp <;> with_reducible rfl)
      go_simp
      refine wpAny_take (i := 1) (v := ?_) rfl (by kernel_rfl) (by kernel_rfl) (by kernel_rfl) (fun _ _ _ h => h) (Or.inl ⟨by kernel_rfl, ?_⟩) ?_
      rotate_left 1
      · (intro w; go_simp <;> with_reducible rfl)
      go_simp
      refine wpAny_take (i := 2) (v := ?_) rfl (by kernel_rfl) (by kernel_rfl) (by kernel_rfl) (fun _ _ _ h => h) (Or.inl ⟨by kernel_rfl, ?_⟩) ?_
      rotate_left 1
      · (intro w; go_simp <;> with_reducible rfl)
      go_simp
      refine wpAny_take (i := 3) (v := ?_) rfl (by kernel_rfl) (by kernel_rfl) (by kernel_rfl) (fun _ _ _ h => h) (Or.inl ⟨by kernel_rfl, ?_⟩) ?_
      rotate_left 1
      · (intro w; go_simp <;> with_reducible rfl)
      go_simp
      refine wpAny_take (i := 5) (v := ?_) rfl (by kernel_rfl) (by kernel_rfl) (by kernel_rfl) (fun _ _ _ h => h) (Or.inl ⟨by kernel_rfl, ?_⟩) ?_
      rotate_left 1
      · (intro w; go_simp <;> with_reducible rfl)
      go_simp
      refine wpAny_ready (rs := [4, 6]) (by kernel_rfl) (by simp) ?_
      refine AllReady.cons rfl (fun K hK => ?_) ?_
      ·
        go_simp
        refine hK _ _ ?_; clear hK K
        refine wpAny_ready (rs := [6]) (by kernel_rfl) (by simp) ?_
        refine AllReady.cons rfl (fun K hK => ?_) ?_
        ·
          go_simp
          refine hK _ _ ?_; clear hK K
          refine wpAny_ready (rs := [7]) (by kernel_rfl) (by simp) ?_
          refine AllReady.cons rfl (fun K hK => ?_) ?_
          ·
            refine step_append_any _ rfl _ _ 37 3 rfl Tryz.underlying37 info_tint rfl (by decide) (by decide) q'.Al nl q'.cl (natC lo') rfl (by rw [← hnl]; exact HEd.out.lo.1) (by omega) a1 nm a2 (natC M) rfl HSR.out (fun _ _ => rfl) (by omega) ?_
            intro A' c' w5 hr5 hg5 hk5
            obtain ⟨y1, y2, y3⟩ := HFIN.out A' c' w5 hr5 hg5 hk5
            have HU2 := Lib.hid y3
            clear hr5 hg5 hk5 y3
            refine hK _ _ ?_; clear hK K
            refine wpAny_take (i := 8) (v := ?_) rfl (by kernel_rfl) (by kernel_rfl) (by kernel_rfl) (fun _ _ _ h => h) (Or.inl ⟨by kernel_rfl, ?_⟩) ?_
            rotate_left 1
            · (intro w; go_simp <;> with_reducible rfl)
            go_simp
            refine wpAny_take (i := 9) (v := ?_) rfl (by kernel_rfl) (by kernel_rfl) (by kernel_rfl) (fun _ _ _ h => h) (Or.inl ⟨by kernel_rfl, ?_⟩) ?_
            rotate_left 1
            · (intro w; go_simp <;> with_reducible rfl)
            go_simp
            refine wpAny_ready (rs := [10]) (by kernel_rfl) (by simp) ?_
            refine AllReady.cons rfl (fun K hK => ?_) ?_
            ·
              go_simp
              refine hK _ _ ?_; clear hK K
              refine wpAny_done (by kernel_rfl) ?_ _
              go_wp2_with fail
              go_roundw
              case rel => exact ⟨j + 1, by go_num, by omega, HU2⟩
              case measure => simp [intOf]; omega
            exact AllReady.nil
          exact AllReady.nil
        exact AllReady.nil
      refine AllReady.cons rfl (fun K hK => ?_) ?_
      ·
        go_simp
        refine hK _ _ ?_; clear hK K
        refine wpAny_ready (rs := [4]) (by kernel_rfl) (by simp) ?_
        refine AllReady.cons rfl (fun K hK => ?_) ?_
        ·
          go_simp
          refine hK _ _ ?_; clear hK K
          refine wpAny_ready (rs := [7]) (by kernel_rfl) (by simp) ?_
          refine AllReady.cons rfl (fun K hK => ?_) ?_
          ·
            refine step_append_any _ rfl _ _ 37 3 rfl Tryz.underlying37 info_tint rfl (by decide) (by decide) q'.Al nl q'.cl (natC lo') rfl (by rw [← hnl]; exact HEd.out.lo.1) (by omega) a1 nm a2 (natC M) rfl HSR.out (fun _ _ => rfl) (by omega) ?_
            intro A' c' w5 hr5 hg5 hk5
            obtain ⟨y1, y2, y3⟩ := HFIN.out A' c' w5 hr5 hg5 hk5
            have HU2 := Lib.hid y3
            clear hr5 hg5 hk5 y3
            refine hK _ _ ?_; clear hK K
            refine wpAny_take (i := 8) (v := ?_) rfl (by kernel_rfl) (by kernel_rfl) (by kernel_rfl) (fun _ _ _ h => h) (Or.inl ⟨by kernel_rfl, ?_⟩) ?_
            rotate_left 1
            · (intro w; go_simp <;> with_reducible rfl)
            go_simp
            refine wpAny_take (i := 9) (v := ?_) rfl (by kernel_rfl) (by kernel_rfl) (by kernel_rfl) (fun _ _ _ h => h) (Or.inl ⟨by kernel_rfl, ?_⟩) ?_
            rotate_left 1
            · (intro w; go_simp <;> with_reducible rfl)
            go_simp
            refine wpAny_ready (rs := [10]) (by kernel_rfl) (by simp) ?_
            refine AllReady.cons rfl (fun K hK => ?_) ?_
            ·
              go_simp
              refine hK _ _ ?_; clear hK K
              refine wpAny_done (by kernel_rfl) ?_ _
              go_wp2_with fail
              go_roundw
              case rel => exact ⟨j + 1, by go_num, by omega, HU2⟩
              case measure => simp [intOf]; omega
            exact AllReady.nil
          exact AllReady.nil
        exact AllReady.nil
      exact AllReady.nil
    · have tj : decide (j < D - k) = false := decide_eq_false hlt
      have tj2 : decide ((j : Int) < ((D - k : Nat) : Int)) = false := decide_eq_false (by omega)
      obtain rfl : j = D - k := by omega
      have hrow' : RowV 91 2 wr ge D q1.ce (leC S1.le q'.Le) := by
        obtain ⟨g2, e2, r2⟩ := hE.le.1.row (by have := HD.out; show 0 < S1.le.length; omega)
        rw [hA, HAe.out] at e2
        injection e2 with e2
        injection e2 with e2
        subst e2
        rw [hc] at r2
        have e3 := HD.out
        rw [e3]; exact r2
      have d0 := hrow'.cell (show k * 2 < D * 2 by omega)
      rw [leC0] at d0
      have hfull : (S1.le.drop k).take (D - k) = S1.le.drop k := List.take_of_length_le (by rw [List.length_drop, ← HD.out]; omega)
      rw [hfull] at hE
      obtain ⟨v, hv⟩ : ∃ v, v = (leA S1.le k).1 := ⟨_, rfl⟩
      rw [← hv] at d0
      have HV := Lib.hid hv
      have h4 := hE.h4
      have h5r := hE.h5
      rw [hA, HAe.out, hc] at h5r
      have f4 := hE.free 4
      rw [show ({ S1 with lo := S1.lo ++ (S1.le.drop k).flatMap Prod.snd } : Eng).le.length = D from HD.out.symm] at h5r
      obtain ⟨e1, e2⟩ := hE.setVi v
      have HE2 : Hid (E6 (wr.setCell ⟨b, 4, none⟩ (.int .i64 (v : Int))).drew b q' { S1 with lo := S1.lo ++ (S1.le.drop k).flatMap Prod.snd, vi := v } k) := e1.drewN 1
      have HX2 : Hid (Ext q q' w0 (wr.setCell ⟨b, 4, none⟩ (.int .i64 (v : Int))).drew) := by
        have := (HX1.out.trans hX).trans e2
        exact ⟨this.old, this.kf.drew, this.bt⟩
      have HR2 : Hid (RowV 91 2 (wr.setCell ⟨b, 4, none⟩ (.int .i64 (v : Int))).drew ge D q1.ce (leC S1.le q'.Le)) := by
        have hne : ge ≠ b := fun e => by
          have h1 := hE.le.2 ge (by rw [hA, HAe.out, onB_some])
          rw [e, hE.ob] at h1; cases h1
        exact (hrow'.other (fun e => hne e.symm) _).same rfl
      have HDl := Lib.hid (delete_lv HR2.out hkD)
      have HQ := Lib.hid (show _ ∧ _ from ⟨hA.trans HAe.out, hc⟩)
      clear hU hE hX hL hA hc hrow' hfull hv e1 e2 HU0 HE1 HX1 HROW
      go_upto_region 12 with (fail)
      have g5 : (wr.setCell ⟨b, 4, none⟩ (.int .i64 (v : Int))).cell? ⟨b, 5, none⟩ = some (.slice (some ⟨ge, 0, none⟩) D q1.ce) := by
        have h : (wr.setCell ⟨b, 4, none⟩ (.int .i64 (v : Int))).cell? ⟨b, 5, none⟩ = _ := HE2.out.h5
        rw [HQ.out.1, HQ.out.2] at h
        rw [h]; congr 2; exact HD.out.symm
      obtain ⟨wv, hwv⟩ : ∃ wv : World, wv = wr.setCell ⟨b, 4, none⟩ (.int .i64 (v : Int)) := ⟨_, rfl⟩
      rw [← hwv] at g5 HE2 HX2 HR2 HDl ⊢
      clear hwv
      have HFIN : Hid (∀ w3, RowV 91 2 w3 ge k q1.ce (leC S1.le q'.Le) → Kf (fun x => x = ge) wv.drew w3 → w3.cell? ⟨b, 5, none⟩ = some (.slice (some ⟨ge, 0, none⟩) D q1.ce) ∧ w3.frozen? ⟨b, 5, none⟩ = false ∧
          ∃ q3, E6 (w3.setCell ⟨b, 5, none⟩ (.slice (some ⟨ge, 0, none⟩) k q1.ce)) b q3 { S1 with lo := S1.lo ++ (S1.le.drop k).flatMap Prod.snd, vi := v, le := S1.le.take k } k ∧ Ext q q3 w0 (w3.setCell ⟨b, 5, none⟩ (.slice (some ⟨ge, 0, none⟩) k q1.ce))) := fun w3 x1 x2 => by
        have hog : q'.own ge = .lrow := HE2.out.le.2 ge (by rw [HQ.out.1, onB_some])
        have hne : b ≠ ge := fun e => by rw [← e, HE2.out.ob] at hog; cases hog
        have hb3 := x2.block b HE2.out.lt hne
        rw [← HQ.out.2] at x1
        obtain ⟨q3, e1, e2⟩ := HE2.out.cutR (k := k) (by show k < S1.le.length; rw [← HD.out]; exact hkD) HQ.out.1 x1 x2
        refine ⟨(World.cell?_of_block (a := ⟨b, 5, none⟩) hb3).trans g5, ?_, q3, ?_, ?_⟩
        · rw [World.frozen?_of_block (a := ⟨b, 5, none⟩) hb3]; exact HE2.out.free 5
        · rw [← HQ.out.2]; exact e1
        · rw [← HQ.out.2]; exact HX2.out.trans e2
      clear HE2 HX2 HR2
      refine wp_region_any (by kernel_rfl) ?_
      change wpAny _ _ _ _ _ _ _ (World.drew _)
      refine wpAny_take (i := 0) (v := ?_) rfl (by kernel_rfl) (by kernel_rfl) (by kernel_rfl) (fun _ _ _ h => h) (Or.inl ⟨by kernel_rfl, ?_⟩) ?_
      rotate_left 1
      · (intro w; go_simp <;> with_reducible rfl)
      go_simp
      refine wpAny_take (i := 1) (v := ?_) rfl (by kernel_rfl) (by kernel_rfl) (by kernel_rfl) (fun _ _ _ h => h) (Or.inl ⟨by kernel_rfl, ?_⟩) ?_
      rotate_left 1
      · (intro w; go_simp <;> with_reducible rfl)
      go_simp
      refine wpAny_take (i := 2) (v := ?_) rfl (by kernel_rfl) (by kernel_rfl) (by kernel_rfl) (fun _ _ _ h => h) (Or.inl ⟨by kernel_rfl, ?_⟩) ?_
      rotate_left 1
      · (intro w; go_simp <;> with_reducible rfl)
      go_simp
      refine wpAny_take (i := 3) (v := ?_) rfl (by kernel_rfl) (by kernel_rfl) (by kernel_rfl) (fun _ _ _ h => h) (Or.inl ⟨by kernel_rfl, ?_⟩) ?_
      rotate_left 1
      · (intro w; go_simp <;> with_reducible rfl)
      go_simp
      refine wpAny_take (i := 5) (v := ?_) rfl (by kernel_rfl) (by kernel_rfl) (by kernel_rfl) (fun _ _ _ h => h) (Or.inl ⟨by kernel_rfl, ?_⟩) ?_
      rotate_left 1
      · (intro w; go_simp <;> with_reducible rfl)
      go_simp
      refine wpAny_take (i := 6) (v := ?_) rfl (by kernel_rfl) (by kernel_rfl) (by kernel_rfl) (fun _ _ _ h => h) (Or.inl ⟨by kernel_rfl, ?_⟩) ?_
      rotate_left 1
      · (intro w; go_simp <;> with_reducible rfl)
      go_simp
      refine wpAny_take (i := 7) (v := ?_) rfl (by kernel_rfl) (by kernel_rfl) (by kernel_rfl) (fun _ _ _ h => h) (Or.inl ⟨by kernel_rfl, ?_⟩) ?_
      rotate_left 1
      · (intro w; go_simp <;> with_reducible rfl)
      go_simp
      refine wpAny_take (i := 8) (v := ?_) rfl (by kernel_rfl) (by kernel_rfl) (by kernel_rfl) (fun _ _ _ h => h) (Or.inl ⟨by kernel_rfl, ?_⟩) ?_
      rotate_left 1
      · (intro w; go_simp <;> with_reducible rfl)
      go_simp
      refine wpAny_ready (rs := [4, 9]) (by kernel_rfl) (by simp) ?_
      refine AllReady.cons rfl (fun K hK => ?_) ?_
      ·
        go_simp
        refine hK _ _ ?_; clear hK K
        refine wpAny_ready (rs := [9]) (by kernel_rfl) (by simp) ?_
        refine AllReady.cons rfl (fun K hK => ?_) ?_
        ·
          go_simp
          refine hK _ _ ?_; clear hK K
          refine wpAny_take (i := 10) (v := ?_) rfl (by kernel_rfl) (by kernel_rfl) (by kernel_rfl) (fun _ _ _ h => h) (Or.inl ⟨by kernel_rfl, ?_⟩) ?_
          rotate_left 1
          · (intro w; go_simp <;> with_reducible rfl)
          go_simp
          refine wpAny_ready (rs := [11]) (by kernel_rfl) (by simp) ?_
          refine AllReady.cons rfl (fun K hK => ?_) ?_
          ·
            go_simp
            go_wp2_with ((go_at_call 44; refine HDl.out.mono ?_; rintro e w3 ⟨rfl, hr3, hk3⟩; obtain ⟨x1, x2, q3, x3, x4⟩ := HFIN.out w3 hr3 hk3; have HX := Lib.hid (show _ ∧ _ from ⟨x3, x4⟩); clear hr3 hk3 x3 x4))
            first | (refine hK _ _ ?_; clear hK K) | skip
            refine wpAny_take (i := 12) (v := ?_) rfl (by kernel_rfl) (by kernel_rfl) (by kernel_rfl) (fun _ _ _ h => h) (Or.inl ⟨by kernel_rfl, ?_⟩) ?_
            rotate_left 1
            · (intro w; go_simp <;> with_reducible rfl)
            go_simp
            refine wpAny_take (i := 13) (v := ?_) rfl (by kernel_rfl) (by kernel_rfl) (by kernel_rfl) (fun _ _ _ h => h) (Or.inl ⟨by kernel_rfl, ?_⟩) ?_
            rotate_left 1
            · (intro w; go_simp <;> with_reducible rfl)
            go_simp
            refine wpAny_ready (rs := [14]) (by kernel_rfl) (by simp) ?_
            refine AllReady.cons rfl (fun K hK => ?_) ?_
            ·
              go_simp
              refine hK _ _ ?_; clear hK K
              refine wpAny_done (by kernel_rfl) ?_ _
              go_wp2_with fail
              go_ret
              exact ⟨rfl, q3, by rw [← HV.out]; exact HX.out.1, HX.out.2⟩
            exact AllReady.nil
          exact AllReady.nil
        exact AllReady.nil
      refine AllReady.cons rfl (fun K hK => ?_) ?_
      ·
        go_simp
        refine hK _ _ ?_; clear hK K
        refine wpAny_take (i := 10) (v := ?_) rfl (by kernel_rfl) (by kernel_rfl) (by kernel_rfl) (fun _ _ _ h => h) (Or.inl ⟨by kernel_rfl, ?_⟩) ?_
        rotate_left 1
        · (intro w; go_simp <;> with_reducible rfl)
        go_simp
        refine wpAny_ready (rs := [4]) (by kernel_rfl) (by simp) ?_
        refine AllReady.cons rfl (fun K hK => ?_) ?_
        ·
          go_simp
          refine hK _ _ ?_; clear hK K
          refine wpAny_ready (rs := [11]) (by kernel_rfl) (by simp) ?_
          refine AllReady.cons rfl (fun K hK => ?_) ?_
          ·
            go_simp
            go_wp2_with ((go_at_call 44; refine HDl.out.mono ?_; rintro e w3 ⟨rfl, hr3, hk3⟩; obtain ⟨x1, x2, q3, x3, x4⟩ := HFIN.out w3 hr3 hk3; have HX := Lib.hid (show _ ∧ _ from ⟨x3, x4⟩); clear hr3 hk3 x3 x4))
            first | (refine hK _ _ ?_; clear hK K) | skip
            refine wpAny_take (i := 12) (v := ?_) rfl (by kernel_rfl) (by kernel_rfl) (by kernel_rfl) (fun _ _ _ h => h) (Or.inl ⟨by kernel_rfl, ?_⟩) ?_
            rotate_left 1
            · (intro w; go_simp <;> with_reducible rfl)
            go_simp
            refine wpAny_take (i := 13) (v := ?_) rfl (by kernel_rfl) (by kernel_rfl) (by kernel_rfl) (fun _ _ _ h => h) (Or.inl ⟨by kernel_rfl, ?_⟩) ?_
            rotate_left 1
            · (intro w; go_simp <;> with_reducible rfl)
            go_simp
            refine wpAny_ready (rs := [14]) (by kernel_rfl) (by simp) ?_
            refine AllReady.cons rfl (fun K hK => ?_) ?_
            ·
              go_simp
              refine hK _ _ ?_; clear hK K
              refine wpAny_done (by kernel_rfl) ?_ _
              go_wp2_with fail
              go_ret
              exact ⟨rfl, q3, by rw [← HV.out]; exact HX.out.1, HX.out.2⟩
            exact AllReady.nil
          exact AllReady.nil
        exact AllReady.nil
      exact AllReady.nil
end Go.Proofs.YtkckodpfhlpkgaaGreat
