/- append(x, make([]T, m)...): the same block, or a new one; what is new reads zero. No function of the program. The contract of an engine's makeRoom: each literal has a list. -/
import Derived.Test.YtkckodpfhlpkgaaGreatEVis
import Derived.Lib.AppendZeros
import Derived.Deep.QuietTactic
import Derived.BigQuiet
import Derived.Deep.DeepCutAuto
namespace Go.Proofs.YtkckodpfhlpkgaaGreat
open Go.RowKit Go.Lib

theorem zeroCells_one (z0 : Value) (m : Nat) : (Builtin.zeroCells #[z0] m).size = m ∧ ∀ j, j < m → (Builtin.zeroCells #[z0] m)[j]? = some z0 := by
  refine ⟨by simp [Builtin.zeroCells], fun j hj => ?_⟩
  simp [Builtin.zeroCells, hj, Nat.mod_one]
/-- A row read as far as its room. -/
theorem RowV.wide {T : TypeId} {w : World} {g n c : Nat} {f : Nat → Value} (h : RowV T 1 w g n c f) : ∃ f', RowV T 1 w g c c f' ∧ ∀ j, j < n → f' j = f j := by
  obtain ⟨cur, h0, h1, h2, h3, h4⟩ := h
  refine ⟨fun j => cur.getD j undef, ⟨cur, h0, Nat.le_refl _, h2, h3, fun j hj => ?_⟩, fun j hj => ?_⟩
  · show cur[j]? = some (cur.getD j undef)
    rw [Array.getD_eq_getD_getElem?, Array.getElem?_eq_getElem (by omega)]; rfl
  · show cur.getD j undef = f j
    rw [Array.getD_eq_getD_getElem?, h4 j (by omega)]; rfl
theorem run_append_zeros {P : Program} (w : World) (t tn ty e : TypeId) (k kn : IntKind) (ht : P.underlying t = some (.slice e)) (htn : P.underlying tn = some (.int kn)) {z z0 : Value} {bytes : Nat}
    (hinfo : (P.info? e).map (fun i => (i.zero, i.size, i.bytes)) = some (some z, 1, bytes)) (hzc : z.cells = #[z0]) (hz1 : z0.oneCell' = true) (hby : bytes ≤ 1000)
    (A : Option Addr) (n c : Nat) (f : Nat → Value) (hrow : SlV e 1 w A n c f) (hn : n ≤ 1000000) (m : Nat) (h0 : 0 < m) (hm : m ≤ 1000000) :
    ∃ g' cx w', (Builtin.append_ #[t, tn] ty #[.slice A n c, .int k m]).run P w = .ok (.slice (some ⟨g', 0, none⟩) (n + m) cx) w' ∧ RowV e 1 w' g' (n + m) cx (fun j => if j < n then f j else z0) ∧ (onB A g' ∨ w.heap.size ≤ g') ∧ (∀ B : Nat → Prop, (∀ j, onB A j → B j) → Kf B w w') := by
  obtain ⟨i0, hi, hzz, hsz, hb⟩ := info_parts hinfo
  have hzc' := zeroCells_one z0
  have hbm : (n + m) * bytes ≤ 2000000 * 1000 := Nat.mul_le_mul (by omega) hby
  have hmb : m * bytes ≤ 2000000 * 1000 := Nat.le_trans (Nat.mul_le_mul_right _ (by omega)) hbm
  have hw : IntKind.i64.wrap (m : Int) = m := by rw [IntKind.wrap_i64]; omega
  have hneg : ¬ ((m : Int) < 0) := by omega
  have h48i : ¬ (281474976710656 < (m : Int) * (i0.bytes : Int)) := by
    rw [hb, ← Int.natCast_mul]; omega
  have hmne : m ≠ 0 := by omega
  -- what a new row is
  have grown : ∀ (old : Nat) (xs : List Value), xs.length = n → (∀ j, j < n → xs[j]? = some (f j)) →
      RowV e 1 (w.drew.alloc (.cells (xs.toArray ++ Builtin.zeroCells z.cells m ++ Builtin.zeroCells z.cells (grownCap w (n + m) old e - (n + m))) e)) w.heap.size (n + m) (grownCap w (n + m) old e) (fun j => if j < n then f j else z0) := by
    intro old xs hx hxf
    have hge := grownCap_ge w (n + m) old e
    have hcm := grownCap_le_maxLen w (n + m) old e (by unfold maxLen; omega)
    refine ⟨_, blk_new w.drew _, hge, hcm, ?_, fun j hj => ?_⟩
    · rw [hzc]
      simp only [Array.size_append, List.size_toArray, (hzc' _).1, hx]
      omega
    · rw [hzc]
      have hj : j < n + m := by omega
      show _ = some (if j < n then f j else z0)
      by_cases e1 : j < n
      · rw [if_pos e1, Array.append_assoc, Array.getElem?_append_left (by simp; omega), List.getElem?_toArray]; exact hxf j e1
      · rw [if_neg e1, Array.append_assoc, Array.getElem?_append_right (by simp; omega), Array.getElem?_append_left (by rw [(hzc' _).1]; simp; omega)]
        exact (hzc' m).2 _ (by simp; omega)
  have kfg : ∀ (o : Obj) (B : Nat → Prop), Kf B w (w.drew.alloc o) := fun o B => ((Kf.refl B w).drew).alloc o
  rcases hrow with ⟨rfl, rfl, rfl⟩ | ⟨g, rfl, hr⟩
  · have hrun := run_append_nil_zeros (P := P) w t tn ty e i0 z k kn ht htn hi hzz m h0 (by omega) (by omega) (by rw [hb]; omega)
    have := grown 0 [] rfl (fun j hj => by omega)
    simp only [Nat.zero_add, Array.empty_append] at this
    exact ⟨w.heap.size, _, _, by rw [Nat.zero_add]; exact hrun, by rw [Nat.zero_add]; simpa using this, .inr (Nat.le_refl _), fun B _ => kfg _ B⟩
  · by_cases hroom : n + m ≤ c
    · obtain ⟨f', hr', hf'⟩ := hr.wide
      have hst := run_storeCells_cells (P := P) g n (Builtin.zeroCells z.cells m).toList 0 w (fun j hj => by
        rw [hzc, Array.length_toList, (hzc' m).1] at hj
        rw [Nat.add_zero, hr'.cell (show n + j < c * 1 by omega)]; rfl) (fun j hj => hr'.free _) (fun v hv => by
        rw [hzc] at hv
        obtain ⟨j, hj, rfl⟩ := List.getElem_of_mem hv
        rw [Array.length_toList, (hzc' m).1] at hj
        have := (hzc' m).2 j hj
        rw [Array.getElem?_eq_getElem (by rw [(hzc' m).1]; exact hj)] at this
        injection this with this
        rw [Array.getElem_toList, this]; exact hz1)
      have hrun : (Builtin.append_ #[t, tn] ty #[.slice (some ⟨g, 0, none⟩) n c, .int k m]).run P w = .ok (.slice (some ⟨g, 0, none⟩) (n + m) c) (w.setCells g n (Builtin.zeroCells z.cells m).toList) := by
        rw [Nat.add_zero] at hst
        simp [Builtin.append_, run_underlying ht, run_underlying htn, sizeOf, typeInfo, zeroValue, hi, hzz, hsz, asInt, asIntOf, hw, hneg, h48i, hmne, hroom, Addr.add_lit, hst]
      refine ⟨g, c, _, hrun, ?_, .inl ((onB_some _ _).2 rfl), fun B hB => Kf.sets (hB g ((onB_some _ _).2 rfl)) _ (Kf.refl _ _) _⟩
      have h5 := hr'.sets (Builtin.zeroCells z.cells m).toList n (by rw [hzc, Array.length_toList, (hzc' m).1]; exact hroom)
      refine (h5.less hroom).congr fun j hj => ?_
      unfold putL
      rw [hzc, Array.length_toList, (hzc' m).1]
      have hj : j < n + m := by omega
      by_cases e1 : j < n
      · rw [if_pos e1, if_neg (by omega), hf' j e1]
      · rw [if_neg e1, if_pos (by omega), List.getD, Array.getElem?_toList, (hzc' m).2 _ (by omega)]; rfl
    · have hxs : ∀ j u, (cellsV f n)[j]? = some u → w.cell? ((⟨g, 0, none⟩ : Addr).add j) = some u := fun j u hu => by
        have hj : j < n := by
          have := (List.getElem?_eq_some_iff.1 hu).1
          rwa [cellsV_length] at this
        rw [cellsV_get _ hj] at hu
        injection hu with hu
        subst hu
        have ha : ((⟨g, 0, none⟩ : Addr).add j) = ⟨g, j, none⟩ := by unfold Addr.add; split <;> simp_all
        rw [ha]; exact hr.cell (by omega)
      have hfo := run_firstCells_some (P := P) w.drew i0.size n ⟨g, 0, none⟩ n c (cellsV f n) (by rw [cellsV_length, hsz, Nat.mul_one]) (by simpa using hxs)
      have h63' : ¬ (9223372036854775807 < ((n : Int) + (m : Int))) := by omega
      have hfit := growslice_fits (need := n + m) (old := c) (bytes := bytes) (by omega) (by omega)
      have h48' : ¬ (281474976710656 < Builtin.nextslicecap (n + m) c * i0.bytes) := by rw [hb]; omega
      have hrun : (Builtin.append_ #[t, tn] ty #[.slice (some ⟨g, 0, none⟩) n c, .int k m]).run P w = .ok (.slice (some ⟨w.heap.size, 0, none⟩) (n + m) (grownCap w (n + m) c e)) (w.drew.alloc (.cells ((cellsV f n).toArray ++ Builtin.zeroCells z.cells m ++ Builtin.zeroCells z.cells (grownCap w (n + m) c e - (n + m))) e)) := by
        rw [hsz] at hfo
        simp [Builtin.append_, run_underlying ht, run_underlying htn, sizeOf, typeInfo, zeroValue, hi, hzz, hsz, asInt, asIntOf, hw, hneg, h48i, hmne, hroom, h63', h48', Question.forced, hfo, newRow, grownCap]
      exact ⟨w.heap.size, _, _, hrun, grown c (cellsV f n) (cellsV_length _ _) (fun j hj => cellsV_get f hj), .inr (Nat.le_refl _), fun B _ => kfg _ B⟩
theorem wpList_append_zeros {P : Program} {ops : Array Oper} {rest : List Oper} {o : Oper} {a : Act} {Q : Exit → Act → World → Prop} (w : World) (hgd : o.guard = none) (s x : Operand) (t tn e : TypeId) (k kn : IntKind)
    (ho : o.op = .call { callee := .builtin .append, args := #[s, x], argTypes := #[t, tn] }) (ht : P.underlying t = some (.slice e)) (htn : P.underlying tn = some (.int kn)) {z z0 : Value} {bytes : Nat}
    (hinfo : (P.info? e).map (fun i => (i.zero, i.size, i.bytes)) = some (some z, 1, bytes)) (hzc : z.cells = #[z0]) (hz1 : z0.oneCell' = true) (hby : bytes ≤ 1000)
    (A : Option Addr) (n c : Nat) (f : Nat → Value) (hs : a.eval s = .slice A n c) (hrow : SlV e 1 w A n c f) (hn : n ≤ 1000000) (m : Nat) (hx : a.eval x = .int k m) (h0 : 0 < m) (hm : m ≤ 1000000)
    (h : ∀ g' c' w', RowV e 1 w' g' (n + m) c' (fun j => if j < n then f j else z0) → (onB A g' ∨ w.heap.size ≤ g') → (∀ B : Nat → Prop, (∀ j, onB A j → B j) → Kf B w w') → wpList P ops Q rest (a.put o.dst (.slice (some ⟨g', 0, none⟩) (n + m) c')) w') :
    wpList P ops Q (o :: rest) a w := by
  obtain ⟨g', c2, w', hr, hrow', hg', hgr⟩ := run_append_zeros (P := P) w t tn o.type e k kn ht htn hinfo hzc hz1 hby A n c f hrow hn m h0 hm
  exact wpList_append_run w hgd s x t tn ho _ _ hs hx _ _ hr (h g' c2 w' hrow' hg' hgr)
end Go.Proofs.YtkckodpfhlpkgaaGreat
namespace Go.Proofs.YtkckodpfhlpkgaaGreat
open Go.RowKit LitM TrailM EngM

theorem info_row : (Tryz.prog.info? 37).map (fun i => (i.zero, i.size, i.bytes)) = some (some (.slice none 0 0), 1, 24) := by kernel_rfl
theorem set_head {w : World} {b : Nat} {q : Pm} {S : Eng} {d : Nat} (h : E6 w b q S d) {w2 : World} (hb : w2.heap[b]? = w.heap[b]?) (i : Nat) (v : Value) :
    (w2.setCell ⟨b, i, none⟩ v).heap[b]? = some (.cells ((headV q S).setIfInBounds i v) 81 (0, 0)) := by
  rw [Lib.heap_setCell_same (hb.trans h.head)]
theorem E6.room {w : World} {b d : Nat} {q : Pm} {S : Eng} (h : E6 w b q S d) {m : Nat} {W w2 : World} (hW : Below w.heap.size w W) {g' c' : Nat} (hr : RowV 37 1 w2 g' (S.wa.length + m) c' (fun j => if j < S.wa.length then waC S.wa q.Wb j else .slice none 0 0)) (hg : onB q.Aw g' ∨ W.heap.size ≤ g') (hk : Kf (fun k => onB q.Aw k) W w2) :
    ∃ q', E6 (w2.setCell ⟨b, 3, none⟩ (.slice (some ⟨g', 0, none⟩) (S.wa.length + m) c')) b q' { S with wa := S.wa ++ List.replicate m [] } d ∧ Ext q q' w (w2.setCell ⟨b, 3, none⟩ (.slice (some ⟨g', 0, none⟩) (S.wa.length + m) c')) := by
  have hWs := hW.size
  have hks := hk.size
  have how := h.wa.2
  have hg' : q.own g' = .wrow ∨ w.heap.size ≤ g' := hg.imp (how g') (fun e => by omega)
  have hbl := h.lt
  have hnb : ¬ onB q.Aw b := fun e => by have := how b e; rw [h.ob] at this; cases this
  have K1 : Kf (fun k => q.own k = .wrow ∨ q.own k = .eng) w w2 := (Kf.of_below hW).trans hk (fun x hx => .inl (.inl (how x hx)))
  have K2 := K1.set (p := ⟨b, 3, none⟩) (.inl (.inr h.ob)) (.slice (some ⟨g', 0, none⟩) (S.wa.length + m) c')
  have hne : g' ≠ b := by
    rintro rfl
    rcases hg' with e | e
    · rw [h.ob] at e; cases e
    · omega
  have hc : Chg (fun o => o = .wrow ∨ o = .eng) q.own (relab q.own g' .wrow) w (w2.setCell ⟨b, 3, none⟩ (.slice (some ⟨g', 0, none⟩) (S.wa.length + m) c')) :=
    h.chg_new (O := fun o => o = .wrow ∨ o = .eng) K2 hg' (by simp only [World.setCell, Array.size_modify]; exact hr.lt)
  have hb2 : w2.heap[b]? = w.heap[b]? := (hk.block b (by omega) hnb).trans (hW.block b hbl)
  refine ⟨{ q with own := relab q.own g' .wrow, Aw := some ⟨g', 0, none⟩, cw := c', Wb := fun p => if p < S.wa.length then q.Wb p else (none, 0) }, ⟨?_, h.ob_kept hc, h.tr_kept hc (by simp), h.cl.kept hc (by simp), fun i hi => (h.lc i hi).kept hc (by simp), h.lo.kept hc (by simp), ⟨?_, fun j hj => ?_⟩, fun p hp => ?_, h.le.kept hc (by simp), fun k hk => (h.lb k hk).kept hc (by simp), hc.fr⟩, hc.ext (by simp) rfl rfl⟩
  · rw [set_head h hb2]
    unfold headV
    simp
  · have hl : (S.wa ++ List.replicate m ([] : List Nat)).length = S.wa.length + m := by simp
    show SlV _ 1 _ _ (S.wa ++ List.replicate m ([] : List Nat)).length _ _
    rw [hl]
    refine .inr ⟨g', rfl, (hr.other (fun e => hne e.symm) _).congr fun j hj => ?_⟩
    unfold waC waA
    dsimp only
    by_cases e : j < S.wa.length
    · rw [if_pos e, if_pos e, List.getD, List.getD, List.getElem?_append_left e]
    · rw [if_neg e, if_neg e, List.getD, List.getElem?_append_right (by omega), List.getElem?_replicate]
      rw [if_pos (by omega)]; rfl
  · show relab q.own g' .wrow j = .wrow
    rw [onB_some] at hj
    have hj : j = g' := hj
    subst hj
    exact relab_at _ _ _
  · simp only [List.length_append, List.length_replicate] at hp
    by_cases e : p < S.wa.length
    · have : waA (S.wa ++ List.replicate m []) p = waA S.wa p := by unfold waA; rw [List.getD, List.getD, List.getElem?_append_left e]
      show Part _ _ _ _ 1 (if p < S.wa.length then q.Wb p else (none, 0)).1 _ (if p < S.wa.length then q.Wb p else (none, 0)).2 _
      simp only
      rw [if_pos e, this]
      exact (h.wb p e).kept hc (by simp)
    · have : waA (S.wa ++ List.replicate m []) p = [] := by unfold waA; rw [List.getD, List.getElem?_append_right (by omega), List.getElem?_replicate, if_pos (by omega)]; rfl
      show Part _ _ _ _ 1 (if p < S.wa.length then q.Wb p else (none, 0)).1 _ (if p < S.wa.length then q.Wb p else (none, 0)).2 _
      simp only
      rw [if_neg e, this]
      exact Part.nil _ _ _ _ _ _
/-- What makeRoom leaves. -/
def RoomTo (w : World) (b : Nat) (q : Pm) (S : Eng) (d : Nat) (e : Ending) (w' : World) : Prop :=
  e = .returned (.tuple #[]) ∧ ∃ q', E6 w' b q' (roomF S) d ∧ Ext q q' w w'
set_option maxHeartbeats 3200000 in
set_option maxRecDepth 100000 in
theorem makeRoom_any {w : World} {b : Nat} {q : Pm} {S : Eng} {d : Nat} (h : E6 w b q S d) (hn : S.n ≤ 90000) (hwl : S.wa.length ≤ 2 * (S.n + 1)) :
    Calls Tryz.prog 55 #[.pointer (some ⟨b, 0, none⟩)] w (RoomTo w b q S d) := by
  have h0 := h.h0
  have h3 := h.h3
  have HV : Hid (∀ r, Calls Tryz.prog 71 #[.pointer (some ⟨q.bt, 0, none⟩)] (w.drewN r) fun e w' => e = .returned (.int .i64 (S.n : Int)) ∧ w' = w.drewN r) := fun r => by
    obtain ⟨F, gm, cm, ao, co, az, cz, hQ, hO, _⟩ := (h.drewN r).trail
    exact (tvars_nat (w.drewN r) hQ (by omega)).mono fun e w' ⟨h1, h2⟩ => ⟨h1, h2.symm⟩
  have HE : Hid (∀ r, E6 (w.drewN r) b q S d ∧ Ext q q w (w.drewN r)) := fun r => ⟨h.drewN r, ⟨fun _ _ => rfl, (Kf.refl _ _).drewN r, rfl⟩⟩
  have hcw := h.wa.1.bd
  obtain ⟨hcw1, hcw2⟩ := hcw
  have hbl := h.lt
  have hnb : ¬ onB q.Aw b := fun e => by have := h.wa.2 b e; rw [h.ob] at this; cases this
  have f3 := h.free 3
  unfold RoomTo
  by_cases hm : S.wa.length = 2 * (S.n + 1)
  · have HR : Hid (roomF S = S) := by unfold Hid roomF; rw [hm, Nat.sub_self]; simp
    rw [HR.out]
    have t0 : decide ((S.wa.length : Int) < 2 * ((S.n : Int) + 1)) = false := decide_eq_false (by omega)
    clear h hm HR
    generalize S.n = n at *
    generalize S.wa.length = nw at *
    go_enter Tryz.func55, Tryz.ntmps55
    go_upto_region 0 with (fail)
    go_quiet ((go_at_call 71; exact Calls.quiet_of_same (HV.out _)))
    go_wp2_with fail
    go_end0
    exact ⟨rfl, q, (HE.out _).1, (HE.out _).2⟩
  · obtain ⟨m, hmm⟩ : ∃ m, m = 2 * (S.n + 1) - S.wa.length := ⟨_, rfl⟩
    have t0 : decide ((S.wa.length : Int) < 2 * ((S.n : Int) + 1)) = true := decide_eq_true (by omega)
    have HM : Hid (2 * ((S.n : Int) + 1) - (S.wa.length : Int) = (m : Int)) := by unfold Hid; omega
    have hm1 : 0 < m := by omega
    have hm2 : m ≤ 200000 := by omega
    have HR : Hid (∀ (W w2 : World) (g' c' : Nat), Below w.heap.size w W → RowV 37 1 w2 g' (S.wa.length + m) c' (fun j => if j < S.wa.length then waC S.wa q.Wb j else .slice none 0 0) → (onB q.Aw g' ∨ W.heap.size ≤ g') → Kf (fun k => onB q.Aw k) W w2 →
        ∃ q', E6 (w2.setCell ⟨b, 3, none⟩ (.slice (some ⟨g', 0, none⟩) (S.wa.length + m) c')) b q' (roomF S) d ∧ Ext q q' w (w2.setCell ⟨b, 3, none⟩ (.slice (some ⟨g', 0, none⟩) (S.wa.length + m) c'))) := fun W w2 g' c' x1 x2 x3 x4 => by
      have := h.room x1 x2 x3 x4
      unfold roomF
      rw [← hmm]; exact this
    have HSL : Hid (∀ r, SlV 37 1 (w.drewN r) q.Aw S.wa.length q.cw (waC S.wa q.Wb)) := fun r => h.wa.1.same (fun _ _ => rfl)
    clear h hm hmm
    generalize S.n = n at *
    generalize S.wa.length = nw at *
    generalize waC S.wa q.Wb = fw at *
    go_enter Tryz.func55, Tryz.ntmps55
    go_upto_region 0 with (fail)
    go_quiet ((go_at_call 71; exact Calls.quiet_of_same (HV.out _)))
    go_wp2_with (at_builtin; refine wpList_append_zeros _ rfl _ _ 49 3 37 .i64 .i64 rfl Tryz.underlying49 Tryz.underlying3 info_row rfl rfl (by decide) q.Aw nw q.cw fw rfl (HSL.out nq) (by omega) m (by rw [← HM.out]; rfl) hm1 (by omega) ?_)
    intro g' c' w2 hr hg hk
    have hk2 := hk _ (fun j hj => hj)
    have hb2 : w2.heap[b]? = w.heap[b]? := hk2.block b hbl hnb
    obtain ⟨q', e1, e2⟩ := HR.out (w.drewN nq) w2 g' c' (by exact ⟨rfl, rfl, rfl, Nat.le_refl _, fun _ _ => rfl⟩) hr hg hk2
    have HX := Lib.hid (show _ ∧ _ from ⟨e1, e2⟩)
    have k3 : w2.cell? ⟨b, 3, none⟩ = some (.slice q.Aw nw q.cw) := (World.cell?_of_block (a := ⟨b, 3, none⟩) hb2).trans h3
    have kf : w2.frozen? ⟨b, 3, none⟩ = false := by rw [World.frozen?_of_block (a := ⟨b, 3, none⟩) hb2]; exact f3
    clear hr hg hk hk2 hb2 e1 e2
    go_wp2_with fail
    go_end0
    exact ⟨rfl, q', HX.out.1, HX.out.2⟩
end Go.Proofs.YtkckodpfhlpkgaaGreat
