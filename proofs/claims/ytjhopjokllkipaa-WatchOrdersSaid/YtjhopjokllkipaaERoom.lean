/- The contract of an engine's makeRoom: each literal has a list. -/
import Derived.Test.YtjhopjokllkipaaAppZ
import Derived.Deep.QuietTactic
import Derived.BigQuiet
import Derived.Deep.DeepCutAuto
namespace Go.Proofs.Ytjhopjokllkipaa
open Go.RowKit LitM TrailM EngM

theorem info_row : (Try.prog.info? 33).map (fun i => (i.zero, i.size, i.bytes)) = some (some (.slice none 0 0), 1, 24) := by kernel_rfl
theorem set_head {w : World} {b : Nat} {q : Pm} {S : Eng} {d : Nat} (h : E6 w b q S d) {w2 : World} (hb : w2.heap[b]? = w.heap[b]?) (i : Nat) (v : Value) :
    (w2.setCell ⟨b, i, none⟩ v).heap[b]? = some (.cells ((headV q S).setIfInBounds i v) 37 (0, 0)) := by
  rw [Lib.heap_setCell_same (hb.trans h.head)]
theorem E6.room {w : World} {b d : Nat} {q : Pm} {S : Eng} (h : E6 w b q S d) {m : Nat} {W w2 : World} (hW : Below w.heap.size w W) {g' c' : Nat} (hr : RowV 33 1 w2 g' (S.wa.length + m) c' (fun j => if j < S.wa.length then waC S.wa q.Wb j else .slice none 0 0)) (hg : onB q.Aw g' ∨ W.heap.size ≤ g') (hk : Kf (fun k => onB q.Aw k) W w2) :
    ∃ q', E6 (w2.setCell ⟨b, 3, none⟩ (.slice (some ⟨g', 0, none⟩) (S.wa.length + m) c')) b q' { S with wa := S.wa ++ List.replicate m [] } d ∧ Ext q q' w (w2.setCell ⟨b, 3, none⟩ (.slice (some ⟨g', 0, none⟩) (S.wa.length + m) c')) := by
  have hWs := hW.size
  have hks := hk.size
  have how := h.wa.2
  have hg' : q.own g' = .wrow ∨ w.heap.size ≤ g' := hg.imp (how g') (fun e => by omega)
  have hbl := h.lt
  have hnb : ¬ onB q.Aw b := fun e => by have := how b e; rw [h.ob] at this; cases this
  have K1 : Kf (fun k => q.own k = .wrow ∨ q.own k = .eng) w w2 := (Kf.of_below hW).trans hk (fun x hx => .inl (.inl (how x hx)))
  have K2 := K1.set (p := ⟨b, 3, none⟩) (.inl (.inr h.ob)) (.slice (some ⟨g', 0, none⟩) (S.wa.length + m) c')
  have hne : g' ≠ b := by
    rintro rfl
    rcases hg' with e | e
    · rw [h.ob] at e; cases e
    · omega
  have hc : Chg (fun o => o = .wrow ∨ o = .eng) q.own (relab q.own g' .wrow) w (w2.setCell ⟨b, 3, none⟩ (.slice (some ⟨g', 0, none⟩) (S.wa.length + m) c')) :=
    h.chg_new (O := fun o => o = .wrow ∨ o = .eng) K2 hg' (by simp only [World.setCell, Array.size_modify]; exact hr.lt)
  have hb2 : w2.heap[b]? = w.heap[b]? := (hk.block b (by omega) hnb).trans (hW.block b hbl)
  refine ⟨{ q with own := relab q.own g' .wrow, Aw := some ⟨g', 0, none⟩, cw := c', Wb := fun p => if p < S.wa.length then q.Wb p else (none, 0) }, ⟨?_, h.ob_kept hc, h.tr_kept hc (by simp), h.cl.kept hc (by simp), fun i hi => (h.lc i hi).kept hc (by simp), h.lo.kept hc (by simp), ⟨?_, fun j hj => ?_⟩, fun p hp => ?_, h.le.kept hc (by simp), fun k hk => (h.lb k hk).kept hc (by simp), hc.fr⟩, hc.ext (by simp) rfl rfl⟩
  · rw [set_head h hb2]
    unfold headV
    simp
  · have hl : (S.wa ++ List.replicate m ([] : List Nat)).length = S.wa.length + m := by simp
    show SlV _ 1 _ _ (S.wa ++ List.replicate m ([] : List Nat)).length _ _
    rw [hl]
    refine .inr ⟨g', rfl, (hr.other (fun e => hne e.symm) _).congr fun j hj => ?_⟩
    unfold waC waA
    dsimp only
    by_cases e : j < S.wa.length
    · rw [if_pos e, if_pos e, List.getD, List.getD, List.getElem?_append_left e]
    · rw [if_neg e, if_neg e, List.getD, List.getElem?_append_right (by omega), List.getElem?_replicate]
      rw [if_pos (by omega)]; rfl
  · show relab q.own g' .wrow j = .wrow
    rw [onB_some] at hj
    have hj : j = g' := hj
    subst hj
    exact relab_at _ _ _
  · simp only [List.length_append, List.length_replicate] at hp
    by_cases e : p < S.wa.length
    · have : waA (S.wa ++ List.replicate m []) p = waA S.wa p := by unfold waA; rw [List.getD, List.getD, List.getElem?_append_left e]
      show Part _ _ _ _ 1 (if p < S.wa.length then q.Wb p else (none, 0)).1 _ (if p < S.wa.length then q.Wb p else (none, 0)).2 _
      simp only
      rw [if_pos e, this]
      exact (h.wb p e).kept hc (by simp)
    · have : waA (S.wa ++ List.replicate m []) p = [] := by unfold waA; rw [List.getD, List.getElem?_append_right (by omega), List.getElem?_replicate, if_pos (by omega)]; rfl
      show Part _ _ _ _ 1 (if p < S.wa.length then q.Wb p else (none, 0)).1 _ (if p < S.wa.length then q.Wb p else (none, 0)).2 _
      simp only
      rw [if_neg e, this]
      exact Part.nil _ _ _ _ _ _
/-- What makeRoom leaves. -/
def RoomTo (w : World) (b : Nat) (q : Pm) (S : Eng) (d : Nat) (e : Ending) (w' : World) : Prop :=
  e = .returned (.tuple #[]) ∧ ∃ q', E6 w' b q' (roomF S) d ∧ Ext q q' w w'
set_option maxHeartbeats 3200000 in
set_option maxRecDepth 100000 in
theorem makeRoom_any {w : World} {b : Nat} {q : Pm} {S : Eng} {d : Nat} (h : E6 w b q S d) (hn : S.n ≤ 90000) (hwl : S.wa.length ≤ 2 * (S.n + 1)) :
    Calls Try.prog 32 #[.pointer (some ⟨b, 0, none⟩)] w (RoomTo w b q S d) := by
  have h0 := h.h0
  have h3 := h.h3
  have HV : Hid (∀ r, Calls Try.prog 26 #[.pointer (some ⟨q.bt, 0, none⟩)] (w.drewN r) fun e w' => e = .returned (.int .i64 (S.n : Int)) ∧ w' = w.drewN r) := fun r => by
    obtain ⟨F, gm, cm, ao, co, az, cz, hQ, hO, _⟩ := (h.drewN r).trail
    exact (tvars_nat (w.drewN r) hQ (by omega)).mono fun e w' ⟨h1, h2⟩ => ⟨h1, h2.symm⟩
  have HE : Hid (∀ r, E6 (w.drewN r) b q S d ∧ Ext q q w (w.drewN r)) := fun r => ⟨h.drewN r, ⟨fun _ _ => rfl, (Kf.refl _ _).drewN r, rfl⟩⟩
  have hcw := h.wa.1.bd
  obtain ⟨hcw1, hcw2⟩ := hcw
  have hbl := h.lt
  have hnb : ¬ onB q.Aw b := fun e => by have := h.wa.2 b e; rw [h.ob] at this; cases this
  have f3 := h.free 3
  unfold RoomTo
  by_cases hm : S.wa.length = 2 * (S.n + 1)
  · have HR : Hid (roomF S = S) := by unfold Hid roomF; rw [hm, Nat.sub_self]; simp
    rw [HR.out]
    have t0 : decide ((S.wa.length : Int) < 2 * ((S.n : Int) + 1)) = false := decide_eq_false (by omega)
    clear h hm HR
    generalize S.n = n at *
    generalize S.wa.length = nw at *
    go_enter Try.func32, Try.ntmps32
    go_upto_region 0 with (fail)
    go_quiet ((go_at_call 26; exact Calls.quiet_of_same (HV.out _)))
    go_wp2_with fail
    go_end0
    exact ⟨rfl, q, (HE.out _).1, (HE.out _).2⟩
  · obtain ⟨m, hmm⟩ : ∃ m, m = 2 * (S.n + 1) - S.wa.length := ⟨_, rfl⟩
    have t0 : decide ((S.wa.length : Int) < 2 * ((S.n : Int) + 1)) = true := decide_eq_true (by omega)
    have HM : Hid (2 * ((S.n : Int) + 1) - (S.wa.length : Int) = (m : Int)) := by unfold Hid; omega
    have hm1 : 0 < m := by omega
    have hm2 : m ≤ 200000 := by omega
    have HR : Hid (∀ (W w2 : World) (g' c' : Nat), Below w.heap.size w W → RowV 33 1 w2 g' (S.wa.length + m) c' (fun j => if j < S.wa.length then waC S.wa q.Wb j else .slice none 0 0) → (onB q.Aw g' ∨ W.heap.size ≤ g') → Kf (fun k => onB q.Aw k) W w2 →
        ∃ q', E6 (w2.setCell ⟨b, 3, none⟩ (.slice (some ⟨g', 0, none⟩) (S.wa.length + m) c')) b q' (roomF S) d ∧ Ext q q' w (w2.setCell ⟨b, 3, none⟩ (.slice (some ⟨g', 0, none⟩) (S.wa.length + m) c'))) := fun W w2 g' c' x1 x2 x3 x4 => by
      have := h.room x1 x2 x3 x4
      unfold roomF
      rw [← hmm]; exact this
    have HSL : Hid (∀ r, SlV 33 1 (w.drewN r) q.Aw S.wa.length q.cw (waC S.wa q.Wb)) := fun r => h.wa.1.same (fun _ _ => rfl)
    clear h hm hmm
    generalize S.n = n at *
    generalize S.wa.length = nw at *
    generalize waC S.wa q.Wb = fw at *
    go_enter Try.func32, Try.ntmps32
    go_upto_region 0 with (fail)
    go_quiet ((go_at_call 26; exact Calls.quiet_of_same (HV.out _)))
    go_wp2_with (at_builtin; refine wpList_append_zeros _ rfl _ _ 34 3 33 .i64 .i64 rfl Try.underlying34 Try.underlying3 info_row rfl rfl (by decide) q.Aw nw q.cw fw rfl (HSL.out nq) (by omega) m (by rw [← HM.out]; rfl) hm1 (by omega) ?_)
    intro g' c' w2 hr hg hk
    have hk2 := hk _ (fun j hj => hj)
    have hb2 : w2.heap[b]? = w.heap[b]? := hk2.block b hbl hnb
    obtain ⟨q', e1, e2⟩ := HR.out (w.drewN nq) w2 g' c' (by exact ⟨rfl, rfl, rfl, Nat.le_refl _, fun _ _ => rfl⟩) hr hg hk2
    have HX := Lib.hid (show _ ∧ _ from ⟨e1, e2⟩)
    have k3 : w2.cell? ⟨b, 3, none⟩ = some (.slice q.Aw nw q.cw) := (World.cell?_of_block (a := ⟨b, 3, none⟩) hb2).trans h3
    have kf : w2.frozen? ⟨b, 3, none⟩ = false := by rw [World.frozen?_of_block (a := ⟨b, 3, none⟩) hb2]; exact f3
    clear hr hg hk hk2 hb2 e1 e2
    go_wp2_with fail
    go_end0
    exact ⟨rfl, q', HX.out.1, HX.out.2⟩
end Go.Proofs.Ytjhopjokllkipaa
