/- A draft in memory: its block and its map; the contracts of level, has, reason. -/
import Derived.Test.YtfllhfhcmoemeaaGreatEGo
import Derived.Test.YtfllhfhcmoemeaaGreatLrnM
import Derived.Maps.OwnSet
import Derived.Maps.OwnOps
import Derived.Deep.RegionHeld3
namespace Go.Proofs.YtfllhfhcmoemeaaGreat
open Go.RowKit LitM TrailM EngM

theorem zero_int (w : World) : (zeroValue 3).run Tryz.prog w = .ok (.int .i64 0) w := by kernel_rfl
theorem wf32 {l : Int} (h0 : -2147483648 ≤ l) (h1 : l ≤ 2147483647) : (Go.Lit.int .i32 l).wf = true := by
  simp [Go.Lit.wf, IntKind.min, IntKind.max, IntKind.bits, IntKind.signed]; omega
theorem wf64 {l : Int} (h0 : -9223372036854775808 ≤ l) (h1 : l ≤ 9223372036854775807) : (Go.Lit.int .i64 l).wf = true := by
  simp [Go.Lit.wf, IntKind.min, IntKind.max, IntKind.bits, IntKind.signed]; omega
theorem of32 {l : Int} (h : (Go.Lit.int .i32 l).wf = true) : -2147483648 ≤ l ∧ l ≤ 2147483647 := by
  simpa [Go.Lit.wf, IntKind.min, IntKind.max, IntKind.bits, IntKind.signed] using h
theorem kd : Maps.Keyed Tryz.prog 29 := Maps.int_keyed Tryz.underlying29
theorem key32 {l : Int} (h : (Go.Lit.int .i32 l).wf = true) : keyOf Tryz.prog 29 (.int .i32 l) = some (.int .i32 l) := Maps.keyOf_int_mk Tryz.underlying29 h
theorem key_is {l : Int} (h : (Go.Lit.int .i32 l).wf = true) : WideAt.IsKeyLit (Go.Lit.int .i32 l) := kd.key (key32 h)
/-- A map's keys are the literals of M, each with its level. -/
structure KeysZ (S : Eng) (M : List Int) (D : DataW Unit) : Prop where
  has : ∀ l, (Go.Lit.int .i32 l).wf = true → Maps.has D (.int .i32 l) = decide (l ∈ M)
  at_ : ∀ l ∈ M, (Go.Lit.int .i32 l).wf = true ∧ ∀ z, D.atKey (.int .i32 l) z = .lit (.int .i64 (lvl S l))
def MapZ (w : World) (S : Eng) (bm n : Nat) (M : List Int) : Prop := ∃ D : DataW Unit, w.ownsMap Tryz.prog 29 (plainElem Tryz.prog 3) bm n D ∧ KeysZ S M D
section
variable {w w' : World} {S : Eng} {bm n : Nat} {M : List Int}
theorem MapZ.made (w : World) (S : Eng) : MapZ (w.alloc (.map #[] 0)) S w.heap.size 0 [] :=
  ⟨_, World.ownsMap_made _ _ _ _, fun l _ => by simp [Maps.has], fun l hl => absurd hl List.not_mem_nil⟩
theorem MapZ.lt (h : MapZ w S bm n M) : bm < w.heap.size := by obtain ⟨D, h, _⟩ := h; exact h.lt
theorem MapZ.same (h : MapZ w S bm n M) (hb : w'.heap[bm]? = w.heap[bm]?) : MapZ w' S bm n M := by
  obtain ⟨D, ⟨es, clock, h1, h2⟩, k⟩ := h
  exact ⟨D, ⟨es, clock, by rw [hb]; exact h1, h2⟩, k⟩
theorem MapZ.mono (h : MapZ w S bm n M) {n' : Nat} (hn : n ≤ n') : MapZ w S bm n' M := by
  obtain ⟨D, h, k⟩ := h
  exact ⟨D, h.mono hn, k⟩
theorem KeysZ.put {D : DataW Unit} (k : KeysZ S M D) (hD : Maps.IsMap D) {l : Int} (hl : (Go.Lit.int .i32 l).wf = true) : KeysZ S (M ++ [l]) (D.put (.int .i32 l) (.lit (.int .i64 (lvl S l)))) := by
  have hne : ∀ {y : Int}, y ≠ l → Go.Lit.int .i32 y ≠ .int .i32 l := fun h e => by injection e; contradiction
  refine ⟨fun y hy => ?_, fun y hy => ?_⟩
  · by_cases e : y = l
    · subst e; rw [Maps.has_put_same hD (key_is hl)]; simp
    · rw [Maps.has_put_other (hne e), k.has y hy]; simp [e]
  · by_cases e : y = l
    · subst e; exact ⟨hl, fun z => Maps.atKey_put_same hD (key_is hl) _ _⟩
    · have hy : y ∈ M := by simpa [e] using hy
      exact ⟨(k.at_ y hy).1, fun z => by rw [Maps.atKey_put_other (hne e)]; exact (k.at_ y hy).2 z⟩
theorem KeysZ.del {D : DataW Unit} (k : KeysZ S M D) {l : Int} : KeysZ S (M.filter fun y => decide (y ≠ l)) (D.del (.int .i32 l)) := by
  have hne : ∀ {y : Int}, y ≠ l → Go.Lit.int .i32 y ≠ .int .i32 l := fun h e => by injection e; contradiction
  refine ⟨fun y hy => ?_, fun y hy => ?_⟩
  · by_cases e : y = l
    · subst e; rw [Maps.has_del_same]; simp
    · rw [Maps.has_del_other (hne e), k.has y hy]; simp [e]
  · obtain ⟨hy, hne'⟩ := List.mem_filter.1 hy
    have e : y ≠ l := by simpa using hne'
    exact ⟨(k.at_ y hy).1, fun z => by rw [Maps.atKey_del_other (hne e)]; exact (k.at_ y hy).2 z⟩
end

/-- A draft's block. -/
def DrB (w : World) (b bd bm : Nat) (top left : Int) : Prop := w.heap[bd]? = some (.cells #[.pointer (some ⟨b, 0, none⟩), .map (some bm), .int .i64 top, .int .i64 left] 169 (0, 0))
section
variable {w w' : World} {b bd bm : Nat} {top left : Int}
theorem DrB.c0 (h : DrB w b bd bm top left) : w.cell? ⟨bd, 0, none⟩ = some (.pointer (some ⟨b, 0, none⟩)) := by rw [Lib.cell_of_heap h]; rfl
theorem DrB.c1 (h : DrB w b bd bm top left) : w.cell? ⟨bd, 1, none⟩ = some (.map (some bm)) := by rw [Lib.cell_of_heap h]; rfl
theorem DrB.c2 (h : DrB w b bd bm top left) : w.cell? ⟨bd, 2, none⟩ = some (.int .i64 top) := by rw [Lib.cell_of_heap h]; rfl
theorem DrB.c3 (h : DrB w b bd bm top left) : w.cell? ⟨bd, 3, none⟩ = some (.int .i64 left) := by rw [Lib.cell_of_heap h]; rfl
theorem DrB.free (h : DrB w b bd bm top left) (j : Nat) : w.frozen? ⟨bd, j, none⟩ = false := Lib.frozen_of_heap h j
theorem DrB.lt (h : DrB w b bd bm top left) : bd < w.heap.size := lt_of_heap h
theorem DrB.same (h : DrB w b bd bm top left) (hb : w'.heap[bd]? = w.heap[bd]?) : DrB w' b bd bm top left := by unfold DrB; rw [hb]; exact h
theorem DrB.setTop (h : DrB w b bd bm top left) (t : Int) : DrB (w.setCell ⟨bd, 2, none⟩ (.int .i64 t)) b bd bm t left := by unfold DrB; rw [Lib.heap_setCell_same h]; rfl
theorem DrB.setLeft (h : DrB w b bd bm top left) (t : Int) : DrB (w.setCell ⟨bd, 3, none⟩ (.int .i64 t)) b bd bm top t := by unfold DrB; rw [Lib.heap_setCell_same h]; rfl
theorem DrB.ne {S : Eng} {n : Nat} {M : List Int} (h : DrB w b bd bm top left) (k : MapZ w S bm n M) : bd ≠ bm := by
  rintro rfl
  obtain ⟨D, ⟨es, clock, h1, _⟩, _⟩ := k
  rw [h] at h1; cases h1
end
set_option maxHeartbeats 1600000 in
theorem dlevel_any {w : World} {b bd : Nat} {q : Pm} {S : Eng} {d : Nat} (h : E6 w b q S d) (hb : w.cell? ⟨bd, 0, none⟩ = some (.pointer (some ⟨b, 0, none⟩))) (hn : S.n ≤ 90000) (l : Int) (l0 : -2147483648 ≤ l) (l1 : l ≤ 2147483647) :
    Calls Tryz.prog 108 #[.pointer (some ⟨bd, 0, none⟩), .int .i32 l] w fun e w' => e = .returned (.int .i64 (lvl S l)) ∧ ∃ r, w' = w.drewN r := by
  have h0 := h.h0
  have HVq : Hid (∀ V : World, Calls Tryz.prog 44 #[.int .i32 l] V fun e w' => e = .returned (.int .i64 (varZ l)) ∧ w' = V) := fun V => (var_any l V l0 l1).mono fun e w' ⟨h1, h2⟩ => ⟨h1, h2.symm⟩
  have HV : Hid (∀ r, Calls Tryz.prog 56 #[.pointer (some ⟨q.bt, 0, none⟩), .int .i64 (varZ l)] (w.drewN r) fun e w' => e = .returned (.int .i64 (levZ S.L (varZ l))) ∧ w' = w.drewN r) := fun r => by
    obtain ⟨F, gm, cm, ao, co, az, cz, hQ, hO, _⟩ := (h.drewN r).trail
    exact (tlevel_nat (w.drewN r) hQ hO.pre (by omega) (varZ l)).mono fun e w' ⟨h1, h2⟩ => ⟨h1, h2.symm⟩
  clear h
  unfold lvl
  generalize levZ S.L (varZ l) = z at *
  generalize varZ l = v at *
  go_enter Tryz.func108, Tryz.ntmps108
  go_upto_region 1 with (fail)
  go_quiet (first | (go_at_call 44; exact Calls.quiet_of_same (HVq.out _)) | (go_at_call 56; exact Calls.quiet_of_same (HV.out _)))
  go_wp2_with fail
  go_ret
  exact ⟨rfl, _, rfl⟩
set_option maxHeartbeats 1600000 in
theorem dhas_any {w : World} {b bd bm n : Nat} {S : Eng} {M : List Int} {top left : Int} (h : DrB w b bd bm top left) (k : MapZ w S bm n M) (l : Int) (l0 : -2147483648 ≤ l) (l1 : l ≤ 2147483647) :
    Calls Tryz.prog 155 #[.pointer (some ⟨bd, 0, none⟩), .int .i32 l] w fun e w' => e = .returned (.bool (decide (l ∈ M))) ∧ w = w' := by
  have c1 := h.c1
  obtain ⟨D, hown, hk⟩ := k
  have hw := wf32 l0 l1
  have HH := Lib.hid (hk.has l hw)
  clear h hk
  go_enter Tryz.func155, Tryz.ntmps155
  go_wp2_with (at_lookup; refine wpList_lookup_own_ok_int _ rfl _ _ 167 rfl 29 3 .i64 kd Tryz.underlying167 Tryz.underlying3 (zero_int _) bm n D rfl hown _ _ rfl (key32 hw) ?_)
  intro c hat hwc
  rw [HH.out]
  go_wp2_with fail
  go_ret
  exact ⟨rfl, rfl⟩
theorem rea_there {S : Eng} (hI : Inv S) (v : Int) : thereB S (reaZ S.L v) = decide (0 ≤ reaZ S.L v) ∧ (0 ≤ reaZ S.L v → (reaZ S.L v).toNat < S.cs.length) ∧ (¬ 0 ≤ reaZ S.L v → reaL S v = []) ∧ (0 ≤ reaZ S.L v → reaL S v = (clA S.cs (reaZ S.L v).toNat).ls) := by
  unfold reaL
  refine ⟨?_, ?_, fun h => if_neg h, fun h => if_pos h⟩
  · by_cases h : 0 ≤ reaZ S.L v
    · have hf : ∃ x, findE S.L v = some x := by
        unfold reaZ at h
        split at h
        · exact ⟨_, by assumption⟩
        · omega
      obtain ⟨x, hx⟩ := hf
      have hr : reaZ S.L v = x.rs := by unfold reaZ; rw [hx]
      obtain ⟨j, hj, rfl⟩ := List.getElem_of_mem (findE_some hx).1
      rw [hr] at h ⊢
      obtain ⟨r, q1, q2, q3, _⟩ := hI.i8 j _ (List.getElem?_eq_getElem hj) h
      unfold thereB
      rw [q1]
      simp [q2, q3]
    · unfold thereB
      rw [decide_eq_false h]; simp
  · intro h
    have hf : ∃ x, findE S.L v = some x := by
      unfold reaZ at h
      split at h
      · exact ⟨_, by assumption⟩
      · omega
    obtain ⟨x, hx⟩ := hf
    have hr : reaZ S.L v = x.rs := by unfold reaZ; rw [hx]
    obtain ⟨j, hj, rfl⟩ := List.getElem_of_mem (findE_some hx).1
    rw [hr] at h ⊢
    obtain ⟨r, q1, q2, q3, _⟩ := hI.i8 j _ (List.getElem?_eq_getElem hj) h
    rw [q1]; simpa using q2
/-- What reason leaves. -/
def ReaTo (S : Eng) (v : Int) (w : World) (e : Ending) (w' : World) : Prop :=
  ∃ A c, e = .returned (.tuple #[.slice A (reaL S v).length c, .bool (decide (0 ≤ reaZ S.L v))]) ∧ SlV 29 1 w' A (reaL S v).length c (lsC (reaL S v)) ∧ (∀ k, onB A k → w.heap.size ≤ k) ∧ Below w.heap.size w w'
set_option maxHeartbeats 3200000 in
set_option maxRecDepth 100000 in
theorem dreason_any {w : World} {b bd : Nat} {q : Pm} {S : Eng} {d : Nat} (h : E6 w b q S d) (hI : Inv S) (hb : w.cell? ⟨bd, 0, none⟩ = some (.pointer (some ⟨b, 0, none⟩))) (hbl : bd < w.heap.size) (l : Int) (l0 : -2147483648 ≤ l) (l1 : l ≤ 2147483647) :
    Calls Tryz.prog 127 #[.pointer (some ⟨bd, 0, none⟩), .int .i32 l] w (ReaTo S (varZ l) w) := by
  have hn := hI.small.n
  have h0 := h.h0
  have HC : Hid (∀ W, Below w.heap.size w W → W.cell? ⟨bd, 0, none⟩ = some (.pointer (some ⟨b, 0, none⟩)) ∧ W.cell? ⟨b, 0, none⟩ = some (.pointer (some ⟨q.bt, 0, none⟩))) := fun W hW => ⟨(hW.cell (p := ⟨bd, 0, none⟩) hbl).trans hb, (h.below hW).h0⟩
  have HVq : Hid (∀ V : World, Calls Tryz.prog 44 #[.int .i32 l] V fun e w' => e = .returned (.int .i64 (varZ l)) ∧ w' = V) := fun V => (var_any l V l0 l1).mono fun e w' ⟨h1, h2⟩ => ⟨h1, h2.symm⟩
  have HV : Hid (∀ W, Below w.heap.size w W → Calls Tryz.prog 132 #[.pointer (some ⟨q.bt, 0, none⟩), .int .i64 (varZ l)] W fun e w' => e = .returned (.int .i64 (reaZ S.L (varZ l))) ∧ w' = W) := fun W hW => by
    obtain ⟨F, gm, cm, ao, co, az, cz, hQ, hO, _⟩ := (h.below hW).trail
    exact (treason_nat W hQ hO.pre (by omega) (varZ l)).mono fun e w' ⟨h1, h2⟩ => ⟨h1, h2.symm⟩
  obtain ⟨t1, t2, t3, t4⟩ := rea_there hI (varZ l)
  have HCl : Hid (∀ W, Below w.heap.size w W → Calls Tryz.prog 64 #[.pointer (some ⟨b, 0, none⟩), .int .i64 (reaZ S.L (varZ l))] W fun e w' => ∃ A c, e = .returned (.tuple #[.slice A (reaL S (varZ l)).length c, .bool (decide (0 ≤ reaZ S.L (varZ l)))]) ∧ Hid (SlV 29 1 w' A (reaL S (varZ l)).length c (lsC (reaL S (varZ l))) ∧ (∀ k, onB A k → w.heap.size ≤ k)) ∧ Below w.heap.size w w') := fun W hW => by
    refine (eclause_any (h.below hW) hI.small (reaZ S.L (varZ l))).mono fun e w' ht => ?_
    rcases ht with ⟨a, e1, rfl⟩ | ⟨a, A, c, e1, e2, e3, e4⟩
    · rw [t1] at a
      have hr := t3 (of_decide_eq_false a)
      refine ⟨none, 0, by rw [e1, hr, a]; rfl, ⟨?_, fun k hk => absurd hk (onB_none k)⟩, hW⟩
      rw [hr]; exact SlV.nil _ _ _ _
    · rw [t1] at a
      have hr := t4 (of_decide_eq_true a)
      refine ⟨A, c, by rw [e1, hr, a], ⟨by rw [hr]; exact e2, fun k hk => Nat.le_trans hW.size (e3 k hk)⟩, hW.trans (e4.mono hW.size)⟩
  unfold ReaTo
  clear h t1 t2 t3 t4
  generalize reaZ S.L (varZ l) = z at *
  generalize reaL S (varZ l) = rl at *
  generalize varZ l = v at *
  go_enter Tryz.func127, Tryz.ntmps127
  go_upto_region 1 with (fail)
  have hb0 : Below w.heap.size w w.drew := (Below.refl _ _).drew
  go_region_held3 (fun W => Below w.heap.size w W ∧ W.cell? ⟨bd, 0, none⟩ = some (.pointer (some ⟨b, 0, none⟩)) ∧ W.cell? ⟨b, 0, none⟩ = some (.pointer (some ⟨q.bt, 0, none⟩)))
    (first | exact ⟨by assumption, HC.out _ (by assumption)⟩ | exact ⟨hb0, hb, h0⟩)
    (first | (go_at_call 44; refine (HVq.out _).mono ?_; rintro e wq ⟨rfl, rfl⟩) | (go_at_call 132; with_reducible refine (HV.out _ (by assumption)).mono ?_; rintro e wq ⟨rfl, rfl⟩) | (go_at_call 64; with_reducible refine (HCl.out _ (by assumption)).mono ?_; rintro e wq ⟨A', c', rfl, hSl, hBq⟩))
  all_goals (go_wp2_with fail; go_ret2; exact ⟨A', c', rfl, hSl.out.1, hSl.out.2, by assumption⟩)
end Go.Proofs.YtfllhfhcmoemeaaGreat
