/- slices.Clone of a clause's literals, a row of the call's own; newClause. The contract of an engine's has: are all of them literals of its variables? And what asks for its length, its clauses. -/
import Derived.Test.YtkckodpfhlpkgaaGreatEngU
import Derived.Test.YtkckodpfhlpkgaaGreatLitD
import Derived.Test.YtkckodpfhlpkgaaGreatTrailT
import Derived.Deep.QuietTactic
import Derived.BigQuiet
import Derived.Deep.DeepCutAuto
import Derived.Shelf.SlicesE.IndexFunc
namespace Go.Proofs.YtkckodpfhlpkgaaGreat
open Go.Shelf Go.RowKit Go.Lib LitM TrailM EngM

/-- What a copy leaves: literals in a block of the call's own, or nil. -/
def CopyTo (n : Nat) (xs : List Int) (w : World) (v : Value) (w' : World) : Prop :=
  ∃ A c, v = .slice A n c ∧ SlV 34 1 w' A n c (lsC xs) ∧ (∀ k, onB A k → w.heap.size ≤ k) ∧ Below w.heap.size w w'
theorem copy_any (A : Option Addr) (n c : Nat) (xs : List Int) (w : World) (h : Rd .i32 w w.heap.size A n xs) (hA : A = none → n = 0) (hn : n * 4 ≤ 140737488355328) :
    Calls Tryz.prog 61 #[.slice A n c] w fun e w' => ∃ v, e = .returned v ∧ CopyTo n xs w v w' := by
  cases A with
  | none =>
    have hn0 := hA rfl
    subst hn0
    have hc1 := AnyE.slices_Clone_nil Tryz.cloneL 0 c w
    change Calls Tryz.prog 61 _ _ _ at hc1
    refine hc1.mono fun e w' ⟨he, hw⟩ => ⟨_, he, none, 0, rfl, SlV.nil _ _ _ _, fun k hk => absurd hk (onB_none k), ?_⟩
    subst hw; exact Below.refl _ _
  | some ad =>
    refine (clone_some ad n c xs w h hn).mono fun e w' ⟨v, he, hown, _, hb⟩ => ⟨v, he, ?_⟩
    rcases hown.2 with ⟨rfl, h0⟩ | ⟨g, cap, cur, rfl, hg, hh, q1, q2, q3, q4⟩
    · subst h0
      exact ⟨none, 0, rfl, SlV.nil _ _ _ _, fun k hk => absurd hk (onB_none k), hb⟩
    · refine ⟨some ⟨g, 0, none⟩, cap, rfl, .inr ⟨g, rfl, ?_⟩, fun k hk => by rw [onB_some] at hk; rw [hk]; exact hg, hb⟩
      refine ⟨cur, hh, q1, q2, q3, fun j hj => ?_⟩
      have hl := h.len
      rw [← Array.getElem?_toList, ← List.getElem?_take_of_lt hj, q4]
      unfold lsC
      rw [List.getElem?_map, List.getD, List.getElem?_eq_getElem (by omega)]; rfl
/-- What newClause leaves. -/
def ClTo (n : Nat) (xs : List Int) (w : World) (e : Ending) (w' : World) : Prop :=
  ∃ A c, e = .returned (.agg #[.bool true, .slice A n c, .int .i32 0, .int .i32 0, .int .i64 0]) ∧ SlV 34 1 w' A n c (lsC xs) ∧ (∀ k, onB A k → w.heap.size ≤ k) ∧ Below w.heap.size w w'
set_option maxHeartbeats 1600000 in
set_option maxRecDepth 100000 in
theorem newClause_any (A : Option Addr) (n c : Nat) (xs : List Int) (w : World) (h : Rd .i32 w w.heap.size A n xs) (hA : A = none → n = 0) (hn : n ≤ 1000000) :
    Calls Tryz.prog 84 #[.slice A n c] w (ClTo n xs w) := by
  have hr : Rd .i32 (w.alloc (.cells #[.bool false, .slice none 0 0, .int .i32 0, .int .i32 0, .int .i64 0] 112)) (w.alloc (.cells #[.bool false, .slice none 0 0, .int .i32 0, .int .i32 0, .int .i64 0] 112)).heap.size A n xs := by
    have := h.alloc (Nat.le_refl _) (.cells #[.bool false, .slice none 0 0, .int .i32 0, .int .i32 0, .int .i64 0] 112)
    exact ⟨this.len, fun h0 => by obtain ⟨b, o, e, hb, hc⟩ := this.at_ h0; exact ⟨b, o, e, by simp; omega, hc⟩⟩
  have HC := Lib.hid (copy_any A n c xs _ hr hA (by omega))
  clear h hr
  go_enter Tryz.func84, Tryz.ntmps84
  go_wp2_with fail
  refine HC.out.mono ?_
  rintro e w1 ⟨v, rfl, A', c', rfl, hS, hon, hb⟩
  have hb0 : w1.heap[w.heap.size]? = some (.cells #[.bool false, .slice none 0 0, .int .i32 0, .int .i32 0, .int .i64 0] 112 (0, 0)) := by
    rw [hb.block w.heap.size (by simp)]; exact blk_new _ _
  obtain ⟨W, hW⟩ : ∃ W, W = ((((w1.setCell ⟨w.heap.size, 0, none⟩ (.bool true)).setCell ⟨w.heap.size, 1, none⟩ (.slice A' n c')).setCell ⟨w.heap.size, 2, none⟩ (.int .i32 0)).setCell ⟨w.heap.size, 3, none⟩ (.int .i32 0)).setCell ⟨w.heap.size, 4, none⟩ (.int .i64 0) := ⟨_, rfl⟩
  have h5 : W.heap[w.heap.size]? = some (.cells #[.bool true, .slice A' n c', .int .i32 0, .int .i32 0, .int .i64 0] 112 (0, 0)) := by
    rw [hW, Lib.heap_setCell_same (Lib.heap_setCell_same (Lib.heap_setCell_same (Lib.heap_setCell_same (Lib.heap_setCell_same hb0 _) _) _) _) _]
    rfl
  have p0 : W.cell? ⟨w.heap.size, 0, none⟩ = some (.bool true) := by rw [Lib.cell_of_heap h5]; rfl
  have p1 : W.cell? ⟨w.heap.size, 1, none⟩ = some (.slice A' n c') := by rw [Lib.cell_of_heap h5]; rfl
  have p2 : W.cell? ⟨w.heap.size, 2, none⟩ = some (.int .i32 0) := by rw [Lib.cell_of_heap h5]; rfl
  have p3 : W.cell? ⟨w.heap.size, 3, none⟩ = some (.int .i32 0) := by rw [Lib.cell_of_heap h5]; rfl
  have p4 : W.cell? ⟨w.heap.size, 4, none⟩ = some (.int .i64 0) := by rw [Lib.cell_of_heap h5]; rfl
  have hb1 : Below w.heap.size w w1 := ((Below.refl _ _).alloc (Nat.le_refl _) _).trans (hb.mono (by simp))
  have HFIN : Hid (ClTo n xs w (.returned (.agg #[.bool true, .slice A' n c', .int .i32 0, .int .i32 0, .int .i64 0])) W) := by
    have hne : ∀ k, onB A' k → w.heap.size + 1 ≤ k := fun k hk => by have := hon k hk; simpa using this
    have hno : ¬ onB A' w.heap.size := fun e => by have := hne _ e; omega
    refine ⟨A', c', rfl, ?_, fun k hk => by have := hne k hk; omega, ?_⟩
    · rw [hW]
      exact ((((hS.other hno _).other hno _).other hno _).other hno _).other hno _
    · rw [hW]
      exact ((((hb1.setCell (Nat.le_refl _) _).setCell (Nat.le_refl _) _).setCell (Nat.le_refl _) _).setCell (Nat.le_refl _) _).setCell (Nat.le_refl _) _
  have c0 := Lib.cell_of_heap hb0 0
  have c1 := Lib.cell_of_heap hb0 1
  have c2 := Lib.cell_of_heap hb0 2
  have c3 := Lib.cell_of_heap hb0 3
  have c4 := Lib.cell_of_heap hb0 4
  have cf := Lib.frozen_of_heap hb0
  simp at c0 c1 c2 c3 c4
  have HW := Lib.hid hW
  clear hb hb1 hS hon h5 hW hb0
  go_wp2_with fail
  rw [← HW.out]
  refine bodyPost_ret (v := .agg #[.bool true, .slice A' n c', .int .i32 0, .int .i32 0, .int .i64 0]) (by simp [results, Tryz.results84, go_sem, p0, p1, p2, p3, p4]) rfl ?_
  exact HFIN.out
end Go.Proofs.YtkckodpfhlpkgaaGreat
namespace Go.Proofs.YtkckodpfhlpkgaaGreat
open Go.Shelf Go.RowKit Go.Lib Go.Sort LitM TrailM EngM

set_option maxHeartbeats 1600000 in
theorem elen_any {w : World} {b : Nat} {q : Pm} {S : Eng} {d : Nat} (h : E6 w b q S d) : Calls Tryz.prog 77 #[.pointer (some ⟨b, 0, none⟩)] w fun e w' => e = .returned (.int .i64 (S.cs.length : Int)) ∧ w = w' := by
  have h1 := h.h1
  clear h
  go_enter Tryz.func77, Tryz.ntmps77
  go_wp2
  go_ret
  exact ⟨rfl, rfl⟩
/-- Are all literals of variables that there are? -/
def fitsB (n : Nat) (xs : List Int) : Bool := xs.all fun x => LitM.one x && decide (varZ x ≤ (n : Int))
theorem fitsB_iff {n : Nat} {xs : List Int} : fitsB n xs = true ↔ ∀ x ∈ xs, LitM.one x = true ∧ varZ x ≤ (n : Int) := by
  unfold fitsB
  rw [List.all_eq_true]
  simp only [Bool.and_eq_true, decide_eq_true_eq]
set_option maxHeartbeats 1600000 in
theorem has1_any {W : World} {b x0 : Nat} {q : Pm} {S : Eng} {d : Nat} (h : E6 W b q S d) (hb : W.cell? ⟨x0, 0, none⟩ = some (.pointer (some ⟨b, 0, none⟩))) (hn : S.n ≤ 90000) (l : Int) (l0 : -2147483648 ≤ l) (l1 : l ≤ 2147483647) :
    Calls Tryz.prog 94 #[.int .i32 l, .pointer (some ⟨x0, 0, none⟩)] W fun e w' => e = .returned (.bool (decide ((S.n : Int) < varZ l))) ∧ ∃ r, w' = W.drewN r := by
  have h0 := h.h0
  have HVq : Hid (∀ V : World, Calls Tryz.prog 28 #[.int .i32 l] V fun e w' => e = .returned (.int .i64 (varZ l)) ∧ w' = V) := fun V => (var_any l V l0 l1).mono fun e w' ⟨h1, h2⟩ => ⟨h1, h2.symm⟩
  have HV : Hid (∀ r, Calls Tryz.prog 71 #[.pointer (some ⟨q.bt, 0, none⟩)] (W.drewN r) fun e w' => e = .returned (.int .i64 (S.n : Int)) ∧ w' = W.drewN r) := fun r => by
    obtain ⟨F, gm, cm, ao, co, az, cz, hQ, hO, _⟩ := (h.drewN r).trail
    exact (tvars_nat (W.drewN r) hQ (by omega)).mono fun e w' ⟨h1, h2⟩ => ⟨h1, h2.symm⟩
  clear h
  generalize S.n = n at *
  generalize varZ l = v at *
  go_enter Tryz.func94, Tryz.ntmps94
  go_upto_region 1 with (fail)
  go_quiet (first | (go_at_call 28; exact Calls.quiet_of_same (HVq.out _)) | (go_at_call 71; exact Calls.quiet_of_same (HV.out _)))
  go_wp2_with fail
  go_ret
  exact ⟨rfl, _, rfl⟩
theorem eg_has1 : ∀ args w, (callFunc 94 args).run Tryz.prog w = .ok (.enter 94 args) w := enters_of Tryz.func94 (by kernel_rfl) rfl
/-- ContainsFunc by has$1. -/
theorem containsHas {w : World} {b x0 : Nat} {q : Pm} {S : Eng} {d : Nat} (h : E6 w b q S d) (hb : w.cell? ⟨x0, 0, none⟩ = some (.pointer (some ⟨b, 0, none⟩))) (hx : x0 < w.heap.size) (hn : S.n ≤ 90000) (A : Option Addr) (n c B : Nat) (xs : List Int) (hr : Rd .i32 w B A n xs) (ha : allOne xs = true) (hm : n ≤ 9223372036854775807) :
    Calls Tryz.prog 26 #[.slice A n c, .func (.func 94) #[] #[.pointer (some ⟨x0, 0, none⟩)]] w fun e w' => e = .returned (.bool (xs.any fun x => decide ((S.n : Int) < varZ x))) ∧ ∃ r, w' = w.drewN r := by
  obtain ⟨ls, rfl⟩ := to_L1 xs ha
  have hl := hr.len
  by_cases h0 : n = 0
  · subst h0
    have : ls = [] := by simpa using hl
    subst this
    have := AnyE.slices_ContainsFunc_empty Tryz.containsF A c (.func (.func 94) #[] #[.pointer (some ⟨x0, 0, none⟩)]) w
    change Calls Tryz.prog 26 _ _ _ at this
    exact this.mono fun e w' ⟨he, hw⟩ => ⟨he, 0, hw⟩
  · obtain ⟨g, o, rfl, hgB, hc⟩ := hr.at_ (by omega)
    have hp : PredAt Tryz.prog 94 #[.pointer (some ⟨x0, 0, none⟩)] encL (fun x : L1 => decide ((S.n : Int) < varZ x.val)) w := fun W x hW => by
      have := has1_any (h.below hW) ((hW.cell (p := ⟨x0, 0, none⟩) hx).trans hb) hn x.val x.bd.1 x.bd.2
      exact this
    have := AnyE.slices_ContainsFunc Tryz.containsF encL (fun x : L1 => decide ((S.n : Int) < varZ x.val)) 94 #[.pointer (some ⟨x0, 0, none⟩)] eg_has1 g o n c ls w hp (by simp at hl; omega) hm (fun j hj => by
      rw [hc j (by simp at hl; omega)]
      rw [getElem!_pos ls j hj, getD_lt (by simpa using hj)]
      simp [encL])
    change Calls Tryz.prog 26 _ _ _ at this
    refine this.mono fun e w' ⟨he, hw⟩ => ⟨?_, hw⟩
    rw [he]
    congr 2
    rw [List.take_of_length_le (by simp at hl; omega), List.any_map]; rfl
set_option maxHeartbeats 3200000 in
set_option maxRecDepth 100000 in
theorem has_any {w : World} {b : Nat} {q : Pm} {S : Eng} {d : Nat} (h : E6 w b q S d) (hn : S.n ≤ 90000) (A : Option Addr) (n c : Nat) (xs : List Int) (hr : Rd .i32 w w.heap.size A n xs) (h32 : In32 xs) (hm : n ≤ 9223372036854775807) :
    Calls Tryz.prog 83 #[.pointer (some ⟨b, 0, none⟩), .slice A n c] w fun e w' => e = .returned (.bool (fitsB S.n xs)) ∧ Below w.heap.size w w' := by
  obtain ⟨W, hW⟩ : ∃ W, W = w.alloc (.cells #[.pointer (some ⟨b, 0, none⟩)] 64) := ⟨_, rfl⟩
  have hB : Below w.heap.size w W := by rw [hW]; exact (Below.refl _ _).alloc (Nat.le_refl _) _
  have hs : W.heap.size = w.heap.size + 1 := by rw [hW]; simp
  have hr1 : Rd .i32 W W.heap.size A n xs := ⟨hr.len, fun h0 => by
    obtain ⟨g, o, e, hg, hc⟩ := hr.at_ h0
    exact ⟨g, o, e, by omega, fun j hj => (hB.cell (p := ⟨g, o + j, none⟩) hg).trans (hc j hj)⟩⟩
  have hbx : W.cell? ⟨w.heap.size, 0, none⟩ = some (.pointer (some ⟨b, 0, none⟩)) := by rw [hW, Lib.cell_of_heap (blk_new w _)]; rfl
  have HR := Lib.hid (right_any A n c xs W hr1 h32 hm)
  have HB := Lib.hid hB
  have HW := Lib.hid hW
  by_cases ha : allOne xs = true
  · have HC := Lib.hid (containsHas (h.below hB) hbx (by omega) hn A n c W.heap.size xs hr1 ha hm)
    have HE : Hid (fitsB S.n xs = !(xs.any fun x => decide ((S.n : Int) < varZ x))) := by
      unfold Hid
      rw [Bool.eq_iff_iff, fitsB_iff]
      simp only [Bool.not_eq_true', List.any_eq_false, decide_eq_true_eq]
      constructor
      · intro hx x hm; have := (hx x hm).2; omega
      · intro hx x hm; exact ⟨allOne_mem ha hm, by have := hx x hm; omega⟩
    rw [HE.out]
    rw [ha] at HR
    clear h hr hr1 hW hB hbx
    generalize (xs.any fun x => decide ((S.n : Int) < varZ x)) = y at *
    go_enter Tryz.func83, Tryz.ntmps83
    go_upto_region 1 with (fail)
    rw [← HW.out]
    go_wp2_with ((go_at_call 45; refine HR.out.mono ?_; rintro e w' ⟨rfl, rfl⟩))
    refine HC.out.mono ?_
    rintro e w' ⟨rfl, r, rfl⟩
    go_wp2_with fail
    go_ret
    exact ⟨rfl, below_drewN HB.out r⟩
  · have ha : allOne xs = false := by simpa using ha
    have HE : Hid (fitsB S.n xs = false) := by
      unfold Hid
      rw [Bool.eq_false_iff]
      intro e
      have := fitsB_iff.1 e
      have h2 : allOne xs = true := by unfold allOne; rw [List.all_eq_true]; exact fun x hx => (this x hx).1
      rw [h2] at ha; cases ha
    rw [HE.out]
    rw [ha] at HR
    clear h hr hr1 hW hB hbx
    go_enter Tryz.func83, Tryz.ntmps83
    go_upto_region 1 with (fail)
    rw [← HW.out]
    go_wp2_with ((go_at_call 45; refine HR.out.mono ?_; rintro e w' ⟨rfl, rfl⟩))
    go_ret
    exact ⟨rfl, HB.out⟩
end Go.Proofs.YtkckodpfhlpkgaaGreat
