/- The contracts of an engine's present, leantOn; of a Remove that is refused. -/
import Derived.Test.YtjhopjokllkipaaEHas
import Derived.Test.YtjhopjokllkipaaEAno
namespace Go.Proofs.Ytjhopjokllkipaa
open Go.Shelf Go.RowKit Go.Lib Go.Sort LitM TrailM EngM

/-- Is there such a clause? -/
def thereB (S : Eng) (id : Int) : Bool := decide (0 ≤ id) && decide (id < (S.cs.length : Int)) && (clA S.cs id.toNat).pr
set_option maxHeartbeats 1600000 in
theorem present_any {w : World} {b : Nat} {q : Pm} {S : Eng} {d : Nat} (h : E6 w b q S d) (id : Int) : Calls Try.prog 40 #[.pointer (some ⟨b, 0, none⟩), .int .i64 id] w fun e w' => e = .returned (.bool (thereB S id)) ∧ w = w' := by
  have HL := Lib.hid (elen_any h)
  by_cases h1 : 0 ≤ id
  · have t1 : decide (0 ≤ id) = true := decide_eq_true h1
    by_cases h2 : id < (S.cs.length : Int)
    · have t2 : decide (id < (S.cs.length : Int)) = true := decide_eq_true h2
      obtain ⟨k, rfl⟩ := Int.eq_ofNat_of_zero_le h1
      have hk : k < S.cs.length := by omega
      obtain ⟨gc, hA, hrow, _⟩ := h.clsRow hk
      obtain ⟨c0, _⟩ := h.clCells hk hA
      have hcw := hrow.bd
      obtain ⟨hcw1, hcw2⟩ := hcw
      have g1 := h.h1
      rw [hA] at g1
      have HR : Hid (thereB S (k : Int) = (clA S.cs k).pr) := by unfold Hid thereB; rw [t1, t2]; simp
      rw [HR.out]
      clear h hrow HR
      generalize (clA S.cs k).pr = y at *
      generalize S.cs.length = n at *
      go_enter Try.func40, Try.ntmps40
      go_wp2_with fail
      refine HL.out.mono ?_
      rintro e w' ⟨rfl, rfl⟩
      go_wp2_with fail
      go_ret
      exact ⟨rfl, rfl⟩
    · have t2 : decide (id < (S.cs.length : Int)) = false := decide_eq_false h2
      have HR : Hid (thereB S id = false) := by unfold Hid thereB; rw [t2]; simp
      rw [HR.out]
      clear h HR
      generalize S.cs.length = n at *
      go_enter Try.func40, Try.ntmps40
      go_wp2_with fail
      refine HL.out.mono ?_
      rintro e w' ⟨rfl, rfl⟩
      go_wp2_with fail
      go_ret
      exact ⟨rfl, rfl⟩
  · have t1 : decide (0 ≤ id) = false := decide_eq_false h1
    have HR : Hid (thereB S id = false) := by unfold Hid thereB; rw [t1]; simp
    rw [HR.out]
    clear h HR HL
    go_enter Try.func40, Try.ntmps40
    go_wp2_with fail
    go_ret
    exact ⟨rfl, rfl⟩
set_option maxHeartbeats 1600000 in
theorem lean1_any {W : World} {b x0 x1 : Nat} {q : Pm} {S : Eng} {d : Nat} (h : E6 W b q S d) (hb : W.cell? ⟨x0, 0, none⟩ = some (.pointer (some ⟨b, 0, none⟩))) (id : Int) (hb1 : W.cell? ⟨x1, 0, none⟩ = some (.int .i64 id)) (hn : S.n ≤ 90000) (l : Int) (l0 : -2147483648 ≤ l) (l1 : l ≤ 2147483647) :
    Calls Try.prog 66 #[.int .i32 l, .pointer (some ⟨x0, 0, none⟩), .pointer (some ⟨x1, 0, none⟩)] W fun e w' => e = .returned (.bool (reaZ S.L (varZ l) == id)) ∧ ∃ r, w' = W.drewN r := by
  have h0 := h.h0
  have HVq : Hid (∀ V : World, Calls Try.prog 38 #[.int .i32 l] V fun e w' => e = .returned (.int .i64 (varZ l)) ∧ w' = V) := fun V => (var_any l V l0 l1).mono fun e w' ⟨h1, h2⟩ => ⟨h1, h2.symm⟩
  have HV : Hid (∀ r, Calls Try.prog 22 #[.pointer (some ⟨q.bt, 0, none⟩), .int .i64 (varZ l)] (W.drewN r) fun e w' => e = .returned (.int .i64 (reaZ S.L (varZ l))) ∧ w' = W.drewN r) := fun r => by
    obtain ⟨F, gm, cm, ao, co, az, cz, hQ, hO, _⟩ := (h.drewN r).trail
    exact (treason_nat (W.drewN r) hQ hO.pre (by omega) (varZ l)).mono fun e w' ⟨h1, h2⟩ => ⟨h1, h2.symm⟩
  clear h
  generalize reaZ S.L (varZ l) = z at *
  generalize varZ l = v at *
  go_enter Try.func66, Try.ntmps66
  go_upto_region 1 with (fail)
  go_quiet (first | (go_at_call 38; exact Calls.quiet_of_same (HVq.out _)) | (go_at_call 22; exact Calls.quiet_of_same (HV.out _)))
  go_wp2_with fail
  go_ret
  exact ⟨rfl, _, rfl⟩
theorem eg_lean1 : ∀ args w, (callFunc 66 args).run Try.prog w = .ok (.enter 66 args) w := enters_of Try.func66 (by kernel_rfl) rfl
/-- Is the clause a reason? -/
def leanB (S : Eng) (id : Nat) : Bool := (clA S.cs id).ls.any fun l => reaZ S.L (varZ l) == (id : Int)
theorem containsLean {w : World} {b x0 x1 : Nat} {q : Pm} {S : Eng} {d : Nat} (h : E6 w b q S d) {id : Nat} (hi : id < S.cs.length) (hls : ∀ x ∈ (clA S.cs id).ls, LitM.one x = true) (hll : (clA S.cs id).ls.length ≤ 90000) (hb : w.cell? ⟨x0, 0, none⟩ = some (.pointer (some ⟨b, 0, none⟩))) (hx : x0 < w.heap.size) (hb1 : w.cell? ⟨x1, 0, none⟩ = some (.int .i64 (id : Int))) (hx1 : x1 < w.heap.size) (hn : S.n ≤ 90000) :
    Calls Try.prog 55 #[.slice (q.Lc id).1 (clA S.cs id).ls.length (q.Lc id).2, .func (.func 66) #[] #[.pointer (some ⟨x0, 0, none⟩), .pointer (some ⟨x1, 0, none⟩)]] w fun e w' => e = .returned (.bool (leanB S id)) ∧ ∃ r, w' = w.drewN r := by
  have ha : allOne (clA S.cs id).ls = true := by unfold allOne; rw [List.all_eq_true]; exact hls
  have hlc := (h.lc id hi).1
  unfold leanB
  generalize (q.Lc id).1 = A at *
  generalize (q.Lc id).2 = c at *
  generalize (clA S.cs id).ls = xs at *
  obtain ⟨ls, rfl⟩ := to_L1 xs ha
  by_cases h0 : (ls.map L1.val).length = 0
  · have : ls = [] := by simpa using h0
    subst this
    have := AnyE.slices_ContainsFunc_empty Try.containsF A c (.func (.func 66) #[] #[.pointer (some ⟨x0, 0, none⟩), .pointer (some ⟨x1, 0, none⟩)]) w
    change Calls Try.prog 55 _ _ _ at this
    exact this.mono fun e w' ⟨he, hw⟩ => ⟨he, 0, hw⟩
  · obtain ⟨g, rfl, hr⟩ := hlc.row (by omega)
    have hp : PredAt Try.prog 66 #[.pointer (some ⟨x0, 0, none⟩), .pointer (some ⟨x1, 0, none⟩)] encL (fun x : L1 => reaZ S.L (varZ x.val) == (id : Int)) w := fun W x hW => by
      have := lean1_any (h.below hW) ((hW.cell (p := ⟨x0, 0, none⟩) hx).trans hb) (id : Int) ((hW.cell (p := ⟨x1, 0, none⟩) hx1).trans hb1) hn x.val x.bd.1 x.bd.2
      exact this
    have := AnyE.slices_ContainsFunc Try.containsF encL (fun x : L1 => reaZ S.L (varZ x.val) == (id : Int)) 66 #[.pointer (some ⟨x0, 0, none⟩), .pointer (some ⟨x1, 0, none⟩)] eg_lean1 g 0 (ls.map L1.val).length c ls w hp (by simp) (by omega) (fun j hj => by
      rw [Nat.zero_add, hr.cell (show j < (ls.map L1.val).length * 1 by simp; omega)]
      unfold lsC
      rw [getElem!_pos ls j hj, getD_lt (by simpa using hj)]
      simp [encL])
    change Calls Try.prog 55 _ _ _ at this
    refine this.mono fun e w' ⟨he, hw⟩ => ⟨?_, hw⟩
    rw [he]
    congr 2
    rw [List.take_of_length_le (by simp), List.any_map]; rfl
set_option maxHeartbeats 3200000 in
set_option maxRecDepth 100000 in
theorem leantOn_any {w : World} {b : Nat} {q : Pm} {S : Eng} {d : Nat} (h : E6 w b q S d) {id : Nat} (hi : id < S.cs.length) (hls : ∀ x ∈ (clA S.cs id).ls, LitM.one x = true) (hll : (clA S.cs id).ls.length ≤ 90000) (hn : S.n ≤ 90000) :
    Calls Try.prog 41 #[.pointer (some ⟨b, 0, none⟩), .int .i64 (id : Int)] w fun e w' => e = .returned (.bool (leanB S id)) ∧ Below w.heap.size w w' := by
  obtain ⟨W, hW⟩ : ∃ W, W = (w.alloc (.cells #[.pointer (some ⟨b, 0, none⟩)] 22)).alloc (.cells #[.int .i64 (id : Int)] 3) := ⟨_, rfl⟩
  have hB : Below w.heap.size w W := by rw [hW]; exact ((Below.refl _ _).alloc (Nat.le_refl _) _).alloc (by simp) _
  have hs : W.heap.size = w.heap.size + 2 := by rw [hW]; simp
  have hb0 : W.cell? ⟨w.heap.size, 0, none⟩ = some (.pointer (some ⟨b, 0, none⟩)) := by
    have e : W.heap[w.heap.size]? = some (.cells #[.pointer (some ⟨b, 0, none⟩)] 22 (0, 0)) := by
      rw [hW, Below.heap_alloc _ _ _ (by simp)]; exact blk_new _ _
    rw [Lib.cell_of_heap e]; rfl
  have hb1 : W.cell? ⟨w.heap.size + 1, 0, none⟩ = some (.int .i64 (id : Int)) := by
    have e : W.heap[w.heap.size + 1]? = some (.cells #[.int .i64 (id : Int)] 3 (0, 0)) := by
      have := blk_new (w.alloc (.cells #[.pointer (some ⟨b, 0, none⟩)] 22)) (.cells #[.int .i64 (id : Int)] 3)
      rw [hW]; simpa using this
    rw [Lib.cell_of_heap e]; rfl
  have hE := h.below hB
  obtain ⟨gc, hA, hrow, _⟩ := hE.clsRow hi
  obtain ⟨_, c1, _⟩ := hE.clCells hi hA
  have hcw := hrow.bd
  obtain ⟨hcw1, hcw2⟩ := hcw
  have g1 := hE.h1
  rw [hA] at g1
  have HC : Hid (∀ r, Calls Try.prog 55 #[.slice (q.Lc id).1 (clA S.cs id).ls.length (q.Lc id).2, .func (.func 66) #[] #[.pointer (some ⟨w.heap.size, 0, none⟩), .pointer (some ⟨w.heap.size + 1, 0, none⟩)]] (W.drewN r) fun e w' => e = .returned (.bool (leanB S id)) ∧ ∃ m, w' = (W.drewN r).drewN m) := fun r =>
    containsLean (hE.drewN r) hi hls hll hb0 (by show w.heap.size < W.heap.size; omega) hb1 (by show w.heap.size + 1 < W.heap.size; omega) hn
  have HB := Lib.hid hB
  have HW := Lib.hid hW
  clear h hE hrow hB hW
  generalize leanB S id = y at *
  generalize S.cs.length = n at *
  go_enter Try.func41, Try.ntmps41
  go_upto_region 1 with (fail)
  rw [← HW.out]
  go_quiet ((go_at_call 55; exact Calls.quiet_of (HC.out _)))
  go_wp2_with fail
  go_ret
  exact ⟨rfl, below_drewN HB.out _⟩
end Go.Proofs.Ytjhopjokllkipaa
