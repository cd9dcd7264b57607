/- The contracts of a draft's spares, and of the order of what is learnt. -/
import Derived.Test.YtdecejhobefefaaLrnR
namespace Go.Proofs.Ytdecejhobefefaa
open Go.Shelf Go.RowKit Go.Lib Go.Sort LitM TrailM EngM

/-- slices.ContainsFunc at literals, by a closure that reads. -/
theorem contains_lits {w : World} {A : Option Addr} {n c : Nat} {xs : List Int} (f : Nat) (cb : Array Value) (p : Int → Bool) (eg : ∀ args w, (callFunc f args).run Try.prog w = .ok (.enter f args) w) (ha : allOne xs = true) (hs : SlV 43 1 w A n c (lsC xs)) (hl : xs.length = n) (hn : n ≤ 100000)
    (hp : ∀ (W : World) (x : L1), Below w.heap.size w W → Calls Try.prog f (#[.int .i32 x.val] ++ cb) W fun e w' => e = .returned (.bool (p x.val)) ∧ ∃ r, w' = W.drewN r) :
    Calls Try.prog 69 #[.slice A n c, .func (.func f) #[] cb] w fun e w' => e = .returned (.bool (xs.any p)) ∧ ∃ r, w' = w.drewN r := by
  obtain ⟨ls, rfl⟩ := to_L1 xs ha
  by_cases h0 : n = 0
  · subst h0
    have : ls = [] := by simpa using hl
    subst this
    have := AnyE.slices_ContainsFunc_empty Try.containsF A c (.func (.func f) #[] cb) w
    change Calls Try.prog 69 _ _ _ at this
    exact this.mono fun e w' ⟨he, hw⟩ => ⟨he, 0, hw⟩
  · obtain ⟨g, rfl, hr⟩ := hs.row (by omega)
    have hpa : PredAt Try.prog f cb encL (fun x : L1 => p x.val) w := fun W x hW => hp W x hW
    have := AnyE.slices_ContainsFunc Try.containsF encL (fun x : L1 => p x.val) f cb eg g 0 n c ls w hpa (by simp at hl; omega) (by omega) (fun j hj => by
      rw [Nat.zero_add, hr.cell (show j < n * 1 by simp at hl; omega)]
      unfold lsC
      rw [getElem!_pos ls j hj, getD_lt (by simpa using hj)]
      simp [encL])
    change Calls Try.prog 69 _ _ _ at this
    refine this.mono fun e w' ⟨he, hw⟩ => ⟨?_, hw⟩
    rw [he]
    congr 2
    simp at hl
    rw [List.take_of_length_le (by omega), List.any_map]; rfl
/-- What the closure of spares asks of a literal. -/
def whyB (S : Eng) (M : List Int) (l y : Int) : Bool := decide (y ≠ -l) && decide (0 < lvl S y) && !decide (y ∈ M)
set_option maxHeartbeats 3200000 in
set_option maxRecDepth 100000 in
theorem spares1_any {W : World} {b bd bm n xl xd : Nat} {q : Pm} {S : Eng} {d : Nat} {M : List Int} {top left : Int} (h : E6 W b q S d) (hn : S.n ≤ 90000) (hD : DrB W b bd bm top left) (hM : MapZ W S bm n M) (l : Int) (hl : LitM.one l = true) (c0 : W.cell? ⟨xl, 0, none⟩ = some (.int .i32 l)) (c1 : W.cell? ⟨xd, 0, none⟩ = some (.pointer (some ⟨bd, 0, none⟩))) (y : Int) (y0 : -2147483648 ≤ y) (y1 : y ≤ 2147483647) :
    Calls Try.prog 102 #[.int .i32 y, .pointer (some ⟨xl, 0, none⟩), .pointer (some ⟨xd, 0, none⟩)] W fun e w' => e = .returned (.bool (whyB S M l y)) ∧ ∃ r, w' = W.drewN r := by
  have ho := (one_iff l).1 hl
  have HN : Hid (Calls Try.prog 79 #[.int .i32 l] W fun e w' => e = .returned (.int .i32 (-l)) ∧ W = w') := by
    have := not_any l W (by omega) (by omega)
    rw [not_one hl] at this; exact this
  have HL := Lib.hid (dlevel_any h hD.c0 hn y y0 y1)
  have HH : Hid (∀ r, Calls Try.prog 100 #[.pointer (some ⟨bd, 0, none⟩), .int .i32 y] (W.drewN r) fun e w' => e = .returned (.bool (decide (y ∈ M))) ∧ w' = W.drewN r) := fun r => (dhas_any (hD.same (w' := W.drewN r) rfl) (hM.same rfl) y y0 y1).mono fun e w' ⟨h1, h2⟩ => ⟨h1, h2.symm⟩
  unfold whyB
  clear h hD hM ho hl
  generalize lvl S y = z at *
  generalize decide (y ∈ M) = m at *
  by_cases hy : y = -l
  · have ty : (y != -l) = false := by simp [hy]
    have td : decide (y ≠ -l) = false := by simp [hy]
    rw [td]
    go_enter Try.func102, Try.ntmps102
    go_wp2_with fail
    refine HN.out.mono ?_
    rintro e w' ⟨rfl, rfl⟩
    go_wp2_with fail
    go_ret
    exact ⟨rfl, 0, rfl⟩
  · have ty : (y != -l) = true := by simpa using hy
    have td : decide (y ≠ -l) = true := by simpa using hy
    rw [td]
    by_cases hz : 0 < z
    · have tz : decide (0 < z) = true := decide_eq_true hz
      go_enter Try.func102, Try.ntmps102
      go_wp2_with fail
      refine HN.out.mono ?_
      rintro e w' ⟨rfl, rfl⟩
      go_wp2_with fail
      refine HL.out.mono ?_
      rintro e w' ⟨rfl, r, rfl⟩
      have c1r : (W.drewN r).cell? ⟨xd, 0, none⟩ = some (.pointer (some ⟨bd, 0, none⟩)) := c1
      go_wp2_with fail
      refine (HH.out r).mono ?_
      rintro e w' ⟨rfl, rfl⟩
      go_wp2_with fail
      go_ret
      exact ⟨ret_bool (by rw [tz]; simp), r, rfl⟩
    · have tz : decide (0 < z) = false := decide_eq_false hz
      go_enter Try.func102, Try.ntmps102
      go_wp2_with fail
      refine HN.out.mono ?_
      rintro e w' ⟨rfl, rfl⟩
      go_wp2_with fail
      refine HL.out.mono ?_
      rintro e w' ⟨rfl, r, rfl⟩
      go_wp2_with fail
      go_ret
      exact ⟨ret_bool (by rw [tz]; simp), r, rfl⟩
theorem eg_spares1 : ∀ args w, (callFunc 102 args).run Try.prog w = .ok (.enter 102 args) w := enters_of Try.func102 (by kernel_rfl) rfl
set_option maxHeartbeats 3200000 in
set_option maxRecDepth 100000 in
theorem spares_any {w : World} {b bd bm n : Nat} {q : Pm} {S : Eng} {d : Nat} {M : List Int} {top left : Int} (h : E6 w b q S d) (hI : Inv S) (hD : DrB w b bd bm top left) (hM : MapZ w S bm n M) (l : Int) (hl : LitM.one l = true) :
    Calls Try.prog 88 #[.pointer (some ⟨bd, 0, none⟩), .int .i32 l] w fun e w' => e = .returned (.bool (sparB S M l)) ∧ Below w.heap.size w w' := by
  have ho := (one_iff l).1 hl
  obtain ⟨w1, hw1⟩ : ∃ w1, w1 = (w.alloc (.cells #[.pointer (some ⟨bd, 0, none⟩)] 102)).alloc (.cells #[.int .i32 l] 43) := ⟨_, rfl⟩
  have hb1 : Below w.heap.size w w1 := by rw [hw1]; exact ((Below.refl _ _).alloc (Nat.le_refl _) _).alloc (by simp) _
  have hs1 : w1.heap.size = w.heap.size + 2 := by rw [hw1]; simp
  have cd : w1.cell? ⟨w.heap.size, 0, none⟩ = some (.pointer (some ⟨bd, 0, none⟩)) := by
    rw [hw1, World.cell?_alloc_lt _ _ _ (by simp)]; exact Lib.cell_of_heap (blk_new w _) 0
  have cl : w1.cell? ⟨w.heap.size + 1, 0, none⟩ = some (.int .i32 l) := by
    rw [hw1]
    have := blk_new (w.alloc (.cells #[.pointer (some ⟨bd, 0, none⟩)] 102)) (.cells #[.int .i32 l] 43)
    have h2 := Lib.cell_of_heap this 0
    rw [show (w.alloc (.cells #[.pointer (some ⟨bd, 0, none⟩)] 102)).heap.size = w.heap.size + 1 from by simp] at h2
    exact h2
  have HE1 := Lib.hid (h.below hb1)
  have HD1 : Hid (DrB w1 b bd bm top left) := hD.same (hb1.block bd hD.lt)
  have HM1 : Hid (MapZ w1 S bm n M) := hM.same (hb1.block bm hM.lt)
  have HR := Lib.hid (dreason_any HE1.out hI HD1.out.c0 HD1.out.lt l (by omega) (by omega))
  have HN := Lib.hid hI.small.n
  have HRO := Lib.hid (reaL_ok hI (varZ l))
  have HB1 := Lib.hid hb1
  have HO := Lib.hid hl
  obtain ⟨sp, hsp⟩ : ∃ sp, sp = sparB S M l := ⟨_, rfl⟩
  rw [← hsp]
  unfold sparB at hsp
  have HSP0 := Lib.hid hsp
  clear h hI hD hM hb1 hl ho hsp
  go_enter Try.func88, Try.ntmps88
  go_wp2_with fail
  rw [← hw1]
  refine HR.out.mono ?_
  rintro e w2 ⟨A2, c2, rfl, hsl, hon, hb2⟩
  have HB2 := Lib.hid (HB1.out.trans (hb2.mono (by omega)))
  by_cases hr : 0 ≤ reaZ S.L (varZ l)
  · have tr : decide (0 ≤ reaZ S.L (varZ l)) = true := decide_eq_true hr
    rw [tr]
    have cd2 : w2.cell? ⟨w.heap.size, 0, none⟩ = some (.pointer (some ⟨bd, 0, none⟩)) := (hb2.cell (p := ⟨w.heap.size, 0, none⟩) (by show w.heap.size < _; omega)).trans cd
    have cl2 : w2.cell? ⟨w.heap.size + 1, 0, none⟩ = some (.int .i32 l) := (hb2.cell (p := ⟨w.heap.size + 1, 0, none⟩) (by show w.heap.size + 1 < _; omega)).trans cl
    have hz2 := hb2.size
    have HC : Hid (Calls Try.prog 69 #[.slice A2 (reaL S (varZ l)).length c2, .func (.func 102) #[] #[.pointer (some ⟨w.heap.size + 1, 0, none⟩), .pointer (some ⟨w.heap.size, 0, none⟩)]] w2 fun e w' => e = .returned (.bool ((reaL S (varZ l)).any (whyB S M l))) ∧ ∃ r, w' = w2.drewN r) := by
      refine contains_lits _ _ (whyB S M l) eg_spares1 (by unfold allOne; rw [List.all_eq_true]; exact fun y hy => (HRO.out.1 y hy).1) hsl rfl (by have := HRO.out.2; omega) (fun W x hW => ?_)
      have hbW : Below w1.heap.size w1 W := hb2.trans (hW.mono hz2)
      exact spares1_any (HE1.out.below hbW) HN.out (HD1.out.same (hbW.block bd HD1.out.lt)) (HM1.out.same (hbW.block bm HM1.out.lt)) l HO.out ((hW.cell (p := ⟨w.heap.size + 1, 0, none⟩) (by show w.heap.size + 1 < _; omega)).trans cl2) ((hW.cell (p := ⟨w.heap.size, 0, none⟩) (by show w.heap.size < _; omega)).trans cd2) x.val x.bd.1 x.bd.2
    have HANY : Hid ((reaL S (varZ l)).any (whyB S M l) = (reaL S (varZ l)).any fun y => decide (y ≠ -l) && decide (0 < lvl S y) && !decide (y ∈ M)) := rfl
    rw [HANY.out] at HC
    have HSP : Hid (sp = !((reaL S (varZ l)).any fun y => decide (y ≠ -l) && decide (0 < lvl S y) && !decide (y ∈ M))) := by
      unfold Hid; rw [HSP0.out, tr, Bool.true_and]
    clear HSP0 hw1 hsl hon hb2 hz2 cd cl cd2 cl2 HR HANY hr tr
    generalize ((reaL S (varZ l)).any fun y => decide (y ≠ -l) && decide (0 < lvl S y) && !decide (y ∈ M)) = any at *
    generalize (reaL S (varZ l)).length = nl at *
    go_wp2_with fail
    refine HC.out.mono ?_
    rintro e w3 ⟨rfl, r, rfl⟩
    go_wp2_with fail
    go_ret
    exact ⟨ret_bool (by rw [HSP.out]), below_drewN HB2.out r⟩
  · have tr : decide (0 ≤ reaZ S.L (varZ l)) = false := decide_eq_false hr
    rw [tr]
    have HSP : Hid (sp = false) := by unfold Hid; rw [HSP0.out, tr, Bool.false_and]
    clear HSP0 hw1 hsl hon hb2 cd cl HR hr tr
    go_wp2_with fail
    go_ret
    exact ⟨ret_bool (by rw [HSP.out]), HB2.out⟩
end Go.Proofs.Ytdecejhobefefaa
