/- CnfTells is true of any formula and values: the statement Rows.CnfTellsCardSaid, without a condition. -/
import Derived.Test.YtamfbnmpllogbaaGreatDoorPWrite
import Derived.Test.YtamfbnmpllogbaaGreatDoorOpen
import Derived.Test.YtamfbnmpllogbaaGreatDoorWriteN
import Derived.Deep.RegionHeld3
import Derived.Deep.DeepCutAuto
namespace Go.Proofs.YtamfbnmpllogbaaGreatDoor.CTells
open Go.ChangeShapes Go.WideShapes Go.ChangeAt Go.RowKit LitM Words CnfP

/-- What False and Holds say together. -/
theorem three (v : Int) (cs : List (List Int)) (bs : List Bool) :
    (falseE v cs bs = 21 ∧ falseV v cs bs = 0 ∧ holdsV v cs bs = false) ∨ (falseE v cs bs = 0 ∧ falseV v cs bs = -1 ∧ holdsV v cs bs = true) ∨ (falseE v cs bs = 0 ∧ 0 ≤ falseV v cs bs ∧ holdsV v cs bs = false) := by
  unfold holdsV
  by_cases h : (bs.length : Int) = v ∧ rightF v cs = true
  · have e1 : falseE v cs bs = 0 := by unfold falseE; rw [if_pos h]
    have e2 : falseV v cs bs = falseAt bs cs := by unfold falseV; rw [if_pos h]
    have := falseAt_ge bs cs
    rw [e1, e2]
    by_cases h1 : falseAt bs cs = -1
    · exact .inr (.inl ⟨rfl, h1, by simp [h1]⟩)
    · exact .inr (.inr ⟨rfl, by omega, by simp [h1]⟩)
  · have e1 : falseE v cs bs = 21 := by unfold falseE; rw [if_neg h]
    have e2 : falseV v cs bs = 0 := by unfold falseV; rw [if_neg h]
    rw [e1, e2]
    exact .inl ⟨rfl, rfl, by simp⟩

set_option maxHeartbeats 12800000 in
set_option maxRecDepth 100000 in
theorem walk (v : Int) (A : Option Addr) (n c : Nat) (cs : List (List Int)) (Ab : Option Addr) (nb cb : Nat) (bs : List Bool) (w : World) (hl : LibAt w) (hw : 8 ≤ w.heap.size)
    (hf : RdF w w.heap.size A n cs) (hb : RdB w w.heap.size Ab nb bs) (h32 : ∀ c ∈ cs, In32 c) (hj : ∀ j, (cs.getD j []).length ≤ 9223372036854775807) (hn : n ≤ 9223372036854775807) (hnb : nb ≤ 9223372036854775807) (hv0 : -9223372036854775808 ≤ v) (hv1 : v ≤ 9223372036854775807) :
    Calls Tryz.prog 3 #[.agg #[.int .i64 v, .slice A n c], .slice Ab nb cb] w fun e w' => e = .returned (.bool true) ∧ Below w.heap.size w w' := by
  have HLA : Hid (∀ W, Below w.heap.size w W → LibAt W) := fun W hb => hl.below hb hw
  have HLF := Lib.hid hf.len
  obtain ⟨W0, hW0⟩ : ∃ W0, W0 = boxF w v A n c := ⟨_, rfl⟩
  have hs0 : W0.heap.size = w.heap.size + 1 := by rw [hW0]; exact boxF_size ..
  have hB0 : Below w.heap.size w W0 := by rw [hW0]; exact boxF_below ..
  have HT : Hid (∀ W, Below (w.heap.size + 1) W0 W → W.cell? ⟨w.heap.size, 0, none⟩ = some (.int .i64 v) ∧ W.cell? ⟨w.heap.size, 1, none⟩ = some (.slice A n c)) := fun W h => by
    rw [← hs0, hW0] at h
    exact ⟨boxF_0 h, boxF_1 h⟩
  have HRF : Hid (∀ W, Below (w.heap.size + 1) W0 W → RdF W W.heap.size A n cs) := fun W h => (((hf.below hB0).more (by omega : w.heap.size ≤ w.heap.size + 1)).below h).more (by have := h.size; omega)
  have HRB : Hid (∀ W, Below (w.heap.size + 1) W0 W → RdB W W.heap.size Ab nb bs) := fun W h => (((hb.below hB0).more (by omega : w.heap.size ≤ w.heap.size + 1)).below h).more (by have := h.size; omega)
  have HBW : Hid (∀ W, Below (w.heap.size + 1) W0 W → Below w.heap.size w W) := fun W h => hB0.trans (h.mono (by omega))
  have HL0 : Hid (∀ W, Below (w.heap.size + 1) W0 W → LibAt W ∧ 8 ≤ W.heap.size) := fun W h => ⟨HLA.out _ (HBW.out _ h), by have := h.size; omega⟩
  have H32 := Lib.hid h32
  have HJ := Lib.hid hj
  have HR00 : Hid (Below (w.heap.size + 1) W0 W0) := Below.refl _ _
  have HZ : Hid (∀ W, Below (w.heap.size + 1) W0 W → w.heap.size + 1 ≤ W.heap.size) := fun W h => by have := h.size; omega
  clear hf hb h32 hj hl hB0
  unfold boxF at hW0
  go_enter Tryz.func3, Tryz.ntmps3
  go_wp2_with fail
  rw [← hW0]
  refine (alive_any W0 (HL0.out _ HR00.out).1 (HL0.out _ HR00.out).2).mono ?_
  rintro e w1 ⟨rfl, hB⟩
  have HB1 : Hid (Below (w.heap.size + 1) W0 w1) := by rw [← hs0]; exact hB
  obtain ⟨hf0, hf1⟩ := HT.out _ HB1.out
  have HG := Lib.hid (great_any v A n c cs w1 (HRF.out _ HB1.out) HJ.out hn)
  clear hB
  rcases hgf : greatB cs with _ | _
  all_goals rw [hgf] at HG
  case true =>
    go_wp2_with fail
    refine HG.out.mono ?_
    rintro e w2 ⟨rfl, hB⟩
    have HB2 : Hid (Below (w.heap.size + 1) W0 w2) := HB1.out.trans (hB.mono (HZ.out _ HB1.out))
    clear hB
    go_wp2_with fail
    go_ret
    exact ⟨rfl, HBW.out _ HB2.out⟩
  by_cases hbig : 200 < nb
  · have t1 : decide (200 < nb) = true := decide_eq_true hbig
    go_wp2_with fail
    refine HG.out.mono ?_
    rintro e w2 ⟨rfl, hB⟩
    have HB2 : Hid (Below (w.heap.size + 1) W0 w2) := HB1.out.trans (hB.mono (HZ.out _ HB1.out))
    clear hB
    go_wp2_with fail
    go_ret
    exact ⟨rfl, HBW.out _ HB2.out⟩
  have t1 : decide (200 < nb) = false := decide_eq_false hbig
  have t2 : decide ((200 : Int) < (nb : Int)) = false := decide_eq_false (by omega)
  have hnb' : nb ≤ 200 := by omega
  have hgo := great_out hgf
  have hn100 : n ≤ 100 := by have := HLF.out; have := hgo.1; omega
  have HTO : Hid (total cs ≤ 5000) := by
    have := great_total cs hgo.2
    have := hgo.1
    exact (by omega : total cs ≤ 5000)
  have HOK := Lib.hid (great_ok hgf H32.out)
  clear hgf hbig hgo
  -- the contracts, in any world of the walk's
  have HFa : Hid (∀ W, Below (w.heap.size + 1) W0 W → Calls Tryz.prog 7 #[.agg #[.int .i64 v, .slice A n c], .slice Ab nb cb] W fun e w' => e = .returned (.tuple #[.int .i64 (falseV v cs bs), .int .i64 (falseE v cs bs)]) ∧ Below (w.heap.size + 1) W0 w') := fun W h =>
    (false_any v A n c cs Ab nb cb bs W (HRF.out _ h) HOK.out hn hv0 hv1 (HRB.out _ h) hnb).mono fun e w' hh => ⟨hh.1, h.trans (hh.2.mono (HZ.out _ h))⟩
  have HPF : Hid (∀ W, Below (w.heap.size + 1) W0 W → Calls Tryz.prog 8 #[.agg #[.int .i64 v, .slice A n c], .slice Ab nb cb] W fun e w' => e = .returned (.tuple #[.int .i64 (falseV v cs bs), .int .i64 (falseE v cs bs)]) ∧ Below (w.heap.size + 1) W0 w') := fun W h =>
    (rfalse_any v A n c cs Ab nb cb bs W (HRF.out _ h) HOK.out (by omega) (by have := HTO.out; omega) (HRB.out _ h) (by omega)).mono fun e w' hh => ⟨hh.1, h.trans (hh.2.mono (HZ.out _ h))⟩
  have HHo : Hid (∀ W, Below (w.heap.size + 1) W0 W → Calls Tryz.prog 9 #[.agg #[.int .i64 v, .slice A n c], .slice Ab nb cb] W fun e w' => e = .returned (.tuple #[.bool (holdsV v cs bs), .int .i64 (falseE v cs bs)]) ∧ Below (w.heap.size + 1) W0 w') := fun W h =>
    (holdsF_any v A n c cs Ab nb cb bs W (HRF.out _ h) HOK.out hn hv0 hv1 (HRB.out _ h) hnb).mono fun e w' hh => ⟨hh.1, h.trans (hh.2.mono (HZ.out _ h))⟩
  have HRi : Hid (∀ W, (Below (w.heap.size + 1) W0 W ∧ W.cell? ⟨w.heap.size, 0, none⟩ = some (.int .i64 v) ∧ W.cell? ⟨w.heap.size, 1, none⟩ = some (.slice A n c)) → Calls Tryz.prog 12 #[.agg #[.int .i64 v, .slice A n c]] W fun e w' => e = .returned (.bool (rightF v cs)) ∧ Below (w.heap.size + 1) W0 w') := fun W h =>
    (rightF_any v A n c cs W (HRF.out _ h.1) HOK.out hn hv0 hv1).mono fun e w' hh => ⟨hh.1, h.1.trans (hh.2.mono (HZ.out _ h.1))⟩
  have HPR : Hid (∀ W, (Below (w.heap.size + 1) W0 W ∧ W.cell? ⟨w.heap.size, 0, none⟩ = some (.int .i64 v) ∧ W.cell? ⟨w.heap.size, 1, none⟩ = some (.slice A n c)) → Calls Tryz.prog 13 #[.agg #[.int .i64 v, .slice A n c]] W fun e w' => e = .returned (.bool (rightF v cs)) ∧ Below (w.heap.size + 1) W0 w') := fun W h =>
    (rrightF_any v A n c cs W (HRF.out _ h.1) HOK.out (by omega) (by have := HTO.out; omega)).mono fun e w' hh => ⟨hh.1, h.1.trans (hh.2.mono (HZ.out _ h.1))⟩
  have hwr : ∃ (T : ByteArray) (i : Int), Hid (∀ W, Below (w.heap.size + 1) W0 W → Calls Tryz.prog 10 #[.agg #[.int .i64 v, .slice A n c]] W fun e w' => e = .returned (.tuple #[.string T, .int .i64 i]) ∧ Below (w.heap.size + 1) W0 w') ∧
      Hid (∀ W, Below (w.heap.size + 1) W0 W → Calls Tryz.prog 11 #[.agg #[.int .i64 v, .slice A n c]] W fun e w' => e = .returned (.tuple #[.string T, .int .i64 i]) ∧ Below (w.heap.size + 1) W0 w') := by
    rcases hrt : rightF v cs
    · exact ⟨_, _, fun W h => (write_no v A n c cs W (HRF.out _ h) HOK.out hn hv0 hv1 hrt).mono fun e w' hh => ⟨hh.1, h.trans (hh.2.mono (HZ.out _ h))⟩,
        fun W h => (rwrite_no v A n c cs W (HRF.out _ h) HOK.out (by omega) (by have := HTO.out; omega) hrt).mono fun e w' hh => ⟨hh.1, h.trans (hh.2.mono (HZ.out _ h))⟩⟩
    · exact ⟨_, _, fun W h => (write_yes v A n c cs W (HL0.out _ h).1 (HL0.out _ h).2 (HRF.out _ h) HOK.out hn hv0 hv1 hrt).mono fun e w' hh => ⟨hh.1, h.trans (hh.2.mono (HZ.out _ h))⟩,
        fun W h => (rwrite_yes v A n c cs W (HRF.out _ h) HOK.out (by omega) (by have := HTO.out; omega) hrt).mono fun e w' hh => ⟨hh.1, h.trans (hh.2.mono (HZ.out _ h))⟩⟩
  obtain ⟨T, i, HWa, HPW⟩ := hwr
  have HKS : Hid (∀ W, Below (w.heap.size + 1) W0 W → (Below (w.heap.size + 1) W0 W ∧ W.cell? ⟨w.heap.size, 0, none⟩ = some (.int .i64 v) ∧ W.cell? ⟨w.heap.size, 1, none⟩ = some (.slice A n c))) := fun W h => ⟨h, (HT.out _ h).1, (HT.out _ h).2⟩
  have h3 := three v cs bs
  generalize falseV v cs bs = x at *
  generalize falseE v cs bs = y at *
  generalize holdsV v cs bs = z at *
  generalize rightF v cs = r at *
  clear hs0
  have HBT : Hid (∀ r : Bool, (r == r) = true) := fun r => by cases r <;> rfl
  have q1 : (x == x) = true := by simp
  have q2 : (y == y) = true := by simp
  have q3 : (i == i) = true := by simp
  have q4 : (T.toList == T.toList) = true := by simp
  have q6 := HBT.out true
  have q7 := HBT.out false
  have q5 := HBT.out r
  go_wp2_with fail
  refine HG.out.mono ?_
  rintro e w2 ⟨rfl, hB⟩
  have HB2 : Hid (Below (w.heap.size + 1) W0 w2) := HB1.out.trans (hB.mono (HZ.out _ HB1.out))
  clear hB hf0 hf1 HG
  obtain ⟨hf0, hf1⟩ := HT.out _ HB2.out
  go_wp2_with fail
  refine (HFa.out _ HB2.out).mono ?_
  rintro e w3 ⟨rfl, hB⟩
  have HB3 := Lib.hid hB
  clear hB hf0 hf1
  obtain ⟨hf0, hf1⟩ := HT.out _ HB3.out
  go_wp2_with fail
  refine (HPF.out _ HB3.out).mono ?_
  rintro e w4 ⟨rfl, hB⟩
  have HB4 := Lib.hid hB
  clear hB hf0 hf1
  obtain ⟨hf0, hf1⟩ := HT.out _ HB4.out
  go_wp2_with fail
  refine (HHo.out _ HB4.out).mono ?_
  rintro e w5 ⟨rfl, hB⟩
  have HB5 := Lib.hid hB
  clear hB hf0 hf1
  obtain ⟨hf0, hf1⟩ := HT.out _ HB5.out
  go_wp2_with fail
  refine (HWa.out _ HB5.out).mono ?_
  rintro e w6 ⟨rfl, hB⟩
  have HB6 := Lib.hid hB
  clear hB hf0 hf1
  obtain ⟨hf0, hf1⟩ := HT.out _ HB6.out
  go_wp2_with fail
  refine (HPW.out _ HB6.out).mono ?_
  rintro e w7 ⟨rfl, hB⟩
  have HB7 := Lib.hid hB
  clear hB hf0 hf1
  obtain ⟨hf0, hf1⟩ := HT.out _ HB7.out
  go_wp2_with fail
  have HTO' := Lib.hid trivial
  rcases h3 with ⟨hy, hx, rfl⟩ | ⟨hy, hx, rfl⟩ | ⟨hy, hx, rfl⟩
  case inl =>
    have y0 : (y == 0) = false := by rw [hy]; rfl
    clear hy hx
    refine wp_region_held_drew (S := (fun W => Below (w.heap.size + 1) W0 W ∧ W.cell? ⟨w.heap.size, 0, none⟩ = some (.int .i64 v) ∧ W.cell? ⟨w.heap.size, 1, none⟩ = some (.slice A n c))) (by kernel_rfl) (HKS.out _ (below_drewN HB7.out 1)) (fun hHeld => ?_)
    refine wpAnyH_take (i := 0) (oi := { dst := some 52, op := Op.load 24 (Operand.tmp 2), type := 24, pos := "law.go:53", after := #[], guard := none }) (v := ?_) rfl (by kernel_rfl) (by kernel_rfl) (by kernel_rfl) (fun _ _ _ h => h) (Or.inl ⟨by rfl, ?_⟩) (by assumption) ?_
    rotate_left 1
    · intro w hSw
      (try dsimp only at hSw)
      first | (go_simp; done) | (go_simp; with_reducible rfl)
    try simp only [Act.put, List.setIfInBounds_toArray, List.set_cons_zero, List.set_cons_succ]
    refine wpAnyH_take (i := 2) (oi := { dst := some 54, op := Op.load 24 (Operand.tmp 2), type := 24, pos := "law.go:53", after := #[], guard := none }) (v := ?_) rfl (by kernel_rfl) (by kernel_rfl) (by kernel_rfl) (fun _ _ _ h => h) (Or.inl ⟨by rfl, ?_⟩) (by assumption) ?_
    rotate_left 1
    · intro w hSw
      (try dsimp only at hSw)
      first | (go_simp; done) | (go_simp; with_reducible rfl)
    try simp only [Act.put, List.setIfInBounds_toArray, List.set_cons_zero, List.set_cons_succ]
    refine wpAnyH_ready (rs := [1]) (by kernel_rfl) (by simp) ?_
    refine AllReadyH.cons (o := { dst := some 53, op := Op.call { callee := Callee.value (Operand.func 12), args := #[Operand.tmp 52], argTypes := #[24] }, type := 4, pos := "law.go:53", after := #[{ on := 0, ground := Ground.data }], guard := none }) rfl (fun K hK => ?_) AllReadyH.nil
    go_simp
    refine (HRi.out _ (by assumption)).mono ?_
    rintro e wq1 ⟨rfl, hBq1⟩
    try go_wp2_with fail
    refine hK.out _ _ (HKS.out _ hBq1) (fun hHeld => ?_)
    clear hK K
    try simp only [Act.put, List.setIfInBounds_toArray, List.set_cons_zero, List.set_cons_succ]
    refine wpAnyH_ready (rs := [3]) (by kernel_rfl) (by simp) ?_
    refine AllReadyH.cons (o := { dst := some 55, op := Op.call { callee := Callee.value (Operand.func 13), args := #[Operand.tmp 54], argTypes := #[24] }, type := 4, pos := "law.go:53", after := #[{ on := 2, ground := Ground.data }, { on := 1, ground := Ground.chain }], guard := none }) rfl (fun K hK => ?_) AllReadyH.nil
    go_simp
    refine (HPR.out _ (by assumption)).mono ?_
    rintro e wq3 ⟨rfl, hBq3⟩
    try go_wp2_with fail
    refine hK.out _ _ (HKS.out _ hBq3) (fun hHeld => ?_)
    clear hK K
    try simp only [Act.put, List.setIfInBounds_toArray, List.set_cons_zero, List.set_cons_succ]
    refine wpAnyH_take (i := 4) (oi := { dst := some 56, op := Op.binOp BinOp.eql 4 (Operand.tmp 53) (Operand.tmp 55) 4, type := 4, pos := "law.go:53", after := #[{ on := 1, ground := Ground.data }, { on := 3, ground := Ground.data }], guard := none }) (v := ?_) rfl (by kernel_rfl) (by kernel_rfl) (by kernel_rfl) (fun _ _ _ h => h) (Or.inl ⟨by rfl, ?_⟩) (by assumption) ?_
    rotate_left 1
    · intro w hSw
      (try dsimp only at hSw)
      first | (go_simp; done) | (go_simp; with_reducible rfl)
    try simp only [Act.put, List.setIfInBounds_toArray, List.set_cons_zero, List.set_cons_succ]
    refine wpAnyH_take (i := 5) (oi := { dst := some 57, op := Op.move (Operand.tmp 56), type := 4, pos := "law.go:53", after := #[{ on := 4, ground := Ground.data }, { on := 3, ground := Ground.chain }], guard := none }) (v := ?_) rfl (by kernel_rfl) (by kernel_rfl) (by kernel_rfl) (fun _ _ _ h => h) (Or.inl ⟨by rfl, ?_⟩) (by assumption) ?_
    rotate_left 1
    · intro w hSw
      (try dsimp only at hSw)
      first | (go_simp; done) | (go_simp; with_reducible rfl)
    try simp only [Act.put, List.setIfInBounds_toArray, List.set_cons_zero, List.set_cons_succ]
    refine wpAnyH_take (i := 6) (oi := { dst := some 58, op := Op.move (Operand.tmp 5), type := 3, pos := "law.go:53", after := #[{ on := 5, ground := Ground.guard }], guard := some (5, true) }) (v := ?_) rfl (by kernel_rfl) (by kernel_rfl) (by kernel_rfl) (fun _ _ _ h => h) (Or.inl ⟨by rfl, ?_⟩) (by assumption) ?_
    rotate_left 1
    · intro w hSw
      (try dsimp only at hSw)
      first | (go_simp; done) | (go_simp; with_reducible rfl)
    try simp only [Act.put, List.setIfInBounds_toArray, List.set_cons_zero, List.set_cons_succ]
    refine wpAnyH_take (i := 7) (oi := { dst := some 59, op := Op.move (Operand.tmp 7), type := 3, pos := "law.go:53", after := #[{ on := 5, ground := Ground.guard }], guard := some (5, true) }) (v := ?_) rfl (by kernel_rfl) (by kernel_rfl) (by kernel_rfl) (fun _ _ _ h => h) (Or.inl ⟨by rfl, ?_⟩) (by assumption) ?_
    rotate_left 1
    · intro w hSw
      (try dsimp only at hSw)
      first | (go_simp; done) | (go_simp; with_reducible rfl)
    try simp only [Act.put, List.setIfInBounds_toArray, List.set_cons_zero, List.set_cons_succ]
    refine wpAnyH_take (i := 8) (oi := { dst := some 60, op := Op.binOp BinOp.eql 3 (Operand.tmp 58) (Operand.tmp 59) 3, type := 4, pos := "law.go:53", after := #[{ on := 6, ground := Ground.data }, { on := 7, ground := Ground.data }, { on := 5, ground := Ground.guard }], guard := some (5, true) }) (v := ?_) rfl (by kernel_rfl) (by kernel_rfl) (by kernel_rfl) (fun _ _ _ h => h) (Or.inl ⟨by rfl, ?_⟩) (by assumption) ?_
    rotate_left 1
    · intro w hSw
      (try dsimp only at hSw)
      first | (go_simp; done) | (go_simp; with_reducible rfl)
    try simp only [Act.put, List.setIfInBounds_toArray, List.set_cons_zero, List.set_cons_succ]
    refine wpAnyH_take (i := 9) (oi := { dst := some 61, op := Op.pick (Operand.tmp 57) (Operand.tmp 60) (Operand.const (Value.bool false)), type := 4, pos := "law.go:53", after := #[{ on := 5, ground := Ground.data }, { on := 8, ground := Ground.data }], guard := none }) (v := ?_) rfl (by kernel_rfl) (by kernel_rfl) (by kernel_rfl) (fun _ _ _ h => h) (Or.inl ⟨by rfl, ?_⟩) (by assumption) ?_
    rotate_left 1
    · intro w hSw
      (try dsimp only at hSw)
      first | (go_simp; done) | (go_simp; with_reducible rfl)
    try simp only [Act.put, List.setIfInBounds_toArray, List.set_cons_zero, List.set_cons_succ]
    refine wpAnyH_take (i := 10) (oi := { dst := some 62, op := Op.move (Operand.tmp 61), type := 4, pos := "law.go:53", after := #[{ on := 9, ground := Ground.data }, { on := 5, ground := Ground.chain }], guard := none }) (v := ?_) rfl (by kernel_rfl) (by kernel_rfl) (by kernel_rfl) (fun _ _ _ h => h) (Or.inl ⟨by rfl, ?_⟩) (by assumption) ?_
    rotate_left 1
    · intro w hSw
      (try dsimp only at hSw)
      first | (go_simp; done) | (go_simp; with_reducible rfl)
    try simp only [Act.put, List.setIfInBounds_toArray, List.set_cons_zero, List.set_cons_succ]
    refine wpAnyH_take (i := 11) (oi := { dst := some 63, op := Op.move (Operand.tmp 6), type := 28, pos := "law.go:53", after := #[{ on := 10, ground := Ground.guard }], guard := some (10, true) }) (v := ?_) rfl (by kernel_rfl) (by kernel_rfl) (by kernel_rfl) (fun _ _ _ h => h) (Or.inl ⟨by rfl, ?_⟩) (by assumption) ?_
    rotate_left 1
    · intro w hSw
      (try dsimp only at hSw)
      first | (go_simp; done) | (go_simp; with_reducible rfl)
    try simp only [Act.put, List.setIfInBounds_toArray, List.set_cons_zero, List.set_cons_succ]
    refine wpAnyH_take (i := 12) (oi := { dst := some 64, op := Op.move (Operand.tmp 8), type := 3, pos := "law.go:53", after := #[{ on := 10, ground := Ground.guard }], guard := some (10, true) }) (v := ?_) rfl (by kernel_rfl) (by kernel_rfl) (by kernel_rfl) (fun _ _ _ h => h) (Or.inl ⟨by rfl, ?_⟩) (by assumption) ?_
    rotate_left 1
    · intro w hSw
      (try dsimp only at hSw)
      first | (go_simp; done) | (go_simp; with_reducible rfl)
    try simp only [Act.put, List.setIfInBounds_toArray, List.set_cons_zero, List.set_cons_succ]
    refine wpAnyH_take (i := 13) (oi := { dst := some 65, op := Op.binOp BinOp.eql 3 (Operand.tmp 63) (Operand.tmp 64) 3, type := 4, pos := "law.go:53", after := #[{ on := 11, ground := Ground.data }, { on := 12, ground := Ground.data }, { on := 10, ground := Ground.guard }], guard := some (10, true) }) (v := ?_) rfl (by kernel_rfl) (by kernel_rfl) (by kernel_rfl) (fun _ _ _ h => h) (Or.inl ⟨by rfl, ?_⟩) (by assumption) ?_
    rotate_left 1
    · intro w hSw
      (try dsimp only at hSw)
      first | (go_simp; done) | (go_simp; with_reducible rfl)
    try simp only [Act.put, List.setIfInBounds_toArray, List.set_cons_zero, List.set_cons_succ]
    refine wpAnyH_take (i := 14) (oi := { dst := some 66, op := Op.pick (Operand.tmp 62) (Operand.tmp 65) (Operand.const (Value.bool false)), type := 4, pos := "law.go:53", after := #[{ on := 10, ground := Ground.data }, { on := 13, ground := Ground.data }], guard := none }) (v := ?_) rfl (by kernel_rfl) (by kernel_rfl) (by kernel_rfl) (fun _ _ _ h => h) (Or.inl ⟨by rfl, ?_⟩) (by assumption) ?_
    rotate_left 1
    · intro w hSw
      (try dsimp only at hSw)
      first | (go_simp; done) | (go_simp; with_reducible rfl)
    try simp only [Act.put, List.setIfInBounds_toArray, List.set_cons_zero, List.set_cons_succ]
    refine wpAnyH_take (i := 15) (oi := { dst := some 67, op := Op.move (Operand.tmp 66), type := 4, pos := "law.go:53", after := #[{ on := 14, ground := Ground.data }, { on := 10, ground := Ground.chain }], guard := none }) (v := ?_) rfl (by kernel_rfl) (by kernel_rfl) (by kernel_rfl) (fun _ _ _ h => h) (Or.inl ⟨by rfl, ?_⟩) (by assumption) ?_
    rotate_left 1
    · intro w hSw
      (try dsimp only at hSw)
      first | (go_simp; done) | (go_simp; with_reducible rfl)
    try simp only [Act.put, List.setIfInBounds_toArray, List.set_cons_zero, List.set_cons_succ]
    refine wpAnyH_take (i := 16) (oi := { dst := some 68, op := Op.move (Operand.tmp 10), type := 28, pos := "law.go:53", after := #[{ on := 15, ground := Ground.guard }], guard := some (15, true) }) (v := ?_) rfl (by kernel_rfl) (by kernel_rfl) (by kernel_rfl) (fun _ _ _ h => h) (Or.inl ⟨by rfl, ?_⟩) (by assumption) ?_
    rotate_left 1
    · intro w hSw
      (try dsimp only at hSw)
      first | (go_simp; done) | (go_simp; with_reducible rfl)
    try simp only [Act.put, List.setIfInBounds_toArray, List.set_cons_zero, List.set_cons_succ]
    refine wpAnyH_take (i := 17) (oi := { dst := some 69, op := Op.move (Operand.tmp 6), type := 28, pos := "law.go:53", after := #[{ on := 15, ground := Ground.guard }], guard := some (15, true) }) (v := ?_) rfl (by kernel_rfl) (by kernel_rfl) (by kernel_rfl) (fun _ _ _ h => h) (Or.inl ⟨by rfl, ?_⟩) (by assumption) ?_
    rotate_left 1
    · intro w hSw
      (try dsimp only at hSw)
      first | (go_simp; done) | (go_simp; with_reducible rfl)
    try simp only [Act.put, List.setIfInBounds_toArray, List.set_cons_zero, List.set_cons_succ]
    refine wpAnyH_take (i := 18) (oi := { dst := some 70, op := Op.binOp BinOp.eql 28 (Operand.tmp 68) (Operand.tmp 69) 28, type := 4, pos := "law.go:53", after := #[{ on := 16, ground := Ground.data }, { on := 17, ground := Ground.data }, { on := 15, ground := Ground.guard }], guard := some (15, true) }) (v := ?_) rfl (by kernel_rfl) (by kernel_rfl) (by kernel_rfl) (fun _ _ _ h => h) (Or.inl ⟨by rfl, ?_⟩) (by assumption) ?_
    rotate_left 1
    · intro w hSw
      (try dsimp only at hSw)
      first | (go_simp; done) | (go_simp; with_reducible rfl)
    try simp only [Act.put, List.setIfInBounds_toArray, List.set_cons_zero, List.set_cons_succ]
    refine wpAnyH_take (i := 19) (oi := { dst := some 71, op := Op.pick (Operand.tmp 67) (Operand.tmp 70) (Operand.const (Value.bool false)), type := 4, pos := "law.go:53", after := #[{ on := 15, ground := Ground.data }, { on := 18, ground := Ground.data }], guard := none }) (v := ?_) rfl (by kernel_rfl) (by kernel_rfl) (by kernel_rfl) (fun _ _ _ h => h) (Or.inl ⟨by rfl, ?_⟩) (by assumption) ?_
    rotate_left 1
    · intro w hSw
      (try dsimp only at hSw)
      first | (go_simp; done) | (go_simp; with_reducible rfl)
    try simp only [Act.put, List.setIfInBounds_toArray, List.set_cons_zero, List.set_cons_succ]
    refine wpAnyH_take (i := 20) (oi := { dst := some 72, op := Op.move (Operand.tmp 71), type := 4, pos := "law.go:53", after := #[{ on := 19, ground := Ground.data }, { on := 15, ground := Ground.chain }], guard := none }) (v := ?_) rfl (by kernel_rfl) (by kernel_rfl) (by kernel_rfl) (fun _ _ _ h => h) (Or.inl ⟨by rfl, ?_⟩) (by assumption) ?_
    rotate_left 1
    · intro w hSw
      (try dsimp only at hSw)
      first | (go_simp; done) | (go_simp; with_reducible rfl)
    try simp only [Act.put, List.setIfInBounds_toArray, List.set_cons_zero, List.set_cons_succ]
    refine wpAnyH_take (i := 21) (oi := { dst := some 73, op := Op.move (Operand.tmp 9), type := 4, pos := "law.go:53", after := #[{ on := 20, ground := Ground.guard }], guard := some (20, true) }) (v := ?_) rfl (by kernel_rfl) (by kernel_rfl) (by kernel_rfl) (fun _ _ _ h => h) (Or.inl ⟨by rfl, ?_⟩) (by assumption) ?_
    rotate_left 1
    · intro w hSw
      (try dsimp only at hSw)
      first | (go_simp; done) | (go_simp; with_reducible rfl)
    try simp only [Act.put, List.setIfInBounds_toArray, List.set_cons_zero, List.set_cons_succ]
    refine wpAnyH_take (i := 22) (oi := { dst := some 74, op := Op.move (Operand.tmp 8), type := 3, pos := "law.go:53", after := #[{ on := 20, ground := Ground.guard }], guard := some (20, true) }) (v := ?_) rfl (by kernel_rfl) (by kernel_rfl) (by kernel_rfl) (fun _ _ _ h => h) (Or.inl ⟨by rfl, ?_⟩) (by assumption) ?_
    rotate_left 1
    · intro w hSw
      (try dsimp only at hSw)
      first | (go_simp; done) | (go_simp; with_reducible rfl)
    try simp only [Act.put, List.setIfInBounds_toArray, List.set_cons_zero, List.set_cons_succ]
    refine wpAnyH_take (i := 23) (oi := { dst := some 75, op := Op.binOp BinOp.eql 3 (Operand.tmp 74) (Operand.const (Value.int IntKind.i64 0)) 3, type := 4, pos := "law.go:53", after := #[{ on := 22, ground := Ground.data }, { on := 20, ground := Ground.guard }], guard := some (20, true) }) (v := ?_) rfl (by kernel_rfl) (by kernel_rfl) (by kernel_rfl) (fun _ _ _ h => h) (Or.inl ⟨by rfl, ?_⟩) (by assumption) ?_
    rotate_left 1
    · intro w hSw
      (try dsimp only at hSw)
      first | (go_simp; done) | (go_simp; with_reducible rfl)
    try simp only [Act.put, List.setIfInBounds_toArray, List.set_cons_zero, List.set_cons_succ]
    refine wpAnyH_take (i := 24) (oi := { dst := some 76, op := Op.move (Operand.tmp 75), type := 4, pos := "law.go:53", after := #[{ on := 23, ground := Ground.data }, { on := 20, ground := Ground.chain }, { on := 20, ground := Ground.guard }], guard := some (20, true) }) (v := ?_) rfl (by kernel_rfl) (by kernel_rfl) (by kernel_rfl) (fun _ _ _ h => h) (Or.inl ⟨by rfl, ?_⟩) (by assumption) ?_
    rotate_left 1
    · intro w hSw
      (try dsimp only at hSw)
      first | (go_simp; done) | (go_simp; with_reducible rfl)
    try simp only [Act.put, List.setIfInBounds_toArray, List.set_cons_zero, List.set_cons_succ]
    refine wpAnyH_take (i := 25) (oi := { dst := some 77, op := Op.move (Operand.tmp 7), type := 3, pos := "law.go:53", after := #[{ on := 24, ground := Ground.guard }], guard := some (24, true) }) (v := undef) rfl (by kernel_rfl) (by kernel_rfl) (by kernel_rfl) (fun _ _ _ h => h) (Or.inr ⟨by rfl, rfl⟩) (by assumption) ?_
    try simp only [Act.put, List.setIfInBounds_toArray, List.set_cons_zero, List.set_cons_succ]
    refine wpAnyH_take (i := 26) (oi := { dst := some 78, op := Op.binOp BinOp.lss 3 (Operand.tmp 77) (Operand.const (Value.int IntKind.i64 0)) 3, type := 4, pos := "law.go:53", after := #[{ on := 25, ground := Ground.data }, { on := 24, ground := Ground.guard }], guard := some (24, true) }) (v := undef) rfl (by kernel_rfl) (by kernel_rfl) (by kernel_rfl) (fun _ _ _ h => h) (Or.inr ⟨by rfl, rfl⟩) (by assumption) ?_
    try simp only [Act.put, List.setIfInBounds_toArray, List.set_cons_zero, List.set_cons_succ]
    refine wpAnyH_take (i := 27) (oi := { dst := some 79, op := Op.pick (Operand.tmp 76) (Operand.tmp 78) (Operand.const (Value.bool false)), type := 4, pos := "law.go:53", after := #[{ on := 24, ground := Ground.data }, { on := 26, ground := Ground.data }, { on := 20, ground := Ground.guard }], guard := some (20, true) }) (v := ?_) rfl (by kernel_rfl) (by kernel_rfl) (by kernel_rfl) (fun _ _ _ h => h) (Or.inl ⟨by rfl, ?_⟩) (by assumption) ?_
    rotate_left 1
    · intro w hSw
      (try dsimp only at hSw)
      first | (go_simp; done) | (go_simp; with_reducible rfl)
    try simp only [Act.put, List.setIfInBounds_toArray, List.set_cons_zero, List.set_cons_succ]
    refine wpAnyH_take (i := 28) (oi := { dst := some 80, op := Op.binOp BinOp.eql 4 (Operand.tmp 73) (Operand.tmp 79) 4, type := 4, pos := "law.go:53", after := #[{ on := 21, ground := Ground.data }, { on := 27, ground := Ground.data }, { on := 20, ground := Ground.guard }], guard := some (20, true) }) (v := ?_) rfl (by kernel_rfl) (by kernel_rfl) (by kernel_rfl) (fun _ _ _ h => h) (Or.inl ⟨by rfl, ?_⟩) (by assumption) ?_
    rotate_left 1
    · intro w hSw
      (try dsimp only at hSw)
      first | (go_simp; done) | (go_simp; with_reducible rfl)
    try simp only [Act.put, List.setIfInBounds_toArray, List.set_cons_zero, List.set_cons_succ]
    refine wpAnyH_take (i := 29) (oi := { dst := some 81, op := Op.pick (Operand.tmp 72) (Operand.tmp 80) (Operand.const (Value.bool false)), type := 4, pos := "law.go:53", after := #[{ on := 20, ground := Ground.data }, { on := 28, ground := Ground.data }], guard := none }) (v := ?_) rfl (by kernel_rfl) (by kernel_rfl) (by kernel_rfl) (fun _ _ _ h => h) (Or.inl ⟨by rfl, ?_⟩) (by assumption) ?_
    rotate_left 1
    · intro w hSw
      (try dsimp only at hSw)
      first | (go_simp; done) | (go_simp; with_reducible rfl)
    try simp only [Act.put, List.setIfInBounds_toArray, List.set_cons_zero, List.set_cons_succ]
    refine wpAnyH_take (i := 30) (oi := { dst := some 82, op := Op.move (Operand.tmp 81), type := 4, pos := "law.go:53", after := #[{ on := 29, ground := Ground.data }, { on := 24, ground := Ground.chain }], guard := none }) (v := ?_) rfl (by kernel_rfl) (by kernel_rfl) (by kernel_rfl) (fun _ _ _ h => h) (Or.inl ⟨by rfl, ?_⟩) (by assumption) ?_
    rotate_left 1
    · intro w hSw
      (try dsimp only at hSw)
      first | (go_simp; done) | (go_simp; with_reducible rfl)
    try simp only [Act.put, List.setIfInBounds_toArray, List.set_cons_zero, List.set_cons_succ]
    refine wpAnyH_take (i := 31) (oi := { dst := some 83, op := Op.move (Operand.tmp 11), type := 9, pos := "law.go:53", after := #[{ on := 30, ground := Ground.guard }], guard := some (30, true) }) (v := ?_) rfl (by kernel_rfl) (by kernel_rfl) (by kernel_rfl) (fun _ _ _ h => h) (Or.inl ⟨by rfl, ?_⟩) (by assumption) ?_
    rotate_left 1
    · intro w hSw
      (try dsimp only at hSw)
      first | (go_simp; done) | (go_simp; with_reducible rfl)
    try simp only [Act.put, List.setIfInBounds_toArray, List.set_cons_zero, List.set_cons_succ]
    refine wpAnyH_take (i := 32) (oi := { dst := some 84, op := Op.move (Operand.tmp 13), type := 9, pos := "law.go:53", after := #[{ on := 30, ground := Ground.guard }], guard := some (30, true) }) (v := ?_) rfl (by kernel_rfl) (by kernel_rfl) (by kernel_rfl) (fun _ _ _ h => h) (Or.inl ⟨by rfl, ?_⟩) (by assumption) ?_
    rotate_left 1
    · intro w hSw
      (try dsimp only at hSw)
      first | (go_simp; done) | (go_simp; with_reducible rfl)
    try simp only [Act.put, List.setIfInBounds_toArray, List.set_cons_zero, List.set_cons_succ]
    refine wpAnyH_take (i := 33) (oi := { dst := some 85, op := Op.binOp BinOp.eql 9 (Operand.tmp 83) (Operand.tmp 84) 9, type := 4, pos := "law.go:53", after := #[{ on := 31, ground := Ground.data }, { on := 32, ground := Ground.data }, { on := 30, ground := Ground.guard }], guard := some (30, true) }) (v := ?_) rfl (by kernel_rfl) (by kernel_rfl) (by kernel_rfl) (fun _ _ _ h => h) (Or.inl ⟨by rfl, ?_⟩) (by assumption) ?_
    rotate_left 1
    · intro w hSw
      (try dsimp only at hSw)
      first | (go_simp; done) | (go_simp; with_reducible rfl)
    try simp only [Act.put, List.setIfInBounds_toArray, List.set_cons_zero, List.set_cons_succ]
    refine wpAnyH_take (i := 34) (oi := { dst := some 86, op := Op.pick (Operand.tmp 82) (Operand.tmp 85) (Operand.const (Value.bool false)), type := 4, pos := "law.go:53", after := #[{ on := 30, ground := Ground.data }, { on := 33, ground := Ground.data }], guard := none }) (v := ?_) rfl (by kernel_rfl) (by kernel_rfl) (by kernel_rfl) (fun _ _ _ h => h) (Or.inl ⟨by rfl, ?_⟩) (by assumption) ?_
    rotate_left 1
    · intro w hSw
      (try dsimp only at hSw)
      first | (go_simp; done) | (go_simp; with_reducible rfl)
    try simp only [Act.put, List.setIfInBounds_toArray, List.set_cons_zero, List.set_cons_succ]
    refine wpAnyH_take (i := 35) (oi := { dst := some 87, op := Op.move (Operand.tmp 86), type := 4, pos := "law.go:53", after := #[{ on := 34, ground := Ground.data }, { on := 30, ground := Ground.chain }], guard := none }) (v := ?_) rfl (by kernel_rfl) (by kernel_rfl) (by kernel_rfl) (fun _ _ _ h => h) (Or.inl ⟨by rfl, ?_⟩) (by assumption) ?_
    rotate_left 1
    · intro w hSw
      (try dsimp only at hSw)
      first | (go_simp; done) | (go_simp; with_reducible rfl)
    try simp only [Act.put, List.setIfInBounds_toArray, List.set_cons_zero, List.set_cons_succ]
    refine wpAnyH_take (i := 36) (oi := { dst := some 88, op := Op.move (Operand.tmp 12), type := 28, pos := "law.go:53", after := #[{ on := 35, ground := Ground.guard }], guard := some (35, true) }) (v := ?_) rfl (by kernel_rfl) (by kernel_rfl) (by kernel_rfl) (fun _ _ _ h => h) (Or.inl ⟨by rfl, ?_⟩) (by assumption) ?_
    rotate_left 1
    · intro w hSw
      (try dsimp only at hSw)
      first | (go_simp; done) | (go_simp; with_reducible rfl)
    try simp only [Act.put, List.setIfInBounds_toArray, List.set_cons_zero, List.set_cons_succ]
    refine wpAnyH_take (i := 37) (oi := { dst := some 89, op := Op.move (Operand.tmp 14), type := 3, pos := "law.go:53", after := #[{ on := 35, ground := Ground.guard }], guard := some (35, true) }) (v := ?_) rfl (by kernel_rfl) (by kernel_rfl) (by kernel_rfl) (fun _ _ _ h => h) (Or.inl ⟨by rfl, ?_⟩) (by assumption) ?_
    rotate_left 1
    · intro w hSw
      (try dsimp only at hSw)
      first | (go_simp; done) | (go_simp; with_reducible rfl)
    try simp only [Act.put, List.setIfInBounds_toArray, List.set_cons_zero, List.set_cons_succ]
    refine wpAnyH_take (i := 38) (oi := { dst := some 90, op := Op.binOp BinOp.eql 3 (Operand.tmp 88) (Operand.tmp 89) 3, type := 4, pos := "law.go:53", after := #[{ on := 36, ground := Ground.data }, { on := 37, ground := Ground.data }, { on := 35, ground := Ground.guard }], guard := some (35, true) }) (v := ?_) rfl (by kernel_rfl) (by kernel_rfl) (by kernel_rfl) (fun _ _ _ h => h) (Or.inl ⟨by rfl, ?_⟩) (by assumption) ?_
    rotate_left 1
    · intro w hSw
      (try dsimp only at hSw)
      first | (go_simp; done) | (go_simp; with_reducible rfl)
    try simp only [Act.put, List.setIfInBounds_toArray, List.set_cons_zero, List.set_cons_succ]
    refine wpAnyH_take (i := 39) (oi := { dst := some 91, op := Op.pick (Operand.tmp 87) (Operand.tmp 90) (Operand.const (Value.bool false)), type := 4, pos := "law.go:53", after := #[{ on := 35, ground := Ground.data }, { on := 38, ground := Ground.data }], guard := none }) (v := ?_) rfl (by kernel_rfl) (by kernel_rfl) (by kernel_rfl) (fun _ _ _ h => h) (Or.inl ⟨by rfl, ?_⟩) (by assumption) ?_
    rotate_left 1
    · intro w hSw
      (try dsimp only at hSw)
      first | (go_simp; done) | (go_simp; with_reducible rfl)
    try simp only [Act.put, List.setIfInBounds_toArray, List.set_cons_zero, List.set_cons_succ]
    refine wpAnyH_take (i := 40) (oi := { dst := some 4, op := Op.assign (Operand.tmp 91), type := 4, pos := "law.go:53", after := #[{ on := 39, ground := Ground.data }, { on := 35, ground := Ground.chain }, { on := 0, ground := Ground.phase }, { on := 1, ground := Ground.phase }, { on := 2, ground := Ground.phase }, { on := 3, ground := Ground.phase }, { on := 4, ground := Ground.phase }, { on := 5, ground := Ground.phase }, { on := 6, ground := Ground.phase }, { on := 7, ground := Ground.phase }, { on := 8, ground := Ground.phase }, { on := 9, ground := Ground.phase }, { on := 10, ground := Ground.phase }, { on := 11, ground := Ground.phase }, { on := 12, ground := Ground.phase }, { on := 13, ground := Ground.phase }, { on := 14, ground := Ground.phase }, { on := 15, ground := Ground.phase }, { on := 16, ground := Ground.phase }, { on := 17, ground := Ground.phase }, { on := 18, ground := Ground.phase }, { on := 19, ground := Ground.phase }, { on := 20, ground := Ground.phase }, { on := 21, ground := Ground.phase }, { on := 22, ground := Ground.phase }, { on := 23, ground := Ground.phase }, { on := 24, ground := Ground.phase }, { on := 25, ground := Ground.phase }, { on := 26, ground := Ground.phase }, { on := 27, ground := Ground.phase }, { on := 28, ground := Ground.phase }, { on := 29, ground := Ground.phase }, { on := 30, ground := Ground.phase }, { on := 31, ground := Ground.phase }, { on := 32, ground := Ground.phase }, { on := 33, ground := Ground.phase }, { on := 34, ground := Ground.phase }, { on := 35, ground := Ground.phase }, { on := 36, ground := Ground.phase }, { on := 37, ground := Ground.phase }, { on := 38, ground := Ground.phase }, { on := 39, ground := Ground.phase }], guard := none }) (v := ?_) rfl (by kernel_rfl) (by kernel_rfl) (by kernel_rfl) (fun _ _ _ h => h) (Or.inl ⟨by rfl, ?_⟩) (by assumption) ?_
    rotate_left 1
    · intro w hSw
      (try dsimp only at hSw)
      first | (go_simp; done) | (go_simp; with_reducible rfl)
    try simp only [Act.put, List.setIfInBounds_toArray, List.set_cons_zero, List.set_cons_succ]
    refine wpAnyH_done (by kernel_rfl) ?_ _
    go_wp2_with fail
    go_ret
    exact ⟨by simp, HBW.out _ (by assumption)⟩
  case inr.inl =>
    have y0 : (y == 0) = true := by rw [hy]; rfl
    have x0 : decide (x < 0) = true := by rw [hx]; rfl
    clear hy hx
    go_region_held3 (fun W => Below (w.heap.size + 1) W0 W ∧ W.cell? ⟨w.heap.size, 0, none⟩ = some (.int .i64 v) ∧ W.cell? ⟨w.heap.size, 1, none⟩ = some (.slice A n c))
      (first | exact HKS.out _ (by assumption) | exact HKS.out _ (below_drewN HB7.out 1))
      (first | (go_at_call 12; refine (HRi.out _ (by assumption)).mono ?_; rintro e wq ⟨rfl, hBq⟩) | (go_at_call 13; refine (HPR.out _ (by assumption)).mono ?_; rintro e wq ⟨rfl, hBq⟩))
    all_goals (go_wp2_with fail; go_ret; exact ⟨by simp, HBW.out _ (by assumption)⟩)
  case inr.inr =>
    have y0 : (y == 0) = true := by rw [hy]; rfl
    have x0 : decide (x < 0) = false := decide_eq_false (by omega)
    clear hy hx
    go_region_held3 (fun W => Below (w.heap.size + 1) W0 W ∧ W.cell? ⟨w.heap.size, 0, none⟩ = some (.int .i64 v) ∧ W.cell? ⟨w.heap.size, 1, none⟩ = some (.slice A n c))
      (first | exact HKS.out _ (by assumption) | exact HKS.out _ (below_drewN HB7.out 1))
      (first | (go_at_call 12; refine (HRi.out _ (by assumption)).mono ?_; rintro e wq ⟨rfl, hBq⟩) | (go_at_call 13; refine (HPR.out _ (by assumption)).mono ?_; rintro e wq ⟨rfl, hBq⟩))
    all_goals (go_wp2_with fail; go_ret; exact ⟨by simp, HBW.out _ (by assumption)⟩)

set_option maxHeartbeats 800000 in
set_option maxRecDepth 100000 in
theorem lifted (os : Os) (started : os.Started) (H : Type) (enc : TypeId × Value → H) :
    ReturnsInHanded {} Tryz.checked os 3 .any (fun w args => (Rows.cnfTellsSpec.pre enc Tryz.prog Tryz.f3 Rows.cnfTellsRow.domain false w args ∧ laidMetH Tryz.prog laidL w) ∧ sizedMet enc Tryz.prog Tryz.f3 (OpenSpec.ofChange Rows.cnfTellsSpec) false w args)
      (Rows.cnfTellsSpec.post enc Tryz.prog Tryz.f3 false true false false) := by
  refine returns_laid (C := Tryz.checked) (X := fun w _ => laidMetH Tryz.prog laidL w) (fun _ _ _ hh h => h.of_heap hh) own_knob started (by kernel_rfl) Tryz.func3
    (ChangeSpec.witness_shaped (enc := enc) (C := Tryz.checked) (os := os) (X := fun w _ => laidMetH Tryz.prog laidL w) false (World.laidAll Tryz.prog os laidL) #[.agg #[.int .i64 0, .slice none 0 0], .slice none 0 0] 8 (World.laidAll_os _ _ _)
      (laid_shaped os _) (by kernel_rfl) (by kernel_rfl) (by kernel_rfl) (laid_met os _)) ?_
  intro W base args ds gs before hval0 hW hL hsh
  obtain ⟨hl, hw8⟩ := lib_of_laid hL hsh
  have hval : ∀ (j : Nat) t v, Tryz.f3.params[j]? = some t → args[j]? = some v → Value.okWide Tryz.prog W .any base t v := hval0
  have hW' := hW
  obtain ⟨p, q, hA0, hV, rfl, _, _⟩ := hW
  have hA : DataW.TrodAll enc Tryz.prog W 0 (fun _ => true) true Tryz.f3.params.toList args.toList ds p := hA0
  rw [Tryz.params3] at hA hval
  obtain ⟨v0, v1, d0, d1, p0, p1, rfl, rfl, rfl, h0, h1⟩ := trodAll_two hA
  obtain ⟨rfl, rfl⟩ := trodVars_none hV
  obtain ⟨v, A, n, c, cs, rfl, hR, h32, hj, hn, hv0, hv1, _⟩ := open_form (hval 0 24 v0 rfl rfl) h0
  obtain ⟨Ab, nb, cb, bs, rfl, hRb, hnb⟩ := open_vals (hval 1 25 v1 rfl rfl) h1
  clear hA0 hval0
  have hlt0 : ∀ y ∈ p0, y.block < W.heap.size := fun y hy => by simpa using hW'.lt y (by simp [hy])
  have hlt1 : ∀ y ∈ p1, y.block < W.heap.size := fun y hy => by simpa using hW'.lt y (by simp [hy])
  refine (walk v A n c cs Ab nb cb bs W hl hw8 hR hRb h32 hj hn hnb hv0 hv1).mono fun e W' ⟨he, hB⟩ => ?_
  subst he
  exact ⟨_, rfl, _, _, _, [], _, [], hW', trodAll_mk1 (shut_bool Tryz.underlying4 true),
    trodAll_mk2 (Below.trod laid_out (by kernel_rfl) (of_decide_eq_true (by kernel_rfl)) h0 hB hlt0) (Below.trod laid_out (by kernel_rfl) (of_decide_eq_true (by kernel_rfl)) h1 hB hlt1), rfl, hB.frame _, fun h => by cases h⟩

theorem proved : Rows.CnfTellsSaid :=
  OpenClaim.holds_of_wide 3 Tryz.f3 rfl rfl rfl rfl rfl rfl rfl ⟨rfl, rfl, rfl, rfl, rfl⟩ rfl rfl rfl rfl rfl (by kernel_rfl) Tryz.func3 (by kernel_rfl)
    (of_decide_eq_true (by kernel_rfl)) (by unfold Func.isWrapper; first | (rw [if_pos (by decide +kernel)]; kernel_rfl) | (rw [if_neg (by decide +kernel)]; exact ⟨rfl, rfl⟩))
    (fun os started H enc _ => lifted os started H enc)
theorem card : Rows.CnfTellsCardSaid :=
  Claim7.holds_tied_plain_at .later [] [.data, .data, .data, .data, .sentinel, .sentinel, .pinned] true (true, "292d0317ec705d623d44237b5f20d3c4420c7e48b4447a8040bfec637836d25a") true proved (fun _ h => by cases h) (by kernel_rfl) (fun _ h => by cases h) cnfTells_row_tie rfl ⟨rfl, rfl⟩ (by kernel_rfl) rfl
    (fun f fn hf hfn => by
      obtain rfl : f = 3 := Option.some.inj ((show Tryz.prog.funcNamed "lariat/lariatlaw02.CnfTells" = some 3 by kernel_rfl).symm.trans hf) |>.symm
      obtain rfl : fn = Tryz.f3 := (Option.some.inj (Tryz.func3.symm.trans hfn)).symm
      exact ⟨by kernel_rfl, fun j t ht => by
        rw [Tryz.params3] at ht
        have hm : t ∈ [24, 25] := by simpa using Array.mem_of_getElem? ht
        have hall : ([24, 25].all fun u => !Tryz.prog.wantsStandIn u) = true := by kernel_rfl
        exact (show Tryz.prog.wantsStandIn t = false by simpa using List.all_eq_true.1 hall t hm)⟩)
    (by kernel_rfl)
end Go.Proofs.YtamfbnmpllogbaaGreatDoor.CTells
namespace Go.Proofs.YtamfbnmpllogbaaGreatDoor
theorem cnfTells_holds : Rows.CnfTellsCardSaid := CTells.card
#print axioms cnfTells_holds
end Go.Proofs.YtamfbnmpllogbaaGreatDoor
