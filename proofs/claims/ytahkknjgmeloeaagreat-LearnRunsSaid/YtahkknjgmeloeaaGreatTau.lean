/- The contracts of lariatlaw06.level and needless. The contract of lariatlaw06.needless: where the literal is needed. The contract of lariatlaw06.taught: what is learnt of a conflict is as it should be. -/
import Derived.Test.YtahkknjgmeloeaaGreatLrnN
import Derived.Test.YtahkknjgmeloeaaGreatFrsh
import Derived.Test.YtahkknjgmeloeaaGreatFols
import Derived.Test.YtahkknjgmeloeaaGreatLead
import Derived.Lib.QuietBelow
import Derived.Deep.RegionWith
import Derived.Deep.Slices
import Derived.Deep.Fields
namespace Go.Proofs.YtahkknjgmeloeaaGreat
open Go.RowKit LitM TrailM EngM

/-- How many have the greatest level. -/
def cntT (S : Eng) (xs : List Int) : Nat := (xs.filter fun l => decide (lvl S l = topZ S xs)).length
theorem cntT_snoc (S : Eng) (xs : List Int) {j : Nat} {l : Int} (h : xs[j]? = some l) : cntT S (xs.take (j + 1)) = if topZ S (xs.take j) < lvl S l then 1 else if lvl S l = topZ S (xs.take j) then cntT S (xs.take j) + 1 else cntT S (xs.take j) := by
  have ht := topZ_snoc S xs h
  have ho := (topZ_ok S (xs.take j)).2.1
  unfold cntT
  rw [ht]
  have e : xs.take (j + 1) = xs.take j ++ [l] := by rw [List.take_add_one, h]; rfl
  rw [e, List.filter_append]
  generalize topZ S (xs.take j) = T at *
  by_cases h1 : T < lvl S l
  · rw [if_pos h1, show max T (lvl S l) = lvl S l by omega]
    have : (xs.take j).filter (fun y => decide (lvl S y = lvl S l)) = [] := List.filter_eq_nil_iff.2 fun y hy => by
      have := ho y hy
      simp; omega
    rw [this]; simp
  · rw [if_neg h1, show max T (lvl S l) = T by omega]
    by_cases h2 : lvl S l = T
    · rw [if_pos h2]; simp [h2]
    · rw [if_neg h2]; simp [h2]
set_option maxHeartbeats 3200000 in
set_option maxRecDepth 100000 in
theorem level_any {B : Nat} {w0 w : World} {b : Nat} {q : Pm} {S : Eng} {xs : List Int} {A : Option Addr} {m c : Nat} (h : Sg B w0 w b S q) (hn : S.n ≤ 90000) (hxs : Rd .i32 w w.heap.size A m xs) (h32 : In32 xs) (hm : m ≤ 100000) :
    Calls Tryz.prog 23 #[.pointer (some ⟨b, 0, none⟩), .slice A m c] w fun e w' => e = .returned (.tuple #[.int .i64 (topZ S xs), .int .i64 (cntT S xs : Nat)]) ∧ ∃ r, w' = w.drewN r := by
  have HS := Lib.hid h
  have HR := Lib.hid hxs
  have HL := Lib.hid hxs.len
  have H32 := Lib.hid h32
  have HLB : Hid (∀ l, -1 ≤ lvl S l ∧ lvl S l ≤ 90000) := fun l => lvl_bd h.eng hn l
  have HWW : Hid (∃ r, w = w.drewN r) := ⟨0, rfl⟩
  obtain ⟨w1, hw1⟩ : ∃ w1, w1 = w := ⟨_, rfl⟩
  clear h hxs h32 hn
  go_enter Tryz.func23, Tryz.ntmps23
  go_wp2_with fail
  go_loopw [6, 7, 13] (fun tv mv iv wr => ∃ (j m' : Nat) (T : Int), tv = .int .i64 T ∧ mv = .int .i64 (m' : Int) ∧ iv = .int .i64 (j : Int) ∧ j ≤ m ∧ m' ≤ j ∧ 0 ≤ T ∧ T ≤ 90000 ∧ Hid (T = topZ S (xs.take j)) ∧ Hid (m' = cntT S (xs.take j)) ∧ Hid (∃ r, wr = w.drewN r)) (fun _ _ iv _ => m - (intOf iv).toNat)
  case atStart => exact ⟨0, 0, 0, rfl, rfl, rfl, by omega, by omega, by omega, by omega, Lib.hid rfl, Lib.hid rfl, HWW⟩
  case round =>
    obtain ⟨j, m', T, rfl, rfl, rfl, hj, hm', hT0, hT1, hT, hM, hW⟩ := hrel
    have HBr : Hid (Below w.heap.size w wr) := by
      obtain ⟨r, e⟩ := hW.out
      rw [e]; exact ⟨rfl, rfl, rfl, Nat.le_refl _, fun _ _ => rfl⟩
    by_cases hlt : j < m
    · have tj : decide (j < m) = true := decide_eq_true hlt
      have tj2 : decide ((j : Int) < (m : Int)) = true := decide_eq_true (by omega)
      obtain ⟨g, o, rfl, hgb, hcm⟩ := (HR.out.below HBr.out).get hlt
      obtain ⟨l0, l1⟩ := H32.out j
      have hxj : xs[j]? = some (xs.getD j 0) := by
        have := HL.out
        rw [List.getD, List.getElem?_eq_getElem (by omega)]; rfl
      have HTS : Hid (topZ S (xs.take (j + 1)) = max T (lvl S (xs.getD j 0))) := by unfold Hid; rw [topZ_snoc S xs hxj, ← hT.out]
      have HMS : Hid (cntT S (xs.take (j + 1)) = if T < lvl S (xs.getD j 0) then 1 else if lvl S (xs.getD j 0) = T then m' + 1 else m') := by unfold Hid; rw [cntT_snoc S xs hxj, ← hT.out, ← hM.out]
      clear hxj hgb
      generalize xs.getD j 0 = l at *
      have hlb := HLB.out l
      have h0 := (HS.out.below HBr.out).eng.h0
      have HVq : Hid (∀ V : World, Calls Tryz.prog 25 #[.int .i32 l] V fun e w' => e = .returned (.int .i64 (varZ l)) ∧ w' = V) := fun V => (rvar_any l V l0 l1).mono fun e w' ⟨h1, h2⟩ => ⟨h1, h2.symm⟩
      have HV : Hid (∀ r, Calls Tryz.prog 24 #[.pointer (some ⟨q.bt, 0, none⟩), .int .i64 (varZ l)] (wr.drewN r) fun e w' => e = .returned (.int .i64 (lvl S l)) ∧ w' = wr.drewN r) := fun r =>
        (((HS.out.below HBr.out).below (w' := wr.drewN r) ⟨rfl, rfl, rfl, Nat.le_refl _, fun _ _ => rfl⟩).asks.2.2.1 (varZ l)).mono fun e w' ⟨h1, h2⟩ => ⟨h1, h2.symm⟩
      generalize lvl S l = z at *
      generalize varZ l = v at *
      go_upto_region 5 with (fail)
      go_quiet (first | (go_at_call 25; exact Calls.quiet_of_same (HVq.out _)) | (go_at_call 24; exact Calls.quiet_of_same (HV.out _)))
      have HWn : Hid (∃ r, wr.drewN nq = w.drewN r) := by
        obtain ⟨r, e⟩ := hW.out
        exact ⟨r + nq, by rw [e, World.drewN_drewN]⟩
      clear HVq HV hcm h0 hW HBr hT hM
      generalize wr.drewN nq = wn at *
      by_cases h1 : T < z
      · have q1 : decide (T < z) = true := decide_eq_true h1
        have HM2 : Hid (cntT S (xs.take (j + 1)) = 1) := by unfold Hid; rw [HMS.out, if_pos h1]
        have HT2 : Hid (topZ S (xs.take (j + 1)) = z) := by unfold Hid; rw [HTS.out]; omega
        clear HMS HTS
        go_wp2_with fail
        go_roundw
        case rel => exact ⟨j + 1, 1, z, rfl, rfl, by go_num, by omega, by omega, by omega, by omega, HT2.out.symm, HM2.out.symm, HWn⟩
        case measure => simp [intOf]; omega
      · have q1 : decide (T < z) = false := decide_eq_false h1
        have HT2 : Hid (topZ S (xs.take (j + 1)) = T) := by unfold Hid; rw [HTS.out]; omega
        by_cases h2 : z = T
        · subst h2
          have HM2 : Hid (cntT S (xs.take (j + 1)) = m' + 1) := by unfold Hid; rw [HMS.out, if_neg h1, if_pos rfl]
          clear HMS HTS
          go_wp2_with fail
          go_roundw
          case rel => exact ⟨j + 1, m' + 1, z, rfl, by go_num, by go_num, by omega, by omega, by omega, by omega, HT2.out.symm, HM2.out.symm, HWn⟩
          case measure => simp [intOf]; omega
        · have q2 : (z == T) = false := by rw [beq_eq_false_iff_ne]; exact h2
          have HM2 : Hid (cntT S (xs.take (j + 1)) = m') := by unfold Hid; rw [HMS.out, if_neg h1, if_neg h2]
          clear HMS HTS
          go_wp2_with fail
          go_roundw
          case rel => exact ⟨j + 1, m', T, rfl, rfl, by go_num, by omega, by omega, by omega, by omega, HT2.out.symm, HM2.out.symm, HWn⟩
          case measure => simp [intOf]; omega
    have tj : decide (j < m) = false := decide_eq_false hlt
    have tj2 : decide ((j : Int) < (m : Int)) = false := decide_eq_false (by omega)
    obtain rfl : j = m := by omega
    have hfull : xs.take j = xs := List.take_of_length_le (Nat.le_of_eq HL.out)
    rw [hfull] at hT hM
    go_wp2_with fail
    go_ret2
    exact ⟨by rw [← hT.out, ← hM.out]; rfl, hW.out⟩
/-- What is needed has a witness. -/
theorem need_wit {S : Eng} (hI : Inv S) {zs : List Int} {l : Int} (hl : valZ S.L l = -1) (hz : ∀ y ∈ zs, valZ S.L y = -1) (hw : 0 ≤ reaZ S.L (varZ l) → ∃ y ∈ reaL S (varZ l), y ≠ -l ∧ 0 < lvl S y ∧ y ∉ zs) (h0 : 0 ≤ reaZ S.L (varZ l)) :
    ∃ y ∈ reaL S (varZ l), varZ y ≠ varZ l ∧ 0 < lvl S y ∧ y ∉ zs ∧ -y ∉ zs := by
  obtain ⟨y, hy, h1, h2, h3⟩ := hw h0
  obtain ⟨ho, j, x, hx, e, hf, e2, e3⟩ := false_at hI hl
  rw [e3] at h0
  obtain ⟨r, q1, q2, q3, q4, q5⟩ := hI.i8 j x hx h0
  have hrl : reaL S (varZ l) = (clA S.cs r).ls := by
    unfold reaL; rw [e3, if_pos h0, q1]; rfl
  rw [hrl] at hy
  have hyo : LitM.one y = true := (hI.ls q2 y hy).1
  have htr := q5 y hy (by rw [e]; exact h1)
  have htrL : Tr S.L (-y) := by
    obtain ⟨z, hz, ez⟩ := htr
    exact ⟨z, List.mem_of_mem_take hz, ez⟩
  refine ⟨y, by rw [hrl]; exact hy, fun hv => ?_, h2, h3, fun hm => ?_⟩
  · obtain ⟨z, hz, ez⟩ := htr
    obtain ⟨i, hi, hzi⟩ := List.getElem_of_mem hz
    rw [List.length_take] at hi
    rw [List.getElem_take] at hzi
    have hxl : j < S.L.length := (List.getElem?_eq_some_iff.1 hx).1
    have hxe : S.L[j] = x := (List.getElem?_eq_some_iff.1 hx).2
    have := List.pairwise_iff_getElem.1 hI.pre.dis i j (by omega) hxl (by omega)
    rw [hzi, hxe, ez, e, var_neg hyo, var_neg ho] at this
    exact this hv
  · have h4 := hz _ hm
    have h5 := (val_one hI.pre).2 htrL
    omega
end Go.Proofs.YtahkknjgmeloeaaGreat
namespace Go.Proofs.YtahkknjgmeloeaaGreat
open Go.RowKit LitM TrailM EngM

set_option maxHeartbeats 6400000 in
set_option maxRecDepth 100000 in
theorem needless_any {B bs b : Nat} {w0 w : World} {S : Eng} {q : Pm} {all : List (List Int)} (h : StZ B w0 w bs b S q all) {zs : List Int} {A : Option Addr} {n c : Nat} (hz : Rd .i32 w w.heap.size A n zs) (hn : n ≤ 100000) {l : Int} (hl : valZ S.L l = -1)
    (hwit : 0 ≤ reaZ S.L (varZ l) → ∃ y ∈ reaL S (varZ l), varZ y ≠ varZ l ∧ 0 < lvl S y ∧ y ∉ zs ∧ -y ∉ zs) :
    Calls Tryz.prog 28 #[.pointer (some ⟨bs, 0, none⟩), .slice A n c, .int .i32 l] w fun e w' => e = .returned (.bool false) ∧ Below w.heap.size w w' := by
  have hI := h.sg.inv
  have ho := (one_iff l).1 (false_var hI hl).2
  have HS := Lib.hid h
  have HZ := Lib.hid hz
  have HWT := Lib.hid hwit
  have c0 := h.c0
  have b0 := h.sg.eng.h0
  have HC : Hid (∀ W, Below w.heap.size w W → W.cell? ⟨bs, 0, none⟩ = some (.pointer (some ⟨b, 0, none⟩)) ∧ W.cell? ⟨b, 0, none⟩ = some (.pointer (some ⟨q.bt, 0, none⟩))) := fun W hW => ⟨(h.below hW).c0, (h.below hW).sg.eng.h0⟩
  have HVq : Hid (∀ V : World, Calls Tryz.prog 25 #[.int .i32 l] V fun e w' => e = .returned (.int .i64 (varZ l)) ∧ w' = V) := fun V => (rvar_any l V (by omega) (by omega)).mono fun e w' ⟨h1, h2⟩ => ⟨h1, h2.symm⟩
  have HV : Hid (∀ W, Below w.heap.size w W → Calls Tryz.prog 57 #[.pointer (some ⟨q.bt, 0, none⟩), .int .i64 (varZ l)] W fun e w' => e = .returned (.int .i64 (reaZ S.L (varZ l))) ∧ w' = W) := fun W hW => ((h.below hW).sg.asks.2.2.2.1 (varZ l)).mono fun e w' ⟨h1, h2⟩ => ⟨h1, h2.symm⟩
  obtain ⟨t1, t2, t3, t4⟩ := rea_there hI (varZ l)
  obtain ⟨hro, hrl⟩ := reaL_ok hI (varZ l)
  have HRO := Lib.hid hro
  have HCl : Hid (∀ W, Below w.heap.size w W → Calls Tryz.prog 22 #[.pointer (some ⟨b, 0, none⟩), .int .i64 (reaZ S.L (varZ l))] W fun e w' => ∃ A c, e = .returned (.tuple #[.slice A (reaL S (varZ l)).length c, .bool (decide (0 ≤ reaZ S.L (varZ l)))]) ∧ Hid (SlV 29 1 w' A (reaL S (varZ l)).length c (lsC (reaL S (varZ l)))) ∧ Below w.heap.size w w') := fun W hW => by
    refine (eclause_any (h.below hW).sg.eng hI.small (reaZ S.L (varZ l))).mono fun e w' ht => ?_
    rcases ht with ⟨a, e1, rfl⟩ | ⟨a, A, c, e1, e2, e3, e4⟩
    · rw [t1] at a
      have hr := t3 (of_decide_eq_false a)
      refine ⟨none, 0, by rw [e1, hr, a]; rfl, ?_, hW⟩
      rw [hr]; exact SlV.nil _ _ _ _
    · rw [t1] at a
      have hr := t4 (of_decide_eq_true a)
      exact ⟨A, c, by rw [e1, hr, a], by rw [hr]; exact e2, hW.trans (e4.mono hW.size)⟩
  have HLB : Hid (∀ l, -1 ≤ lvl S l ∧ lvl S l ≤ 90000) := fun l => lvl_bd h.sg.eng hI.small.n l
  clear h hz hwit t1 t2 t3 t4 hl hro hI
  generalize reaZ S.L (varZ l) = z at *
  generalize reaL S (varZ l) = rl at *
  generalize varZ l = v at *
  go_enter Tryz.func28, Tryz.ntmps28
  go_wp2_with fail
  refine (HVq.out _).mono ?_
  rintro e w' ⟨rfl, rfl⟩
  go_upto_region 2 with (fail)
  have hb0 : Below w'.heap.size w' w'.drew := (Below.refl _ _).drew
  go_cut [8, 9] (fun va vb wx => ∃ A' c', va = .slice A' rl.length c' ∧ vb = .bool (decide (0 ≤ z)) ∧ Hid (SlV 29 1 wx A' rl.length c' (lsC rl)) ∧ Hid (Below w'.heap.size w' wx))
  case first =>
    go_region_held3 (fun W => Below w'.heap.size w' W ∧ W.cell? ⟨bs, 0, none⟩ = some (.pointer (some ⟨b, 0, none⟩)) ∧ W.cell? ⟨b, 0, none⟩ = some (.pointer (some ⟨q.bt, 0, none⟩)))
      (first | exact ⟨by assumption, HC.out _ (by assumption)⟩ | exact ⟨hb0, c0, b0⟩)
      (first | (go_at_call 57; with_reducible refine (HV.out _ (by assumption)).mono ?_; rintro e wq ⟨rfl, rfl⟩) | (go_at_call 22; with_reducible refine (HCl.out _ (by assumption)).mono ?_; rintro e wq ⟨A', c', rfl, hSl, hBq⟩))
    all_goals (go_wp2_with fail; go_meet; exact ⟨A', c', rfl, rfl, hSl, by assumption⟩)
  case rest =>
  obtain ⟨A', c', rfl, rfl, hSl, hB⟩ := hcut
  clear hb0 c0 b0 HV HCl HVq
  by_cases hz0 : 0 ≤ z
  case neg =>
    have q1 : decide (0 ≤ z) = false := decide_eq_false hz0
    go_wp2_with fail
    go_ret
    exact ⟨rfl, hB.out⟩
  have q1 : decide (0 ≤ z) = true := decide_eq_true hz0
  obtain ⟨y0, hy0, hy1, hy2, hy3, hy4⟩ := HWT.out hz0
  have HY : Hid (∀ j, j < rl.length → (varZ (rl.getD j 0) = v ∨ lvl S (rl.getD j 0) ≤ 0 ∨ rl.getD j 0 ∈ zs ∨ -(rl.getD j 0) ∈ zs) → rl.getD j 0 ≠ y0) := fun j hj h e => by
    rw [e] at h
    rcases h with h | h | h | h
    · exact hy1 h
    · omega
    · exact hy3 h
    · exact hy4 h
  have HYM := Lib.hid hy0
  clear hy0 hy1 hy2 hy3 hy4 HWT
  go_wp2_with fail
  go_loopw [35] (fun iv wr => ∃ j : Nat, iv = .int .i64 (j : Int) ∧ j ≤ rl.length ∧ Hid (∀ i, i < j → rl.getD i 0 ≠ y0) ∧ Hid (Below w'.heap.size w' wr) ∧ Hid (SlV 29 1 wr A' rl.length c' (lsC rl))) (fun iv _ => rl.length - (intOf iv).toNat)
  case atStart => exact ⟨0, rfl, by omega, Lib.hid (fun i hi => by omega), hB, hSl⟩
  case round =>
    clear hB hSl
    obtain ⟨j, rfl, hj, hno, hB, hSl⟩ := hrel
    by_cases hlt : j < rl.length
    case neg =>
      obtain ⟨i, hi, e⟩ := List.getElem_of_mem HYM.out
      exact absurd (by rw [List.getD, List.getElem?_eq_getElem hi, ← e]; rfl) (hno.out i (by omega))
    have tj : decide (j < rl.length) = true := decide_eq_true hlt
    have tj2 : decide ((j : Int) < (rl.length : Int)) = true := decide_eq_true (by omega)
    obtain ⟨gx, rfl, hrow⟩ := hSl.out.row (by omega)
    have hcm : wr.cell? ⟨gx, j, none⟩ = some (.int .i32 (rl.getD j 0)) := hrow.cell (show j < rl.length * 1 by omega)
    have hbd := hrow.bd
    obtain ⟨hbd1, hbd2⟩ := hbd
    have hyo := (one_iff _).1 (HRO.out (rl.getD j 0) (by rw [List.getD, List.getElem?_eq_getElem hlt]; exact List.getElem_mem hlt)).1
    have HYj := Lib.hid (HY.out j hlt)
    have HNX : Hid (rl.getD j 0 ≠ y0 → ∀ i, i < j + 1 → rl.getD i 0 ≠ y0) := fun h i hi => by
      rcases Nat.lt_or_ge i j with h2 | h2
      · exact hno.out i h2
      · rw [show i = j by omega]; exact h
    obtain ⟨cs6, b6⟩ := HC.out _ hB.out
    obtain ⟨y, hy⟩ : ∃ y, y = rl.getD j 0 := ⟨_, rfl⟩
    rw [← hy] at hcm hyo HYj HNX
    clear hy hrow
    have hlb := HLB.out y
    have hw1 : IntKind.i32.wrap (-y) = -y := by rw [IntKind.wrap_i32]; omega
    have HVy : Hid (∀ V : World, Calls Tryz.prog 25 #[.int .i32 y] V fun e w' => e = .returned (.int .i64 (varZ y)) ∧ w' = V) := fun V => (rvar_any y V (by omega) (by omega)).mono fun e w' ⟨h1, h2⟩ => ⟨h1, h2.symm⟩
    have HLy : Hid (∀ r, Calls Tryz.prog 24 #[.pointer (some ⟨q.bt, 0, none⟩), .int .i64 (varZ y)] (wr.drewN r) fun e w' => e = .returned (.int .i64 (lvl S y)) ∧ w' = wr.drewN r) := fun r => ((HS.out.below (below_drewN hB.out r)).sg.asks.2.2.1 (varZ y)).mono fun e w' ⟨h1, h2⟩ => ⟨h1, h2.symm⟩
    have HH1 : Hid (∀ r, Calls Tryz.prog 32 #[.slice A n c, .int .i32 y] (wr.drewN r) fun e w' => e = .returned (.bool (hasB zs y)) ∧ w' = wr.drewN r) := fun r => (rhas_any A n c zs y (wr.drewN r) _ (HZ.out.below (below_drewN hB.out r)) (by omega)).mono fun e w' ⟨h1, h2⟩ => ⟨h1, h2.symm⟩
    have HH2 : Hid (∀ r, Calls Tryz.prog 32 #[.slice A n c, .int .i32 (-y)] (wr.drewN r) fun e w' => e = .returned (.bool (hasB zs (-y))) ∧ w' = wr.drewN r) := fun r => (rhas_any A n c zs (-y) (wr.drewN r) _ (HZ.out.below (below_drewN hB.out r)) (by omega)).mono fun e w' ⟨h1, h2⟩ => ⟨h1, h2.symm⟩
    have HSN : Hid (∀ r, SlV 29 1 (wr.drewN r) (some ⟨gx, 0, none⟩) rl.length c' (lsC rl)) := fun r => hSl.out.below ⟨rfl, rfl, rfl, Nat.le_refl _, fun _ _ => rfl⟩
    have HBN : Hid (∀ r, Below w'.heap.size w' (wr.drewN r)) := fun r => below_drewN hB.out r
    have HM1 : Hid (hasB zs y = true → y ∈ zs) := fun h => (hasB_iff _ _).1 h
    have HM2 : Hid (hasB zs (-y) = true → -y ∈ zs) := fun h => (hasB_iff _ _).1 h
    clear hB hSl hno
    generalize lvl S y = ly at *
    generalize varZ y = vy at *
    generalize hasB zs y = h1 at *
    generalize hasB zs (-y) = h2 at *
    by_cases e1 : vy = v
    · have p1 : (vy != v) = false := by simp [e1]
      have HN := Lib.hid (HNX.out (HYj.out (.inl e1)))
      clear HYj HNX HM1 HM2
      go_upto_region 8 with (fail)
      go_quiet (first | (go_at_call 25; exact Calls.quiet_of_same (HVy.out _)) | (go_at_call 24; exact Calls.quiet_of_same (HLy.out _)) | (go_at_call 32; first | with_reducible exact Calls.quiet_of_same (HH1.out _) | exact Calls.quiet_of_same (HH2.out _)))
      go_wp2_with fail
      go_roundw
      case rel => exact ⟨j + 1, by go_num, by omega, HN, HBN.out _, HSN.out _⟩
      case measure => simp [intOf]; omega
    have p1 : (vy != v) = true := by simpa using e1
    by_cases e2 : ly ≤ 0
    · have p2 : decide (0 < ly) = false := decide_eq_false (by omega)
      have HN := Lib.hid (HNX.out (HYj.out (.inr (.inl e2))))
      clear HYj HNX HM1 HM2
      go_upto_region 8 with (fail)
      go_quiet (first | (go_at_call 25; exact Calls.quiet_of_same (HVy.out _)) | (go_at_call 24; exact Calls.quiet_of_same (HLy.out _)) | (go_at_call 32; first | with_reducible exact Calls.quiet_of_same (HH1.out _) | exact Calls.quiet_of_same (HH2.out _)))
      go_wp2_with fail
      go_roundw
      case rel => exact ⟨j + 1, by go_num, by omega, HN, HBN.out _, HSN.out _⟩
      case measure => simp [intOf]; omega
    have p2 : decide (0 < ly) = true := decide_eq_true (by omega)
    cases h1 with
    | true =>
      have HN := Lib.hid (HNX.out (HYj.out (.inr (.inr (.inl (HM1.out rfl))))))
      clear HYj HNX HM1 HM2
      go_upto_region 8 with (fail)
      go_quiet (first | (go_at_call 25; exact Calls.quiet_of_same (HVy.out _)) | (go_at_call 24; exact Calls.quiet_of_same (HLy.out _)) | (go_at_call 32; first | with_reducible exact Calls.quiet_of_same (HH1.out _) | exact Calls.quiet_of_same (HH2.out _)))
      go_wp2_with fail
      go_roundw
      case rel => exact ⟨j + 1, by go_num, by omega, HN, HBN.out _, HSN.out _⟩
      case measure => simp [intOf]; omega
    | false =>
      cases h2 with
      | true =>
        have HN := Lib.hid (HNX.out (HYj.out (.inr (.inr (.inr (HM2.out rfl))))))
        clear HYj HNX HM1 HM2
        go_upto_region 8 with (fail)
        go_quiet (first | (go_at_call 25; exact Calls.quiet_of_same (HVy.out _)) | (go_at_call 24; exact Calls.quiet_of_same (HLy.out _)) | (go_at_call 32; first | with_reducible exact Calls.quiet_of_same (HH1.out _) | exact Calls.quiet_of_same (HH2.out _)))
        go_wp2_with fail
        go_roundw
        case rel => exact ⟨j + 1, by go_num, by omega, HN, HBN.out _, HSN.out _⟩
        case measure => simp [intOf]; omega
      | false =>
        clear HYj HNX HM1 HM2
        go_upto_region 8 with (fail)
        go_quiet (first | (go_at_call 25; exact Calls.quiet_of_same (HVy.out _)) | (go_at_call 24; exact Calls.quiet_of_same (HLy.out _)) | (go_at_call 32; first | with_reducible exact Calls.quiet_of_same (HH1.out _) | exact Calls.quiet_of_same (HH2.out _)))
        go_wp2_with fail
        go_ret
        exact ⟨rfl, HBN.out _⟩
end Go.Proofs.YtahkknjgmeloeaaGreat
namespace Go.Proofs.YtahkknjgmeloeaaGreat
open Go.RowKit LitM TrailM EngM

theorem rdg_all {w : World} {q : Pm} {B bs c : Nat} {A : Option Addr} {all : List (List Int)} (h : AllZ w q B bs A c all) : RdG w A all.length all := by
  refine ⟨rfl, fun j hj => ?_⟩
  obtain ⟨f, hf, he⟩ := h.row
  obtain ⟨g, rfl, hr⟩ := hf.row (by omega)
  obtain ⟨A', c', e1, e2, _⟩ := he j hj
  have hb := e2.bd
  refine ⟨g, 0, A', c', rfl, ?_, hb.1, hb.2, SlV.rd e2 rfl⟩
  rw [Nat.zero_add, hr.cell (show j < all.length * 1 by omega), e1]
theorem rup_of {S : Eng} {t : Nat} {zs : List Int} (h : Lrnt S t zs) {all : List (List Int)} (hall : all = (S.cs.map Cl.ls).filter fun c => !bothB c) : Rup all zs := fun T hc hf => h.rup T ⟨hc, fun i hi _ hb => hf _ (by
  rw [hall, List.mem_filter]
  refine ⟨List.mem_map.2 ⟨clA S.cs i, ?_, rfl⟩, by rw [hb]; rfl⟩
  unfold clA
  rw [List.getD, List.getElem?_eq_getElem hi]; exact List.getElem_mem _)⟩
/-- The greatest level, and how many have it; that of the others. -/
theorem Lrnt.tops {S : Eng} {t : Nat} {u : Int} {r : List Int} (h : Lrnt S t (u :: r)) : topZ S (u :: r) = (t : Int) ∧ cntT S (u :: r) = 1 ∧ topZ S r = backZ S (u :: r) ∧ lvl S u = (t : Int) := by
  obtain ⟨u', r', e, hu, hr, hb⟩ := h.hd
  injection e with e1 e2
  subst e1 e2
  have hu1 := h.fl u (by simp)
  have ht : topZ S (u :: r) = (t : Int) := by
    obtain ⟨a, b, c⟩ := topZ_ok S (u :: r)
    have h1 := b u (by simp)
    rcases c with c | ⟨y, hy, c⟩
    · omega
    · have := h.fl y hy; omega
  refine ⟨ht, ?_, ?_, hu⟩
  · unfold cntT
    rw [ht, List.filter_cons, if_pos (by simpa using hu)]
    have : r.filter (fun l => decide (lvl S l = (t : Int))) = [] := List.filter_eq_nil_iff.2 fun y hy => by
      have := (hr y hy).1
      simp; omega
    rw [this]; rfl
  · obtain ⟨a, b, c⟩ := topZ_ok S r
    rcases hb with ⟨rfl, e0⟩ | ⟨y, hy, e0⟩
    · rw [e0]; rfl
    · have h1 := b y hy
      rcases c with c | ⟨x, hx, c⟩
      · have := (h.fl y (List.mem_cons_of_mem _ hy)).2.1; omega
      · have := (hr x hx).2; omega
theorem clean_eqlen {xs ys : List Int} (h : IsClean xs ys) (hn : xs.Nodup) : ys.length = xs.length := by
  have h1 : ys.length ≤ xs.length := clean_le h
  have h2 : xs.length ≤ ys.length := List.Nodup.length_le_of_subset hn (fun x hx => (h.2 x).2 hx)
  omega
theorem rd_tail {w : World} {g c : Nat} {u : Int} {r : List Int} (h : RowV 29 1 w g (u :: r).length c (lsC (u :: r))) (A : Option Addr) (hA : 0 < r.length → A = some ⟨g, 1, none⟩) : Rd .i32 w w.heap.size A r.length r :=
  ⟨rfl, fun h0 => ⟨g, 1, hA h0, h.lt, fun j hj => by
    rw [h.cell (show 1 + j < (u :: r).length * 1 by simp; omega)]
    unfold lsC
    rw [Nat.add_comm]; rfl⟩⟩
def TauTo (S : Eng) (id : Int) (w : World) (e : Ending) (w' : World) : Prop :=
  Below w.heap.size w w' ∧
  ((topZ S (clsL S id) = 0 ∧ e = .returned (.tuple #[.slice none 0 0, .int .i64 0, .bool true])) ∨
   (CnfZ S id ∧ ∃ g c zs, e = .returned (.tuple #[.slice (some ⟨g, 0, none⟩) zs.length c, .int .i64 (backZ S zs), .bool true]) ∧ Lrnt S (topZ S (clsL S id)).toNat zs ∧ RowV 29 1 w' g zs.length c (lsC zs) ∧ w.heap.size ≤ g))
set_option maxHeartbeats 12800000 in
set_option maxRecDepth 100000 in
theorem taught_any {B bs b : Nat} {w0 w : World} {S : Eng} {q : Pm} {all : List (List Int)} (h : StZ B w0 w bs b S q all) (hDI : DecI S) (hal : all = (S.cs.map Cl.ls).filter fun c => !bothB c) (hN : S.n ≤ 20) (hcs : S.cs.length ≤ 200) (id : Int) (hfl : ∀ l ∈ clsL S id, valZ S.L l = -1) :
    Calls Tryz.prog 7 #[.pointer (some ⟨bs, 0, none⟩), .int .i64 id] w (TauTo S id w) := by
  have hI := h.sg.inv
  have HI := Lib.hid hI
  have HS := Lib.hid h
  have HDI := Lib.hid hDI
  have HAL := Lib.hid hal
  have HCl := Lib.hid (clause_u h.sg.eng hI.small id)
  obtain ⟨hxo, hxl⟩ := clsL_ok hI id
  have HXO := Lib.hid hxo
  have HX32 : Hid (In32 (clsL S id)) := In32.of fun y hy => by have := (one_iff y).1 (hxo y hy).1; omega
  have HCF : Hid (CnfZ S id ↔ 0 < topZ S (clsL S id)) := ⟨fun h => h.2, fun h => ⟨hfl, h⟩⟩
  obtain ⟨t0, t1, t2⟩ := topZ_ok S (clsL S id)
  have hlb : ∀ l, lvl S l ≤ 90000 := fun l => (lvl_bd h.sg.eng hI.small.n l).2
  have HT : Hid (0 ≤ topZ S (clsL S id) ∧ topZ S (clsL S id) ≤ 90000) := ⟨t0, by
    rcases t2 with e | ⟨y, _, e⟩
    · omega
    · rw [← e]; exact hlb y⟩
  have HAO : Hid (∀ c ∈ all, c.length ≤ 100000 ∧ ∀ y ∈ c, LitM.one y = true ∧ varZ y < ((S.n + 1 : Nat) : Int)) := fun c hc => by
    rw [hal, List.mem_filter] at hc
    obtain ⟨cl, hcl, e⟩ := List.mem_map.1 hc.1
    obtain ⟨i, hi, e2⟩ := List.getElem_of_mem hcl
    have hls : (clA S.cs i).ls = c := by
      unfold clA
      rw [List.getD, List.getElem?_eq_getElem hi, ← e, ← e2]; rfl
    obtain ⟨h1, _, h3, _⟩ := hI.small.cl i hi
    rw [hls] at h1 h3
    exact ⟨by omega, fun y hy => ⟨(h1 y hy).1, by have := (h1 y hy).2; omega⟩⟩
  have hall : all.length ≤ 200 := by
    rw [hal]
    have h1 := List.length_filter_le (fun c => !bothB c) (S.cs.map Cl.ls)
    simp at h1
    simp
    omega
  have c0 := h.c0
  clear h hI hDI hal hxo t0 t1 t2 hlb hfl
  unfold TauTo
  go_enter Tryz.func7, Tryz.ntmps7
  go_wp2_with fail
  refine HCl.out.mono ?_
  rintro e w1 ⟨Ac, cc, rfl, hsl, hon, hb1⟩
  have HS1 := Lib.hid (HS.out.below hb1)
  have HLv := Lib.hid (level_any (c := cc) HS1.out.sg HI.out.small.n (SlV.rd hsl rfl) HX32.out (by omega))
  have HB1 : Hid (Below w.heap.size w w1) := hb1
  have c1 := HS1.out.c0
  clear hsl hon hb1 HCl c0 HX32
  go_wp2_with fail
  refine HLv.out.mono ?_
  rintro e w2 ⟨rfl, r, hr⟩
  have HS2 : Hid (StZ B w0 w2 bs b S q all) := by rw [hr]; exact HS1.out.below ⟨rfl, rfl, rfl, Nat.le_refl _, fun _ _ => rfl⟩
  have HB2 : Hid (Below w.heap.size w w2) := by rw [hr]; exact below_drewN HB1.out r
  have HLn := Lib.hid (learn_any HS2.out.sg.eng HI.out HDI.out id)
  have c2 := HS2.out.c0
  clear hr HS1 HB1 HLv c1
  go_wp2_with fail
  refine HLn.out.mono ?_
  rintro e w3 ⟨hb3, hl⟩
  have HS3 := Lib.hid (HS2.out.below hb3)
  have HB3 : Hid (Below w.heap.size w w3) := HB2.out.trans (hb3.mono HB2.out.size)
  have HG3 : Hid (w.heap.size ≤ w2.heap.size) := HB2.out.size
  clear HS2 HB2 HLn c2 hb3
  rcases hl with ⟨hn, rfl⟩ | ⟨hc, g, cz, zs, rfl, hz, hrow, hg⟩
  · have hT0 : topZ S (clsL S id) = 0 := by
      have := HT.out
      have h2 : ¬ 0 < topZ S (clsL S id) := fun h => hn (HCF.out.2 h)
      omega
    have HT0 := Lib.hid hT0
    rw [hT0]
    clear hT0 hn HCF
    go_wp2_with fail
    go_ret3
    exact ⟨HB3.out, .inl ⟨HT0.out, rfl⟩⟩
  have HC := Lib.hid hc
  have htp := HCF.out.1 hc
  obtain ⟨t, ht⟩ : ∃ t : Nat, topZ S (clsL S id) = (t : Int) := ⟨(topZ S (clsL S id)).toNat, by omega⟩
  have HTE := Lib.hid ht
  have HTN : Hid ((topZ S (clsL S id)).toNat = t) := by unfold Hid; rw [ht]; simp
  rw [HTN.out] at hz
  rw [ht]
  have ht1 : 1 ≤ t := by omega
  have ht9 : t ≤ 90000 := by have := HT.out; omega
  obtain ⟨u, rr, rfl, _⟩ := hz.hd
  have HZ := Lib.hid hz
  have HROW := Lib.hid hrow
  have HGG : Hid (w.heap.size ≤ g) := Nat.le_trans HG3.out hg
  obtain ⟨e1, e2, e3, e4⟩ := hz.tops
  have hzl := hz.len HI.out
  have hzo : ∀ y ∈ u :: rr, LitM.one y = true ∧ varZ y ≤ (S.n : Int) := fun y hy => by
    have := false_var HI.out (hz.fl y hy).1
    exact ⟨this.2, this.1⟩
  have HZO := Lib.hid hzo
  have HZ32 : Hid (In32 (u :: rr)) := In32.of fun y hy => by have := (one_iff y).1 (hzo y hy).1; omega
  have HR32 : Hid (In32 rr) := In32.of fun y hy => by have := (one_iff y).1 (hzo y (List.mem_cons_of_mem _ hy)).1; omega
  have hu32 := (one_iff u).1 (hzo u (by simp)).1
  have c3 := HS3.out.c0
  have hbd := hrow.bd
  obtain ⟨hbd1, hbd2⟩ := hbd
  have hK1 : 1 ≤ (u :: rr).length := by simp
  have HKR : Hid (rr.length + 1 = (u :: rr).length) := by unfold Hid; simp
  have HLv2 := Lib.hid (level_any (c := cz) HS3.out.sg HI.out.small.n (SlV.rd (.inr ⟨g, rfl, hrow⟩) rfl) HZ32.out (by omega))
  rw [e1, e2] at HLv2
  have HE3 := Lib.hid e3
  have HE4 := Lib.hid e4
  have HKK : Hid (∀ K, K = (u :: rr).length → K ≤ 20) := fun K hk => by omega
  obtain ⟨K, hK⟩ : ∃ K, K = (u :: rr).length := ⟨_, rfl⟩
  have hKc : K ≤ cz := by omega
  have hK0 : 0 < K := by omega
  have hK20 := HKK.out K hK
  rw [← hK] at hK1 HKR HLv2 ⊢
  have HROWK : Hid (RowV 29 1 w3 g K cz (lsC (u :: rr))) := by rw [hK]; exact HROW.out
  have HKE := Lib.hid hK
  have tK : ((K : Int) == 0) = false := by rw [beq_eq_false_iff_ne]; omega
  clear hz hrow hg hc htp ht HT HCF HG3 e1 e2 e3 e4 hzo hzl hK HKK HROW hbd1
  go_wp2_with fail
  refine HLv2.out.mono ?_
  rintro e w4 ⟨rfl, r4, hr4⟩
  have HS4 : Hid (StZ B w0 w4 bs b S q all) := by rw [hr4]; exact HS3.out.below ⟨rfl, rfl, rfl, Nat.le_refl _, fun _ _ => rfl⟩
  have HB4 : Hid (Below w.heap.size w w4) := by rw [hr4]; exact below_drewN HB3.out r4
  have HROW4 : Hid (RowV 29 1 w4 g K cz (lsC (u :: rr))) := by rw [hr4]; exact HROWK.out
  clear hr4 HS3 HB3 HROWK HLv2 c3
  have c4 := HS4.out.c0
  have b4 := HS4.out.sg.eng.h0
  have HL1 : Hid (∀ (A1 : Option Addr) (m1 c1 : Nat), m1 = rr.length → (0 < rr.length → A1 = some ⟨g, 1, none⟩) → ∀ r, Calls Tryz.prog 23 #[.pointer (some ⟨b, 0, none⟩), .slice A1 m1 c1] (w4.drewN r) fun e w'' => e = .returned (.tuple #[.int .i64 (backZ S (u :: rr)), .int .i64 (cntT S rr : Nat)]) ∧ ∃ m, w'' = w4.drewN m) := fun A1 m1 c1 hm hA r => by
    have hb : Below w4.heap.size w4 (w4.drewN r) := ⟨rfl, rfl, rfl, Nat.le_refl _, fun _ _ => rfl⟩
    have hr := rd_tail (by rw [← HKE.out]; exact HROW4.out) A1 hA
    have hl := level_any (c := c1) (HS4.out.below hb).sg HI.out.small.n (hm ▸ hr.below hb) HR32.out (by have := HKR.out; omega)
    rw [HE3.out] at hl
    exact hl.mono fun e w' ⟨h1, r2, h2⟩ => ⟨h1, r + r2, by rw [h2, World.drewN_drewN]⟩
  have hKR := HKR.out
  go_upto_region 9 with (fail)
  go_cut [16] (fun v16 wx => v16 = .int .i64 (backZ S (u :: rr)) ∧ ∃ r, wx = w4.drewN r)
  case first =>
    by_cases hc1 : cz = 1
    · subst hc1
      go_quiet ((go_at_call 23; exact HL1.out _ _ _ (by omega) (fun h => absurd h (by omega)) _))
      go_wp2_with fail
      go_meet
      exact ⟨rfl, _, rfl⟩
    · have tc1 : (cz == 1) = false := by rw [beq_eq_false_iff_ne]; exact hc1
      go_quiet ((go_at_call 23; exact HL1.out _ _ _ (by omega) (fun h => rfl) _))
      go_wp2_with fail
      go_meet
      exact ⟨rfl, _, rfl⟩
  case rest =>
  obtain ⟨rfl, r5, hr5⟩ := hcut
  have HS5 : Hid (StZ B w0 wc bs b S q all) := by rw [hr5]; exact HS4.out.below ⟨rfl, rfl, rfl, Nat.le_refl _, fun _ _ => rfl⟩
  have HB5 : Hid (Below w.heap.size w wc) := by rw [hr5]; exact below_drewN HB4.out r5
  have HROW5 : Hid (RowV 29 1 wc g K cz (lsC (u :: rr))) := by rw [hr5]; exact HROW4.out
  clear hr5 HS4 HB4 HROW4 HL1 c4 b4 hKR
  obtain ⟨A6, c6, hh6, ha6⟩ := HS5.out.mem
  have hd6 : wc.cell? ⟨bs, 1, none⟩ = some (.slice A6 all.length c6) := by rw [Lib.cell_of_heap hh6]; rfl
  have cs6 := cell_regrown HS5.out.c0
  have b6 := cell_regrown HS5.out.sg.eng.h0
  have d6 := cell_regrown hd6
  have hg6 : wc.cell? ⟨g, 0, none⟩ = some (.int .i32 u) := by
    rw [HROW5.out.cell (show 0 < K * 1 by omega)]; rfl
  have g6 := cell_regrown hg6
  have HVu : Hid (∀ d os, Calls Tryz.prog 25 #[.int .i32 u] (Go.Sort.grow (redrawn wc d) os) fun e w' => e = .returned (.int .i64 (varZ u)) ∧ ∃ p : Regrown, w' = Go.Sort.grow (redrawn wc p.d) p.os) := fun d os =>
    Calls.regrown_of ((rvar_any u _ (by omega) (by omega)).mono fun e w' ⟨h1, h2⟩ => ⟨h1, by rw [← h2]; exact Below.refl _ _⟩)
  have HLe : Hid (∀ d os, Calls Tryz.prog 24 #[.pointer (some ⟨q.bt, 0, none⟩), .int .i64 (varZ u)] (Go.Sort.grow (redrawn wc d) os) fun e w' => e = .returned (.int .i64 (t : Int)) ∧ ∃ p : Regrown, w' = Go.Sort.grow (redrawn wc p.d) p.os) := fun d os => by
    have h := (HS5.out.sg.below (below_regrown wc d os)).asks.2.2.1 (varZ u)
    rw [show levZ S.L (varZ u) = (t : Int) from HE4.out] at h
    exact Calls.regrown_of (h.mono fun e w' ⟨h1, h2⟩ => ⟨h1, by rw [← h2]; exact Below.refl _ _⟩)
  have HVr : Hid (∀ d os, Calls Tryz.prog 27 #[.pointer (some ⟨q.bt, 0, none⟩)] (Go.Sort.grow (redrawn wc d) os) fun e w' => e = .returned (.int .i64 (S.n : Int)) ∧ ∃ p : Regrown, w' = Go.Sort.grow (redrawn wc p.d) p.os) := fun d os => by
    have h := (HS5.out.sg.below (below_regrown wc d os)).asks.2.2.2.2.1
    exact Calls.regrown_of (h.mono fun e w' ⟨h1, h2⟩ => ⟨h1, by rw [← h2]; exact Below.refl _ _⟩)
  have HFo : Hid (∀ d os, Calls Tryz.prog 26 #[.int .i64 (S.n : Int), .slice A6 all.length c6, .slice (some ⟨g, 0, none⟩) K cz] (Go.Sort.grow (redrawn wc d) os) fun e w' => e = .returned (.bool true) ∧ ∃ p : Regrown, w' = Go.Sort.grow (redrawn wc p.d) p.os) := fun d os => by
    have hx := below_regrown wc d os
    have hzr := SlV.rd ((show SlV 29 1 wc (some ⟨g, 0, none⟩) K cz (lsC (u :: rr)) from .inr ⟨g, rfl, HROW5.out⟩).below hx) HKE.out.symm
    exact Calls.regrown_of (follows_any (by omega) ((rdg_all ha6).below hx) HAO.out (by omega) hzr (fun y hy => by
      have h1 := HZO.out y hy
      exact ⟨h1.1, by omega⟩) (by omega) (rup_of HZ.out HAL.out))
  clear hh6 hd6 ha6 hg6
  generalize varZ u = vu at *
  obtain ⟨bk, hbk⟩ : ∃ bk, bk = backZ S (u :: rr) := ⟨_, rfl⟩
  rw [← hbk]
  have HBK := Lib.hid hbk
  clear hbk
  go_upto_region 10 with (fail)
  refine wp_region_quiet_below (by kernel_rfl) (by kernel_rfl) ?_
  repeat (quiet_step (first | (go_at_call 25; exact HVu.out _ _) | (go_at_call 24; exact HLe.out _ _) | (go_at_call 27; exact HVr.out _ _) | (go_at_call 26; exact HFo.out _ _)))
  refine wpQuiet_nil ?_
  intro w6 hw'
  have hb6 : Below wc.heap.size wc w6 := by
    obtain ⟨⟨dq, osq⟩, hw''⟩ := hw'
    rw [hw'']; exact below_regrown wc dq osq
  have HS6 := Lib.hid (HS5.out.below hb6)
  have HB6 : Hid (Below w.heap.size w w6) := HB5.out.trans (hb6.mono HB5.out.size)
  have HROW6 : Hid (RowV 29 1 w6 g K cz (lsC (u :: rr))) := HROW5.out.same (hb6.block g HROW5.out.lt)
  clear hw' hb6 HS5 HB5 HROW5 cs6 b6 d6 g6 HVu HLe HVr HFo
  have HCl := Lib.hid (rclean_yes (some ⟨g, 0, none⟩) K cz (u :: rr) w6 (SlV.rd (.inr ⟨g, rfl, HROW6.out⟩) HKE.out.symm) (by omega) (List.all_eq_true.2 fun y hy => (HZO.out y hy).1))
  rw [HZ.out.both HI.out] at HCl
  go_wp2_with fail
  refine HCl.out.mono ?_
  rintro e w7 ⟨v7, ys, rfl, hown, hcl, hb7⟩
  obtain ⟨A7, c7, rfl, _⟩ := hown.form
  have hyl : ys.length = K := (clean_eqlen hcl HZ.out.nd).trans HKE.out.symm
  rw [hyl]
  have HS7 := Lib.hid (HS6.out.below hb7)
  have HB7 : Hid (Below w.heap.size w w7) := HB6.out.trans (hb7.mono HB6.out.size)
  have HROW7 : Hid (RowV 29 1 w7 g K cz (lsC (u :: rr))) := HROW6.out.same (hb7.block g HROW6.out.lt)
  clear hown hcl hb7 hyl HS6 HB6 HROW6 HCl
  go_wp2_with fail
  go_loopw [147] (fun iv wr => ∃ j : Nat, iv = .int .i64 (j : Int) ∧ j ≤ K ∧ Hid (Below w.heap.size w wr) ∧ Hid (StZ B w0 wr bs b S q all) ∧ Hid (RowV 29 1 wr g K cz (lsC (u :: rr)))) (fun iv _ => K - (intOf iv).toNat)
  case atStart => exact ⟨0, rfl, by omega, HB7, HS7, HROW7⟩
  case round =>
    clear HB7 HS7 HROW7
    obtain ⟨j, rfl, hj, HBr, HSr, HRr⟩ := hrel
    by_cases hlt : j < K
    case neg =>
      have tj : decide (j < K) = false := decide_eq_false hlt
      have tj2 : decide ((j : Int) < (K : Int)) = false := decide_eq_false (by omega)
      go_wp2_with fail
      go_ret3
      exact ⟨HBr.out, .inr ⟨HC.out, g, cz, u :: rr, by rw [← HKE.out, ← HBK.out]; rfl, by rw [HTN.out]; exact HZ.out, by rw [← HKE.out]; exact HRr.out, HGG.out⟩⟩
    have tj : decide (j < K) = true := decide_eq_true hlt
    have tj2 : decide ((j : Int) < (K : Int)) = true := decide_eq_true (by omega)
    have hcm : wr.cell? ⟨g, j, none⟩ = some (.int .i32 ((u :: rr).getD j 0)) := HRr.out.cell (show j < K * 1 by omega)
    have hym : (u :: rr).getD j 0 ∈ u :: rr := by
      have hl := HKE.out
      rw [List.getD, List.getElem?_eq_getElem (show j < (u :: rr).length by omega)]
      exact List.getElem_mem _
    have hyr : 0 < j → (u :: rr).getD j 0 ∈ rr := fun h0 => by
      have hl := HKE.out
      obtain ⟨j', rfl⟩ : ∃ j', j = j' + 1 := ⟨j - 1, by omega⟩
      simp only [List.length_cons] at hl
      rw [List.getD_cons_succ, List.getD, List.getElem?_eq_getElem (show j' < rr.length by omega)]
      exact List.getElem_mem _
    generalize (u :: rr).getD j 0 = y at *
    obtain ⟨f1, f2, f3⟩ := HZ.out.fl y hym
    have hyo := (one_iff y).1 (HZO.out y hym).1
    have cs8 := cell_regrown HSr.out.c0
    have b8 := cell_regrown HSr.out.sg.eng.h0
    have HVy : Hid (∀ d os, Calls Tryz.prog 25 #[.int .i32 y] (Go.Sort.grow (redrawn wr d) os) fun e w' => e = .returned (.int .i64 (varZ y)) ∧ ∃ p : Regrown, w' = Go.Sort.grow (redrawn wr p.d) p.os) := fun d os =>
      Calls.regrown_of ((rvar_any y _ (by omega) (by omega)).mono fun e w' ⟨h1, h2⟩ => ⟨h1, by rw [← h2]; exact Below.refl _ _⟩)
    have HVal : Hid (∀ d os, Calls Tryz.prog 11 #[.pointer (some ⟨q.bt, 0, none⟩), .int .i32 y] (Go.Sort.grow (redrawn wr d) os) fun e w' => e = .returned (.int .i64 (-1)) ∧ ∃ p : Regrown, w' = Go.Sort.grow (redrawn wr p.d) p.os) := fun d os => by
      have h := (HSr.out.sg.below (below_regrown wr d os)).asks.2.1 y (by omega) (by omega)
      rw [f1] at h
      exact Calls.regrown_of (h.mono fun e w' ⟨h1, h2⟩ => ⟨h1, by rw [← h2]; exact Below.refl _ _⟩)
    have HLy : Hid (∀ d os, Calls Tryz.prog 24 #[.pointer (some ⟨q.bt, 0, none⟩), .int .i64 (varZ y)] (Go.Sort.grow (redrawn wr d) os) fun e w' => e = .returned (.int .i64 (lvl S y)) ∧ ∃ p : Regrown, w' = Go.Sort.grow (redrawn wr p.d) p.os) := fun d os => by
      have h := (HSr.out.sg.below (below_regrown wr d os)).asks.2.2.1 (varZ y)
      exact Calls.regrown_of (h.mono fun e w' ⟨h1, h2⟩ => ⟨h1, by rw [← h2]; exact Below.refl _ _⟩)
    have HTg : Hid (0 < j → ∀ d os, Calls Tryz.prog 28 #[.pointer (some ⟨bs, 0, none⟩), .slice (some ⟨g, 0, none⟩) K cz, .int .i32 y] (Go.Sort.grow (redrawn wr d) os) fun e w' => e = .returned (.bool false) ∧ ∃ p : Regrown, w' = Go.Sort.grow (redrawn wr p.d) p.os) := fun h0 d os => by
      have hx := below_regrown wr d os
      have hzr := SlV.rd ((show SlV 29 1 wr (some ⟨g, 0, none⟩) K cz (lsC (u :: rr)) from .inr ⟨g, rfl, HRr.out⟩).below hx) HKE.out.symm
      have hlt2 : lvl S y < (t : Int) := by
        obtain ⟨u', r', e, _, hr, _⟩ := HZ.out.hd
        injection e with ea eb
        subst ea eb
        exact (hr y (hyr h0)).1
      exact Calls.regrown_of (needless_any (HSr.out.below hx) hzr (by omega) f1 (fun hre => need_wit HI.out f1 (fun y hy => (HZ.out.fl y hy).1) (HZ.out.need y hym (by omega)) hre))
    have tl : decide (lvl S y < 1) = false := decide_eq_false (by omega)
    have HBw : Hid (∀ W, Below wr.heap.size wr W → Below w.heap.size w W ∧ StZ B w0 W bs b S q all ∧ RowV 29 1 W g K cz (lsC (u :: rr))) := fun W hW => ⟨HBr.out.trans (hW.mono HBr.out.size), HSr.out.below hW, HRr.out.same (hW.block g HRr.out.lt)⟩
    clear f1 f2 f3 hyr hym HBr HSr HRr
    generalize lvl S y = ly at *
    generalize varZ y = vy at *
    by_cases h0 : 0 < j
    · have t0 : decide (0 < j) = true := decide_eq_true h0
      have t02 : decide ((0 : Int) < (j : Int)) = true := decide_eq_true (by omega)
      have HTg2 := Lib.hid (HTg.out h0)
      clear HTg
      go_upto_region 18 with (fail)
      refine wp_region_quiet_below (by kernel_rfl) (by kernel_rfl) ?_
      repeat (quiet_step (first | (go_at_call 25; exact HVy.out _ _) | (go_at_call 24; exact HLy.out _ _) | (go_at_call 11; exact HVal.out _ _) | (go_at_call 28; exact HTg2.out _ _)))
      refine wpQuiet_nil ?_
      intro w9 hw'
      have hb9 : Below wr.heap.size wr w9 := by
        obtain ⟨⟨dq, osq⟩, hw''⟩ := hw'
        rw [hw'']; exact below_regrown wr dq osq
      obtain ⟨a1, a2, a3⟩ := HBw.out w9 hb9
      have H1 := Lib.hid a1
      have H2 := Lib.hid a2
      have H3 := Lib.hid a3
      clear hw' hb9 a1 a2 a3 HVy HVal HLy HTg2 HBw cs8 b8
      go_wp2_with fail
      go_roundw
      case rel => exact ⟨j + 1, by go_num, by omega, H1, H2, H3⟩
      case measure => simp [intOf]; omega
    · have t0 : decide (0 < j) = false := decide_eq_false h0
      have t02 : decide ((0 : Int) < (j : Int)) = false := decide_eq_false (by omega)
      clear HTg
      go_upto_region 18 with (fail)
      refine wp_region_quiet_below (by kernel_rfl) (by kernel_rfl) ?_
      repeat (quiet_step (first | (go_at_call 25; exact HVy.out _ _) | (go_at_call 24; exact HLy.out _ _) | (go_at_call 11; exact HVal.out _ _)))
      refine wpQuiet_nil ?_
      intro w9 hw'
      have hb9 : Below wr.heap.size wr w9 := by
        obtain ⟨⟨dq, osq⟩, hw''⟩ := hw'
        rw [hw'']; exact below_regrown wr dq osq
      obtain ⟨a1, a2, a3⟩ := HBw.out w9 hb9
      have H1 := Lib.hid a1
      have H2 := Lib.hid a2
      have H3 := Lib.hid a3
      clear hw' hb9 a1 a2 a3 HVy HVal HLy HBw cs8 b8
      go_wp2_with fail
      go_roundw
      case rel => exact ⟨j + 1, by go_num, by omega, H1, H2, H3⟩
      case measure => simp [intOf]; omega
end Go.Proofs.YtahkknjgmeloeaaGreat
