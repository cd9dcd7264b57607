/- The walk of TreeNames: the whole. -/
import Derived.Test.YtgommcgfpeomgaaDoorTrNm
import Derived.Deep.MidRow
import Derived.Great.BuildSlice
import Derived.Deep.DeepCutAuto
namespace Go.Proofs.YtgommcgfpeomgaaDoor.TNames
open Go.RowKit TreM WrdM

abbrev cZ (o : Int) : List Value := [.int .i64 o, .int .i64 0, .string ⟨#[]⟩, .slice none 0 0, .int .i64 0, .int .i64 0]
theorem expr_bad (o : Int) (ho : 0 ≤ o ∧ o ≤ 100) (w : World) (hG : TrG w) (hb : writB (.mk o 0 [] [] 0 0) = false) :
    Calls Tryd.prog 6 #[.agg (cZ o).toArray] w fun e w' => e = .returned (.tuple #[.string ⟨#[]⟩, .int .i64 141]) ∧ Below w.heap.size w w' := by
  have h : ExV w (.mk o 0 [] [] 0 0) (.agg (cZ o).toArray) := exv_mk (A := none) (cap := 0) (ks := []) (s := []) (exb0 ho (by decide) (by decide) (by decide) (by decide)) (by decide) (by decide) (.inl rfl)
  have := expr_any _ _ w hG h (fun hx => by rw [hb] at hx; cases hx)
  rw [hb] at this
  exact this
theorem bad_zero : writB (.mk 0 0 [] [] 0 0) = false := by decide +kernel
theorem bad_var : writB (.mk 4 0 [] [] 0 0) = false := by decide +kernel
theorem sign31 : signE 31 = [] := by decide
theorem signM : signE (-1) = [] := by decide
/-- 'x := [n]T{..}': its cells are made, a variable is laid, they are stored. -/
theorem wp_region_lits {P : Program} {id : Nat} {o1 o2 o3 : Oper} {Q : Exit → Act → World → Prop} {a : Act} {w : World} (t : TypeId) (q p : Tmp) (parts : Array (Nat × Operand)) (Z C : Array Value)
    (g1 : o1.guard = none) (g2 : o2.guard = none) (g3 : o3.guard = none) (e1 : o1.op = .build t parts) (d1 : o1.dst = some q) (e2 : o2.op = .alloc t) (d2 : o2.dst = some p) (e3 : o3.op = .store t (.tmp p) (.tmp q)) (d3 : o3.dst = none)
    (hb : P.built t (parts.map fun (i, x) => (i, a.eval x)).toList = some C) (hi : (P.info? t).map (fun i => (i.zero, i.size)) = some (some (.agg Z), C.size)) (hZ : Z.size = C.size) (h1 : C.all (·.oneCell') = true)
    (hx : ((a.put (some q) (.agg C)).put (some p) (.pointer (some ⟨w.heap.size, 0, none⟩))).eval (.tmp p) = .pointer (some ⟨w.heap.size, 0, none⟩)) (hy : ((a.put (some q) (.agg C)).put (some p) (.pointer (some ⟨w.heap.size, 0, none⟩))).eval (.tmp q) = .agg C)
    (h : Q .normal (((a.put (some q) (.agg C)).put (some p) (.pointer (some ⟨w.heap.size, 0, none⟩))).put none undef) (w.alloc (.cells C t))) : (Code.region id #[o1, o2, o3] false).wp P Q a w := by
  cases hq : P.info? t with
  | none => rw [hq] at hi; simp at hi
  | some i0 =>
    have hz : i0.zero = some (.agg Z) := by rw [hq] at hi; simp at hi; exact hi.1
    have hs : i0.size = C.size := by rw [hq] at hi; simp at hi; exact hi.2
    refine wp_region_list ?_
    refine wpList_buildTo g1 t parts e1 (some q) d1 C hb ?_
    refine wpList_plain g2 fun K hK => ?_
    unfold Oper.wp execOp
    have hr : (Instr.alloc t true (.tuple #[])).run P w = .ok (.pointer (some ⟨w.heap.size, 0, none⟩)) (w.alloc (.cells Z t)) := by
      simp [Instr.alloc, zeroValue, typeInfo, hq, hz, newVar, newRow, Value.cells]
    simp only [e2, Sem.run_bind, Sem.run_pure, Result.andThen_ok, hr]
    refine hK _ _ ?_
    rw [d2]
    refine wpList_store_new g3 t (.tmp p) (.tmp q) e3 Z C hx hy (by rw [hq]; simp [hs]) hZ h1 ?_
    rw [d3]
    exact wpList_nil h
def opsV : List Value := (List.range 30).map (fun i : Nat => Value.int .i64 ((i : Int) + 1))
theorem opsV_get (k : Nat) (h : k < 30) : opsV[k]? = some (.int .i64 ((k : Int) + 1)) := by
  unfold opsV
  rw [List.getElem?_map, List.getElem?_range h]
  rfl
theorem run_index_ops (sa : Array Value) (k : Nat) (x : Value) (hk : k < 30) (hx : sa[k]? = some x) (w : World) :
    (Instr.index 34 (.agg sa) (.int .i64 (k : Int))).run Tryd.prog w = .ok x w := by
  have h1 : (0 : Int) ≤ (k : Int) ∧ (k : Int) < 30 := by omega
  simp [Instr.index, asIntOf, part, go_sem, hx, h1, hk, Tryd.isAgg3, Tryd.sizeOf3]
theorem info_decl : (Tryd.prog.info? 56).map (fun i => (i.zero, i.size, i.bytes)) = some (some (.agg zD.toArray), 7, 88) := by kernel_rfl
theorem make_decl (W : World) : (Instr.makeSlice 29 (.int .i64 1) (.int .i64 1)).run Tryd.prog W = .ok (.slice (some ⟨W.heap.size, 0, none⟩) 1 1) (W.alloc (.cells zD.toArray 56)) := by
  obtain ⟨C, h1, h2, h3⟩ := make_sl (P := Tryd.prog) 29 56 Tryd.underlying29 info_decl rfl (by decide) (by decide) 1 (by decide)
  have hC : C = zD.toArray := by
    apply Array.ext_getElem?
    intro j
    rcases Nat.lt_or_ge j 7 with h | h
    · rw [h2 j (by omega)]
      match j, h with
      | 0, _ => rfl
      | 1, _ => rfl
      | 2, _ => rfl
      | 3, _ => rfl
      | 4, _ => rfl
      | 5, _ => rfl
      | 6, _ => rfl
      | j + 7, h => exact absurd h (by omega)
    · rw [Array.getElem?_eq_none (by omega), Array.getElem?_eq_none (by show 7 ≤ j; exact h)]
  rw [hC] at h3
  exact h3 W
set_option maxHeartbeats 6400000 in
set_option maxRecDepth 100000 in
theorem walk (w : World) (hG : TrG w) : Calls Tryd.prog 3 #[] w fun e w' => e = .returned (.bool true) ∧ Below w.heap.size w w' := by
  have HG : Hid (∀ W, Below w.heap.size w W → TrG W) := fun W hW => hG.below hW hG.n
  have HE1 := Lib.hid (expr_bad 0 (by decide) w hG bad_zero)
  have HE2 : Hid (∀ W, Below w.heap.size w W → Calls Tryd.prog 6 #[.agg (cZ 4).toArray] W fun e w' => e = .returned (.tuple #[.string ⟨#[]⟩, .int .i64 141]) ∧ Below W.heap.size W w') := fun W hW => expr_bad 4 (by decide) W (hG.below hW hG.n) bad_var
  clear hG
  go_enter Tryd.func3, Tryd.ntmps3
  go_wp2_with fail
  refine HE1.out.mono ?_
  rintro x w1 ⟨rfl, hB1⟩
  have HB1 := Lib.hid hB1
  have HX := Lib.hid (HE2.out w1 hB1)
  clear hB1 HE1 HE2
  go_wp2_with fail
  refine HX.out.mono ?_
  rintro x w2 ⟨rfl, hB2⟩
  have HB2 := Lib.hid (HB1.out.trans (hB2.mono HB1.out.size))
  clear hB2 HB1 HX
  have hmk := make_decl w2
  have hal := below_alloc w2 (.cells zD.toArray 56)
  have HS1 := Lib.hid (source_bad (w2.alloc (.cells zD.toArray 56)) w2.heap.size (0, 0) (blk_new w2 _))
  have HB3 : Hid (Below w.heap.size w (w2.alloc (.cells zD.toArray 56))) := HB2.out.trans (hal.mono HB2.out.size)
  clear hal HB2
  go_wp2_with fail
  generalize w2.alloc (.cells zD.toArray 56) = wb at *
  clear hmk
  refine HS1.out.mono ?_
  rintro x w3 ⟨rfl, hB3⟩
  have HB4 := Lib.hid (HB3.out.trans (hB3.mono HB3.out.size))
  clear hB3 HB3 HS1
  go_wp2_with fail
  refine (source_none _).mono ?_
  rintro x w4 ⟨rfl, hB4⟩
  have HB5 := Lib.hid (HB4.out.trans (hB4.mono HB4.out.size))
  clear hB4 HB4
  obtain ⟨sl, hsl⟩ : ∃ sl : List Value, sl = opsV := ⟨_, rfl⟩
  have HSL : Hid (sl = opsV) := hsl
  have HLN : Hid (sl.length = 30) := by unfold Hid; rw [hsl]; rfl
  have HGV : Hid (∀ k, k < 30 → sl[k]? = some (.int .i64 ((k : Int) + 1))) := fun k hk => by rw [hsl]; exact opsV_get k hk
  have HA1 : Hid (Below w4.heap.size w4 (w4.alloc (.cells sl.toArray 34))) := below_alloc w4 _
  have HRG : Hid ((w4.alloc (.cells sl.toArray 34)).rangeAt w4.heap.size 0 sl) := by
    intro j v hv
    rw [Nat.zero_add, Lib.cell_of_heap (blk_new w4 _), List.getElem?_toArray]
    exact hv
  clear hsl
  go_upto_region 5 with (fail)
  go_cut [9] (fun v9 wx => v9 = .pointer (some ⟨w4.heap.size, 0, none⟩) ∧ wx = w4.alloc (.cells sl.toArray 34))
  case first =>
    refine wp_region_lits 34 33 9 #[(0, .const (.int .i64 1)), (1, .const (.int .i64 2)), (2, .const (.int .i64 3)), (3, .const (.int .i64 4)), (4, .const (.int .i64 5)), (5, .const (.int .i64 6)), (6, .const (.int .i64 7)), (7, .const (.int .i64 8)), (8, .const (.int .i64 9)), (9, .const (.int .i64 10)), (10, .const (.int .i64 11)), (11, .const (.int .i64 12)), (12, .const (.int .i64 13)), (13, .const (.int .i64 14)), (14, .const (.int .i64 15)), (15, .const (.int .i64 16)), (16, .const (.int .i64 17)), (17, .const (.int .i64 18)), (18, .const (.int .i64 19)), (19, .const (.int .i64 20)), (20, .const (.int .i64 21)), (21, .const (.int .i64 22)), (22, .const (.int .i64 23)), (23, .const (.int .i64 24)), (24, .const (.int .i64 25)), (25, .const (.int .i64 26)), (26, .const (.int .i64 27)), (27, .const (.int .i64 28)), (28, .const (.int .i64 29)), (29, .const (.int .i64 30))] #[.int .i64 0, .int .i64 0, .int .i64 0, .int .i64 0, .int .i64 0, .int .i64 0, .int .i64 0, .int .i64 0, .int .i64 0, .int .i64 0, .int .i64 0, .int .i64 0, .int .i64 0, .int .i64 0, .int .i64 0, .int .i64 0, .int .i64 0, .int .i64 0, .int .i64 0, .int .i64 0, .int .i64 0, .int .i64 0, .int .i64 0, .int .i64 0, .int .i64 0, .int .i64 0, .int .i64 0, .int .i64 0, .int .i64 0, .int .i64 0] opsV.toArray rfl rfl rfl rfl rfl rfl rfl rfl rfl (by kernel_rfl) (by kernel_rfl) (by kernel_rfl) (by kernel_rfl) (by kernel_rfl) (by kernel_rfl) ?_
    rw [← HSL.out]
    go_wp2_with fail
    go_meet
    exact ⟨rfl, rfl⟩
  case rest =>
  obtain ⟨rfl, rfl⟩ := hcut
  go_upto_region 6 with (fail)
  go_cut [34, 35] (fun u v wx => u = .agg sl.toArray ∧ v = .int .i64 0 ∧ wx = w4.alloc (.cells sl.toArray 34))
  case first =>
    refine wp_region_list ?_
    refine wpList_load_mid rfl 34 (.tmp 9) rfl w4.heap.size 0 rfl sl _ HRG.out Tryd.underlying34 rfl (by rw [HLN.out]; kernel_rfl) ?_
    go_wp2_with fail
    go_meet
    exact ⟨rfl, rfl, rfl⟩
  case rest =>
  obtain ⟨rfl, rfl, rfl⟩ := hcut
  have HG2 : Hid (∀ k, k < 30 → sl.toArray[k]? = some (.int .i64 ((k : Int) + 1))) := fun k hk => by rw [List.getElem?_toArray]; exact HGV.out k hk
  have HB6 : Hid (Below w.heap.size w (w4.alloc (.cells sl.toArray 34))) := HB5.out.trans (HA1.out.mono HB5.out.size)
  generalize w4.alloc (.cells sl.toArray 34) = w5 at *
  generalize sl.toArray = sa at *
  clear HGV HLN HRG HA1 HSL HB5
  go_wp2_with fail
  go_loopw [10, 11, 35] (fun _ _ i wr => ∃ k : Nat, k ≤ 30 ∧ i = .int .i64 k ∧ Hid (Below w.heap.size w wr)) (fun _ _ i _ => 30 - (intOf i).toNat)
  case atStart => exact ⟨0, Nat.zero_le _, rfl, HB6.out⟩
  case round =>
    obtain ⟨k, hk, rfl, HW⟩ := hrel
    by_cases hlt : k < 30
    · have t1 : decide ((k : Int) < 30) = true := decide_eq_true (by omega)
      have t2 : decide (k < 30) = true := decide_eq_true hlt
      have hg := HG2.out k hlt
      have hix := run_index_ops sa k (.int .i64 ((k : Int) + 1)) hlt hg
      have hne : ((k : Int) + 1 != (k : Int) + 1) = false := by rw [bne_eq_false_iff_eq]
      have HS1 := Lib.hid (sign_any ((k : Int) + 1) wr (HG.out wr HW.out))
      have HS2 := Lib.hid (psign_any ((k : Int) + 1) wr)
      clear hg
      generalize (⟨(signE ((k : Int) + 1)).toArray⟩ : ByteArray) = sb at *
      go_wp2_with fail
      refine HS1.out.mono ?_
      rintro x w6 ⟨rfl, rfl⟩
      go_wp2_with fail
      refine HS2.out.mono ?_
      rintro x w7 ⟨rfl, hB7⟩
      have HB7 := Lib.hid (HW.out.trans (hB7.mono HW.out.size))
      clear hB7
      go_wp2_with fail
      go_roundw
      case rel => exact ⟨k + 1, by omega, by go_num, HB7.out⟩
      case measure => simp [intOf]; omega
    · have t1 : decide ((k : Int) < 30) = false := decide_eq_false (by omega)
      have t2 : decide (k < 30) = false := decide_eq_false hlt
      have HAL := Lib.hid (alive_any wr (HG.out wr HW.out))
      go_wp2_with fail
      refine HAL.out.mono ?_
      rintro x w6 ⟨rfl, hB6⟩
      have HB6' := Lib.hid (HW.out.trans (hB6.mono HW.out.size))
      have HS1 := Lib.hid (sign_any 31 w6 (HG.out w6 HB6'.out))
      have HS2 := Lib.hid (sign_any (-1) w6 (HG.out w6 HB6'.out))
      rw [sign31] at HS1
      rw [signM] at HS2
      clear hB6 HAL
      go_wp2_with fail
      refine HS1.out.mono ?_
      rintro x w7 ⟨rfl, rfl⟩
      go_wp2_with fail
      refine HS2.out.mono ?_
      rintro x w7 ⟨rfl, rfl⟩
      go_wp2_with fail
      go_ret
      exact ⟨rfl, HB6'.out⟩
end Go.Proofs.YtgommcgfpeomgaaDoor.TNames
