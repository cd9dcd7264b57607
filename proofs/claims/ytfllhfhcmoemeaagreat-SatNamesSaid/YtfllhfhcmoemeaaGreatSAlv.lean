/- satAlive is true. -/
import Derived.Test.YtfllhfhcmoemeaaGreatSolA
namespace Go.Proofs.YtfllhfhcmoemeaaGreat
open Go.Shelf Go.RowKit Go.Lib LitM TrailM EngM

theorem rd_news (w : World) (xs : List Int) (n : Nat) (hn : xs.length = n) : Rd .i32 (w.alloc (.cells (xs.map (Value.int .i32)).toArray 29)) (w.alloc (.cells (xs.map (Value.int .i32)).toArray 29)).heap.size (some ⟨w.heap.size, 0, none⟩) n xs := by
  subst hn; exact rd_made w xs
/-- The engine behind two Vars. -/
theorem fits2 : fitsB (growF (growF (newE 0))).n [1, 2] = true ∧ fitsB (addF (growF (growF (newE 0))) [1, 2] false).n [-1] = true ∧ fitsB alE.n [] = true ∧ fitsB (propF alE).1.n [-2] = true := by decide +kernel
set_option maxHeartbeats 12800000 in
set_option maxRecDepth 100000 in
theorem salive_any (w : World) : Calls Tryz.prog 11 #[] w fun e w' => e = .returned (.bool true) ∧ Below w.heap.size w w' := by
  have c12 : IsClean [1, 2] [1, 2] := ⟨by decide, fun x => Iff.rfl⟩
  have c1 : IsClean [-1] [-1] := ⟨by decide, fun x => Iff.rfl⟩
  have C12 := Lib.hid c12
  have C1 := Lib.hid c1
  clear c12 c1
  go_enter Tryz.func11, Tryz.ntmps11
  go_wp2_with fail
  refine (snew_any w 0 0 0 (by omega)).mono ?_
  rintro e w1 ⟨bs, bp, be, br, q, F, rfl, h1⟩
  have HV : Hid (Calls Tryz.prog 17 #[.pointer (some ⟨bs, 0, none⟩)] w1 fun e w' => e = .returned (.int .i64 1) ∧ SVarTo w.heap.size w bs (solN 0 bp be br) (newE 0) (fun _ => 0) (fun _ => true) [] w') := svar_any h1 (by decide)
  clear h1
  go_wp2_with fail
  refine HV.out.mono ?_
  rintro e w2 ⟨rfl, q2, F2, vA2, vc2, h2⟩
  generalize HeapM.upd (fun _ => (0 : Int)) ((newE 0).n + 1) 0 = sc2 at h2
  generalize HeapM.upd (fun _ => true) ((newE 0).n + 1) true = wt2 at h2
  generalize ([] : List Bool) ++ [firstB (solN 0 bp be br).sd (((newE 0).n : Int) + 1)] = vs2 at h2
  have HV2 : Hid (Calls Tryz.prog 17 #[.pointer (some ⟨bs, 0, none⟩)] w2 fun e w' => e = .returned (.int .i64 2) ∧ SVarTo w.heap.size w bs { solN 0 bp be br with vA := vA2, vc := vc2 } (growF (newE 0)) sc2 wt2 vs2 w') := svar_any h2 (by decide)
  clear h2 HV
  go_wp2_with fail
  refine HV2.out.mono ?_
  rintro e w3 ⟨rfl, q3, F3, vA3, vc3, h3⟩
  generalize HeapM.upd sc2 ((growF (newE 0)).n + 1) 0 = sc3 at h3
  generalize HeapM.upd wt2 ((growF (newE 0)).n + 1) true = wt3 at h3
  generalize vs2 ++ [firstB ({ solN 0 bp be br with vA := vA2, vc := vc2 } : SolC).sd (((growF (newE 0)).n : Int) + 1)] = vs3 at h3
  have h3a := h3.below ((Below.refl w3.heap.size w3).alloc (Nat.le_refl _) (.cells #[.int .i32 1, .int .i32 2] 29))
  have hlt3 := h3.lt
  have HA : Hid (Calls Tryz.prog 9 #[.pointer (some ⟨bs, 0, none⟩), .slice (some ⟨w3.heap.size, 0, none⟩) 2 2] (w3.alloc (.cells #[.int .i32 1, .int .i32 2] 29)) fun e w' => e = .returned (.int .i64 0) ∧ SPutTo w.heap.size w bs { solN 0 bp be br with vA := vA3, vc := vc3 } (growF (growF (newE 0))) F3 sc3 wt3 vs3 [1, 2] w') :=
    sadd_yes h3a (by decide) (by show (0 : Int) ≤ 0; omega) (by show (0 : Int) < 1048576; omega) (some ⟨w3.heap.size, 0, none⟩) 2 2 [1, 2] (rd_news w3 [1, 2] 2 rfl) (In32.of (by simp)) (by omega) fits2.1 (fun e => by rw [onB_some] at e; have e : bs = w3.heap.size := e; omega)
  clear h3 h3a hlt3 HV2
  go_wp2_with fail
  refine HA.out.mono ?_
  rintro e w4 ⟨rfl, ys, q4, hcl, h4⟩
  obtain rfl := hcl.unique C12.out
  rw [show bothB [1, 2] = false from by decide] at h4
  have h4a := h4.below ((Below.refl w4.heap.size w4).alloc (Nat.le_refl _) (.cells #[.int .i32 (-1)] 29))
  have hlt4 := h4.lt
  have HA2 : Hid (Calls Tryz.prog 9 #[.pointer (some ⟨bs, 0, none⟩), .slice (some ⟨w4.heap.size, 0, none⟩) 1 1] (w4.alloc (.cells #[.int .i32 (-1)] 29)) fun e w' => e = .returned (.int .i64 0) ∧ SPutTo w.heap.size w bs { solN 0 bp be br with vA := vA3, vc := vc3, many := 1 } (addF (growF (growF (newE 0))) [1, 2] false) F3 sc3 wt3 vs3 [-1] w') :=
    sadd_yes h4a (by decide) (by show (0 : Int) ≤ 0 + 1; omega) (by show (0 : Int) + 1 < 1048576; omega) (some ⟨w4.heap.size, 0, none⟩) 1 1 [-1] (rd_news w4 [-1] 1 rfl) (In32.of (by simp)) (by omega) fits2.2.1 (fun e => by rw [onB_some] at e; have e : bs = w4.heap.size := e; omega)
  clear h4 h4a hlt4 hcl HA
  go_wp2_with fail
  refine HA2.out.mono ?_
  rintro e w5 ⟨rfl, ys, q5, hcl, h5⟩
  obtain rfl := hcl.unique C1.out
  rw [show bothB [-1] = false from by decide] at h5
  change Sol w.heap.size w w5 bs { solN 0 bp be br with vA := vA3, vc := vc3, many := 2 } alE q5 F3 sc3 wt3 vs3 at h5
  have HS1 : Hid (Calls Tryz.prog 10 #[.pointer (some ⟨bs, 0, none⟩), .int .i64 (-1), .slice none 0 0] w5 fun e w' => e = .returned (.tuple #[.int .i64 1, .int .i64 0]) ∧ YesTo w.heap.size w bs { solN 0 bp be br with vA := vA3, vc := vc3, many := 2 } (propF alE).1 vs3 w') :=
    ssolve_any h5 [] Rd.nil (In32.of (by simp)) (by omega) fits2.2.2.1 (onB_none bs) 1 _ (fun W W' hb h => h.below hb) (fun W bh bef h _ => run_yes h al_1.2.2.2 al_1.1 al_1.2.1 al_3)
  clear h5 hcl HA2
  go_wp2_with fail
  refine HS1.out.mono ?_
  rintro e w6 ⟨rfl, g6, q6, F6, sc6, wt6, h6, hrow6⟩
  rw [al_2, al_1.2.2.1] at hrow6
  have HM : Hid (Calls Tryz.prog 14 #[.pointer (some ⟨bs, 0, none⟩)] w6 (BoolsTo 2 [false, true] w6)) :=
    smodel_any (ms := [false, true]) (Am := some ⟨g6, 0, none⟩) (cm := 2) h6 (by show Value.slice (some ⟨g6, 0, none⟩) (propF alE).1.n (propF alE).1.n = _; rw [al_1.2.2.1]; rfl) (.inr ⟨g6, rfl, hrow6⟩) (.inr (by decide)) (by decide)
  have H6 := Lib.hid h6
  clear h6 hrow6 HS1
  go_wp2_with fail
  refine HM.out.mono ?_
  rintro e w7 ⟨Am, cm, rfl, hsl, hon, hb7⟩
  obtain ⟨gm, rfl, hrm⟩ := hsl.row (by decide)
  obtain ⟨cur, hcur, _⟩ := _root_.id hrm
  have h7 := H6.out.guest hb7 (hon gm ((onB_some _ _).2 rfl)) hcur
  have h7a := h7.below ((Below.refl w7.heap.size w7).alloc (Nat.le_refl _) (.cells #[.int .i32 (-2)] 29))
  have hq7 : q6.own w7.heap.size = .no := h7.eng.fresh (Nat.le_refl _)
  have hlt7 := h7.lt
  have HS2 : Hid (Calls Tryz.prog 10 #[.pointer (some ⟨bs, 0, none⟩), .int .i64 (-1), .slice (some ⟨w7.heap.size, 0, none⟩) 1 1] (w7.alloc (.cells #[.int .i32 (-2)] 29)) fun e w' => e = .returned (.tuple #[.int .i64 2, .int .i64 0]) ∧ NoX w.heap.size w bs { solN 0 bp be br with vA := vA3, vc := vc3, many := 2, gm := fun k => if k = gm then some (.cells cur 4 (0, 0)) else none } (propF (propF alE).1).1 vs3 (-2) w') :=
    ssolve_any h7a [-2] (rd_news w7 [-2] 1 rfl) (In32.of (by simp)) (by omega) fits2.2.2.2 (fun e => by rw [onB_some] at e; have e : bs = w7.heap.size := e; omega) 2 _ (fun W W' hb h => h.below hb) (fun W bh bef h hr => run_no h hr hq7 al_4.2.2.2.1 al_4.1 al_4.2.1 (by decide) (by rw [al_4.2.2.1]; decide) al_4.2.2.2.2 al_5 rfl rfl (by show (0 : Int) ≤ 2; omega) (by show (2 : Int) ≤ 2000000; omega))
  have HRM := Lib.hid hrm
  have HCUR := Lib.hid hcur
  clear h7 h7a hq7 hlt7 hsl hon hb7 hrm hcur HM H6
  go_wp2_with fail
  refine HS2.out.mono ?_
  rintro e w8 ⟨rfl, q8, F8, sc8, wt8, g8, cc8, lv8, h8, hr8, _⟩
  have hrm8 : RowV 4 1 w8 gm 2 cm (boC [false, true]) := HRM.out.same (((h8.g.gu gm _ (if_pos rfl)).1).trans HCUR.out.symm)
  have m0 : w8.cell? ⟨gm, 0, none⟩ = some (.bool false) := hrm8.cell (show 0 < 2 * 1 by omega)
  have m1 : w8.cell? ⟨gm, 1, none⟩ = some (.bool true) := hrm8.cell (show 1 < 2 * 1 by omega)
  have hbd := hrm8.bd
  obtain ⟨hbd1, hbd2⟩ := hbd
  have HCo := Lib.hid (score_core (xs := [-2]) (Ac := some ⟨g8, 0, none⟩) (cc := cc8) h8 rfl hr8 (fun e => by cases e) (by decide))
  have H8 := Lib.hid h8
  clear h8 hr8 hrm8 HS2 HRM HCUR
  go_wp2_with fail
  refine HCo.out.mono ?_
  rintro e w9 ⟨v9, rfl, A9, c9, rfl, hsl9, hon9, hb9⟩
  have hr9 := SlV.rd (hsl9.alloc (.cells #[.int .i32 (-2)] 29)) rfl
  have HSm := Lib.hid (same_any A9 (some ⟨w9.heap.size, 0, none⟩) 1 c9 1 1 [-2] [-2] (w9.alloc (.cells #[.int .i32 (-2)] 29)) _ hr9 (rd_news w9 [-2] 1 rfl) (by omega) (by omega))
  rw [show sameB [-2] [-2] = true from by decide] at HSm
  have H9 := Lib.hid ((H8.out.below hb9).below ((Below.refl w9.heap.size w9).alloc (Nat.le_refl _) (.cells #[.int .i32 (-2)] 29)))
  clear hsl9 hon9 hb9 hr9 HCo H8
  go_wp2_with fail
  refine HSm.out.mono ?_
  rintro e w10 ⟨rfl, r10, rfl⟩
  have h10 := H9.out.drewN r10
  have HMo := Lib.hid (smodel_any (ms := []) (Am := none) (cm := 0) h10 rfl (SlV.nil _ _ _ _) (.inl rfl) (by decide))
  have HOUT := Lib.hid h10.eng.out
  clear h10 H9 HSm
  go_wp2_with fail
  refine HMo.out.mono ?_
  rintro e w11 ⟨A11, c11, rfl, _, _, hb11⟩
  have HFIN : Hid (Below w.heap.size w w11) := HOUT.out.trans (hb11.mono HOUT.out.size)
  clear hb11 HMo
  go_wp2_with fail
  go_ret
  exact ⟨rfl, HFIN.out⟩
end Go.Proofs.YtfllhfhcmoemeaaGreat
