/- WatchAgain is true: the statement Rows.WatchAgainSaid, without a condition. -/
import Derived.Test.YtaalaekiblifpaaWAgn
import Derived.Test.YtaalaekiblifpaaWOpn
import Derived.Test.YtaalaekiblifpaaRows
import Derived.Deep.RegionWith
import Derived.Deep.Slices
import Derived.Deep.Fields
import Derived.ChangeSame
namespace Go.Proofs.Ytaalaekiblifpaa.WAgn
open Go.ChangeShapes Go.WideShapes Go.ChangeAt Go.RowKit LitM TrailM EngM

set_option maxHeartbeats 6400000 in
set_option maxRecDepth 100000 in
theorem walk (v : Int) (A : Option Addr) (n c : Nat) (cs : List (List Int)) (A2 : Option Addr) (n2 c2 : Nat) (xs : List Int) (w : World)
    (hf : RdF w w.heap.size A n cs) (hx : Rd .i32 w w.heap.size A2 n2 xs) (h32 : ∀ c ∈ cs, In32 c) (hx32 : In32 xs) :
    Calls Try.prog 4 #[.agg #[.int .i64 v, .slice A n c], .slice A2 n2 c2] w fun e w' => e = .returned (.bool true) ∧ Below w.heap.size w w' := by
  obtain ⟨W0, hW0⟩ : ∃ W0, W0 = w.alloc (.cells #[.int .i64 v, .slice A n c] 59) := ⟨_, rfl⟩
  have hs0 : W0.heap.size = w.heap.size + 1 := by rw [hW0]; simp
  have hB0 : Below w.heap.size w W0 := by rw [hW0]; exact (Below.refl _ _).alloc (Nat.le_refl _) _
  have HLF := Lib.hid hf.len
  have HLX := Lib.hid hx.len
  have HT : Hid (∀ W, Below (w.heap.size + 1) W0 W → W.cell? ⟨w.heap.size, 0, none⟩ = some (.int .i64 v) ∧ W.cell? ⟨w.heap.size, 1, none⟩ = some (.slice A n c)) := by rw [hW0]; exact fun W h => frm_cells h
  have HRF : Hid (∀ W, Below (w.heap.size + 1) W0 W → RdF W (w.heap.size + 1) A n cs) := fun W h => (((hf.below hB0).more (by omega : w.heap.size ≤ w.heap.size + 1)).below h)
  have HRX : Hid (∀ W, Below (w.heap.size + 1) W0 W → Rd .i32 W (w.heap.size + 1) A2 n2 xs) := fun W h => (((hx.below hB0).more (by omega : w.heap.size ≤ w.heap.size + 1)).below h)
  have HBW : Hid (∀ W, Below (w.heap.size + 1) W0 W → Below w.heap.size w W) := fun W h => hB0.trans (h.mono (by omega))
  have HZ : Hid (∀ W, Below (w.heap.size + 1) W0 W → w.heap.size + 1 ≤ W.heap.size) := fun W h => by have := h.size; omega
  have H32 := Lib.hid h32
  have HX32 := Lib.hid hx32
  clear hf hx h32 hx32 hB0
  go_enter Try.func4, Try.ntmps4
  go_wp2_with fail
  rw [← hW0]
  refine (walive_any W0).mono ?_
  rintro e w1 ⟨rfl, hB⟩
  have HB1 : Hid (Below (w.heap.size + 1) W0 w1) := by rw [← hs0]; exact hB
  obtain ⟨hf0, hf1⟩ := HT.out _ HB1.out
  clear hB hW0 hs0
  by_cases hv0 : ¬ v < 0
  case neg =>
    have thv00 : decide (v < 0) = true := decide_eq_true (by omega)
    go_wp2_with fail
    go_ret
    exact ⟨rfl, HBW.out _ HB1.out⟩
  have thv00 : decide (v < 0) = false := decide_eq_false (by omega)
  by_cases hv1 : ¬ 30 < v
  case neg =>
    have thv10 : decide (30 < v) = true := decide_eq_true (by omega)
    go_wp2_with fail
    go_ret
    exact ⟨rfl, HBW.out _ HB1.out⟩
  have thv10 : decide (30 < v) = false := decide_eq_false (by omega)
  by_cases hn : ¬ 60 < n
  case neg =>
    have thn0 : decide (60 < n) = true := decide_eq_true (by omega)
    have thn1 : decide ((60 : Int) < (n : Int)) = true := decide_eq_true (by omega)
    go_wp2_with fail
    go_ret
    exact ⟨rfl, HBW.out _ HB1.out⟩
  have thn0 : decide (60 < n) = false := decide_eq_false (by omega)
  have thn1 : decide ((60 : Int) < (n : Int)) = false := decide_eq_false (by omega)
  by_cases hn2 : ¬ 20 < n2
  case neg =>
    have thn20 : decide (20 < n2) = true := decide_eq_true (by omega)
    have thn21 : decide ((20 : Int) < (n2 : Int)) = true := decide_eq_true (by omega)
    go_wp2_with fail
    go_ret
    exact ⟨rfl, HBW.out _ HB1.out⟩
  have thn20 : decide (20 < n2) = false := decide_eq_false (by omega)
  have thn21 : decide ((20 : Int) < (n2 : Int)) = false := decide_eq_false (by omega)
  obtain ⟨N, rfl⟩ : ∃ N : Nat, v = (N : Int) := ⟨v.toNat, by omega⟩
  have hN : N ≤ 30 := by omega
  have HN1 : Hid (Calls Try.prog 11 #[.int .i64 (N : Int)] w1 fun e w' => ∃ b q, e = .returned (.pointer (some ⟨b, 0, none⟩)) ∧ Sg (w.heap.size + 1) W0 w' b (newE N) q) := (enew_any (N : Int) w1 (by omega)).mono fun e w' hm => by
    rw [Int.toNat_natCast] at hm
    obtain ⟨b, q, h1, h2, _⟩ := Sg.make hm (by omega) HB1.out (HZ.out _ HB1.out)
    exact ⟨b, q, h1, h2⟩
  go_wp2_with fail
  refine HN1.out.mono ?_
  rintro e w2 ⟨b, q, rfl, hsg⟩
  have HS := Lib.hid hsg
  clear hsg HN1 HB1 thv00 thv10 thn0 thn1 thn20 thn21 hf0 hf1
  obtain ⟨hf0, hf1⟩ := HT.out _ HS.out.out
  go_wp2_with fail
  go_loopw [47] (fun p wr => ∃ k F q, p = .int .i64 ((k : Nat) : Int) ∧ k ≤ n ∧ Hid (P0 N k F) ∧ Hid (Sg (w.heap.size + 1) W0 wr b F q)) (fun v _ => n - (intOf v).toNat)
  case atStart => exact ⟨0, _, _, rfl, by omega, Lib.hid (P0.new N), HS⟩
  case round =>
    obtain ⟨k, F, q, rfl, hk, hP, hS⟩ := hrel
    clear HS hf0 hf1
    obtain ⟨hf0, hf1⟩ := HT.out _ hS.out.out
    have hcf : F.cs.length ≤ 20000 := by have := hP.out.cs; omega
    by_cases hlt : k < n
    · have tk : decide (k < n) = true := decide_eq_true hlt
      obtain ⟨bk, o, Ak, nk, ck, rfl, hbk, hc, hRk⟩ := (HRF.out _ hS.out.out).get hlt
      have hmem : cs.getD k [] ∈ cs := by
        have := HLF.out
        rw [List.getD, List.getElem?_eq_getElem (by omega)]; exact List.getElem_mem _
      have HI := Lib.hid (H32.out _ hmem)
      clear hmem
      by_cases hnk : ¬ 20 < nk
      case neg =>
        have s0 : decide (20 < nk) = true := decide_eq_true (by omega)
        have s1 : decide ((20 : Int) < (nk : Int)) = true := decide_eq_true (by omega)
        go_wp2_with fail
        go_ret
        exact ⟨rfl, HBW.out _ hS.out.out⟩
      have s0 : decide (20 < nk) = false := decide_eq_false (by omega)
      have s1 : decide ((20 : Int) < (nk : Int)) = false := decide_eq_false (by omega)
      have HA := Lib.hid (hS.out.add hcf Ak nk ck _ (hRk.more (HZ.out _ hS.out.out)) HI.out (by omega))
      clear hRk
      go_wp2_with fail
      refine HA.out.mono ?_
      rintro e w4 ⟨F', q', ha, hs, _⟩
      have HP4 := Lib.hid (hP.out.step ha)
      obtain ⟨r1, r2, rfl⟩ := ha.pair
      have HS4 := Lib.hid hs
      clear hs ha HA
      go_wp2_with fail
      go_roundw
      case rel => exact ⟨k + 1, F', q', by go_num, by omega, HP4, HS4⟩
      case measure => simp [intOf]; omega
    have tk : decide (k < n) = false := decide_eq_false hlt
    obtain rfl : k = n := by omega
    have HP1 := Lib.hid (hS.out.prop hcf)
    have HPH : Hid (¬ 0 ≤ (propF F).2 → Ph1 N k [] (propF F).1) := fun h => hP.out.prop hS.out.inv h
    clear hP
    go_wp2_with fail
    refine HP1.out.mono ?_
    rintro e w4 ⟨rfl, q4, hs, _⟩
    have HS4 := Lib.hid hs
    clear hs HP1 hS hf0 hf1
    by_cases hge : 0 ≤ (propF F).2
    · have tg : decide (0 ≤ (propF F).2) = true := decide_eq_true hge
      go_wp2_with fail
      go_ret
      exact ⟨rfl, HBW.out _ HS4.out.out⟩
    have tg : decide (0 ≤ (propF F).2) = false := decide_eq_false hge
    have HP4 := Lib.hid (HPH.out (by omega))
    clear HPH hcf tk hlt hk
    generalize (propF F).1 = F1 at *
    go_wp2_with fail
    have HS5 : Hid (Sg (w.heap.size + 1) W0 (w4.alloc (.cells #[] 43)) b F1 q4) := HS4.out.below ((Below.refl _ _).alloc (Nat.le_refl _) _)
    have HD5 : Hid (SlV 43 1 (w4.alloc (.cells #[] 43)) (some ⟨w4.heap.size, 0, none⟩) ([] : List Int).length 0 (lsC []) ∧ ∀ i, onB (some ⟨w4.heap.size, 0, none⟩) i → q4.own i = .no ∧ w.heap.size + 1 ≤ i) :=
      ⟨.inr ⟨w4.heap.size, rfl, RowV.made (by simp) rfl (fun j hj => by simp at hj)⟩, fun i hi => by
        rw [onB_some] at hi
        have hi : i = w4.heap.size := hi
        rw [hi]; exact ⟨HS4.out.fresh (Nat.le_refl _), HS4.out.hs⟩⟩
    clear HS4
    go_loopw [8, 64] (fun dv p wr => ∃ (j : Nat) (D : List Int) (F : Eng) (q : Pm) (A3 : Option Addr) (c3 : Nat), dv = .slice A3 D.length c3 ∧ p = .int .i64 (j : Int) ∧ j ≤ n2 ∧ D.length ≤ j ∧ Hid (Ph1 N k D F) ∧ Hid (Sg (w.heap.size + 1) W0 wr b F q) ∧ Hid (SlV 43 1 wr A3 D.length c3 (lsC D) ∧ ∀ i, onB A3 i → q.own i = .no ∧ w.heap.size + 1 ≤ i)) (fun _ v _ => n2 - (intOf v).toNat)
    case atStart => exact ⟨0, [], F1, q4, _, _, rfl, rfl, by omega, by simp, HP4, HS5, HD5⟩
    case round =>
      clear HS5 HD5 HP4
      obtain ⟨j, D, G, q5, A3, c3, rfl, rfl, hj, hDj, hP, hS, hD⟩ := hrel
      have hcg : G.cs.length ≤ 20000 := by have := hP.out.cs; omega
      obtain ⟨hf0, hf1⟩ := HT.out _ hS.out.out
      by_cases hlt : j < n2
      · have tj : decide (j < n2) = true := decide_eq_true hlt
        obtain ⟨bj, o, rfl, hbj, hc⟩ := (HRX.out _ hS.out.out).get hlt
        have hi := HX32.out j
        generalize xs.getD j 0 = l at *
        obtain ⟨i0, i1⟩ := hi
        have HDE := Lib.hid (hS.out.decide l i0 i1)
        by_cases hz : eErr G l = 0
        · rw [hz] at HDE
          have he := eErr0.1 hz
          have HDC : Hid (decE G l = decideF G l) := by unfold Hid decE; rw [if_pos he]
          have HPS : Hid (¬ 0 ≤ (propF (decideF G l)).2 → Ph1 N k (D ++ [l]) (propF (decideF G l)).1) := fun h => hP.out.step hS.out.inv he h
          rw [HDC.out] at HDE
          have HLEN : Hid ((decideF G l).cs.length ≤ 20000 ∧ (propF (decideF G l)).1.cs.length ≤ 20000 ∧ (propF (decideF G l)).1.le.length = D.length + 1) := by
            have hk := inv_prop (inv_decide hS.out.inv he)
            have e1 : (propF (decideF G l)).1.cs.length = G.cs.length := hk.2.1.cs
            have e2 : (propF (decideF G l)).1.le.length = (decideF G l).le.length := hk.2.1.le
            refine ⟨hcg, by omega, ?_⟩
            rw [e2]
            show (G.le ++ [_]).length = D.length + 1
            rw [List.length_append, hP.out.le]; rfl
          clear he hz HDC
          go_wp2_with fail
          refine HDE.out.mono ?_
          rintro e w6 ⟨rfl, q6, hs, hx⟩
          have HS6 := Lib.hid (hs.below ((Below.refl _ _).alloc (Nat.le_refl _) (.cells #[.int .i32 l] 43)))
          have HD6 : Hid (SlV 43 1 (w6.alloc (.cells #[.int .i32 l] 43)) A3 D.length c3 (lsC D) ∧ ∀ i, onB A3 i → q6.own i = .no ∧ w.heap.size + 1 ≤ i) := ⟨SlV.alloc (hx.sl (fun i hi => (hD.out.2 i hi).1) hD.out.1).1 _, fun i hi => ⟨(hx.sl (fun i hi => (hD.out.2 i hi).1) hD.out.1).2 i hi, (hD.out.2 i hi).2⟩⟩
          clear hs hx HDE hf0 hf1 hc hP hS hD
          go_wp2_with (at_builtin; refine wpList_append_sl _ rfl _ _ 29 43 rfl Try.underlying29 info_rlit rfl (by decide) (by decide) A3 D.length c3 (lsC D) rfl HD6.out.1 (by omega) ⟨w6.heap.size, 0, none⟩ 1 1 [.int .i32 l] rfl rfl (box_news w6 43 [.int .i32 l]) (by intro u hu; simp at hu; subst hu; rfl) (by decide) (by decide) ?_)
          intro g' c7 w7 hr7 hg7 hk7
          have HS7 := Lib.hid (HS6.out.kept (hk7 _ (fun i hi => hi)) (fun i hi => HD6.out.2 i hi))
          have HD7 : Hid (SlV 43 1 w7 (some ⟨g', 0, none⟩) (D ++ [l]).length c7 (lsC (D ++ [l])) ∧ ∀ i, onB (some ⟨g', 0, none⟩) i → q6.own i = .no ∧ w.heap.size + 1 ≤ i) := by
            refine ⟨.inr ⟨g', rfl, ?_⟩, fun i hi => ?_⟩
            · rw [List.length_append]
              refine hr7.congr fun i hi => ?_
              have hi : i < D.length + 1 := by simpa using hi
              unfold appV lsC
              by_cases e : i < D.length
              · rw [if_pos (by omega), List.getD, List.getD, List.getElem?_append_left e]
              · have e2 : i = D.length := by omega
                subst e2
                rw [if_neg (by omega)]; simp
            · rw [onB_some] at hi
              have hi : i = g' := hi
              rw [hi]
              rcases hg7 with e | e
              · exact HD6.out.2 g' e
              · have e : (w6.alloc (.cells #[.int .i32 l] 43)).heap.size ≤ g' := by simpa using e
                exact ⟨HS6.out.fresh e, Nat.le_trans HS6.out.hs e⟩
          have HP7 := Lib.hid (HS7.out.prop HLEN.out.1)
          clear hr7 hg7 hk7 HS6 HD6
          have hDl : (D ++ [l]).length = D.length + 1 := by simp
          generalize propF (decideF G l) = P at *
          go_wp2_with fail
          refine HP7.out.mono ?_
          rintro e w8 ⟨rfl, q8, hs, hx⟩
          have HS8 := Lib.hid hs
          have HD8 : Hid (SlV 43 1 w8 (some ⟨g', 0, none⟩) (D ++ [l]).length c7 (lsC (D ++ [l])) ∧ ∀ i, onB (some ⟨g', 0, none⟩) i → q8.own i = .no ∧ w.heap.size + 1 ≤ i) := ⟨(hx.sl (fun i hi => (HD7.out.2 i hi).1) HD7.out.1).1, fun i hi => ⟨(hx.sl (fun i hi => (HD7.out.2 i hi).1) HD7.out.1).2 i hi, (HD7.out.2 i hi).2⟩⟩
          clear hs hx HP7 HD7 HS7
          by_cases hge : 0 ≤ P.2
          · have tg : decide (0 ≤ P.2) = true := decide_eq_true hge
            obtain ⟨a0, _, _, _, _, aD⟩ := HS8.out.asks
            have HAD := Lib.hid aD
            rw [HLEN.out.2.2] at HAD
            have HB := Lib.hid (HS8.out.back HLEN.out.2.1 (D.length : Int))
            have HLB : Hid (levB P.1 (D.length : Int) = true) := by
              unfold Hid levB
              rw [HLEN.out.2.2]
              simp only [Bool.and_eq_true, decide_eq_true_eq]
              omega
            rw [HLB.out] at HB
            clear aD
            go_wp2_with fail
            refine HAD.out.mono ?_
            rintro e w' ⟨rfl, rfl⟩
            go_wp2_with fail
            refine HB.out.mono ?_
            rintro e w9 ⟨rfl, q9, hs, _⟩
            have HS9 := Lib.hid hs
            clear hs HB
            go_wp2_with fail
            go_ret
            exact ⟨rfl, HBW.out _ HS9.out.out⟩
          have tg : decide (0 ≤ P.2) = false := decide_eq_false hge
          have HP8 := Lib.hid (HPS.out (by omega))
          clear HPS
          go_wp2_with fail
          go_roundw
          case rel => exact ⟨j + 1, D ++ [l], P.1, q8, some ⟨g', 0, none⟩, c7, by rw [hDl], by go_num, by omega, by omega, HP8, HS8, HD8⟩
          case measure => simp [intOf]; omega
        · have tz : (eErr G l != 0) = true := by simpa using hz
          have HNO : Hid (decE G l = G) := by
            unfold Hid decE
            rw [if_neg (fun e => hz (by unfold eErr; rw [e]; rfl))]
          rw [HNO.out] at HDE
          generalize eErr G l = ee at *
          clear hz
          go_wp2_with fail
          refine HDE.out.mono ?_
          rintro e w6 ⟨rfl, q6, hs, hx⟩
          have HS6 := Lib.hid hs
          have HD6 : Hid (SlV 43 1 w6 A3 D.length c3 (lsC D) ∧ ∀ i, onB A3 i → q6.own i = .no ∧ w.heap.size + 1 ≤ i) := ⟨(hx.sl (fun i hi => (hD.out.2 i hi).1) hD.out.1).1, fun i hi => ⟨(hx.sl (fun i hi => (hD.out.2 i hi).1) hD.out.1).2 i hi, (hD.out.2 i hi).2⟩⟩
          clear hs hx HDE hf0 hf1 hc
          go_wp2_with fail
          go_roundw
          case rel => exact ⟨j + 1, D, G, q6, A3, c3, rfl, by go_num, by omega, by omega, hP, HS6, HD6⟩
          case measure => simp [intOf]; omega
      have tj : decide (j < n2) = false := decide_eq_false hlt
      have hD20 : D.length ≤ 20 := by omega
      have HTr := Lib.hid hS.out.true_
      clear hf0 hf1
      go_wp2_with fail
      clear hlt tj hj hDj
      refine HTr.out.mono ?_
      rintro e w6 ⟨rfl, hrw, hbl⟩
      have HS6 := Lib.hid (hS.out.below hbl)
      have HW6 : Hid (RowV 43 1 w6 wr.heap.size G.L.length G.L.length (lsC (G.L.map Ent.l)) ∧ q5.own wr.heap.size = .no ∧ w.heap.size + 1 ≤ wr.heap.size) := ⟨hrw, hS.out.fresh (Nat.le_refl _), hS.out.hs⟩
      have HD6 : Hid (SlV 43 1 w6 A3 D.length c3 (lsC D) ∧ ∀ i, onB A3 i → q5.own i = .no ∧ w.heap.size + 1 ≤ i) := ⟨hD.out.1.below hbl, hD.out.2⟩
      have HB6 := Lib.hid (HS6.out.back hcg 0)
      have HLB : Hid (levB G 0 = true) := by unfold Hid levB; simp
      have HBE : Hid (backE G 0 = backF G 0) := by unfold Hid backE; rw [HLB.out]; rfl
      rw [HLB.out, HBE.out] at HB6
      have HI := Lib.hid hS.out.inv
      have HGL : Hid (G.L.length ≤ 30) := by have := hS.out.inv.ok.len; have := hP.out.n; unfold Hid; omega
      clear hrw hbl hS hD HTr HLB HBE
      generalize hgw : wr.heap.size = gw at *
      go_wp2_with fail
      refine HB6.out.mono ?_
      rintro e w7 ⟨rfl, q7, hs, hx⟩
      have HS7 := Lib.hid hs
      have HW7 : Hid (RowV 43 1 w7 gw G.L.length G.L.length (lsC (G.L.map Ent.l)) ∧ q7.own gw = .no ∧ w.heap.size + 1 ≤ gw) := ⟨(hx.row HW6.out.2.1 HW6.out.1).1, (hx.row HW6.out.2.1 HW6.out.1).2, HW6.out.2.2⟩
      have HD7 : Hid (SlV 43 1 w7 A3 D.length c3 (lsC D) ∧ ∀ i, onB A3 i → q7.own i = .no ∧ w.heap.size + 1 ≤ i) := ⟨(hx.sl (fun i hi => (HD6.out.2 i hi).1) HD6.out.1).1, fun i hi => ⟨(hx.sl (fun i hi => (HD6.out.2 i hi).1) HD6.out.1).2 i hi, (HD6.out.2 i hi).2⟩⟩
      have HP2 := Lib.hid hP.out.back
      clear hs hx HB6 HS6 HW6 HD6
      go_wp2_with fail
      go_loopw [96] (fun p wr => ∃ (i : Nat) (T : Eng) (q : Pm), p = .int .i64 (i : Int) ∧ i ≤ D.length ∧ Hid (Ph2 G D i T) ∧ Hid (Sg (w.heap.size + 1) W0 wr b T q) ∧ Hid (RowV 43 1 wr gw G.L.length G.L.length (lsC (G.L.map Ent.l)) ∧ q.own gw = .no ∧ w.heap.size + 1 ≤ gw) ∧ Hid (SlV 43 1 wr A3 D.length c3 (lsC D) ∧ ∀ i, onB A3 i → q.own i = .no ∧ w.heap.size + 1 ≤ i)) (fun v _ => D.length - (intOf v).toNat)
      case atStart => exact ⟨0, _, q7, rfl, by omega, HP2, HS7, HW7, HD7⟩
      case round =>
        clear HP2 HS7 HW7 HD7
        obtain ⟨i, T, q8, rfl, hi, hPT, hS, hW, hD⟩ := hrel
        have hct : T.cs.length ≤ 20000 := by have := hPT.out.cs; omega
        by_cases hlt : i < D.length
        · have ti : decide (i < D.length) = true := decide_eq_true hlt
          have ti2 : decide ((i : Int) < (D.length : Int)) = true := decide_eq_true (by omega)
          obtain ⟨gd, hA3, hrd⟩ := hD.out.1.row (by omega)
          subst hA3
          obtain ⟨l, hl⟩ : ∃ l, l = D.getD i 0 := ⟨_, rfl⟩
          have hDi : D[i]? = some l := by rw [hl, List.getD, List.getElem?_eq_getElem hlt]; rfl
          have ci : wr.cell? ⟨gd, i, none⟩ = some (.int .i32 l) := by
            rw [hrd.cell (show i < D.length * 1 by omega), hl]; rfl
          have hlm : l ∈ D := List.mem_of_getElem? hDi
          have hl32 : -2147483648 ≤ l ∧ l ≤ 2147483647 := by
            obtain ⟨x, hx, e⟩ := hP.out.tr l hlm
            have ho := (one_iff _).1 (HI.out.pre.one x hx).1
            rw [e] at ho; omega
          obtain ⟨a0, aV, _⟩ := hS.out.asks
          have HAV := Lib.hid (aV l hl32.1 hl32.2)
          have HSTEP : Hid (∀ T', Inv T' → (T' = decideF T l ∨ (T' = T ∧ Tr T.L l)) → (propF T').2 = -1 ∧ Ph2 G D (i + 1) (propF T').1) := fun T' h1 h2 => hPT.out.step hP.out HI.out h1 hDi h2
          have hbd := hrd.bd
          obtain ⟨hbd1, hbd2⟩ := hbd
          clear hrd aV hDi hl
          rcases hPT.out.val hP.out HI.out hS.out.inv hlm with ⟨hv, he⟩ | hv
          · rw [hv] at HAV
            have HDE := Lib.hid (hS.out.decide l hl32.1 hl32.2)
            rw [eErr0.2 he, show decE T l = decideF T l from by unfold decE; rw [if_pos he]] at HDE
            have HI2 := Lib.hid (inv_decide hS.out.inv he)
            have hct2 : (decideF T l).cs.length ≤ 20000 := hct
            clear hv he hlm
            go_wp2_with fail
            refine HAV.out.mono ?_
            rintro e w' ⟨rfl, rfl⟩
            go_wp2_with fail
            refine HDE.out.mono ?_
            rintro e w9 ⟨rfl, q9, hs, hx⟩
            have HS9 := Lib.hid hs
            have HW9 : Hid (RowV 43 1 w9 gw G.L.length G.L.length (lsC (G.L.map Ent.l)) ∧ q9.own gw = .no ∧ w.heap.size + 1 ≤ gw) := ⟨(hx.row hW.out.2.1 hW.out.1).1, (hx.row hW.out.2.1 hW.out.1).2, hW.out.2.2⟩
            have HD9 : Hid (SlV 43 1 w9 (some ⟨gd, 0, none⟩) D.length c3 (lsC D) ∧ ∀ i, onB (some ⟨gd, 0, none⟩) i → q9.own i = .no ∧ w.heap.size + 1 ≤ i) := ⟨(hx.sl (fun i hi => (hD.out.2 i hi).1) hD.out.1).1, fun i hi => ⟨(hx.sl (fun i hi => (hD.out.2 i hi).1) hD.out.1).2 i hi, (hD.out.2 i hi).2⟩⟩
            obtain ⟨hm, hp2⟩ := HSTEP.out _ HI2.out (.inl rfl)
            have HP9 := Lib.hid (HS9.out.prop hct2)
            rw [hm] at HP9
            have HPN := Lib.hid hp2
            clear hs hx HDE hm hp2 hS hW hD a0 ci HAV
            generalize propF (decideF T l) = P at *
            go_wp2_with fail
            refine HP9.out.mono ?_
            rintro e w10 ⟨rfl, q10, hs, hx⟩
            have HS10 := Lib.hid hs
            have HW10 : Hid (RowV 43 1 w10 gw G.L.length G.L.length (lsC (G.L.map Ent.l)) ∧ q10.own gw = .no ∧ w.heap.size + 1 ≤ gw) := ⟨(hx.row HW9.out.2.1 HW9.out.1).1, (hx.row HW9.out.2.1 HW9.out.1).2, HW9.out.2.2⟩
            have HD10 : Hid (SlV 43 1 w10 (some ⟨gd, 0, none⟩) D.length c3 (lsC D) ∧ ∀ i, onB (some ⟨gd, 0, none⟩) i → q10.own i = .no ∧ w.heap.size + 1 ≤ i) := ⟨(hx.sl (fun i hi => (HD9.out.2 i hi).1) HD9.out.1).1, fun i hi => ⟨(hx.sl (fun i hi => (HD9.out.2 i hi).1) HD9.out.1).2 i hi, (HD9.out.2 i hi).2⟩⟩
            clear hs hx HP9 HS9 HW9 HD9
            go_wp2_with fail
            go_roundw
            case rel => exact ⟨i + 1, P.1, q10, by go_num, by omega, HPN, HS10, HW10, HD10⟩
            case measure => simp [intOf]; omega
          · rw [hv] at HAV
            have htr := (val_one hS.out.inv.pre).1 hv
            obtain ⟨hm, hp2⟩ := HSTEP.out _ hS.out.inv (.inr ⟨rfl, htr⟩)
            have HP9 := Lib.hid (hS.out.prop hct)
            rw [hm] at HP9
            have HPN := Lib.hid hp2
            clear hm hp2 hlm hv htr
            generalize propF T = P at *
            go_wp2_with fail
            refine HAV.out.mono ?_
            rintro e w' ⟨rfl, rfl⟩
            go_wp2_with fail
            refine HP9.out.mono ?_
            rintro e w10 ⟨rfl, q10, hs, hx⟩
            have HS10 := Lib.hid hs
            have HW10 : Hid (RowV 43 1 w10 gw G.L.length G.L.length (lsC (G.L.map Ent.l)) ∧ q10.own gw = .no ∧ w.heap.size + 1 ≤ gw) := ⟨(hx.row hW.out.2.1 hW.out.1).1, (hx.row hW.out.2.1 hW.out.1).2, hW.out.2.2⟩
            have HD10 : Hid (SlV 43 1 w10 (some ⟨gd, 0, none⟩) D.length c3 (lsC D) ∧ ∀ i, onB (some ⟨gd, 0, none⟩) i → q10.own i = .no ∧ w.heap.size + 1 ≤ i) := ⟨(hx.sl (fun i hi => (hD.out.2 i hi).1) hD.out.1).1, fun i hi => ⟨(hx.sl (fun i hi => (hD.out.2 i hi).1) hD.out.1).2 i hi, (hD.out.2 i hi).2⟩⟩
            clear hs hx HP9 hS hW hD ci a0 HAV
            go_wp2_with fail
            go_roundw
            case rel => exact ⟨i + 1, P.1, q10, by go_num, by omega, HPN, HS10, HW10, HD10⟩
            case measure => simp [intOf]; omega
        have ti : decide (i < D.length) = false := decide_eq_false hlt
        have ti2 : decide ((i : Int) < (D.length : Int)) = false := decide_eq_false (by omega)
        obtain rfl : i = D.length := by omega
        have HSM : Hid (∀ y, y ∈ T.L.map Ent.l ↔ y ∈ G.L.map Ent.l) := fun y => hPT.out.same hP.out HI.out hS.out.inv y
        have hrw := RowV.rd (xs := G.L.map Ent.l) hW.out.1 (by simp)
        have HC1 := Lib.hid (rclean_yes (some ⟨gw, 0, none⟩) G.L.length G.L.length (G.L.map Ent.l) wr hrw (by have := HGL.out; omega) (all_one HI.out.pre))
        have HTL : Hid (T.L.length ≤ 30) := by have := hS.out.inv.ok.len; have := hPT.out.n; have := hP.out.n; unfold Hid; omega
        have HA1 := Lib.hid (all_one hS.out.inv.pre)
        clear hrw hW hD hPT
        go_wp2_with fail
        refine HC1.out.mono ?_
        rintro e w11 ⟨v1, ys1, rfl, hown1, hcl1, hb1⟩
        have HS11 := Lib.hid (hS.out.below hb1)
        have HO1 := Lib.hid hown1
        have HCL1 := Lib.hid hcl1
        have HT11 := Lib.hid HS11.out.true_
        clear hown1 hcl1 hb1 HC1 hS
        go_wp2_with fail
        refine HT11.out.mono ?_
        rintro e w12 ⟨rfl, hrw, hb2⟩
        have HS12 := Lib.hid (HS11.out.below hb2)
        have HO2 := Lib.hid (HO1.out.below hb2)
        have hrd := RowV.rd (xs := T.L.map Ent.l) hrw (by simp)
        have HC2 := Lib.hid (rclean_yes (some ⟨w11.heap.size, 0, none⟩) T.L.length T.L.length (T.L.map Ent.l) w12 hrd (by have := HTL.out; omega) HA1.out)
        clear hrw hb2 hrd HT11 HS11 HO1
        go_wp2_with fail
        refine HC2.out.mono ?_
        rintro e w13 ⟨v2, ys2, rfl, hown2, hcl2, hb3⟩
        have HEQ : Hid (ys1 = ys2) := clean_same HCL1.out hcl2 HSM.out
        have HB13 := Lib.hid (HBW.out _ (HS12.out.below hb3).out)
        have hl1 := clean_le HCL1.out
        have hl2 := clean_le hcl2
        have hgl := HGL.out
        have htl := HTL.out
        simp only [List.length_map] at hl1 hl2
        obtain ⟨B1, d1, hv1, hr1⟩ := (HO2.out.below hb3).form
        obtain ⟨B2, d2, hv2, hr2⟩ := hown2.form
        have HSA := Lib.hid (same_any B1 B2 ys1.length d1 ys2.length d2 ys1 ys2 w13 _ hr1 hr2 (by omega) (by omega))
        rw [show sameB ys1 ys2 = true from (sameB_iff _ _).2 HEQ.out] at HSA
        subst hv1 hv2
        clear hown2 hcl2 hb3 hr1 hr2 HC2 HS12 HO2
        go_wp2_with fail
        refine HSA.out.mono ?_
        rintro e w14 ⟨rfl, m, hw14⟩
        have HB14 : Hid (Below w.heap.size w w14) := by rw [hw14]; exact below_drewN HB13.out m
        clear hw14
        go_wp2_with fail
        go_ret
        exact ⟨rfl, HB14.out⟩
set_option maxHeartbeats 800000 in
set_option maxRecDepth 100000 in
theorem lifted (os : Os) (started : os.Started) (H : Type) (enc : TypeId × Value → H) :
    ReturnsInHanded {} Try.checked os 4 .any (Rows.watchAgainSpec.pre6 enc Try.prog Try.f4 Rows.watchAgainRow.domain false) (Rows.watchAgainSpec.post enc Try.prog Try.f4 false true false false) := by
  refine returnsInHanded_of_change (C := Try.checked) own_knob5 started (by kernel_rfl) Try.func4
    (ChangeSpec.witness6 (enc := enc) (C := Try.checked) false ⟨#[], #[.agg #[.int .i64 0, .slice none 0 0], .slice none 0 0], []⟩ 8 (by kernel_rfl) (by kernel_rfl) (by kernel_rfl) (by kernel_rfl)) ?_
  intro W base args ds gs before hval0 hW _ _
  have hval : ∀ (j : Nat) t v, Try.f4.params[j]? = some t → args[j]? = some v → Value.okWide Try.prog W .any base t v := hval0
  have hW' := hW
  obtain ⟨p, q, hA0, hV, rfl, _, _⟩ := hW
  have hA : DataW.TrodAll enc Try.prog W 0 (fun _ => true) true Try.f4.params.toList args.toList ds p := hA0
  rw [Try.params4] at hA hval
  obtain ⟨v0, v1, d0, d1, p0, p1, rfl, rfl, rfl, h0, h1⟩ := trodAll_two hA
  obtain ⟨rfl, rfl⟩ := trodVars_none hV
  obtain ⟨a0, A0, n0, c0, cs0, rfl, hR0, h320, _⟩ := open_form (hval 0 59 v0 rfl rfl) h0
  obtain ⟨A1, n1, c1, xs1, rfl, hR1, h321, _⟩ := open_lits (hval 1 29 v1 rfl rfl) h1
  clear hA0 hval0
  have hlt0 : ∀ y ∈ p0, y.block < W.heap.size := fun y hy => by simpa using hW'.lt y (by simp [hy])
  have hlt1 : ∀ y ∈ p1, y.block < W.heap.size := fun y hy => by simpa using hW'.lt y (by simp [hy])
  refine (walk a0 A0 n0 c0 cs0 A1 n1 c1 xs1 W hR0 hR1 h320 h321).mono fun e W' ⟨he, hB⟩ => ?_
  subst he
  exact ⟨_, rfl, _, _, _, [], _, [], hW', trodAll_mk1 (shut_bool Try.underlying4 true), trodAll_mk2 (Below.trod laid_out (by kernel_rfl) (of_decide_eq_true (by kernel_rfl)) h0 hB hlt0) (Below.trod laid_out (by kernel_rfl) (of_decide_eq_true (by kernel_rfl)) h1 hB hlt1), rfl, hB.frame _, fun h => by cases h⟩

theorem proved : Rows.WatchAgainSaid :=
  OpenClaim.holds_of_wide 4 Try.f4 rfl rfl rfl rfl rfl rfl rfl ⟨rfl, rfl, rfl, rfl, rfl⟩ rfl rfl rfl rfl rfl (by kernel_rfl) Try.func4 (by kernel_rfl)
    (of_decide_eq_true (by kernel_rfl)) (by unfold Func.isWrapper; first | (rw [if_pos (by decide +kernel)]; kernel_rfl) | (rw [if_neg (by decide +kernel)]; exact ⟨rfl, rfl⟩))
    (fun os started H enc _ => lifted os started H enc)
end Go.Proofs.Ytaalaekiblifpaa.WAgn
namespace Go.Proofs.Ytaalaekiblifpaa
theorem watchAgain_holds : Rows.WatchAgainSaid := WAgn.proved
#print axioms watchAgain_holds
end Go.Proofs.Ytaalaekiblifpaa
