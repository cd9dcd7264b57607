/- LearnRuns is true: the statement Rows.LearnRunsSaid, without a condition. -/
import Derived.Test.YtahkknjgmeloeaaGreatTau
import Derived.Test.YtahkknjgmeloeaaGreatWOpS
import Derived.Test.YtahkknjgmeloeaaGreatRows
import Derived.Deep.RegionWith
import Derived.Deep.Slices
import Derived.Deep.Fields
import Derived.ChangeSame
namespace Go.Proofs.YtahkknjgmeloeaaGreat.LRuns
open Go.ChangeShapes Go.WideShapes Go.ChangeAt Go.RowKit LitM TrailM EngM

/-- Behind decisions. -/
structure Dc (N m j : Nat) (F : Eng) (all : List (List Int)) : Prop where
  n : F.n = N
  cs : F.cs.length ≤ m
  le : F.le.length ≤ j
  dec : DecI F
  al : all = (F.cs.map Cl.ls).filter fun c => !bothB c
theorem Dc.dcd {N m j : Nat} {F : Eng} {all : List (List Int)} (h : Dc N m j F all) (hI : Inv F) (l : Int) : Dc N m (j + 1) (decE F l) all := by
  refine ⟨?_, ?_, ?_, deci_decE hI h.dec l, ?_⟩
  · unfold decE; split <;> exact h.n
  · unfold decE; split <;> exact h.cs
  · unfold decE
    have := h.le
    split
    · show (F.le ++ [_]).length ≤ j + 1
      rw [List.length_append]
      show F.le.length + 1 ≤ j + 1
      omega
    · omega
  · unfold decE; split <;> exact h.al
theorem Dc.prop {N m j : Nat} {F : Eng} {all : List (List Int)} (h : Dc N m j F all) (hI : Inv F) : Dc N m j (propF F).1 all := by
  obtain ⟨_, k, _⟩ := inv_prop hI
  have e1 : (propF F).1.cs.length = F.cs.length := k.cs
  have e2 : (propF F).1.le.length = F.le.length := k.le
  exact ⟨k.n.trans h.n, by rw [e1]; exact h.cs, by rw [e2]; exact h.le, deci_prop hI h.dec, by rw [cls_map e1 (fun i => (k.cl i).2)]; exact h.al⟩
theorem Dc.fresh {N : Nat} {F : Eng} {all : List (List Int)} (h : Fz N 80 F all) : Dc N 80 0 F all := ⟨h.n, h.cs, by rw [h.le]; simp, fun j x hx => by rw [h.L] at hx; simp at hx, h.al⟩
theorem Dc.lent {N m j : Nat} {F : Eng} {all : List (List Int)} (h : Dc N m j F all) : all.length ≤ m := by
  rw [h.al]
  have h1 := List.length_filter_le (fun c => !bothB c) (F.cs.map Cl.ls)
  have h2 := h.cs
  simp at h1
  simp
  omega
/-- Behind a Back and with a clause more. -/
theorem Dc.push {N m j k : Nat} {F : Eng} {all : List (List Int)} (h : Dc N m j F all) (hk : k ≤ F.le.length) {ys : List Int} (hb : bothB ys = false) (both : Bool) : Dc N (m + 1) j (addF (backF F k) ys both) (all ++ [ys]) := by
  have hl : (backF F k).le.length = k := back_len hk
  refine ⟨(back_n (S := F) k).1.trans h.n, ?_, ?_, deci_add (deci_back h.dec k) _ _, ?_⟩
  · show ((backF F k).cs ++ [_]).length ≤ _
    rw [List.length_append, (back_n (S := F) k).2]
    have := h.cs
    show F.cs.length + 1 ≤ _
    omega
  · have e : (addF (backF F k) ys both).le.length = k := hl
    have := h.le
    omega
  · show _ = (((backF F k).cs ++ [_]).map Cl.ls).filter _
    rw [(back_n (S := F) k).2, List.map_append, List.filter_append, ← h.al]
    simp [hb]
/-- A conflict is false. -/
theorem conf_false {S : Eng} (hI : Inv S) (hp : ¬ (propF S).2 < 0) : ∀ l ∈ clsL (propF S).1 (propF S).2, valZ (propF S).1.L l = -1 := by
  obtain ⟨h1, _, h2⟩ := inv_prop hI
  rcases h2 with ⟨e, _⟩ | h
  · omega
  · obtain ⟨i, e, hi, hpr, hf⟩ := h
    intro l hl
    unfold clsL at hl
    split at hl
    · rw [e, Int.toNat_natCast] at hl
      exact (val_neg h1.pre (by exact (h1.ls hi l hl).1)).2 (hf l hl)
    · simp at hl
set_option maxHeartbeats 12800000 in
set_option maxRecDepth 100000 in
theorem walk (v : Int) (A : Option Addr) (n c : Nat) (cs : List (List Int)) (A2 : Option Addr) (n2 c2 : Nat) (xs : List Int) (w : World)
    (hf : RdF w w.heap.size A n cs) (hx : Rd .i32 w w.heap.size A2 n2 xs) (h32 : ∀ c ∈ cs, In32 c) (hsz : ∀ c ∈ cs, c.length * 4 ≤ 140737488351232) (hx32 : In32 xs) :
    Calls Tryz.prog 3 #[.agg #[.int .i64 v, .slice A n c], .slice A2 n2 c2] w fun e w' => e = .returned (.bool true) ∧ Below w.heap.size w w' := by
  obtain ⟨W0, hW0⟩ : ∃ W0, W0 = w.alloc (.cells #[.int .i64 v, .slice A n c] 24) := ⟨_, rfl⟩
  have hs0 : W0.heap.size = w.heap.size + 1 := by rw [hW0]; simp
  have hB0 : Below w.heap.size w W0 := by rw [hW0]; exact (Below.refl _ _).alloc (Nat.le_refl _) _
  have HLX := Lib.hid hx.len
  have hbox : W0.heap[w.heap.size]? = some (.cells #[.int .i64 v, .slice A n c] 24 (0, 0)) := by rw [hW0]; exact blk_new w _
  have HX32 := Lib.hid hx32
  go_enter Tryz.func3, Tryz.ntmps3
  go_wp2_with fail
  rw [← hW0]
  refine (lalive_any W0).mono ?_
  rintro e w1 ⟨rfl, hB⟩
  have hs1 := hB.size
  have HB1 : Hid (Below w.heap.size w w1) := hB0.trans (hB.mono (by omega))
  have HT : Hid (∀ W, Below w1.heap.size w1 W → W.heap[w.heap.size]? = some (.cells #[.int .i64 v, .slice A n c] 24 (0, 0))) := fun W h => by rw [h.block w.heap.size (by omega), hB.block w.heap.size (by omega)]; exact hbox
  have hHF : RdF w1 w1.heap.size A n cs := (hf.below HB1.out).more (by omega)
  have HRX : Hid (∀ W, Below w1.heap.size w1 W → Rd .i32 W w1.heap.size A2 n2 xs) := fun W h => ((hx.below HB1.out).more (by omega)).below h
  have HBW : Hid (∀ W, Below w1.heap.size w1 W → Below w.heap.size w W) := fun W h => HB1.out.trans (h.mono (by omega))
  have HFr := Lib.hid (fresh_any v A n c cs w1 hHF h32 hsz)
  have hb1 := HT.out w1 (Below.refl _ _)
  have k0 : w1.cell? ⟨w.heap.size, 0, none⟩ = some (.int .i64 v) := by rw [Lib.cell_of_heap hb1]; rfl
  have k1 : w1.cell? ⟨w.heap.size, 1, none⟩ = some (.slice A n c) := by rw [Lib.cell_of_heap hb1]; rfl
  clear hb1
  clear hf hx h32 hsz hx32 hB0 hbox hW0 hs0 hB hHF hs1
  go_wp2_with fail
  refine HFr.out.mono ?_
  rintro e w2 hfr
  clear k0 k1
  rcases hfr with ⟨rfl, hB2⟩ | ⟨v0, v1, bs, b, F, q, all, rfl, hst, hfz⟩
  · have HB2 := Lib.hid (HBW.out _ hB2)
    clear hB2
    go_wp2_with fail
    go_ret
    exact ⟨rfl, HB2.out⟩
  have HS := Lib.hid hst
  have HF := Lib.hid hfz
  clear hst hfz HFr
  by_cases hn2 : ¬ 40 < n2
  case neg =>
    have thn20 : decide (40 < n2) = true := decide_eq_true (by omega)
    have thn21 : decide ((40 : Int) < (n2 : Int)) = true := decide_eq_true (by omega)
    go_wp2_with fail
    go_ret
    exact ⟨rfl, HBW.out _ HS.out.sg.out⟩
  have thn20 : decide (40 < n2) = false := decide_eq_false (by omega)
  have thn21 : decide ((40 : Int) < (n2 : Int)) = false := decide_eq_false (by omega)
  obtain ⟨N, rfl⟩ : ∃ N : Nat, v = (N : Int) := ⟨v.toNat, by omega⟩
  have hN : N ≤ 20 := by omega
  have HDC : Hid (Dc N 80 0 F all) := by
    have := HF.out
    rw [Int.toNat_natCast] at this
    exact Dc.fresh this
  clear HF
  go_wp2_with fail
  go_loopw [33] (fun p wr => ∃ (j : Nat) (F : Eng) (q : Pm) (all : List (List Int)), p = .int .i64 (j : Int) ∧ j ≤ n2 ∧ Hid (Dc N (80 + j) j F all) ∧ Hid (StZ w1.heap.size w1 wr bs b F q all)) (fun p _ => n2 - (intOf p).toNat)
  case atStart => exact ⟨0, F, q, all, rfl, by omega, HDC, HS⟩
  case round =>
    clear HS HDC
    obtain ⟨j, G, q, all, rfl, hj, hD, hS⟩ := hrel
    by_cases hlt : j < n2
    case neg =>
      have tj : decide (j < n2) = false := decide_eq_false hlt
      have tj2 : decide ((j : Int) < (n2 : Int)) = false := decide_eq_false (by omega)
      go_wp2_with fail
      go_ret
      exact ⟨rfl, HBW.out _ hS.out.sg.out⟩
    have tj : decide (j < n2) = true := decide_eq_true hlt
    have tj2 : decide ((j : Int) < (n2 : Int)) = true := decide_eq_true (by omega)
    obtain ⟨bj, o, rfl, hbj, hc⟩ := (HRX.out _ hS.out.sg.out).get hlt
    have hi := HX32.out j
    generalize xs.getD j 0 = l at *
    obtain ⟨i0, i1⟩ := hi
    have cs0 := hS.out.c0
    have HP := Lib.hid (hS.out.sg.prop (by have := hD.out.cs; omega))
    have HCF := Lib.hid (conf_false hS.out.sg.inv)
    have HD1 := Lib.hid (hD.out.prop hS.out.sg.inv)
    go_wp2_with fail
    refine HP.out.mono ?_
    rintro e w3 ⟨rfl, q3, hs, hx⟩
    have HS3 := Lib.hid (hS.out.ext hs hx)
    have cs3 := HS3.out.c0
    clear hs hx hS hD HP cs0 hc hbj
    generalize propF G = P at *
    obtain ⟨F, id⟩ := P
    simp only [] at HS3 HCF HD1 ⊢
    by_cases hid : id < 0
    · have ti : decide (0 ≤ id) = false := decide_eq_false (by omega)
      have HDE := Lib.hid (HS3.out.sg.decide l i0 i1)
      have HDD := Lib.hid (HD1.out.dcd HS3.out.sg.inv l)
      go_wp2_with fail
      refine HDE.out.mono ?_
      rintro e w5 ⟨rfl, q5, hs, hx⟩
      have HS5 := Lib.hid (HS3.out.ext hs hx)
      have HD5 : Hid (Dc N (80 + (j + 1)) (j + 1) (decE F l) all) := ⟨HDD.out.n, by have := HDD.out.cs; omega, HDD.out.le, HDD.out.dec, HDD.out.al⟩
      clear hs hx HDE HDD HS3 cs3 HD1 HCF
      go_wp2_with fail
      go_roundw
      case rel => exact ⟨j + 1, _, q5, all, by go_num, by omega, HD5, HS5⟩
      case measure => simp [intOf]; omega
    have ti : decide (0 ≤ id) = true := decide_eq_true (by omega)
    have HCF' := Lib.hid (HCF.out (by omega))
    have HTA := Lib.hid (taught_any HS3.out HD1.out.dec HD1.out.al (by rw [HD1.out.n]; exact hN) (by have := HD1.out.cs; omega) id HCF'.out)
    clear HCF
    go_wp2_with fail
    refine HTA.out.mono ?_
    rintro e w5 ⟨hb5, ht⟩
    have HS5 := Lib.hid (HS3.out.below hb5)
    have HZ5 : Hid (∀ g, w3.heap.size ≤ g → q3.own g = .no) := fun g hg => HS3.out.sg.fresh hg
    have HLT3 := Lib.hid HS3.out.lt
    clear hb5 HTA HS3 cs3
    rcases ht with ⟨_, rfl⟩ | ⟨_, g, cz, zs, rfl, hz, hr, hg⟩
    · go_wp2_with fail
      go_ret
      exact ⟨rfl, HBW.out _ HS5.out.sg.out⟩
    have cs5 := HS5.out.c0
    have HZ := Lib.hid hz
    have HZI := Lib.hid HS5.out.sg.inv
    have HR5 : Hid (RowV 29 1 w5 g zs.length cz (lsC zs) ∧ q3.own g = .no) := ⟨hr, HZ5.out g hg⟩
    have HGB : Hid (w3.heap.size ≤ g) := hg
    obtain ⟨kt0, kt1, kt2⟩ := hz.kt HZI.out
    obtain ⟨k, hk⟩ := Int.eq_ofNat_of_zero_le kt0
    have hkl : k < F.le.length := by omega
    have hcf : F.cs.length ≤ 20000 := by have := HD1.out.cs; omega
    have HK := Lib.hid hk
    have HBk := Lib.hid (HS5.out.sg.back hcf (k : Int))
    have hlev : levB F (k : Int) = true := by
      unfold levB
      simp only [Bool.and_eq_true, decide_eq_true_eq]
      omega
    have hbe : backE F (k : Int) = backF F k := by unfold backE; rw [if_pos hlev]; rfl
    rw [if_pos hlev, hbe] at HBk
    rw [hk]
    obtain ⟨u, r, hzs, _⟩ := hz.hd
    have hz0 : 0 < zs.length := by rw [hzs]; simp
    have hzl : zs.length ≤ 20 := by have := hz.len HZI.out; have := HD1.out.n; omega
    have tz : ((zs.length : Int) == 0) = false := by rw [beq_eq_false_iff_ne]; omega
    have HZS := Lib.hid hzs
    clear hz hr hg hk kt0 kt1 kt2 hlev hbe hzs HZ5 HLT3
    go_wp2_with fail
    refine HBk.out.mono ?_
    rintro e w6 ⟨rfl, q6, hs, hx⟩
    have HS6 := Lib.hid (HS5.out.ext hs hx)
    have HR6 : Hid (RowV 29 1 w6 g zs.length cz (lsC zs) ∧ q6.own g = .no) := hx.row HR5.out.2 HR5.out.1
    have cs6 := HS6.out.c0
    have HOA : Hid (allOne zs = true) := List.all_eq_true.2 fun y hy => (false_var HZI.out (HZ.out.fl y hy).1).2
    have HCl := Lib.hid (rclean_yes (some ⟨g, 0, none⟩) zs.length cz zs w6 (SlV.rd (.inr ⟨g, rfl, HR6.out.1⟩) rfl) (by omega) HOA.out)
    have HBO := Lib.hid (HZ.out.both HZI.out)
    rw [HBO.out] at HCl
    clear hs hx HS5 HR5 cs5 HBk
    go_wp2_with fail
    refine HCl.out.mono ?_
    rintro e w7 ⟨v7, ys, rfl, hown, hcl, hb7⟩
    obtain ⟨A1, c1, rfl, hsl1, hon1⟩ := hown.sl
    have HS7 := Lib.hid (HS6.out.below hb7)
    have HSL7 : Hid (SlV 29 1 w7 A1 ys.length c1 (lsC ys) ∧ ∀ i, onB A1 i → q6.own i = .no ∧ w1.heap.size ≤ i ∧ i ≠ bs) := ⟨hsl1, fun i hi => by
      have h1 := hon1 i hi
      have h2 := HS6.out.lt
      have h3 := HS6.out.sg.hs
      exact ⟨HS6.out.sg.fresh h1, by omega, by omega⟩⟩
    have HR7 : Hid (RowV 29 1 w7 g zs.length cz (lsC zs) ∧ q6.own g = .no) := ⟨HR6.out.1.same (hb7.block g HR6.out.1.lt), HR6.out.2⟩
    have HCL := Lib.hid hcl
    have HALL : Hid (all.length ≤ 80 + j) := HD1.out.lent
    have cs7 := HS7.out.c0
    clear hown hcl hb7 hsl1 hon1 HS6 HR6 cs6 HCl
    obtain ⟨A6, c6, hh6, ha6⟩ := HS7.out.mem
    obtain ⟨f6, hf6, hj6⟩ := ha6.row
    have HPU : Hid (∀ g' c7 w7', RowV 25 1 w7' g' (all.length + 1) c7 (appV f6 (all.length * 1) [.slice A1 ys.length c1]) → (onB A6 g' ∨ (w7.alloc (.cells #[.slice A1 ys.length c1] 25)).heap.size ≤ g') → Kf (fun i => onB A6 i) (w7.alloc (.cells #[.slice A1 ys.length c1] 25)) w7' →
        w7'.cell? ⟨bs, 1, none⟩ = some (.slice A6 all.length c6) ∧ w7'.frozen? ⟨bs, 1, none⟩ = false ∧ StZ w1.heap.size w1 (w7'.setCell ⟨bs, 1, none⟩ (.slice (some ⟨g', 0, none⟩) (all ++ [ys]).length c7)) bs b (backF F k) q6 (all ++ [ys])) := fun g' c7 w7' x1 x2 x3 => by
      have hb := (Below.refl w7.heap.size w7).alloc (Nat.le_refl _) (.cells #[.slice A1 ys.length c1] 25)
      have hS6 := HS7.out.below hb
      refine hS6.push (A := A6) (c := c6) (f := f6) (A1 := A1) (c1 := c1) ?_ (hf6.alloc _) (fun j hj => ?_) ha6.out (HSL7.out.1.alloc _) HSL7.out.2 x1 x2 x3
      · rw [hb.block bs HS7.out.lt]; exact hh6
      · obtain ⟨A', c', e1, e2, e3⟩ := hj6 j hj
        exact ⟨A', c', e1, e2.alloc _, e3⟩
    have HF6 := Lib.hid hf6
    have HA6 : Hid (¬ onB A6 g) := fun e => by
      have h1 := hf6.lt g e
      exact SlV.apart hf6 (.inr ⟨g, rfl, HR7.out.1⟩ : SlV 29 1 w7 (some ⟨g, 0, none⟩) zs.length cz (lsC zs)) (by decide) e (by rw [onB_some])
    have d1 : w7.cell? ⟨bs, 1, none⟩ = some (.slice A6 all.length c6) := by rw [Lib.cell_of_heap hh6]; rfl
    have hal : all.length ≤ 100000 := by have := HALL.out; omega
    have HAL : Hid ((all ++ [ys]).length = all.length + 1) := Lib.hid (by simp)
    clear hh6 ha6 hf6 hj6 HSL7
    go_wp2_with (at_builtin; refine wpList_append_sl _ rfl _ _ 22 25 rfl Tryz.underlying22 info_rrow rfl (by decide) (by decide) A6 all.length c6 f6 rfl (SlV.alloc HF6.out _) (by omega) ⟨w7.heap.size, 0, none⟩ 1 1 [.slice A1 ys.length c1] rfl rfl (box_news w7 25 [.slice A1 ys.length c1]) (by intro u hu; simp at hu; subst hu; rfl) (by decide) (by decide) ?_)
    intro g' c7 w8 hr7 hg7 hk7
    obtain ⟨y1, y2, y3⟩ := HPU.out g' c7 w8 (by rw [Nat.mul_one]; exact hr7) (by simpa using hg7) (hk7 _ (fun i hi => hi))
    have HR8 : Hid (RowV 29 1 (w8.setCell ⟨bs, 1, none⟩ (.slice (some ⟨g', 0, none⟩) (all ++ [ys]).length c7)) g zs.length cz (lsC zs) ∧ q6.own g = .no) := by
      have hk := hk7 _ (fun i hi => hi)
      have hgl := HR7.out.1.lt
      have h1 : RowV 29 1 w8 g zs.length cz (lsC zs) := (HR7.out.1.alloc _).same (hk.block g (by simp; omega) HA6.out)
      have hgb : g ≠ bs := fun e => by
        obtain ⟨A9, c9, hh9, _⟩ := HS7.out.mem
        obtain ⟨cur, hcur, _⟩ := HR7.out.1
        rw [e, hh9] at hcur
        injection hcur with hcur
        injection hcur with _ hcur
        exact absurd hcur (by decide)
      exact ⟨h1.other (fun e => hgb e.symm) _, HR7.out.2⟩
    have HS8 := Lib.hid y3
    rw [HAL.out] at HS8 HR8
    obtain ⟨W8, hW8⟩ : ∃ W8, W8 = w8.setCell ⟨bs, 1, none⟩ (.slice (some ⟨g', 0, none⟩) (all.length + 1) c7) := ⟨_, rfl⟩
    rw [← hW8] at HS8 HR8
    clear hr7 hg7 hk7 y3 HPU HS7 HR7 cs7
    have HZ32 : Hid (In32 zs) := allOne_in32 HOA.out
    have HA := Lib.hid (HS8.out.sg.add (by rw [(back_n (S := F) k).2]; exact hcf) (some ⟨g, 0, none⟩) zs.length cz zs (SlV.rd (.inr ⟨g, rfl, HR8.out.1⟩) rfl) HZ32.out (by omega))
    have HC8 : Hid (W8.cell? ⟨bs, 0, none⟩ = some (.pointer (some ⟨b, 0, none⟩))) := HS8.out.c0
    go_upto_region 19 with (fail)
    rw [← hW8]
    clear hW8 y1 y2 d1
    have cs8 := HC8.out
    go_wp2_with fail
    refine HA.out.mono ?_
    rintro e w9 ⟨F9, q9, ha, hs, hx⟩
    rcases ha with ⟨hno, _⟩ | ⟨_, rfl, ys2, hcl2, rfl⟩
    · rw [(back_n (S := F) k).1, HZ.out.fits HZI.out] at hno; cases hno
    obtain rfl : ys2 = ys := hcl2.unique HCL.out
    have HS9 := Lib.hid (HS8.out.ext hs hx)
    have HR9 : Hid (RowV 29 1 w9 g zs.length cz (lsC zs) ∧ q9.own g = .no) := hx.row HR8.out.2 HR8.out.1
    have cs9 := HS9.out.c0
    have HDA : Hid (Dc N (80 + j + 1) j (addF (backF F k) ys2 (bothB zs)) (all ++ [ys2])) := HD1.out.push (Nat.le_of_lt hkl) (by rw [HCL.out.both, HBO.out]) _
    have HPc := Lib.hid (HS9.out.sg.prop (by have := HDA.out.cs; omega))
    have HDp := Lib.hid (HDA.out.prop HS9.out.sg.inv)
    have HCf := Lib.hid (conf_false HS9.out.sg.inv)
    have HLD : Hid (¬ 0 ≤ (propF (addF (backF F k) ys2 (bothB zs))).2 → valZ (propF (addF (backF F k) ys2 (bothB zs))).1.L u = 1) := by
      have h1 := HZ.out
      have h2 := HK.out
      have h3 := HCL.out
      rw [HZS.out] at h1 h2 h3 ⊢
      exact fun hp => lead HZI.out h1 (by rw [h2]) h3 hp
    have hu32 : -2147483648 ≤ u ∧ u ≤ 2147483647 := by
      have := (one_iff u).1 (false_var HZI.out (HZ.out.fl u (by rw [HZS.out]; simp)).1).2
      omega
    have HC0 : Hid (∀ W, RowV 29 1 W g zs.length cz (lsC zs) → W.cell? ⟨g, 0, none⟩ = some (.int .i32 u)) := fun W h => by
      have h2 := HZS.out
      rw [h2] at h
      rw [h.cell (show 0 < (u :: r).length * 1 by simp)]; rfl
    clear hs hx HA HS8 HR8 cs8 hcl2 HC8 HD1
    generalize propF (addF (backF F k) ys2 (bothB zs)) = P at *
    obtain ⟨F2, id2⟩ := P
    simp only [] at HPc HDp HCf HLD ⊢
    go_wp2_with fail
    refine HPc.out.mono ?_
    rintro e w10 ⟨rfl, q10, hs, hx⟩
    have HS10 := Lib.hid (HS9.out.ext hs hx)
    have HR10 : Hid (RowV 29 1 w10 g zs.length cz (lsC zs) ∧ q10.own g = .no) := hx.row HR9.out.2 HR9.out.1
    clear hs hx HS9 HR9 cs9 HPc HDA
    by_cases hge : id2 < 0
    · have tg : decide (id2 < 0) = true := decide_eq_true hge
      have tg2 : decide (0 ≤ id2) = false := decide_eq_false (by omega)
      have hv := HLD.out (by omega)
      have cs10 := HS10.out.c0
      have k0 := HC0.out _ HR10.out.1
      have b0 := HS10.out.sg.eng.h0
      have hbd := HR10.out.1.bd
      obtain ⟨hbd1, hbd2⟩ := hbd
      have HV : Hid (∀ r, Calls Tryz.prog 11 #[.pointer (some ⟨q10.bt, 0, none⟩), .int .i32 u] (w10.drewN r) fun e w' => e = .returned (.int .i64 1) ∧ w' = w10.drewN r) := fun r => by
        obtain ⟨_, aV, _⟩ := (HS10.out.sg.below (w' := w10.drewN r) ⟨rfl, rfl, rfl, Nat.le_refl _, fun _ _ => rfl⟩).asks
        have := aV u hu32.1 hu32.2
        rw [hv] at this
        exact this.mono fun e w' ⟨h1, h2⟩ => ⟨h1, h2.symm⟩
      clear HLD hv
      go_upto_region 23 with (fail)
      go_quiet (first | (go_at_call 11; exact Calls.quiet_of_same (HV.out _)))
      obtain ⟨w11, hw11⟩ : ∃ w11, w11 = w10.drewN nq := ⟨_, rfl⟩
      have HS11 : Hid (StZ w1.heap.size w1 w11 bs b F2 q10 (all ++ [ys2])) := by rw [hw11]; exact HS10.out.below ⟨rfl, rfl, rfl, Nat.le_refl _, fun _ _ => rfl⟩
      rw [← hw11]
      clear hw11 HS10 HR10 cs10 k0 b0 HV
      have cs11 := HS11.out.c0
      have HDE := Lib.hid (HS11.out.sg.decide l i0 i1)
      have HDD := Lib.hid (HDp.out.dcd HS11.out.sg.inv l)
      go_wp2_with fail
      refine HDE.out.mono ?_
      rintro e w12 ⟨rfl, q12, hs, hx⟩
      have HS12 := Lib.hid (HS11.out.ext hs hx)
      have HD12 : Hid (Dc N (80 + (j + 1)) (j + 1) (decE F2 l) (all ++ [ys2])) := ⟨HDD.out.n, by have := HDD.out.cs; omega, HDD.out.le, HDD.out.dec, HDD.out.al⟩
      clear hs hx HDE HDD HS11 cs11 HDp HCf
      go_wp2_with fail
      go_roundw
      case rel => exact ⟨j + 1, _, q12, all ++ [ys2], by go_num, by omega, HD12, HS12⟩
      case measure => simp [intOf]; omega
    have tg : decide (id2 < 0) = false := decide_eq_false hge
    have tg2 : decide (0 ≤ id2) = true := decide_eq_true (by omega)
    have HCF2 := Lib.hid (HCf.out (by omega))
    clear HLD HCf HR10 HC0
    go_upto_region 23 with (fail)
    go_quiet (fail)
    obtain ⟨w11, hw11⟩ : ∃ w11, w11 = w10.drewN nq := ⟨_, rfl⟩
    have HS11 : Hid (StZ w1.heap.size w1 w11 bs b F2 q10 (all ++ [ys2])) := by rw [hw11]; exact HS10.out.below ⟨rfl, rfl, rfl, Nat.le_refl _, fun _ _ => rfl⟩
    rw [← hw11]
    clear hw11 HS10
    have HTA := Lib.hid (taught_any HS11.out HDp.out.dec HDp.out.al (by rw [HDp.out.n]; exact hN) (by have := HDp.out.cs; omega) id2 HCF2.out)
    go_wp2_with fail
    refine HTA.out.mono ?_
    rintro e w12 ⟨hb12, ht⟩
    have HB12 := Lib.hid (HBW.out _ (HS11.out.below hb12).sg.out)
    clear hb12 HTA HS11
    rcases ht with ⟨_, rfl⟩ | ⟨_, g3, cz3, zs3, rfl, _⟩
    · go_wp2_with fail
      go_ret
      exact ⟨rfl, HB12.out⟩
    · go_wp2_with fail
      go_ret
      exact ⟨rfl, HB12.out⟩
set_option maxHeartbeats 800000 in
set_option maxRecDepth 100000 in
theorem lifted (os : Os) (started : os.Started) (H : Type) (enc : TypeId × Value → H) :
    ReturnsInHanded {} Tryz.checked os 3 .any (Rows.learnRunsSpec.pre6 enc Tryz.prog Tryz.f3 Rows.learnRunsRow.domain false) (Rows.learnRunsSpec.post enc Tryz.prog Tryz.f3 false true false false) := by
  refine returnsInHanded_of_change_sized (C := Tryz.checked) own_knob5 started (by kernel_rfl) Tryz.func3
    (ChangeSpec.witness6 (enc := enc) (C := Tryz.checked) false ⟨#[], #[.agg #[.int .i64 0, .slice none 0 0], .slice none 0 0], []⟩ 8 (by kernel_rfl) (by kernel_rfl) (by kernel_rfl) (by kernel_rfl)) ?_
  intro W base args ds gs before hval0 hW _ hsize _
  have hval : ∀ (j : Nat) t v, Tryz.f3.params[j]? = some t → args[j]? = some v → Value.okWide Tryz.prog W .any base t v := hval0
  have hW' := hW
  obtain ⟨p, q, hA0, hV, rfl, _, _⟩ := hW
  have hA : DataW.TrodAll enc Tryz.prog W 0 (fun _ => true) true Tryz.f3.params.toList args.toList ds p := hA0
  rw [Tryz.params3] at hA hval
  obtain ⟨v0, v1, d0, d1, p0, p1, rfl, rfl, rfl, h0, h1⟩ := trodAll_two hA
  obtain ⟨rfl, rfl⟩ := trodVars_none hV
  have hwt : ∀ n ∈ d0.weights Tryz.prog 24, n ≤ reachBytes := fun n hn => by
    have := List.all_eq_true.1 hsize n (DataW.weights_mem_each (j := 0) (t := 24) (d := d0) (by rw [Tryz.params3]; rfl) rfl n hn)
    simpa using this
  obtain ⟨a0, A0, n0, c0, cs0, rfl, hR0, h320, hsz0, _⟩ := open_formS (hval 0 24 v0 rfl rfl) hwt h0
  obtain ⟨A1, n1, c1, xs1, rfl, hR1, h321, _⟩ := open_lits (hval 1 25 v1 rfl rfl) h1
  clear hA0 hval0
  have hlt0 : ∀ y ∈ p0, y.block < W.heap.size := fun y hy => by simpa using hW'.lt y (by simp [hy])
  have hlt1 : ∀ y ∈ p1, y.block < W.heap.size := fun y hy => by simpa using hW'.lt y (by simp [hy])
  refine (walk a0 A0 n0 c0 cs0 A1 n1 c1 xs1 W hR0 hR1 h320 hsz0 h321).mono fun e W' ⟨he, hB⟩ => ?_
  subst he
  exact ⟨_, rfl, _, _, _, [], _, [], hW', trodAll_mk1 (shut_bool Tryz.underlying4 true), trodAll_mk2 (Below.trod laid_out (by kernel_rfl) (of_decide_eq_true (by kernel_rfl)) h0 hB hlt0) (Below.trod laid_out (by kernel_rfl) (of_decide_eq_true (by kernel_rfl)) h1 hB hlt1), rfl, hB.frame _, fun h => by cases h⟩

theorem proved : Rows.LearnRunsSaid :=
  OpenClaim.holds_of_wide 3 Tryz.f3 rfl rfl rfl rfl rfl rfl rfl ⟨rfl, rfl, rfl, rfl, rfl⟩ rfl rfl rfl rfl rfl (by kernel_rfl) Tryz.func3 (by kernel_rfl)
    (of_decide_eq_true (by kernel_rfl)) (by unfold Func.isWrapper; first | (rw [if_pos (by decide +kernel)]; kernel_rfl) | (rw [if_neg (by decide +kernel)]; exact ⟨rfl, rfl⟩))
    (fun os started H enc _ => lifted os started H enc)
end Go.Proofs.YtahkknjgmeloeaaGreat.LRuns
namespace Go.Proofs.YtahkknjgmeloeaaGreat
theorem learnRuns_holds : Rows.LearnRunsSaid := LRuns.proved
#print axioms learnRuns_holds
end Go.Proofs.YtahkknjgmeloeaaGreat
