/- LearnLeads is true: the statement Rows.LearnLeadsSaid, without a condition. -/
import Derived.Test.YtaalaekiblifpaaLrnN
import Derived.Test.YtaalaekiblifpaaFrsF
import Derived.Test.YtaalaekiblifpaaFolN
import Derived.Test.YtaalaekiblifpaaLead
import Derived.Test.YtaalaekiblifpaaWOpS
import Derived.Test.YtaalaekiblifpaaRows
import Derived.Deep.RegionWith
import Derived.Deep.Slices
import Derived.Deep.Fields
import Derived.ChangeSame
namespace Go.Proofs.Ytaalaekiblifpaa.LLeads
open Go.ChangeShapes Go.WideShapes Go.ChangeAt Go.RowKit LitM TrailM EngM

/-- Behind decisions. -/
structure Dc (N m j : Nat) (F : Eng) : Prop where
  n : F.n = N
  cs : F.cs.length ≤ m
  le : F.le.length ≤ j
  dec : DecI F
theorem Dc.dcd {N m j : Nat} {F : Eng} (h : Dc N m j F) (hI : Inv F) (l : Int) : Dc N m (j + 1) (decE F l) := by
  refine ⟨?_, ?_, ?_, deci_decE hI h.dec l⟩
  · unfold decE; split <;> exact h.n
  · unfold decE; split <;> exact h.cs
  · unfold decE
    have := h.le
    split
    · show (F.le ++ [_]).length ≤ j + 1
      rw [List.length_append]
      show F.le.length + 1 ≤ j + 1
      omega
    · omega
theorem Dc.prop {N m j : Nat} {F : Eng} (h : Dc N m j F) (hI : Inv F) : Dc N m j (propF F).1 := by
  obtain ⟨_, k, _⟩ := inv_prop hI
  have e1 : (propF F).1.cs.length = F.cs.length := k.cs
  have e2 : (propF F).1.le.length = F.le.length := k.le
  exact ⟨k.n.trans h.n, by rw [e1]; exact h.cs, by rw [e2]; exact h.le, deci_prop hI h.dec⟩
theorem Dc.fresh {N : Nat} {F : Eng} {all : List (List Int)} (h : Fz N 80 F all) : Dc N 80 0 F := ⟨h.n, h.cs, by rw [h.le]; simp, fun j x hx => by rw [h.L] at hx; simp at hx⟩
set_option maxHeartbeats 6400000 in
set_option maxRecDepth 100000 in
theorem walk (v : Int) (A : Option Addr) (n c : Nat) (cs : List (List Int)) (A2 : Option Addr) (n2 c2 : Nat) (xs : List Int) (w : World)
    (hf : RdF w w.heap.size A n cs) (hx : Rd .i32 w w.heap.size A2 n2 xs) (h32 : ∀ c ∈ cs, In32 c) (hsz : ∀ c ∈ cs, c.length * 4 ≤ 140737488351232) (hx32 : In32 xs) :
    Calls Try.prog 8 #[.agg #[.int .i64 v, .slice A n c], .slice A2 n2 c2] w fun e w' => e = .returned (.bool true) ∧ Below w.heap.size w w' := by
  obtain ⟨W0, hW0⟩ : ∃ W0, W0 = w.alloc (.cells #[.int .i64 v, .slice A n c] 59) := ⟨_, rfl⟩
  have hs0 : W0.heap.size = w.heap.size + 1 := by rw [hW0]; simp
  have hB0 : Below w.heap.size w W0 := by rw [hW0]; exact (Below.refl _ _).alloc (Nat.le_refl _) _
  have HLX := Lib.hid hx.len
  have hbox : W0.heap[w.heap.size]? = some (.cells #[.int .i64 v, .slice A n c] 59 (0, 0)) := by rw [hW0]; exact blk_new w _
  have HX32 := Lib.hid hx32
  go_enter Try.func8, Try.ntmps8
  go_wp2_with fail
  rw [← hW0]
  refine (lalive_any W0).mono ?_
  rintro e w1 ⟨rfl, hB⟩
  have hs1 := hB.size
  have HB1 : Hid (Below w.heap.size w w1) := hB0.trans (hB.mono (by omega))
  have HT : Hid (∀ W, Below w1.heap.size w1 W → W.heap[w.heap.size]? = some (.cells #[.int .i64 v, .slice A n c] 59 (0, 0))) := fun W h => by rw [h.block w.heap.size (by omega), hB.block w.heap.size (by omega)]; exact hbox
  have hHF : RdF w1 w1.heap.size A n cs := (hf.below HB1.out).more (by omega)
  have HRX : Hid (∀ W, Below w1.heap.size w1 W → Rd .i32 W w1.heap.size A2 n2 xs) := fun W h => ((hx.below HB1.out).more (by omega)).below h
  have HBW : Hid (∀ W, Below w1.heap.size w1 W → Below w.heap.size w W) := fun W h => HB1.out.trans (h.mono (by omega))
  have HFr := Lib.hid (fresh_any v A n c cs w1 hHF h32 hsz)
  have hb1 := HT.out w1 (Below.refl _ _)
  have k0 : w1.cell? ⟨w.heap.size, 0, none⟩ = some (.int .i64 v) := by rw [Lib.cell_of_heap hb1]; rfl
  have k1 : w1.cell? ⟨w.heap.size, 1, none⟩ = some (.slice A n c) := by rw [Lib.cell_of_heap hb1]; rfl
  clear hb1
  clear hf hx h32 hsz hx32 hB0 hbox hW0 hs0 hB hHF hs1
  go_wp2_with fail
  refine HFr.out.mono ?_
  rintro e w2 hfr
  clear k0 k1
  rcases hfr with ⟨rfl, hB2⟩ | ⟨v0, v1, bs, b, F, q, all, rfl, hst, hfz⟩
  · have HB2 := Lib.hid (HBW.out _ hB2)
    clear hB2
    go_wp2_with fail
    go_ret
    exact ⟨rfl, HB2.out⟩
  have hbx := HT.out w2 hst.sg.out
  have hf0 : w2.cell? ⟨w.heap.size, 0, none⟩ = some (.int .i64 v) := by rw [Lib.cell_of_heap hbx]; rfl
  have HS := Lib.hid hst
  have HF := Lib.hid hfz
  clear hst hfz hbx HFr
  by_cases hv1 : ¬ 12 < v
  case neg =>
    have thv10 : decide (12 < v) = true := decide_eq_true (by omega)
    go_wp2_with fail
    go_ret
    exact ⟨rfl, HBW.out _ HS.out.sg.out⟩
  have thv10 : decide (12 < v) = false := decide_eq_false (by omega)
  by_cases hn2 : ¬ 40 < n2
  case neg =>
    have thn20 : decide (40 < n2) = true := decide_eq_true (by omega)
    have thn21 : decide ((40 : Int) < (n2 : Int)) = true := decide_eq_true (by omega)
    go_wp2_with fail
    go_ret
    exact ⟨rfl, HBW.out _ HS.out.sg.out⟩
  have thn20 : decide (40 < n2) = false := decide_eq_false (by omega)
  have thn21 : decide ((40 : Int) < (n2 : Int)) = false := decide_eq_false (by omega)
  obtain ⟨N, rfl⟩ : ∃ N : Nat, v = (N : Int) := ⟨v.toNat, by omega⟩
  have hN : N ≤ 12 := by omega
  have HDC : Hid (Dc N 80 0 F) := by
    have := HF.out
    rw [Int.toNat_natCast] at this
    exact Dc.fresh this
  have cs0 := HS.out.c0
  have HP := Lib.hid (HS.out.sg.prop (by have := HDC.out.cs; omega))
  clear HF
  go_wp2_with fail
  refine HP.out.mono ?_
  rintro e w3 ⟨rfl, q3, hs, hx⟩
  have HS3 := Lib.hid (HS.out.ext hs hx)
  have HD3 := Lib.hid (HDC.out.prop HS.out.sg.inv)
  obtain ⟨id0, hid0⟩ : ∃ i, i = (propF F).2 := ⟨_, rfl⟩
  rw [← hid0]
  clear hs hx HS HDC HP cs0 hid0 hf0
  generalize (propF F).1 = F1 at *
  go_wp2_with fail
  go_loopw [6, 39] (fun idv p wr => ∃ (j : Nat) (F : Eng) (q : Pm) (id : Int), idv = .int .i64 id ∧ p = .int .i64 (j : Int) ∧ j ≤ n2 ∧ Hid (Dc N 80 j F) ∧ Hid (StZ w1.heap.size w1 wr bs b F q all)) (fun _ p _ => n2 - (intOf p).toNat)
  case atStart => exact ⟨0, F1, q3, id0, rfl, rfl, by omega, HD3, HS3⟩
  case round =>
    obtain ⟨j, G, q, id, rfl, rfl, hj, hD, hS⟩ := hrel
    clear HS3 HD3
    have cs0 := hS.out.c0
    have hcg : G.cs.length ≤ 20000 := by have := hD.out.cs; omega
    by_cases hlt : j < n2
    · have tj : decide (j < n2) = true := decide_eq_true hlt
      have tj2 : decide ((j : Int) < (n2 : Int)) = true := decide_eq_true (by omega)
      obtain ⟨bj, o, rfl, hbj, hc⟩ := (HRX.out _ hS.out.sg.out).get hlt
      have hi := HX32.out j
      generalize xs.getD j 0 = l at *
      obtain ⟨i0, i1⟩ := hi
      by_cases hid : id < 0
      · have ti : decide (id < 0) = true := decide_eq_true hid
        have HDE := Lib.hid (hS.out.sg.decide l i0 i1)
        have HDD := Lib.hid (hD.out.dcd hS.out.sg.inv l)
        cases he : (eErr G l == 0) with
        | true =>
          generalize eErr G l = er at *
          go_wp2_with fail
          refine HDE.out.mono ?_
          rintro e w5 ⟨rfl, q5, hs, hx⟩
          have HS5 := Lib.hid (hS.out.ext hs hx)
          have cs5 := HS5.out.c0
          have HP := Lib.hid (HS5.out.sg.prop (by have := HDD.out.cs; omega))
          have HD5 := Lib.hid (HDD.out.prop HS5.out.sg.inv)
          clear hs hx HDE HDD hS hD cs0 hc hbj
          generalize propF (decE G l) = P at *
          go_wp2_with fail
          refine HP.out.mono ?_
          rintro e w6 ⟨rfl, q6, hs, hx⟩
          have HS6 := Lib.hid (HS5.out.ext hs hx)
          clear hs hx HS5 cs5 HP
          go_wp2_with fail
          go_roundw
          case rel => exact ⟨j + 1, P.1, q6, P.2, rfl, by go_num, by omega, HD5, HS6⟩
          case measure => simp [intOf]; omega
        | false =>
          generalize eErr G l = er at *
          go_wp2_with fail
          refine HDE.out.mono ?_
          rintro e w5 ⟨rfl, q5, hs, hx⟩
          have HS5 := Lib.hid (hS.out.ext hs hx)
          clear hs hx HDE hS hD cs0 hc hbj
          go_wp2_with fail
          go_roundw
          case rel => exact ⟨j + 1, _, q5, id, rfl, by go_num, by omega, HDD, HS5⟩
          case measure => simp [intOf]; omega
      · have ti : decide (id < 0) = false := decide_eq_false hid
        have HD2 : Hid (Dc N 80 (j + 1) G) := ⟨hD.out.n, hD.out.cs, by have := hD.out.le; omega, hD.out.dec⟩
        clear hD
        go_wp2_with fail
        go_roundw
        case rel => exact ⟨j + 1, G, q, id, rfl, by go_num, by omega, HD2, hS⟩
        case measure => simp [intOf]; omega
    have tj : decide (j < n2) = false := decide_eq_false hlt
    have tj2 : decide ((j : Int) < (n2 : Int)) = false := decide_eq_false (by omega)
    obtain rfl : j = n2 := by omega
    obtain ⟨a0, _, _, _, _, aD⟩ := hS.out.sg.asks
    have HAD := Lib.hid aD
    clear aD
    go_wp2_with fail
    refine HAD.out.mono ?_
    rintro e w' ⟨rfl, rfl⟩
    have HDS : Hid (Dc N (80 + 0) 40 G) := ⟨hD.out.n, hD.out.cs, by have := hD.out.le; omega, hD.out.dec⟩
    have hle : G.le.length ≤ 40 := HDS.out.le
    clear hD HAD a0 cs0
    go_wp2_with fail
    go_loopw [6, 9, 10] (fun idv dv tv wr => ∃ (t : Nat) (F : Eng) (q : Pm) (id : Int), idv = .int .i64 id ∧ dv = .int .i64 (F.le.length : Int) ∧ tv = .int .i64 (t : Int) ∧ t + F.le.length ≤ 40 ∧ Hid (Dc N (80 + t) 40 F) ∧ Hid (StZ w1.heap.size w1 wr bs b F q all)) (fun _ _ t _ => 200 - (intOf t).toNat)
    case atStart => exact ⟨0, G, q, id, rfl, rfl, rfl, by omega, HDS, hS⟩
    case round =>
      clear HDS hS
      obtain ⟨t, F, q, id, rfl, rfl, rfl, ht, hD, hS⟩ := hrel
      have tt : decide ((t : Int) < 200) = true := decide_eq_true (by omega)
      by_cases hid : id < 0
      · have ti : decide (id < 0) = true := decide_eq_true hid
        go_wp2_with fail
        go_ret
        exact ⟨rfl, HBW.out _ hS.out.sg.out⟩
      have ti : decide (id < 0) = false := decide_eq_false hid
      have cs0 := hS.out.c0
      have HL := Lib.hid (learn_any hS.out.sg.eng hS.out.sg.inv hD.out.dec id)
      have hcf : F.cs.length ≤ 20000 := by have := hD.out.cs; omega
      go_wp2_with fail
      refine HL.out.mono ?_
      rintro e w5 ⟨hB5, hl⟩
      have HS5 := Lib.hid (hS.out.below hB5)
      have cs5 := HS5.out.c0
      obtain ⟨a0, _, _, _, aN, aD⟩ := HS5.out.sg.asks
      rcases hl with ⟨_, rfl⟩ | ⟨_, g, cz, zs, rfl, hz, hr, hg⟩
      · rw [hD.out.n] at aN
        have HAN := Lib.hid aN
        clear HL aN aD hS hD cs0 hB5
        go_wp2_with fail
        refine HAN.out.mono ?_
        rintro e w' ⟨rfl, rfl⟩
        have HB5 := Lib.hid (HBW.out _ HS5.out.sg.out)
        have hsz5 := HB1.out.size
        go_wp2_with fail
        refine (follows_nil N (by omega) w5).mono ?_
        rintro e w6 ⟨rfl, hB6⟩
        have HB6 : Hid (Below w.heap.size w w6) := HB5.out.trans (hB6.mono HB5.out.size)
        clear hB6
        go_wp2_with fail
        go_ret
        exact ⟨rfl, HB6.out⟩
      have HAD := Lib.hid aD
      have HZ := Lib.hid hz
      have HZI := Lib.hid hS.out.sg.inv
      obtain ⟨kt0, kt1, kt2⟩ := hz.kt hS.out.sg.inv
      obtain ⟨k, hk⟩ := Int.eq_ofNat_of_zero_le kt0
      have hkl : k < F.le.length := by omega
      have HR5 : Hid (RowV 43 1 w5 g zs.length cz (lsC zs) ∧ q.own g = .no) := ⟨hr, hS.out.sg.fresh hg⟩
      have HK := Lib.hid hk
      have HBk := Lib.hid (HS5.out.sg.back hcf (k : Int))
      have hlev : levB F (k : Int) = true := by
        unfold levB
        simp only [Bool.and_eq_true, decide_eq_true_eq]
        omega
      have hbe : backE F (k : Int) = backF F k := by unfold backE; rw [if_pos hlev]; rfl
      rw [if_pos hlev, hbe] at HBk
      rw [hk]
      have t1 : decide ((F.le.length : Int) ≤ (k : Int)) = false := decide_eq_false (by omega)
      have t2 : decide ((F.le.length : Int) < (k : Int)) = false := decide_eq_false (by omega)
      clear HL aN aD hS cs0 hB5 hz hr hg hk kt0 kt1 kt2 hlev hbe
      go_wp2_with fail
      refine HAD.out.mono ?_
      rintro e w' ⟨rfl, rfl⟩
      go_wp2_with fail
      refine HBk.out.mono ?_
      rintro e w6 ⟨rfl, q6, hs, hx⟩
      have HS6 := Lib.hid (HS5.out.ext hs hx)
      have HR6 : Hid (RowV 43 1 w6 g zs.length cz (lsC zs) ∧ q6.own g = .no) := hx.row HR5.out.2 HR5.out.1
      have cs6 := HS6.out.c0
      have hzl : zs.length ≤ 12 := by have := HZ.out.len HZI.out; have := hD.out.n; omega
      have hz32 : In32 zs := In32.of fun y hy => by
        have := (one_iff y).1 (false_var HZI.out (HZ.out.fl y hy).1).2
        omega
      have HA := Lib.hid (HS6.out.sg.add (by rw [(back_n (S := F) k).2]; exact hcf) (some ⟨g, 0, none⟩) zs.length cz zs (SlV.rd (.inr ⟨g, rfl, HR6.out.1⟩) rfl) hz32 (by omega))
      clear hs hx HS5 HBk HAD HR5 cs5 a0 hz32
      go_wp2_with fail
      refine HA.out.mono ?_
      rintro e w7 ⟨F7, q7, ha, hs, hx⟩
      rcases ha with ⟨hno, _⟩ | ⟨_, rfl, ys, hcl, rfl⟩
      · rw [(back_n (S := F) k).1, HZ.out.fits HZI.out] at hno; cases hno
      have HS7 := Lib.hid (HS6.out.ext hs hx)
      have HR7 : Hid (RowV 43 1 w7 g zs.length cz (lsC zs) ∧ q7.own g = .no) := hx.row HR6.out.2 HR6.out.1
      have cs7 := HS7.out.c0
      have HDA : Hid (Dc N (80 + (t + 1)) 40 (addF (backF F k) ys (bothB zs)) ∧ (addF (backF F k) ys (bothB zs)).le.length = k) := by
        have hb : (backF F k).le.length = k := back_len (Nat.le_of_lt hkl)
        refine ⟨⟨(back_n (S := F) k).1.trans hD.out.n, ?_, ?_, deci_add (deci_back hD.out.dec k) _ _⟩, hb⟩
        · show ((backF F k).cs ++ [_]).length ≤ _
          rw [List.length_append, (back_n (S := F) k).2]
          have := hD.out.cs
          show F.cs.length + 1 ≤ _
          omega
        · have e : (addF (backF F k) ys (bothB zs)).le.length = k := hb
          omega
      have HCL := Lib.hid hcl
      have HPc := Lib.hid (HS7.out.sg.prop (by have := HDA.out.1.cs; omega))
      have HD8 := Lib.hid (HDA.out.1.prop HS7.out.sg.inv)
      have HL8 : Hid ((propF (addF (backF F k) ys (bothB zs))).1.le.length = k) := by rw [prop_len HS7.out.sg.inv]; exact HDA.out.2
      obtain ⟨u, r, hzs, _⟩ := HZ.out.hd
      have HLD : Hid (¬ 0 ≤ (propF (addF (backF F k) ys (bothB zs))).2 → valZ (propF (addF (backF F k) ys (bothB zs))).1.L u = 1) := by
        have h1 := HZ.out
        have h2 := HK.out
        have h3 := HCL.out
        rw [hzs] at h1 h2 h3 ⊢
        exact fun hp => lead HZI.out h1 (by rw [h2]) h3 hp
      have hu32 : -2147483648 ≤ u ∧ u ≤ 2147483647 := by
        have := (one_iff u).1 (false_var HZI.out (HZ.out.fl u (by rw [hzs]; simp)).1).2
        omega
      have HC0 : Hid (∀ W, RowV 43 1 W g zs.length cz (lsC zs) → W.cell? ⟨g, 0, none⟩ = some (.int .i32 u)) := fun W h => by
        rw [hzs] at h
        rw [h.cell (show 0 < (u :: r).length * 1 by simp)]; rfl
      have hz0 : 0 < zs.length := by rw [hzs]; simp
      clear hs hx HA HS6 HR6 cs6 hcl HCL hD hzs
      generalize propF (addF (backF F k) ys (bothB zs)) = P at *
      go_wp2_with fail
      refine HPc.out.mono ?_
      rintro e w8 ⟨rfl, q8, hs, hx⟩
      have HS8 := Lib.hid (HS7.out.ext hs hx)
      have HR8 : Hid (RowV 43 1 w8 g zs.length cz (lsC zs) ∧ q8.own g = .no) := hx.row HR7.out.2 HR7.out.1
      clear hs hx HS7 HR7 cs7 HPc HDA
      by_cases hge : P.2 < 0
      · have tg : decide (P.2 < 0) = true := decide_eq_true hge
        have hv := HLD.out (by omega)
        have cs8 := HS8.out.c0
        have k0 := HC0.out _ HR8.out.1
        have b0 := HS8.out.sg.eng.h0
        have hbd := HR8.out.1.bd
        obtain ⟨hbd1, hbd2⟩ := hbd
        have HV : Hid (∀ r, Calls Try.prog 17 #[.pointer (some ⟨q8.bt, 0, none⟩), .int .i32 u] (w8.drewN r) fun e w' => e = .returned (.int .i64 1) ∧ w' = w8.drewN r) := fun r => by
          obtain ⟨_, aV, _⟩ := (HS8.out.sg.below (w' := w8.drewN r) ⟨rfl, rfl, rfl, Nat.le_refl _, fun _ _ => rfl⟩).asks
          have := aV u hu32.1 hu32.2
          rw [hv] at this
          exact this.mono fun e w' ⟨h1, h2⟩ => ⟨h1, h2.symm⟩
        have HB8 := Lib.hid (HBW.out _ HS8.out.sg.out)
        clear HLD hv
        go_upto_region 30 with (fail)
        go_quiet (first | (go_at_call 17; exact Calls.quiet_of_same (HV.out _)))
        go_wp2_with fail
        go_ret
        exact ⟨rfl, below_drewN HB8.out _⟩
      have tg : decide (P.2 < 0) = false := decide_eq_false hge
      go_wp2_with fail
      go_roundw
      case rel => exact ⟨t + 1, P.1, q8, P.2, rfl, by rw [HL8.out], by go_num, by rw [HL8.out]; omega, HD8, HS8⟩
      case measure => simp [intOf]; omega
set_option maxHeartbeats 800000 in
set_option maxRecDepth 100000 in
theorem lifted (os : Os) (started : os.Started) (H : Type) (enc : TypeId × Value → H) :
    ReturnsInHanded {} Try.checked os 8 .any (Rows.learnLeadsSpec.pre6 enc Try.prog Try.f8 Rows.learnLeadsRow.domain false) (Rows.learnLeadsSpec.post enc Try.prog Try.f8 false true false false) := by
  refine returnsInHanded_of_change_sized (C := Try.checked) own_knob5 started (by kernel_rfl) Try.func8
    (ChangeSpec.witness6 (enc := enc) (C := Try.checked) false ⟨#[], #[.agg #[.int .i64 0, .slice none 0 0], .slice none 0 0], []⟩ 8 (by kernel_rfl) (by kernel_rfl) (by kernel_rfl) (by kernel_rfl)) ?_
  intro W base args ds gs before hval0 hW _ hsize _
  have hval : ∀ (j : Nat) t v, Try.f8.params[j]? = some t → args[j]? = some v → Value.okWide Try.prog W .any base t v := hval0
  have hW' := hW
  obtain ⟨p, q, hA0, hV, rfl, _, _⟩ := hW
  have hA : DataW.TrodAll enc Try.prog W 0 (fun _ => true) true Try.f8.params.toList args.toList ds p := hA0
  rw [Try.params8] at hA hval
  obtain ⟨v0, v1, d0, d1, p0, p1, rfl, rfl, rfl, h0, h1⟩ := trodAll_two hA
  obtain ⟨rfl, rfl⟩ := trodVars_none hV
  have hwt : ∀ n ∈ d0.weights Try.prog 59, n ≤ reachBytes := fun n hn => by
    have := List.all_eq_true.1 hsize n (DataW.weights_mem_each (j := 0) (t := 59) (d := d0) (by rw [Try.params8]; rfl) rfl n hn)
    simpa using this
  obtain ⟨a0, A0, n0, c0, cs0, rfl, hR0, h320, hsz0, _⟩ := open_formS (hval 0 59 v0 rfl rfl) hwt h0
  obtain ⟨A1, n1, c1, xs1, rfl, hR1, h321, _⟩ := open_lits (hval 1 29 v1 rfl rfl) h1
  clear hA0 hval0
  have hlt0 : ∀ y ∈ p0, y.block < W.heap.size := fun y hy => by simpa using hW'.lt y (by simp [hy])
  have hlt1 : ∀ y ∈ p1, y.block < W.heap.size := fun y hy => by simpa using hW'.lt y (by simp [hy])
  refine (walk a0 A0 n0 c0 cs0 A1 n1 c1 xs1 W hR0 hR1 h320 hsz0 h321).mono fun e W' ⟨he, hB⟩ => ?_
  subst he
  exact ⟨_, rfl, _, _, _, [], _, [], hW', trodAll_mk1 (shut_bool Try.underlying4 true), trodAll_mk2 (Below.trod laid_out (by kernel_rfl) (of_decide_eq_true (by kernel_rfl)) h0 hB hlt0) (Below.trod laid_out (by kernel_rfl) (of_decide_eq_true (by kernel_rfl)) h1 hB hlt1), rfl, hB.frame _, fun h => by cases h⟩

theorem proved : Rows.LearnLeadsSaid :=
  OpenClaim.holds_of_wide 8 Try.f8 rfl rfl rfl rfl rfl rfl rfl ⟨rfl, rfl, rfl, rfl, rfl⟩ rfl rfl rfl rfl rfl (by kernel_rfl) Try.func8 (by kernel_rfl)
    (of_decide_eq_true (by kernel_rfl)) (by unfold Func.isWrapper; first | (rw [if_pos (by decide +kernel)]; kernel_rfl) | (rw [if_neg (by decide +kernel)]; exact ⟨rfl, rfl⟩))
    (fun os started H enc _ => lifted os started H enc)
end Go.Proofs.Ytaalaekiblifpaa.LLeads
namespace Go.Proofs.Ytaalaekiblifpaa
theorem learnLeads_holds : Rows.LearnLeadsSaid := LLeads.proved
#print axioms learnLeads_holds
end Go.Proofs.Ytaalaekiblifpaa
