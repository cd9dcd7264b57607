/- LearnFollows is true: the statement Rows.LearnFollowsSaid, without a condition. -/
import Derived.Test.YtaalaekiblifpaaLrnN
import Derived.Test.YtaalaekiblifpaaFrsF
import Derived.Test.YtaalaekiblifpaaSome
import Derived.Test.YtaalaekiblifpaaWOpS
import Derived.Test.YtaalaekiblifpaaRows
import Derived.Deep.RegionWith
import Derived.Deep.Slices
import Derived.Deep.Fields
import Derived.ChangeSame
namespace Go.Proofs.Ytaalaekiblifpaa.LFols
open Go.ChangeShapes Go.WideShapes Go.ChangeAt Go.RowKit LitM TrailM EngM

/-- Behind decisions. -/
structure Dc (N m j : Nat) (F : Eng) (all : List (List Int)) : Prop where
  n : F.n = N
  cs : F.cs.length ≤ m
  le : F.le.length ≤ j
  dec : DecI F
  al : all = (F.cs.map Cl.ls).filter fun c => !bothB c
theorem Dc.dcd {N m j : Nat} {F : Eng} {all : List (List Int)} (h : Dc N m j F all) (hI : Inv F) (l : Int) : Dc N m (j + 1) (decE F l) all := by
  refine ⟨?_, ?_, ?_, deci_decE hI h.dec l, ?_⟩
  · unfold decE; split <;> exact h.n
  · unfold decE; split <;> exact h.cs
  · unfold decE
    have := h.le
    split
    · show (F.le ++ [_]).length ≤ j + 1
      rw [List.length_append]
      show F.le.length + 1 ≤ j + 1
      omega
    · omega
  · unfold decE; split <;> exact h.al
theorem Dc.prop {N m j : Nat} {F : Eng} {all : List (List Int)} (h : Dc N m j F all) (hI : Inv F) : Dc N m j (propF F).1 all := by
  obtain ⟨_, k, _⟩ := inv_prop hI
  have e1 : (propF F).1.cs.length = F.cs.length := k.cs
  have e2 : (propF F).1.le.length = F.le.length := k.le
  exact ⟨k.n.trans h.n, by rw [e1]; exact h.cs, by rw [e2]; exact h.le, deci_prop hI h.dec, by rw [cls_map e1 (fun i => (k.cl i).2)]; exact h.al⟩
theorem Dc.fresh {N : Nat} {F : Eng} {all : List (List Int)} (h : Fz N 80 F all) : Dc N 80 0 F all := ⟨h.n, h.cs, by rw [h.le]; simp, fun j x hx => by rw [h.L] at hx; simp at hx, h.al⟩
theorem pow_le (N : Nat) (h : N ≤ 12) : wrap64 (2 ^ N) ≤ 4096 := by
  have : ∀ N : Nat, N < 13 → wrap64 (2 ^ N) ≤ 4096 := by decide +kernel
  exact this N (by omega)
theorem bit_one (t k : Nat) : wrap64 (wrap64 (2 * ((t : Int) / 2 ^ k).tmod 2) - 1) = 1 ∨ wrap64 (wrap64 (2 * ((t : Int) / 2 ^ k).tmod 2) - 1) = -1 := by
  have h0 : 0 ≤ (t : Int) / 2 ^ k := Int.ediv_nonneg (by omega) (Int.le_of_lt (Int.pow_pos (by omega)))
  rw [Int.tmod_eq_emod_of_nonneg h0]
  rcases Int.emod_two_eq ((t : Int) / 2 ^ k) with e | e
  · rw [e]; exact .inr (by decide +kernel)
  · rw [e]; exact .inl (by decide +kernel)
set_option maxHeartbeats 6400000 in
set_option maxRecDepth 100000 in
theorem walk (v : Int) (A : Option Addr) (n c : Nat) (cs : List (List Int)) (A2 : Option Addr) (n2 c2 : Nat) (xs : List Int) (w : World)
    (hf : RdF w w.heap.size A n cs) (hx : Rd .i32 w w.heap.size A2 n2 xs) (h32 : ∀ c ∈ cs, In32 c) (hsz : ∀ c ∈ cs, c.length * 4 ≤ 140737488351232) (hx32 : In32 xs) :
    Calls Try.prog 7 #[.agg #[.int .i64 v, .slice A n c], .slice A2 n2 c2] w fun e w' => e = .returned (.bool true) ∧ Below w.heap.size w w' := by
  obtain ⟨W0, hW0⟩ : ∃ W0, W0 = w.alloc (.cells #[.int .i64 v, .slice A n c] 59) := ⟨_, rfl⟩
  have hs0 : W0.heap.size = w.heap.size + 1 := by rw [hW0]; simp
  have hB0 : Below w.heap.size w W0 := by rw [hW0]; exact (Below.refl _ _).alloc (Nat.le_refl _) _
  have HLX := Lib.hid hx.len
  have hbox : W0.heap[w.heap.size]? = some (.cells #[.int .i64 v, .slice A n c] 59 (0, 0)) := by rw [hW0]; exact blk_new w _
  have HX32 := Lib.hid hx32
  go_enter Try.func7, Try.ntmps7
  go_wp2_with fail
  rw [← hW0]
  refine (lalive_any W0).mono ?_
  rintro e w1 ⟨rfl, hB⟩
  have hs1 := hB.size
  have HB1 : Hid (Below w.heap.size w w1) := hB0.trans (hB.mono (by omega))
  have HT : Hid (∀ W, Below w1.heap.size w1 W → W.heap[w.heap.size]? = some (.cells #[.int .i64 v, .slice A n c] 59 (0, 0))) := fun W h => by rw [h.block w.heap.size (by omega), hB.block w.heap.size (by omega)]; exact hbox
  have hHF : RdF w1 w1.heap.size A n cs := (hf.below HB1.out).more (by omega)
  have HRX : Hid (∀ W, Below w1.heap.size w1 W → Rd .i32 W w1.heap.size A2 n2 xs) := fun W h => ((hx.below HB1.out).more (by omega)).below h
  have HBW : Hid (∀ W, Below w1.heap.size w1 W → Below w.heap.size w W) := fun W h => HB1.out.trans (h.mono (by omega))
  have HFr := Lib.hid (fresh_any v A n c cs w1 hHF h32 hsz)
  have hb1 := HT.out w1 (Below.refl _ _)
  have k0 : w1.cell? ⟨w.heap.size, 0, none⟩ = some (.int .i64 v) := by rw [Lib.cell_of_heap hb1]; rfl
  have k1 : w1.cell? ⟨w.heap.size, 1, none⟩ = some (.slice A n c) := by rw [Lib.cell_of_heap hb1]; rfl
  clear hb1
  clear hf hx h32 hsz hx32 hB0 hbox hW0 hs0 hB hHF hs1
  go_wp2_with fail
  refine HFr.out.mono ?_
  rintro e w2 hfr
  clear k0 k1
  rcases hfr with ⟨rfl, hB2⟩ | ⟨v0, v1, bs, b, F, q, all, rfl, hst, hfz⟩
  · have HB2 := Lib.hid (HBW.out _ hB2)
    clear hB2
    go_wp2_with fail
    go_ret
    exact ⟨rfl, HB2.out⟩
  have hbx := HT.out w2 hst.sg.out
  have hf0 : w2.cell? ⟨w.heap.size, 0, none⟩ = some (.int .i64 v) := by rw [Lib.cell_of_heap hbx]; rfl
  have HS := Lib.hid hst
  have HF := Lib.hid hfz
  clear hst hfz hbx HFr
  by_cases hn2 : ¬ 40 < n2
  case neg =>
    have thn20 : decide (40 < n2) = true := decide_eq_true (by omega)
    have thn21 : decide ((40 : Int) < (n2 : Int)) = true := decide_eq_true (by omega)
    go_wp2_with fail
    go_ret
    exact ⟨rfl, HBW.out _ HS.out.sg.out⟩
  have thn20 : decide (40 < n2) = false := decide_eq_false (by omega)
  have thn21 : decide ((40 : Int) < (n2 : Int)) = false := decide_eq_false (by omega)
  by_cases hv1 : ¬ 12 < v
  case neg =>
    have thv10 : decide (12 < v) = true := decide_eq_true (by omega)
    go_wp2_with fail
    go_ret
    exact ⟨rfl, HBW.out _ HS.out.sg.out⟩
  have thv10 : decide (12 < v) = false := decide_eq_false (by omega)
  obtain ⟨N, rfl⟩ : ∃ N : Nat, v = (N : Int) := ⟨v.toNat, by omega⟩
  have hN : N ≤ 12 := by omega
  have HDC : Hid (Dc N 80 0 F all) := by
    have := HF.out
    rw [Int.toNat_natCast] at this
    exact Dc.fresh this
  have cs0 := HS.out.c0
  have HP := Lib.hid (HS.out.sg.prop (by have := HDC.out.cs; omega))
  clear HF
  go_wp2_with fail
  refine HP.out.mono ?_
  rintro e w3 ⟨rfl, q3, hs, hx⟩
  have HS3 := Lib.hid (HS.out.ext hs hx)
  have HD3 := Lib.hid (HDC.out.prop HS.out.sg.inv)
  obtain ⟨id0, hid0⟩ : ∃ i, i = (propF F).2 := ⟨_, rfl⟩
  rw [← hid0]
  clear hs hx HS HDC HP cs0 hid0 hf0
  generalize (propF F).1 = F1 at *
  go_wp2_with fail
  go_loopw [6, 41] (fun idv p wr => ∃ (j : Nat) (F : Eng) (q : Pm) (id : Int), idv = .int .i64 id ∧ p = .int .i64 (j : Int) ∧ j ≤ n2 ∧ Hid (Dc N 80 j F all) ∧ Hid (StZ w1.heap.size w1 wr bs b F q all)) (fun _ p _ => n2 - (intOf p).toNat)
  case atStart => exact ⟨0, F1, q3, id0, rfl, rfl, by omega, HD3, HS3⟩
  case round =>
    obtain ⟨j, G, q, id, rfl, rfl, hj, hD, hS⟩ := hrel
    clear HS3 HD3
    have cs0 := hS.out.c0
    have hcg : G.cs.length ≤ 20000 := by have := hD.out.cs; omega
    by_cases hlt : j < n2
    · have tj : decide (j < n2) = true := decide_eq_true hlt
      have tj2 : decide ((j : Int) < (n2 : Int)) = true := decide_eq_true (by omega)
      obtain ⟨bj, o, rfl, hbj, hc⟩ := (HRX.out _ hS.out.sg.out).get hlt
      have hi := HX32.out j
      generalize xs.getD j 0 = l at *
      obtain ⟨i0, i1⟩ := hi
      by_cases hid : id < 0
      · have ti : decide (id < 0) = true := decide_eq_true hid
        have HDE := Lib.hid (hS.out.sg.decide l i0 i1)
        have HDD := Lib.hid (hD.out.dcd hS.out.sg.inv l)
        cases he : (eErr G l == 0) with
        | true =>
          generalize eErr G l = er at *
          go_wp2_with fail
          refine HDE.out.mono ?_
          rintro e w5 ⟨rfl, q5, hs, hx⟩
          have HS5 := Lib.hid (hS.out.ext hs hx)
          have cs5 := HS5.out.c0
          have HP := Lib.hid (HS5.out.sg.prop (by have := HDD.out.cs; omega))
          have HD5 := Lib.hid (HDD.out.prop HS5.out.sg.inv)
          clear hs hx HDE HDD hS hD cs0 hc hbj
          generalize propF (decE G l) = P at *
          go_wp2_with fail
          refine HP.out.mono ?_
          rintro e w6 ⟨rfl, q6, hs, hx⟩
          have HS6 := Lib.hid (HS5.out.ext hs hx)
          clear hs hx HS5 cs5 HP
          go_wp2_with fail
          go_roundw
          case rel => exact ⟨j + 1, P.1, q6, P.2, rfl, by go_num, by omega, HD5, HS6⟩
          case measure => simp [intOf]; omega
        | false =>
          generalize eErr G l = er at *
          go_wp2_with fail
          refine HDE.out.mono ?_
          rintro e w5 ⟨rfl, q5, hs, hx⟩
          have HS5 := Lib.hid (hS.out.ext hs hx)
          clear hs hx HDE hS hD cs0 hc hbj
          go_wp2_with fail
          go_roundw
          case rel => exact ⟨j + 1, _, q5, id, rfl, by go_num, by omega, HDD, HS5⟩
          case measure => simp [intOf]; omega
      · have ti : decide (id < 0) = false := decide_eq_false hid
        have HD2 : Hid (Dc N 80 (j + 1) G all) := ⟨hD.out.n, hD.out.cs, by have := hD.out.le; omega, hD.out.dec, hD.out.al⟩
        clear hD
        go_wp2_with fail
        go_roundw
        case rel => exact ⟨j + 1, G, q, id, rfl, by go_num, by omega, HD2, hS⟩
        case measure => simp [intOf]; omega
    have tj : decide (j < n2) = false := decide_eq_false hlt
    have tj2 : decide ((j : Int) < (n2 : Int)) = false := decide_eq_false (by omega)
    obtain rfl : j = n2 := by omega
    by_cases hid : id < 0
    · have ti : decide (id < 0) = true := decide_eq_true hid
      go_wp2_with fail
      go_ret
      exact ⟨rfl, HBW.out _ hS.out.sg.out⟩
    have ti : decide (id < 0) = false := decide_eq_false hid
    have HL := Lib.hid (learn_any hS.out.sg.eng hS.out.sg.inv hD.out.dec id)
    go_wp2_with fail
    refine HL.out.mono ?_
    rintro e w5 ⟨hB5, hl⟩
    have HS5 := Lib.hid (hS.out.below hB5)
    rcases hl with ⟨_, rfl⟩ | ⟨_, g, cz, zs, rfl, hz, hr, hg⟩
    · have HB5 := Lib.hid (HBW.out _ HS5.out.sg.out)
      clear HL hS hD cs0 hB5
      go_wp2_with fail
      go_ret
      exact ⟨rfl, HB5.out⟩
    have hzn := hz.len hS.out.sg.inv
    have hzl : zs.length ≤ 12 := by have := hD.out.n; omega
    have HZO : Hid (∀ y ∈ zs, LitM.one y = true ∧ varZ y < ((N + 1 : Nat) : Int)) := fun y hy => by
      have h1 := false_var hS.out.sg.inv (hz.fl y hy).1
      have h2 := hD.out.n
      exact ⟨h1.2, by omega⟩
    have HAO : Hid (∀ c ∈ all, c.length ≤ 90000 ∧ ∀ y ∈ c, LitM.one y = true ∧ varZ y < ((N + 1 : Nat) : Int)) := fun c hc => by
      rw [hD.out.al, List.mem_filter] at hc
      obtain ⟨cl, hcl, e⟩ := List.mem_map.1 hc.1
      obtain ⟨i, hi, e2⟩ := List.getElem_of_mem hcl
      have hls : (clA G.cs i).ls = c := by
        unfold clA
        rw [List.getD, List.getElem?_eq_getElem hi, ← e, ← e2]; rfl
      obtain ⟨h1, _, h3, _⟩ := hS.out.sg.inv.small.cl i hi
      rw [hls] at h1 h3
      have h2 := hD.out.n
      exact ⟨h3, fun y hy => ⟨(h1 y hy).1, by have := (h1 y hy).2; omega⟩⟩
    have HLH : Hid (∀ V : Nat → Int, (∀ k, 1 ≤ k → k ≤ N → V k = 1 ∨ V k = -1) → (∀ c ∈ all, someB V c = true) → someB V zs = true) := fun V hV hs => holds_learnt hS.out.sg.inv hz (by rw [hD.out.n]; exact hV) hD.out.al hs
    have hal : all.length ≤ 80 := by
      rw [hD.out.al]
      have h1 := List.length_filter_le (fun c => !bothB c) (G.cs.map Cl.ls)
      have h2 := hD.out.cs
      simp at h1
      simp
      omega
    have HR5 : Hid (RowV 43 1 w5 g zs.length cz (lsC zs) ∧ g < w5.heap.size) := ⟨hr, hr.lt⟩
    clear HL hS hD cs0 hB5 hz hr hg
    obtain ⟨C, c1, c2', hm⟩ := make_sl (P := Try.prog) 72 3 Try.underlying72 info_tint rfl (by decide) (by decide) (N + 1) (by omega)
    have hm' : ∀ w : World, (Instr.makeSlice 72 (.int .i64 ((N : Int) + 1)) (.int .i64 ((N : Int) + 1))).run Try.prog w = .ok (.slice (some ⟨w.heap.size, 0, none⟩) (N + 1) (N + 1)) (w.alloc (.cells C 3)) := by
      intro w
      have := hm w
      rw [show (((N + 1 : Nat)) : Int) = (N : Int) + 1 by omega] at this
      exact this
    have HMK : Hid (∀ w : World, RowV 3 1 (w.alloc (.cells C 3)) w.heap.size (N + 1) (N + 1) (intV fun _ => 0)) := fun w => RowV.made (by omega) c1 (fun j hj => by rw [c2' j hj]; simp [Nat.mod_one]; rfl)
    have HPW : Hid (wrap64 (2 ^ N) ≤ 4096) := pow_le N (by omega)
    clear hm c1 c2'
    go_wp2_with fail
    go_loopw [12] (fun nv wr => ∃ (t : Nat) (q : Pm), nv = .int .i64 (t : Int) ∧ t ≤ 4096 ∧ Hid (StZ w1.heap.size w1 wr bs b G q all) ∧ Hid (RowV 43 1 wr g zs.length cz (lsC zs))) (fun nv _ => 4096 - (intOf nv).toNat)
    case atStart => exact ⟨0, _, rfl, by omega, HS5, HR5.out.1⟩
    case round =>
      obtain ⟨t, q', rfl, ht, hS, hR⟩ := hrel
      clear HS5 HR5
      have hbx := HT.out wr hS.out.sg.out
      have f0 : wr.cell? ⟨w.heap.size, 0, none⟩ = some (.int .i64 (N : Int)) := by rw [Lib.cell_of_heap hbx]; rfl
      clear hbx
      by_cases hlt : (t : Int) < wrap64 (2 ^ N)
      case neg =>
        have tw : decide ((t : Int) < wrap64 (2 ^ N)) = false := decide_eq_false hlt
        go_wp2_with fail
        go_ret
        exact ⟨rfl, HBW.out _ hS.out.sg.out⟩
      have tw : decide ((t : Int) < wrap64 (2 ^ N)) = true := decide_eq_true hlt
      have ht2 : t + 1 ≤ 4096 := by have := HPW.out; omega
      go_wp2_with fail
      have HV0 : Hid (RowV 3 1 (wr.alloc (.cells C 3)) wr.heap.size (N + 1) (N + 1) (intV fun _ => 0)) := HMK.out wr
      have HBV0 : Hid (Below wr.heap.size wr (wr.alloc (.cells C 3))) := (Below.refl _ _).alloc (Nat.le_refl _) _
      have HGV : Hid (g < wr.heap.size) := hR.out.lt
      obtain ⟨gv, hgv⟩ : ∃ gv, gv = wr.heap.size := ⟨_, rfl⟩
      obtain ⟨wv, hwv⟩ : ∃ wv, wv = wr.alloc (.cells C 3) := ⟨_, rfl⟩
      rw [← hwv, ← hgv]
      rw [← hwv, ← hgv] at HV0
      rw [← hwv] at HBV0
      have HGE : Hid (wr.heap.size ≤ gv) := Nat.le_of_eq hgv.symm
      have HFO : Hid (∀ W, Below wr.heap.size wr W → W.cell? ⟨w.heap.size, 0, none⟩ = some (.int .i64 (N : Int))) := fun W h => by
        rw [Lib.cell_of_heap (HT.out W (hS.out.sg.out.trans (h.mono hS.out.sg.hs)))]; rfl
      clear hwv hgv f0
      go_loopw [14] (fun iv wx => ∃ (k : Nat) (V : Nat → Int), iv = .int .i64 ((k : Int) + 1) ∧ k ≤ N ∧ Hid (∀ i, -1 ≤ V i ∧ V i ≤ 1) ∧ Hid (∀ i, 1 ≤ i → i ≤ k → V i = 1 ∨ V i = -1) ∧ Hid (RowV 3 1 wx gv (N + 1) (N + 1) (intV V)) ∧ Hid (Below wr.heap.size wr wx)) (fun iv _ => N + 1 - (intOf iv).toNat)
      case atStart => exact ⟨0, fun _ => 0, rfl, by omega, Lib.hid (fun i => by show -1 ≤ (0 : Int) ∧ (0 : Int) ≤ 1; omega), Lib.hid (fun i h1 h2 => by omega), HV0, HBV0⟩
      case round =>
        clear HV0 HBV0
        obtain ⟨k, V, rfl, hk, hV1, hV2, hRV, hBV⟩ := hrel
        have f0 := HFO.out _ hBV.out
        by_cases hkn : k < N
        · have tk : decide ((k : Int) + 1 ≤ (N : Int)) = true := decide_eq_true (by omega)
          have hcv := hRV.out.cell (show k + 1 < (N + 1) * 1 by omega)
          have hfv := hRV.out.free (k + 1)
          obtain hbit := bit_one t k
          have HKE : Hid (∀ x, Kf (fun i => i = gv) _ _) := fun x => (Kf.refl (fun i => i = gv) wr).set (p := ⟨gv, k + 1, none⟩) (.inl rfl) x
          go_wp2_with fail
          generalize wrap64 (wrap64 (2 * ((t : Int) / 2 ^ k).tmod 2) - 1) = z at *
          have HR2 : Hid (RowV 3 1 (wr.setCell ⟨gv, k + 1, none⟩ (.int .i64 z)) gv (N + 1) (N + 1) (intV fun i => if i = k + 1 then z else V i)) := by
            refine (hRV.out.set (show k + 1 < (N + 1) * 1 by omega) (.int .i64 z)).congr fun i _ => ?_
            unfold intV updV
            by_cases e : i = k + 1
            · subst e; simp
            · simp [e]
          have HB2' : Hid (Below _ _ (wr.setCell ⟨gv, k + 1, none⟩ (.int .i64 z))) := hBV.out.trans ((HKE.out (.int .i64 z)).below hBV.out.size (fun i hi => by rw [hi]; exact HGE.out))
          go_roundw
          case rel => exact ⟨k + 1, _, by go_num, by omega, Lib.hid (fun i => by
            show -1 ≤ (if i = k + 1 then z else V i) ∧ (if i = k + 1 then z else V i) ≤ 1
            have := hV1.out i
            split <;> omega), Lib.hid (fun i h1 h2 => by
            show (if i = k + 1 then z else V i) = 1 ∨ (if i = k + 1 then z else V i) = -1
            by_cases e : i = k + 1
            · rw [if_pos e]; exact hbit
            · rw [if_neg e]; exact hV2.out i h1 (by omega)), HR2, HB2'⟩
          case measure => simp [intOf]; omega
        have tk : decide ((k : Int) + 1 ≤ (N : Int)) = false := decide_eq_false (by omega)
        obtain rfl : k = N := by omega
        have HSx := Lib.hid (hS.out.below hBV.out)
        have HRx := Lib.hid (hR.out.same (hBV.out.block g HGV.out))
        have hex := HLH.out V hV2.out
        obtain ⟨A6, c6, hh6, ha6⟩ := HSx.out.mem
        obtain ⟨f6, hf6, hj6⟩ := ha6.row
        have d1 : wr.cell? ⟨bs, 1, none⟩ = some (.slice A6 all.length c6) := by rw [Lib.cell_of_heap hh6]; rfl
        have HF6 := Lib.hid hf6
        have HJ6 := Lib.hid hj6
        have HEX := Lib.hid hex
        have HSO : Hid (∀ (A' : Option Addr) (m c' : Nat) (ys : List Int), SlV 43 1 wr A' m c' (lsC ys) → ys.length = m → (∀ y ∈ ys, LitM.one y = true ∧ varZ y < ((k + 1 : Nat) : Int)) → m ≤ 100000 → Calls Try.prog 36 #[.slice (some ⟨gv, 0, none⟩) (k + 1) (k + 1), .slice A' m c'] wr fun e w' => e = .returned (.bool (someB V ys)) ∧ wr = w') := fun A' m c' ys h1 h2 h3 h4 => some_any hRV.out hV1.out (by omega) h1 h2 h3 h4
        clear hh6 ha6 hf6 hj6 hex hRV hV1 hV2 hR hS hBV
        go_wp2_with fail
        go_loopw [15, 108] (fun av pv wy => ∃ (i : Nat) (al : Bool), av = .bool al ∧ pv = .int .i64 (i : Int) ∧ i ≤ all.length ∧ Hid (al = true → ∀ x, x < i → someB V (all.getD x []) = true) ∧ wr = wy) (fun _ pv _ => all.length - (intOf pv).toNat)
        case atStart => exact ⟨0, true, by first | rfl | trivial, by first | rfl | trivial, by omega, Lib.hid (fun _ x hx => by omega), by first | rfl | trivial⟩
        case round =>
          obtain ⟨i, al, rfl, rfl, hi, hal2, rfl⟩ := hrel
          by_cases hil : i < all.length
          · have ti1 : decide (i < all.length) = true := decide_eq_true hil
            have ti2 : decide ((i : Int) < (all.length : Int)) = true := decide_eq_true (by omega)
            obtain ⟨g6, hA6, hrow6⟩ := HF6.out.row (by omega)
            subst hA6
            obtain ⟨A', c', e1, e2, _⟩ := HJ6.out i hil
            have hc6 : wr.cell? ⟨g6, i, none⟩ = some (.slice A' (all.getD i []).length c') := by rw [hrow6.cell (show i < all.length * 1 by omega), e1]
            have hmi : all.getD i [] ∈ all := by rw [List.getD, List.getElem?_eq_getElem hil]; exact List.getElem_mem _
            obtain ⟨m1, m2⟩ := HAO.out _ hmi
            have HCS := Lib.hid (HSO.out A' _ c' _ e2 rfl m2 (by omega))
            have hbd := hrow6.bd
            obtain ⟨hbd1, hbd2⟩ := hbd
            have HNX : Hid (∀ b : Bool, (b = true → al = true ∧ someB V (all.getD i []) = true) → b = true → ∀ x, x < i + 1 → someB V (all.getD x []) = true) := fun b hb h x hx => by
              obtain ⟨h1, h2⟩ := hb h
              by_cases e : x = i
              · rw [e]; exact h2
              · exact hal2.out h1 x (by omega)
            clear hrow6 e1 e2 hmi m1 m2 hal2
            generalize someB V (all.getD i []) = sv at *
            generalize (all.getD i []).length = ln at *
            cases al with
            | true =>
              go_wp2_with fail
              refine HCS.out.mono ?_
              rintro e w' ⟨rfl, rfl⟩
              go_wp2_with fail
              go_roundw
              case rel => exact ⟨i + 1, sv, by first | rfl | trivial, by go_num, by omega, Lib.hid (HNX.out sv (fun h => ⟨by first | rfl | trivial, h⟩)), by first | rfl | trivial⟩
              case measure => simp [intOf]; omega
            | false =>
              go_wp2_with fail
              go_roundw
              case rel => exact ⟨i + 1, false, by first | rfl | trivial, by go_num, by omega, Lib.hid (fun h => by cases h), by first | rfl | trivial⟩
              case measure => simp [intOf]; omega
          have ti1 : decide (i < all.length) = false := decide_eq_false hil
          have ti2 : decide ((i : Int) < (all.length : Int)) = false := decide_eq_false (by omega)
          obtain rfl : i = all.length := by omega
          have HCZ := Lib.hid (HSO.out (some ⟨g, 0, none⟩) zs.length cz zs (.inr ⟨g, rfl, HRx.out⟩) rfl HZO.out (by omega))
          cases al with
          | true =>
            have hz1 : someB V zs = true := HEX.out fun c hc => by
              obtain ⟨x, hx, rfl⟩ := List.getElem_of_mem hc
              have := hal2.out rfl x hx
              rw [List.getD, List.getElem?_eq_getElem hx] at this
              exact this
            rw [hz1] at HCZ
            clear hz1 hal2
            go_wp2_with fail
            refine HCZ.out.mono ?_
            rintro e w' ⟨rfl, rfl⟩
            go_wp2_with fail
            go_roundw
            case rel => exact ⟨t + 1, q', by go_num, by omega, HSx, HRx⟩
            case measure => simp [intOf]; omega
          | false =>
            go_wp2_with fail
            go_roundw
            case rel => exact ⟨t + 1, q', by go_num, by omega, HSx, HRx⟩
            case measure => simp [intOf]; omega
set_option maxHeartbeats 800000 in
set_option maxRecDepth 100000 in
theorem lifted (os : Os) (started : os.Started) (H : Type) (enc : TypeId × Value → H) :
    ReturnsInHanded {} Try.checked os 7 .any (Rows.learnFollowsSpec.pre6 enc Try.prog Try.f7 Rows.learnFollowsRow.domain false) (Rows.learnFollowsSpec.post enc Try.prog Try.f7 false true false false) := by
  refine returnsInHanded_of_change_sized (C := Try.checked) own_knob5 started (by kernel_rfl) Try.func7
    (ChangeSpec.witness6 (enc := enc) (C := Try.checked) false ⟨#[], #[.agg #[.int .i64 0, .slice none 0 0], .slice none 0 0], []⟩ 8 (by kernel_rfl) (by kernel_rfl) (by kernel_rfl) (by kernel_rfl)) ?_
  intro W base args ds gs before hval0 hW _ hsize _
  have hval : ∀ (j : Nat) t v, Try.f7.params[j]? = some t → args[j]? = some v → Value.okWide Try.prog W .any base t v := hval0
  have hW' := hW
  obtain ⟨p, q, hA0, hV, rfl, _, _⟩ := hW
  have hA : DataW.TrodAll enc Try.prog W 0 (fun _ => true) true Try.f7.params.toList args.toList ds p := hA0
  rw [Try.params7] at hA hval
  obtain ⟨v0, v1, d0, d1, p0, p1, rfl, rfl, rfl, h0, h1⟩ := trodAll_two hA
  obtain ⟨rfl, rfl⟩ := trodVars_none hV
  have hwt : ∀ n ∈ d0.weights Try.prog 59, n ≤ reachBytes := fun n hn => by
    have := List.all_eq_true.1 hsize n (DataW.weights_mem_each (j := 0) (t := 59) (d := d0) (by rw [Try.params7]; rfl) rfl n hn)
    simpa using this
  obtain ⟨a0, A0, n0, c0, cs0, rfl, hR0, h320, hsz0, _⟩ := open_formS (hval 0 59 v0 rfl rfl) hwt h0
  obtain ⟨A1, n1, c1, xs1, rfl, hR1, h321, _⟩ := open_lits (hval 1 29 v1 rfl rfl) h1
  clear hA0 hval0
  have hlt0 : ∀ y ∈ p0, y.block < W.heap.size := fun y hy => by simpa using hW'.lt y (by simp [hy])
  have hlt1 : ∀ y ∈ p1, y.block < W.heap.size := fun y hy => by simpa using hW'.lt y (by simp [hy])
  refine (walk a0 A0 n0 c0 cs0 A1 n1 c1 xs1 W hR0 hR1 h320 hsz0 h321).mono fun e W' ⟨he, hB⟩ => ?_
  subst he
  exact ⟨_, rfl, _, _, _, [], _, [], hW', trodAll_mk1 (shut_bool Try.underlying4 true), trodAll_mk2 (Below.trod laid_out (by kernel_rfl) (of_decide_eq_true (by kernel_rfl)) h0 hB hlt0) (Below.trod laid_out (by kernel_rfl) (of_decide_eq_true (by kernel_rfl)) h1 hB hlt1), rfl, hB.frame _, fun h => by cases h⟩

theorem proved : Rows.LearnFollowsSaid :=
  OpenClaim.holds_of_wide 7 Try.f7 rfl rfl rfl rfl rfl rfl rfl ⟨rfl, rfl, rfl, rfl, rfl⟩ rfl rfl rfl rfl rfl (by kernel_rfl) Try.func7 (by kernel_rfl)
    (of_decide_eq_true (by kernel_rfl)) (by unfold Func.isWrapper; first | (rw [if_pos (by decide +kernel)]; kernel_rfl) | (rw [if_neg (by decide +kernel)]; exact ⟨rfl, rfl⟩))
    (fun os started H enc _ => lifted os started H enc)
end Go.Proofs.Ytaalaekiblifpaa.LFols
namespace Go.Proofs.Ytaalaekiblifpaa
theorem learnFollows_holds : Rows.LearnFollowsSaid := LFols.proved
#print axioms learnFollows_holds
end Go.Proofs.Ytaalaekiblifpaa
