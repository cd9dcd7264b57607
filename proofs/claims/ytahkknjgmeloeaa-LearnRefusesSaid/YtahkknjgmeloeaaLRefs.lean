/- LearnRefuses is true: the statement Rows.LearnRefusesSaid, without a condition. -/
import Derived.Test.YtahkknjgmeloeaaLrnN
import Derived.Test.YtahkknjgmeloeaaFrsh
import Derived.Test.YtahkknjgmeloeaaFols
import Derived.Test.YtahkknjgmeloeaaWOpS
import Derived.Test.YtahkknjgmeloeaaRows
import Derived.Deep.RegionWith
import Derived.Deep.Slices
import Derived.Deep.Fields
import Derived.ChangeSame
import Derived.Lib.QuietBelow
namespace Go.Proofs.Ytahkknjgmeloeaa.LRefs
open Go.ChangeShapes Go.WideShapes Go.ChangeAt Go.RowKit LitM TrailM EngM

/-- Behind decisions. -/
structure Dc (N m j : Nat) (F : Eng) (all : List (List Int)) : Prop where
  n : F.n = N
  cs : F.cs.length ≤ m
  le : F.le.length ≤ j
  dec : DecI F
  al : all = (F.cs.map Cl.ls).filter fun c => !bothB c
theorem Dc.dcd {N m j : Nat} {F : Eng} {all : List (List Int)} (h : Dc N m j F all) (hI : Inv F) (l : Int) : Dc N m (j + 1) (decE F l) all := by
  refine ⟨?_, ?_, ?_, deci_decE hI h.dec l, ?_⟩
  · unfold decE; split <;> exact h.n
  · unfold decE; split <;> exact h.cs
  · unfold decE
    have := h.le
    split
    · show (F.le ++ [_]).length ≤ j + 1
      rw [List.length_append]
      show F.le.length + 1 ≤ j + 1
      omega
    · omega
  · unfold decE; split <;> exact h.al
theorem Dc.prop {N m j : Nat} {F : Eng} {all : List (List Int)} (h : Dc N m j F all) (hI : Inv F) : Dc N m j (propF F).1 all := by
  obtain ⟨_, k, _⟩ := inv_prop hI
  have e1 : (propF F).1.cs.length = F.cs.length := k.cs
  have e2 : (propF F).1.le.length = F.le.length := k.le
  exact ⟨k.n.trans h.n, by rw [e1]; exact h.cs, by rw [e2]; exact h.le, deci_prop hI h.dec, by rw [cls_map e1 (fun i => (k.cl i).2)]; exact h.al⟩
theorem Dc.fresh {N : Nat} {F : Eng} {all : List (List Int)} (h : Fz N 80 F all) : Dc N 80 0 F all := ⟨h.n, h.cs, by rw [h.le]; simp, fun j x hx => by rw [h.L] at hx; simp at hx, h.al⟩
theorem rdg_all {w : World} {q : Pm} {B bs c : Nat} {A : Option Addr} {all : List (List Int)} (h : AllZ w q B bs A c all) : RdG w A all.length all := by
  refine ⟨rfl, fun j hj => ?_⟩
  obtain ⟨f, hf, he⟩ := h.row
  obtain ⟨g, rfl, hr⟩ := hf.row (by omega)
  obtain ⟨A', c', e1, e2, _⟩ := he j hj
  have hb := e2.bd
  refine ⟨g, 0, A', c', rfl, ?_, hb.1, hb.2, SlV.rd e2 rfl⟩
  rw [Nat.zero_add, hr.cell (show j < all.length * 1 by omega), e1]
theorem rup_of {S : Eng} {t : Nat} {zs : List Int} (h : Lrnt S t zs) {all : List (List Int)} (hall : all = (S.cs.map Cl.ls).filter fun c => !bothB c) : Rup all zs := fun T hc hf => h.rup T ⟨hc, fun i hi _ hb => hf _ (by
  rw [hall, List.mem_filter]
  refine ⟨List.mem_map.2 ⟨clA S.cs i, ?_, rfl⟩, by rw [hb]; rfl⟩
  unfold clA
  rw [List.getD, List.getElem?_eq_getElem hi]; exact List.getElem_mem _)⟩
theorem arr40 : ∃ C : Array Value, Try.prog.built 68 [] = some C ∧ (Try.prog.info? 68).map (fun i => (i.zero, i.size)) = some (some (.agg C), C.size) ∧ C.all (·.oneCell') = true ∧ C.size = 40 ∧ ∀ j, j < 40 → C[j]? = some (.bool false) :=
  ⟨Array.replicate 40 (.bool false), by kernel_rfl, by kernel_rfl, by decide +kernel, by simp, fun j hj => by rw [Array.getElem?_replicate, if_pos hj]⟩
/-- The levels below 40. -/
def lowL (M : List Int) : List Int := M.filter fun z => decide (z < 40)
theorem lowL_put {S : Eng} {M : List Int} {l : Int} : lowL (putV S M l) = if lvl S l < 0 ∨ lvl S l ∈ M ∨ 40 ≤ lvl S l then lowL M else lowL M ++ [lvl S l] := by
  unfold putV lowL
  by_cases h1 : lvl S l < 0 ∨ lvl S l ∈ M
  · rw [if_pos h1, if_pos (by rcases h1 with e | e; exact .inl e; exact .inr (.inl e))]
  · rw [if_neg h1, List.filter_append]
    by_cases h2 : 40 ≤ lvl S l
    · rw [if_pos (.inr (.inr h2))]
      have : ¬ lvl S l < 40 := by omega
      simp [this]
    · rw [if_neg (by rintro (e | e | e); exact h1 (.inl e); exact h1 (.inr e); exact h2 e)]
      have : lvl S l < 40 := by omega
      simp [this]
theorem lvs_le {S : Eng} {t : Int} (h : ∀ l, lvl S l ≤ t) : ∀ (xs M : List Int), (∀ z ∈ M, z ≤ t) → ∀ z ∈ xs.foldl (putV S) M, z ≤ t
  | [], M, hM => hM
  | x :: xs, M, hM => lvs_le h xs (putV S M x) fun z hz => by
    unfold putV at hz
    split at hz
    · exact hM z hz
    · rcases List.mem_append.1 hz with e | e
      · exact hM z e
      · rw [List.mem_singleton.1 e]; exact h x
theorem pow_le (N : Nat) (h : N ≤ 12) : wrap64 (2 ^ N) ≤ 4096 := by
  have : ∀ N : Nat, N < 13 → wrap64 (2 ^ N) ≤ 4096 := by decide +kernel
  exact this N (by omega)
theorem bit_one (t k : Nat) : wrap64 (wrap64 (2 * ((t : Int) / 2 ^ k).tmod 2) - 1) = 1 ∨ wrap64 (wrap64 (2 * ((t : Int) / 2 ^ k).tmod 2) - 1) = -1 := by
  have h0 : 0 ≤ (t : Int) / 2 ^ k := Int.ediv_nonneg (by omega) (Int.le_of_lt (Int.pow_pos (by omega)))
  rw [Int.tmod_eq_emod_of_nonneg h0]
  rcases Int.emod_two_eq ((t : Int) / 2 ^ k) with e | e
  · rw [e]; exact .inr (by decide +kernel)
  · rw [e]; exact .inl (by decide +kernel)
set_option maxHeartbeats 25600000 in
set_option maxRecDepth 100000 in
theorem walk (v : Int) (A : Option Addr) (n c : Nat) (cs : List (List Int)) (A2 : Option Addr) (n2 c2 : Nat) (xs : List Int) (ci : Int) (w : World)
    (hf : RdF w w.heap.size A n cs) (hx : Rd .i32 w w.heap.size A2 n2 xs) (h32 : ∀ c ∈ cs, In32 c) (hsz : ∀ c ∈ cs, c.length * 4 ≤ 140737488351232) (hx32 : In32 xs) :
    Calls Try.prog 6 #[.agg #[.int .i64 v, .slice A n c], .slice A2 n2 c2, .int .i64 ci] w fun e w' => e = .returned (.bool true) ∧ Below w.heap.size w w' := by
  obtain ⟨W0, hW0⟩ : ∃ W0, W0 = w.alloc (.cells #[.int .i64 v, .slice A n c] 59) := ⟨_, rfl⟩
  have hs0 : W0.heap.size = w.heap.size + 1 := by rw [hW0]; simp
  have hB0 : Below w.heap.size w W0 := by rw [hW0]; exact (Below.refl _ _).alloc (Nat.le_refl _) _
  have HLX := Lib.hid hx.len
  have hbox : W0.heap[w.heap.size]? = some (.cells #[.int .i64 v, .slice A n c] 59 (0, 0)) := by rw [hW0]; exact blk_new w _
  have HX32 := Lib.hid hx32
  go_enter Try.func6, Try.ntmps6
  go_wp2_with fail
  rw [← hW0]
  refine (lalive_any W0).mono ?_
  rintro e w1 ⟨rfl, hB⟩
  have hs1 := hB.size
  have HB1 : Hid (Below w.heap.size w w1) := hB0.trans (hB.mono (by omega))
  have HT : Hid (∀ W, Below w1.heap.size w1 W → W.heap[w.heap.size]? = some (.cells #[.int .i64 v, .slice A n c] 59 (0, 0))) := fun W h => by rw [h.block w.heap.size (by omega), hB.block w.heap.size (by omega)]; exact hbox
  have hHF : RdF w1 w1.heap.size A n cs := (hf.below HB1.out).more (by omega)
  have HRX : Hid (∀ W, Below w1.heap.size w1 W → Rd .i32 W w1.heap.size A2 n2 xs) := fun W h => ((hx.below HB1.out).more (by omega)).below h
  have HBW : Hid (∀ W, Below w1.heap.size w1 W → Below w.heap.size w W) := fun W h => HB1.out.trans (h.mono (by omega))
  have HFr := Lib.hid (fresh_any v A n c cs w1 hHF h32 hsz)
  have hb1 := HT.out w1 (Below.refl _ _)
  have k0 : w1.cell? ⟨w.heap.size, 0, none⟩ = some (.int .i64 v) := by rw [Lib.cell_of_heap hb1]; rfl
  have k1 : w1.cell? ⟨w.heap.size, 1, none⟩ = some (.slice A n c) := by rw [Lib.cell_of_heap hb1]; rfl
  clear hb1
  clear hf hx h32 hsz hx32 hB0 hbox hW0 hs0 hB hHF hs1
  go_wp2_with fail
  refine HFr.out.mono ?_
  rintro e w2 hfr
  clear k0 k1
  rcases hfr with ⟨rfl, hB2⟩ | ⟨v0, v1, bs, b, F, q, all, rfl, hst, hfz⟩
  · have HB2 := Lib.hid (HBW.out _ hB2)
    clear hB2
    go_wp2_with fail
    go_ret
    exact ⟨rfl, HB2.out⟩
  have HS := Lib.hid hst
  have HF := Lib.hid hfz
  clear hst hfz HFr
  by_cases hn2 : ¬ 40 < n2
  case neg =>
    have thn20 : decide (40 < n2) = true := decide_eq_true (by omega)
    have thn21 : decide ((40 : Int) < (n2 : Int)) = true := decide_eq_true (by omega)
    go_wp2_with fail
    go_ret
    exact ⟨rfl, HBW.out _ HS.out.sg.out⟩
  have thn20 : decide (40 < n2) = false := decide_eq_false (by omega)
  have thn21 : decide ((40 : Int) < (n2 : Int)) = false := decide_eq_false (by omega)
  obtain ⟨N, rfl⟩ : ∃ N : Nat, v = (N : Int) := ⟨v.toNat, by omega⟩
  have hN : N ≤ 20 := by omega
  have HDC : Hid (Dc N 80 0 F all) := by
    have := HF.out
    rw [Int.toNat_natCast] at this
    exact Dc.fresh this
  have cs0 := HS.out.c0
  have HP := Lib.hid (HS.out.sg.prop (by have := HDC.out.cs; omega))
  clear HF
  go_wp2_with fail
  refine HP.out.mono ?_
  rintro e w3 ⟨rfl, q3, hs, hx⟩
  have HS3 := Lib.hid (HS.out.ext hs hx)
  have HD3 := Lib.hid (HDC.out.prop HS.out.sg.inv)
  obtain ⟨id0, hid0⟩ : ∃ i, i = (propF F).2 := ⟨_, rfl⟩
  rw [← hid0]
  clear hs hx HS HDC HP cs0 hid0
  generalize (propF F).1 = F1 at *
  go_wp2_with fail
  go_loopw [8, 44] (fun idv p wr => ∃ (j : Nat) (F : Eng) (q : Pm) (id : Int), idv = .int .i64 id ∧ p = .int .i64 (j : Int) ∧ j ≤ n2 ∧ Hid (Dc N 80 j F all) ∧ Hid (StZ w1.heap.size w1 wr bs b F q all)) (fun _ p _ => n2 - (intOf p).toNat)
  case atStart => exact ⟨0, F1, q3, id0, rfl, rfl, by omega, HD3, HS3⟩
  case round =>
    obtain ⟨j, G, q, id, rfl, rfl, hj, hD, hS⟩ := hrel
    clear HS3 HD3
    have cs0 := hS.out.c0
    have hcg : G.cs.length ≤ 20000 := by have := hD.out.cs; omega
    by_cases hlt : j < n2
    · have tj : decide (j < n2) = true := decide_eq_true hlt
      have tj2 : decide ((j : Int) < (n2 : Int)) = true := decide_eq_true (by omega)
      obtain ⟨bj, o, rfl, hbj, hc⟩ := (HRX.out _ hS.out.sg.out).get hlt
      have hi := HX32.out j
      generalize xs.getD j 0 = l at *
      obtain ⟨i0, i1⟩ := hi
      by_cases hid : id < 0
      · have ti : decide (id < 0) = true := decide_eq_true hid
        have HDE := Lib.hid (hS.out.sg.decide l i0 i1)
        have HDD := Lib.hid (hD.out.dcd hS.out.sg.inv l)
        cases he : (eErr G l == 0) with
        | true =>
          generalize eErr G l = er at *
          go_wp2_with fail
          refine HDE.out.mono ?_
          rintro e w5 ⟨rfl, q5, hs, hx⟩
          have HS5 := Lib.hid (hS.out.ext hs hx)
          have cs5 := HS5.out.c0
          have HP := Lib.hid (HS5.out.sg.prop (by have := HDD.out.cs; omega))
          have HD5 := Lib.hid (HDD.out.prop HS5.out.sg.inv)
          clear hs hx HDE HDD hS hD cs0 hc hbj
          generalize propF (decE G l) = P at *
          go_wp2_with fail
          refine HP.out.mono ?_
          rintro e w6 ⟨rfl, q6, hs, hx⟩
          have HS6 := Lib.hid (HS5.out.ext hs hx)
          clear hs hx HS5 cs5 HP
          go_wp2_with fail
          go_roundw
          case rel => exact ⟨j + 1, P.1, q6, P.2, rfl, by go_num, by omega, HD5, HS6⟩
          case measure => simp [intOf]; omega
        | false =>
          generalize eErr G l = er at *
          go_wp2_with fail
          refine HDE.out.mono ?_
          rintro e w5 ⟨rfl, q5, hs, hx⟩
          have HS5 := Lib.hid (hS.out.ext hs hx)
          clear hs hx HDE hS hD cs0 hc hbj
          go_wp2_with fail
          go_roundw
          case rel => exact ⟨j + 1, _, q5, id, rfl, by go_num, by omega, HDD, HS5⟩
          case measure => simp [intOf]; omega
      · have ti : decide (id < 0) = false := decide_eq_false hid
        have HD2 : Hid (Dc N 80 (j + 1) G all) := ⟨hD.out.n, hD.out.cs, by have := hD.out.le; omega, hD.out.dec, hD.out.al⟩
        clear hD
        go_wp2_with fail
        go_roundw
        case rel => exact ⟨j + 1, G, q, id, rfl, by go_num, by omega, HD2, hS⟩
        case measure => simp [intOf]; omega
    have tj : decide (j < n2) = false := decide_eq_false hlt
    have tj2 : decide ((j : Int) < (n2 : Int)) = false := decide_eq_false (by omega)
    obtain rfl : j = n2 := by omega
    have HTr := Lib.hid hS.out.sg.true_
    have hle : G.le.length ≤ 40 := by have := hD.out.le; omega
    go_wp2_with fail
    refine HTr.out.mono ?_
    rintro e w5 ⟨rfl, hr5, hb5⟩
    have HS5 := Lib.hid (hS.out.below hb5)
    obtain ⟨gt, hgt⟩ : ∃ gt, gt = wr.heap.size := ⟨_, rfl⟩
    rw [← hgt] at hr5 ⊢
    have HR5 := Lib.hid hr5
    have cs5 := HS5.out.c0
    have HCl := Lib.hid (clause_u HS5.out.sg.eng HS5.out.sg.inv.small ci)
    obtain ⟨hxo, hxl⟩ := clsL_ok HS5.out.sg.inv ci
    have HXO := Lib.hid hxo
    clear HTr hr5 hb5 hS cs0 hgt hxo
    go_wp2_with fail
    refine HCl.out.mono ?_
    rintro e w6 ⟨Ac, cc, rfl, hsl, hon, hb6⟩
    have HS6 := Lib.hid (HS5.out.below hb6)
    have HR6 : Hid (RowV 43 1 w6 gt G.L.length G.L.length (lsC (G.L.map Ent.l))) := HR5.out.same (hb6.block gt HR5.out.lt)
    have HSL := Lib.hid hsl
    have cs6 := HS6.out.c0
    have HTH : Hid (thereB G ci = false → clsL G ci = []) := fun h => by unfold clsL; rw [h]; simp
    obtain ⟨xs2, hxs2⟩ : ∃ xs2, xs2 = clsL G ci := ⟨_, rfl⟩
    rw [← hxs2] at HSL HXO hxl HTH ⊢
    have HXS := Lib.hid hxs2
    obtain ⟨a0, aV, aL, _, aN, aD⟩ := HS6.out.sg.asks
    have HAV : Hid (∀ (W : World), Below w6.heap.size w6 W → ∀ l, -2147483648 ≤ l → l ≤ 2147483647 → Calls Try.prog 17 #[.pointer (some ⟨q.bt, 0, none⟩), .int .i32 l] W fun e w' => e = .returned (.int .i64 (valZ G.L l)) ∧ W = w') := fun W hW => (HS6.out.sg.below hW).asks.2.1
    have HAL : Hid (∀ (W : World), Below w6.heap.size w6 W → ∀ v, Calls Try.prog 32 #[.pointer (some ⟨q.bt, 0, none⟩), .int .i64 v] W fun e w' => e = .returned (.int .i64 (levZ G.L v)) ∧ W = w') := fun W hW => (HS6.out.sg.below hW).asks.2.2.1
    clear HCl hsl hon hb6 HS5 HR5 cs5 hxs2 aV aL aN aD
    have HB6 : Hid (Below w6.heap.size w6 w6) := Below.refl _ _
    have HCE : Hid (∀ W, Below w6.heap.size w6 W → W.cell? ⟨bs, 0, none⟩ = some (.pointer (some ⟨b, 0, none⟩)) ∧ W.cell? ⟨b, 0, none⟩ = some (.pointer (some ⟨q.bt, 0, none⟩))) := fun W hW => ⟨(HS6.out.below hW).c0, (HS6.out.below hW).sg.eng.h0⟩
    have HLB : Hid (∀ l, -1 ≤ lvl G l ∧ lvl G l ≤ 90000) := fun l => lvl_bd HS6.out.sg.eng HS6.out.sg.inv.small.n l
    clear a0
    go_wp2_with fail
    go_loopw [14, 15, 83] (fun fv tv pv wr => ∃ (i : Nat) (fb : Bool) (T : Int), fv = .bool fb ∧ tv = .int .i64 T ∧ pv = .int .i64 (i : Int) ∧ i ≤ xs2.length ∧ 0 ≤ T ∧ T ≤ 90000 ∧ Hid (fb = (!thereB G ci || (xs2.take i).any fun y => decide (valZ G.L y ≠ -1))) ∧ Hid (T = topZ G (xs2.take i)) ∧ Hid (Below w6.heap.size w6 wr)) (fun _ _ pv _ => xs2.length - (intOf pv).toNat)
    case atStart => exact ⟨0, !thereB G ci, 0, by first | rfl | trivial, rfl, rfl, by omega, by omega, by omega, Lib.hid (by simp), Lib.hid rfl, HB6⟩
    case round =>
      clear HB6 cs6
      obtain ⟨i, fb, T, rfl, rfl, rfl, hi, hT0, hT1, hfb, hT, hB⟩ := hrel
      obtain ⟨cs6, b6⟩ := HCE.out _ hB.out
      by_cases hil : i < xs2.length
      · have ti1 : decide (i < xs2.length) = true := decide_eq_true hil
        have ti2 : decide ((i : Int) < (xs2.length : Int)) = true := decide_eq_true (by omega)
        obtain ⟨gx, hA, hrow⟩ := (HSL.out.below hB.out).row (by omega)
        subst hA
        have hcm : wr.cell? ⟨gx, i, none⟩ = some (.int .i32 (xs2.getD i 0)) := hrow.cell (show i < xs2.length * 1 by omega)
        have hxj : xs2[i]? = some (xs2.getD i 0) := by rw [List.getD, List.getElem?_eq_getElem (by omega)]; rfl
        have ho := (one_iff _).1 (HXO.out _ (List.mem_of_getElem? hxj)).1
        have hbd := hrow.bd
        obtain ⟨hbd1, hbd2⟩ := hbd
        have HTS : Hid (topZ G (xs2.take (i + 1)) = max T (lvl G (xs2.getD i 0))) := by unfold Hid; rw [topZ_snoc G xs2 hxj, ← hT.out]
        have HFS : Hid ((!thereB G ci || (xs2.take (i + 1)).any fun y => decide (valZ G.L y ≠ -1)) = (fb || decide (valZ G.L (xs2.getD i 0) ≠ -1))) := by
          unfold Hid
          rw [List.take_add_one, hxj, List.any_append, hfb.out, Bool.or_assoc]; simp
        clear hrow hxj hfb hT
        generalize xs2.getD i 0 = l at *
        have HVl := Lib.hid (HAV.out _ hB.out l (by omega) (by omega))
        have HRV : Hid (∀ V : World, Calls Try.prog 33 #[.int .i32 l] V fun e w' => e = .returned (.int .i64 (varZ l)) ∧ w' = V) := fun V => (rvar_any l V (by omega) (by omega)).mono fun e w' ⟨h1, h2⟩ => ⟨h1, h2.symm⟩
        have HRL : Hid (∀ r, Calls Try.prog 32 #[.pointer (some ⟨q.bt, 0, none⟩), .int .i64 (varZ l)] (wr.drewN r) fun e w' => e = .returned (.int .i64 (lvl G l)) ∧ w' = wr.drewN r) := fun r => (HAL.out _ (below_drewN hB.out r) (varZ l)).mono fun e w' ⟨h1, h2⟩ => ⟨h1, h2.symm⟩
        have hlb := HLB.out l
        cases fb with
        | true =>
          clear HVl
          generalize valZ G.L l = vl at *
          generalize lvl G l = lv at *
          generalize varZ l = vz at *
          go_upto_region 21 with (fail)
          go_quiet (first | (go_at_call 33; exact Calls.quiet_of_same (HRV.out _)) | (go_at_call 32; exact Calls.quiet_of_same (HRL.out _)))
          go_wp2_with fail
          go_roundw
          case rel => exact ⟨i + 1, true, max T lv, by first | rfl | trivial, by first | rfl | trivial, by go_num, by omega, by omega, by omega, by unfold Hid; rw [HFS.out]; simp, by unfold Hid; rw [HTS.out], below_drewN hB.out _⟩
          case measure => simp [intOf]; omega
        | false =>
          generalize valZ G.L l = vl at *
          generalize lvl G l = lv at *
          generalize varZ l = vz at *
          have HBB := Lib.hid hB.out
          clear hB
          go_wp2_with fail
          refine HVl.out.mono ?_
          rintro e w' ⟨rfl, rfl⟩
          by_cases hv : vl = -1
          · have tv : (vl != -1) = false := by simp [hv]
            go_upto_region 21 with (fail)
            go_quiet (first | (go_at_call 33; exact Calls.quiet_of_same (HRV.out _)) | (go_at_call 32; exact Calls.quiet_of_same (HRL.out _)))
            go_wp2_with fail
            go_roundw
            case rel => exact ⟨i + 1, false, max T lv, by first | rfl | trivial, by first | rfl | trivial, by go_num, by omega, by omega, by omega, by unfold Hid; rw [HFS.out]; simp [hv], by unfold Hid; rw [HTS.out], below_drewN HBB.out _⟩
            case measure => simp [intOf]; omega
          · have tv : (vl != -1) = true := by simpa using hv
            go_upto_region 21 with (fail)
            go_quiet (first | (go_at_call 33; exact Calls.quiet_of_same (HRV.out _)) | (go_at_call 32; exact Calls.quiet_of_same (HRL.out _)))
            go_wp2_with fail
            go_roundw
            case rel => exact ⟨i + 1, true, max T lv, by first | rfl | trivial, by first | rfl | trivial, by go_num, by omega, by omega, by omega, by unfold Hid; rw [HFS.out]; simp [hv], by unfold Hid; rw [HTS.out], below_drewN HBB.out _⟩
            case measure => simp [intOf]; omega
      have ti1 : decide (i < xs2.length) = false := decide_eq_false hil
      have ti2 : decide ((i : Int) < (xs2.length : Int)) = false := decide_eq_false (by omega)
      obtain rfl : i = xs2.length := by omega
      have hfull : xs2.take xs2.length = xs2 := List.take_of_length_le (Nat.le_refl _)
      rw [hfull] at hfb hT
      have HS7 := Lib.hid (HS6.out.below hB.out)
      have HR7 : Hid (RowV 43 1 wr gt G.L.length G.L.length (lsC (G.L.map Ent.l))) := HR6.out.same (hB.out.block gt HR6.out.lt)
      have HSL7 := Lib.hid (HSL.out.below hB.out)
      have HCF : Hid ((fb = true ∨ T = 0) ↔ ¬ CnfZ G ci) := by
        have h1 := hfb.out
        have h2 := hT.out
        have h3 := HXS.out
        have h4 := HTH.out
        unfold Hid CnfZ
        rw [← h3, ← h2]
        constructor
        · rintro (e | e) ⟨c1, c2⟩
          · rw [h1] at e
            rw [Bool.or_eq_true] at e
            rcases e with e | e
            · have := h4 (by simpa using e)
              rw [this] at h2
              rw [h2] at c2
              simp [topZ] at c2
            · obtain ⟨y, hy, e⟩ := List.any_eq_true.1 e
              exact (of_decide_eq_true e) (c1 y hy)
          · omega
        · intro hn
          by_cases e : fb = true
          · exact .inl e
          · refine .inr ?_
            have e : fb = false := by simpa using e
            rw [h1, Bool.or_eq_false_iff] at e
            by_cases e2 : 0 < T
            · exfalso
              refine hn ⟨fun l hl => ?_, e2⟩
              have := List.any_eq_false.1 e.2 l hl
              simpa using this
            · omega
      have HLn := Lib.hid (learn_any HS7.out.sg.eng HS7.out.sg.inv hD.out.dec ci)
      clear hfb hT hB
      go_wp2_with fail
      refine HLn.out.mono ?_
      rintro e w8 ⟨hB8, hl⟩
      have HS8 := Lib.hid (HS7.out.below hB8)
      have HR8 : Hid (RowV 43 1 w8 gt G.L.length G.L.length (lsC (G.L.map Ent.l))) := HR7.out.same (hB8.block gt HR7.out.lt)
      have HSL8 := Lib.hid (HSL7.out.below hB8)
      obtain ⟨Al, nl, cl, bk, er, rfl, hlr⟩ : ∃ (Al : Option Addr) (nl cl : Nat) (bk er : Int), e = .returned (.tuple #[.slice Al nl cl, .int .i64 bk, .int .i64 er]) ∧ ((¬ CnfZ G ci ∧ nl = 0 ∧ bk = 0 ∧ er = 61) ∨ (CnfZ G ci ∧ er = 0 ∧ ∃ zs, nl = zs.length ∧ Lrnt G (topZ G (clsL G ci)).toNat zs ∧ SlV 43 1 w8 Al nl cl (lsC zs))) := by
        rcases hl with ⟨h1, h2⟩ | ⟨h1, g, cz, zs, h2, hz, hr, hg⟩
        · exact ⟨none, 0, 0, 0, 61, h2, .inl ⟨h1, rfl, rfl, rfl⟩⟩
        · exact ⟨_, _, _, _, 0, h2, .inr ⟨h1, rfl, zs, rfl, hz, .inr ⟨g, rfl, hr⟩⟩⟩
      have HLR := Lib.hid hlr
      clear hl hlr hB8 HLn HS7 HR7 HSL7 HAV HAL
      obtain ⟨C, hC1, hC2, hC3, hC4, hC5⟩ := arr40
      have HCA := Lib.hid (show _ ∧ _ ∧ _ from ⟨hC1, hC2, hC3⟩)
      have HW0 : Hid (RowV 68 40 (w8.alloc (.cells C 68)) w8.heap.size 1 1 (fun _ => .bool false)) := RowV.made (by omega) (by rw [hC4]) (fun j hj => hC5 j (by omega))
      have HBW0 : Hid (Below w8.heap.size w8 (w8.alloc (.cells C 68))) := (Below.refl _ _).alloc (Nat.le_refl _) _
      clear hC1 hC2 hC3 hC4 hC5
      go_upto_region 24 with (fail)
      refine wp_region_zeros 68 123 21 C rfl rfl rfl rfl rfl rfl rfl rfl rfl HCA.out.1 HCA.out.2.1 HCA.out.2.2 rfl rfl ?_
      obtain ⟨gb, hgb⟩ : ∃ gb, gb = w8.heap.size := ⟨_, rfl⟩
      obtain ⟨w9, hw9⟩ : ∃ w9, w9 = w8.alloc (.cells C 68) := ⟨_, rfl⟩
      rw [← hw9, ← hgb]
      rw [← hw9, ← hgb] at HW0
      rw [← hw9] at HBW0
      have HGB : Hid (w8.heap.size ≤ gb) := Nat.le_of_eq hgb.symm
      have HCE8 : Hid (∀ W, Below w8.heap.size w8 W → W.cell? ⟨bs, 0, none⟩ = some (.pointer (some ⟨b, 0, none⟩)) ∧ W.cell? ⟨b, 0, none⟩ = some (.pointer (some ⟨q.bt, 0, none⟩))) := fun W hW => ⟨(HS8.out.below hW).c0, (HS8.out.below hW).sg.eng.h0⟩
      have HAL8 : Hid (∀ (W : World), Below w8.heap.size w8 W → ∀ v, Calls Try.prog 32 #[.pointer (some ⟨q.bt, 0, none⟩), .int .i64 v] W fun e w' => e = .returned (.int .i64 (levZ G.L v)) ∧ W = w') := fun W hW => (HS8.out.sg.below hW).asks.2.2.1
      clear hw9 hgb HCA HCE cs6 b6 HS6 HR6 HSL
      go_wp2_with fail
      go_loopw [22, 126] (fun mv pv wr => ∃ (i : Nat) (f : Nat → Bool), mv = .int .i64 ((lowL (lvsZ G (xs2.take i))).length : Int) ∧ pv = .int .i64 (i : Int) ∧ i ≤ xs2.length ∧ (lowL (lvsZ G (xs2.take i))).length ≤ i ∧ Hid (RowV 68 40 wr gb 1 1 (fun k => .bool (f k))) ∧ Hid (∀ k : Nat, k < 40 → f k = decide ((k : Int) ∈ lvsZ G (xs2.take i))) ∧ Hid (Below w8.heap.size w8 wr)) (fun _ pv _ => xs2.length - (intOf pv).toNat)
      case atStart => exact ⟨0, fun _ => false, rfl, rfl, by omega, by simp [lowL, lvsZ], HW0, Lib.hid (fun k hk => by simp [lvsZ]), HBW0⟩
      case round =>
        clear HW0 HBW0
        obtain ⟨i, f, rfl, rfl, hi, hml, hRW, hF, hB⟩ := hrel
        obtain ⟨cs6, b6⟩ := HCE8.out _ hB.out
        by_cases hil : i < xs2.length
        · have ti1 : decide (i < xs2.length) = true := decide_eq_true hil
          have ti2 : decide ((i : Int) < (xs2.length : Int)) = true := decide_eq_true (by omega)
          obtain ⟨gx, hA, hrow⟩ := (HSL8.out.below hB.out).row (by omega)
          subst hA
          have hcm : wr.cell? ⟨gx, i, none⟩ = some (.int .i32 (xs2.getD i 0)) := hrow.cell (show i < xs2.length * 1 by omega)
          have hxj : xs2[i]? = some (xs2.getD i 0) := by rw [List.getD, List.getElem?_eq_getElem (by omega)]; rfl
          have ho := (one_iff _).1 (HXO.out _ (List.mem_of_getElem? hxj)).1
          have hbd := hrow.bd
          obtain ⟨hbd1, hbd2⟩ := hbd
          have HVS : Hid (lvsZ G (xs2.take (i + 1)) = putV G (lvsZ G (xs2.take i)) (xs2.getD i 0)) := lvsZ_snoc G xs2 hxj
          clear hrow hxj
          generalize xs2.getD i 0 = l at *
          have HRV : Hid (∀ V : World, Calls Try.prog 33 #[.int .i32 l] V fun e w' => e = .returned (.int .i64 (varZ l)) ∧ w' = V) := fun V => (rvar_any l V (by omega) (by omega)).mono fun e w' ⟨h1, h2⟩ => ⟨h1, h2.symm⟩
          have HRL : Hid (∀ r, Calls Try.prog 32 #[.pointer (some ⟨q.bt, 0, none⟩), .int .i64 (varZ l)] (wr.drewN r) fun e w' => e = .returned (.int .i64 (lvl G l)) ∧ w' = wr.drewN r) := fun r => (HAL8.out _ (below_drewN hB.out r) (varZ l)).mono fun e w' ⟨h1, h2⟩ => ⟨h1, h2.symm⟩
          have hlb := HLB.out l
          have HLP : Hid (lowL (lvsZ G (xs2.take (i + 1))) = if lvl G l < 0 ∨ lvl G l ∈ lvsZ G (xs2.take i) ∨ 40 ≤ lvl G l then lowL (lvsZ G (xs2.take i)) else lowL (lvsZ G (xs2.take i)) ++ [lvl G l]) := by unfold Hid; rw [HVS.out, lowL_put]
          have HPV : Hid (∀ z, z ∈ lvsZ G (xs2.take (i + 1)) ↔ z ∈ lvsZ G (xs2.take i) ∨ (z = lvl G l ∧ 0 ≤ z)) := fun z => by
            rw [HVS.out]
            unfold putV
            split
            · rename_i h
              constructor
              · exact .inl
              · rintro (e | ⟨rfl, e⟩)
                · exact e
                · rcases h with h | h
                  · omega
                  · exact h
            · rename_i h
              rw [List.mem_append, List.mem_singleton]
              constructor
              · rintro (e | e)
                · exact .inl e
                · exact .inr ⟨e, by rw [e]; exact Int.not_lt.1 (fun e2 => h (.inl e2))⟩
              · rintro (e | ⟨e, _⟩)
                · exact .inl e
                · exact .inr e
          clear HVS
          obtain ⟨M2, hM2⟩ : ∃ M2, M2 = lvsZ G (xs2.take (i + 1)) := ⟨_, rfl⟩
          rw [← hM2] at HLP HPV
          have HM2 : Hid (lvsZ G (xs2.take (i + 1)) = M2) := hM2.symm
          clear hM2
          generalize lvsZ G (xs2.take i) = M1 at *
          generalize lvl G l = lv at *
          generalize varZ l = vz at *
          go_upto_region 29 with (fail)
          go_quiet (first | (go_at_call 33; exact Calls.quiet_of_same (HRV.out _)) | (go_at_call 32; exact Calls.quiet_of_same (HRL.out _)))
          have HB' := Lib.hid (below_drewN hB.out nq)
          have HRW' : Hid (RowV 68 40 (wr.drewN nq) gb 1 1 (fun k => .bool (f k))) := hRW.out.same rfl
          obtain ⟨W, hW⟩ : ∃ W, W = wr.drewN nq := ⟨_, rfl⟩
          rw [← hW] at HB' HRW' ⊢
          clear hW hB hRW HRV HRL hcm cs6 b6
          by_cases hv0 : 0 ≤ lv
          case neg =>
            have tv0 : decide (0 ≤ lv) = false := decide_eq_false hv0
            have HL2 : Hid (lowL M2 = lowL M1) := by unfold Hid; rw [HLP.out, if_pos (.inl (by omega))]
            have HF2 : Hid (∀ k : Nat, k < 40 → f k = decide ((k : Int) ∈ M2)) := fun k hk => by
              rw [hF.out k hk]
              congr 1
              rw [HPV.out, eq_iff_iff]
              exact ⟨.inl, fun h => h.elim (fun e => e) (fun ⟨e, _⟩ => by omega)⟩
            go_wp2_with fail
            go_roundw
            case rel => exact ⟨i + 1, f, by rw [HM2.out, HL2.out], by go_num, by omega, by rw [HM2.out, HL2.out]; omega, HRW', by unfold Hid; rw [HM2.out]; exact HF2.out, HB'⟩
            case measure => simp [intOf]; omega
          have tv0 : decide (0 ≤ lv) = true := decide_eq_true hv0
          by_cases hv1 : lv < 40
          case neg =>
            have tv1 : decide (lv < 40) = false := decide_eq_false hv1
            have HL2 : Hid (lowL M2 = lowL M1) := by unfold Hid; rw [HLP.out, if_pos (.inr (.inr (by omega)))]
            have HF2 : Hid (∀ k : Nat, k < 40 → f k = decide ((k : Int) ∈ M2)) := fun k hk => by
              rw [hF.out k hk]
              congr 1
              rw [HPV.out, eq_iff_iff]
              exact ⟨.inl, fun h => h.elim (fun e => e) (fun ⟨e, _⟩ => by omega)⟩
            go_wp2_with fail
            go_roundw
            case rel => exact ⟨i + 1, f, by rw [HM2.out, HL2.out], by go_num, by omega, by rw [HM2.out, HL2.out]; omega, HRW', by unfold Hid; rw [HM2.out]; exact HF2.out, HB'⟩
            case measure => simp [intOf]; omega
          have tv1 : decide (lv < 40) = true := decide_eq_true hv1
          obtain ⟨k, rfl⟩ : ∃ k : Nat, lv = (k : Int) := ⟨lv.toNat, by omega⟩
          have hk40 : k < 40 := by omega
          have hck := HRW'.out.cell (show k < 1 * 40 by omega)
          have hfk := HRW'.out.free k
          have hfe := hF.out k hk40
          cases hfv : f k with
          | true =>
            rw [hfv] at hck hfe
            have hmem : (k : Int) ∈ M1 := of_decide_eq_true hfe.symm
            have HL2 : Hid (lowL M2 = lowL M1) := by unfold Hid; rw [HLP.out, if_pos (.inr (.inl hmem))]
            have HF2 : Hid (∀ k : Nat, k < 40 → f k = decide ((k : Int) ∈ M2)) := fun k2 hk => by
              rw [hF.out k2 hk]
              congr 1
              rw [HPV.out, eq_iff_iff]
              exact ⟨.inl, fun h => h.elim (fun e => e) (fun ⟨e, _⟩ => by rw [e]; exact hmem)⟩
            clear hfv hfe hmem
            go_wp2_with fail
            go_roundw
            case rel => exact ⟨i + 1, f, by rw [HM2.out, HL2.out], by go_num, by omega, by rw [HM2.out, HL2.out]; omega, HRW', by unfold Hid; rw [HM2.out]; exact HF2.out, HB'⟩
            case measure => simp [intOf]; omega
          | false =>
            rw [hfv] at hck hfe
            have hmem : (k : Int) ∉ M1 := of_decide_eq_false hfe.symm
            have HL2 : Hid (lowL M2 = lowL M1 ++ [(k : Int)]) := by unfold Hid; rw [HLP.out, if_neg (by rintro (e | e | e); omega; exact hmem e; omega)]
            have HF2 : Hid (∀ k2 : Nat, k2 < 40 → (if k2 = k then true else f k2) = decide ((k2 : Int) ∈ M2)) := fun k2 hk => by
              by_cases e : k2 = k
              · subst e
                rw [if_pos rfl]
                exact (decide_eq_true ((HPV.out _).2 (.inr ⟨rfl, by omega⟩))).symm
              · rw [if_neg e, hF.out k2 hk]
                congr 1
                rw [HPV.out, eq_iff_iff]
                exact ⟨.inl, fun h => h.elim (fun e => e) (fun ⟨e2, _⟩ => absurd (by omega) e)⟩
            have HRW2 : Hid (RowV 68 40 (W.setCell ⟨gb, k, none⟩ (.bool true)) gb 1 1 (fun k2 => .bool (if k2 = k then true else f k2))) := (HRW'.out.set (show k < 1 * 40 by omega) (.bool true)).congr fun j _ => by
              unfold updV
              by_cases e : j = k
              · subst e; simp
              · simp [e]
            have HBW2 : Hid (Below w8.heap.size w8 (W.setCell ⟨gb, k, none⟩ (.bool true))) := HB'.out.trans (((Kf.refl (fun i => i = gb) W).set (p := ⟨gb, k, none⟩) (.inl rfl) _).below HB'.out.size (fun i hi => by rw [hi]; exact HGB.out))
            have hLL : (lowL M1 ++ [(k : Int)]).length = (lowL M1).length + 1 := by simp
            clear hfv hfe hmem
            go_wp2_with fail
            go_roundw
            case rel => exact ⟨i + 1, _, by rw [HM2.out, HL2.out, hLL]; go_num, by go_num, by omega, by rw [HM2.out, HL2.out, hLL]; omega, HRW2, by unfold Hid; rw [HM2.out]; exact HF2.out, HBW2⟩
            case measure => simp [intOf]; omega
        have ti1 : decide (i < xs2.length) = false := decide_eq_false hil
        have ti2 : decide ((i : Int) < (xs2.length : Int)) = false := decide_eq_false (by omega)
        obtain rfl : i = xs2.length := by omega
        have hfull : xs2.take xs2.length = xs2 := List.take_of_length_le (Nat.le_refl _)
        rw [hfull] at hml hF ⊢
        have HSf := Lib.hid (HS8.out.below hB.out)
        have HRf : Hid (RowV 43 1 wr gt G.L.length G.L.length (lsC (G.L.map Ent.l))) := HR8.out.same (hB.out.block gt HR8.out.lt)
        have HLv := Lib.hid (levels_any HSf.out.sg.eng HSf.out.sg.inv.small.n (HSL8.out.below hB.out) rfl (In32.of fun y hy => by have := (one_iff y).1 (HXO.out y hy).1; omega) (by omega))
        have HIN := Lib.hid HSf.out.sg.inv
        have HLOW : Hid (G.le.length < 40 → lowL (lvsZ G xs2) = lvsZ G xs2) := fun h => by
          unfold lowL
          refine List.filter_eq_self.2 fun z hz => decide_eq_true ?_
          have h1 : ∀ l, lvl G l ≤ (G.le.length : Int) := fun l => lev_le HSf.out.sg.eng.ok (varZ l)
          have := lvs_le h1 xs2 [] (by simp) z hz
          omega
        have HAO : Hid (∀ c ∈ all, c.length ≤ 100000 ∧ ∀ y ∈ c, LitM.one y = true ∧ varZ y < ((N + 1 : Nat) : Int)) := fun c hc => by
          rw [hD.out.al, List.mem_filter] at hc
          obtain ⟨cl, hcl, e⟩ := List.mem_map.1 hc.1
          obtain ⟨i, hi, e2⟩ := List.getElem_of_mem hcl
          have hls : (clA G.cs i).ls = c := by
            unfold clA
            rw [List.getD, List.getElem?_eq_getElem hi, ← e, ← e2]; rfl
          obtain ⟨h1, _, h3, _⟩ := HIN.out.small.cl i hi
          rw [hls] at h1 h3
          have h2 := hD.out.n
          exact ⟨by omega, fun y hy => ⟨(h1 y hy).1, by have := (h1 y hy).2; omega⟩⟩
        have hal : all.length ≤ 80 := by
          rw [hD.out.al]
          have h1 := List.length_filter_le (fun c => !bothB c) (G.cs.map Cl.ls)
          have h2 := hD.out.cs
          simp at h1
          simp
          omega
        have HLN : Hid (¬ CnfZ G ci → nl = 0 ∧ bk = 0 ∧ er = 61) := fun h => by
          rcases HLR.out with ⟨_, e1, e2, e3⟩ | ⟨e, _⟩
          · exact ⟨e1, e2, e3⟩
          · exact absurd e h
        have HLRW : Hid (∀ W, Below wr.heap.size wr W → CnfZ G ci → er = 0 ∧ ∃ zs, nl = zs.length ∧ Lrnt G (topZ G (clsL G ci)).toNat zs ∧ SlV 43 1 W Al nl cl (lsC zs)) := fun W hW h => by
          rcases HLR.out with ⟨e, _⟩ | ⟨_, e1, zs, e2, e3, e4⟩
          · exact absurd h e
          · exact ⟨e1, zs, e2, e3, (e4.below hB.out).below hW⟩
        have cs6f := HSf.out.c0
        have hgl : G.L.length ≤ 20 := by have := HIN.out.ok.len; have := hD.out.n; omega
        clear hB hRW hF cs6 b6 HLR HCE8 HAL8
        go_upto_region 34 with (fail)
        go_cut [185] (fun bv wx => bv = .bool false ∧ Hid (StZ w1.heap.size w1 wx bs b G q all) ∧ Hid (CnfZ G ci → er = 0 ∧ ∃ zs, nl = zs.length ∧ Lrnt G (topZ G (clsL G ci)).toNat zs ∧ SlV 43 1 wx Al nl cl (lsC zs)))
        case first =>
          go_wp2_with fail
          refine HLv.out.mono ?_
          rintro e wL ⟨rfl, hbL⟩
          have HSL0 := Lib.hid (HSf.out.below hbL)
          have HRt : Hid (RowV 43 1 wL gt G.L.length G.L.length (lsC (G.L.map Ent.l))) := HRf.out.same (hbL.block gt HRf.out.lt)
          have HLRL := Lib.hid (HLRW.out _ hbL)
          have HTr2 := Lib.hid HSL0.out.sg.true_
          obtain ⟨a0, _, _, _, _, aD⟩ := HSL0.out.sg.asks
          have HAD := Lib.hid aD
          have csL := HSL0.out.c0
          clear hbL aD HLv HSf HRf HLRW cs6f
          generalize hlo : (lowL (lvsZ G xs2)).length = lo at *
          generalize hla : (lvsZ G xs2).length = la at *
          have HEQ : Hid (G.le.length < 40 → la = lo) := fun h => by rw [← hla, ← hlo, HLOW.out h]
          clear hlo hla HLOW
          by_cases hne : la = lo
          · have tne : ((la : Int) != (lo : Int)) = false := by simp [hne]
            clear HEQ hne
            go_wp2_with fail
            refine HTr2.out.mono ?_
            rintro e wY ⟨rfl, hrY, hbY⟩
            have HSY := Lib.hid (HSL0.out.below hbY)
            have hrt : RowV 43 1 wY gt G.L.length G.L.length (lsC (G.L.map Ent.l)) := HRt.out.same (hbY.block gt HRt.out.lt)
            have HSm := Lib.hid (same_any (some ⟨wL.heap.size, 0, none⟩) (some ⟨gt, 0, none⟩) G.L.length G.L.length G.L.length G.L.length (G.L.map Ent.l) (G.L.map Ent.l) wY _ (SlV.rd (.inr ⟨_, rfl, hrY⟩) (by simp)) (SlV.rd (.inr ⟨_, rfl, hrt⟩) (by simp)) (by omega) (by omega))
            rw [show sameB (G.L.map Ent.l) (G.L.map Ent.l) = true from (sameB_iff _ _).2 rfl] at HSm
            have HLRY : Hid (CnfZ G ci → er = 0 ∧ ∃ zs, nl = zs.length ∧ Lrnt G (topZ G (clsL G ci)).toNat zs ∧ SlV 43 1 wY Al nl cl (lsC zs)) := fun h => by
              obtain ⟨e1, zs, e2, e3, e4⟩ := HLRL.out h
              exact ⟨e1, zs, e2, e3, e4.below hbY⟩
            clear hrY hbY hrt HTr2
            go_wp2_with fail
            refine HSm.out.mono ?_
            rintro e wZ ⟨rfl, r, rfl⟩
            have HSZ : Hid (StZ w1.heap.size w1 (wY.drewN r) bs b G q all) := HSY.out.below ⟨rfl, rfl, rfl, Nat.le_refl _, fun _ _ => rfl⟩
            have HLRZ : Hid (CnfZ G ci → er = 0 ∧ ∃ zs, nl = zs.length ∧ Lrnt G (topZ G (clsL G ci)).toNat zs ∧ SlV 43 1 (wY.drewN r) Al nl cl (lsC zs)) := fun h => by
              obtain ⟨e1, zs, e2, e3, e4⟩ := HLRY.out h
              exact ⟨e1, zs, e2, e3, e4.below ⟨rfl, rfl, rfl, Nat.le_refl _, fun _ _ => rfl⟩⟩
            clear HSm HSY HLRY
            go_wp2_with fail
            go_meet
            exact ⟨rfl, HSZ, HLRZ⟩
          · have tne : ((la : Int) != (lo : Int)) = true := by rw [bne_iff_ne]; omega
            have td : decide ((G.le.length : Int) < 40) = false := decide_eq_false (fun h => hne (HEQ.out (by omega)))
            clear HEQ hne
            go_wp2_with fail
            refine HAD.out.mono ?_
            rintro e w' ⟨rfl, rfl⟩
            go_wp2_with fail
            refine HTr2.out.mono ?_
            rintro e wY ⟨rfl, hrY, hbY⟩
            have HSY := Lib.hid (HSL0.out.below hbY)
            have hrt : RowV 43 1 wY gt G.L.length G.L.length (lsC (G.L.map Ent.l)) := HRt.out.same (hbY.block gt HRt.out.lt)
            have HSm := Lib.hid (same_any (some ⟨wL.heap.size, 0, none⟩) (some ⟨gt, 0, none⟩) G.L.length G.L.length G.L.length G.L.length (G.L.map Ent.l) (G.L.map Ent.l) wY _ (SlV.rd (.inr ⟨_, rfl, hrY⟩) (by simp)) (SlV.rd (.inr ⟨_, rfl, hrt⟩) (by simp)) (by omega) (by omega))
            rw [show sameB (G.L.map Ent.l) (G.L.map Ent.l) = true from (sameB_iff _ _).2 rfl] at HSm
            have HLRY : Hid (CnfZ G ci → er = 0 ∧ ∃ zs, nl = zs.length ∧ Lrnt G (topZ G (clsL G ci)).toNat zs ∧ SlV 43 1 wY Al nl cl (lsC zs)) := fun h => by
              obtain ⟨e1, zs, e2, e3, e4⟩ := HLRL.out h
              exact ⟨e1, zs, e2, e3, e4.below hbY⟩
            clear hrY hbY hrt HTr2
            go_wp2_with fail
            refine HSm.out.mono ?_
            rintro e wZ ⟨rfl, r, rfl⟩
            have HSZ : Hid (StZ w1.heap.size w1 (wY.drewN r) bs b G q all) := HSY.out.below ⟨rfl, rfl, rfl, Nat.le_refl _, fun _ _ => rfl⟩
            have HLRZ : Hid (CnfZ G ci → er = 0 ∧ ∃ zs, nl = zs.length ∧ Lrnt G (topZ G (clsL G ci)).toNat zs ∧ SlV 43 1 (wY.drewN r) Al nl cl (lsC zs)) := fun h => by
              obtain ⟨e1, zs, e2, e3, e4⟩ := HLRY.out h
              exact ⟨e1, zs, e2, e3, e4.below ⟨rfl, rfl, rfl, Nat.le_refl _, fun _ _ => rfl⟩⟩
            clear HSm HSY HLRY
            go_wp2_with fail
            go_meet
            exact ⟨rfl, HSZ, HLRZ⟩
        case rest =>
        obtain ⟨rfl, HSZ, HLRY⟩ := hcut
        clear HLv HSf HRf HLRW cs6f HLOW
        by_cases hcz : CnfZ G ci
        case neg =>
          obtain ⟨rfl, rfl, rfl⟩ := HLN.out hcz
          have hft := HCF.out.2 hcz
          have HBZ := Lib.hid (HBW.out _ HSZ.out.sg.out)
          cases fb with
          | true =>
            clear hft
            go_wp2_with fail
            go_ret
            exact ⟨rfl, HBZ.out⟩
          | false =>
            obtain rfl : T = 0 := by rcases hft with e | e; cases e; exact e
            go_wp2_with fail
            go_ret
            exact ⟨rfl, HBZ.out⟩
        have hft : ¬ (fb = true ∨ T = 0) := fun e => HCF.out.1 e hcz
        obtain ⟨rfl, zs, rfl, hz, hsz⟩ := HLRY.out hcz
        obtain rfl : fb = false := by cases fb; rfl; exact absurd (.inl rfl) hft
        have tT : (T == 0) = false := by rw [beq_eq_false_iff_ne]; exact fun e => hft (.inr e)
        obtain ⟨A6, c6, hh6, ha6⟩ := HSZ.out.mem
        have hd6 : wc.cell? ⟨bs, 1, none⟩ = some (.slice A6 all.length c6) := by rw [Lib.cell_of_heap hh6]; rfl
        have cs6 := cell_regrown HSZ.out.c0
        have b6 := cell_regrown HSZ.out.sg.eng.h0
        have d6 := cell_regrown hd6
        have HVr : Hid (∀ d os, Calls Try.prog 27 #[.pointer (some ⟨q.bt, 0, none⟩)] (Go.Sort.grow (redrawn wc d) os) fun e w' => e = .returned (.int .i64 (N : Int)) ∧ ∃ p : Regrown, w' = Go.Sort.grow (redrawn wc p.d) p.os) := fun d os => by
          have h := (HSZ.out.sg.below (below_regrown wc d os)).asks.2.2.2.2.1
          rw [hD.out.n] at h
          exact Calls.regrown_of (h.mono fun e w' ⟨h1, h2⟩ => ⟨h1, by rw [← h2]; exact Below.refl _ _⟩)
        have HFo : Hid (∀ d os, Calls Try.prog 35 #[.int .i64 (N : Int), .slice A6 all.length c6, .slice Al zs.length cl] (Go.Sort.grow (redrawn wc d) os) fun e w' => e = .returned (.bool true) ∧ ∃ p : Regrown, w' = Go.Sort.grow (redrawn wc p.d) p.os) := fun d os => by
          have hx := below_regrown wc d os
          have hzr := SlV.rd (hsz.below hx) rfl
          exact Calls.regrown_of (follows_any (by omega) ((rdg_all ha6).below hx) HAO.out (by omega) hzr (fun y hy => by
            have h1 := false_var HIN.out (hz.fl y hy).1
            have h2 := hD.out.n
            exact ⟨h1.2, by omega⟩) (by have := hz.len HIN.out; have := hD.out.n; omega) (rup_of hz hD.out.al))
        have HBF := Lib.hid (HBW.out _ HSZ.out.sg.out)
        clear HSZ hsz hh6 hd6 ha6 hz hft HLRY
        go_upto_region 38 with (fail)
        refine wp_region_quiet_below (by kernel_rfl) (by kernel_rfl) ?_
        repeat (quiet_step (first | (go_at_call 27; exact HVr.out _ _) | (go_at_call 35; exact HFo.out _ _)))
        refine wpQuiet_nil ?_
        intro w9 hw'
        have hb9 : Below wc.heap.size wc w9 := by
          obtain ⟨⟨dq, osq⟩, hw''⟩ := hw'
          rw [hw'']; exact below_regrown wc dq osq
        have HB9 : Hid (Below w.heap.size w w9) := HBF.out.trans (hb9.mono HBF.out.size)
        clear hw' hb9
        go_wp2_with fail
        go_ret
        exact ⟨rfl, HB9.out⟩
set_option maxHeartbeats 800000 in
set_option maxRecDepth 100000 in
theorem lifted (os : Os) (started : os.Started) (H : Type) (enc : TypeId × Value → H) :
    ReturnsInHanded {} Try.checked os 6 .any (Rows.learnRefusesSpec.pre6 enc Try.prog Try.f6 Rows.learnRefusesRow.domain false) (Rows.learnRefusesSpec.post enc Try.prog Try.f6 false true false false) := by
  refine returnsInHanded_of_change_sized (C := Try.checked) own_knob5 started (by kernel_rfl) Try.func6
    (ChangeSpec.witness6 (enc := enc) (C := Try.checked) false ⟨#[], #[.agg #[.int .i64 0, .slice none 0 0], .slice none 0 0, .int .i64 0], []⟩ 8 (by kernel_rfl) (by kernel_rfl) (by kernel_rfl) (by kernel_rfl)) ?_
  intro W base args ds gs before hval0 hW _ hsize _
  have hval : ∀ (j : Nat) t v, Try.f6.params[j]? = some t → args[j]? = some v → Value.okWide Try.prog W .any base t v := hval0
  have hW' := hW
  obtain ⟨p, q, hA0, hV, rfl, _, _⟩ := hW
  have hA : DataW.TrodAll enc Try.prog W 0 (fun _ => true) true Try.f6.params.toList args.toList ds p := hA0
  rw [Try.params6] at hA hval
  obtain ⟨v0, v1, v2, d0, d1, d2, p0, p1, p2, rfl, rfl, rfl, h0, h1, h2⟩ := trodAll_three hA
  obtain ⟨rfl, rfl⟩ := trodVars_none hV
  have hwt : ∀ n ∈ d0.weights Try.prog 59, n ≤ reachBytes := fun n hn => by
    have := List.all_eq_true.1 hsize n (DataW.weights_mem_each (j := 0) (t := 59) (d := d0) (by rw [Try.params6]; rfl) rfl n hn)
    simpa using this
  obtain ⟨a0, A0, n0, c0, cs0, rfl, hR0, h320, hsz0, _⟩ := open_formS (hval 0 59 v0 rfl rfl) hwt h0
  obtain ⟨A1, n1, c1, xs1, rfl, hR1, h321, _⟩ := open_lits (hval 1 29 v1 rfl rfl) h1
  obtain ⟨a2, rfl, rfl, rfl, w2⟩ := open_int Try.underlying3 (hval 2 3 v2 rfl rfl) h2
  clear hA0 hval0
  simp only [List.append_nil] at hW'
  have hlt0 : ∀ y ∈ p0, y.block < W.heap.size := fun y hy => by simpa using hW'.lt y (by simp [hy])
  have hlt1 : ∀ y ∈ p1, y.block < W.heap.size := fun y hy => by simpa using hW'.lt y (by simp [hy])
  refine (walk a0 A0 n0 c0 cs0 A1 n1 c1 xs1 a2 W hR0 hR1 h320 hsz0 h321).mono fun e W' ⟨he, hB⟩ => ?_
  subst he
  exact ⟨_, rfl, _, _, _, [], _, [], hW', trodAll_mk1 (shut_bool Try.underlying4 true), trodAll_mk3 (Below.trod laid_out (by kernel_rfl) (of_decide_eq_true (by kernel_rfl)) h0 hB hlt0) (Below.trod laid_out (by kernel_rfl) (of_decide_eq_true (by kernel_rfl)) h1 hB hlt1) (shut_int Try.underlying3 w2), rfl, hB.frame _, fun h => by cases h⟩

theorem proved : Rows.LearnRefusesSaid :=
  OpenClaim.holds_of_wide 6 Try.f6 rfl rfl rfl rfl rfl rfl rfl ⟨rfl, rfl, rfl, rfl, rfl⟩ rfl rfl rfl rfl rfl (by kernel_rfl) Try.func6 (by kernel_rfl)
    (of_decide_eq_true (by kernel_rfl)) (by unfold Func.isWrapper; first | (rw [if_pos (by decide +kernel)]; kernel_rfl) | (rw [if_neg (by decide +kernel)]; exact ⟨rfl, rfl⟩))
    (fun os started H enc _ => lifted os started H enc)
end Go.Proofs.Ytahkknjgmeloeaa.LRefs
namespace Go.Proofs.Ytahkknjgmeloeaa
theorem learnRefuses_holds : Rows.LearnRefusesSaid := LRefs.proved
#print axioms learnRefuses_holds
end Go.Proofs.Ytahkknjgmeloeaa
