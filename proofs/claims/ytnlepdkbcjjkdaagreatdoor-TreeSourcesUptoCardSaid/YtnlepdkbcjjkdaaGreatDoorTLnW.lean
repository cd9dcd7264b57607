/- SameSource; the walk of TreeLines. -/
import Derived.Test.YtnlepdkbcjjkdaaGreatDoorTevT
import Derived.Test.YtnlepdkbcjjkdaaGreatDoorTevO
namespace Go.Proofs.YtnlepdkbcjjkdaaGreatDoor
open Go.RowKit TreM WrdM

set_option maxHeartbeats 1600000 in
set_option maxRecDepth 100000 in
theorem sameSource_any (a b : Src) {Ae Av Ap Be Bv Bp : Option Addr} {ce cv cp de dv dp : Nat} (w : World) (ha : SrcC w a Ae ce Av cv Ap cp) (hb : SrcC w b Be de Bv dv Bp dp) :
    Calls Tryz.prog 8 #[.agg (cS Ae a.enums.length ce Av a.vars.length cv Ap a.procs.length cp).toArray, .agg (cS Be b.enums.length de Bv b.vars.length dv Bp b.procs.length dp).toArray] w fun e w' => e = .returned (.bool (sameS a b)) ∧ Below w.heap.size w w' := by
  have hba := two_alloc w (.cells (cS Ae a.enums.length ce Av a.vars.length cv Ap a.procs.length cp).toArray 26) (.cells (cS Be b.enums.length de Bv b.vars.length dv Bp b.procs.length dp).toArray 26)
  obtain ⟨wa, hwa⟩ : ∃ wa, wa = (w.alloc (.cells (cS Ae a.enums.length ce Av a.vars.length cv Ap a.procs.length cp).toArray 26)).alloc (.cells (cS Be b.enums.length de Bv b.vars.length dv Bp b.procs.length dp).toArray 26) := ⟨_, rfl⟩
  rw [← hwa] at hba
  have hza : wa.heap.size = w.heap.size + 2 := by rw [hwa, alloc_size, alloc_size]
  have hg1 : wa.heap[w.heap.size]? = some (.cells (cS Ae a.enums.length ce Av a.vars.length cv Ap a.procs.length cp).toArray 26) := by
    rw [hwa, Lib.alloc_old _ _ _ (by simp)]; exact blk_new w _
  have hg2 : wa.heap[w.heap.size + 1]? = some (.cells (cS Be b.enums.length de Bv b.vars.length dv Bp b.procs.length dp).toArray 26) := by
    rw [hwa]
    have := blk_new (w.alloc (.cells (cS Ae a.enums.length ce Av a.vars.length cv Ap a.procs.length cp).toArray 26)) (.cells (cS Be b.enums.length de Bv b.vars.length dv Bp b.procs.length dp).toArray 26)
    rwa [alloc_size] at this
  have HA : ∀ W, Below wa.heap.size wa W → SrcC W a Ae ce Av cv Ap cp := fun W hW => ha.below (hba.trans (hW.mono hba.size))
  have HB : ∀ W, Below wa.heap.size wa W → SrcC W b Be de Bv dv Bp dp := fun W hW => hb.below (hba.trans (hW.mono hba.size))
  have HE : Hid (∀ W, Below wa.heap.size wa W → Calls Tryz.prog 29 #[.slice Ae a.enums.length ce, .slice Be b.enums.length de, .func (.func 30) #[] #[]] W fun e w' => e = .returned (.bool (eqL sameE a.enums b.enums)) ∧ Below W.heap.size W w') := fun W hW =>
    equalEnum_any _ #[] eg_samE sameE (EnuC W) (fun _ _ h => form_enu h) a.enums b.enums Ae Be ce de W (HA W hW).ae ha.me ha.ce (HB W hW).ae hb.me hb.ce (fun k _ y _ cs ds W' hW' h1 h2 => sameEnum_any k y cs ds W' (h1.below hW') (h2.below hW'))
  have HV : Hid (∀ W, Below wa.heap.size wa W → Calls Tryz.prog 31 #[.slice Av a.vars.length cv, .slice Bv b.vars.length dv, .func (.func 32) #[] #[]] W fun e w' => e = .returned (.bool (eqL sameD a.vars b.vars)) ∧ Below W.heap.size W w') := fun W hW =>
    equalDecl_any _ #[] eg_samV sameD (DclC W) (fun _ _ h => form_dcl h) a.vars b.vars Av Bv cv dv W (HA W hW).av ha.mv ha.cv (HB W hW).av hb.mv hb.cv (fun k _ y _ cs ds W' hW' h1 h2 => sameVar_any k y cs ds W' (h1.below hW') (h2.below hW'))
  have HP : Hid (∀ W, Below wa.heap.size wa W → Calls Tryz.prog 33 #[.slice Ap a.procs.length cp, .slice Bp b.procs.length dp, .func (.func 34) #[] #[]] W fun e w' => e = .returned (.bool (eqL sameP a.procs b.procs)) ∧ Below W.heap.size W w') := fun W hW =>
    equalProc_any _ #[] eg_samP sameP (PrcC W) (fun _ _ h => form_prc h) a.procs b.procs Ap Bp cp dp W (HA W hW).ap ha.mp ha.cp (HB W hW).ap hb.mp hb.cp (fun k _ y _ cs ds W' hW' h1 h2 => sameProcess_any k y cs ds W' (h1.below hW') (h2.below hW'))
  have HK : Hid (∀ W, Below wa.heap.size wa W → W.heap[w.heap.size]? = some (.cells (cS Ae a.enums.length ce Av a.vars.length cv Ap a.procs.length cp).toArray 26) ∧ W.heap[w.heap.size + 1]? = some (.cells (cS Be b.enums.length de Bv b.vars.length dv Bp b.procs.length dp).toArray 26)) := fun W hW =>
    ⟨(hW.block _ (by omega)).trans hg1, (hW.block _ (by omega)).trans hg2⟩
  obtain ⟨c0, c1, c2⟩ := cells3s hg1
  obtain ⟨d0, d1, d2⟩ := cells3s hg2
  have HE0 := Lib.hid (HE.out wa (Below.refl _ _))
  have hE : sameS a b = (eqL sameE a.enums b.enums && (eqL sameD a.vars b.vars && eqL sameP a.procs b.procs)) := rfl
  rw [hE]
  have HBA := Lib.hid hba
  have HWA := Lib.hid hwa
  clear hE hba hwa hza hg1 hg2 ha hb HA HB HE
  generalize eqL sameE a.enums b.enums = r1 at *
  generalize eqL sameD a.vars b.vars = r2 at *
  generalize eqL sameP a.procs b.procs = r3 at *
  generalize a.enums.length = n1 at *
  generalize a.vars.length = n2 at *
  generalize a.procs.length = n3 at *
  generalize b.enums.length = m1 at *
  generalize b.vars.length = m2 at *
  generalize b.procs.length = m3 at *
  go_enter Tryz.func8, Tryz.ntmps8
  go_wp2_with fail
  have hwa := HWA.out
  rw [← hwa]
  clear hwa HWA
  refine HE0.out.mono ?_
  rintro e w1 ⟨rfl, hB1⟩
  have HB1 := Lib.hid hB1
  obtain ⟨c0, c1, c2⟩ := cells3s (HK.out w1 hB1).1
  obtain ⟨d0, d1, d2⟩ := cells3s (HK.out w1 hB1).2
  have HV1 := Lib.hid (HV.out w1 hB1)
  clear hB1 HE0 HV
  rcases r1 with _ | _
  · go_wp2_with fail
    go_ret
    exact ⟨ret_bool (by simp), HBA.out.trans (HB1.out.mono HBA.out.size)⟩
  go_wp2_with fail
  refine HV1.out.mono ?_
  rintro e w2 ⟨rfl, hB2⟩
  have HB2 := Lib.hid (HB1.out.trans (hB2.mono HB1.out.size))
  obtain ⟨c0, c1, c2⟩ := cells3s (HK.out w2 HB2.out).1
  obtain ⟨d0, d1, d2⟩ := cells3s (HK.out w2 HB2.out).2
  have HP2 := Lib.hid (HP.out w2 HB2.out)
  clear hB2 HV1 HP HB1
  rcases r2 with _ | _
  · go_wp2_with fail
    go_ret
    exact ⟨ret_bool (by simp), HBA.out.trans (HB2.out.mono HBA.out.size)⟩
  go_wp2_with (refine HP2.out.mono ?_; rintro e w3 ⟨rfl, hB3⟩)
  go_ret
  exact ⟨ret_bool (by simp), HBA.out.trans ((HB2.out.trans (hB3.mono HB2.out.size)).mono HBA.out.size)⟩

namespace TLines
theorem ten_beq (c : UInt8) : (((c.toNat : Nat) : Int) == 10) = (c == 10) := by
  rw [Bool.eq_iff_iff, beq_iff_eq, beq_iff_eq]
  constructor
  · intro h
    apply UInt8.toNat_inj.1
    have : (10 : UInt8).toNat = 10 := rfl
    omega
  · intro h; rw [h]; rfl
theorem count_take (s : List UInt8) (k : Nat) (hk : k < s.length) : (s.take (k + 1)).count 10 = (s.take k).count 10 + (if s.getD k 0 == 10 then 1 else 0) := by
  rw [List.take_add_one, List.getElem?_eq_getElem hk, List.count_append, List.getD_eq_getElem?_getD, List.getElem?_eq_getElem hk]
  simp [List.count_singleton]
theorem sum_take (xs : List Nat) (k : Nat) (x : Nat) (h : xs[k]? = some x) : (xs.take (k + 1)).sum = (xs.take k).sum + x := by
  rw [List.take_add_one, h, List.sum_append]; simp
theorem sum_take_le (xs : List Nat) (k : Nat) : (xs.take k).sum ≤ xs.sum := by
  have : xs.sum = (xs.take k).sum + (xs.drop k).sum := by rw [← List.sum_append, List.take_append_drop]
  omega
theorem ruls_wt : ∀ rs : List Rul, rs.length ≤ (rs.map wtR).sum
  | [] => by simp
  | r :: rs => by
    have ih := ruls_wt rs
    have h1 : 1 ≤ wtR r := by unfold wtR; omega
    rw [List.map_cons, List.sum_cons, List.length_cons]
    omega
theorem rules_wt : ∀ ps : List Prc, (ps.map (fun p => p.rules.length)).sum ≤ (ps.map wtP).sum
  | [] => by simp
  | p :: ps => by
    have ih := rules_wt ps
    have h1 := ruls_wt p.rules
    have h2 : (p.rules.map wtR).sum ≤ wtP p := by unfold wtP; omega
    rw [List.map_cons, List.map_cons, List.sum_cons, List.sum_cons]
    omega
set_option maxHeartbeats 3200000 in
set_option maxRecDepth 100000 in
theorem walk (m : Src) (Ae : Option Addr) (ce : Nat) (Av : Option Addr) (cv : Nat) (Ap : Option Addr) (cp : Nat) (w : World) (hG : TrG w) (h : SrcC w m Ae ce Av cv Ap cp) (hwt : wtS m ≤ 1048576) :
    Calls Tryz.prog 4 #[.agg (cS Ae m.enums.length ce Av m.vars.length cv Ap m.procs.length cp).toArray] w fun e w' => e = .returned (.bool true) ∧ Below w.heap.size w w' := by
  obtain ⟨wa, hwa⟩ : ∃ wa, wa = w.alloc (.cells (cS Ae m.enums.length ce Av m.vars.length cv Ap m.procs.length cp).toArray 26) := ⟨_, rfl⟩
  have hba : Below w.heap.size w wa := by rw [hwa]; exact below_alloc w _
  have hga : wa.heap[w.heap.size]? = some (.cells (cS Ae m.enums.length ce Av m.vars.length cv Ap m.procs.length cp).toArray 26) := by rw [hwa]; exact blk_new w _
  have hlt : w.heap.size < wa.heap.size := by rw [hwa]; simp
  have hS : ∀ W, Below wa.heap.size wa W → SrcC W m Ae ce Av cv Ap cp := fun W hW => h.below (hba.trans (hW.mono hba.size))
  have HC : Hid (∀ W, Below wa.heap.size wa W → W.heap[w.heap.size]? = some (.cells (cS Ae m.enums.length ce Av m.vars.length cv Ap m.procs.length cp).toArray 26)) := fun W hW => (hW.block _ hlt).trans hga
  have hGa : ∀ W, Below wa.heap.size wa W → TrG W := fun W hW => hG.below (hba.trans (hW.mono hba.size)) hG.n
  have hin : ∀ d ∈ m.vars, in64 d.low ∧ in64 d.high := dcl_in64 h.av
  have HSO : Hid (∃ (sL : List UInt8) (eV : Int), ((eV = 141 ∧ sL = []) ∨ (eV = 0 ∧ sL.count 10 = srcN m)) ∧ sL.length ≤ 140737488355328 ∧ ∀ W, Below wa.heap.size wa W → Calls Tryz.prog 6 #[.agg (cS Ae m.enums.length ce Av m.vars.length cv Ap m.procs.length cp).toArray] W fun e w' => e = .returned (.tuple #[.string ⟨sL.toArray⟩, .int .i64 eV]) ∧ Below W.heap.size W w') := by
    rcases hs : srcB m with _ | _
    · exact ⟨[], 141, .inl ⟨rfl, rfl⟩, by decide, fun W hW => source_no m W (hS W hW) hs⟩
    · have hl := src_len m hs hin hwt
      exact ⟨srcT m, 0, .inr ⟨rfl, src_lines hs⟩, hl, fun W hW => source_yes m W (hGa W hW) (hS W hW) hs hl⟩
  obtain ⟨sL, eV, hcase, hsl, hso⟩ := HSO.out
  have HCS := Lib.hid hcase
  have HSR := Lib.hid hso
  have HSS : Hid (∀ W, Below wa.heap.size wa W → Calls Tryz.prog 8 #[.agg (cS Ae m.enums.length ce Av m.vars.length cv Ap m.procs.length cp).toArray, .agg (cS Ae m.enums.length ce Av m.vars.length cv Ap m.procs.length cp).toArray] W fun e w' => e = .returned (.bool true) ∧ Below W.heap.size W w') := fun W hW => by
    have := sameSource_any m m W (hS W hW) (hS W hW)
    rw [sameS_refl] at this; exact this
  have HAP : Hid (∀ k x, m.procs[k]? = some x → ∃ (b' p' : Nat) (nb : ByteArray) (Aw : Option Addr) (cw : Nat) (ll lc : Int), Ap = some ⟨b', p', none⟩ ∧ b' < wa.heap.size ∧ wa.cell? ⟨b', p' + k * 4, none⟩ = some (.string nb) ∧ wa.cell? ⟨b', p' + k * 4 + 1, none⟩ = some (.slice Aw x.rules.length cw) ∧ wa.cell? ⟨b', p' + k * 4 + 2, none⟩ = some (.int .i64 ll) ∧ wa.cell? ⟨b', p' + k * 4 + 3, none⟩ = some (.int .i64 lc)) := fun k x hx => by
    rcases (hS wa (Below.refl _ _)).ap with hA | ⟨b', p', hA, hb', hk⟩
    · rw [hA] at hx; simp at hx
    · obtain ⟨cs, _, c1, v, ll, lc, rfl, _, Aw, cw, rfl, _, _, _⟩ := hk k x hx
      exact ⟨b', p', _, Aw, cw, ll, lc, hA, hb', c1 0 _ rfl, c1 1 _ rfl, c1 2 _ rfl, c1 3 _ rfl⟩
  have HGP : Hid (∀ k, k < m.procs.length → ∃ x, m.procs[k]? = some x) := fun k hk => get_el hk
  have HST : Hid (∀ k x, m.procs[k]? = some x → ((m.procs.map (fun p => p.rules.length)).take (k + 1)).sum = ((m.procs.map (fun p => p.rules.length)).take k).sum + x.rules.length) := fun k x hx => sum_take _ k _ (by rw [List.getElem?_map, hx]; rfl)
  have HSL : Hid (∀ k, ((m.procs.map (fun p => p.rules.length)).take k).sum ≤ 1048576) := fun k => by
    have h1 := sum_take_le (m.procs.map (fun p => p.rules.length)) k
    have h2 := rules_wt m.procs
    unfold wtS at hwt
    omega
  have HSA : Hid (((m.procs.map (fun p => p.rules.length)).take m.procs.length).sum = (m.procs.map (fun p => p.rules.length)).sum) := by unfold Hid; rw [List.take_of_length_le (by simp)]
  have HN : Hid (srcN m = m.enums.length + m.vars.length + 2 * m.procs.length + (m.procs.map (fun p => p.rules.length)).sum) := rfl
  have me := h.me
  have cel := h.ce
  have mv := h.mv
  have cvl := h.cv
  have mp := h.mp
  have cpl := h.cp
  have HBA := Lib.hid hba
  have HAL := Lib.hid (alive_any wa (hGa wa (Below.refl _ _)))
  have HWA := Lib.hid hwa
  clear hba hga hwa hS h hG hGa hin HSO hcase hso hwt hlt
  obtain ⟨rs, hrs⟩ : ∃ rs, rs = m.procs.map (fun p => p.rules.length) := ⟨_, rfl⟩
  rw [← hrs] at HST HSL HSA HN
  clear hrs
  generalize srcN m = sn at *
  generalize m.enums.length = ne at *
  generalize m.vars.length = nv at *
  generalize m.procs.length = np at *
  go_enter Tryz.func4, Tryz.ntmps4
  go_wp2_with fail
  have hwa := HWA.out
  rw [← hwa]
  clear hwa HWA
  refine HAL.out.mono ?_
  rintro e w1 ⟨rfl, hB1⟩
  have HB1 := Lib.hid hB1
  obtain ⟨c0, c1, c2⟩ := cells3s (HC.out w1 hB1)
  have HS1 := Lib.hid (HSR.out w1 hB1)
  have HW0 : Hid (∀ W, Below wa.heap.size wa W → Below w.heap.size w W) := fun W hW => HBA.out.trans (hW.mono HBA.out.size)
  clear hB1 HAL HSR
  by_cases h1 : 60 < ne
  · have t1 : decide ((60 : Int) < (ne : Int)) = true := decide_eq_true (by omega)
    have t1' : decide (60 < ne) = true := decide_eq_true h1
    go_wp2_with fail
    go_ret
    exact ⟨rfl, HW0.out _ HB1.out⟩
  have t1 : decide ((60 : Int) < (ne : Int)) = false := decide_eq_false (by omega)
  have t1' : decide (60 < ne) = false := decide_eq_false h1
  by_cases h2 : 60 < nv
  · have t2 : decide ((60 : Int) < (nv : Int)) = true := decide_eq_true (by omega)
    have t2' : decide (60 < nv) = true := decide_eq_true h2
    go_wp2_with fail
    go_ret
    exact ⟨rfl, HW0.out _ HB1.out⟩
  have t2 : decide ((60 : Int) < (nv : Int)) = false := decide_eq_false (by omega)
  have t2' : decide (60 < nv) = false := decide_eq_false h2
  by_cases h3 : 60 < np
  · have t3 : decide ((60 : Int) < (np : Int)) = true := decide_eq_true (by omega)
    have t3' : decide (60 < np) = true := decide_eq_true h3
    go_wp2_with fail
    go_ret
    exact ⟨rfl, HW0.out _ HB1.out⟩
  have t3 : decide ((60 : Int) < (np : Int)) = false := decide_eq_false (by omega)
  have t3' : decide (60 < np) = false := decide_eq_false h3
  obtain ⟨sb, hsb⟩ : ∃ sb : ByteArray, sb = ⟨sL.toArray⟩ := ⟨_, rfl⟩
  have hsn : sb.size = sL.length := by rw [hsb, size_mk]
  have HAT : Hid (∀ (k : Nat) (h : k < sb.size), sb[k]'h = sL.getD k 0) := fun k h => by subst hsb; exact get_mk sL k h
  have HEM : Hid (sL = [] → (sb.toList == []) = true) := fun hs => by rw [hsb, hs]; exact empty_list []
  rw [← hsb] at HS1
  clear hsb
  go_wp2_with fail
  refine HS1.out.mono ?_
  rintro e w2 ⟨rfl, hB2⟩
  have HB2 := Lib.hid (HB1.out.trans (hB2.mono HB1.out.size))
  obtain ⟨c0, c1, c2⟩ := cells3s (HC.out w2 HB2.out)
  clear hB2 HS1 HB1
  go_wp2_with fail
  go_loopw [5, 7, 48] (fun v5 _ i wr => ∃ k : Nat, k ≤ np ∧ v5 = .int .i64 ((ne + nv + 2 * np + (rs.take k).sum : Nat)) ∧ i = .int .i64 k ∧ Hid (Below wa.heap.size wa wr)) (fun _ _ i _ => np - (intOf i).toNat)
  case atStart => exact ⟨0, Nat.zero_le _, by simp, rfl, HB2.out⟩
  case round =>
    clear c0 c1 c2
    obtain ⟨k, hk, rfl, rfl, HW⟩ := hrel
    by_cases hlt : k < np
    · have u1 : decide ((k : Int) < (np : Int)) = true := decide_eq_true (by omega)
      have u2 : decide (k < np) = true := decide_eq_true hlt
      obtain ⟨x, hx⟩ := HGP.out k hlt
      obtain ⟨b', p', nb, Aw, cw, ll, lc, rfl, hb', g0, g1, g2, g3⟩ := HAP.out k x hx
      have hst := HST.out k x hx
      have hs1 := HSL.out (k + 1)
      have f0 : wr.cell? ⟨b', p' + k * 4, none⟩ = some (.string nb) := (HW.out.cell (p := ⟨b', p' + k * 4, none⟩) hb').trans g0
      have f1 : wr.cell? ⟨b', p' + k * 4 + 1, none⟩ = some (.slice Aw x.rules.length cw) := (HW.out.cell (p := ⟨b', p' + k * 4 + 1, none⟩) hb').trans g1
      have f2 : wr.cell? ⟨b', p' + k * 4 + 2, none⟩ = some (.int .i64 ll) := (HW.out.cell (p := ⟨b', p' + k * 4 + 2, none⟩) hb').trans g2
      have f3 : wr.cell? ⟨b', p' + k * 4 + 3, none⟩ = some (.int .i64 lc) := (HW.out.cell (p := ⟨b', p' + k * 4 + 3, none⟩) hb').trans g3
      have HX := Lib.hid hst
      have HBX : Hid (Below wa.heap.size wa (wr.alloc (.cells #[.string nb, .slice Aw x.rules.length cw, .int .i64 ll, .int .i64 lc] 36))) := HW.out.trans ((below_alloc wr _).mono HW.out.size)
      have hrl : (rs.take k).sum + x.rules.length ≤ 1048576 := by omega
      clear hx g0 g1 g2 g3 hst hs1 HW
      generalize x.rules.length = rl at *
      generalize (rs.take k).sum = su at *
      go_wp2_with fail
      go_roundw
      case rel => exact ⟨k + 1, by omega, by rw [HX.out]; go_num, by go_num, HBX.out⟩
      case measure => simp [intOf]; omega
    · have u1 : decide ((k : Int) < (np : Int)) = false := decide_eq_false (by omega)
      have u2 : decide (k < np) = false := decide_eq_false hlt
      have hkm : k = np := by omega
      have hsm := HSA.out
      have hsl2 := HSL.out k
      have hww : ne + nv + 2 * np + (rs.take k).sum = sn := by rw [hkm, hsm, HN.out]
      rw [hww]
      have hsn2 : sn ≤ 2000000 := by omega
      clear hkm hsm hsl2 hww HN HSA HST HSL HAP HGP
      go_wp2_with fail
      go_loopw [8, 9] (fun v8 i wr2 => ∃ j : Nat, j ≤ sL.length ∧ v8 = .int .i64 (((sL.take j).count 10 : Nat)) ∧ i = .int .i64 j ∧ wr2 = wr) (fun _ i _ => sL.length - (intOf i).toNat)
      case atStart => exact ⟨0, Nat.zero_le _, rfl, rfl, rfl⟩
      case round =>
        obtain ⟨j, hj, rfl, rfl, rfl⟩ := hrel
        by_cases hjl : j < sL.length
        · have x1 : decide ((j : Int) < (sL.length : Int)) = true := decide_eq_true (by omega)
          have x2 : decide (j < sL.length) = true := decide_eq_true hjl
          have hk2 : j < sb.size := by omega
          have hg := HAT.out j hk2
          have hct := count_take sL j hjl
          have hten := ten_beq (sL.getD j 0)
          have hcl : (sL.take j).count 10 ≤ 140737488355328 := by
            have h1 := List.count_le_length (a := (10 : UInt8)) (l := sL.take j)
            have h2 := List.length_take_le j sL
            omega
          have HX := Lib.hid hct
          generalize sL.getD j 0 = cc at *
          generalize (sL.take j).count 10 = cn at *
          clear hct
          rcases hb : (cc == 10) with _ | _
          · rw [hb] at hten
            have HX2 : Hid ((sL.take (j + 1)).count 10 = cn) := by unfold Hid; rw [HX.out, hb]; rfl
            clear hb HX
            go_wp2_with fail
            go_roundw
            case rel => exact ⟨j + 1, by omega, by rw [HX2.out], by go_num, trivial⟩
            case measure => simp [intOf]; omega
          · rw [hb] at hten
            have HX2 : Hid ((sL.take (j + 1)).count 10 = cn + 1) := by unfold Hid; rw [HX.out, hb]; rfl
            clear hb HX
            go_wp2_with fail
            go_roundw
            case rel => exact ⟨j + 1, by omega, by rw [HX2.out]; go_num, by go_num, trivial⟩
            case measure => simp [intOf]; omega
        · have x1 : decide ((j : Int) < (sL.length : Int)) = false := decide_eq_false (by omega)
          have x2 : decide (j < sL.length) = false := decide_eq_false hjl
          have hall : sL.take j = sL := List.take_of_length_le (by omega)
          rw [hall]
          have HSS1 := Lib.hid (HSS.out wr HW.out)
          obtain ⟨c0, c1, c2⟩ := cells3s (HC.out wr HW.out)
          rcases HCS.out with ⟨rfl, hs⟩ | ⟨rfl, hs⟩
          · have hem := HEM.out hs
            generalize sL.count 10 = cn at *
            clear hs hall
            go_wp2_with fail
            go_ret
            exact ⟨rfl, HW0.out _ HW.out⟩
          · rw [hs]
            clear hall hs
            go_wp2_with (refine HSS1.out.mono ?_; rintro e w9 ⟨rfl, hB9⟩)
            go_ret
            exact ⟨rfl, HW0.out _ (HW.out.trans (hB9.mono HW.out.size))⟩
end TLines
end Go.Proofs.YtnlepdkbcjjkdaaGreatDoor
