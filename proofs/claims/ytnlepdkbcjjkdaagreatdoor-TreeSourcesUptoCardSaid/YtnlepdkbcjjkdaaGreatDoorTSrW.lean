/- The walk of TreeSources. -/
import Derived.Test.YtnlepdkbcjjkdaaGreatDoorTrfK
import Derived.Test.YtnlepdkbcjjkdaaGreatDoorTLnW
namespace Go.Proofs.YtnlepdkbcjjkdaaGreatDoor
open Go.RowKit TreM WrdM

namespace TSources
theorem src_ans (m : Src) {Ae Av Ap : Option Addr} {ce cv cp : Nat} (w : World) (hG : TrG w) (h : SrcC w m Ae ce Av cv Ap cp) (hwt : wtS m ≤ 1048576) :
    Calls Tryz.prog 6 #[.agg (cS Ae m.enums.length ce Av m.vars.length cv Ap m.procs.length cp).toArray] w fun e w' => e = .returned (srcV (srcB m) (srcT m)) ∧ Below w.heap.size w w' := by
  rcases hs : srcB m with _ | _
  · exact source_no m w h hs
  · exact source_yes m w hG h hs (src_len m hs (dcl_in64 h.av) hwt)
set_option maxHeartbeats 3200000 in
set_option maxRecDepth 100000 in
theorem walk (m : Src) (Ae : Option Addr) (ce : Nat) (Av : Option Addr) (cv : Nat) (Ap : Option Addr) (cp : Nat) (m2 : Src) (Be : Option Addr) (de : Nat) (Bv : Option Addr) (dv : Nat) (Bp : Option Addr) (dp : Nat) (w : World) (hG : TrG w) (h : SrcC w m Ae ce Av cv Ap cp) (h2 : SrcC w m2 Be de Bv dv Bp dp)
    (hwt : wtS m ≤ 1048576) (_hw2 : wtS m2 ≤ 1048576) :
    Calls Tryz.prog 3 #[.agg (cS Ae m.enums.length ce Av m.vars.length cv Ap m.procs.length cp).toArray, .agg (cS Be m2.enums.length de Bv m2.vars.length dv Bp m2.procs.length dp).toArray] w fun e w' => e = .returned (.bool true) ∧ Below w.heap.size w w' := by
  have hba := two_alloc w (.cells (cS Ae m.enums.length ce Av m.vars.length cv Ap m.procs.length cp).toArray 26) (.cells (cS Be m2.enums.length de Bv m2.vars.length dv Bp m2.procs.length dp).toArray 26)
  obtain ⟨wa, hwa⟩ : ∃ wa, wa = (w.alloc (.cells (cS Ae m.enums.length ce Av m.vars.length cv Ap m.procs.length cp).toArray 26)).alloc (.cells (cS Be m2.enums.length de Bv m2.vars.length dv Bp m2.procs.length dp).toArray 26) := ⟨_, rfl⟩
  rw [← hwa] at hba
  have hza : wa.heap.size = w.heap.size + 2 := by rw [hwa, alloc_size, alloc_size]
  have hg1 : wa.heap[w.heap.size]? = some (.cells (cS Ae m.enums.length ce Av m.vars.length cv Ap m.procs.length cp).toArray 26) := by
    rw [hwa, Lib.alloc_old _ _ _ (by simp)]; exact blk_new w _
  have hg2 : wa.heap[w.heap.size + 1]? = some (.cells (cS Be m2.enums.length de Bv m2.vars.length dv Bp m2.procs.length dp).toArray 26) := by
    rw [hwa]
    have := blk_new (w.alloc (.cells (cS Ae m.enums.length ce Av m.vars.length cv Ap m.procs.length cp).toArray 26)) (.cells (cS Be m2.enums.length de Bv m2.vars.length dv Bp m2.procs.length dp).toArray 26)
    rwa [alloc_size] at this
  have HC : Hid (∀ W, Below wa.heap.size wa W → W.heap[w.heap.size]? = some (.cells (cS Ae m.enums.length ce Av m.vars.length cv Ap m.procs.length cp).toArray 26) ∧ W.heap[w.heap.size + 1]? = some (.cells (cS Be m2.enums.length de Bv m2.vars.length dv Bp m2.procs.length dp).toArray 26)) := fun W hW =>
    ⟨(hW.block _ (by omega)).trans hg1, (hW.block _ (by omega)).trans hg2⟩
  have hS : ∀ W, Below wa.heap.size wa W → SrcC W m Ae ce Av cv Ap cp := fun W hW => h.below (hba.trans (hW.mono hba.size))
  have hS2 : ∀ W, Below wa.heap.size wa W → SrcC W m2 Be de Bv dv Bp dp := fun W hW => h2.below (hba.trans (hW.mono hba.size))
  have hGa : ∀ W, Below wa.heap.size wa W → TrG W := fun W hW => hG.below (hba.trans (hW.mono hba.size)) hG.n
  have HSR : Hid (∀ W, Below wa.heap.size wa W → Calls Tryz.prog 6 #[.agg (cS Ae m.enums.length ce Av m.vars.length cv Ap m.procs.length cp).toArray] W fun e w' => e = .returned (srcV (srcB m) (srcT m)) ∧ Below W.heap.size W w') := fun W hW => src_ans m W (hGa W hW) (hS W hW) hwt
  have HPR : Hid (∀ W, Below wa.heap.size wa W → Calls Tryz.prog 7 #[.agg (cS Ae m.enums.length ce Av m.vars.length cv Ap m.procs.length cp).toArray] W fun e w' => e = .returned (srcV (srcB m) (srcT m)) ∧ Below W.heap.size W w') := fun W hW => psource_any m W (hS W hW) hwt
  have HSS : Hid (∀ W, Below wa.heap.size wa W → ∀ dq os, Calls Tryz.prog 8 #[.agg (cS Ae m.enums.length ce Av m.vars.length cv Ap m.procs.length cp).toArray, .agg (cS Be m2.enums.length de Bv m2.vars.length dv Bp m2.procs.length dp).toArray] (Go.Sort.grow (redrawn W dq) os) fun e w' => e = .returned (.bool (sameS m m2)) ∧ ∃ p : Regrown, w' = Go.Sort.grow (redrawn W p.d) p.os) := fun W hW dq os =>
    Calls.regrown_of (sameSource_any m m2 _ ((hS W hW).below (below_regrown W dq os)) ((hS2 W hW).below (below_regrown W dq os)))
  have HPS : Hid (∀ W, Below wa.heap.size wa W → ∀ dq os, Calls Tryz.prog 9 #[.agg (cS Ae m.enums.length ce Av m.vars.length cv Ap m.procs.length cp).toArray, .agg (cS Be m2.enums.length de Bv m2.vars.length dv Bp m2.procs.length dp).toArray] (Go.Sort.grow (redrawn W dq) os) fun e w' => e = .returned (.bool (sameS m m2)) ∧ ∃ p : Regrown, w' = Go.Sort.grow (redrawn W p.d) p.os) := fun W hW dq os =>
    Calls.regrown_of (psameSource_any m m2 _ ((hS W hW).below (below_regrown W dq os)) ((hS2 W hW).below (below_regrown W dq os)))
  have HBA := Lib.hid hba
  have HAL := Lib.hid (alive_any wa (hGa wa (Below.refl _ _)))
  have HW0 : Hid (∀ W, Below wa.heap.size wa W → Below w.heap.size w W) := fun W hW => HBA.out.trans (hW.mono HBA.out.size)
  have HWA := Lib.hid hwa
  have me := h.me
  have cel := h.ce
  have mv := h.mv
  have cvl := h.cv
  have mp := h.mp
  have cpl := h.cp
  clear hba hwa hS hS2 h h2 hG hGa hwt hza
  obtain ⟨V, hV⟩ : ∃ V, V = srcV (srcB m) (srcT m) := ⟨_, rfl⟩
  have HV : Hid (∃ (l : List UInt8) (e : Int), V = .tuple #[.string ⟨l.toArray⟩, .int .i64 e]) := by
    unfold Hid; rw [hV]; unfold srcV
    split
    · exact ⟨_, _, rfl⟩
    · exact ⟨[], 141, rfl⟩
  rw [← hV] at HSR HPR
  clear hV
  generalize sameS m m2 = r at *
  generalize m.enums.length = ne at *
  generalize m.vars.length = nv at *
  generalize m.procs.length = np at *
  generalize m2.enums.length = ne2 at *
  generalize m2.vars.length = nv2 at *
  generalize m2.procs.length = np2 at *
  obtain ⟨l, ev, rfl⟩ := HV.out
  obtain ⟨sb, hsb⟩ : ∃ sb : ByteArray, sb = ⟨l.toArray⟩ := ⟨_, rfl⟩
  rw [← hsb] at HSR HPR
  clear hsb HV
  go_enter Tryz.func3, Tryz.ntmps3
  go_upto_region 1 with (fail)
  have hwa := HWA.out
  unfold cS at hwa
  rw [← hwa]
  clear hwa HWA hg1 hg2
  go_wp2_with fail
  refine HAL.out.mono ?_
  rintro e w1 ⟨rfl, hB1⟩
  have HB1 := Lib.hid hB1
  obtain ⟨c0, c1, c2⟩ := cells3s (HC.out w1 hB1).1
  have HS1 := Lib.hid (HSR.out w1 hB1)
  clear hB1 HAL HSR
  by_cases h1 : 60 < ne
  · have t1 : decide ((60 : Int) < (ne : Int)) = true := decide_eq_true (by omega)
    have t1' : decide (60 < ne) = true := decide_eq_true h1
    go_wp2_with fail
    go_ret
    exact ⟨rfl, HW0.out _ HB1.out⟩
  have t1 : decide ((60 : Int) < (ne : Int)) = false := decide_eq_false (by omega)
  have t1' : decide (60 < ne) = false := decide_eq_false h1
  by_cases h2 : 60 < nv
  · have t2 : decide ((60 : Int) < (nv : Int)) = true := decide_eq_true (by omega)
    have t2' : decide (60 < nv) = true := decide_eq_true h2
    go_wp2_with fail
    go_ret
    exact ⟨rfl, HW0.out _ HB1.out⟩
  have t2 : decide ((60 : Int) < (nv : Int)) = false := decide_eq_false (by omega)
  have t2' : decide (60 < nv) = false := decide_eq_false h2
  by_cases h3 : 60 < np
  · have t3 : decide ((60 : Int) < (np : Int)) = true := decide_eq_true (by omega)
    have t3' : decide (60 < np) = true := decide_eq_true h3
    go_wp2_with fail
    go_ret
    exact ⟨rfl, HW0.out _ HB1.out⟩
  have t3 : decide ((60 : Int) < (np : Int)) = false := decide_eq_false (by omega)
  have t3' : decide (60 < np) = false := decide_eq_false h3
  go_wp2_with fail
  refine HS1.out.mono ?_
  rintro e w2 ⟨rfl, hB2⟩
  have HB2 := Lib.hid (HB1.out.trans (hB2.mono HB1.out.size))
  have HP2 := Lib.hid (HPR.out w2 HB2.out)
  clear c0 c1 c2 hB2 HS1 HB1 HPR
  obtain ⟨c0, c1, c2⟩ := cells3s (HC.out w2 HB2.out).1
  go_wp2_with fail
  refine HP2.out.mono ?_
  rintro e w3 ⟨rfl, hB3⟩
  have HB3 := Lib.hid (HB2.out.trans (hB3.mono HB2.out.size))
  have HQ1 := Lib.hid (HSS.out w3 HB3.out)
  have HQ2 := Lib.hid (HPS.out w3 HB3.out)
  clear c0 c1 c2 hB3 HP2 HB2 HSS HPS
  obtain ⟨c0, c1, c2⟩ := cells3s (HC.out w3 HB3.out).1
  obtain ⟨d0, d1, d2⟩ := cells3s (HC.out w3 HB3.out).2
  have c0' := cell_regrown c0
  have c1' := cell_regrown c1
  have c2' := cell_regrown c2
  have d0' := cell_regrown d0
  have d1' := cell_regrown d1
  have d2' := cell_regrown d2
  have e1 : (sb.toList == sb.toList) = true := by simp
  have e2 : (ev == ev) = true := by simp
  unfold cS at HQ1 HQ2
  rcases r with _ | _
  · have HT : Hid True := trivial
    go_upto_region 7 with (fail)
    refine wp_region_quiet_below (by kernel_rfl) (by kernel_rfl) (WQ.out ?_)
    refine quiet_take (by kernel_rfl) (fun K hK => ?_); go_simp; refine hK _ ?_; clear hK K
    refine quiet_take (by kernel_rfl) (fun K hK => ?_); go_simp; refine hK _ ?_; clear hK K
    refine quiet_take (by kernel_rfl) (fun K hK => ?_); go_simp; refine hK _ ?_; clear hK K
    refine quiet_take (by kernel_rfl) (fun K hK => ?_); go_simp; refine hK _ ?_; clear hK K
    refine quiet_take (by kernel_rfl) (fun K hK => ?_); go_simp; refine hK _ ?_; clear hK K
    refine quiet_take (by kernel_rfl) (fun K hK => ?_); go_simp; refine hK _ ?_; clear hK K
    refine quiet_take (by kernel_rfl) (fun K hK => ?_); go_simp; refine hK _ ?_; clear hK K
    refine quiet_take (by kernel_rfl) (fun K hK => ?_); go_simp; refine hK _ ?_; clear hK K
    refine quiet_take (by kernel_rfl) (fun K hK => ?_); go_simp; refine hK _ ?_; clear hK K
    refine quiet_take (by kernel_rfl) (fun K hK => ?_); go_simp; refine hK _ ?_; clear hK K
    refine quiet_take (by kernel_rfl) (fun K hK => ?_); go_simp; refine hK _ ?_; clear hK K
    refine quiet_take (by kernel_rfl) (fun K hK => ?_); go_simp; apply Exists.intro; refine ⟨fun _ => ?_, hK _ ?_⟩; (go_at_call 8; exact HQ1.out _ _); clear hK K
    refine quiet_take (by kernel_rfl) (fun K hK => ?_); go_simp; refine hK _ ?_; clear hK K
    refine quiet_take (by kernel_rfl) (fun K hK => ?_); go_simp; refine hK _ ?_; clear hK K
    refine quiet_take (by kernel_rfl) (fun K hK => ?_); go_simp; apply Exists.intro; refine ⟨fun _ => ?_, hK _ ?_⟩; (go_at_call 9; exact HQ2.out _ _); clear hK K
    refine quiet_take (by kernel_rfl) (fun K hK => ?_); go_simp; refine hK _ ?_; clear hK K
    refine quiet_take (by kernel_rfl) (fun K hK => ?_); go_simp; refine hK _ ?_; clear hK K
    refine quiet_take (by kernel_rfl) (fun K hK => ?_); go_simp; refine hK _ ?_; clear hK K
    refine ⟨wpQuiet_nil ?_⟩
    intro w7 hw'
    have hbw7 : Below w3.heap.size w3 w7 := by obtain ⟨⟨dq, osq⟩, hw''⟩ := hw'; rw [hw'']; exact below_regrown w3 dq osq
    clear hw'
    go_wp2_with fail
    go_ret
    exact ⟨rfl, HW0.out _ (HB3.out.trans (hbw7.mono HB3.out.size))⟩
  · have HT : Hid True := trivial
    go_upto_region 7 with (fail)
    refine wp_region_quiet_below (by kernel_rfl) (by kernel_rfl) (WQ.out ?_)
    refine quiet_take (by kernel_rfl) (fun K hK => ?_); go_simp; refine hK _ ?_; clear hK K
    refine quiet_take (by kernel_rfl) (fun K hK => ?_); go_simp; refine hK _ ?_; clear hK K
    refine quiet_take (by kernel_rfl) (fun K hK => ?_); go_simp; refine hK _ ?_; clear hK K
    refine quiet_take (by kernel_rfl) (fun K hK => ?_); go_simp; refine hK _ ?_; clear hK K
    refine quiet_take (by kernel_rfl) (fun K hK => ?_); go_simp; refine hK _ ?_; clear hK K
    refine quiet_take (by kernel_rfl) (fun K hK => ?_); go_simp; refine hK _ ?_; clear hK K
    refine quiet_take (by kernel_rfl) (fun K hK => ?_); go_simp; refine hK _ ?_; clear hK K
    refine quiet_take (by kernel_rfl) (fun K hK => ?_); go_simp; refine hK _ ?_; clear hK K
    refine quiet_take (by kernel_rfl) (fun K hK => ?_); go_simp; refine hK _ ?_; clear hK K
    refine quiet_take (by kernel_rfl) (fun K hK => ?_); go_simp; refine hK _ ?_; clear hK K
    refine quiet_take (by kernel_rfl) (fun K hK => ?_); go_simp; refine hK _ ?_; clear hK K
    refine quiet_take (by kernel_rfl) (fun K hK => ?_); go_simp; apply Exists.intro; refine ⟨fun _ => ?_, hK _ ?_⟩; (go_at_call 8; exact HQ1.out _ _); clear hK K
    refine quiet_take (by kernel_rfl) (fun K hK => ?_); go_simp; refine hK _ ?_; clear hK K
    refine quiet_take (by kernel_rfl) (fun K hK => ?_); go_simp; refine hK _ ?_; clear hK K
    refine quiet_take (by kernel_rfl) (fun K hK => ?_); go_simp; apply Exists.intro; refine ⟨fun _ => ?_, hK _ ?_⟩; (go_at_call 9; exact HQ2.out _ _); clear hK K
    refine quiet_take (by kernel_rfl) (fun K hK => ?_); go_simp; refine hK _ ?_; clear hK K
    refine quiet_take (by kernel_rfl) (fun K hK => ?_); go_simp; refine hK _ ?_; clear hK K
    refine quiet_take (by kernel_rfl) (fun K hK => ?_); go_simp; refine hK _ ?_; clear hK K
    refine ⟨wpQuiet_nil ?_⟩
    intro w7 hw'
    have hbw7 : Below w3.heap.size w3 w7 := by obtain ⟨⟨dq, osq⟩, hw''⟩ := hw'; rw [hw'']; exact below_regrown w3 dq osq
    clear hw'
    go_wp2_with fail
    go_ret
    exact ⟨rfl, HW0.out _ (HB3.out.trans (hbw7.mono HB3.out.size))⟩
end TSources
end Go.Proofs.YtnlepdkbcjjkdaaGreatDoor
