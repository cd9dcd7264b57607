/- Package tree: SameSource, and whether parts are the same. -/
import Derived.Test.YtnlepdkbcjjkdaaGreatDoorTevS
import Derived.Test.YtnlepdkbcjjkdaaGreatDoorTevM
namespace Go.Proofs.YtnlepdkbcjjkdaaGreatDoor
open Go.RowKit TreM WrdM

theorem sl_kds {W : World} {A : Option Addr} {xs : List Ex} (h : SlAt W (ExC W) 6 A xs) : KdsAt W A xs := by
  rcases h with h | ⟨b, p, hA, hb, hk⟩
  · exact .inl h
  · refine .inr ⟨b, p, hA, hb, fun j k hj => ?_⟩
    obtain ⟨cs, _, h1, h2⟩ := hk j k hj
    exact ⟨cs, h1, h2⟩
def strsB (xs ys : List (List UInt8)) : Bool := eqL (fun a b => a == b) xs ys
def sameA (a b : Asg) : Bool := a.name == b.name && same a.to_ b.to_
def sameR (a b : Rul) : Bool := same a.when_ b.when_ && eqL sameA a.do_ b.do_
def sameE (a b : Enu) : Bool := a.name == b.name && strsB a.values b.values
def sameP (a b : Prc) : Bool := a.name == b.name && eqL sameR a.rules b.rules
def sameD (a b : Dcl) : Bool := a.name == b.name && (a.type == b.type && (decide (a.low = b.low) && (decide (a.high = b.high) && sameL a.begins b.begins)))
def sameS (a b : Src) : Bool := eqL sameE a.enums b.enums && (eqL sameD a.vars b.vars && eqL sameP a.procs b.procs)
theorem sameL_refl : ∀ xs : List Ex, sameL xs xs = true
  | [] => rfl
  | x :: xs => by rw [sameL, same_refl x, sameL_refl xs]; rfl
theorem sameS_refl (m : Src) : sameS m m = true := by
  have hE : ∀ e : Enu, sameE e e = true := fun e => by
    unfold sameE strsB
    rw [eqL_refl _ _ fun k _ => by simp]; simp
  have hA : ∀ a : Asg, sameA a a = true := fun a => by unfold sameA; rw [same_refl]; simp
  have hR : ∀ r : Rul, sameR r r = true := fun r => by unfold sameR; rw [same_refl, eqL_refl _ _ fun k _ => hA k]; rfl
  have hP : ∀ p : Prc, sameP p p = true := fun p => by unfold sameP; rw [eqL_refl _ _ fun k _ => hR k]; simp
  have hD : ∀ d : Dcl, sameD d d = true := fun d => by unfold sameD; rw [sameL_refl]; simp
  unfold sameS
  rw [eqL_refl _ _ fun k _ => hE k, eqL_refl _ _ fun k _ => hD k, eqL_refl _ _ fun k _ => hP k]
  rfl

set_option maxHeartbeats 1600000 in
set_option maxRecDepth 100000 in
theorem equalStr_any (ks ys : List (List UInt8)) (A B : Option Addr) (cap dap : Nat) (w : World) (hK : SlAt w StrC 1 A ks) (hmc : ks.length ≤ cap) (hcap : cap ≤ 9223372036854775807) (hY : SlAt w StrC 1 B ys) (_hyc : ys.length ≤ dap) (_hdap : dap ≤ 9223372036854775807) :
    Calls Tryz.prog 65 #[.slice A ks.length cap, .slice B ys.length dap] w fun e w' => e = .returned (.bool (strsB ks ys)) ∧ Below w.heap.size w w' := by
  unfold strsB
  by_cases hl : ks.length = ys.length
  case neg =>
    have hE : eqL (fun a b => a == b) ks ys = false := by rw [Bool.eq_false_iff]; intro e; exact hl (eqL_len _ ks ys e)
    have t1 : ((ks.length : Int) != (ys.length : Int)) = true := by rw [bne_iff_ne]; omega
    have t2 : (ks.length != ys.length) = true := by rw [bne_iff_ne]; omega
    rw [hE]
    clear hE hK hY hl
    generalize ks.length = m at *
    generalize ys.length = m2 at *
    go_enter Tryz.func65, Tryz.ntmps65
    go_wp2
    go_ret
    exact ⟨rfl, Below.refl _ _⟩
  rw [← hl] at _hyc ⊢
  obtain ⟨m, hm⟩ : ∃ m, m = ks.length := ⟨_, rfl⟩
  have HM := Lib.hid hm
  have HL := Lib.hid hl
  have HK := Lib.hid hK
  have HY := Lib.hid hY
  have HS := Lib.hid (eqL_iff (fun a b : List UInt8 => a == b) ks ys hl)
  rw [← hm] at hmc _hyc ⊢
  clear hm hK hl hY
  generalize eqL (fun a b => a == b) ks ys = Q at *
  have t0 : ((m : Int) != (m : Int)) = false := by rw [bne_eq_false_iff_eq]
  go_enter Tryz.func65, Tryz.ntmps65
  go_wp2
  go_loopw [5, 13] (fun _ i wr => ∃ k : Nat, k ≤ m ∧ i = .int .i64 k ∧ Hid (Below w.heap.size w wr) ∧ Hid (∀ j x y, j < k → ks[j]? = some x → ys[j]? = some y → (x == y) = true)) (fun _ i _ => m - (intOf i).toNat)
  case atStart => exact ⟨0, Nat.zero_le _, rfl, Below.refl _ _, fun j x y hj => absurd hj (by omega)⟩
  case round =>
    obtain ⟨k, hk, rfl, HW, HA⟩ := hrel
    by_cases hlt : k < m
    · have t1 : decide ((k : Int) < (m : Int)) = true := decide_eq_true (by omega)
      have t2 : decide (k < m) = true := decide_eq_true hlt
      obtain ⟨x, hx⟩ := get_el (ks := ks) (k := k) (by rw [← HM.out]; exact hlt)
      obtain ⟨y, hy⟩ := get_el (ks := ys) (k := k) (by rw [← HL.out, ← HM.out]; exact hlt)
      rcases HK.out with hK | ⟨b', p', rfl, hb', hk'⟩
      · exfalso; rw [hK] at hx; simp at hx
      rcases HY.out with hK | ⟨b2, p2, rfl, hb2, hk2⟩
      · exfalso; rw [hK] at hy; simp at hy
      obtain ⟨cs, _, hc, hR⟩ := hk' k x hx
      obtain ⟨ds, _, hd, hR2⟩ := hk2 k y hy
      have c0 : wr.cell? ⟨b', p' + k, none⟩ = some (.string ⟨x.toArray⟩) := by rw [HW.out.cell (p := ⟨b', p' + k, none⟩) hb']; simpa using hc 0 _ (by rw [hR.1]; rfl)
      have d0 : wr.cell? ⟨b2, p2 + k, none⟩ = some (.string ⟨y.toArray⟩) := by rw [HW.out.cell (p := ⟨b2, p2 + k, none⟩) hb2]; simpa using hd 0 _ (by rw [hR2.1]; rfl)
      have hst := str_beq x y
      have HX := Lib.hid hx
      have HYY := Lib.hid hy
      have c0' := cell_regrown c0
      have d0' := cell_regrown d0
      clear hx hk' hy hk2 hc hd hR hR2
      generalize (⟨x.toArray⟩ : ByteArray) = xb at *
      generalize (⟨y.toArray⟩ : ByteArray) = yb at *
      rcases hr : (x == y) with _ | _
      · rw [hr] at hst
        have hst2 : (xb.toList != yb.toList) = true := by rw [bne, hst]; rfl
        have HRx := Lib.hid hr
        clear hr
        go_upto_region 6 with (fail)
        refine wp_region_quiet_below (by kernel_rfl) (by kernel_rfl) ?_
        repeat (quiet_step (fail))
        refine wpQuiet_nil ?_
        intro w2 hw'
        have hb2 : Below wr.heap.size wr w2 := by obtain ⟨⟨dq, osq⟩, hw''⟩ := hw'; rw [hw'']; exact below_regrown wr dq osq
        clear hw'
        go_wp2_with fail
        go_ret
        refine ⟨ret_bool ?_, HW.out.trans (hb2.mono HW.out.size)⟩
        rw [eq_comm, Bool.eq_false_iff]
        intro e
        have := HS.out.1 e k x y HX.out HYY.out
        rw [HRx.out] at this
        cases this
      · rw [hr] at hst
        have hst2 : (xb.toList != yb.toList) = false := by rw [bne, hst]; rfl
        have HRx := Lib.hid hr
        clear hr
        go_upto_region 6 with (fail)
        refine wp_region_quiet_below (by kernel_rfl) (by kernel_rfl) ?_
        repeat (quiet_step (fail))
        refine wpQuiet_nil ?_
        intro w2 hw'
        have hb2 : Below wr.heap.size wr w2 := by obtain ⟨⟨dq, osq⟩, hw''⟩ := hw'; rw [hw'']; exact below_regrown wr dq osq
        clear hw'
        go_wp2_with fail
        go_roundw
        case rel =>
          refine ⟨k + 1, by omega, by go_num, HW.out.trans (hb2.mono HW.out.size), fun j x' y' hj hx' hy' => ?_⟩
          by_cases e : j = k
          · subst e
            have e1 := HX.out.symm.trans hx'
            injection e1 with e1
            have e2 := HYY.out.symm.trans hy'
            injection e2 with e2
            rw [← e1, ← e2]; exact HRx.out
          · exact HA.out j x' y' (by omega) hx' hy'
        case measure => simp [intOf]; omega
    · have t1 : decide ((k : Int) < (m : Int)) = false := decide_eq_false (by omega)
      have t2 : decide (k < m) = false := decide_eq_false hlt
      go_wp2
      go_ret
      refine ⟨ret_bool ?_, HW.out⟩
      rw [eq_comm]
      exact HS.out.2 fun j x y hx hy => HA.out j x y (by
        have := HM.out
        rcases Nat.lt_or_ge j ks.length with h' | h'
        · omega
        · rw [List.getElem?_eq_none h'] at hx; cases hx) hx hy
theorem two_alloc (w : World) (c d : Obj) : Below w.heap.size w ((w.alloc c).alloc d) := (below_alloc w _).alloc (by simp) _

set_option maxHeartbeats 1600000 in
set_option maxRecDepth 100000 in
theorem sameAssign_any (a b : Asg) (cs ds : List Value) (w : World) (ha : AsgC w a cs) (hb : AsgC w b ds) : Calls Tryz.prog 100 #[.agg cs.toArray, .agg ds.toArray] w fun e w' => e = .returned (.bool (sameA a b)) ∧ Below w.heap.size w w' := by
  obtain ⟨xs, l, c, _, rfl, _, hx⟩ := ha
  obtain ⟨ys, l2, c2, _, rfl, _, hy⟩ := hb
  obtain ⟨o, n, sb, A, m, cap, xl, xc, rfl⟩ := ex6_form hx
  obtain ⟨o2, n2, sb2, A2, m2, cap2, xl2, xc2, rfl⟩ := ex6_form hy
  have HBA := Lib.hid (two_alloc w (.cells #[.string ⟨a.name.toArray⟩, .int .i64 o, .int .i64 n, .string sb, .slice A m cap, .int .i64 xl, .int .i64 xc, .int .i64 l, .int .i64 c] 105) (.cells #[.string ⟨b.name.toArray⟩, .int .i64 o2, .int .i64 n2, .string sb2, .slice A2 m2 cap2, .int .i64 xl2, .int .i64 xc2, .int .i64 l2, .int .i64 c2] 105))
  have HC := Lib.hid (same_any a.to_ b.to_ (.agg #[.int .i64 o, .int .i64 n, .string sb, .slice A m cap, .int .i64 xl, .int .i64 xc]) (.agg #[.int .i64 o2, .int .i64 n2, .string sb2, .slice A2 m2 cap2, .int .i64 xl2, .int .i64 xc2]) _ ⟨_, rfl, ExC.below HBA.out _ _ hx⟩ ⟨_, rfl, ExC.below HBA.out _ _ hy⟩)
  have hst := str_beq a.name b.name
  have hE : sameA a b = (a.name == b.name && same a.to_ b.to_) := rfl
  rw [hE]
  simp only [List.cons_append, List.nil_append]
  clear hE hx hy
  generalize same a.to_ b.to_ = R at *
  generalize (a.name == b.name) = bs at *
  generalize (⟨a.name.toArray⟩ : ByteArray) = nb at *
  generalize (⟨b.name.toArray⟩ : ByteArray) = nb2 at *
  go_enter Tryz.func100, Tryz.ntmps100
  cases bs
  · go_wp2
    go_ret
    exact ⟨rfl, HBA.out⟩
  · go_wp2_with (refine HC.out.mono ?_; rintro e w' ⟨rfl, hB2⟩)
    go_ret
    exact ⟨rfl, HBA.out.trans (hB2.mono HBA.out.size)⟩
theorem eg_samA : ∀ args w, (callFunc 100 args).run Tryz.prog w = .ok (.enter 100 args) w := enters_of Tryz.func100 (by kernel_rfl) rfl
theorem eg_samR : ∀ args w, (callFunc 69 args).run Tryz.prog w = .ok (.enter 69 args) w := enters_of Tryz.func69 (by kernel_rfl) rfl
theorem eg_samE : ∀ args w, (callFunc 30 args).run Tryz.prog w = .ok (.enter 30 args) w := enters_of Tryz.func30 (by kernel_rfl) rfl
theorem eg_samV : ∀ args w, (callFunc 32 args).run Tryz.prog w = .ok (.enter 32 args) w := enters_of Tryz.func32 (by kernel_rfl) rfl
theorem eg_samP : ∀ args w, (callFunc 34 args).run Tryz.prog w = .ok (.enter 34 args) w := enters_of Tryz.func34 (by kernel_rfl) rfl
theorem form_asg {W : World} {x : Asg} {cs : List Value} (h : AsgC W x cs) : ∃ (qnb : ByteArray) (qo : Int) (qn : Int) (qsb : ByteArray) (qA : Option Addr) (qm qcap : Nat) (qxl : Int) (qxc : Int) (qln : Int) (qcn : Int), cs = [.string qnb, .int .i64 qo, .int .i64 qn, .string qsb, .slice qA qm qcap, .int .i64 qxl, .int .i64 qxc, .int .i64 qln, .int .i64 qcn] := by
  obtain ⟨xs, l, c, _, rfl, _, hx⟩ := h
  obtain ⟨o, n, sb, A, m, cap, xl, xc, rfl⟩ := ex6_form hx
  exact ⟨_, _, _, _, _, _, _, _, _, _, _, rfl⟩
theorem form_rul {W : World} {x : Rul} {cs : List Value} (h : RulC W x cs) : ∃ (qo : Int) (qn : Int) (qsb : ByteArray) (qA : Option Addr) (qm qcap : Nat) (qxl : Int) (qxc : Int) (qA2 : Option Addr) (qm2 qcap2 : Nat), cs = [.int .i64 qo, .int .i64 qn, .string qsb, .slice qA qm qcap, .int .i64 qxl, .int .i64 qxc, .slice qA2 qm2 qcap2] := by
  obtain ⟨xs, v, _, rfl, hx, A2, cap2, rfl, _⟩ := h
  obtain ⟨o, n, sb, A, m, cap, xl, xc, rfl⟩ := ex6_form hx
  exact ⟨_, _, _, _, _, _, _, _, _, _, _, rfl⟩
theorem form_enu {W : World} {x : Enu} {cs : List Value} (h : EnuC W x cs) : ∃ (qnb : ByteArray) (qA : Option Addr) (qm qcap : Nat) (qln : Int) (qcn : Int), cs = [.string qnb, .slice qA qm qcap, .int .i64 qln, .int .i64 qcn] := by
  obtain ⟨v, l, c, rfl, _, A, cap, rfl, _⟩ := h
  exact ⟨_, _, _, _, _, _, rfl⟩
theorem form_prc {W : World} {x : Prc} {cs : List Value} (h : PrcC W x cs) : ∃ (qnb : ByteArray) (qA : Option Addr) (qm qcap : Nat) (qln : Int) (qcn : Int), cs = [.string qnb, .slice qA qm qcap, .int .i64 qln, .int .i64 qcn] := by
  obtain ⟨v, l, c, rfl, _, A, cap, rfl, _⟩ := h
  exact ⟨_, _, _, _, _, _, rfl⟩
theorem form_dcl {W : World} {x : Dcl} {cs : List Value} (h : DclC W x cs) : ∃ (qnb : ByteArray) (qtb : ByteArray) (qlo : Int) (qhi : Int) (qA : Option Addr) (qm qcap : Nat) (qln : Int) (qcn : Int), cs = [.string qnb, .string qtb, .int .i64 qlo, .int .i64 qhi, .slice qA qm qcap, .int .i64 qln, .int .i64 qcn] := by
  obtain ⟨v, l, c, rfl, _, _, _, _, A, cap, rfl, _⟩ := h
  exact ⟨_, _, _, _, _, _, _, _, _, rfl⟩
set_option maxHeartbeats 1600000 in
set_option maxRecDepth 100000 in
theorem sameRule_any (a b : Rul) (cs ds : List Value) (w : World) (ha : RulC w a cs) (hb : RulC w b ds) : Calls Tryz.prog 69 #[.agg cs.toArray, .agg ds.toArray] w fun e w' => e = .returned (.bool (sameR a b)) ∧ Below w.heap.size w w' := by
  obtain ⟨xs, v, _, rfl, hx, B, cb, rfl, hm, hc, hA⟩ := ha
  obtain ⟨ys, u, _, rfl, hy, B2, cb2, rfl, hm2, hc2, hA2⟩ := hb
  obtain ⟨o, n, sb, A, m, cap, xl, xc, rfl⟩ := ex6_form hx
  obtain ⟨o2, n2, sb2, A2, m2, cap2, xl2, xc2, rfl⟩ := ex6_form hy
  have hba := two_alloc w (.cells #[.int .i64 o, .int .i64 n, .string sb, .slice A m cap, .int .i64 xl, .int .i64 xc, .slice B a.do_.length cb] 76) (.cells #[.int .i64 o2, .int .i64 n2, .string sb2, .slice A2 m2 cap2, .int .i64 xl2, .int .i64 xc2, .slice B2 b.do_.length cb2] 76)
  obtain ⟨wa, hwa⟩ : ∃ wa, wa = (w.alloc (.cells #[.int .i64 o, .int .i64 n, .string sb, .slice A m cap, .int .i64 xl, .int .i64 xc, .slice B a.do_.length cb] 76)).alloc (.cells #[.int .i64 o2, .int .i64 n2, .string sb2, .slice A2 m2 cap2, .int .i64 xl2, .int .i64 xc2, .slice B2 b.do_.length cb2] 76) := ⟨_, rfl⟩
  rw [← hwa] at hba
  have hza : wa.heap.size = w.heap.size + 2 := by rw [hwa, alloc_size, alloc_size]
  have hg1 : wa.heap[w.heap.size]? = some (.cells #[.int .i64 o, .int .i64 n, .string sb, .slice A m cap, .int .i64 xl, .int .i64 xc, .slice B a.do_.length cb] 76) := by
    rw [hwa, Lib.alloc_old _ _ _ (by simp)]; exact blk_new w _
  have hg2 : wa.heap[w.heap.size + 1]? = some (.cells #[.int .i64 o2, .int .i64 n2, .string sb2, .slice A2 m2 cap2, .int .i64 xl2, .int .i64 xc2, .slice B2 b.do_.length cb2] 76) := by
    rw [hwa]
    have := blk_new (w.alloc (.cells #[.int .i64 o, .int .i64 n, .string sb, .slice A m cap, .int .i64 xl, .int .i64 xc, .slice B a.do_.length cb] 76)) (.cells #[.int .i64 o2, .int .i64 n2, .string sb2, .slice A2 m2 cap2, .int .i64 xl2, .int .i64 xc2, .slice B2 b.do_.length cb2] 76)
    rwa [alloc_size] at this
  have HC := Lib.hid (same_any a.when_ b.when_ (.agg #[.int .i64 o, .int .i64 n, .string sb, .slice A m cap, .int .i64 xl, .int .i64 xc]) (.agg #[.int .i64 o2, .int .i64 n2, .string sb2, .slice A2 m2 cap2, .int .i64 xl2, .int .i64 xc2]) wa ⟨_, rfl, ExC.below hba _ _ hx⟩ ⟨_, rfl, ExC.below hba _ _ hy⟩)
  have HD : Hid (∀ W, Below wa.heap.size wa W → Calls Tryz.prog 99 #[.slice B a.do_.length cb, .slice B2 b.do_.length cb2, .func (.func 100) #[] #[]] W fun e w' => e = .returned (.bool (eqL sameA a.do_ b.do_)) ∧ Below W.heap.size W w') := fun W hW =>
    have hb := hba.trans (hW.mono hba.size)
    equalAsgn_any _ #[] eg_samA sameA (AsgC W) (fun _ _ h => form_asg h) a.do_ b.do_ B B2 cb cb2 W (hA.below hb fun _ _ _ h => h.below hb) hm hc (hA2.below hb fun _ _ _ h => h.below hb) hm2 hc2 (fun k _ y _ cs ds W' hW' h1 h2 => sameAssign_any k y cs ds W' (h1.below hW') (h2.below hW'))
  have HK : Hid (∀ W, Below wa.heap.size wa W → W.cell? ⟨w.heap.size, 6, none⟩ = some (.slice B a.do_.length cb) ∧ W.cell? ⟨w.heap.size + 1, 6, none⟩ = some (.slice B2 b.do_.length cb2)) := fun W hW =>
    ⟨heap_cell ((hW.block _ (by omega)).trans hg1) 6 rfl, heap_cell ((hW.block _ (by omega)).trans hg2) 6 rfl⟩
  have c0 := heap_cell hg1 0 rfl
  have c1 := heap_cell hg1 1 rfl
  have c2 := heap_cell hg1 2 rfl
  have c3 := heap_cell hg1 3 rfl
  have c4 := heap_cell hg1 4 rfl
  have c5 := heap_cell hg1 5 rfl
  have d0 := heap_cell hg2 0 rfl
  have d1 := heap_cell hg2 1 rfl
  have d2 := heap_cell hg2 2 rfl
  have d3 := heap_cell hg2 3 rfl
  have d4 := heap_cell hg2 4 rfl
  have d5 := heap_cell hg2 5 rfl
  have hE : sameR a b = (same a.when_ b.when_ && eqL sameA a.do_ b.do_) := rfl
  rw [hE]
  have HBA := Lib.hid hba
  have HWA := Lib.hid hwa
  simp only [List.cons_append, List.nil_append]
  clear hE hx hy hba hwa hza hg1 hg2 hA hA2
  generalize same a.when_ b.when_ = R at *
  generalize eqL sameA a.do_ b.do_ = Q at *
  generalize a.do_.length = ka at *
  generalize b.do_.length = kb at *
  go_enter Tryz.func69, Tryz.ntmps69
  go_wp2_with fail
  have hwa := HWA.out
  rw [← hwa]
  clear hwa HWA
  refine HC.out.mono ?_
  rintro e w1 ⟨rfl, hB1⟩
  have HB1 := Lib.hid hB1
  obtain ⟨e6, f6⟩ := HK.out w1 hB1
  have HD1 := Lib.hid (HD.out w1 hB1)
  clear hB1 HC c0 c1 c2 c3 c4 c5 d0 d1 d2 d3 d4 d5
  rcases R with _ | _
  · go_wp2_with fail
    go_ret
    exact ⟨rfl, HBA.out.trans (HB1.out.mono HBA.out.size)⟩
  · go_wp2_with (refine HD1.out.mono ?_; rintro e w' ⟨rfl, hB2⟩)
    go_ret
    exact ⟨rfl, HBA.out.trans ((HB1.out.trans (hB2.mono HB1.out.size)).mono HBA.out.size)⟩
set_option maxHeartbeats 1600000 in
set_option maxRecDepth 100000 in
theorem sameEnum_any (a b : Enu) (cs ds : List Value) (w : World) (ha : EnuC w a cs) (hb : EnuC w b ds) : Calls Tryz.prog 30 #[.agg cs.toArray, .agg ds.toArray] w fun e w' => e = .returned (.bool (sameE a b)) ∧ Below w.heap.size w w' := by
  obtain ⟨v, l, c, rfl, _, A, cap, rfl, hm, hc, hA⟩ := ha
  obtain ⟨u, l2, c2, rfl, _, A2, cap2, rfl, hm2, hc2, hA2⟩ := hb
  have HBA := Lib.hid (two_alloc w (.cells #[.string ⟨a.name.toArray⟩, .slice A a.values.length cap, .int .i64 l, .int .i64 c] 48) (.cells #[.string ⟨b.name.toArray⟩, .slice A2 b.values.length cap2, .int .i64 l2, .int .i64 c2] 48))
  have HC := Lib.hid (equalStr_any a.values b.values A A2 cap cap2 _ (hA.below HBA.out fun _ _ _ h => h) hm hc (hA2.below HBA.out fun _ _ _ h => h) hm2 hc2)
  have hst := str_beq a.name b.name
  have hE : sameE a b = (a.name == b.name && strsB a.values b.values) := rfl
  rw [hE]
  clear hE hA hA2
  generalize strsB a.values b.values = R at *
  generalize (a.name == b.name) = bs at *
  generalize (⟨a.name.toArray⟩ : ByteArray) = nb at *
  generalize (⟨b.name.toArray⟩ : ByteArray) = nb2 at *
  generalize a.values.length = ka at *
  generalize b.values.length = kb at *
  go_enter Tryz.func30, Tryz.ntmps30
  cases bs
  · go_wp2
    go_ret
    exact ⟨rfl, HBA.out⟩
  · go_wp2_with (refine HC.out.mono ?_; rintro e w' ⟨rfl, hB2⟩)
    go_ret
    exact ⟨rfl, HBA.out.trans (hB2.mono HBA.out.size)⟩
set_option maxHeartbeats 1600000 in
set_option maxRecDepth 100000 in
theorem sameProcess_any (a b : Prc) (cs ds : List Value) (w : World) (ha : PrcC w a cs) (hb : PrcC w b ds) : Calls Tryz.prog 34 #[.agg cs.toArray, .agg ds.toArray] w fun e w' => e = .returned (.bool (sameP a b)) ∧ Below w.heap.size w w' := by
  obtain ⟨v, l, c, rfl, _, A, cap, rfl, hm, hc, hA⟩ := ha
  obtain ⟨u, l2, c2, rfl, _, A2, cap2, rfl, hm2, hc2, hA2⟩ := hb
  have HBA := Lib.hid (two_alloc w (.cells #[.string ⟨a.name.toArray⟩, .slice A a.rules.length cap, .int .i64 l, .int .i64 c] 36) (.cells #[.string ⟨b.name.toArray⟩, .slice A2 b.rules.length cap2, .int .i64 l2, .int .i64 c2] 36))
  have hb := HBA.out
  have HC := Lib.hid (equalRule_any _ #[] eg_samR sameR (RulC _) (fun _ _ h => form_rul h) a.rules b.rules A A2 cap cap2 _ (hA.below hb fun _ _ _ h => h.below hb) hm hc (hA2.below hb fun _ _ _ h => h.below hb) hm2 hc2 (fun k _ y _ cs ds W' hW' h1 h2 => sameRule_any k y cs ds W' (h1.below hW') (h2.below hW')))
  have hst := str_beq a.name b.name
  have hE : sameP a b = (a.name == b.name && eqL sameR a.rules b.rules) := rfl
  rw [hE]
  clear hE hA hA2 hb
  generalize eqL sameR a.rules b.rules = R at *
  generalize (a.name == b.name) = bs at *
  generalize (⟨a.name.toArray⟩ : ByteArray) = nb at *
  generalize (⟨b.name.toArray⟩ : ByteArray) = nb2 at *
  generalize a.rules.length = ka at *
  generalize b.rules.length = kb at *
  go_enter Tryz.func34, Tryz.ntmps34
  cases bs
  · go_wp2
    go_ret
    exact ⟨rfl, HBA.out⟩
  · go_wp2_with (refine HC.out.mono ?_; rintro e w' ⟨rfl, hB2⟩)
    go_ret
    exact ⟨rfl, HBA.out.trans (hB2.mono HBA.out.size)⟩
set_option maxHeartbeats 3200000 in
set_option maxRecDepth 100000 in
theorem sameVar_any (a b : Dcl) (cs ds : List Value) (w : World) (ha : DclC w a cs) (hb : DclC w b ds) : Calls Tryz.prog 32 #[.agg cs.toArray, .agg ds.toArray] w fun e w' => e = .returned (.bool (sameD a b)) ∧ Below w.heap.size w w' := by
  obtain ⟨v, l, c, rfl, _, _, _, _, A, cap, rfl, hm, hc, hA⟩ := ha
  obtain ⟨u, l2, c2, rfl, _, _, _, _, A2, cap2, rfl, hm2, hc2, hA2⟩ := hb
  have HBA := Lib.hid (two_alloc w (.cells #[.string ⟨a.name.toArray⟩, .string ⟨a.type.toArray⟩, .int .i64 a.low, .int .i64 a.high, .slice A a.begins.length cap, .int .i64 l, .int .i64 c] 52) (.cells #[.string ⟨b.name.toArray⟩, .string ⟨b.type.toArray⟩, .int .i64 b.low, .int .i64 b.high, .slice A2 b.begins.length cap2, .int .i64 l2, .int .i64 c2] 52))
  have hb := HBA.out
  have HC := Lib.hid (equalE_any 67 #[] eg_same a.begins b.begins A A2 cap cap2 _ (sl_kds (hA.below hb fun x _ cs h => ExC.below hb x cs h)) hm hc (sl_kds (hA2.below hb fun x _ cs h => ExC.below hb x cs h)) hm2 hc2 (fun k _ y v u W _ hv hu => same_any k y v u W hv hu))
  have hst := str_beq a.name b.name
  have hst2 := str_beq a.type b.type
  have hE : sameD a b = (a.name == b.name && (a.type == b.type && (decide (a.low = b.low) && (decide (a.high = b.high) && sameL a.begins b.begins)))) := rfl
  have e1 : (a.low == b.low) = decide (a.low = b.low) := by rw [Bool.eq_iff_iff]; simp
  have e2 : (a.high == b.high) = decide (a.high = b.high) := by rw [Bool.eq_iff_iff]; simp
  rw [hE]
  clear hE hA hA2 hb
  generalize decide (a.low = b.low) = z1 at *
  generalize decide (a.high = b.high) = z2 at *
  generalize sameL a.begins b.begins = R at *
  generalize (a.name == b.name) = bs at *
  generalize (a.type == b.type) = bt at *
  generalize (⟨a.name.toArray⟩ : ByteArray) = nb at *
  generalize (⟨b.name.toArray⟩ : ByteArray) = nb2 at *
  generalize (⟨a.type.toArray⟩ : ByteArray) = tb at *
  generalize (⟨b.type.toArray⟩ : ByteArray) = tb2 at *
  generalize a.begins.length = ka at *
  generalize b.begins.length = kb at *
  generalize a.low = lo at *
  generalize b.low = lo2 at *
  generalize a.high = hi at *
  generalize b.high = hi2 at *
  go_enter Tryz.func32, Tryz.ntmps32
  cases bs
  · go_wp2
    go_ret
    exact ⟨ret_bool (by simp), HBA.out⟩
  cases bt
  · go_wp2
    go_ret
    exact ⟨ret_bool (by simp), HBA.out⟩
  cases z1
  · go_wp2
    go_ret
    exact ⟨ret_bool (by simp), HBA.out⟩
  cases z2
  · go_wp2
    go_ret
    exact ⟨ret_bool (by simp), HBA.out⟩
  · go_wp2_with (refine HC.out.mono ?_; rintro e w' ⟨rfl, hB2⟩)
    go_ret
    exact ⟨ret_bool (by simp), HBA.out.trans (hB2.mono HBA.out.size)⟩
end Go.Proofs.YtnlepdkbcjjkdaaGreatDoor
