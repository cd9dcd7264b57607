/- The plain answer of layer 14: sameAssigns, SameSource. -/
import Derived.Test.YtnlepdkbcjjkdaaGreatDoorTrfJ
namespace Go.Proofs.YtnlepdkbcjjkdaaGreatDoor
open Go.RowKit TreM WrdM

theorem eqL_ok {α : Type} (r : α → α → Bool) (xs ys : List α) : (xs.length ≠ ys.length → eqL r xs ys = false) ∧ (∀ (k : Nat) (a b : α), xs[k]? = some a → ys[k]? = some b → r a b = false → eqL r xs ys = false) ∧
    (xs.length = ys.length → (∀ (j : Nat) (a b : α), xs[j]? = some a → ys[j]? = some b → r a b = true) → eqL r xs ys = true) := by
  refine ⟨fun h => ?_, fun k a b h1 h2 h3 => ?_, fun h h2 => (eqL_iff r xs ys h).2 h2⟩
  · rw [Bool.eq_false_iff]; exact fun e => h (eqL_len r xs ys e)
  · rw [Bool.eq_false_iff]; intro e
    have := (eqL_iff r xs ys (eqL_len r xs ys e)).1 e k a b h1 h2
    rw [h3] at this; cases this
theorem sameL_ok (xs ys : List Ex) : (xs.length ≠ ys.length → sameL xs ys = false) ∧ (∀ (k : Nat) (a b : Ex), xs[k]? = some a → ys[k]? = some b → same a b = false → sameL xs ys = false) ∧
    (xs.length = ys.length → (∀ (j : Nat) (a b : Ex), xs[j]? = some a → ys[j]? = some b → same a b = true) → sameL xs ys = true) := by
  refine ⟨fun h => ?_, fun k a b h1 h2 h3 => ?_, fun h h2 => (sameL_iff xs ys h).2 h2⟩
  · rw [Bool.eq_false_iff]; exact fun e => h (sameL_len xs ys e)
  · rw [Bool.eq_false_iff]; intro e
    have := (sameL_iff xs ys (sameL_len xs ys e)).1 e k a b h1 h2
    rw [h3] at this; cases this

set_option maxHeartbeats 3200000 in
set_option maxRecDepth 100000 in
theorem psameAssigns_any (xs ys : List Asg) (A B : Option Addr) (ca cb : Nat) (w : World) (hA : SlAt w (AsgC w) 9 A xs) (hB : SlAt w (AsgC w) 9 B ys) (hmc : xs.length ≤ ca) (hcap : ca ≤ 9223372036854775807) (_hmc2 : ys.length ≤ cb) (_hcap2 : cb ≤ 9223372036854775807) :
    Calls Tryz.prog 36 #[.slice A xs.length ca, .slice B ys.length cb] w fun e w' => e = .returned (.bool (eqL sameA xs ys)) ∧ Below w.heap.size w w' := by
  have HOK := Lib.hid (eqL_ok sameA xs ys)
  have HK1 := Lib.hid hA
  have HK2 := Lib.hid hB
  have HG1 : Hid (∀ k, k < xs.length → ∃ x, xs[k]? = some x) := fun k hk => get_el hk
  have HG2 : Hid (∀ k, k < ys.length → ∃ x, ys[k]? = some x) := fun k hk => get_el hk
  have HJ : Hid (∀ (j : Nat) (x : Asg), xs[j]? = some x → j < xs.length) := fun j x hx => by
    rcases Nat.lt_or_ge j xs.length with h' | h'
    · exact h'
    · rw [List.getElem?_eq_none h'] at hx; cases hx
  clear hA hB
  generalize eqL sameA xs ys = R at *
  generalize xs.length = m at *
  generalize ys.length = m2 at *
  go_enter Tryz.func36, Tryz.ntmps36
  by_cases hl : m = m2
  case neg =>
    have e4 : ((m : Int) != (m2 : Int)) = true := by rw [bne_iff_ne]; omega
    have e5 : (m != m2) = true := by rw [bne_iff_ne]; exact hl
    have HR := Lib.hid (HOK.out.1 hl)
    go_wp2_with fail
    go_ret
    exact ⟨ret_bool HR.out.symm, Below.refl _ _⟩
  have e4 : ((m : Int) != (m2 : Int)) = false := by rw [bne_eq_false_iff_eq]; omega
  have e5 : (m != m2) = false := by rw [bne_eq_false_iff_eq]; exact hl
  have HML := Lib.hid hl
  clear hl
  go_wp2_with fail
  go_loopw [5, 13] (fun _ i wr => ∃ k : Nat, k ≤ m ∧ i = .int .i64 k ∧ Hid (Below w.heap.size w wr) ∧ Hid (∀ j x y, j < k → xs[j]? = some x → ys[j]? = some y → sameA x y = true)) (fun _ i _ => m - (intOf i).toNat)
  case atStart => exact ⟨0, Nat.zero_le _, rfl, Below.refl _ _, fun j x y hj => absurd hj (by omega)⟩
  case round =>
    obtain ⟨k, hk, rfl, HW, HA⟩ := hrel
    by_cases hlt : k < m
    · have t1 : decide ((k : Int) < (m : Int)) = true := decide_eq_true (by omega)
      have t2 : decide (k < m) = true := decide_eq_true hlt
      have t3 : k < m2 := by have := HML.out; omega
      obtain ⟨x, hx⟩ := HG1.out k hlt
      obtain ⟨y, hy⟩ := HG2.out k t3
      rcases HK1.out with hK | ⟨b', p', rfl, hb', hk'⟩
      · exfalso; rw [hK] at hx; simp at hx
      rcases HK2.out with hK | ⟨b2, p2, rfl, hb2, hk2⟩
      · exfalso; rw [hK] at hy; simp at hy
      obtain ⟨cs, _, hca, as6, al9, ac9, ha6, rfl, hxl, hRa⟩ := hk' k x hx
      obtain ⟨ds, _, hcb, bs6, bl9, bc9, hb6, rfl, hyl, hRb⟩ := hk2 k y hy
      have hEa : ExV w x.to_ (.agg as6.toArray) := ⟨as6, rfl, hRa⟩
      have hEb : ExV w y.to_ (.agg bs6.toArray) := ⟨bs6, rfl, hRb⟩
      obtain ⟨ao, an, av, aa, am, ak, al, ac, rfl⟩ := exc_form hRa
      obtain ⟨bo, bn, bv, ba, bm, bk, bl, bc, rfl⟩ := exc_form hRb
      have hcell : ∀ (i : Nat) (v : Value), (.string ⟨x.name.toArray⟩ :: ([.int .i64 ao, .int .i64 an, .string av, .slice aa am ak, .int .i64 al, .int .i64 ac] ++ [.int .i64 al9, .int .i64 ac9]) : List Value)[i]? = some v → wr.cell? ⟨b', p' + k * 9 + i, none⟩ = some v := fun i v hv => by
        rw [HW.out.cell (p := ⟨b', p' + k * 9 + i, none⟩) hb']; exact hca i v hv
      have hdell : ∀ (i : Nat) (v : Value), (.string ⟨y.name.toArray⟩ :: ([.int .i64 bo, .int .i64 bn, .string bv, .slice ba bm bk, .int .i64 bl, .int .i64 bc] ++ [.int .i64 bl9, .int .i64 bc9]) : List Value)[i]? = some v → wr.cell? ⟨b2, p2 + k * 9 + i, none⟩ = some v := fun i v hv => by
        rw [HW.out.cell (p := ⟨b2, p2 + k * 9 + i, none⟩) hb2]; exact hcb i v hv
      have c0 := hcell 0 _ rfl
      have c1' := cell_regrown (hcell 1 _ rfl)
      have c2' := cell_regrown (hcell 2 _ rfl)
      have c3' := cell_regrown (hcell 3 _ rfl)
      have c4' := cell_regrown (hcell 4 _ rfl)
      have c5' := cell_regrown (hcell 5 _ rfl)
      have c6' := cell_regrown (hcell 6 _ rfl)
      have d0 := hdell 0 _ rfl
      have d1' := cell_regrown (hdell 1 _ rfl)
      have d2' := cell_regrown (hdell 2 _ rfl)
      have d3' := cell_regrown (hdell 3 _ rfl)
      have d4' := cell_regrown (hdell 4 _ rfl)
      have d5' := cell_regrown (hdell 5 _ rfl)
      have d6' := cell_regrown (hdell 6 _ rfl)
      rw [Nat.add_zero] at c0 d0
      have c0' := cell_regrown c0
      have d0' := cell_regrown d0
      have HQ : Hid (∀ dq os, Calls Tryz.prog 35 #[.agg #[.int .i64 ao, .int .i64 an, .string av, .slice aa am ak, .int .i64 al, .int .i64 ac], .agg #[.int .i64 bo, .int .i64 bn, .string bv, .slice ba bm bk, .int .i64 bl, .int .i64 bc]] (Go.Sort.grow (redrawn wr dq) os) fun e w' => e = .returned (.bool (same x.to_ y.to_)) ∧ ∃ p : Regrown, w' = Go.Sort.grow (redrawn wr p.d) p.os) := fun dq os =>
        Calls.regrown_of (psame_any x.to_ y.to_ _ _ _ ((hEa.below HW.out).below (below_regrown wr dq os)) ((hEb.below HW.out).below (below_regrown wr dq os)))
      have HSA : Hid (sameA x y = (x.name == y.name && same x.to_ y.to_)) := rfl
      have HX := Lib.hid hx
      have HY := Lib.hid hy
      have hstr := str_beq x.name y.name
      clear hx hk' hy hk2 hca hcb hEa hEb hRa hRb hcell hdell ha6 hb6 c0 d0 hxl hyl
      obtain ⟨sb1, hsb1⟩ : ∃ sb : ByteArray, sb = ⟨x.name.toArray⟩ := ⟨_, rfl⟩
      obtain ⟨sb2, hsb2⟩ : ∃ sb : ByteArray, sb = ⟨y.name.toArray⟩ := ⟨_, rfl⟩
      rw [← hsb1] at c0' hstr
      rw [← hsb2] at d0' hstr
      clear hsb1 hsb2
      generalize (x.name == y.name) = bn2 at *
      generalize same x.to_ y.to_ = r at *
      have e3 : (sb1.toList != sb2.toList) = !bn2 := by rw [bne, hstr]
      rcases bn2 with _ | _
      · have HR : Hid (R = false) := HOK.out.2.1 k x y HX.out HY.out (by rw [HSA.out]; rfl)
        go_upto_region 6 with (fail)
        refine wp_region_quiet_below (by kernel_rfl) (by kernel_rfl) (WQ.out ?_)
        refine quiet_take (by kernel_rfl) (fun K hK => ?_); go_simp; refine hK _ ?_; clear hK K
        refine quiet_take (by kernel_rfl) (fun K hK => ?_); go_simp; refine hK _ ?_; clear hK K
        refine quiet_take (by kernel_rfl) (fun K hK => ?_); go_simp; refine hK _ ?_; clear hK K
        refine quiet_take (by kernel_rfl) (fun K hK => ?_); go_simp; refine hK _ ?_; clear hK K
        refine quiet_take (by kernel_rfl) (fun K hK => ?_); go_simp; refine hK _ ?_; clear hK K
        refine quiet_take (by kernel_rfl) (fun K hK => ?_); go_simp; refine hK _ ?_; clear hK K
        refine quiet_take (by kernel_rfl) (fun K hK => ?_); go_simp; refine hK _ ?_; clear hK K
        refine quiet_take (by kernel_rfl) (fun K hK => ?_); go_simp; refine hK _ ?_; clear hK K
        refine quiet_take (by kernel_rfl) (fun K hK => ?_); go_simp; refine hK _ ?_; clear hK K
        refine quiet_take (by kernel_rfl) (fun K hK => ?_); go_simp; refine hK _ ?_; clear hK K
        refine quiet_take (by kernel_rfl) (fun K hK => ?_); go_simp; refine hK _ ?_; clear hK K
        refine quiet_take (by kernel_rfl) (fun K hK => ?_); go_simp; refine hK _ ?_; clear hK K
        refine quiet_skip (by kernel_rfl) (fun K hK => ?_); go_simp; refine hK _ ?_; clear hK K
        refine quiet_skip (by kernel_rfl) (fun K hK => ?_); go_simp; refine hK _ ?_; clear hK K
        refine quiet_skip (by kernel_rfl) (fun K hK => ?_); go_simp; refine hK _ ?_; clear hK K
        refine quiet_skip (by kernel_rfl) (fun K hK => ?_); go_simp; refine hK _ ?_; clear hK K
        refine quiet_skip (by kernel_rfl) (fun K hK => ?_); go_simp; refine hK _ ?_; clear hK K
        refine quiet_skip (by kernel_rfl) (fun K hK => ?_); go_simp; refine hK _ ?_; clear hK K
        refine quiet_skip (by kernel_rfl) (fun K hK => ?_); go_simp; refine hK _ ?_; clear hK K
        refine quiet_skip (by kernel_rfl) (fun K hK => ?_); go_simp; refine hK _ ?_; clear hK K
        refine quiet_skip (by kernel_rfl) (fun K hK => ?_); go_simp; refine hK _ ?_; clear hK K
        refine quiet_skip (by kernel_rfl) (fun K hK => ?_); go_simp; refine hK _ ?_; clear hK K
        refine quiet_skip (by kernel_rfl) (fun K hK => ?_); go_simp; refine hK _ ?_; clear hK K
        refine quiet_skip (by kernel_rfl) (fun K hK => ?_); go_simp; refine hK _ ?_; clear hK K
        refine quiet_take (by kernel_rfl) (fun K hK => ?_); go_simp; refine hK _ ?_; clear hK K
        refine ⟨wpQuiet_nil ?_⟩
        intro w7 hw'
        have hbw7 : Below wr.heap.size wr w7 := by obtain ⟨⟨dq, osq⟩, hw''⟩ := hw'; rw [hw'']; exact below_regrown wr dq osq
        clear hw'
        go_wp2_with fail
        go_ret
        exact ⟨ret_bool HR.out.symm, HW.out.trans (hbw7.mono HW.out.size)⟩
      · have HTW : Hid True := trivial
        go_upto_region 6 with (fail)
        refine wp_region_quiet_below (by kernel_rfl) (by kernel_rfl) (WQ.out ?_)
        refine quiet_take (by kernel_rfl) (fun K hK => ?_); go_simp; refine hK _ ?_; clear hK K
        refine quiet_take (by kernel_rfl) (fun K hK => ?_); go_simp; refine hK _ ?_; clear hK K
        refine quiet_take (by kernel_rfl) (fun K hK => ?_); go_simp; refine hK _ ?_; clear hK K
        refine quiet_take (by kernel_rfl) (fun K hK => ?_); go_simp; refine hK _ ?_; clear hK K
        refine quiet_take (by kernel_rfl) (fun K hK => ?_); go_simp; refine hK _ ?_; clear hK K
        refine quiet_take (by kernel_rfl) (fun K hK => ?_); go_simp; refine hK _ ?_; clear hK K
        refine quiet_take (by kernel_rfl) (fun K hK => ?_); go_simp; refine hK _ ?_; clear hK K
        refine quiet_take (by kernel_rfl) (fun K hK => ?_); go_simp; refine hK _ ?_; clear hK K
        refine quiet_take (by kernel_rfl) (fun K hK => ?_); go_simp; refine hK _ ?_; clear hK K
        refine quiet_take (by kernel_rfl) (fun K hK => ?_); go_simp; refine hK _ ?_; clear hK K
        refine quiet_take (by kernel_rfl) (fun K hK => ?_); go_simp; refine hK _ ?_; clear hK K
        refine quiet_take (by kernel_rfl) (fun K hK => ?_); go_simp; refine hK _ ?_; clear hK K
        refine quiet_take (by kernel_rfl) (fun K hK => ?_); go_simp; refine hK _ ?_; clear hK K
        refine quiet_take (by kernel_rfl) (fun K hK => ?_); go_simp; refine hK _ ?_; clear hK K
        refine quiet_take (by kernel_rfl) (fun K hK => ?_); go_simp; refine hK _ ?_; clear hK K
        refine quiet_take (by kernel_rfl) (fun K hK => ?_); go_simp; refine hK _ ?_; clear hK K
        refine quiet_take (by kernel_rfl) (fun K hK => ?_); go_simp; refine hK _ ?_; clear hK K
        refine quiet_take (by kernel_rfl) (fun K hK => ?_); go_simp; refine hK _ ?_; clear hK K
        refine quiet_take (by kernel_rfl) (fun K hK => ?_); go_simp; refine hK _ ?_; clear hK K
        refine quiet_take (by kernel_rfl) (fun K hK => ?_); go_simp; refine hK _ ?_; clear hK K
        refine quiet_take (by kernel_rfl) (fun K hK => ?_); go_simp; refine hK _ ?_; clear hK K
        refine quiet_take (by kernel_rfl) (fun K hK => ?_); go_simp; refine hK _ ?_; clear hK K
        refine quiet_take (by kernel_rfl) (fun K hK => ?_); go_simp; apply Exists.intro; refine ⟨fun _ => ?_, hK _ ?_⟩; (go_at_call 35; exact HQ.out _ _); clear hK K
        refine quiet_take (by kernel_rfl) (fun K hK => ?_); go_simp; refine hK _ ?_; clear hK K
        refine quiet_take (by kernel_rfl) (fun K hK => ?_); go_simp; refine hK _ ?_; clear hK K
        refine ⟨wpQuiet_nil ?_⟩
        intro w7 hw'
        have hbw7 : Below wr.heap.size wr w7 := by obtain ⟨⟨dq, osq⟩, hw''⟩ := hw'; rw [hw'']; exact below_regrown wr dq osq
        clear hw'
        rcases r with _ | _
        · have HR : Hid (R = false) := HOK.out.2.1 k x y HX.out HY.out (by rw [HSA.out]; rfl)
          go_wp2_with fail
          go_ret
          exact ⟨ret_bool HR.out.symm, HW.out.trans (hbw7.mono HW.out.size)⟩
        · have HAX : Hid (∀ j x2 y2, j < k + 1 → xs[j]? = some x2 → ys[j]? = some y2 → sameA x2 y2 = true) := fun j x2 y2 hj h1 h2 => by
            by_cases e : j = k
            · subst e
              have e1 := HX.out.symm.trans h1
              have e2 := HY.out.symm.trans h2
              injection e1 with e1; injection e2 with e2
              rw [← e1, ← e2, HSA.out]; rfl
            · exact HA.out j x2 y2 (by omega) h1 h2
          go_wp2_with fail
          go_roundw
          case rel => exact ⟨k + 1, by omega, by go_num, HW.out.trans (hbw7.mono HW.out.size), HAX⟩
          case measure => simp [intOf]; omega
    · have t1 : decide ((k : Int) < (m : Int)) = false := decide_eq_false (by omega)
      have t2 : decide (k < m) = false := decide_eq_false hlt
      have HR : Hid (R = true) := HOK.out.2.2 HML.out fun j x y h1 h2 => HA.out j x y (by have := HJ.out j x h1; omega) h1 h2
      clear HA
      go_wp2_with fail
      go_ret
      exact ⟨ret_bool HR.out.symm, HW.out⟩

set_option maxHeartbeats 6400000 in
set_option maxRecDepth 100000 in
theorem psameSource_any (a b : Src) {Ae Av Ap Be Bv Bp : Option Addr} {ce cv cp de dv dp : Nat} (w : World) (ha : SrcC w a Ae ce Av cv Ap cp) (hb : SrcC w b Be de Bv dv Bp dp) :
    Calls Tryz.prog 9 #[.agg (cS Ae a.enums.length ce Av a.vars.length cv Ap a.procs.length cp).toArray, .agg (cS Be b.enums.length de Bv b.vars.length dv Bp b.procs.length dp).toArray] w fun e w' => e = .returned (.bool (sameS a b)) ∧ Below w.heap.size w w' := by
  have hba := two_alloc w (.cells (cS Ae a.enums.length ce Av a.vars.length cv Ap a.procs.length cp).toArray 26) (.cells (cS Be b.enums.length de Bv b.vars.length dv Bp b.procs.length dp).toArray 26)
  obtain ⟨wa, hwa⟩ : ∃ wa, wa = (w.alloc (.cells (cS Ae a.enums.length ce Av a.vars.length cv Ap a.procs.length cp).toArray 26)).alloc (.cells (cS Be b.enums.length de Bv b.vars.length dv Bp b.procs.length dp).toArray 26) := ⟨_, rfl⟩
  rw [← hwa] at hba
  have hza : wa.heap.size = w.heap.size + 2 := by rw [hwa, alloc_size, alloc_size]
  have hg1 : wa.heap[w.heap.size]? = some (.cells (cS Ae a.enums.length ce Av a.vars.length cv Ap a.procs.length cp).toArray 26) := by
    rw [hwa, Lib.alloc_old _ _ _ (by simp)]; exact blk_new w _
  have hg2 : wa.heap[w.heap.size + 1]? = some (.cells (cS Be b.enums.length de Bv b.vars.length dv Bp b.procs.length dp).toArray 26) := by
    rw [hwa]
    have := blk_new (w.alloc (.cells (cS Ae a.enums.length ce Av a.vars.length cv Ap a.procs.length cp).toArray 26)) (.cells (cS Be b.enums.length de Bv b.vars.length dv Bp b.procs.length dp).toArray 26)
    rwa [alloc_size] at this
  have HC : Hid (∀ W, Below wa.heap.size wa W → W.heap[w.heap.size]? = some (.cells (cS Ae a.enums.length ce Av a.vars.length cv Ap a.procs.length cp).toArray 26) ∧ W.heap[w.heap.size + 1]? = some (.cells (cS Be b.enums.length de Bv b.vars.length dv Bp b.procs.length dp).toArray 26)) := fun W hW =>
    ⟨(hW.block _ (by omega)).trans hg1, (hW.block _ (by omega)).trans hg2⟩
  obtain ⟨hme, hce, hae, hmv, hcv, hav, hmp, hcp, hap⟩ := ha.below hba
  obtain ⟨hne, hde, hbe, hnv, hdv, hbv, hnp, hdp, hbp⟩ := hb.below hba
  obtain ⟨es, vs, ps⟩ := a
  obtain ⟨fs, us, qs⟩ := b
  have hE : sameS ⟨es, vs, ps⟩ ⟨fs, us, qs⟩ = (eqL sameE es fs && (eqL sameD vs us && eqL sameP ps qs)) := rfl
  rw [hE]
  dsimp only at hme hmv hmp hne hnv hnp hae hav hap hbe hbv hbp hg1 hg2 HC hwa ⊢
  obtain ⟨R1, hR1⟩ : ∃ r, r = eqL sameE es fs := ⟨_, rfl⟩
  obtain ⟨R2, hR2⟩ : ∃ r, r = eqL sameD vs us := ⟨_, rfl⟩
  obtain ⟨R3, hR3⟩ : ∃ r, r = eqL sameP ps qs := ⟨_, rfl⟩
  rw [← hR1, ← hR2, ← hR3]
  have HXne := Lib.hid hae
  have HYne := Lib.hid hbe
  have HXnv := Lib.hid hav
  have HYnv := Lib.hid hbv
  have HXnp := Lib.hid hap
  have HYnp := Lib.hid hbp
  have HR1 := Lib.hid hR1
  have HR2 := Lib.hid hR2
  have HR3 := Lib.hid hR3
  have HL1 : Hid (es.length ≠ fs.length → R1 = false) := fun h => by rw [hR1]; exact (eqL_ok sameE es fs).1 h
  have HL2 : Hid (vs.length ≠ us.length → R2 = false) := fun h => by rw [hR2]; exact (eqL_ok sameD vs us).1 h
  have HL3 : Hid (ps.length ≠ qs.length → R3 = false) := fun h => by rw [hR3]; exact (eqL_ok sameP ps qs).1 h
  have HGne : Hid (∀ k, k < es.length → ∃ x, es[k]? = some x) := fun k hk => get_el hk
  have HGnv : Hid (∀ k, k < vs.length → ∃ x, vs[k]? = some x) := fun k hk => get_el hk
  have HGnp : Hid (∀ k, k < ps.length → ∃ x, ps[k]? = some x) := fun k hk => get_el hk
  have HHne : Hid (∀ k, k < fs.length → ∃ x, fs[k]? = some x) := fun k hk => get_el hk
  have HHnv : Hid (∀ k, k < us.length → ∃ x, us[k]? = some x) := fun k hk => get_el hk
  have HHnp : Hid (∀ k, k < qs.length → ∃ x, qs[k]? = some x) := fun k hk => get_el hk
  obtain ⟨ne, hne_⟩ : ∃ n, n = es.length := ⟨_, rfl⟩
  obtain ⟨nv, hnv_⟩ : ∃ n, n = vs.length := ⟨_, rfl⟩
  obtain ⟨np, hnp_⟩ : ∃ n, n = ps.length := ⟨_, rfl⟩
  obtain ⟨me, hme_⟩ : ∃ n, n = fs.length := ⟨_, rfl⟩
  obtain ⟨mv, hmv_⟩ : ∃ n, n = us.length := ⟨_, rfl⟩
  obtain ⟨mp, hmp_⟩ : ∃ n, n = qs.length := ⟨_, rfl⟩
  have HMne := Lib.hid hne_
  have HMnv := Lib.hid hnv_
  have HMnp := Lib.hid hnp_
  rw [← hne_] at hme HC HGne HL1 hwa hg1
  rw [← hnv_] at hmv HC HGnv HL2 hwa hg1
  rw [← hnp_] at hmp HC HGnp HL3 hwa hg1
  have HM1 := Lib.hid hme_
  have HM2 := Lib.hid hmv_
  have HM3 := Lib.hid hmp_
  rw [← hme_] at hne HC HHne HL1 hwa hg2
  rw [← hmv_] at hnv HC HHnv HL2 hwa hg2
  rw [← hmp_] at hnp HC HHnp HL3 hwa hg2
  rw [← hne_, ← hnv_, ← hnp_, ← hme_, ← hmv_, ← hmp_]
  obtain ⟨c0, c1, c2⟩ := cells3s hg1
  obtain ⟨d0, d1, d2⟩ := cells3s hg2
  have HBA := Lib.hid hba
  have HWA := Lib.hid hwa
  have HB0 : Hid (Below wa.heap.size wa wa) := Below.refl _ _
  clear hE hR1 hR2 hR3 hne_ hnv_ hnp_ hme_ hmv_ hmp_ hba hwa hza hg1 hg2 ha hb hae hav hap hbe hbv hbp
  go_enter Tryz.func9, Tryz.ntmps9
  go_upto_region 1 with (fail)
  have hwa := HWA.out
  unfold cS at hwa
  rw [← hwa]
  clear hwa HWA
  by_cases h1 : ne = me
  case neg =>
    have e1 : ((ne : Int) != (me : Int)) = true := by rw [bne_iff_ne]; omega
    have e1' : (ne != me) = true := by rw [bne_iff_ne]; exact h1
    have HF := Lib.hid (HL1.out h1)
    go_wp2_with fail
    go_ret
    exact ⟨ret_bool (by rw [HF.out]; simp), HBA.out⟩
  have e1 : ((ne : Int) != (me : Int)) = false := by rw [bne_eq_false_iff_eq]; omega
  have e1' : (ne != me) = false := by rw [bne_eq_false_iff_eq]; exact h1
  by_cases h2 : nv = mv
  case neg =>
    have e2 : ((nv : Int) != (mv : Int)) = true := by rw [bne_iff_ne]; omega
    have e2' : (nv != mv) = true := by rw [bne_iff_ne]; exact h2
    have HF := Lib.hid (HL2.out h2)
    go_wp2_with fail
    go_ret
    exact ⟨ret_bool (by rw [HF.out]; simp), HBA.out⟩
  have e2 : ((nv : Int) != (mv : Int)) = false := by rw [bne_eq_false_iff_eq]; omega
  have e2' : (nv != mv) = false := by rw [bne_eq_false_iff_eq]; exact h2
  by_cases h3 : np = mp
  case neg =>
    have e8 : ((np : Int) != (mp : Int)) = true := by rw [bne_iff_ne]; omega
    have e8' : (np != mp) = true := by rw [bne_iff_ne]; exact h3
    have HF := Lib.hid (HL3.out h3)
    go_wp2_with fail
    go_ret
    exact ⟨ret_bool (by rw [HF.out]; simp), HBA.out⟩
  have e8 : ((np : Int) != (mp : Int)) = false := by rw [bne_eq_false_iff_eq]; omega
  have e8' : (np != mp) = false := by rw [bne_eq_false_iff_eq]; exact h3
  have HNne : Hid (ne = fs.length) := by unfold Hid; rw [h1]; exact HM1.out
  have HNnv : Hid (nv = us.length) := by unfold Hid; rw [h2]; exact HM2.out
  have HNnp : Hid (np = qs.length) := by unfold Hid; rw [h3]; exact HM3.out
  have HV1 := Lib.hid h1
  have HV2 := Lib.hid h2
  have HV3 := Lib.hid h3
  have HHne : Hid (∀ k, k < ne → ∃ x, fs[k]? = some x) := fun k hk => HHne.out k (by omega)
  have HHnv : Hid (∀ k, k < nv → ∃ x, us[k]? = some x) := fun k hk => HHnv.out k (by omega)
  have HHnp : Hid (∀ k, k < np → ∃ x, qs[k]? = some x) := fun k hk => HHnp.out k (by omega)
  have HQ1 : Hid (ne ≤ de) := by unfold Hid; omega
  have HQ2 : Hid (nv ≤ dv) := by unfold Hid; omega
  have HQ3 : Hid (np ≤ dp) := by unfold Hid; omega
  clear h1 h2 h3 HL1 HL2 HL3 HM1 HM2 HM3
  go_upto_block 0 with (fail)
  go_cut [] (fun wx => Hid (Below wa.heap.size wa wx) ∧ Hid (eqL sameE es fs = true))
  case first =>
    go_wp2_with fail
    go_loopw [45] (fun i wo => ∃ k : Nat, k ≤ ne ∧ i = .int .i64 k ∧ Hid (Below wa.heap.size wa wo) ∧ Hid (∀ j x y, j < k → es[j]? = some x → fs[j]? = some y → sameE x y = true)) (fun i _ => ne - (intOf i).toNat)
    case atStart => exact ⟨0, Nat.zero_le _, rfl, HB0.out, fun j x y hj => absurd hj (by omega)⟩
    case round =>
      clear c0 c1 c2 d0 d1 d2
      obtain ⟨k, hk, rfl, HW, HA⟩ := hrel
      generalize wr = wo at *
      by_cases hlt : k < ne
      · have z1 : decide ((k : Int) < (ne : Int)) = true := decide_eq_true (by omega)
        have z2 : decide (k < ne) = true := decide_eq_true hlt
        have z0 : k < me := by have := HV1.out; omega
        obtain ⟨x, hx⟩ := HGne.out k hlt
        obtain ⟨y, hy⟩ := HHne.out k hlt
        rcases HXne.out with hK | ⟨b', p', rfl, hb', hk'⟩
        · exfalso; rw [hK] at hx; simp at hx
        rcases HYne.out with hK | ⟨b2, p2, rfl, hb2, hk2⟩
        · exfalso; rw [hK] at hy; simp at hy
        obtain ⟨cs, _, hc, hAs⟩ := hk' k x hx
        obtain ⟨ds, _, hd, hBs⟩ := hk2 k y hy
        have HX0 := Lib.hid hx
        have HY0 := Lib.hid hy
        clear hx hy hk' hk2
        obtain ⟨v, xl, xk, rfl, hxn, xA, xc, rfl, hxm, hxc, hxA⟩ := hAs
        obtain ⟨v2, yl, yk, rfl, hyn, yA, yc, rfl, hym, hyc, hyA⟩ := hBs
        obtain ⟨xm, hxme⟩ : ∃ n, n = x.values.length := ⟨_, rfl⟩
        obtain ⟨ym, hyme⟩ : ∃ n, n = y.values.length := ⟨_, rfl⟩
        have HXM := Lib.hid hxme
        have HYM := Lib.hid hyme
        rw [← hxme] at hc hxm
        rw [← hyme] at hd hym
        clear hxme hyme
        have c0 := hc 0 _ rfl
        rw [← HW.out.cell (p := ⟨b', p' + k * 4 + 0, none⟩) hb'] at c0
        have c1 := hc 1 _ rfl
        rw [← HW.out.cell (p := ⟨b', p' + k * 4 + 1, none⟩) hb'] at c1
        have c2 := hc 2 _ rfl
        rw [← HW.out.cell (p := ⟨b', p' + k * 4 + 2, none⟩) hb'] at c2
        have c3 := hc 3 _ rfl
        rw [← HW.out.cell (p := ⟨b', p' + k * 4 + 3, none⟩) hb'] at c3
        rw [Nat.add_zero] at c0
        obtain ⟨wx, hwx⟩ : ∃ wx, wx = wo.alloc (.cells #[.string ⟨x.name.toArray⟩, .slice xA xm xc, .int .i64 xl, .int .i64 xk] 48) := ⟨_, rfl⟩
        have hal : Below wo.heap.size wo wx := by rw [hwx]; exact below_alloc wo _
        have hgx : wx.heap[wo.heap.size]? = some (.cells #[.string ⟨x.name.toArray⟩, .slice xA xm xc, .int .i64 xl, .int .i64 xk] 48) := by rw [hwx]; exact blk_new wo _
        have hltx : wo.heap.size < wx.heap.size := by rw [hwx]; simp
        have d0 := hd 0 _ rfl
        rw [← (HW.out.trans (hal.mono HW.out.size)).cell (p := ⟨b2, p2 + k * 4 + 0, none⟩) hb2] at d0
        have d1 := hd 1 _ rfl
        rw [← (HW.out.trans (hal.mono HW.out.size)).cell (p := ⟨b2, p2 + k * 4 + 1, none⟩) hb2] at d1
        have d2 := hd 2 _ rfl
        rw [← (HW.out.trans (hal.mono HW.out.size)).cell (p := ⟨b2, p2 + k * 4 + 2, none⟩) hb2] at d2
        have d3 := hd 3 _ rfl
        rw [← (HW.out.trans (hal.mono HW.out.size)).cell (p := ⟨b2, p2 + k * 4 + 3, none⟩) hb2] at d3
        rw [Nat.add_zero] at d0
        obtain ⟨wy, hwy⟩ : ∃ wy, wy = wx.alloc (.cells #[.string ⟨y.name.toArray⟩, .slice yA ym yc, .int .i64 yl, .int .i64 yk] 48) := ⟨_, rfl⟩
        have haly : Below wx.heap.size wx wy := by rw [hwy]; exact below_alloc wx _
        have hgy : wy.heap[wx.heap.size]? = some (.cells #[.string ⟨y.name.toArray⟩, .slice yA ym yc, .int .i64 yl, .int .i64 yk] 48) := by rw [hwy]; exact blk_new wx _
        have hlty : wx.heap.size < wy.heap.size := by rw [hwy]; simp
        have HBX : Hid (Below wa.heap.size wa wx) := HW.out.trans (hal.mono HW.out.size)
        have HBY : Hid (Below wa.heap.size wa wy) := HBX.out.trans (haly.mono HBX.out.size)
        have HCX : Hid (∀ W, Below wy.heap.size wy W → W.heap[wo.heap.size]? = some (.cells #[.string ⟨x.name.toArray⟩, .slice xA xm xc, .int .i64 xl, .int .i64 xk] 48) ∧ W.heap[wx.heap.size]? = some (.cells #[.string ⟨y.name.toArray⟩, .slice yA ym yc, .int .i64 yl, .int .i64 yk] 48)) := fun W hW => ⟨(hW.block _ (by omega)).trans ((haly.block _ hltx).trans hgx), (hW.block _ hlty).trans hgy⟩
        have HWXE := Lib.hid hwx
        have HWYE := Lib.hid hwy
        have HXA := Lib.hid hxA
        have HYA := Lib.hid hyA
        have HSE : Hid (sameE x y = (x.name == y.name && eqL (fun a b : List UInt8 => a == b) x.values y.values)) := rfl
        have HNO : Hid (sameE x y = false → R1 = false) := fun hf => by
          rw [HR1.out, Bool.eq_false_iff]; intro e
          have := (eqL_iff sameE es fs (by have := HMne.out; have := HNne.out; omega)).1 e k x y HX0.out HY0.out
          rw [hf] at this; cases this
        have HRX : Hid (sameE x y = true → ∀ j x2 y2, j < k + 1 → es[j]? = some x2 → fs[j]? = some y2 → sameE x2 y2 = true) := fun hs j x2 y2 hj h1 h2 => by
          by_cases e : j = k
          · subst e
            have e1 := HX0.out.symm.trans h1
            have e2 := HY0.out.symm.trans h2
            injection e1 with e1; injection e2 with e2
            rw [← e1, ← e2]; exact hs
          · exact HA.out j x2 y2 (by omega) h1 h2
        have hstr := str_beq x.name y.name
        have HSA := Lib.hid (eqL_ok (fun a b : List UInt8 => a == b) x.values y.values)
        obtain ⟨xl_, hxl_⟩ : ∃ l, l = x.values := ⟨_, rfl⟩
        obtain ⟨yl_, hyl_⟩ : ∃ l, l = y.values := ⟨_, rfl⟩
        rw [← hxl_] at HXM HXA HSE HSA
        rw [← hyl_] at HYM HYA HSE HSA
        clear hc hd hxA hyA hal haly hgx hgy hltx hlty hwx hwy hxl_ hyl_ HX0 HY0 HA hxn hyn
        generalize sameE x y = sxy at *
        generalize (x.name == y.name) = bn at *
        generalize (⟨x.name.toArray⟩ : ByteArray) = nb1 at *
        generalize (⟨y.name.toArray⟩ : ByteArray) = nb2 at *
        have e3 : (nb1.toList != nb2.toList) = !bn := by rw [bne, hstr]
        go_upto_region 6 with (fail)
        have hwx := HWXE.out
        rw [← hwx]
        clear hwx HWXE c0 c1 c2 c3
        obtain ⟨g0, g1, g2⟩ := cells3s (HC.out wx HBX.out).2
        go_upto_region 7 with (fail)
        have hwy := HWYE.out
        rw [← hwy]
        clear hwy HWYE g0 g1 g2 d0 d1 d2 d3
        obtain ⟨s0, s1, s2, s3⟩ := cells4 (HCX.out wy (Below.refl _ _)).1
        obtain ⟨t0, t1, t2, t3⟩ := cells4 (HCX.out wy (Below.refl _ _)).2
        rcases bn with _ | _
        · have HF := Lib.hid (HNO.out (by rw [HSE.out]; rfl))
          go_wp2_with fail
          go_ret
          exact ⟨ret_bool (by rw [HF.out]; simp), HBA.out.trans (HBY.out.mono HBA.out.size)⟩
        by_cases hml : xm = ym
        case neg =>
          have y4 : ((xm : Int) != (ym : Int)) = true := by rw [bne_iff_ne]; omega
          have y5 : (xm != ym) = true := by rw [bne_iff_ne]; exact hml
          have HF := Lib.hid (HNO.out (by rw [HSE.out, HSA.out.1 (by have := HXM.out; have := HYM.out; omega)]; rfl))
          go_wp2_with fail
          go_ret
          exact ⟨ret_bool (by rw [HF.out]; simp), HBA.out.trans (HBY.out.mono HBA.out.size)⟩
        have y4 : ((xm : Int) != (ym : Int)) = false := by rw [bne_eq_false_iff_eq]; omega
        have y5 : (xm != ym) = false := by rw [bne_eq_false_iff_eq]; exact hml
        have HML := Lib.hid hml
        clear hml
        go_wp2_with fail
        go_loopw [72] (fun i wr => ∃ k2 : Nat, k2 ≤ xm ∧ i = .int .i64 k2 ∧ Hid (Below wy.heap.size wy wr) ∧ Hid (∀ (j : Nat) (a b : List UInt8), j < k2 → xl_[j]? = some a → yl_[j]? = some b → (fun a b : List UInt8 => a == b) a b = true)) (fun i _ => xm - (intOf i).toNat)
        case atStart => exact ⟨0, Nat.zero_le _, rfl, Below.refl _ _, fun j a b hj => absurd hj (by omega)⟩
        case round =>
          clear s0 s1 s2 s3 t0 t1 t2 t3
          obtain ⟨k2, hk2, rfl, HW2, HA2⟩ := hrel
          by_cases hlt2 : k2 < xm
          · have v1 : decide ((k2 : Int) < (xm : Int)) = true := decide_eq_true (by omega)
            have v2 : decide (k2 < xm) = true := decide_eq_true hlt2
            have v3 : k2 < ym := by have := HML.out; omega
            obtain ⟨a, ha⟩ : ∃ a, xl_[k2]? = some a := get_el (by have := HXM.out; omega)
            obtain ⟨b, hb⟩ : ∃ b, yl_[k2]? = some b := get_el (by have := HYM.out; omega)
            rcases HXA.out with hK | ⟨b3, p3, rfl, hb3, hk3⟩
            · exfalso; rw [hK] at ha; simp at ha
            rcases HYA.out with hK | ⟨b4, p4, rfl, hb4, hk4⟩
            · exfalso; rw [hK] at hb; simp at hb
            obtain ⟨av_, _, hca, hRa⟩ := hk3 k2 a ha
            obtain ⟨bv_, _, hcb, hRb⟩ := hk4 k2 b hb
            have HA0 := Lib.hid ha
            have HB0 := Lib.hid hb
            clear ha hb hk3 hk4
            have hWa : Below wa.heap.size wa wr := HBY.out.trans (HW2.out.mono HBY.out.size)
            obtain ⟨s0, s1, s2, s3⟩ := cells4 (HCX.out wr HW2.out).1
            obtain ⟨t0, t1, t2, t3⟩ := cells4 (HCX.out wr HW2.out).2
            have s1' := cell_regrown s1
            have t1' := cell_regrown t1
            obtain ⟨rfl, hal_⟩ := hRa
            obtain ⟨rfl, hbl_⟩ := hRb
            have c0 := hca 0 _ rfl
            rw [← hWa.cell (p := ⟨b3, p3 + k2 * 1 + 0, none⟩) hb3] at c0
            have d0 := hcb 0 _ rfl
            rw [← hWa.cell (p := ⟨b4, p4 + k2 * 1 + 0, none⟩) hb4] at d0
            rw [Nat.mul_one, Nat.add_zero] at c0 d0
            have c0' := cell_regrown c0
            have d0' := cell_regrown d0
            have hsab := str_beq a b
            obtain ⟨r, hr⟩ : ∃ r, r = (a == b) := ⟨_, rfl⟩
            have HR := Lib.hid hr
            rw [← hr] at hsab
            clear hr hca hcb hal_ hbl_ c0 d0 s0 s1 s2 s3 t0 t1 t2 t3
            generalize (⟨a.toArray⟩ : ByteArray) = ab at *
            generalize (⟨b.toArray⟩ : ByteArray) = bb at *
            have e7 : (ab.toList != bb.toList) = !r := by rw [bne, hsab]
            go_upto_region 12 with (fail)
            refine wp_region_quiet_below (by kernel_rfl) (by kernel_rfl) (WQ.out ?_)
            refine quiet_take (by kernel_rfl) (fun K hK => ?_); go_simp; refine hK _ ?_; clear hK K
            refine quiet_take (by kernel_rfl) (fun K hK => ?_); go_simp; refine hK _ ?_; clear hK K
            refine quiet_take (by kernel_rfl) (fun K hK => ?_); go_simp; refine hK _ ?_; clear hK K
            refine quiet_take (by kernel_rfl) (fun K hK => ?_); go_simp; refine hK _ ?_; clear hK K
            refine quiet_take (by kernel_rfl) (fun K hK => ?_); go_simp; refine hK _ ?_; clear hK K
            refine quiet_take (by kernel_rfl) (fun K hK => ?_); go_simp; refine hK _ ?_; clear hK K
            refine quiet_take (by kernel_rfl) (fun K hK => ?_); go_simp; refine hK _ ?_; clear hK K
            refine quiet_take (by kernel_rfl) (fun K hK => ?_); go_simp; refine hK _ ?_; clear hK K
            refine quiet_take (by kernel_rfl) (fun K hK => ?_); go_simp; refine hK _ ?_; clear hK K
            refine quiet_take (by kernel_rfl) (fun K hK => ?_); go_simp; refine hK _ ?_; clear hK K
            refine quiet_take (by kernel_rfl) (fun K hK => ?_); go_simp; refine hK _ ?_; clear hK K
            refine ⟨wpQuiet_nil ?_⟩
            intro w7 hw'
            have hbw7 : Below wr.heap.size wr w7 := by obtain ⟨⟨dq, osq⟩, hw''⟩ := hw'; rw [hw'']; exact below_regrown wr dq osq
            clear hw'
            rcases r with _ | _
            · have HF : Hid (R1 = false) := HNO.out (by rw [HSE.out, HSA.out.2.1 k2 a b HA0.out HB0.out (by exact HR.out.symm)]; rfl)
              go_wp2_with fail
              go_ret
              exact ⟨ret_bool (by rw [HF.out]; simp), HBA.out.trans ((HBY.out.trans ((HW2.out.trans (hbw7.mono HW2.out.size)).mono HBY.out.size)).mono HBA.out.size)⟩
            · have HAX : Hid (∀ (j : Nat) (a2 b2 : List UInt8), j < k2 + 1 → xl_[j]? = some a2 → yl_[j]? = some b2 → (fun a b : List UInt8 => a == b) a2 b2 = true) := fun j a2 b2 hj h1 h2 => by
                by_cases e : j = k2
                · subst e
                  have e1 := HA0.out.symm.trans h1
                  have e2 := HB0.out.symm.trans h2
                  injection e1 with e1; injection e2 with e2
                  rw [← e1, ← e2]; exact HR.out.symm
                · exact HA2.out j a2 b2 (by omega) h1 h2
              clear HA2 HA0 HB0
              go_wp2_with fail
              go_roundw
              case rel => exact ⟨k2 + 1, by omega, by go_num, HW2.out.trans (hbw7.mono HW2.out.size), HAX⟩
              case measure => simp [intOf]; omega
          · have v1 : decide ((k2 : Int) < (xm : Int)) = false := decide_eq_false (by omega)
            have v2 : decide (k2 < xm) = false := decide_eq_false hlt2
            have HSX : Hid (sxy = true) := by
              unfold Hid; rw [HSE.out, HSA.out.2.2 (by have := HXM.out; have := HYM.out; have := HML.out; omega) fun j a b h1 h2 => HA2.out j a b (by
                have := HXM.out
                rcases Nat.lt_or_ge j xl_.length with h' | h'
                · omega
                · rw [List.getElem?_eq_none h'] at h1; cases h1) h1 h2]; rfl
            clear HA2
            have HRX2 := Lib.hid (HRX.out HSX.out)
            have HB9 : Hid (Below wa.heap.size wa wr) := HBY.out.trans (HW2.out.mono HBY.out.size)
            clear HRX HNO HSX
            go_wp2_with fail
            go_roundw
            case rel => exact ⟨k + 1, by omega, by go_num, HB9.out, HRX2⟩
            case measure => simp [intOf]; omega
      · have z1 : decide ((k : Int) < (ne : Int)) = false := decide_eq_false (by omega)
        have z2 : decide (k < ne) = false := decide_eq_false hlt
        have HALL : Hid (eqL sameE es fs = true) := (eqL_iff sameE es fs (by have := HMne.out; have := HNne.out; omega)).2 fun j x y h1 h2 => HA.out j x y (by
          have := HMne.out
          rcases Nat.lt_or_ge j es.length with h' | h'
          · omega
          · rw [List.getElem?_eq_none h'] at h1; cases h1) h1 h2
        clear HA
        go_wp2_with fail
        go_meet
        exact ⟨HW.out, HALL⟩
  case rest =>
    obtain ⟨HBE, HALE⟩ := hcut
    have HRE : Hid (R1 = true) := HR1.out.trans HALE.out
    clear c0 c1 c2 d0 d1 d2
    obtain ⟨c0, c1, c2⟩ := cells3s (HC.out _ HBE.out).1
    obtain ⟨d0, d1, d2⟩ := cells3s (HC.out _ HBE.out).2
    go_upto_block 4 with (fail)
    go_cut [] (fun wx => Hid (Below wa.heap.size wa wx) ∧ Hid (eqL sameD vs us = true))
    case first =>
      go_wp2_with fail
      go_loopw [91] (fun i wo => ∃ k : Nat, k ≤ nv ∧ i = .int .i64 k ∧ Hid (Below wa.heap.size wa wo) ∧ Hid (∀ j x y, j < k → vs[j]? = some x → us[j]? = some y → sameD x y = true)) (fun i _ => nv - (intOf i).toNat)
      case atStart => exact ⟨0, Nat.zero_le _, rfl, HBE.out, fun j x y hj => absurd hj (by omega)⟩
      case round =>
        clear c0 c1 c2 d0 d1 d2
        obtain ⟨k, hk, rfl, HW, HA⟩ := hrel
        generalize wr = wo at *
        by_cases hlt : k < nv
        · have z1 : decide ((k : Int) < (nv : Int)) = true := decide_eq_true (by omega)
          have z2 : decide (k < nv) = true := decide_eq_true hlt
          have z0 : k < mv := by have := HV2.out; omega
          obtain ⟨x, hx⟩ := HGnv.out k hlt
          obtain ⟨y, hy⟩ := HHnv.out k hlt
          rcases HXnv.out with hK | ⟨b', p', rfl, hb', hk'⟩
          · exfalso; rw [hK] at hx; simp at hx
          rcases HYnv.out with hK | ⟨b2, p2, rfl, hb2, hk2⟩
          · exfalso; rw [hK] at hy; simp at hy
          obtain ⟨cs, _, hc, hAs⟩ := hk' k x hx
          obtain ⟨ds, _, hd, hBs⟩ := hk2 k y hy
          have HX0 := Lib.hid hx
          have HY0 := Lib.hid hy
          clear hx hy hk' hk2
          obtain ⟨v, xl, xk, rfl, hxn, hxt, _, _, xA, xc, rfl, hxm, hxc, hxA⟩ := hAs
          obtain ⟨v2, yl, yk, rfl, hyn, hyt, _, _, yA, yc, rfl, hym, hyc, hyA⟩ := hBs
          obtain ⟨xm, hxme⟩ : ∃ n, n = x.begins.length := ⟨_, rfl⟩
          obtain ⟨ym, hyme⟩ : ∃ n, n = y.begins.length := ⟨_, rfl⟩
          have HXM := Lib.hid hxme
          have HYM := Lib.hid hyme
          rw [← hxme] at hc hxm
          rw [← hyme] at hd hym
          clear hxme hyme
          have c0 := hc 0 _ rfl
          rw [← HW.out.cell (p := ⟨b', p' + k * 7 + 0, none⟩) hb'] at c0
          have c1 := hc 1 _ rfl
          rw [← HW.out.cell (p := ⟨b', p' + k * 7 + 1, none⟩) hb'] at c1
          have c2 := hc 2 _ rfl
          rw [← HW.out.cell (p := ⟨b', p' + k * 7 + 2, none⟩) hb'] at c2
          have c3 := hc 3 _ rfl
          rw [← HW.out.cell (p := ⟨b', p' + k * 7 + 3, none⟩) hb'] at c3
          have c4 := hc 4 _ rfl
          rw [← HW.out.cell (p := ⟨b', p' + k * 7 + 4, none⟩) hb'] at c4
          have c5 := hc 5 _ rfl
          rw [← HW.out.cell (p := ⟨b', p' + k * 7 + 5, none⟩) hb'] at c5
          have c6 := hc 6 _ rfl
          rw [← HW.out.cell (p := ⟨b', p' + k * 7 + 6, none⟩) hb'] at c6
          rw [Nat.add_zero] at c0
          obtain ⟨wx, hwx⟩ : ∃ wx, wx = wo.alloc (.cells #[.string ⟨x.name.toArray⟩, .string ⟨x.type.toArray⟩, .int .i64 x.low, .int .i64 x.high, .slice xA xm xc, .int .i64 xl, .int .i64 xk] 52) := ⟨_, rfl⟩
          have hal : Below wo.heap.size wo wx := by rw [hwx]; exact below_alloc wo _
          have hgx : wx.heap[wo.heap.size]? = some (.cells #[.string ⟨x.name.toArray⟩, .string ⟨x.type.toArray⟩, .int .i64 x.low, .int .i64 x.high, .slice xA xm xc, .int .i64 xl, .int .i64 xk] 52) := by rw [hwx]; exact blk_new wo _
          have hltx : wo.heap.size < wx.heap.size := by rw [hwx]; simp
          have d0 := hd 0 _ rfl
          rw [← (HW.out.trans (hal.mono HW.out.size)).cell (p := ⟨b2, p2 + k * 7 + 0, none⟩) hb2] at d0
          have d1 := hd 1 _ rfl
          rw [← (HW.out.trans (hal.mono HW.out.size)).cell (p := ⟨b2, p2 + k * 7 + 1, none⟩) hb2] at d1
          have d2 := hd 2 _ rfl
          rw [← (HW.out.trans (hal.mono HW.out.size)).cell (p := ⟨b2, p2 + k * 7 + 2, none⟩) hb2] at d2
          have d3 := hd 3 _ rfl
          rw [← (HW.out.trans (hal.mono HW.out.size)).cell (p := ⟨b2, p2 + k * 7 + 3, none⟩) hb2] at d3
          have d4 := hd 4 _ rfl
          rw [← (HW.out.trans (hal.mono HW.out.size)).cell (p := ⟨b2, p2 + k * 7 + 4, none⟩) hb2] at d4
          have d5 := hd 5 _ rfl
          rw [← (HW.out.trans (hal.mono HW.out.size)).cell (p := ⟨b2, p2 + k * 7 + 5, none⟩) hb2] at d5
          have d6 := hd 6 _ rfl
          rw [← (HW.out.trans (hal.mono HW.out.size)).cell (p := ⟨b2, p2 + k * 7 + 6, none⟩) hb2] at d6
          rw [Nat.add_zero] at d0
          obtain ⟨wy, hwy⟩ : ∃ wy, wy = wx.alloc (.cells #[.string ⟨y.name.toArray⟩, .string ⟨y.type.toArray⟩, .int .i64 y.low, .int .i64 y.high, .slice yA ym yc, .int .i64 yl, .int .i64 yk] 52) := ⟨_, rfl⟩
          have haly : Below wx.heap.size wx wy := by rw [hwy]; exact below_alloc wx _
          have hgy : wy.heap[wx.heap.size]? = some (.cells #[.string ⟨y.name.toArray⟩, .string ⟨y.type.toArray⟩, .int .i64 y.low, .int .i64 y.high, .slice yA ym yc, .int .i64 yl, .int .i64 yk] 52) := by rw [hwy]; exact blk_new wx _
          have hlty : wx.heap.size < wy.heap.size := by rw [hwy]; simp
          have HBX : Hid (Below wa.heap.size wa wx) := HW.out.trans (hal.mono HW.out.size)
          have HBY : Hid (Below wa.heap.size wa wy) := HBX.out.trans (haly.mono HBX.out.size)
          have HCX : Hid (∀ W, Below wy.heap.size wy W → W.heap[wo.heap.size]? = some (.cells #[.string ⟨x.name.toArray⟩, .string ⟨x.type.toArray⟩, .int .i64 x.low, .int .i64 x.high, .slice xA xm xc, .int .i64 xl, .int .i64 xk] 52) ∧ W.heap[wx.heap.size]? = some (.cells #[.string ⟨y.name.toArray⟩, .string ⟨y.type.toArray⟩, .int .i64 y.low, .int .i64 y.high, .slice yA ym yc, .int .i64 yl, .int .i64 yk] 52)) := fun W hW => ⟨(hW.block _ (by omega)).trans ((haly.block _ hltx).trans hgx), (hW.block _ hlty).trans hgy⟩
          have HWXE := Lib.hid hwx
          have HWYE := Lib.hid hwy
          have HXA := Lib.hid hxA
          have HYA := Lib.hid hyA
          have HSE : Hid (sameD x y = (x.name == y.name && (x.type == y.type && (decide (x.low = y.low) && (decide (x.high = y.high) && sameL x.begins y.begins))))) := rfl
          have HNO : Hid (sameD x y = false → R2 = false) := fun hf => by
            rw [HR2.out, Bool.eq_false_iff]; intro e
            have := (eqL_iff sameD vs us (by have := HMnv.out; have := HNnv.out; omega)).1 e k x y HX0.out HY0.out
            rw [hf] at this; cases this
          have HRX : Hid (sameD x y = true → ∀ j x2 y2, j < k + 1 → vs[j]? = some x2 → us[j]? = some y2 → sameD x2 y2 = true) := fun hs j x2 y2 hj h1 h2 => by
            by_cases e : j = k
            · subst e
              have e1 := HX0.out.symm.trans h1
              have e2 := HY0.out.symm.trans h2
              injection e1 with e1; injection e2 with e2
              rw [← e1, ← e2]; exact hs
            · exact HA.out j x2 y2 (by omega) h1 h2
          have hstr := str_beq x.name y.name
          have hstt := str_beq x.type y.type
          have HSA := Lib.hid (sameL_ok x.begins y.begins)
          obtain ⟨xl_, hxl_⟩ : ∃ l, l = x.begins := ⟨_, rfl⟩
          obtain ⟨yl_, hyl_⟩ : ∃ l, l = y.begins := ⟨_, rfl⟩
          rw [← hxl_] at HXM HXA HSE HSA
          rw [← hyl_] at HYM HYA HSE HSA
          clear hc hd hxA hyA hal haly hgx hgy hltx hlty hwx hwy hxl_ hyl_ HX0 HY0 HA hxn hyn
          clear hxt hyt
          generalize sameD x y = sxy at *
          generalize (x.name == y.name) = bn at *
          generalize (⟨x.name.toArray⟩ : ByteArray) = nb1 at *
          generalize (⟨y.name.toArray⟩ : ByteArray) = nb2 at *
          have e3 : (nb1.toList != nb2.toList) = !bn := by rw [bne, hstr]
          generalize (x.type == y.type) = bt at *
          generalize (⟨x.type.toArray⟩ : ByteArray) = tb1 at *
          generalize (⟨y.type.toArray⟩ : ByteArray) = tb2 at *
          have e4 : (tb1.toList != tb2.toList) = !bt := by rw [bne, hstt]
          generalize x.low = lo1 at *
          generalize y.low = lo2 at *
          generalize x.high = hi1 at *
          generalize y.high = hi2 at *
          have e5 : (lo1 != lo2) = !decide (lo1 = lo2) := by rw [bne]; congr 1
          have e6 : (hi1 != hi2) = !decide (hi1 = hi2) := by rw [bne]; congr 1
          generalize decide (lo1 = lo2) = z3 at *
          generalize decide (hi1 = hi2) = z4 at *
          go_upto_region 19 with (fail)
          have hwx := HWXE.out
          rw [← hwx]
          clear hwx HWXE c0 c1 c2 c3 c4 c5 c6
          obtain ⟨g0, g1, g2⟩ := cells3s (HC.out wx HBX.out).2
          go_upto_region 20 with (fail)
          have hwy := HWYE.out
          rw [← hwy]
          clear hwy HWYE g0 g1 g2 d0 d1 d2 d3 d4 d5 d6
          obtain ⟨s0, s1, s2, s3, s4, s5, s6⟩ := cells7 (HCX.out wy (Below.refl _ _)).1
          obtain ⟨t0, t1, t2, t3, t4, t5, t6⟩ := cells7 (HCX.out wy (Below.refl _ _)).2
          rcases bn with _ | _
          · have HF := Lib.hid (HNO.out (by rw [HSE.out]; rfl))
            go_wp2_with fail
            go_ret
            exact ⟨ret_bool (by rw [HF.out]; simp), HBA.out.trans (HBY.out.mono HBA.out.size)⟩
          rcases bt with _ | _
          · have HF := Lib.hid (HNO.out (by rw [HSE.out]; rfl))
            go_wp2_with fail
            go_ret
            exact ⟨ret_bool (by rw [HF.out]; simp), HBA.out.trans (HBY.out.mono HBA.out.size)⟩
          rcases z3 with _ | _
          · have HF := Lib.hid (HNO.out (by rw [HSE.out]; rfl))
            go_wp2_with fail
            go_ret
            exact ⟨ret_bool (by rw [HF.out]; simp), HBA.out.trans (HBY.out.mono HBA.out.size)⟩
          rcases z4 with _ | _
          · have HF := Lib.hid (HNO.out (by rw [HSE.out]; rfl))
            go_wp2_with fail
            go_ret
            exact ⟨ret_bool (by rw [HF.out]; simp), HBA.out.trans (HBY.out.mono HBA.out.size)⟩
          by_cases hml : xm = ym
          case neg =>
            have y4 : ((xm : Int) != (ym : Int)) = true := by rw [bne_iff_ne]; omega
            have y5 : (xm != ym) = true := by rw [bne_iff_ne]; exact hml
            have HF := Lib.hid (HNO.out (by rw [HSE.out, HSA.out.1 (by have := HXM.out; have := HYM.out; omega)]; rfl))
            go_wp2_with fail
            go_ret
            exact ⟨ret_bool (by rw [HF.out]; simp), HBA.out.trans (HBY.out.mono HBA.out.size)⟩
          have y4 : ((xm : Int) != (ym : Int)) = false := by rw [bne_eq_false_iff_eq]; omega
          have y5 : (xm != ym) = false := by rw [bne_eq_false_iff_eq]; exact hml
          have HML := Lib.hid hml
          clear hml
          go_wp2_with fail
          go_loopw [139] (fun i wr => ∃ k2 : Nat, k2 ≤ xm ∧ i = .int .i64 k2 ∧ Hid (Below wy.heap.size wy wr) ∧ Hid (∀ (j : Nat) (a b : Ex), j < k2 → xl_[j]? = some a → yl_[j]? = some b → (same) a b = true)) (fun i _ => xm - (intOf i).toNat)
          case atStart => exact ⟨0, Nat.zero_le _, rfl, Below.refl _ _, fun j a b hj => absurd hj (by omega)⟩
          case round =>
            clear s0 s1 s2 s3 s4 s5 s6 t0 t1 t2 t3 t4 t5 t6
            obtain ⟨k2, hk2, rfl, HW2, HA2⟩ := hrel
            by_cases hlt2 : k2 < xm
            · have v1 : decide ((k2 : Int) < (xm : Int)) = true := decide_eq_true (by omega)
              have v2 : decide (k2 < xm) = true := decide_eq_true hlt2
              have v3 : k2 < ym := by have := HML.out; omega
              obtain ⟨a, ha⟩ : ∃ a, xl_[k2]? = some a := get_el (by have := HXM.out; omega)
              obtain ⟨b, hb⟩ : ∃ b, yl_[k2]? = some b := get_el (by have := HYM.out; omega)
              rcases HXA.out with hK | ⟨b3, p3, rfl, hb3, hk3⟩
              · exfalso; rw [hK] at ha; simp at ha
              rcases HYA.out with hK | ⟨b4, p4, rfl, hb4, hk4⟩
              · exfalso; rw [hK] at hb; simp at hb
              obtain ⟨av_, _, hca, hRa⟩ := hk3 k2 a ha
              obtain ⟨bv_, _, hcb, hRb⟩ := hk4 k2 b hb
              have HA0 := Lib.hid ha
              have HB0 := Lib.hid hb
              clear ha hb hk3 hk4
              have hWa : Below wa.heap.size wa wr := HBY.out.trans (HW2.out.mono HBY.out.size)
              obtain ⟨s0, s1, s2, s3, s4, s5, s6⟩ := cells7 (HCX.out wr HW2.out).1
              obtain ⟨t0, t1, t2, t3, t4, t5, t6⟩ := cells7 (HCX.out wr HW2.out).2
              have s4' := cell_regrown s4
              have t4' := cell_regrown t4
              have hEa : ExV wa a (.agg av_.toArray) := ⟨av_, rfl, hRa⟩
              have hEb : ExV wa b (.agg bv_.toArray) := ⟨bv_, rfl, hRb⟩
              obtain ⟨ao, an, av, aa, am, ak, al, ac, rfl⟩ := exc_form hRa
              obtain ⟨bo, bn, bv, ba, bm, bk, bl, bc, rfl⟩ := exc_form hRb
              have c0 := hca 0 _ rfl
              rw [← hWa.cell (p := ⟨b3, p3 + k2 * 6 + 0, none⟩) hb3] at c0
              have d0 := hcb 0 _ rfl
              rw [← hWa.cell (p := ⟨b4, p4 + k2 * 6 + 0, none⟩) hb4] at d0
              have c1 := hca 1 _ rfl
              rw [← hWa.cell (p := ⟨b3, p3 + k2 * 6 + 1, none⟩) hb3] at c1
              have d1 := hcb 1 _ rfl
              rw [← hWa.cell (p := ⟨b4, p4 + k2 * 6 + 1, none⟩) hb4] at d1
              have c2 := hca 2 _ rfl
              rw [← hWa.cell (p := ⟨b3, p3 + k2 * 6 + 2, none⟩) hb3] at c2
              have d2 := hcb 2 _ rfl
              rw [← hWa.cell (p := ⟨b4, p4 + k2 * 6 + 2, none⟩) hb4] at d2
              have c3 := hca 3 _ rfl
              rw [← hWa.cell (p := ⟨b3, p3 + k2 * 6 + 3, none⟩) hb3] at c3
              have d3 := hcb 3 _ rfl
              rw [← hWa.cell (p := ⟨b4, p4 + k2 * 6 + 3, none⟩) hb4] at d3
              have c4 := hca 4 _ rfl
              rw [← hWa.cell (p := ⟨b3, p3 + k2 * 6 + 4, none⟩) hb3] at c4
              have d4 := hcb 4 _ rfl
              rw [← hWa.cell (p := ⟨b4, p4 + k2 * 6 + 4, none⟩) hb4] at d4
              have c5 := hca 5 _ rfl
              rw [← hWa.cell (p := ⟨b3, p3 + k2 * 6 + 5, none⟩) hb3] at c5
              have d5 := hcb 5 _ rfl
              rw [← hWa.cell (p := ⟨b4, p4 + k2 * 6 + 5, none⟩) hb4] at d5
              rw [Nat.add_zero] at c0 d0
              have c0' := cell_regrown c0
              have d0' := cell_regrown d0
              have c1' := cell_regrown c1
              have d1' := cell_regrown d1
              have c2' := cell_regrown c2
              have d2' := cell_regrown d2
              have c3' := cell_regrown c3
              have d3' := cell_regrown d3
              have c4' := cell_regrown c4
              have d4' := cell_regrown d4
              have c5' := cell_regrown c5
              have d5' := cell_regrown d5
              have HQ : Hid (∀ dq os, Calls Tryz.prog 35 #[.agg #[.int .i64 ao, .int .i64 an, .string av, .slice aa am ak, .int .i64 al, .int .i64 ac], .agg #[.int .i64 bo, .int .i64 bn, .string bv, .slice ba bm bk, .int .i64 bl, .int .i64 bc]] (Go.Sort.grow (redrawn wr dq) os) fun e w' => e = .returned (.bool (same a b)) ∧ ∃ p : Regrown, w' = Go.Sort.grow (redrawn wr p.d) p.os) := fun dq os =>
                Calls.regrown_of (psame_any a b _ _ _ ((hEa.below hWa).below (below_regrown wr dq os)) ((hEb.below hWa).below (below_regrown wr dq os)))
              obtain ⟨r, hr⟩ : ∃ r, r = same a b := ⟨_, rfl⟩
              have HR := Lib.hid hr
              rw [← hr] at HQ
              clear hr hca hcb hEa hEb hRa hRb c0 d0 c1 d1 c2 d2 c3 d3 c4 d4 c5 d5 s0 s1 s2 s3 s4 s5 s6 t0 t1 t2 t3 t4 t5 t6
              go_upto_region 25 with (fail)
              refine wp_region_quiet_below (by kernel_rfl) (by kernel_rfl) (WQ.out ?_)
              refine quiet_take (by kernel_rfl) (fun K hK => ?_); go_simp; refine hK _ ?_; clear hK K
              refine quiet_take (by kernel_rfl) (fun K hK => ?_); go_simp; refine hK _ ?_; clear hK K
              refine quiet_take (by kernel_rfl) (fun K hK => ?_); go_simp; refine hK _ ?_; clear hK K
              refine quiet_take (by kernel_rfl) (fun K hK => ?_); go_simp; refine hK _ ?_; clear hK K
              refine quiet_take (by kernel_rfl) (fun K hK => ?_); go_simp; refine hK _ ?_; clear hK K
              refine quiet_take (by kernel_rfl) (fun K hK => ?_); go_simp; refine hK _ ?_; clear hK K
              refine quiet_take (by kernel_rfl) (fun K hK => ?_); go_simp; refine hK _ ?_; clear hK K
              refine quiet_take (by kernel_rfl) (fun K hK => ?_); go_simp; refine hK _ ?_; clear hK K
              refine quiet_take (by kernel_rfl) (fun K hK => ?_); go_simp; refine hK _ ?_; clear hK K
              refine quiet_take (by kernel_rfl) (fun K hK => ?_); go_simp; refine hK _ ?_; clear hK K
              refine quiet_take (by kernel_rfl) (fun K hK => ?_); go_simp; apply Exists.intro; refine ⟨fun _ => ?_, hK _ ?_⟩; (go_at_call 35; exact HQ.out _ _); clear hK K
              refine quiet_take (by kernel_rfl) (fun K hK => ?_); go_simp; refine hK _ ?_; clear hK K
              refine ⟨wpQuiet_nil ?_⟩
              intro w7 hw'
              have hbw7 : Below wr.heap.size wr w7 := by obtain ⟨⟨dq, osq⟩, hw''⟩ := hw'; rw [hw'']; exact below_regrown wr dq osq
              clear hw'
              rcases r with _ | _
              · have HF : Hid (R2 = false) := HNO.out (by rw [HSE.out, HSA.out.2.1 k2 a b HA0.out HB0.out (by exact HR.out.symm)]; rfl)
                go_wp2_with fail
                go_ret
                exact ⟨ret_bool (by rw [HF.out]; simp), HBA.out.trans ((HBY.out.trans ((HW2.out.trans (hbw7.mono HW2.out.size)).mono HBY.out.size)).mono HBA.out.size)⟩
              · have HAX : Hid (∀ (j : Nat) (a2 b2 : Ex), j < k2 + 1 → xl_[j]? = some a2 → yl_[j]? = some b2 → (same) a2 b2 = true) := fun j a2 b2 hj h1 h2 => by
                  by_cases e : j = k2
                  · subst e
                    have e1 := HA0.out.symm.trans h1
                    have e2 := HB0.out.symm.trans h2
                    injection e1 with e1; injection e2 with e2
                    rw [← e1, ← e2]; exact HR.out.symm
                  · exact HA2.out j a2 b2 (by omega) h1 h2
                clear HA2 HA0 HB0
                go_wp2_with fail
                go_roundw
                case rel => exact ⟨k2 + 1, by omega, by go_num, HW2.out.trans (hbw7.mono HW2.out.size), HAX⟩
                case measure => simp [intOf]; omega
            · have v1 : decide ((k2 : Int) < (xm : Int)) = false := decide_eq_false (by omega)
              have v2 : decide (k2 < xm) = false := decide_eq_false hlt2
              have HSX : Hid (sxy = true) := by
                unfold Hid; rw [HSE.out, HSA.out.2.2 (by have := HXM.out; have := HYM.out; have := HML.out; omega) fun j a b h1 h2 => HA2.out j a b (by
                  have := HXM.out
                  rcases Nat.lt_or_ge j xl_.length with h' | h'
                  · omega
                  · rw [List.getElem?_eq_none h'] at h1; cases h1) h1 h2]; rfl
              clear HA2
              have HRX2 := Lib.hid (HRX.out HSX.out)
              have HB9 : Hid (Below wa.heap.size wa wr) := HBY.out.trans (HW2.out.mono HBY.out.size)
              clear HRX HNO HSX
              go_wp2_with fail
              go_roundw
              case rel => exact ⟨k + 1, by omega, by go_num, HB9.out, HRX2⟩
              case measure => simp [intOf]; omega
        · have z1 : decide ((k : Int) < (nv : Int)) = false := decide_eq_false (by omega)
          have z2 : decide (k < nv) = false := decide_eq_false hlt
          have HALL : Hid (eqL sameD vs us = true) := (eqL_iff sameD vs us (by have := HMnv.out; have := HNnv.out; omega)).2 fun j x y h1 h2 => HA.out j x y (by
            have := HMnv.out
            rcases Nat.lt_or_ge j vs.length with h' | h'
            · omega
            · rw [List.getElem?_eq_none h'] at h1; cases h1) h1 h2
          clear HA
          go_wp2_with fail
          go_meet
          exact ⟨HW.out, HALL⟩
    case rest =>
      obtain ⟨HBV, HALV⟩ := hcut
      have HRV : Hid (R2 = true) := HR2.out.trans HALV.out
      clear c0 c1 c2 d0 d1 d2
      obtain ⟨c0, c1, c2⟩ := cells3s (HC.out _ HBV.out).1
      obtain ⟨d0, d1, d2⟩ := cells3s (HC.out _ HBV.out).2
      go_upto_block 8 with (fail)
      go_cut [] (fun wx => Hid (Below wa.heap.size wa wx) ∧ Hid (eqL sameP ps qs = true))
      case first =>
        go_wp2_with fail
        go_loopw [159] (fun i wo => ∃ k : Nat, k ≤ np ∧ i = .int .i64 k ∧ Hid (Below wa.heap.size wa wo) ∧ Hid (∀ j x y, j < k → ps[j]? = some x → qs[j]? = some y → sameP x y = true)) (fun i _ => np - (intOf i).toNat)
        case atStart => exact ⟨0, Nat.zero_le _, rfl, HBV.out, fun j x y hj => absurd hj (by omega)⟩
        case round =>
          clear c0 c1 c2 d0 d1 d2
          obtain ⟨k, hk, rfl, HW, HA⟩ := hrel
          generalize wr = wo at *
          by_cases hlt : k < np
          · have z1 : decide ((k : Int) < (np : Int)) = true := decide_eq_true (by omega)
            have z2 : decide (k < np) = true := decide_eq_true hlt
            have z0 : k < mp := by have := HV3.out; omega
            obtain ⟨x, hx⟩ := HGnp.out k hlt
            obtain ⟨y, hy⟩ := HHnp.out k hlt
            rcases HXnp.out with hK | ⟨b', p', rfl, hb', hk'⟩
            · exfalso; rw [hK] at hx; simp at hx
            rcases HYnp.out with hK | ⟨b2, p2, rfl, hb2, hk2⟩
            · exfalso; rw [hK] at hy; simp at hy
            obtain ⟨cs, _, hc, hAs⟩ := hk' k x hx
            obtain ⟨ds, _, hd, hBs⟩ := hk2 k y hy
            have HX0 := Lib.hid hx
            have HY0 := Lib.hid hy
            clear hx hy hk' hk2
            obtain ⟨v, xl, xk, rfl, hxn, xA, xc, rfl, hxm, hxc, hxA⟩ := hAs
            obtain ⟨v2, yl, yk, rfl, hyn, yA, yc, rfl, hym, hyc, hyA⟩ := hBs
            obtain ⟨xm, hxme⟩ : ∃ n, n = x.rules.length := ⟨_, rfl⟩
            obtain ⟨ym, hyme⟩ : ∃ n, n = y.rules.length := ⟨_, rfl⟩
            have HXM := Lib.hid hxme
            have HYM := Lib.hid hyme
            rw [← hxme] at hc hxm
            rw [← hyme] at hd hym
            clear hxme hyme
            have c0 := hc 0 _ rfl
            rw [← HW.out.cell (p := ⟨b', p' + k * 4 + 0, none⟩) hb'] at c0
            have c1 := hc 1 _ rfl
            rw [← HW.out.cell (p := ⟨b', p' + k * 4 + 1, none⟩) hb'] at c1
            have c2 := hc 2 _ rfl
            rw [← HW.out.cell (p := ⟨b', p' + k * 4 + 2, none⟩) hb'] at c2
            have c3 := hc 3 _ rfl
            rw [← HW.out.cell (p := ⟨b', p' + k * 4 + 3, none⟩) hb'] at c3
            rw [Nat.add_zero] at c0
            obtain ⟨wx, hwx⟩ : ∃ wx, wx = wo.alloc (.cells #[.string ⟨x.name.toArray⟩, .slice xA xm xc, .int .i64 xl, .int .i64 xk] 36) := ⟨_, rfl⟩
            have hal : Below wo.heap.size wo wx := by rw [hwx]; exact below_alloc wo _
            have hgx : wx.heap[wo.heap.size]? = some (.cells #[.string ⟨x.name.toArray⟩, .slice xA xm xc, .int .i64 xl, .int .i64 xk] 36) := by rw [hwx]; exact blk_new wo _
            have hltx : wo.heap.size < wx.heap.size := by rw [hwx]; simp
            have d0 := hd 0 _ rfl
            rw [← (HW.out.trans (hal.mono HW.out.size)).cell (p := ⟨b2, p2 + k * 4 + 0, none⟩) hb2] at d0
            have d1 := hd 1 _ rfl
            rw [← (HW.out.trans (hal.mono HW.out.size)).cell (p := ⟨b2, p2 + k * 4 + 1, none⟩) hb2] at d1
            have d2 := hd 2 _ rfl
            rw [← (HW.out.trans (hal.mono HW.out.size)).cell (p := ⟨b2, p2 + k * 4 + 2, none⟩) hb2] at d2
            have d3 := hd 3 _ rfl
            rw [← (HW.out.trans (hal.mono HW.out.size)).cell (p := ⟨b2, p2 + k * 4 + 3, none⟩) hb2] at d3
            rw [Nat.add_zero] at d0
            obtain ⟨wy, hwy⟩ : ∃ wy, wy = wx.alloc (.cells #[.string ⟨y.name.toArray⟩, .slice yA ym yc, .int .i64 yl, .int .i64 yk] 36) := ⟨_, rfl⟩
            have haly : Below wx.heap.size wx wy := by rw [hwy]; exact below_alloc wx _
            have hgy : wy.heap[wx.heap.size]? = some (.cells #[.string ⟨y.name.toArray⟩, .slice yA ym yc, .int .i64 yl, .int .i64 yk] 36) := by rw [hwy]; exact blk_new wx _
            have hlty : wx.heap.size < wy.heap.size := by rw [hwy]; simp
            have HBX : Hid (Below wa.heap.size wa wx) := HW.out.trans (hal.mono HW.out.size)
            have HBY : Hid (Below wa.heap.size wa wy) := HBX.out.trans (haly.mono HBX.out.size)
            have HCX : Hid (∀ W, Below wy.heap.size wy W → W.heap[wo.heap.size]? = some (.cells #[.string ⟨x.name.toArray⟩, .slice xA xm xc, .int .i64 xl, .int .i64 xk] 36) ∧ W.heap[wx.heap.size]? = some (.cells #[.string ⟨y.name.toArray⟩, .slice yA ym yc, .int .i64 yl, .int .i64 yk] 36)) := fun W hW => ⟨(hW.block _ (by omega)).trans ((haly.block _ hltx).trans hgx), (hW.block _ hlty).trans hgy⟩
            have HWXE := Lib.hid hwx
            have HWYE := Lib.hid hwy
            have HXA := Lib.hid hxA
            have HYA := Lib.hid hyA
            have HSE : Hid (sameP x y = (x.name == y.name && eqL sameR x.rules y.rules)) := rfl
            have HNO : Hid (sameP x y = false → R3 = false) := fun hf => by
              rw [HR3.out, Bool.eq_false_iff]; intro e
              have := (eqL_iff sameP ps qs (by have := HMnp.out; have := HNnp.out; omega)).1 e k x y HX0.out HY0.out
              rw [hf] at this; cases this
            have HRX : Hid (sameP x y = true → ∀ j x2 y2, j < k + 1 → ps[j]? = some x2 → qs[j]? = some y2 → sameP x2 y2 = true) := fun hs j x2 y2 hj h1 h2 => by
              by_cases e : j = k
              · subst e
                have e1 := HX0.out.symm.trans h1
                have e2 := HY0.out.symm.trans h2
                injection e1 with e1; injection e2 with e2
                rw [← e1, ← e2]; exact hs
              · exact HA.out j x2 y2 (by omega) h1 h2
            have hstr := str_beq x.name y.name
            have HSA := Lib.hid (eqL_ok (sameR) x.rules y.rules)
            obtain ⟨xl_, hxl_⟩ : ∃ l, l = x.rules := ⟨_, rfl⟩
            obtain ⟨yl_, hyl_⟩ : ∃ l, l = y.rules := ⟨_, rfl⟩
            rw [← hxl_] at HXM HXA HSE HSA
            rw [← hyl_] at HYM HYA HSE HSA
            clear hc hd hxA hyA hal haly hgx hgy hltx hlty hwx hwy hxl_ hyl_ HX0 HY0 HA hxn hyn
            generalize sameP x y = sxy at *
            generalize (x.name == y.name) = bn at *
            generalize (⟨x.name.toArray⟩ : ByteArray) = nb1 at *
            generalize (⟨y.name.toArray⟩ : ByteArray) = nb2 at *
            have e3 : (nb1.toList != nb2.toList) = !bn := by rw [bne, hstr]
            go_upto_region 32 with (fail)
            have hwx := HWXE.out
            rw [← hwx]
            clear hwx HWXE c0 c1 c2 c3
            obtain ⟨g0, g1, g2⟩ := cells3s (HC.out wx HBX.out).2
            go_upto_region 33 with (fail)
            have hwy := HWYE.out
            rw [← hwy]
            clear hwy HWYE g0 g1 g2 d0 d1 d2 d3
            obtain ⟨s0, s1, s2, s3⟩ := cells4 (HCX.out wy (Below.refl _ _)).1
            obtain ⟨t0, t1, t2, t3⟩ := cells4 (HCX.out wy (Below.refl _ _)).2
            rcases bn with _ | _
            · have HF := Lib.hid (HNO.out (by rw [HSE.out]; rfl))
              go_wp2_with fail
              go_ret
              exact ⟨ret_bool (by rw [HF.out]; simp), HBA.out.trans (HBY.out.mono HBA.out.size)⟩
            by_cases hml : xm = ym
            case neg =>
              have y4 : ((xm : Int) != (ym : Int)) = true := by rw [bne_iff_ne]; omega
              have y5 : (xm != ym) = true := by rw [bne_iff_ne]; exact hml
              have HF := Lib.hid (HNO.out (by rw [HSE.out, HSA.out.1 (by have := HXM.out; have := HYM.out; omega)]; rfl))
              go_wp2_with fail
              go_ret
              exact ⟨ret_bool (by rw [HF.out]; simp), HBA.out.trans (HBY.out.mono HBA.out.size)⟩
            have y4 : ((xm : Int) != (ym : Int)) = false := by rw [bne_eq_false_iff_eq]; omega
            have y5 : (xm != ym) = false := by rw [bne_eq_false_iff_eq]; exact hml
            have HML := Lib.hid hml
            clear hml
            go_wp2_with fail
            go_loopw [186] (fun i wr => ∃ k2 : Nat, k2 ≤ xm ∧ i = .int .i64 k2 ∧ Hid (Below wy.heap.size wy wr) ∧ Hid (∀ (j : Nat) (a b : Rul), j < k2 → xl_[j]? = some a → yl_[j]? = some b → (sameR) a b = true)) (fun i _ => xm - (intOf i).toNat)
            case atStart => exact ⟨0, Nat.zero_le _, rfl, Below.refl _ _, fun j a b hj => absurd hj (by omega)⟩
            case round =>
              clear s0 s1 s2 s3 t0 t1 t2 t3
              obtain ⟨k2, hk2, rfl, HW2, HA2⟩ := hrel
              by_cases hlt2 : k2 < xm
              · have v1 : decide ((k2 : Int) < (xm : Int)) = true := decide_eq_true (by omega)
                have v2 : decide (k2 < xm) = true := decide_eq_true hlt2
                have v3 : k2 < ym := by have := HML.out; omega
                obtain ⟨a, ha⟩ : ∃ a, xl_[k2]? = some a := get_el (by have := HXM.out; omega)
                obtain ⟨b, hb⟩ : ∃ b, yl_[k2]? = some b := get_el (by have := HYM.out; omega)
                rcases HXA.out with hK | ⟨b3, p3, rfl, hb3, hk3⟩
                · exfalso; rw [hK] at ha; simp at ha
                rcases HYA.out with hK | ⟨b4, p4, rfl, hb4, hk4⟩
                · exfalso; rw [hK] at hb; simp at hb
                obtain ⟨av_, _, hca, hRa⟩ := hk3 k2 a ha
                obtain ⟨bv_, _, hcb, hRb⟩ := hk4 k2 b hb
                have HA0 := Lib.hid ha
                have HB0 := Lib.hid hb
                clear ha hb hk3 hk4
                have hWa : Below wa.heap.size wa wr := HBY.out.trans (HW2.out.mono HBY.out.size)
                obtain ⟨s0, s1, s2, s3⟩ := cells4 (HCX.out wr HW2.out).1
                obtain ⟨t0, t1, t2, t3⟩ := cells4 (HCX.out wr HW2.out).2
                have s1' := cell_regrown s1
                have t1' := cell_regrown t1
                obtain ⟨as6, va, ha6, rfl, hRa1, aA, acp, rfl, ham, hac, haS⟩ := hRa
                obtain ⟨bs6, vb, hb6, rfl, hRb1, bA, bcp, rfl, hbm, hbc, hbS⟩ := hRb
                have hEa : ExV wa a.when_ (.agg as6.toArray) := ⟨as6, rfl, hRa1⟩
                have hEb : ExV wa b.when_ (.agg bs6.toArray) := ⟨bs6, rfl, hRb1⟩
                obtain ⟨ao, an, av, aa, am, ak, al, ac, rfl⟩ := exc_form hRa1
                obtain ⟨bo, bn, bv, ba, bm, bk, bl, bc, rfl⟩ := exc_form hRb1
                have c0 := hca 0 _ rfl
                rw [← hWa.cell (p := ⟨b3, p3 + k2 * 7 + 0, none⟩) hb3] at c0
                have d0 := hcb 0 _ rfl
                rw [← hWa.cell (p := ⟨b4, p4 + k2 * 7 + 0, none⟩) hb4] at d0
                have c1 := hca 1 _ rfl
                rw [← hWa.cell (p := ⟨b3, p3 + k2 * 7 + 1, none⟩) hb3] at c1
                have d1 := hcb 1 _ rfl
                rw [← hWa.cell (p := ⟨b4, p4 + k2 * 7 + 1, none⟩) hb4] at d1
                have c2 := hca 2 _ rfl
                rw [← hWa.cell (p := ⟨b3, p3 + k2 * 7 + 2, none⟩) hb3] at c2
                have d2 := hcb 2 _ rfl
                rw [← hWa.cell (p := ⟨b4, p4 + k2 * 7 + 2, none⟩) hb4] at d2
                have c3 := hca 3 _ rfl
                rw [← hWa.cell (p := ⟨b3, p3 + k2 * 7 + 3, none⟩) hb3] at c3
                have d3 := hcb 3 _ rfl
                rw [← hWa.cell (p := ⟨b4, p4 + k2 * 7 + 3, none⟩) hb4] at d3
                have c4 := hca 4 _ rfl
                rw [← hWa.cell (p := ⟨b3, p3 + k2 * 7 + 4, none⟩) hb3] at c4
                have d4 := hcb 4 _ rfl
                rw [← hWa.cell (p := ⟨b4, p4 + k2 * 7 + 4, none⟩) hb4] at d4
                have c5 := hca 5 _ rfl
                rw [← hWa.cell (p := ⟨b3, p3 + k2 * 7 + 5, none⟩) hb3] at c5
                have d5 := hcb 5 _ rfl
                rw [← hWa.cell (p := ⟨b4, p4 + k2 * 7 + 5, none⟩) hb4] at d5
                have c6 := hca 6 _ rfl
                rw [← hWa.cell (p := ⟨b3, p3 + k2 * 7 + 6, none⟩) hb3] at c6
                have d6 := hcb 6 _ rfl
                rw [← hWa.cell (p := ⟨b4, p4 + k2 * 7 + 6, none⟩) hb4] at d6
                rw [Nat.add_zero] at c0 d0
                have c0' := cell_regrown c0
                have d0' := cell_regrown d0
                have c1' := cell_regrown c1
                have d1' := cell_regrown d1
                have c2' := cell_regrown c2
                have d2' := cell_regrown d2
                have c3' := cell_regrown c3
                have d3' := cell_regrown d3
                have c4' := cell_regrown c4
                have d4' := cell_regrown d4
                have c5' := cell_regrown c5
                have d5' := cell_regrown d5
                have c6' := cell_regrown c6
                have d6' := cell_regrown d6
                obtain ⟨na, hna⟩ : ∃ n, n = a.do_.length := ⟨_, rfl⟩
                obtain ⟨nb, hnb⟩ : ∃ n, n = b.do_.length := ⟨_, rfl⟩
                have HQ : Hid (∀ dq os, Calls Tryz.prog 35 #[.agg #[.int .i64 ao, .int .i64 an, .string av, .slice aa am ak, .int .i64 al, .int .i64 ac], .agg #[.int .i64 bo, .int .i64 bn, .string bv, .slice ba bm bk, .int .i64 bl, .int .i64 bc]] (Go.Sort.grow (redrawn wr dq) os) fun e w' => e = .returned (.bool (same a.when_ b.when_)) ∧ ∃ p : Regrown, w' = Go.Sort.grow (redrawn wr p.d) p.os) := fun dq os =>
                  Calls.regrown_of (psame_any a.when_ b.when_ _ _ _ ((hEa.below hWa).below (below_regrown wr dq os)) ((hEb.below hWa).below (below_regrown wr dq os)))
                have HQ2 : Hid (∀ dq os, Calls Tryz.prog 36 #[.slice aA a.do_.length acp, .slice bA b.do_.length bcp] (Go.Sort.grow (redrawn wr dq) os) fun e w' => e = .returned (.bool (eqL sameA a.do_ b.do_)) ∧ ∃ p : Regrown, w' = Go.Sort.grow (redrawn wr p.d) p.os) := fun dq os =>
                  Calls.regrown_of (psameAssigns_any a.do_ b.do_ aA bA acp bcp _ ((haS.below hWa fun x _ cs h => h.below hWa).below (below_regrown wr dq os) fun x _ cs h => h.below (below_regrown wr dq os)) ((hbS.below hWa fun x _ cs h => h.below hWa).below (below_regrown wr dq os) fun x _ cs h => h.below (below_regrown wr dq os)) ham hac hbm hbc)
                rw [← hna] at HQ2 ham c6 c6'
                rw [← hnb] at HQ2 hbm d6 d6'
                have HSR : Hid (sameR a b = (same a.when_ b.when_ && eqL sameA a.do_ b.do_)) := rfl
                clear hna hnb hca hcb hEa hEb hRa1 hRb1 haS hbS ha6 hb6 c0 d0 c1 d1 c2 d2 c3 d3 c4 d4 c5 d5 c6 d6 s0 s1 s2 s3 t0 t1 t2 t3
                generalize same a.when_ b.when_ = r1 at *
                generalize eqL sameA a.do_ b.do_ = r2 at *
                rcases r1 with _ | _
                · clear HQ2
                  go_upto_region 38 with (fail)
                  refine wp_region_quiet_below (by kernel_rfl) (by kernel_rfl) (WQ.out ?_)
                  refine quiet_take (by kernel_rfl) (fun K hK => ?_); go_simp; refine hK _ ?_; clear hK K
                  refine quiet_take (by kernel_rfl) (fun K hK => ?_); go_simp; refine hK _ ?_; clear hK K
                  refine quiet_take (by kernel_rfl) (fun K hK => ?_); go_simp; refine hK _ ?_; clear hK K
                  refine quiet_take (by kernel_rfl) (fun K hK => ?_); go_simp; refine hK _ ?_; clear hK K
                  refine quiet_take (by kernel_rfl) (fun K hK => ?_); go_simp; refine hK _ ?_; clear hK K
                  refine quiet_take (by kernel_rfl) (fun K hK => ?_); go_simp; refine hK _ ?_; clear hK K
                  refine quiet_take (by kernel_rfl) (fun K hK => ?_); go_simp; refine hK _ ?_; clear hK K
                  refine quiet_take (by kernel_rfl) (fun K hK => ?_); go_simp; refine hK _ ?_; clear hK K
                  refine quiet_take (by kernel_rfl) (fun K hK => ?_); go_simp; refine hK _ ?_; clear hK K
                  refine quiet_take (by kernel_rfl) (fun K hK => ?_); go_simp; refine hK _ ?_; clear hK K
                  refine quiet_take (by kernel_rfl) (fun K hK => ?_); go_simp; refine hK _ ?_; clear hK K
                  refine quiet_take (by kernel_rfl) (fun K hK => ?_); go_simp; refine hK _ ?_; clear hK K
                  refine quiet_take (by kernel_rfl) (fun K hK => ?_); go_simp; apply Exists.intro; refine ⟨fun _ => ?_, hK _ ?_⟩; (go_at_call 35; exact HQ.out _ _); clear hK K
                  refine quiet_take (by kernel_rfl) (fun K hK => ?_); go_simp; refine hK _ ?_; clear hK K
                  refine quiet_take (by kernel_rfl) (fun K hK => ?_); go_simp; refine hK _ ?_; clear hK K
                  refine quiet_skip (by kernel_rfl) (fun K hK => ?_); go_simp; refine hK _ ?_; clear hK K
                  refine quiet_skip (by kernel_rfl) (fun K hK => ?_); go_simp; refine hK _ ?_; clear hK K
                  refine quiet_skip (by kernel_rfl) (fun K hK => ?_); go_simp; refine hK _ ?_; clear hK K
                  refine quiet_skip (by kernel_rfl) (fun K hK => ?_); go_simp; refine hK _ ?_; clear hK K
                  refine quiet_skip (by kernel_rfl) (fun K hK => ?_); go_simp; refine hK _ ?_; clear hK K
                  refine quiet_skip (by kernel_rfl) (fun K hK => ?_); go_simp; refine hK _ ?_; clear hK K
                  refine quiet_skip (by kernel_rfl) (fun K hK => ?_); go_simp; refine hK _ ?_; clear hK K
                  refine quiet_skip (by kernel_rfl) (fun K hK => ?_); go_simp; refine hK _ ?_; clear hK K
                  refine quiet_skip (by kernel_rfl) (fun K hK => ?_); go_simp; refine hK _ ?_; clear hK K
                  refine quiet_skip (by kernel_rfl) (fun K hK => ?_); go_simp; refine hK _ ?_; clear hK K
                  refine quiet_skip (by kernel_rfl) (fun K hK => ?_); go_simp; refine hK _ ?_; clear hK K
                  refine quiet_skip (by kernel_rfl) (fun K hK => ?_); go_simp; refine hK _ ?_; clear hK K
                  refine quiet_skip (by kernel_rfl) (fun K hK => ?_); go_simp; refine hK _ ?_; clear hK K
                  refine quiet_skip (by kernel_rfl) (fun K hK => ?_); go_simp; refine hK _ ?_; clear hK K
                  refine quiet_take (by kernel_rfl) (fun K hK => ?_); go_simp; refine hK _ ?_; clear hK K
                  refine ⟨wpQuiet_nil ?_⟩
                  intro w7 hw'
                  have hbw7 : Below wr.heap.size wr w7 := by obtain ⟨⟨dq, osq⟩, hw''⟩ := hw'; rw [hw'']; exact below_regrown wr dq osq
                  clear hw'
                  have HF : Hid (R3 = false) := HNO.out (by rw [HSE.out, HSA.out.2.1 k2 a b HA0.out HB0.out (by rw [HSR.out]; rfl)]; rfl)
                  go_wp2_with fail
                  go_ret
                  exact ⟨ret_bool (by rw [HF.out]; simp), HBA.out.trans ((HBY.out.trans ((HW2.out.trans (hbw7.mono HW2.out.size)).mono HBY.out.size)).mono HBA.out.size)⟩
                go_upto_region 38 with (fail)
                refine wp_region_quiet_below (by kernel_rfl) (by kernel_rfl) (WQ.out ?_)
                refine quiet_take (by kernel_rfl) (fun K hK => ?_); go_simp; refine hK _ ?_; clear hK K
                refine quiet_take (by kernel_rfl) (fun K hK => ?_); go_simp; refine hK _ ?_; clear hK K
                refine quiet_take (by kernel_rfl) (fun K hK => ?_); go_simp; refine hK _ ?_; clear hK K
                refine quiet_take (by kernel_rfl) (fun K hK => ?_); go_simp; refine hK _ ?_; clear hK K
                refine quiet_take (by kernel_rfl) (fun K hK => ?_); go_simp; refine hK _ ?_; clear hK K
                refine quiet_take (by kernel_rfl) (fun K hK => ?_); go_simp; refine hK _ ?_; clear hK K
                refine quiet_take (by kernel_rfl) (fun K hK => ?_); go_simp; refine hK _ ?_; clear hK K
                refine quiet_take (by kernel_rfl) (fun K hK => ?_); go_simp; refine hK _ ?_; clear hK K
                refine quiet_take (by kernel_rfl) (fun K hK => ?_); go_simp; refine hK _ ?_; clear hK K
                refine quiet_take (by kernel_rfl) (fun K hK => ?_); go_simp; refine hK _ ?_; clear hK K
                refine quiet_take (by kernel_rfl) (fun K hK => ?_); go_simp; refine hK _ ?_; clear hK K
                refine quiet_take (by kernel_rfl) (fun K hK => ?_); go_simp; refine hK _ ?_; clear hK K
                refine quiet_take (by kernel_rfl) (fun K hK => ?_); go_simp; apply Exists.intro; refine ⟨fun _ => ?_, hK _ ?_⟩; (go_at_call 35; exact HQ.out _ _); clear hK K
                refine quiet_take (by kernel_rfl) (fun K hK => ?_); go_simp; refine hK _ ?_; clear hK K
                refine quiet_take (by kernel_rfl) (fun K hK => ?_); go_simp; refine hK _ ?_; clear hK K
                refine quiet_take (by kernel_rfl) (fun K hK => ?_); go_simp; refine hK _ ?_; clear hK K
                refine quiet_take (by kernel_rfl) (fun K hK => ?_); go_simp; refine hK _ ?_; clear hK K
                refine quiet_take (by kernel_rfl) (fun K hK => ?_); go_simp; refine hK _ ?_; clear hK K
                refine quiet_take (by kernel_rfl) (fun K hK => ?_); go_simp; refine hK _ ?_; clear hK K
                refine quiet_take (by kernel_rfl) (fun K hK => ?_); go_simp; refine hK _ ?_; clear hK K
                refine quiet_take (by kernel_rfl) (fun K hK => ?_); go_simp; refine hK _ ?_; clear hK K
                refine quiet_take (by kernel_rfl) (fun K hK => ?_); go_simp; refine hK _ ?_; clear hK K
                refine quiet_take (by kernel_rfl) (fun K hK => ?_); go_simp; refine hK _ ?_; clear hK K
                refine quiet_take (by kernel_rfl) (fun K hK => ?_); go_simp; refine hK _ ?_; clear hK K
                refine quiet_take (by kernel_rfl) (fun K hK => ?_); go_simp; refine hK _ ?_; clear hK K
                refine quiet_take (by kernel_rfl) (fun K hK => ?_); go_simp; refine hK _ ?_; clear hK K
                refine quiet_take (by kernel_rfl) (fun K hK => ?_); go_simp; refine hK _ ?_; clear hK K
                refine quiet_take (by kernel_rfl) (fun K hK => ?_); go_simp; apply Exists.intro; refine ⟨fun _ => ?_, hK _ ?_⟩; (go_at_call 36; exact HQ2.out _ _); clear hK K
                refine quiet_take (by kernel_rfl) (fun K hK => ?_); go_simp; refine hK _ ?_; clear hK K
                refine quiet_take (by kernel_rfl) (fun K hK => ?_); go_simp; refine hK _ ?_; clear hK K
                refine ⟨wpQuiet_nil ?_⟩
                intro w7 hw'
                have hbw7 : Below wr.heap.size wr w7 := by obtain ⟨⟨dq, osq⟩, hw''⟩ := hw'; rw [hw'']; exact below_regrown wr dq osq
                clear hw'
                rcases r2 with _ | _
                · have HF : Hid (R3 = false) := HNO.out (by rw [HSE.out, HSA.out.2.1 k2 a b HA0.out HB0.out (by rw [HSR.out]; rfl)]; rfl)
                  go_wp2_with fail
                  go_ret
                  exact ⟨ret_bool (by rw [HF.out]; simp), HBA.out.trans ((HBY.out.trans ((HW2.out.trans (hbw7.mono HW2.out.size)).mono HBY.out.size)).mono HBA.out.size)⟩
                · have HAX : Hid (∀ (j : Nat) (a2 b2 : Rul), j < k2 + 1 → xl_[j]? = some a2 → yl_[j]? = some b2 → (sameR) a2 b2 = true) := fun j a2 b2 hj h1 h2 => by
                    by_cases e : j = k2
                    · subst e
                      have e1 := HA0.out.symm.trans h1
                      have e2 := HB0.out.symm.trans h2
                      injection e1 with e1; injection e2 with e2
                      rw [← e1, ← e2]; show sameR a b = true; rw [HSR.out]; rfl
                    · exact HA2.out j a2 b2 (by omega) h1 h2
                  clear HA2 HA0 HB0
                  go_wp2_with fail
                  go_roundw
                  case rel => exact ⟨k2 + 1, by omega, by go_num, HW2.out.trans (hbw7.mono HW2.out.size), HAX⟩
                  case measure => simp [intOf]; omega
              · have v1 : decide ((k2 : Int) < (xm : Int)) = false := decide_eq_false (by omega)
                have v2 : decide (k2 < xm) = false := decide_eq_false hlt2
                have HSX : Hid (sxy = true) := by
                  unfold Hid; rw [HSE.out, HSA.out.2.2 (by have := HXM.out; have := HYM.out; have := HML.out; omega) fun j a b h1 h2 => HA2.out j a b (by
                    have := HXM.out
                    rcases Nat.lt_or_ge j xl_.length with h' | h'
                    · omega
                    · rw [List.getElem?_eq_none h'] at h1; cases h1) h1 h2]; rfl
                clear HA2
                have HRX2 := Lib.hid (HRX.out HSX.out)
                have HB9 : Hid (Below wa.heap.size wa wr) := HBY.out.trans (HW2.out.mono HBY.out.size)
                clear HRX HNO HSX
                go_wp2_with fail
                go_roundw
                case rel => exact ⟨k + 1, by omega, by go_num, HB9.out, HRX2⟩
                case measure => simp [intOf]; omega
          · have z1 : decide ((k : Int) < (np : Int)) = false := decide_eq_false (by omega)
            have z2 : decide (k < np) = false := decide_eq_false hlt
            have HALL : Hid (eqL sameP ps qs = true) := (eqL_iff sameP ps qs (by have := HMnp.out; have := HNnp.out; omega)).2 fun j x y h1 h2 => HA.out j x y (by
              have := HMnp.out
              rcases Nat.lt_or_ge j ps.length with h' | h'
              · omega
              · rw [List.getElem?_eq_none h'] at h1; cases h1) h1 h2
            clear HA
            go_wp2_with fail
            go_meet
            exact ⟨HW.out, HALL⟩
      case rest =>
        obtain ⟨HBP, HALP⟩ := hcut
        have HRP : Hid (R3 = true) := HR3.out.trans HALP.out
        clear c0 c1 c2 d0 d1 d2
        go_wp2_with fail
        go_ret
        exact ⟨ret_bool (by rw [HRE.out, HRV.out, HRP.out]; rfl), HBA.out.trans (HBP.out.mono HBA.out.size)⟩
end Go.Proofs.YtnlepdkbcjjkdaaGreatDoor
