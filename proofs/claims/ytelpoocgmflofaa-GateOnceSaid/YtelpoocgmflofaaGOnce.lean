/- GateOnce is true: the statement Rows.GateOnceSaid, without a condition. -/
import Derived.Test.YtelpoocgmflofaaGonc
import Derived.Test.YtelpoocgmflofaaGliv
namespace Go.Proofs.Ytelpoocgmflofaa.GOnce
open Go.ChangeShapes Go.WideShapes Go.ChangeAt Go.RowKit GatM LitM

theorem own_knob : ownKnob Try.prog.godebug = none := by kernel_rfl
theorem laid_out : laidOutB Try.prog = true := by kernel_rfl
set_option maxHeartbeats 6400000 in
set_option maxRecDepth 100000 in
theorem walk (nn : Int) (A : Option Addr) (n c : Nat) (K : Nat → Int) (P : Nat → List Int)  (w : World) (hx : RdQ w w.heap.size A n K P) :
    Calls Try.prog 9 #[.int .i64 nn, .slice A n c] w fun e w' => e = .returned (.bool true) ∧ Below w.heap.size w w' := by
  have HX := Lib.hid hx
  clear hx
  go_enter Try.func9, Try.ntmps9
  go_wp2_with fail
  refine (galive_any w).mono ?_
  rintro e w1 ⟨rfl, hb1⟩
  by_cases hv0 : nn < 0
  · have t1 : decide (nn < 0) = true := decide_eq_true hv0
    go_wp2_with fail
    go_ret
    exact ⟨rfl, hb1⟩
  have t1 : decide (nn < 0) = false := decide_eq_false hv0
  by_cases hv1 : 6 < nn
  · have t2 : decide (6 < nn) = true := decide_eq_true hv1
    go_wp2_with fail
    go_ret
    exact ⟨rfl, hb1⟩
  have t2 : decide (6 < nn) = false := decide_eq_false hv1
  by_cases hv2 : 40 < n
  · have t3 : decide (40 < n) = true := decide_eq_true hv2
    have t4 : decide (40 < (n : Int)) = true := decide_eq_true (by omega)
    go_wp2_with fail
    go_ret
    exact ⟨rfl, hb1⟩
  have t3 : decide (40 < n) = false := decide_eq_false hv2
  have t4 : decide (40 < (n : Int)) = false := decide_eq_false (by omega)
  obtain ⟨N, rfl⟩ : ∃ N : Nat, nn = (N : Int) := ⟨nn.toNat, by omega⟩
  have hN : N ≤ 6 := by omega
  have HBW : Hid (∀ W, Below w1.heap.size w1 W → Below w.heap.size w W) := fun W hW => hb1.trans (hW.mono hb1.size)
  have HXW : Hid (∀ W, Below w1.heap.size w1 W → RdQ W W.heap.size A n K P) := fun W hW => HX.out.belo (HBW.out W hW)
  have HS := Lib.hid (gstart_any N hN w1)
  clear hb1 HX
  go_wp2_with fail
  refine HS.out.mono ?_
  rintro e w2 ⟨bk, rfl, hst⟩
  have HM0 : Hid (MAt w1 bk (runS N K P 0) w2) := hst
  clear hst HS t1 t2 t3 t4 hv0 hv1
  go_wp2_with fail
  go_loopw [41] (fun iv wr => ∃ j : Nat, iv = .int .i64 (j : Int) ∧ j ≤ n ∧ Hid (∀ i, i < j → (P i).length ≤ 10) ∧ Hid (MAt w1 bk (runS N K P j) wr)) (fun iv _ => n - (intOf iv).toNat)
  case atStart => exact ⟨0, rfl, by omega, Lib.hid fun i hi => absurd hi (by omega), HM0⟩
  case round =>
    clear HM0
    obtain ⟨j, rfl, hj, HP, HM⟩ := hrel
    have HL : Hid (Below w1.heap.size w1 wr) := by
      obtain ⟨k, c, _, h⟩ := HM.out
      exact h.lv.be
    by_cases hlt : j < n
    case neg =>
      obtain rfl : j = n := by omega
      have tj : decide (j < j) = false := decide_eq_false (by omega)
      have tj2 : decide ((j : Int) < (j : Int)) = false := decide_eq_false (by omega)
      have HO := Lib.hid (okRun N hN K P j HP.out)
      have HI : Hid ((insL (runS N K P j).1).length = N) := Lib.hid (by rw [runIns N K P j, startIns])
      clear HXW
      generalize runS N K P j = s at *
      obtain ⟨k, c, hk, hm⟩ := HM.out
      subst hk
      have HMk := Lib.hid hm
      clear hm HM HP
      obtain ⟨gs, E, T⟩ := s
      replace HMk : Hid (Mkr w1.heap.size w1 wr k c gs E T) := HMk
      replace HO : Hid (OkS (gs, E, T) (N + 1 + 11 * j) (N + 2 + j)) := HO
      have hgl : gs.length ≤ 1000 := by have : gs.length ≤ _ := HO.out.gts; omega
      have HWf : Hid (Wf gs) := HO.out.wf
      obtain ⟨bg, hbg⟩ : ∃ bg, bg = c.bg := ⟨_, rfl⟩
      have HMo : Hid (Mo w1 k.bk bg gs wr) := ⟨k, c, E, T, rfl, hbg.symm, HMk.out⟩
      clear HMk HO HI hbg HL
      obtain ⟨bk, hbk⟩ : ∃ b, b = k.bk := ⟨_, rfl⟩
      rw [← hbk] at HMo ⊢
      clear hbk
      obtain ⟨G, hG⟩ : ∃ G, G = gs.length := ⟨_, rfl⟩
      have HG := Lib.hid hG
      have hG1 : G ≤ 1000 := by omega
      clear hG hgl
      go_wp2_with fail
      go_loopw [11] (fun iv wq => ∃ t : Nat, iv = .int .i64 (t : Int) ∧ t ≤ G ∧ Hid (Mo w1 bk bg gs wq)) (fun iv _ => G - (intOf iv).toNat)
      case atStart => exact ⟨0, rfl, Nat.zero_le _, HMo⟩
      case round =>
        clear HMo
        obtain ⟨i, rfl, hi, HM⟩ := hrel
        have HLN := Lib.hid HM.out.len_
        have y0 := HM.out.c0
        rw [← HG.out] at HLN
        by_cases hlt : i < G
        · have tk : decide ((i : Int) < (G : Int)) = true := decide_eq_true (by omega)
          have tk2 : decide (i < G) = true := decide_eq_true hlt
          have hiG : i < gs.length := by rw [← HG.out]; exact hlt
          have hG8 : gs.length ≤ 80000 := by rw [← HG.out]; omega
          have HPA := Lib.hid (HM.out.parts hG8 i hiG)
          go_wp2_with fail
          refine HLN.out.mono ?_
          rintro e w' ⟨rfl, rfl⟩
          clear HLN
          by_cases hob : andB gs i = true
          · obtain ⟨f1, f2, f3, f4⟩ := and_facts HWf.out hiG hob
            rw [hob] at HPA
            have HON : Hid (∀ t, t < i → ∃ c d ob, Hid (∀ W, Mo w1 bk bg gs W → Calls Try.prog 32 #[.pointer (some ⟨bg, 0, none⟩), .int .i64 (t : Int)] W fun e w' => e = .returned (.tuple #[.int .u32 ((c : Nat) : Int), .int .u32 ((d : Nat) : Int), .bool ob]) ∧ Below W.heap.size W w') ∧ Hid (ob = true → (getG gs i).1 = c → (getG gs i).2 ≠ d)) := fun t ht => by
              refine ⟨(getG gs t).1, (getG gs t).2, andB gs t, fun W h => h.parts hG8 t (by omega), fun h a b => ?_⟩
              exact once_no HWf.out hiG ht ⟨of_decide_eq_true h, a, b⟩
            generalize (getG gs i).1 = a at *
            generalize (getG gs i).2 = b at *
            have hb32 : b < 4294967296 := by omega
            have xa := xor_one (a := a) (by omega)
            have HXE : Hid (((turnE a : Nat) : Int) ≠ (b : Int)) := fun h => f4 (by omega)
            generalize turnE a = ta at *
            have s1 : decide ((b : Int) ≤ (a : Int)) = false := decide_eq_false (by omega)
            have s2 : decide (b ≤ a) = false := decide_eq_false (by omega)
            have s3 : decide ((a : Int) < 2) = false := decide_eq_false (by omega)
            have s4 : decide (a < 2) = false := decide_eq_false (by omega)
            have s5 : decide ((i : Int) ≤ ((b / 2 : Nat) : Int)) = false := decide_eq_false (by omega)
            have s6 : decide (i ≤ b / 2) = false := decide_eq_false (by omega)
            have s9 : decide ((i : Int) ≤ (b : Int) / 2) = false := decide_eq_false (by omega)
            have s7 : ((ta : Int) == (b : Int)) = false := beq_eq_false_iff_ne.2 HXE.out
            have s8 : (ta == b) = false := beq_eq_false_iff_ne.2 (fun h => HXE.out (by rw [h]))
            clear hob f1 f2 f3 f4
            go_wp2_with fail
            refine HPA.out.mono ?_
            rintro e wp ⟨rfl, hbp⟩
            have HMp := Lib.hid (HM.out.below hbp)
            clear HM HPA hbp y0
            go_wp2_with fail
            clear xa s1 s2 s3 s4 s5 s6 s7 s8 s9 HXE
            go_loopw [15] (fun iv wq => ∃ t : Nat, iv = .int .i64 (t : Int) ∧ t ≤ i ∧ Hid (Mo w1 bk bg gs wq)) (fun iv _ => i - (intOf iv).toNat)
            case atStart => exact ⟨0, rfl, Nat.zero_le _, HMp⟩
            case round =>
              clear HMp
              obtain ⟨t, rfl, ht, HM⟩ := hrel
              have y0 := HM.out.c0
              by_cases hti : t < i
              · have tl : decide ((t : Int) < (i : Int)) = true := decide_eq_true (by omega)
                have tl2 : decide (t < i) = true := decide_eq_true hti
                obtain ⟨cc, d, ob, HPq, HNE⟩ := HON.out t hti
                have HPt := Lib.hid (HPq.out wr HM.out)
                clear HPq
                go_wp2_with fail
                refine HPt.out.mono ?_
                rintro e wq ⟨rfl, hbq⟩
                have HMq := Lib.hid (HM.out.below hbq)
                clear HM HPt hbq y0
                cases ob
                · go_wp2_with fail
                  go_roundw
                  case rel => exact ⟨t + 1, by go_num, by omega, HMq⟩
                  case measure => simp [intOf]; omega
                · by_cases hac : a = cc
                  · have hbd : b ≠ d := HNE.out rfl hac
                    have v1 : ((a : Int) == (cc : Int)) = true := by rw [hac]; simp
                    have v2 : (a == cc) = true := by rw [hac]; simp
                    have v3 : ((b : Int) == (d : Int)) = false := beq_eq_false_iff_ne.2 (by omega)
                    have v4 : (b == d) = false := beq_eq_false_iff_ne.2 hbd
                    clear hac
                    go_wp2_with fail
                    go_roundw
                    case rel => exact ⟨t + 1, by go_num, by omega, HMq⟩
                    case measure => simp [intOf]; omega
                  · have v1 : ((a : Int) == (cc : Int)) = false := beq_eq_false_iff_ne.2 (by omega)
                    have v2 : (a == cc) = false := beq_eq_false_iff_ne.2 hac
                    go_wp2_with fail
                    go_roundw
                    case rel => exact ⟨t + 1, by go_num, by omega, HMq⟩
                    case measure => simp [intOf]; omega
              · have tl : decide ((t : Int) < (i : Int)) = false := decide_eq_false (by omega)
                have tl2 : decide (t < i) = false := decide_eq_false hti
                clear y0
                go_wp2_with fail
                go_roundw
                case rel => exact ⟨i + 1, by go_num, by omega, HM⟩
                case measure => simp [intOf]; omega
          · obtain ⟨f1, f2⟩ := and_none (by simpa using hob)
            rw [f1, f2, show andB gs i = false by simpa using hob] at HPA
            clear hob f1 f2
            go_wp2_with fail
            refine HPA.out.mono ?_
            rintro e wp ⟨rfl, hbp⟩
            have HMp := Lib.hid (HM.out.below hbp)
            clear HM HPA hbp y0
            go_wp2_with fail
            go_roundw
            case rel => exact ⟨i + 1, by go_num, by omega, HMp⟩
            case measure => simp [intOf]; omega
        · have tk : decide ((i : Int) < (G : Int)) = false := decide_eq_false (by omega)
          have tk2 : decide (i < G) = false := decide_eq_false hlt
          go_wp2_with fail
          refine HLN.out.mono ?_
          rintro e w' ⟨rfl, rfl⟩
          clear tk tk2
          go_upto_region 37 with (fail)
          refine wp_region_any (by kernel_rfl) ?_
          change wpAny _ _ _ _ _ _ _ (World.drew _)
          obtain ⟨wd, hwd⟩ : ∃ wd, wd = wr.drew := ⟨_, rfl⟩
          rw [← hwd]
          have HMd : Hid (Mo w1 bk bg gs wd) := by rw [hwd]; exact HM.out.below (Below.refl _ _).drew
          have HLd := Lib.hid HMd.out.len_
          have HOd := Lib.hid HMd.out.out
          rw [← HG.out] at HLd HOd
          have z0 := HMd.out.c0
          clear hwd HM y0
          refine wpAny_take (i := 0) (v := ?_) rfl (by kernel_rfl) (by kernel_rfl) (by kernel_rfl) (fun _ _ _ h => h) (Or.inl ⟨by kernel_rfl, ?_⟩) ?_
          rotate_left 1
          · (intro w; go_simp <;> with_reducible rfl)
          go_simp
          refine wpAny_take (i := 1) (v := ?_) rfl (by kernel_rfl) (by kernel_rfl) (by kernel_rfl) (fun _ _ _ h => h) (Or.inl ⟨by kernel_rfl, ?_⟩) ?_
          rotate_left 1
          · (intro w; go_simp <;> with_reducible rfl)
          go_simp
          refine wpAny_take (i := 2) (v := ?_) rfl (by kernel_rfl) (by kernel_rfl) (by kernel_rfl) (fun _ _ _ h => h) (Or.inl ⟨by kernel_rfl, ?_⟩) ?_
          rotate_left 1
          · (intro w; go_simp <;> with_reducible rfl)
          go_simp
          refine wpAny_take (i := 4) (v := ?_) rfl (by kernel_rfl) (by kernel_rfl) (by kernel_rfl) (fun _ _ _ h => h) (Or.inl ⟨by kernel_rfl, ?_⟩) ?_
          rotate_left 1
          · (intro w; go_simp <;> with_reducible rfl)
          go_simp
          refine wpAny_take (i := 5) (v := ?_) rfl (by kernel_rfl) (by kernel_rfl) (by kernel_rfl) (fun _ _ _ h => h) (Or.inl ⟨by kernel_rfl, ?_⟩) ?_
          rotate_left 1
          · (intro w; go_simp <;> with_reducible rfl)
          go_simp
          refine wpAny_take (i := 6) (v := ?_) rfl (by kernel_rfl) (by kernel_rfl) (by kernel_rfl) (fun _ _ _ h => h) (Or.inl ⟨by kernel_rfl, ?_⟩) ?_
          rotate_left 1
          · (intro w; go_simp <;> with_reducible rfl)
          go_simp
          refine wpAny_ready (rs := [3, 7]) (by kernel_rfl) (by simp) ?_
          refine AllReady.cons rfl (fun K hK => ?_) ?_
          ·
            go_simp
            refine hK _ _ ?_; clear hK K
            refine wpAny_ready (rs := [7]) (by kernel_rfl) (by simp) ?_
            refine AllReady.cons rfl (fun K hK => ?_) ?_
            ·
              go_simp
              refine hK _ _ ?_; clear hK K
              refine wpAny_ready (rs := [8]) (by kernel_rfl) (by simp) ?_
              refine AllReady.cons rfl (fun K hK => ?_) ?_
              ·
                go_simp
                go_wp2_with ((go_at_call 28; refine HLd.out.mono ?_; rintro e2 w' ⟨rfl, rfl⟩))
                first | (refine hK _ _ ?_; clear hK K) | skip
                refine wpAny_ready (rs := [9]) (by kernel_rfl) (by simp) ?_
                refine AllReady.cons rfl (fun K hK => ?_) ?_
                ·
                  go_simp
                  go_wp2_with ((go_at_call 32; refine HOd.out.mono ?_; rintro e2 w' ⟨rfl, rfl⟩))
                  first | (refine hK _ _ ?_; clear hK K) | skip
                  refine wpAny_take (i := 10) (v := ?_) rfl (by kernel_rfl) (by kernel_rfl) (by kernel_rfl) (fun _ _ _ h => h) (Or.inl ⟨by kernel_rfl, ?_⟩) ?_
                  rotate_left 1
                  · (intro w; go_simp <;> with_reducible rfl)
                  go_simp
                  refine wpAny_take (i := 11) (v := ?_) rfl (by kernel_rfl) (by kernel_rfl) (by kernel_rfl) (fun _ _ _ h => h) (Or.inl ⟨by kernel_rfl, ?_⟩) ?_
                  rotate_left 1
                  · (intro w; go_simp <;> with_reducible rfl)
                  go_simp
                  refine wpAny_take (i := 14) (v := ?_) rfl (by kernel_rfl) (by kernel_rfl) (by kernel_rfl) (fun _ _ _ h => h) (Or.inl ⟨by kernel_rfl, ?_⟩) ?_
                  rotate_left 1
                  · (intro w; go_simp <;> with_reducible rfl)
                  go_simp
                  refine wpAny_take (i := 12) (v := ?_) rfl (by kernel_rfl) (by kernel_rfl) (by kernel_rfl) (fun _ _ _ h => h) (Or.inl ⟨by kernel_rfl, ?_⟩) ?_
                  rotate_left 1
                  · (intro w; go_simp <;> with_reducible rfl)
                  go_simp
                  refine wpAny_take (i := 15) (v := ?_) rfl (by kernel_rfl) (by kernel_rfl) (by kernel_rfl) (fun _ _ _ h => h) (Or.inl ⟨by kernel_rfl, ?_⟩) ?_
                  rotate_left 1
                  · (intro w; go_simp <;> with_reducible rfl)
                  go_simp
                  refine wpAny_take (i := 13) (v := ?_) rfl (by kernel_rfl) (by kernel_rfl) (by kernel_rfl) (fun _ _ _ h => h) (Or.inl ⟨by kernel_rfl, ?_⟩) ?_
                  rotate_left 1
                  · (intro w; go_simp <;> with_reducible rfl)
                  go_simp
                  refine wpAny_take (i := 16) (v := ?_) rfl (by kernel_rfl) (by kernel_rfl) (by kernel_rfl) (fun _ _ _ h => h) (Or.inl ⟨by kernel_rfl, ?_⟩) ?_
                  rotate_left 1
                  · (intro w; go_simp <;> with_reducible rfl)
                  go_simp
                  refine wpAny_done (by kernel_rfl) ?_ _
                  clear z0
                  go_wp2_with fail
                  go_ret
                  exact ⟨rfl, HBW.out _ HMd.out.be⟩
                exact AllReady.nil
              exact AllReady.nil
            exact AllReady.nil
          refine AllReady.cons rfl (fun K hK => ?_) ?_
          ·
            go_simp
            refine hK _ _ ?_; clear hK K
            refine wpAny_ready (rs := [3, 8]) (by kernel_rfl) (by simp) ?_
            refine AllReady.cons rfl (fun K hK => ?_) ?_
            ·
              go_simp
              refine hK _ _ ?_; clear hK K
              refine wpAny_ready (rs := [8]) (by kernel_rfl) (by simp) ?_
              refine AllReady.cons rfl (fun K hK => ?_) ?_
              ·
                go_simp
                go_wp2_with ((go_at_call 28; refine HLd.out.mono ?_; rintro e2 w' ⟨rfl, rfl⟩))
                first | (refine hK _ _ ?_; clear hK K) | skip
                refine wpAny_ready (rs := [9]) (by kernel_rfl) (by simp) ?_
                refine AllReady.cons rfl (fun K hK => ?_) ?_
                ·
                  go_simp
                  go_wp2_with ((go_at_call 32; refine HOd.out.mono ?_; rintro e2 w' ⟨rfl, rfl⟩))
                  first | (refine hK _ _ ?_; clear hK K) | skip
                  refine wpAny_take (i := 10) (v := ?_) rfl (by kernel_rfl) (by kernel_rfl) (by kernel_rfl) (fun _ _ _ h => h) (Or.inl ⟨by kernel_rfl, ?_⟩) ?_
                  rotate_left 1
                  · (intro w; go_simp <;> with_reducible rfl)
                  go_simp
                  refine wpAny_take (i := 11) (v := ?_) rfl (by kernel_rfl) (by kernel_rfl) (by kernel_rfl) (fun _ _ _ h => h) (Or.inl ⟨by kernel_rfl, ?_⟩) ?_
                  rotate_left 1
                  · (intro w; go_simp <;> with_reducible rfl)
                  go_simp
                  refine wpAny_take (i := 14) (v := ?_) rfl (by kernel_rfl) (by kernel_rfl) (by kernel_rfl) (fun _ _ _ h => h) (Or.inl ⟨by kernel_rfl, ?_⟩) ?_
                  rotate_left 1
                  · (intro w; go_simp <;> with_reducible rfl)
                  go_simp
                  refine wpAny_take (i := 12) (v := ?_) rfl (by kernel_rfl) (by kernel_rfl) (by kernel_rfl) (fun _ _ _ h => h) (Or.inl ⟨by kernel_rfl, ?_⟩) ?_
                  rotate_left 1
                  · (intro w; go_simp <;> with_reducible rfl)
                  go_simp
                  refine wpAny_take (i := 15) (v := ?_) rfl (by kernel_rfl) (by kernel_rfl) (by kernel_rfl) (fun _ _ _ h => h) (Or.inl ⟨by kernel_rfl, ?_⟩) ?_
                  rotate_left 1
                  · (intro w; go_simp <;> with_reducible rfl)
                  go_simp
                  refine wpAny_take (i := 13) (v := ?_) rfl (by kernel_rfl) (by kernel_rfl) (by kernel_rfl) (fun _ _ _ h => h) (Or.inl ⟨by kernel_rfl, ?_⟩) ?_
                  rotate_left 1
                  · (intro w; go_simp <;> with_reducible rfl)
                  go_simp
                  refine wpAny_take (i := 16) (v := ?_) rfl (by kernel_rfl) (by kernel_rfl) (by kernel_rfl) (fun _ _ _ h => h) (Or.inl ⟨by kernel_rfl, ?_⟩) ?_
                  rotate_left 1
                  · (intro w; go_simp <;> with_reducible rfl)
                  go_simp
                  refine wpAny_done (by kernel_rfl) ?_ _
                  clear z0
                  go_wp2_with fail
                  go_ret
                  exact ⟨rfl, HBW.out _ HMd.out.be⟩
                exact AllReady.nil
              exact AllReady.nil
            refine AllReady.cons rfl (fun K hK => ?_) ?_
            ·
              go_simp
              go_wp2_with ((go_at_call 28; refine HLd.out.mono ?_; rintro e2 w' ⟨rfl, rfl⟩))
              first | (refine hK _ _ ?_; clear hK K) | skip
              refine wpAny_ready (rs := [3]) (by kernel_rfl) (by simp) ?_
              refine AllReady.cons rfl (fun K hK => ?_) ?_
              ·
                go_simp
                refine hK _ _ ?_; clear hK K
                refine wpAny_ready (rs := [9]) (by kernel_rfl) (by simp) ?_
                refine AllReady.cons rfl (fun K hK => ?_) ?_
                ·
                  go_simp
                  go_wp2_with ((go_at_call 32; refine HOd.out.mono ?_; rintro e2 w' ⟨rfl, rfl⟩))
                  first | (refine hK _ _ ?_; clear hK K) | skip
                  refine wpAny_take (i := 10) (v := ?_) rfl (by kernel_rfl) (by kernel_rfl) (by kernel_rfl) (fun _ _ _ h => h) (Or.inl ⟨by kernel_rfl, ?_⟩) ?_
                  rotate_left 1
                  · (intro w; go_simp <;> with_reducible rfl)
                  go_simp
                  refine wpAny_take (i := 11) (v := ?_) rfl (by kernel_rfl) (by kernel_rfl) (by kernel_rfl) (fun _ _ _ h => h) (Or.inl ⟨by kernel_rfl, ?_⟩) ?_
                  rotate_left 1
                  · (intro w; go_simp <;> with_reducible rfl)
                  go_simp
                  refine wpAny_take (i := 14) (v := ?_) rfl (by kernel_rfl) (by kernel_rfl) (by kernel_rfl) (fun _ _ _ h => h) (Or.inl ⟨by kernel_rfl, ?_⟩) ?_
                  rotate_left 1
                  · (intro w; go_simp <;> with_reducible rfl)
                  go_simp
                  refine wpAny_take (i := 12) (v := ?_) rfl (by kernel_rfl) (by kernel_rfl) (by kernel_rfl) (fun _ _ _ h => h) (Or.inl ⟨by kernel_rfl, ?_⟩) ?_
                  rotate_left 1
                  · (intro w; go_simp <;> with_reducible rfl)
                  go_simp
                  refine wpAny_take (i := 15) (v := ?_) rfl (by kernel_rfl) (by kernel_rfl) (by kernel_rfl) (fun _ _ _ h => h) (Or.inl ⟨by kernel_rfl, ?_⟩) ?_
                  rotate_left 1
                  · (intro w; go_simp <;> with_reducible rfl)
                  go_simp
                  refine wpAny_take (i := 13) (v := ?_) rfl (by kernel_rfl) (by kernel_rfl) (by kernel_rfl) (fun _ _ _ h => h) (Or.inl ⟨by kernel_rfl, ?_⟩) ?_
                  rotate_left 1
                  · (intro w; go_simp <;> with_reducible rfl)
                  go_simp
                  refine wpAny_take (i := 16) (v := ?_) rfl (by kernel_rfl) (by kernel_rfl) (by kernel_rfl) (fun _ _ _ h => h) (Or.inl ⟨by kernel_rfl, ?_⟩) ?_
                  rotate_left 1
                  · (intro w; go_simp <;> with_reducible rfl)
                  go_simp
                  refine wpAny_done (by kernel_rfl) ?_ _
                  clear z0
                  go_wp2_with fail
                  go_ret
                  exact ⟨rfl, HBW.out _ HMd.out.be⟩
                exact AllReady.nil
              exact AllReady.nil
            exact AllReady.nil
          exact AllReady.nil
    have tj : decide (j < n) = true := decide_eq_true hlt
    have tj2 : decide ((j : Int) < (n : Int)) = true := decide_eq_true (by omega)
    obtain ⟨bx, o, Aj, cj, hA, hbx, y0, y1, hrd, hlm⟩ := (HXW.out _ (Below.refl _ _)).at_ j hlt
    have x0 := (HL.out.cell (p := ⟨bx, o + j * 2, none⟩) hbx).trans y0
    have x1 := (HL.out.cell (p := ⟨bx, o + j * 2 + 1, none⟩) hbx).trans y1
    have HRD : Hid (∀ W, Below w1.heap.size w1 W → Rd .i64 W W.heap.size Aj (P j).length (P j)) := fun W hW => (hrd.below hW).more hW.size
    clear y0 y1
    rw [hA]
    by_cases h10 : 10 < (P j).length
    · have tk : decide (10 < (P j).length) = true := decide_eq_true h10
      have tk2 : decide (10 < (((P j).length : Nat) : Int)) = true := decide_eq_true (by omega)
      have HBX := HBW.out _ HL.out
      have HBA : Hid (Below w.heap.size w (wr.alloc (.cells #[.int .i64 (K j), .slice Aj (P j).length cj] 61))) := HBX.trans ((Below.refl _ _).alloc HBX.size _)
      clear hrd HRD HM HP HL
      generalize (P j).length = m at *
      generalize K j = kk at *
      go_upto_region 11 with (fail)
      obtain ⟨ba, hba⟩ : ∃ ba, ba = wr.heap.size := ⟨_, rfl⟩
      obtain ⟨wa, hwa⟩ : ∃ wa, wa = wr.alloc (.cells #[.int .i64 kk, .slice Aj m cj] 61) := ⟨_, rfl⟩
      have HA1 : Hid (wa.cell? ⟨ba, 1, none⟩ = some (.slice Aj m cj)) := by rw [hwa, hba, Lib.cell_of_heap (blk_new wr _)]; rfl
      rw [← hwa, ← hba]
      rw [← hwa] at HBA
      have a1 := HA1.out
      clear hwa hba x0 x1 HA1
      go_wp2_with fail
      go_ret
      exact ⟨rfl, HBA.out⟩
    have tk : decide (10 < (P j).length) = false := decide_eq_false h10
    have tk2 : decide (10 < (((P j).length : Nat) : Int)) = false := decide_eq_false (by omega)
    have HO := Lib.hid (okRun N hN K P j HP.out)
    have HRN : Hid (runS N K P (j + 1) = stepS (runS N K P j) (K j) (P j)) := rfl
    have HCA : Hid (∀ wa, wa = wr.alloc (.cells #[.int .i64 (K j), .slice Aj (P j).length cj] 61) → Calls Try.prog 31 #[.pointer (some ⟨bk, 0, none⟩), .agg #[.int .i64 (K j), .slice Aj (P j).length cj]] wa fun e w' => e = .returned (.bool true) ∧ Hid (MAt w1 bk (runS N K P (j + 1)) w') ∧ Hid (w'.heap[wr.heap.size]? = wa.heap[wr.heap.size]? ∧ wr.heap.size < w'.heap.size)) := fun wa hwa => by
      subst hwa
      have hb : Below wr.heap.size wr (wr.alloc (.cells #[.int .i64 (K j), .slice Aj (P j).length cj] 61)) := (Below.refl _ _).alloc (Nat.le_refl _) _
      exact MAt.do2 HM.out HO.out (by omega) (by omega) (by omega) _ (K j) Aj (P j).length cj (P j) (HRD.out _ (HL.out.trans (hb.mono HL.out.size))) (by omega)
    have HP2 : Hid (∀ i, i < j + 1 → (P i).length ≤ 10) := fun i hi => by
      by_cases h : i < j
      · exact HP.out i h
      · obtain rfl : i = j := by omega
        omega
    clear hrd HM HP HL HRN
    obtain ⟨m, hm⟩ : ∃ m, m = (P j).length := ⟨_, rfl⟩
    obtain ⟨kk, hkk⟩ : ∃ kk, kk = K j := ⟨_, rfl⟩
    rw [← hm] at x1 tk tk2 HCA
    rw [← hkk] at x0 HCA
    have hm10 : m ≤ 10 := by omega
    have HMM := Lib.hid hm
    have HKK := Lib.hid hkk
    clear hm hkk hlm h10
    go_upto_region 11 with (fail)
    obtain ⟨ba, hba⟩ : ∃ ba, ba = wr.heap.size := ⟨_, rfl⟩
    obtain ⟨wa, hwa⟩ : ∃ wa, wa = wr.alloc (.cells #[.int .i64 kk, .slice Aj m cj] 61) := ⟨_, rfl⟩
    have HA1 : Hid (wa.cell? ⟨ba, 0, none⟩ = some (.int .i64 kk) ∧ wa.cell? ⟨ba, 1, none⟩ = some (.slice Aj m cj)) := by
      refine ⟨?_, ?_⟩
      all_goals (rw [hwa, hba, Lib.cell_of_heap (blk_new wr _)]; rfl)
    have HCW := Lib.hid (HCA.out wa hwa)
    rw [← hwa, ← hba]
    obtain ⟨a0, a1⟩ := HA1.out
    have HBA := Lib.hid hba
    clear hwa hba x0 x1 HCA
    go_wp2_with fail
    refine HCW.out.mono ?_
    rintro e w3 ⟨rfl, HM3, HB3⟩
    have HAC : Hid (∀ W, Below w3.heap.size w3 W → W.cell? ⟨ba, 0, none⟩ = some (.int .i64 kk) ∧ W.cell? ⟨ba, 1, none⟩ = some (.slice Aj m cj)) := fun W hW => by
      have hh := hW.block ba (by rw [HBA.out]; exact HB3.out.2)
      rw [HBA.out, HB3.out.1, ← HBA.out] at hh
      have c0 := HA1.out.1
      have c1 := HA1.out.2
      simp only [World.cell?, hh] at c0 c1 ⊢
      exact ⟨c0, c1⟩
    clear HCW HB3 HA1
    have HRN : Hid (runS N K P (j + 1) = stepS (runS N K P j) kk (P j)) := by rw [HKK.out]; rfl
    rw [HRN.out] at HM3
    have HBW3 : Hid (Below w1.heap.size w1 w3) := by
      obtain ⟨k, c, _, h⟩ := HM3.out
      exact h.lv.be
    obtain ⟨s, hs⟩ : ∃ s, s = runS N K P j := ⟨_, rfl⟩
    rw [← hs] at HM3 HO HRN
    obtain ⟨ps, hps⟩ : ∃ ps, ps = P j := ⟨_, rfl⟩
    rw [← hps] at HM3 HRN HRD HMM
    clear hs hps HKK
    have hoe : 2 ≤ N + 2 + j := by omega
    have hpl : ps.length ≤ 10 := by rw [← HMM.out]; exact hm10
    have HO2 := Lib.hid (HO.out.step (k := kk) hoe hpl)
    obtain ⟨k, c, rfl, h3⟩ := HM3.out
    obtain ⟨e, he⟩ : ∃ e, e = N + 2 + j := ⟨_, rfl⟩
    have hE : s.2.1.length = e := by rw [HO.out.len, he]
    have hT : s.2.2.length = e := by rw [HO.out.agr.len, hE]
    obtain ⟨r, hr⟩ : ∃ r, r = (actG s.1 kk (argE s.2.1 ps)).1 := ⟨_, rfl⟩
    obtain ⟨tt, htt⟩ : ∃ tt, tt = actT kk (argT s.2.2 ps) := ⟨_, rfl⟩
    have h3' : Mkr w1.heap.size w1 w3 k c (stepS s kk ps).1 (s.2.1 ++ [r]) (s.2.2 ++ [tt]) := by rw [hr, htt]; exact h3
    have HK := Lib.hid h3'
    have HR0 : Hid ((stepS s kk ps).2.1 = s.2.1 ++ [r]) := by rw [hr]; rfl
    have HT0 : Hid ((stepS s kk ps).2.2 = s.2.2 ++ [tt]) := by rw [htt]; rfl
    have hlE : (s.2.1 ++ [r]).length = e + 1 := by simp [hE]
    have hlT : (s.2.2 ++ [tt]).length = e + 1 := by simp [hT]
    obtain ⟨p0, p1, p2, _⟩ := h3'.mk'.cells
    rw [hlE] at p1
    rw [hlT] at p2
    have her := h3'.mk'.er
    have htr := h3'.mk'.tr
    rcases her with ⟨_, q, _⟩ | ⟨ge, hge, her⟩
    · rw [hlE] at q; omega
    rcases htr with ⟨_, q, _⟩ | ⟨gt, hgt, htr⟩
    · rw [hlT] at q; omega
    rw [hge] at p1
    rw [hgt] at p2
    have b1 := her.bd
    have b2 := htr.bd
    rw [hlE] at b1
    rw [hlT] at b2
    have HER := Lib.hid her
    have HTR := Lib.hid htr
    have HLN := Lib.hid h3'.lv.len_
    obtain ⟨G, hG⟩ : ∃ G, G = (stepS s kk ps).1.length := ⟨_, rfl⟩
    rw [← hG] at HLN
    have HG := Lib.hid hG
    have he1000 : e ≤ 100 := by omega
    obtain ⟨bg, hbg⟩ : ∃ bg, bg = c.bg := ⟨_, rfl⟩
    rw [← hbg] at p0 HLN
    have HBG := Lib.hid hbg
    have HEE := Lib.hid he
    have HLE := Lib.hid hE
    have HLT := Lib.hid hT
    clear hr htt hE hT hlE hlT her htr h3 h3' hG hbg hge hgt he HM3 hpl
    go_wp2_with fail
    refine HLN.out.mono ?_
    rintro e2 w' ⟨rfl, rfl⟩
    clear HLN
    obtain ⟨e1, he1⟩ : ∃ e1, e1 = e + 1 := ⟨_, rfl⟩
    rw [← he1] at p1 p2 b1 b2
    have hei : (e1 : Int) - 1 = (e : Int) := by omega
    have HE1 := Lib.hid he1
    have hee : e < e1 := by omega
    clear he1
    go_upto_region 15 with (fail)
    go_still_tail 26, (by kernel_rfl)
    obtain ⟨w4, hw4⟩ : ∃ w4, w4 = w3.drew := ⟨_, rfl⟩
    rw [show ({ heap := w3.heap, tape := w3.tape, drawn := w3.drawn + 1, os := w3.os, output := w3.output } : World) = w4 from hw4.symm]
    replace p0 : w4.cell? ⟨k.bk, 0, none⟩ = some (.pointer (some ⟨bg, 0, none⟩)) := by rw [hw4]; exact p0
    replace p1 : w4.cell? ⟨k.bk, 1, none⟩ = some (.slice (some ⟨ge, 0, none⟩) e1 k.ce) := by rw [hw4]; exact p1
    replace p2 : w4.cell? ⟨k.bk, 2, none⟩ = some (.slice (some ⟨gt, 0, none⟩) e1 k.ct) := by rw [hw4]; exact p2
    have HB4 : Hid (Below w3.heap.size w3 w4) := by rw [hw4]; exact (Below.refl _ _).drew
    clear hw4
    have hwe : IntKind.i64.wrap (e : Int) = (e : Int) := IntWalk.i64_in _ (by omega)
    have hz1 : e ≤ k.ce := by omega
    have hz2 : e ≤ k.ct := by omega
    repeat still_step
    try refine wpStill_nil ?_
    clear hwe
    go_upto_region 16 with (fail)
    obtain ⟨bl, hbl⟩ : ∃ bl, bl = w4.heap.size := ⟨_, rfl⟩
    obtain ⟨w5, hw5⟩ : ∃ w5, w5 = w4.alloc (.cells #[.pointer (some ⟨bg, 0, none⟩), .slice (some ⟨ge, 0, none⟩) e k.ce, .slice (some ⟨gt, 0, none⟩) e k.ct] 65) := ⟨_, rfl⟩
    rw [← hw5, ← hbl]
    have h34 := HB4.out.size
    have hB5 : Below w3.heap.size w3 w5 := by rw [hw5]; exact HB4.out.alloc HB4.out.size _
    have HB5 : Hid (∀ q, Below w3.heap.size w3 (w5.drewN q)) := fun q => below_drewN hB5 q
    have HL5 : Hid (∀ q, (w5.drewN q).heap[bl]? = some (.cells #[.pointer (some ⟨bg, 0, none⟩), .slice (some ⟨ge, 0, none⟩) e k.ce, .slice (some ⟨gt, 0, none⟩) e k.ct] 65 (0, 0))) := fun q => by rw [hw5, hbl]; exact blk_new w4 _
    have HLS : Hid (w3.heap.size ≤ bl) := by show w3.heap.size ≤ bl; rw [hbl]; exact h34
    have hkb : k.bk < w4.heap.size := Nat.lt_of_lt_of_le (HK.out.mk'.lt (.inl rfl)) h34
    have x1 : w5.cell? ⟨k.bk, 1, none⟩ = some (.slice (some ⟨ge, 0, none⟩) e1 k.ce) := by rw [hw5, ((Below.refl w4.heap.size w4).alloc (Nat.le_refl _) _).cell (p := ⟨k.bk, 1, none⟩) hkb]; exact p1
    have hle1 : e < (s.2.1 ++ [r]).length := by rw [List.length_append, HLE.out]; simp
    have z0 : w5.cell? ⟨ge, e, none⟩ = some (.int .u32 (r : Int)) := by
      rw [(HER.out.same (hB5.block _ HER.out.lt)).cell (show e < (s.2.1 ++ [r]).length * 1 by omega)]
      have : (s.2.1 ++ [r]).getD e 0 = r := by rw [← HLE.out]; exact getD_end1 _ _
      show some (Value.int .u32 (((s.2.1 ++ [r]).getD e 0 : Nat) : Int)) = _
      rw [this]
    have te : decide ((e1 : Int) ≤ (e : Int)) = false := decide_eq_false (by omega)
    have te2 : decide (e1 ≤ e) = false := decide_eq_false (by omega)
    clear p0 p1 p2 hw5 hbl h34 hB5 hkb HB4 hle1
    go_upto_region 16 with (fail)
    go_quiet (fail)
    obtain ⟨w6, hw6⟩ : ∃ w6, w6 = w5.drewN nq := ⟨_, rfl⟩
    rw [← hw6]
    have HB6 : Hid (Below w3.heap.size w3 w6) := by rw [hw6]; exact HB5.out nq
    have HL6 : Hid (w6.heap[bl]? = some (.cells #[.pointer (some ⟨bg, 0, none⟩), .slice (some ⟨ge, 0, none⟩) e k.ce, .slice (some ⟨gt, 0, none⟩) e k.ct] 65 (0, 0))) := by rw [hw6]; exact HL5.out nq
    have y1 : (w6.alloc (.cells #[] 25)).cell? ⟨bl, 1, none⟩ = some (.slice (some ⟨ge, 0, none⟩) e k.ce) := by rw [Lib.cell_of_heap ((Below.heap_alloc _ _ _ (lt_of_heap HL6.out)).trans HL6.out)]; rfl
    have HSa : Hid (RowV 25 1 (w6.alloc (.cells #[] 25)) w6.heap.size 0 0 (fun _ => .int .u32 0)) := RowV.made (by omega) rfl (fun j hj => by omega)
    have HSRC : Hid (SlV 25 1 (w6.alloc (.cells #[] 25)) (some ⟨ge, 0, none⟩) e k.ce (numF .u32 s.2.1)) := by
      refine .inr ⟨ge, rfl, RowV.alloc (RowV.congr (RowV.less (HER.out.same (HB6.out.block _ HER.out.lt)) (by rw [List.length_append, HLE.out]; simp)) fun j hj => ?_) _⟩
      unfold numF
      rw [getD_app1 (by rw [HLE.out]; omega)]
    clear hw6 x1 z0 te te2 HB5 HL5 nq
    go_wp2_with (at_builtin; refine wpList_append_src _ rfl _ _ 26 25 rfl Try.underlying26 info_edge rfl (by decide) (by decide) w6.heap.size 0 0 _ rfl HSa.out (by omega) (some ⟨ge, 0, none⟩) e k.ce (numF .u32 s.2.1) rfl HSRC.out (fun j _ => rfl) (by omega) ?_)
    intro g5 c5 w7 a1 a2 a3
    have hbl6 : bl < w6.heap.size := lt_of_heap HL6.out
    have hk7 : w7.heap[bl]? = w6.heap[bl]? := (a3.block bl (by simp; omega) (by omega)).trans (Below.heap_alloc _ _ _ hbl6)
    have hl7 := hk7.trans HL6.out
    have hb37 : Below w3.heap.size w3 w7 := (HB6.out.alloc HB6.out.size _).trans (a3.below (by have := HB6.out.size; simp; omega) fun q hq => by rw [hq]; exact HB6.out.size)
    have hne5 : bl ≠ g5 := by omega
    have a1' : RowV 25 1 w7 g5 e c5 (numF .u32 s.2.1) := a1.congr fun j hj => (app_zero (by omega)).symm
    have hg53 : w3.heap.size ≤ g5 := by have := HB6.out.size; omega
    have z1 : w7.cell? ⟨bl, 1, none⟩ = some (.slice (some ⟨ge, 0, none⟩) e k.ce) := by rw [Lib.cell_of_heap hl7]; rfl
    have z2 : w7.frozen? ⟨bl, 1, none⟩ = false := Lib.frozen_of_heap hl7 1
    obtain ⟨w8, hw8⟩ : ∃ w8, w8 = w7.setCell ⟨bl, 1, none⟩ (.slice (some ⟨g5, 0, none⟩) e c5) := ⟨_, rfl⟩
    have HB8 : Hid (Below w3.heap.size w3 w8) := by rw [hw8]; exact hb37.setCell HLS.out _
    have HR8 : Hid (RowV 25 1 w8 g5 e c5 (numF .u32 s.2.1)) := by rw [hw8]; exact a1'.other (a := ⟨bl, 1, none⟩) hne5 _
    have HL8 : Hid (w8.heap[bl]? = some (.cells #[.pointer (some ⟨bg, 0, none⟩), .slice (some ⟨g5, 0, none⟩) e c5, .slice (some ⟨gt, 0, none⟩) e k.ct] 65 (0, 0))) := by
      unfold Hid
      rw [hw8, Lib.heap_setCell_same hl7]
      rfl
    have HG5 := Lib.hid hg53
    clear a1 a2 a3 a1' hbl6 hk7 hl7 hb37 hne5 HL6 HB6 HSa HSRC y1
    go_upto_region 18 with (fail)
    rw [← hw8]
    clear z1 z2 hw8
    have y2 : (w8.alloc (.cells #[] 99)).cell? ⟨bl, 2, none⟩ = some (.slice (some ⟨gt, 0, none⟩) e k.ct) := by rw [Lib.cell_of_heap ((Below.heap_alloc _ _ _ (lt_of_heap HL8.out)).trans HL8.out)]; rfl
    have HSb : Hid (RowV 99 1 (w8.alloc (.cells #[] 99)) w8.heap.size 0 0 (fun _ => .int .u64 0)) := RowV.made (by omega) rfl (fun j hj => by omega)
    have HSRD : Hid (SlV 99 1 (w8.alloc (.cells #[] 99)) (some ⟨gt, 0, none⟩) e k.ct (numF .u64 s.2.2)) := by
      refine .inr ⟨gt, rfl, RowV.alloc (RowV.congr (RowV.less (HTR.out.same (HB8.out.block _ HTR.out.lt)) (by rw [List.length_append, HLT.out]; simp)) fun j hj => ?_) _⟩
      unfold numF
      rw [getD_app1 (by rw [HLT.out]; omega)]
    go_wp2_with (at_builtin; refine wpList_append_src _ rfl _ _ 63 99 rfl Try.underlying63 info_u64 rfl (by decide) (by decide) w8.heap.size 0 0 _ rfl HSb.out (by omega) (some ⟨gt, 0, none⟩) e k.ct (numF .u64 s.2.2) rfl HSRD.out (fun j _ => rfl) (by omega) ?_)
    intro g6 c6 w9 a1 a2 a3
    have hbl8 : bl < w8.heap.size := lt_of_heap HL8.out
    have hk9 : w9.heap[bl]? = w8.heap[bl]? := (a3.block bl (by simp; omega) (by omega)).trans (Below.heap_alloc _ _ _ hbl8)
    have hl9 := hk9.trans HL8.out
    have hg58 : g5 < w8.heap.size := HR8.out.lt
    have hb39 : Below w3.heap.size w3 w9 := (HB8.out.alloc HB8.out.size _).trans (a3.below (by have := HB8.out.size; simp; omega) fun q hq => by rw [hq]; exact HB8.out.size)
    have hr9 : RowV 25 1 w9 g5 e c5 (numF .u32 s.2.1) := HR8.out.same ((a3.block g5 (by simp; omega) (by omega)).trans (Below.heap_alloc _ _ _ hg58))
    have hne6 : bl ≠ g6 := by omega
    have hne5 : bl ≠ g5 := fun q => by
      have h1 := HR8.out
      obtain ⟨cur, h2, _⟩ := h1
      rw [← q, HL8.out] at h2
      injection h2 with h2
      injection h2 with _ h2
      exact absurd h2 (by decide)
    have a1' : RowV 99 1 w9 g6 e c6 (numF .u64 s.2.2) := a1.congr fun j hj => (app_zero (by omega)).symm
    have hg63 : w3.heap.size ≤ g6 := by have := HB8.out.size; omega
    have z1 : w9.cell? ⟨bl, 2, none⟩ = some (.slice (some ⟨gt, 0, none⟩) e k.ct) := by rw [Lib.cell_of_heap hl9]; rfl
    have z2 : w9.frozen? ⟨bl, 2, none⟩ = false := Lib.frozen_of_heap hl9 2
    obtain ⟨wA, hwA⟩ : ∃ wA, wA = w9.setCell ⟨bl, 2, none⟩ (.slice (some ⟨g6, 0, none⟩) e c6) := ⟨_, rfl⟩
    have hbA : Below w3.heap.size w3 wA := by rw [hwA]; exact hb39.setCell HLS.out _
    have hrA : RowV 25 1 wA g5 e c5 (numF .u32 s.2.1) := by rw [hwA]; exact hr9.other (a := ⟨bl, 2, none⟩) hne5 _
    have htA : RowV 99 1 wA g6 e c6 (numF .u64 s.2.2) := by rw [hwA]; exact a1'.other (a := ⟨bl, 2, none⟩) hne6 _
    have hlA : wA.heap[bl]? = some (.cells #[.pointer (some ⟨bg, 0, none⟩), .slice (some ⟨g5, 0, none⟩) e c5, .slice (some ⟨g6, 0, none⟩) e c6] 65 (0, 0)) := by
      rw [hwA, Lib.heap_setCell_same hl9]
      rfl
    have HTW : Hid (Two w1 k.bk bl (stepS s kk ps) s wA) := by
      have h0 : Mkr w1.heap.size w1 w3 k c (stepS s kk ps).1 (stepS s kk ps).2.1 (stepS s kk ps).2.2 := by rw [HR0.out, HT0.out]; exact HK.out
      have h2 := HK.out.second (E := s.2.1) (T := s.2.2) hbA (b := bl) (c1 := c5) (c2 := c6) (A1 := some ⟨g5, 0, none⟩) (A2 := some ⟨g6, 0, none⟩) (by rw [hlA, HLE.out, HLT.out, ← HBG.out]) (.inr ⟨g5, rfl, by rw [HLE.out]; exact hrA⟩) (.inr ⟨g6, rfl, by rw [HLT.out]; exact htA⟩) HLS.out (fun q hq => by rw [(onB_some _ _).1 hq]; exact HG5.out) (fun q hq => by rw [(onB_some _ _).1 hq]; exact hg63)
      refine ⟨k, c, _, rfl, rfl, h0.below hbA, h2, fun q hq ho => ?_⟩
      have h3 := HK.out.mk'.lt hq
      rcases ho with ho | ho | ho
      · have : q = bl := ho
        have := HLS.out
        have h4 : w3.heap.size ≤ bl := this
        omega
      · rw [(onB_some _ _).1 ho] at h3
        have h4 : w3.heap.size ≤ g5 := HG5.out
        exact absurd h3 (Nat.not_lt.2 h4)
      · rw [(onB_some _ _).1 ho] at h3
        exact absurd h3 (Nat.not_lt.2 hg63)
    have HBA := Lib.hid hbA
    clear a1 a2 a3 a1' hbl8 hk9 hl9 hg58 hb39 hr9 hne6 hne5 hg63 hbA hrA htA hlA HL8 HB8 HR8 HSb HSRD y2 HG5
    go_upto_region 19 with (fail)
    rw [← hwA]
    clear z1 z2 hwA
    refine wp_region_any (by kernel_rfl) ?_
    change wpAny _ _ _ _ _ _ _ (World.drew _)
    obtain ⟨wB, hwB⟩ : ∃ wB, wB = wA.drew := ⟨_, rfl⟩
    rw [← hwB]
    have hbAB : Below wA.heap.size wA wB := by rw [hwB]; exact (Below.refl _ _).drew
    have hb3B : Below w3.heap.size w3 wB := HBA.out.trans (hbAB.mono HBA.out.size)
    obtain ⟨ac0, ac1⟩ := HAC.out wB hb3B
    have HCD : Hid (Calls Try.prog 31 #[.pointer (some ⟨bl, 0, none⟩), .agg #[.int .i64 kk, .slice Aj m cj]] wB fun e w' => e = .returned (.bool true) ∧ Twn w1 k.bk bl (stepS s kk ps) w') := by
      rw [HMM.out]
      exact Two.do_ (HTW.out.below hbAB) HO.out hoe (by omega) (by omega) Aj ps.length cj (HRD.out wB (HBW3.out.trans (hb3B.mono HBW3.out.size))) (by rw [← HMM.out]; exact hm10)
    have hes : (stepS s kk ps).2.1.length = e1 := by rw [HR0.out, List.length_append, HLE.out, HE1.out]; rfl
    have hers : (stepS s kk ps).2.1.getD e 0 = r := by rw [HR0.out, ← HLE.out]; exact getD_end1 _ _
    have HES := Lib.hid hes
    have HERS := Lib.hid hers
    have te : decide ((e1 : Int) ≤ (e : Int)) = false := decide_eq_false (by omega)
    have te2 : decide (e1 ≤ e) = false := decide_eq_false (by omega)
    have hwe : IntKind.i64.wrap (e : Int) = (e : Int) := IntWalk.i64_in _ (by omega)
    clear hwB hbAB hb3B hes hers HAC HTW HBA
    refine wpAny_take (i := 0) (v := ?_) rfl (by kernel_rfl) (by kernel_rfl) (by kernel_rfl) (fun _ _ _ h => h) (Or.inl ⟨by kernel_rfl, ?_⟩) ?_
    rotate_left 1
    · (intro w; go_simp <;> with_reducible rfl)
    go_simp
    refine wpAny_ready (rs := [1]) (by kernel_rfl) (by simp) ?_
    refine AllReady.cons rfl (fun K hK => ?_) ?_
    ·
      go_simp
      refine hK _ _ ?_; clear hK K
      refine wpAny_ready (rs := [2]) (by kernel_rfl) (by simp) ?_
      refine AllReady.cons rfl (fun K hK => ?_) ?_
      ·
        go_simp
        go_wp2_with ((go_at_call 31; refine HCD.out.mono ?_; rintro e2 wC ⟨rfl, hT⟩; obtain ⟨b7, g7, c7, v0, v1, v2, HL7, HM7, hc7⟩ := hT.facts HES.out hee HERS.out; rw [← HG.out] at HL7; clear HCD hT ac0 ac1))
        first | (refine hK _ _ ?_; clear hK K) | skip
        refine wpAny_take (i := 3) (v := ?_) rfl (by kernel_rfl) (by kernel_rfl) (by kernel_rfl) (fun _ _ _ h => h) (Or.inl ⟨by kernel_rfl, ?_⟩) ?_
        rotate_left 1
        · (intro w; go_simp <;> with_reducible rfl)
        go_simp
        refine wpAny_take (i := 4) (v := ?_) rfl (by kernel_rfl) (by kernel_rfl) (by kernel_rfl) (fun _ _ _ h => h) (Or.inl ⟨by kernel_rfl, ?_⟩) ?_
        rotate_left 1
        · (intro w; go_simp <;> with_reducible rfl)
        go_simp
        refine wpAny_take (i := 5) (v := ?_) rfl (by kernel_rfl) (by kernel_rfl) (by kernel_rfl) (fun _ _ _ h => h) (Or.inl ⟨by kernel_rfl, ?_⟩) ?_
        rotate_left 1
        · (intro w; go_simp <;> with_reducible rfl)
        go_simp
        refine wpAny_take (i := 6) (v := ?_) rfl (by kernel_rfl) (by kernel_rfl) (by kernel_rfl) (fun _ _ _ h => h) (Or.inl ⟨by kernel_rfl, ?_⟩) ?_
        rotate_left 1
        · (intro w; go_simp <;> with_reducible rfl)
        go_simp
        refine wpAny_take (i := 7) (v := ?_) rfl (by kernel_rfl) (by kernel_rfl) (by kernel_rfl) (fun _ _ _ h => h) (Or.inl ⟨by kernel_rfl, ?_⟩) ?_
        rotate_left 1
        · (intro w; go_simp <;> with_reducible rfl)
        go_simp
        refine wpAny_take (i := 9) (v := ?_) rfl (by kernel_rfl) (by kernel_rfl) (by kernel_rfl) (fun _ _ _ h => h) (Or.inl ⟨by kernel_rfl, ?_⟩) ?_
        rotate_left 1
        · (intro w; go_simp <;> with_reducible rfl)
        go_simp
        refine wpAny_take (i := 10) (v := ?_) rfl (by kernel_rfl) (by kernel_rfl) (by kernel_rfl) (fun _ _ _ h => h) (Or.inl ⟨by kernel_rfl, ?_⟩) ?_
        rotate_left 1
        · (intro w; go_simp <;> with_reducible rfl)
        go_simp
        refine wpAny_take (i := 11) (v := ?_) rfl (by kernel_rfl) (by kernel_rfl) (by kernel_rfl) (fun _ _ _ h => h) (Or.inl ⟨by kernel_rfl, ?_⟩) ?_
        rotate_left 1
        · (intro w; go_simp <;> with_reducible rfl)
        go_simp
        refine wpAny_take (i := 17) (v := ?_) rfl (by kernel_rfl) (by kernel_rfl) (by kernel_rfl) (fun _ _ _ h => h) (Or.inl ⟨by kernel_rfl, ?_⟩) ?_
        rotate_left 1
        · (intro w; go_simp <;> with_reducible rfl)
        go_simp
        refine wpAny_ready (rs := [8, 12]) (by kernel_rfl) (by simp) ?_
        refine AllReady.cons rfl (fun K hK => ?_) ?_
        ·
          go_simp
          refine hK _ _ ?_; clear hK K
          refine wpAny_ready (rs := [12]) (by kernel_rfl) (by simp) ?_
          refine AllReady.cons rfl (fun K hK => ?_) ?_
          ·
            go_simp
            refine hK _ _ ?_; clear hK K
            refine wpAny_take (i := 13) (v := ?_) rfl (by kernel_rfl) (by kernel_rfl) (by kernel_rfl) (fun _ _ _ h => h) (Or.inl ⟨by kernel_rfl, ?_⟩) ?_
            rotate_left 1
            · (intro w; go_simp <;> with_reducible rfl)
            go_simp
            refine wpAny_take (i := 14) (v := ?_) rfl (by kernel_rfl) (by kernel_rfl) (by kernel_rfl) (fun _ _ _ h => h) (Or.inl ⟨by kernel_rfl, ?_⟩) ?_
            rotate_left 1
            · (intro w; go_simp <;> with_reducible rfl)
            go_simp
            refine wpAny_take (i := 15) (v := ?_) rfl (by kernel_rfl) (by kernel_rfl) (by kernel_rfl) (fun _ _ _ h => h) (Or.inl ⟨by kernel_rfl, ?_⟩) ?_
            rotate_left 1
            · (intro w; go_simp <;> with_reducible rfl)
            go_simp
            refine wpAny_ready (rs := [16]) (by kernel_rfl) (by simp) ?_
            refine AllReady.cons rfl (fun K hK => ?_) ?_
            ·
              go_simp
              refine hK _ _ ?_; clear hK K
              refine wpAny_take (i := 18) (v := ?_) rfl (by kernel_rfl) (by kernel_rfl) (by kernel_rfl) (fun _ _ _ h => h) (Or.inl ⟨by kernel_rfl, ?_⟩) ?_
              rotate_left 1
              · (intro w; go_simp <;> with_reducible rfl)
              go_simp
              refine wpAny_take (i := 19) (v := ?_) rfl (by kernel_rfl) (by kernel_rfl) (by kernel_rfl) (fun _ _ _ h => h) (Or.inl ⟨by kernel_rfl, ?_⟩) ?_
              rotate_left 1
              · (intro w; go_simp <;> with_reducible rfl)
              go_simp
              refine wpAny_take (i := 20) (v := ?_) rfl (by kernel_rfl) (by kernel_rfl) (by kernel_rfl) (fun _ _ _ h => h) (Or.inl ⟨by kernel_rfl, ?_⟩) ?_
              rotate_left 1
              · (intro w; go_simp <;> with_reducible rfl)
              go_simp
              refine wpAny_take (i := 21) (v := ?_) rfl (by kernel_rfl) (by kernel_rfl) (by kernel_rfl) (fun _ _ _ h => h) (Or.inl ⟨by kernel_rfl, ?_⟩) ?_
              rotate_left 1
              · (intro w; go_simp <;> with_reducible rfl)
              go_simp
              refine wpAny_take (i := 22) (v := ?_) rfl (by kernel_rfl) (by kernel_rfl) (by kernel_rfl) (fun _ _ _ h => h) (Or.inl ⟨by kernel_rfl, ?_⟩) ?_
              rotate_left 1
              · (intro w; go_simp <;> with_reducible rfl)
              go_simp
              refine wpAny_take (i := 23) (v := ?_) rfl (by kernel_rfl) (by kernel_rfl) (by kernel_rfl) (fun _ _ _ h => h) (Or.inl ⟨by kernel_rfl, ?_⟩) ?_
              rotate_left 1
              · (intro w; go_simp <;> with_reducible rfl)
              go_simp
              refine wpAny_take (i := 26) (v := ?_) rfl (by kernel_rfl) (by kernel_rfl) (by kernel_rfl) (fun _ _ _ h => h) (Or.inl ⟨by kernel_rfl, ?_⟩) ?_
              rotate_left 1
              · (intro w; go_simp <;> with_reducible rfl)
              go_simp
              refine wpAny_ready (rs := [24]) (by kernel_rfl) (by simp) ?_
              refine AllReady.cons rfl (fun K hK => ?_) ?_
              ·
                go_simp
                refine hK _ _ ?_; clear hK K
                refine wpAny_ready (rs := [25]) (by kernel_rfl) (by simp) ?_
                refine AllReady.cons rfl (fun K hK => ?_) ?_
                ·
                  go_simp
                  go_wp2_with ((go_at_call 28; refine HL7.out.mono ?_; rintro e2 w' ⟨rfl, rfl⟩; clear HL7))
                  first | (refine hK _ _ ?_; clear hK K) | skip
                  refine wpAny_take (i := 27) (v := ?_) rfl (by kernel_rfl) (by kernel_rfl) (by kernel_rfl) (fun _ _ _ h => h) (Or.inl ⟨by kernel_rfl, ?_⟩) ?_
                  rotate_left 1
                  · (intro w; go_simp <;> with_reducible rfl)
                  go_simp
                  refine wpAny_take (i := 28) (v := ?_) rfl (by kernel_rfl) (by kernel_rfl) (by kernel_rfl) (fun _ _ _ h => h) (Or.inl ⟨by kernel_rfl, ?_⟩) ?_
                  rotate_left 1
                  · (intro w; go_simp <;> with_reducible rfl)
                  go_simp
                  refine wpAny_done (by kernel_rfl) ?_ _
                  clear v0 v1 v2
                  go_wp2_with fail
                  go_roundw
                  case rel => exact ⟨j + 1, by go_num, by omega, HP2, by rw [HRN.out]; exact HM7⟩
                  case measure => simp [intOf]; omega
                exact AllReady.nil
              exact AllReady.nil
            exact AllReady.nil
          exact AllReady.nil
        refine AllReady.cons rfl (fun K hK => ?_) ?_
        ·
          go_simp
          refine hK _ _ ?_; clear hK K
          refine wpAny_take (i := 13) (v := ?_) rfl (by kernel_rfl) (by kernel_rfl) (by kernel_rfl) (fun _ _ _ h => h) (Or.inl ⟨by kernel_rfl, ?_⟩) ?_
          rotate_left 1
          · (intro w; go_simp <;> with_reducible rfl)
          go_simp
          refine wpAny_take (i := 14) (v := ?_) rfl (by kernel_rfl) (by kernel_rfl) (by kernel_rfl) (fun _ _ _ h => h) (Or.inl ⟨by kernel_rfl, ?_⟩) ?_
          rotate_left 1
          · (intro w; go_simp <;> with_reducible rfl)
          go_simp
          refine wpAny_ready (rs := [8]) (by kernel_rfl) (by simp) ?_
          refine AllReady.cons rfl (fun K hK => ?_) ?_
          ·
            go_simp
            refine hK _ _ ?_; clear hK K
            refine wpAny_take (i := 15) (v := ?_) rfl (by kernel_rfl) (by kernel_rfl) (by kernel_rfl) (fun _ _ _ h => h) (Or.inl ⟨by kernel_rfl, ?_⟩) ?_
            rotate_left 1
            · (intro w; go_simp <;> with_reducible rfl)
            go_simp
            refine wpAny_ready (rs := [16]) (by kernel_rfl) (by simp) ?_
            refine AllReady.cons rfl (fun K hK => ?_) ?_
            ·
              go_simp
              refine hK _ _ ?_; clear hK K
              refine wpAny_take (i := 18) (v := ?_) rfl (by kernel_rfl) (by kernel_rfl) (by kernel_rfl) (fun _ _ _ h => h) (Or.inl ⟨by kernel_rfl, ?_⟩) ?_
              rotate_left 1
              · (intro w; go_simp <;> with_reducible rfl)
              go_simp
              refine wpAny_take (i := 19) (v := ?_) rfl (by kernel_rfl) (by kernel_rfl) (by kernel_rfl) (fun _ _ _ h => h) (Or.inl ⟨by kernel_rfl, ?_⟩) ?_
              rotate_left 1
              · (intro w; go_simp <;> with_reducible rfl)
              go_simp
              refine wpAny_take (i := 20) (v := ?_) rfl (by kernel_rfl) (by kernel_rfl) (by kernel_rfl) (fun _ _ _ h => h) (Or.inl ⟨by kernel_rfl, ?_⟩) ?_
              rotate_left 1
              · (intro w; go_simp <;> with_reducible rfl)
              go_simp
              refine wpAny_take (i := 21) (v := ?_) rfl (by kernel_rfl) (by kernel_rfl) (by kernel_rfl) (fun _ _ _ h => h) (Or.inl ⟨by kernel_rfl, ?_⟩) ?_
              rotate_left 1
              · (intro w; go_simp <;> with_reducible rfl)
              go_simp
              refine wpAny_take (i := 22) (v := ?_) rfl (by kernel_rfl) (by kernel_rfl) (by kernel_rfl) (fun _ _ _ h => h) (Or.inl ⟨by kernel_rfl, ?_⟩) ?_
              rotate_left 1
              · (intro w; go_simp <;> with_reducible rfl)
              go_simp
              refine wpAny_take (i := 23) (v := ?_) rfl (by kernel_rfl) (by kernel_rfl) (by kernel_rfl) (fun _ _ _ h => h) (Or.inl ⟨by kernel_rfl, ?_⟩) ?_
              rotate_left 1
              · (intro w; go_simp <;> with_reducible rfl)
              go_simp
              refine wpAny_take (i := 26) (v := ?_) rfl (by kernel_rfl) (by kernel_rfl) (by kernel_rfl) (fun _ _ _ h => h) (Or.inl ⟨by kernel_rfl, ?_⟩) ?_
              rotate_left 1
              · (intro w; go_simp <;> with_reducible rfl)
              go_simp
              refine wpAny_ready (rs := [24]) (by kernel_rfl) (by simp) ?_
              refine AllReady.cons rfl (fun K hK => ?_) ?_
              ·
                go_simp
                refine hK _ _ ?_; clear hK K
                refine wpAny_ready (rs := [25]) (by kernel_rfl) (by simp) ?_
                refine AllReady.cons rfl (fun K hK => ?_) ?_
                ·
                  go_simp
                  go_wp2_with ((go_at_call 28; refine HL7.out.mono ?_; rintro e2 w' ⟨rfl, rfl⟩; clear HL7))
                  first | (refine hK _ _ ?_; clear hK K) | skip
                  refine wpAny_take (i := 27) (v := ?_) rfl (by kernel_rfl) (by kernel_rfl) (by kernel_rfl) (fun _ _ _ h => h) (Or.inl ⟨by kernel_rfl, ?_⟩) ?_
                  rotate_left 1
                  · (intro w; go_simp <;> with_reducible rfl)
                  go_simp
                  refine wpAny_take (i := 28) (v := ?_) rfl (by kernel_rfl) (by kernel_rfl) (by kernel_rfl) (fun _ _ _ h => h) (Or.inl ⟨by kernel_rfl, ?_⟩) ?_
                  rotate_left 1
                  · (intro w; go_simp <;> with_reducible rfl)
                  go_simp
                  refine wpAny_done (by kernel_rfl) ?_ _
                  clear v0 v1 v2
                  go_wp2_with fail
                  go_roundw
                  case rel => exact ⟨j + 1, by go_num, by omega, HP2, by rw [HRN.out]; exact HM7⟩
                  case measure => simp [intOf]; omega
                exact AllReady.nil
              exact AllReady.nil
            exact AllReady.nil
          exact AllReady.nil
        exact AllReady.nil
      exact AllReady.nil
    exact AllReady.nil

set_option maxHeartbeats 800000 in
set_option maxRecDepth 100000 in
theorem lifted (os : Os) (started : os.Started) (H : Type) (enc : TypeId × Value → H) :
    ReturnsInHanded {} Try.checked os 9 .any (Rows.gateOnceSpec.pre6 enc Try.prog Try.f9 Rows.gateOnceRow.domain false) (Rows.gateOnceSpec.post enc Try.prog Try.f9 false true false false) := by
  refine returnsInHanded_of_change (C := Try.checked) own_knob started (by kernel_rfl) Try.func9
    (ChangeSpec.witness6 (enc := enc) (C := Try.checked) false ⟨#[], #[.int .i64 0, .slice none 0 0], []⟩ 8 (by kernel_rfl) (by kernel_rfl) (by kernel_rfl) (by kernel_rfl)) ?_
  intro W base args ds gs before hval0 hW _ _
  have hval : ∀ (j : Nat) t v, Try.f9.params[j]? = some t → args[j]? = some v → Value.okWide Try.prog W .any base t v := hval0
  have hW' := hW
  obtain ⟨p, q, hA0, hV, rfl, _, _⟩ := hW
  have hA : DataW.TrodAll enc Try.prog W 0 (fun _ => true) true Try.f9.params.toList args.toList ds p := hA0
  rw [Try.params9] at hA hval
  obtain ⟨v0, v1, d0, d1, p0, p1, rfl, rfl, rfl, h0, h1⟩ := trodAll_two hA
  obtain ⟨rfl, rfl⟩ := trodVars_none hV
  obtain ⟨a0, rfl, rfl, rfl, w0⟩ := open_int Try.underlying3 (hval 0 3 v0 rfl rfl) h0
  obtain ⟨A1, n1, c1, K1, P1, rfl, hR1, _⟩ := open_acts (hval 1 56 v1 rfl rfl) h1
  clear hA0 hval0
  simp only [List.append_nil, List.nil_append] at hW'
  have hlt1 : ∀ y ∈ p1, y.block < W.heap.size := fun y hy => by simpa using hW'.lt y (by simp [hy])
  refine (walk a0 A1 n1 c1 K1 P1 W hR1).mono fun e W' ⟨he, hB⟩ => ?_
  subst he
  exact ⟨_, rfl, _, _, _, [], _, [], hW', trodAll_mk1 (shut_bool Try.underlying4 true), trodAll_mk2 (shut_int Try.underlying3 w0) (Below.trod laid_out (by kernel_rfl) (of_decide_eq_true (by kernel_rfl)) h1 hB hlt1), rfl, hB.frame _, fun h => by cases h⟩

theorem proved : Rows.GateOnceSaid :=
  OpenClaim.holds_of_wide 9 Try.f9 rfl rfl rfl rfl rfl rfl rfl ⟨rfl, rfl, rfl, rfl, rfl⟩ rfl rfl rfl rfl rfl (by kernel_rfl) Try.func9 (by kernel_rfl)
    (of_decide_eq_true (by kernel_rfl)) (by unfold Func.isWrapper; first | (rw [if_pos (by decide +kernel)]; kernel_rfl) | (rw [if_neg (by decide +kernel)]; exact ⟨rfl, rfl⟩))
    (fun os started H enc _ => lifted os started H enc)
end Go.Proofs.Ytelpoocgmflofaa.GOnce
namespace Go.Proofs.Ytelpoocgmflofaa
theorem gateOnce_holds : Rows.GateOnceSaid := GOnce.proved
#print axioms gateOnce_holds
end Go.Proofs.Ytelpoocgmflofaa
