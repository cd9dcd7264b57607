/- The plain answer of layer 14: inner, Text. -/
import Derived.Test.YtmkhfcdjgdofnaaDoorTrfD
import Derived.Test.YtmkhfcdjgdofnaaDoorTrfE
import Derived.Test.YtmkhfcdjgdofnaaDoorTrfS
namespace Go.Proofs.YtmkhfcdjgdofnaaDoor
open Go.RowKit TreM WrdM

theorem inner_ge (X : Ex) : (text X).length ≤ (inner X).length ∧ (inner X).length ≤ (text X).length + 2 := by
  rw [inner_eq]
  split
  · omega
  · simp only [List.length_append, List.length_cons, List.length_nil]; omega

theorem pinner_of (X : Ex) (hT : ∀ (v : Value) (w : World), ExV w X v → Calls Tryd.prog 16 #[v] w fun e w' => e = .returned (.string ⟨(text X).toArray⟩) ∧ Below w.heap.size w w') (hl : (text X).length ≤ 4611686018427387904)
    (v : Value) (w : World) (h : ExV w X v) : Calls Tryd.prog 36 #[v] w fun e w' => e = .returned (.string ⟨(inner X).toArray⟩) ∧ Below w.heap.size w w' := by
  have hie := inner_eq X
  obtain ⟨o, n, s, ks, l, c⟩ := X
  obtain ⟨A, cap, rfl, hB, hK⟩ := h.open
  obtain ⟨wa, hwa⟩ : ∃ wa, wa = w.alloc (.cells #[.int .i64 o, .int .i64 n, .string ⟨s.toArray⟩, .slice A ks.length cap, .int .i64 l, .int .i64 c] 24) := ⟨_, rfl⟩
  have hba : Below w.heap.size w wa := by rw [hwa]; exact below_alloc w _
  have hga : wa.heap[w.heap.size]? = some (.cells #[.int .i64 o, .int .i64 n, .string ⟨s.toArray⟩, .slice A ks.length cap, .int .i64 l, .int .i64 c] 24) := by rw [hwa]; exact blk_new w _
  have HT : Hid (Calls Tryd.prog 16 #[.agg #[.int .i64 o, .int .i64 n, .string ⟨s.toArray⟩, .slice A ks.length cap, .int .i64 l, .int .i64 c]] wa fun e w' => e = .returned (.string ⟨(text (.mk o n s ks l c)).toArray⟩) ∧ Below wa.heap.size wa w') := hT _ wa (h.below hba)
  have hm := hB.m
  have hcap := hB.cap
  have HBA := Lib.hid hba
  have HWA := Lib.hid hwa
  obtain ⟨c0, c1, c2, c3, c4, c5⟩ := cells6 hga
  have hem : Ex.kids (.mk o n s ks l c) = ks := rfl
  rw [hem] at hie
  have HIE := Lib.hid hie
  have HKE : Hid (ks.isEmpty = decide (ks.length = 0)) := by cases ks <;> rfl
  clear hT hie h hB hK hba hga hwa hem
  generalize text (.mk o n s ks l c) = T at *
  generalize inner (.mk o n s ks l c) = I at *
  generalize ks.isEmpty = em at *
  generalize ks.length = m at *
  generalize (⟨s.toArray⟩ : ByteArray) = sb at *
  obtain ⟨U, hU⟩ : ∃ U, U = [40] ++ T := ⟨_, rfl⟩
  obtain ⟨V, hV⟩ : ∃ V, V = U ++ [41] := ⟨_, rfl⟩
  have HV : Hid (V = [40] ++ T ++ [41]) := by rw [hV, hU]; rfl
  have hul : U.length = T.length + 1 := by rw [hU]; simp
  have ha := fun W => add_lists [40] T U #[40] T.toArray rfl rfl hU (by simp; omega) W
  have hb := fun W => add_lists U [41] V U.toArray #[41] rfl rfl hV (by simp; omega) W
  clear hU hV
  go_enter Tryd.func36, Tryd.ntmps36
  by_cases hz : m = 0
  · subst hz
    have HE : Hid (I = T) := by unfold Hid; rw [HIE.out, HKE.out]; simp
    go_upto_region 1 with (fail)
    have hwa := HWA.out
    rw [← hwa]
    clear hwa HWA
    go_wp2_with (refine HT.out.mono ?_; rintro e w1 ⟨rfl, hB1⟩)
    go_ret
    exact ⟨by rw [HE.out]; rfl, HBA.out.trans (hB1.mono HBA.out.size)⟩
  · have t1 : ((m : Int) == 0) = false := by rw [beq_eq_false_iff_ne]; omega
    have t2 : decide ((m : Int) = 0) = false := decide_eq_false (by omega)
    have HE : Hid (I = V) := by unfold Hid; rw [HIE.out, HKE.out, decide_eq_false hz, HV.out]; rfl
    go_upto_region 1 with (fail)
    have hwa := HWA.out
    rw [← hwa]
    clear hwa HWA
    go_wp2_with (refine HT.out.mono ?_; rintro e w1 ⟨rfl, hB1⟩)
    go_ret
    exact ⟨by rw [HE.out]; rfl, HBA.out.trans (hB1.mono HBA.out.size)⟩

set_option maxHeartbeats 6400000 in
set_option maxRecDepth 100000 in
theorem ptext_any : ∀ X : Ex, TreM.shape X = true → (text X).length ≤ 4611686018427387904 → ∀ (v : Value) (w : World), ExV w X v → Calls Tryd.prog 16 #[v] w fun e w' => e = .returned (.string ⟨(text X).toArray⟩) ∧ Below w.heap.size w w' := by
  apply Ex.ind (P := fun X => TreM.shape X = true → (text X).length ≤ 4611686018427387904 → ∀ (v : Value) (w : World), ExV w X v → Calls Tryd.prog 16 #[v] w fun e w' => e = .returned (.string ⟨(text X).toArray⟩) ∧ Below w.heap.size w w')
  intro o n s ks l c ih hsh hlen v w h
  have hsh2 : ownB o n s ks.length = true ∧ shapeL ks = true := by rw [TreM.shape, Bool.and_eq_true] at hsh; exact hsh
  have hk2 : kidsN o = (ks.length : Int) := by have := hsh2.1; rw [ownP_eq, Bool.and_eq_true] at this; exact of_decide_eq_true this.1
  have hfit : fitP o n s = true := by have := hsh2.1; rw [ownP_eq, Bool.and_eq_true, Bool.and_eq_true] at this; exact this.2.2
  have hks := (shapeL_mem ks).1 hsh2.2
  obtain ⟨A, cap, rfl, hB, hK⟩ := h.open
  obtain ⟨wa, hwa⟩ : ∃ wa, wa = w.alloc (.cells #[.int .i64 o, .int .i64 n, .string ⟨s.toArray⟩, .slice A ks.length cap, .int .i64 l, .int .i64 c] 24) := ⟨_, rfl⟩
  have hba : Below w.heap.size w wa := by rw [hwa]; exact below_alloc w _
  have hga : wa.heap[w.heap.size]? = some (.cells #[.int .i64 o, .int .i64 n, .string ⟨s.toArray⟩, .slice A ks.length cap, .int .i64 l, .int .i64 c] 24) := by rw [hwa]; exact blk_new w _
  have hKa : KdsAt wa A ks := hK.below hba
  have hcap := hB.cap
  have hmc := hB.m
  have HBA := Lib.hid hba
  have HSG : Hid (∀ dq os, Calls Tryd.prog 37 #[.int .i64 o] (Go.Sort.grow (redrawn wa dq) os) fun e w' => e = .returned (.string ⟨(signE o).toArray⟩) ∧ ∃ p : Regrown, w' = Go.Sort.grow (redrawn wa p.d) p.os) := fun dq os =>
    Calls.regrown_of (psign_any o _)
  have hsl : (signE o).length ≤ 3 := by
    unfold signE
    split
    · have : ∀ j : Nat, j < 26 → (signT.getD j []).length ≤ 3 := by decide
      exact this _ (by omega)
    · simp
  clear h hB hK hsh hsh2 hba
  obtain ⟨m, hm⟩ : ∃ m, m = ks.length := ⟨_, rfl⟩
  rw [← hm] at hk2 hwa hga hmc ⊢
  have HWA := Lib.hid hwa
  clear hwa
  rcases ks with _ | ⟨a, _ | ⟨b, _ | ⟨z, r⟩⟩⟩
  · have hm0 : m = 0 := hm
    subst hm0
    have htx : text (.mk o n s [] l c) = if o = 1 then Lib.itoa n else if o = 2 then (if n = 1 then [116, 114, 117, 101] else [102, 97, 108, 115, 101]) else s := by rw [text, textK]; intro a b h; cases h; intro a h; cases h
    rw [htx]
    have HF : Hid (o = 1 → 0 ≤ n ∧ n ≤ 1000000) := fun h => by
      rw [fitP, if_pos h, Bool.and_eq_true] at hfit
      exact ⟨of_decide_eq_true hfit.1, of_decide_eq_true hfit.2⟩
    obtain ⟨s0, s1, s2, s3, s4, s5⟩ := cells6 hga
    clear htx hlen ih hks hKa hfit hk2 hga hm HSG hsl
    by_cases h1 : o = 1
    · subst h1
      obtain ⟨n0, n1⟩ := HF.out rfl
      have HD := Lib.hid (dec_any n wa (by omega) (by omega))
      rw [if_pos rfl]
      generalize Lib.itoa n = D at *
      generalize (⟨s.toArray⟩ : ByteArray) = sb at *
      go_enter Tryd.func16, Tryd.ntmps16
      go_upto_region 1 with (fail)
      have hwa := HWA.out
      rw [← hwa]
      clear hwa HWA
      go_wp2_with (refine HD.out.mono ?_; rintro e w1 ⟨rfl, q, rfl⟩)
      go_ret
      exact ⟨rfl, HBA.out.trans ((show Below wa.heap.size wa (wa.drewN q) from ⟨rfl, rfl, rfl, Nat.le_refl _, fun _ _ => rfl⟩).mono HBA.out.size)⟩
    have u1 : (o == 1) = false := by rw [beq_eq_false_iff_ne]; exact h1
    have u1' : decide (o = 1) = false := decide_eq_false h1
    rw [if_neg h1]
    by_cases h2 : o = 2
    · subst h2
      rw [if_pos rfl]
      generalize (⟨s.toArray⟩ : ByteArray) = sb at *
      by_cases hn : n = 1
      · subst hn
        rw [if_pos rfl]
        go_enter Tryd.func16, Tryd.ntmps16
        go_upto_region 1 with (fail)
        have hwa := HWA.out
        rw [← hwa]
        clear hwa HWA
        go_wp2_with fail
        go_ret
        exact ⟨rfl, HBA.out⟩
      · have un : (n == 1) = false := by rw [beq_eq_false_iff_ne]; exact hn
        have un' : decide (n = 1) = false := decide_eq_false hn
        rw [if_neg hn]
        go_enter Tryd.func16, Tryd.ntmps16
        go_upto_region 1 with (fail)
        have hwa := HWA.out
        rw [← hwa]
        clear hwa HWA
        go_wp2_with fail
        go_ret
        exact ⟨rfl, HBA.out⟩
    have u2 : (o == 2) = false := by rw [beq_eq_false_iff_ne]; exact h2
    have u2' : decide (o = 2) = false := decide_eq_false h2
    rw [if_neg h2]
    generalize (⟨s.toArray⟩ : ByteArray) = sb at *
    go_enter Tryd.func16, Tryd.ntmps16
    go_upto_region 1 with (fail)
    have hwa := HWA.out
    rw [← hwa]
    clear hwa HWA
    go_wp2_with fail
    go_ret
    exact ⟨rfl, HBA.out⟩
  · have hm1 : m = 1 := hm
    subst hm1
    have htx : text (.mk o n s [a] l c) = if 6 < o then signE o ++ [32] ++ inner a else signE o ++ inner a := by rw [text, textK]
    obtain ⟨ga, ga'⟩ := inner_ge a
    have hpos : (inner a).length ≤ 4611686018427387904 := by
      rw [htx] at hlen
      split at hlen <;> simp only [List.length_append, List.length_cons, List.length_nil] at hlen <;> omega
    rw [htx]
    have hia := hpos
    clear htx hlen
    rcases hKa with hK | ⟨b', p', rfl, hb', hk'⟩
    · simp at hK
    have hx := hk' 0 a rfl
    rw [Nat.zero_mul, Nat.add_zero] at hx
    obtain ⟨vo, vn, vs, va, vm, vk, vl, vc, c0, c1, c2, c3, c4, c5, hv⟩ := kid_val hx
    obtain ⟨s0, s1, s2, s3, s4, s5⟩ := cells6 hga
    have HIA : Hid (∀ dq os, Calls Tryd.prog 36 #[.agg #[.int .i64 vo, .int .i64 vn, .string vs, .slice va vm vk, .int .i64 vl, .int .i64 vc]] (Go.Sort.grow (redrawn wa dq) os) fun e w' => e = .returned (.string ⟨(inner a).toArray⟩) ∧ ∃ p : Regrown, w' = Go.Sort.grow (redrawn wa p.d) p.os) := fun dq os =>
      Calls.regrown_of (pinner_of a (fun v w h => ih a (by simp) (hks a (by simp)) (by omega) v w h) (by omega) _ _ (hv.below (below_regrown wa dq os)))
    have s0' := cell_regrown s0
    have s3' := cell_regrown s3
    have c0' := cell_regrown c0
    have c1' := cell_regrown c1
    have c2' := cell_regrown c2
    have c3' := cell_regrown c3
    have c4' := cell_regrown c4
    have c5' := cell_regrown c5
    generalize inner a = Ia at *
    generalize signE o = G at *
    generalize (⟨s.toArray⟩ : ByteArray) = sb at *
    clear hx hk' hv ih hk2 hfit hks hga s1 s2 s4 s5 hm hpos
    by_cases h6 : 6 < o
    · have t1 : decide (6 < o) = true := decide_eq_true h6
      rw [if_pos h6]
      obtain ⟨U1, h1⟩ : ∃ U, U = G ++ [32] := ⟨_, rfl⟩
      obtain ⟨U2, h2⟩ : ∃ U, U = U1 ++ Ia := ⟨_, rfl⟩
      have l1 : U1.length = G.length + 1 := by rw [h1]; simp
      have ha1 := fun W => add_lists G [32] U1 G.toArray #[32] rfl rfl h1 (by simp; omega) W
      have ha2 := fun W => add_lists U1 Ia U2 U1.toArray Ia.toArray rfl rfl h2 (by omega) W
      have HE : Hid (G ++ [32] ++ Ia = U2) := by unfold Hid; rw [h2, h1]
      rw [show G ++ [32] ++ Ia = U2 from HE.out]
      clear h1 h2 HE
      go_enter Tryd.func16, Tryd.ntmps16
      go_upto_region 1 with (fail)
      have hwa := HWA.out
      rw [← hwa]
      clear hwa HWA
      go_upto_region 5 with (fail)
      refine wp_region_quiet_below (by kernel_rfl) (by kernel_rfl) (WQ.out ?_)
      refine quiet_take (by kernel_rfl) (fun K hK => ?_); go_simp; refine hK _ ?_; clear hK K
      refine quiet_take (by kernel_rfl) (fun K hK => ?_); go_simp; refine hK _ ?_; clear hK K
      refine quiet_take (by kernel_rfl) (fun K hK => ?_); go_simp; apply Exists.intro; refine ⟨fun _ => ?_, hK _ ?_⟩; (go_at_call 37; exact HSG.out _ _); clear hK K
      refine quiet_take (by kernel_rfl) (fun K hK => ?_); go_simp; refine hK _ ?_; clear hK K
      refine quiet_take (by kernel_rfl) (fun K hK => ?_); go_simp; refine hK _ ?_; clear hK K
      refine quiet_take (by kernel_rfl) (fun K hK => ?_); go_simp; refine hK _ ?_; clear hK K
      refine quiet_take (by kernel_rfl) (fun K hK => ?_); go_simp; refine hK _ ?_; clear hK K
      refine quiet_take (by kernel_rfl) (fun K hK => ?_); go_simp; refine hK _ ?_; clear hK K
      refine quiet_take (by kernel_rfl) (fun K hK => ?_); go_simp; apply Exists.intro; refine ⟨fun _ => ?_, hK _ ?_⟩; (go_at_call 36; exact HIA.out _ _); clear hK K
      refine quiet_take (by kernel_rfl) (fun K hK => ?_); go_simp; refine hK _ ?_; clear hK K
      refine quiet_take (by kernel_rfl) (fun K hK => ?_); go_simp; refine hK _ ?_; clear hK K
      refine ⟨wpQuiet_nil ?_⟩
      intro w7 hw'
      have hbw7 : Below wa.heap.size wa w7 := by obtain ⟨⟨dq, osq⟩, hw''⟩ := hw'; rw [hw'']; exact below_regrown wa dq osq
      clear hw'
      go_wp2_with fail
      go_ret
      exact ⟨rfl, HBA.out.trans (hbw7.mono HBA.out.size)⟩
    · have t1 : decide (6 < o) = false := decide_eq_false h6
      rw [if_neg h6]
      obtain ⟨U2, h2⟩ : ∃ U, U = G ++ Ia := ⟨_, rfl⟩
      have ha2 := fun W => add_lists G Ia U2 G.toArray Ia.toArray rfl rfl h2 (by omega) W
      have HE : Hid (G ++ Ia = U2) := by unfold Hid; rw [h2]
      rw [show G ++ Ia = U2 from HE.out]
      clear h2 HE
      go_enter Tryd.func16, Tryd.ntmps16
      go_upto_region 1 with (fail)
      have hwa := HWA.out
      rw [← hwa]
      clear hwa HWA
      go_upto_region 6 with (fail)
      refine wp_region_quiet_below (by kernel_rfl) (by kernel_rfl) (WQ.out ?_)
      refine quiet_take (by kernel_rfl) (fun K hK => ?_); go_simp; refine hK _ ?_; clear hK K
      refine quiet_take (by kernel_rfl) (fun K hK => ?_); go_simp; refine hK _ ?_; clear hK K
      refine quiet_take (by kernel_rfl) (fun K hK => ?_); go_simp; apply Exists.intro; refine ⟨fun _ => ?_, hK _ ?_⟩; (go_at_call 37; exact HSG.out _ _); clear hK K
      refine quiet_take (by kernel_rfl) (fun K hK => ?_); go_simp; refine hK _ ?_; clear hK K
      refine quiet_take (by kernel_rfl) (fun K hK => ?_); go_simp; refine hK _ ?_; clear hK K
      refine quiet_take (by kernel_rfl) (fun K hK => ?_); go_simp; refine hK _ ?_; clear hK K
      refine quiet_take (by kernel_rfl) (fun K hK => ?_); go_simp; refine hK _ ?_; clear hK K
      refine quiet_take (by kernel_rfl) (fun K hK => ?_); go_simp; apply Exists.intro; refine ⟨fun _ => ?_, hK _ ?_⟩; (go_at_call 36; exact HIA.out _ _); clear hK K
      refine quiet_take (by kernel_rfl) (fun K hK => ?_); go_simp; refine hK _ ?_; clear hK K
      refine quiet_take (by kernel_rfl) (fun K hK => ?_); go_simp; refine hK _ ?_; clear hK K
      refine ⟨wpQuiet_nil ?_⟩
      intro w7 hw'
      have hbw7 : Below wa.heap.size wa w7 := by obtain ⟨⟨dq, osq⟩, hw''⟩ := hw'; rw [hw'']; exact below_regrown wa dq osq
      clear hw'
      go_wp2_with fail
      go_ret
      exact ⟨rfl, HBA.out.trans (hbw7.mono HBA.out.size)⟩
  · have hm2 : m = 2 := hm
    subst hm2
    have htx : text (.mk o n s [a, b] l c) = inner a ++ [32] ++ signE o ++ [32] ++ inner b := by rw [text, textK]
    rw [htx] at hlen ⊢
    simp only [List.length_append, List.length_cons, List.length_nil] at hlen
    obtain ⟨ga, ga'⟩ := inner_ge a
    obtain ⟨gb, gb'⟩ := inner_ge b
    rcases hKa with hK | ⟨b', p', rfl, hb', hk'⟩
    · simp at hK
    have hx := hk' 0 a rfl
    have hy := hk' 1 b rfl
    rw [Nat.zero_mul, Nat.add_zero] at hx
    rw [Nat.one_mul] at hy
    obtain ⟨vo, vn, vs, va, vm, vk, vl, vc, c0, c1, c2, c3, c4, c5, hv⟩ := kid_val hx
    obtain ⟨uo, un, us, ua, um, uk, ul, uc, d0, d1, d2, d3, d4, d5, hu⟩ := kid_val hy
    obtain ⟨s0, s1, s2, s3, s4, s5⟩ := cells6 hga
    have HIA : Hid (∀ dq os, Calls Tryd.prog 36 #[.agg #[.int .i64 vo, .int .i64 vn, .string vs, .slice va vm vk, .int .i64 vl, .int .i64 vc]] (Go.Sort.grow (redrawn wa dq) os) fun e w' => e = .returned (.string ⟨(inner a).toArray⟩) ∧ ∃ p : Regrown, w' = Go.Sort.grow (redrawn wa p.d) p.os) := fun dq os =>
      Calls.regrown_of (pinner_of a (fun v w h => ih a (by simp) (hks a (by simp)) (by omega) v w h) (by omega) _ _ (hv.below (below_regrown wa dq os)))
    have HIB : Hid (∀ dq os, Calls Tryd.prog 36 #[.agg #[.int .i64 uo, .int .i64 un, .string us, .slice ua um uk, .int .i64 ul, .int .i64 uc]] (Go.Sort.grow (redrawn wa dq) os) fun e w' => e = .returned (.string ⟨(inner b).toArray⟩) ∧ ∃ p : Regrown, w' = Go.Sort.grow (redrawn wa p.d) p.os) := fun dq os =>
      Calls.regrown_of (pinner_of b (fun v w h => ih b (by simp) (hks b (by simp)) (by omega) v w h) (by omega) _ _ (hu.below (below_regrown wa dq os)))
    have s0' := cell_regrown s0
    have s3' := cell_regrown s3
    have c0' := cell_regrown c0
    have c1' := cell_regrown c1
    have c2' := cell_regrown c2
    have c3' := cell_regrown c3
    have c4' := cell_regrown c4
    have c5' := cell_regrown c5
    have d0' := cell_regrown d0
    have d1' := cell_regrown d1
    have d2' := cell_regrown d2
    have d3' := cell_regrown d3
    have d4' := cell_regrown d4
    have d5' := cell_regrown d5
    generalize inner a = Ia at *
    generalize inner b = Ib at *
    generalize signE o = G at *
    obtain ⟨U1, h1⟩ : ∃ U, U = Ia ++ [32] := ⟨_, rfl⟩
    obtain ⟨U2, h2⟩ : ∃ U, U = U1 ++ G := ⟨_, rfl⟩
    obtain ⟨U3, h3⟩ : ∃ U, U = U2 ++ [32] := ⟨_, rfl⟩
    obtain ⟨U4, h4⟩ : ∃ U, U = U3 ++ Ib := ⟨_, rfl⟩
    have l1 : U1.length = Ia.length + 1 := by rw [h1]; simp
    have l2 : U2.length = Ia.length + 1 + G.length := by rw [h2]; simp [l1]
    have l3 : U3.length = Ia.length + 1 + G.length + 1 := by rw [h3]; simp [l2]
    have ha1 := fun W => add_lists Ia [32] U1 Ia.toArray #[32] rfl rfl h1 (by simp; omega) W
    have ha2 := fun W => add_lists U1 G U2 U1.toArray G.toArray rfl rfl h2 (by omega) W
    have ha3 := fun W => add_lists U2 [32] U3 U2.toArray #[32] rfl rfl h3 (by simp; omega) W
    have ha4 := fun W => add_lists U3 Ib U4 U3.toArray Ib.toArray rfl rfl h4 (by omega) W
    have HE : Hid (Ia ++ [32] ++ G ++ [32] ++ Ib = U4) := by unfold Hid; rw [h4, h3, h2, h1]
    rw [show Ia ++ [32] ++ G ++ [32] ++ Ib = U4 from HE.out]
    generalize (⟨s.toArray⟩ : ByteArray) = sb at *
    clear h1 h2 h3 h4 hx hy hk' hv hu htx ih hk2 hfit hks hga HE s1 s2 s4 s5 hm
    go_enter Tryd.func16, Tryd.ntmps16
    go_upto_region 1 with (fail)
    have hwa := HWA.out
    rw [← hwa]
    clear hwa HWA
    go_upto_region 2 with (fail)
    refine wp_region_quiet_below (by kernel_rfl) (by kernel_rfl) (WQ.out ?_)
    refine quiet_take (by kernel_rfl) (fun K hK => ?_); go_simp; refine hK _ ?_; clear hK K
    refine quiet_take (by kernel_rfl) (fun K hK => ?_); go_simp; refine hK _ ?_; clear hK K
    refine quiet_take (by kernel_rfl) (fun K hK => ?_); go_simp; refine hK _ ?_; clear hK K
    refine quiet_take (by kernel_rfl) (fun K hK => ?_); go_simp; refine hK _ ?_; clear hK K
    refine quiet_take (by kernel_rfl) (fun K hK => ?_); go_simp; apply Exists.intro; refine ⟨fun _ => ?_, hK _ ?_⟩; (go_at_call 36; exact HIA.out _ _); clear hK K
    refine quiet_take (by kernel_rfl) (fun K hK => ?_); go_simp; refine hK _ ?_; clear hK K
    refine quiet_take (by kernel_rfl) (fun K hK => ?_); go_simp; refine hK _ ?_; clear hK K
    refine quiet_take (by kernel_rfl) (fun K hK => ?_); go_simp; refine hK _ ?_; clear hK K
    refine quiet_take (by kernel_rfl) (fun K hK => ?_); go_simp; apply Exists.intro; refine ⟨fun _ => ?_, hK _ ?_⟩; (go_at_call 37; exact HSG.out _ _); clear hK K
    refine quiet_take (by kernel_rfl) (fun K hK => ?_); go_simp; refine hK _ ?_; clear hK K
    refine quiet_take (by kernel_rfl) (fun K hK => ?_); go_simp; refine hK _ ?_; clear hK K
    refine quiet_take (by kernel_rfl) (fun K hK => ?_); go_simp; refine hK _ ?_; clear hK K
    refine quiet_take (by kernel_rfl) (fun K hK => ?_); go_simp; refine hK _ ?_; clear hK K
    refine quiet_take (by kernel_rfl) (fun K hK => ?_); go_simp; refine hK _ ?_; clear hK K
    refine quiet_take (by kernel_rfl) (fun K hK => ?_); go_simp; refine hK _ ?_; clear hK K
    refine quiet_take (by kernel_rfl) (fun K hK => ?_); go_simp; apply Exists.intro; refine ⟨fun _ => ?_, hK _ ?_⟩; (go_at_call 36; exact HIB.out _ _); clear hK K
    refine quiet_take (by kernel_rfl) (fun K hK => ?_); go_simp; refine hK _ ?_; clear hK K
    refine quiet_take (by kernel_rfl) (fun K hK => ?_); go_simp; refine hK _ ?_; clear hK K
    refine ⟨wpQuiet_nil ?_⟩
    intro w7 hw'
    have hbw7 : Below wa.heap.size wa w7 := by obtain ⟨⟨dq, osq⟩, hw''⟩ := hw'; rw [hw'']; exact below_regrown wa dq osq
    clear hw'
    go_wp2_with fail
    go_ret
    exact ⟨rfl, HBA.out.trans (hbw7.mono HBA.out.size)⟩
  · exfalso
    have := kidsN_le o
    simp only [List.length_cons] at hm
    omega
end Go.Proofs.YtmkhfcdjgdofnaaDoor
