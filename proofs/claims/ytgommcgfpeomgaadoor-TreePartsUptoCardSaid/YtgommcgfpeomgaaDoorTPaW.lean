/- The walk of TreeParts: a part and the whole. -/
import Derived.Test.YtgommcgfpeomgaaDoorTPlW
import Derived.Test.YtgommcgfpeomgaaDoorTreI
namespace Go.Proofs.YtgommcgfpeomgaaDoor.TParts
open Go.RowKit TreM WrdM
open TPlaces (exprS exprE expr_two cX)

abbrev cB (g : Nat) : List Value := [.int .i64 27, .int .i64 0, .string ⟨#[]⟩, .slice (some ⟨g, 0, none⟩) 2 2, .int .i64 0, .int .i64 0]
set_option maxHeartbeats 12800000 in
set_option maxRecDepth 100000 in
theorem walk (X Y : Ex) (v u : Value) (w : World) (hG : TrG w) (hv : ExV w X v) (hu : ExV w Y u) (hwX : wt X ≤ 1048576) (hwY : wt Y ≤ 1048576) :
    Calls Tryd.prog 5 #[v, u] w fun e w' => e = .returned (.bool true) ∧ Below w.heap.size w w' := by
  cases X with
  | mk o n s ks l c =>
  cases Y with
  | mk o2 n2 s2 ks2 l2 cy =>
  obtain ⟨A, cap, rfl, hB, hK⟩ := hv.open
  obtain ⟨A2, cap2, rfl, hB2, hK2⟩ := hu.open
  have hwB : wt (.mk 27 0 [] [.mk o n s ks l c, .mk o2 n2 s2 ks2 l2 cy] 0 0) ≤ 2097160 := by
    have : wt (.mk 27 0 [] [.mk o n s ks l c, .mk o2 n2 s2 ks2 l2 cy] 0 0) = 1 + wt (.mk o n s ks l c) + wt (.mk o2 n2 s2 ks2 l2 cy) := by
      rw [wt, wtL, wtL, wtL]; simp only [List.length_nil]; omega
    omega
  have hsX : TreM.size (.mk o n s ks l c) ≤ 1048576 := Nat.le_trans (size_wt _) hwX
  have hsY : TreM.size (.mk o2 n2 s2 ks2 l2 cy) ≤ 1048576 := Nat.le_trans (size_wt _) (by omega)
  have hsB : TreM.size (.mk 27 0 [] [.mk o n s ks l c, .mk o2 n2 s2 ks2 l2 cy] 0 0) = TreM.size (.mk o n s ks l c) + TreM.size (.mk o2 n2 s2 ks2 l2 cy) + 1 := size_and _ _ _ _
  have HX : Hid (∀ W, Below w.heap.size w W → ExV W (.mk o n s ks l c) (.agg (cX o n ⟨s.toArray⟩ A ks.length cap l c).toArray)) := fun W hW => hv.below hW
  have HY : Hid (∀ W, Below w.heap.size w W → ExV W (.mk o2 n2 s2 ks2 l2 cy) (.agg (cX o2 n2 ⟨s2.toArray⟩ A2 ks2.length cap2 l2 cy).toArray)) := fun W hW => hu.below hW
  have HT : Hid (∀ W g, Below w.heap.size w W → W.heap[g]? = some (.cells (cX o n ⟨s.toArray⟩ A ks.length cap l c ++ cX o2 n2 ⟨s2.toArray⟩ A2 ks2.length cap2 l2 cy).toArray 27) → ExV W (.mk 27 0 [] [.mk o n s ks l c, .mk o2 n2 s2 ks2 l2 cy] 0 0) (.agg (cB g).toArray)) := fun W g hW hg =>
    exv_mk (A := some ⟨g, 0, none⟩) (cap := 2) (ks := [.mk o n s ks l c, .mk o2 n2 s2 ks2 l2 cy]) (s := []) (exb0 (by decide) (by decide) (by decide) (Nat.le_refl 2) (by decide)) (by decide) (by decide) (kds_two hg (hv.below hW) (hu.below hW))
  have HG : Hid (∀ W, Below w.heap.size w W → TrG W) := fun W hW => hG.below hW hG.n
  have HKx : Hid (∀ W, Below w.heap.size w W → KdsAt W A ks) := fun W hW => hK.below hW
  have HEX : Hid (∀ W v, TrG W → ExV W (.mk o n s ks l c) v → Calls Tryd.prog 6 #[v] W fun e w' => e = .returned (.tuple #[.string (exprS (.mk o n s ks l c)), .int .i64 (exprE (.mk o n s ks l c))]) ∧ Below W.heap.size W w') := fun W v hg h => expr_two _ v W hg h (by omega)
  have HEY : Hid (∀ W v, TrG W → ExV W (.mk o2 n2 s2 ks2 l2 cy) v → Calls Tryd.prog 6 #[v] W fun e w' => e = .returned (.tuple #[.string (exprS (.mk o2 n2 s2 ks2 l2 cy)), .int .i64 (exprE (.mk o2 n2 s2 ks2 l2 cy))]) ∧ Below W.heap.size W w') := fun W v hg h => expr_two _ v W hg h (by omega)
  have HET : Hid (∀ W v, TrG W → ExV W (.mk 27 0 [] [.mk o n s ks l c, .mk o2 n2 s2 ks2 l2 cy] 0 0) v → Calls Tryd.prog 6 #[v] W fun e w' => e = .returned (.tuple #[.string (exprS (.mk 27 0 [] [.mk o n s ks l c, .mk o2 n2 s2 ks2 l2 cy] 0 0)), .int .i64 (exprE (.mk 27 0 [] [.mk o n s ks l c, .mk o2 n2 s2 ks2 l2 cy] 0 0))]) ∧ Below W.heap.size W w') := fun W v hg h => expr_two _ v W hg h hwB
  have HRX : Hid (∀ W v, ExV W (.mk o n s ks l c) v → Calls Tryd.prog 13 #[v] W fun e w' => e = .returned (.bool (rightB (.mk o n s ks l c))) ∧ Below W.heap.size W w') := fun W v h => right_any _ v W h
  have HRY : Hid (∀ W v, ExV W (.mk o2 n2 s2 ks2 l2 cy) v → Calls Tryd.prog 13 #[v] W fun e w' => e = .returned (.bool (rightB (.mk o2 n2 s2 ks2 l2 cy))) ∧ Below W.heap.size W w') := fun W v h => right_any _ v W h
  have HRT : Hid (∀ W v, ExV W (.mk 27 0 [] [.mk o n s ks l c, .mk o2 n2 s2 ks2 l2 cy] 0 0) v → Calls Tryd.prog 13 #[v] W fun e w' => e = .returned (.bool (rightB (.mk 27 0 [] [.mk o n s ks l c, .mk o2 n2 s2 ks2 l2 cy] 0 0))) ∧ Below W.heap.size W w') := fun W v h => right_any _ v W h
  have HSX : Hid (∀ W v, ExV W (.mk o n s ks l c) v → Calls Tryd.prog 12 #[v] W fun e w' => e = .returned (.int .i64 (TreM.size (.mk o n s ks l c) : Nat)) ∧ Below W.heap.size W w') := fun W v h => size_any _ v W h (by omega)
  have HSY : Hid (∀ W v, ExV W (.mk o2 n2 s2 ks2 l2 cy) v → Calls Tryd.prog 12 #[v] W fun e w' => e = .returned (.int .i64 (TreM.size (.mk o2 n2 s2 ks2 l2 cy) : Nat)) ∧ Below W.heap.size W w') := fun W v h => size_any _ v W h (by omega)
  have HST : Hid (∀ W v, ExV W (.mk 27 0 [] [.mk o n s ks l c, .mk o2 n2 s2 ks2 l2 cy] 0 0) v → Calls Tryd.prog 12 #[v] W fun e w' => e = .returned (.int .i64 ((TreM.size (.mk o n s ks l c) + TreM.size (.mk o2 n2 s2 ks2 l2 cy) + 1 : Nat))) ∧ Below W.heap.size W w') := fun W v h => by
    have := size_any _ v W h (by rw [hsB]; omega)
    rw [hsB] at this
    exact this
  have HDT : Hid (∀ W v, ExV W (.mk 27 0 [] [.mk o n s ks l c, .mk o2 n2 s2 ks2 l2 cy] 0 0) v → Calls Tryd.prog 14 #[v] W fun e w' => e = .returned (.int .i64 (deep (.mk 27 0 [] [.mk o n s ks l c, .mk o2 n2 s2 ks2 l2 cy] 0 0) : Nat)) ∧ Below W.heap.size W w') := fun W v h => deep_any _ v W h (by rw [hsB]; omega)
  have HRr : Hid (rightB (.mk 27 0 [] [.mk o n s ks l c, .mk o2 n2 s2 ks2 l2 cy] 0 0) = true → rightB (.mk o n s ks l c) = true ∧ rightB (.mk o2 n2 s2 ks2 l2 cy) = true) := fun h => right_and _ _ _ _ h
  -- the kids of what can be
  have HKid : Hid (rightB (.mk o n s ks l c) = true → ∀ k ∈ ks, rightB k = true ∧ same k (.mk o n s ks l c) = false ∧ TreM.size k < TreM.size (.mk o n s ks l c)) := fun h k hk => by
    have h1 : k ∈ (Ex.mk o n s ks l c).kids := hk
    exact ⟨right_kid h h1, same_not (size_kid h1), size_kid h1⟩
  have hcase : (exprE (.mk 27 0 [] [.mk o n s ks l c, .mk o2 n2 s2 ks2 l2 cy] 0 0) = 0 ∧ exprE (.mk o n s ks l c) = 0 ∧ exprE (.mk o2 n2 s2 ks2 l2 cy) = 0 ∧ 2 < (exprS (.mk 27 0 [] [.mk o n s ks l c, .mk o2 n2 s2 ks2 l2 cy] 0 0)).size) ∨
      (exprE (.mk 27 0 [] [.mk o n s ks l c, .mk o2 n2 s2 ks2 l2 cy] 0 0) = 141 ∧ exprS (.mk 27 0 [] [.mk o n s ks l c, .mk o2 n2 s2 ks2 l2 cy] 0 0) = ⟨#[]⟩ ∧
        (exprE (.mk o n s ks l c) = 141 ∨ (exprE (.mk o n s ks l c) = 0 ∧ exprE (.mk o2 n2 s2 ks2 l2 cy) = 141) ∨ (exprE (.mk o n s ks l c) = 0 ∧ exprE (.mk o2 n2 s2 ks2 l2 cy) = 0 ∧ 60 < deep (.mk 27 0 [] [.mk o n s ks l c, .mk o2 n2 s2 ks2 l2 cy] 0 0)))) := by
    have hE : ∀ Z : Ex, (writB Z = true ∧ exprE Z = 0) ∨ (writB Z = false ∧ exprE Z = 141) := fun Z => by
      unfold exprE
      rcases writB Z with _ | _
      · right; exact ⟨rfl, rfl⟩
      · left; exact ⟨rfl, rfl⟩
    have hw := writ_and (.mk o n s ks l c) (.mk o2 n2 s2 ks2 l2 cy) 0 0
    rcases hE (.mk 27 0 [] [.mk o n s ks l c, .mk o2 n2 s2 ks2 l2 cy] 0 0) with ⟨t1, t2⟩ | ⟨t1, t2⟩
    · left
      obtain ⟨a, b, _⟩ := hw.1 t1
      refine ⟨t2, ?_, ?_, ?_⟩
      · unfold exprE; rw [a]; rfl
      · unfold exprE; rw [b]; rfl
      · unfold exprS
        rw [if_pos t1, size_mk]
        exact text_and _ _ _ _
    · right
      refine ⟨t2, by unfold exprS; rw [t1]; rfl, ?_⟩
      rcases hE (.mk o n s ks l c) with ⟨x1, x2⟩ | ⟨x1, x2⟩
      · right
        rcases hE (.mk o2 n2 s2 ks2 l2 cy) with ⟨y1, y2⟩ | ⟨y1, y2⟩
        · right
          refine ⟨x2, y2, ?_⟩
          rcases Nat.lt_or_ge 60 (deep (.mk 27 0 [] [.mk o n s ks l c, .mk o2 n2 s2 ks2 l2 cy] 0 0)) with hd | hd
          · exact hd
          · exact absurd (hw.2 ⟨x1, y1, hd⟩) (by rw [t1]; decide)
        · left; exact ⟨x2, y2⟩
      · left; exact x2
  have HCS := Lib.hid hcase
  have hcap := hB.cap
  have hmc := hB.m
  have HMk : Hid (∀ k, k < ks.length → ∃ x, ks[k]? = some x) := fun k hk => get_ex hk
  have HSame : Hid (∀ W k u v, ExV W k u → ExV W (.mk o n s ks l c) v → Calls Tryd.prog 11 #[u, v] W fun e w' => e = .returned (.bool (same k (.mk o n s ks l c))) ∧ Below W.heap.size W w') := fun W k u v h1 h2 => same_any _ _ u v W h1 h2
  clear hcase hwB hwX hwY hsB hB hB2 hG hv hu hK hK2
  generalize Ex.mk 27 0 [] [.mk o n s ks l c, .mk o2 n2 s2 ks2 l2 cy] 0 0 = T at *
  generalize Ex.mk o2 n2 s2 ks2 l2 cy = Y at *
  generalize Ex.mk o n s ks l c = X at *
  generalize exprS X = sX at *
  generalize exprE X = eX at *
  generalize exprS Y = sY at *
  generalize exprE Y = eY at *
  generalize exprS T = sT at *
  generalize exprE T = eT at *
  generalize (⟨s.toArray⟩ : ByteArray) = sb at *
  generalize (⟨s2.toArray⟩ : ByteArray) = sb2 at *
  obtain ⟨m, hm⟩ : ∃ m, m = ks.length := ⟨_, rfl⟩
  have HM := Lib.hid hm
  rw [← hm] at hmc HX HT HMk ⊢
  clear hm
  generalize ks2.length = m2 at *
  generalize TreM.size X = z at *
  generalize TreM.size Y = z2 at *
  generalize rightB X = rX at *
  generalize rightB Y = rY at *
  generalize rightB T = rT at *
  generalize deep T = dT at *
  -- the worlds
  obtain ⟨wa, hwa⟩ : ∃ wa, wa = (w.alloc (.cells (cX o n sb A m cap l c).toArray 27)).alloc (.cells (cX o2 n2 sb2 A2 m2 cap2 l2 cy).toArray 27) := ⟨_, rfl⟩
  have hza : wa.heap.size = w.heap.size + 2 := by rw [hwa, alloc_size, alloc_size]
  have hba : Below w.heap.size w wa := by rw [hwa]; exact (below_alloc w _).alloc (by simp) _
  have hga : wa.heap[w.heap.size]? = some (.cells (cX o n sb A m cap l c).toArray 27) := by
    rw [hwa, Lib.alloc_old _ _ _ (by simp)]; exact blk_new w _
  have hgb : wa.heap[w.heap.size + 1]? = some (.cells (cX o2 n2 sb2 A2 m2 cap2 l2 cy).toArray 27) := by
    rw [hwa]
    have := blk_new (w.alloc (.cells (cX o n sb A m cap l c).toArray 27)) (.cells (cX o2 n2 sb2 A2 m2 cap2 l2 cy).toArray 27)
    rwa [alloc_size] at this
  have HA := Lib.hid (alive_any wa (HG.out wa hba))
  have HBa := Lib.hid hba
  have HBX : Hid (∀ W, Below wa.heap.size wa W → W.heap[w.heap.size]? = some (.cells (cX o n sb A m cap l c).toArray 27)) := fun W hW => (hW.block _ (by omega)).trans hga
  have HBY : Hid (∀ W, Below wa.heap.size wa W → W.heap[w.heap.size + 1]? = some (.cells (cX o2 n2 sb2 A2 m2 cap2 l2 cy).toArray 27)) := fun W hW => (hW.block _ (by omega)).trans hgb
  have HW0 : Hid (∀ W, Below wa.heap.size wa W → Below w.heap.size w W) := fun W hW => hba.trans (hW.mono (by omega))
  have HZa := Lib.hid hza
  have HWA := Lib.hid hwa
  clear hwa hza hba hga hgb
  go_enter Tryd.func5, Tryd.ntmps5
  go_wp2_with fail
  have hwa := HWA.out
  rw [← hwa]
  clear hwa HWA
  refine HA.out.mono ?_
  rintro e w1 ⟨rfl, hB1⟩
  have HB1 := Lib.hid hB1
  obtain ⟨c0, c1, c2, c3, c4, c5⟩ := cells6 (HBX.out w1 hB1)
  have HR1 := Lib.hid (HRX.out w1 _ (HX.out w1 (HW0.out w1 hB1)))
  clear hB1 HA
  go_wp2_with fail
  refine HR1.out.mono ?_
  rintro e w2 ⟨rfl, hB2⟩
  have HB2 : Hid (Below wa.heap.size wa w2) := HB1.out.trans (hB2.mono HB1.out.size)
  clear hB2 HR1 HB1 c0 c1 c2 c3 c4 c5
  go_upto_if 17 with (fail)
  go_cut [] (fun wx => Hid (Below wa.heap.size wa wx))
  case first =>
    rcases rX with _ | _
    · go_wp2_with fail
      go_meet
      exact HB2.out
    · have HKd : Hid (∀ k ∈ ks, rightB k = true ∧ same k X = false ∧ TreM.size k < z) := HKid.out rfl
      clear HKid
      obtain ⟨c0, c1, c2, c3, c4, c5⟩ := cells6 (HBX.out w2 HB2.out)
      go_wp2_with fail
      go_loopw [6, 21] (fun _ i wr => ∃ k : Nat, k ≤ m ∧ i = .int .i64 k ∧ Hid (Below wa.heap.size wa wr)) (fun _ i _ => m - (intOf i).toNat)
      case atStart => exact ⟨0, Nat.zero_le _, rfl, HB2.out⟩
      case round =>
        clear c0 c1 c2 c3 c4 c5
        obtain ⟨k, hk, rfl, HW⟩ := hrel
        by_cases hlt : k < m
        · have t1 : decide ((k : Int) < (m : Int)) = true := decide_eq_true (by omega)
          have t2 : decide (k < m) = true := decide_eq_true hlt
          obtain ⟨x, hx⟩ := HMk.out k hlt
          have hWw := HW0.out wr HW.out
          rcases HKx.out wr hWw with hK | ⟨b', p', rfl, hb', hk'⟩
          · exfalso; rw [hK] at hx; simp at hx
          obtain ⟨vo, vn, vs, va, vm, vk, vl, vc, c0, c1, c2, c3, c4, c5, hv⟩ := kid_val (hk' k x hx)
          obtain ⟨q1, q2, q3⟩ := HKd.out x (List.mem_of_getElem? hx)
          obtain ⟨wk, hwk⟩ : ∃ wk, wk = wr.alloc (.cells (cX vo vn vs va vm vk vl vc).toArray 27) := ⟨_, rfl⟩
          have hal : Below wr.heap.size wr wk := by rw [hwk]; exact below_alloc wr _
          have hgk : wk.heap[wr.heap.size]? = some (.cells (cX vo vn vs va vm vk vl vc).toArray 27) := by rw [hwk]; exact blk_new wr _
          have hbk : Below wa.heap.size wa wk := HW.out.trans (hal.mono HW.out.size)
          obtain ⟨d0, d1, d2, d3, d4, d5⟩ := cells6 hgk
          obtain ⟨e0, e1, e2, e3, e4, e5⟩ := cells6 (HBX.out wk hbk)
          have HWK := Lib.hid hwk
          have HBK := Lib.hid hbk
          have hszx : TreM.size x ≤ 1048576 := by omega
          have HR : Hid (∀ dq os, Below wr.heap.size wr (Go.Sort.grow (redrawn wk dq) os) ∧ Below w.heap.size w (Go.Sort.grow (redrawn wk dq) os)) := fun dq os => by
            have h1 := below_regrown wk dq os
            exact ⟨hal.trans (h1.mono hal.size), HW0.out _ (hbk.trans (h1.mono hbk.size))⟩
          have Q1 : Hid (∀ dq os, Calls Tryd.prog 13 #[.agg (cX vo vn vs va vm vk vl vc).toArray] (Go.Sort.grow (redrawn wk dq) os) fun e w' => e = .returned (.bool true) ∧ ∃ p : Regrown, w' = Go.Sort.grow (redrawn wk p.d) p.os) := fun dq os => by
            have := right_any x _ _ (hv.below (HR.out dq os).1)
            rw [q1] at this
            exact Calls.regrown_of this
          have Q2 : Hid (∀ dq os, Calls Tryd.prog 11 #[.agg (cX vo vn vs va vm vk vl vc).toArray, .agg (cX o n sb (some ⟨b', p', none⟩) m cap l c).toArray] (Go.Sort.grow (redrawn wk dq) os) fun e w' => e = .returned (.bool false) ∧ ∃ p : Regrown, w' = Go.Sort.grow (redrawn wk p.d) p.os) := fun dq os => by
            have := HSame.out _ x _ _ (hv.below (HR.out dq os).1) (HX.out _ (HR.out dq os).2)
            rw [q2] at this
            exact Calls.regrown_of this
          have Q3 : Hid (∀ dq os, Calls Tryd.prog 12 #[.agg (cX vo vn vs va vm vk vl vc).toArray] (Go.Sort.grow (redrawn wk dq) os) fun e w' => e = .returned (.int .i64 (TreM.size x : Nat)) ∧ ∃ p : Regrown, w' = Go.Sort.grow (redrawn wk p.d) p.os) := fun dq os =>
            Calls.regrown_of (size_any x _ _ (hv.below (HR.out dq os).1) (by omega))
          have Q4 : Hid (∀ dq os, Calls Tryd.prog 12 #[.agg (cX o n sb (some ⟨b', p', none⟩) m cap l c).toArray] (Go.Sort.grow (redrawn wk dq) os) fun e w' => e = .returned (.int .i64 (z : Nat)) ∧ ∃ p : Regrown, w' = Go.Sort.grow (redrawn wk p.d) p.os) := fun dq os =>
            Calls.regrown_of (HSX.out _ _ (HX.out _ (HR.out dq os).2))
          have t5 : decide ((z : Int) ≤ (TreM.size x : Int)) = false := decide_eq_false (by omega)
          have t6 : decide (z ≤ TreM.size x) = false := decide_eq_false (by omega)
          have d0' := cell_regrown d0
          have d1' := cell_regrown d1
          have d2' := cell_regrown d2
          have d3' := cell_regrown d3
          have d4' := cell_regrown d4
          have d5' := cell_regrown d5
          have e0' := cell_regrown e0
          have e1' := cell_regrown e1
          have e2' := cell_regrown e2
          have e3' := cell_regrown e3
          have e4' := cell_regrown e4
          have e5' := cell_regrown e5
          clear hwk hal hgk hbk hx hk' hv q1 q2 q3 d0 d1 d2 d3 d4 d5 e0 e1 e2 e3 e4 e5 hWw
          generalize TreM.size x = zx at *
          go_upto_region 7 with (fail)
          have hwk := HWK.out
          rw [← hwk]
          clear hwk HWK
          refine wp_region_quiet_below (by kernel_rfl) (by kernel_rfl) (WQ.out ?_)
          refine quiet_take (by kernel_rfl) (fun K hK => ?_); go_simp; refine hK _ ?_; clear hK K
          refine quiet_take (by kernel_rfl) (fun K hK => ?_); go_simp; apply Exists.intro; refine ⟨fun _ => ?_, hK _ ?_⟩; (go_at_call 13; exact Q1.out _ _); clear hK K
          refine quiet_take (by kernel_rfl) (fun K hK => ?_); go_simp; refine hK _ ?_; clear hK K
          refine quiet_take (by kernel_rfl) (fun K hK => ?_); go_simp; refine hK _ ?_; clear hK K
          refine quiet_take (by kernel_rfl) (fun K hK => ?_); go_simp; refine hK _ ?_; clear hK K
          refine quiet_take (by kernel_rfl) (fun K hK => ?_); go_simp; refine hK _ ?_; clear hK K
          refine quiet_take (by kernel_rfl) (fun K hK => ?_); go_simp; apply Exists.intro; refine ⟨fun _ => ?_, hK _ ?_⟩; (go_at_call 11; exact Q2.out _ _); clear hK K
          refine quiet_take (by kernel_rfl) (fun K hK => ?_); go_simp; refine hK _ ?_; clear hK K
          refine quiet_take (by kernel_rfl) (fun K hK => ?_); go_simp; refine hK _ ?_; clear hK K
          refine quiet_take (by kernel_rfl) (fun K hK => ?_); go_simp; refine hK _ ?_; clear hK K
          refine quiet_take (by kernel_rfl) (fun K hK => ?_); go_simp; apply Exists.intro; refine ⟨fun _ => ?_, hK _ ?_⟩; (go_at_call 12; exact Q3.out _ _); clear hK K
          refine quiet_take (by kernel_rfl) (fun K hK => ?_); go_simp; refine hK _ ?_; clear hK K
          refine quiet_take (by kernel_rfl) (fun K hK => ?_); go_simp; apply Exists.intro; refine ⟨fun _ => ?_, hK _ ?_⟩; (go_at_call 12; exact Q4.out _ _); clear hK K
          refine quiet_take (by kernel_rfl) (fun K hK => ?_); go_simp; refine hK _ ?_; clear hK K
          refine quiet_take (by kernel_rfl) (fun K hK => ?_); go_simp; refine hK _ ?_; clear hK K
          refine ⟨wpQuiet_nil ?_⟩
          intro w9 hw'
          have hbw9 : Below wk.heap.size wk w9 := by obtain ⟨⟨dq, osq⟩, hw''⟩ := hw'; rw [hw'']; exact below_regrown wk dq osq
          clear hw'
          have HBN : Hid (Below wa.heap.size wa w9) := HBK.out.trans (hbw9.mono HBK.out.size)
          clear hbw9 d0' d1' d2' d3' d4' d5' e0' e1' e2' e3' e4' e5' Q1 Q2 Q3 Q4 HR c0 c1 c2 c3 c4 c5
          go_wp2_with fail
          go_roundw
          case rel => exact ⟨k + 1, by omega, by go_num, HBN.out⟩
          case measure => simp [intOf]; omega
        · have t1 : decide ((k : Int) < (m : Int)) = false := decide_eq_false (by omega)
          have t2 : decide (k < m) = false := decide_eq_false hlt
          go_wp2_with fail
          go_meet
          exact HW.out
  case rest =>
  obtain ⟨wq, hwq⟩ : ∃ wq, wq = wc := ⟨_, rfl⟩
  subst hwq
  have HBc : Hid (Below wa.heap.size wa wq) := hcut
  clear HB2 hcut w1 w2
  have hltx : w.heap.size < wq.heap.size := by have := HBc.out.size; have := HZa.out; omega
  obtain ⟨c0, c1, c2, c3, c4, c5⟩ := cells6 (HBX.out wq HBc.out)
  obtain ⟨d0, d1, d2, d3, d4, d5⟩ := cells6 (HBY.out wq HBc.out)
  obtain ⟨wk, hwk⟩ : ∃ wk, wk = wq.alloc (.cells (cX o n sb A m cap l c ++ cX o2 n2 sb2 A2 m2 cap2 l2 cy).toArray 27) := ⟨_, rfl⟩
  have hbk : Below wq.heap.size wq wk := by rw [hwk]; exact below_alloc wq _
  have hgk : wk.heap[wq.heap.size]? = some (.cells (cX o n sb A m cap l c ++ cX o2 n2 sb2 A2 m2 cap2 l2 cy).toArray 27) := by rw [hwk]; exact blk_new wq _
  have hzk : wk.heap.size = wq.heap.size + 1 := by rw [hwk, alloc_size]
  obtain ⟨wt, hwt⟩ : ∃ wt, wt = wk.alloc (.cells (cB wq.heap.size).toArray 27) := ⟨_, rfl⟩
  have hbt : Below wk.heap.size wk wt := by rw [hwt]; exact below_alloc wk _
  have hgt : wt.heap[wk.heap.size]? = some (.cells (cB wq.heap.size).toArray 27) := by rw [hwt]; exact blk_new wk _
  have hzt : wt.heap.size = wk.heap.size + 1 := by rw [hwt, alloc_size]
  have hBt : Below wq.heap.size wq wt := hbk.trans (hbt.mono hbk.size)
  have HBt : Hid (Below wa.heap.size wa wt) := HBc.out.trans (hBt.mono HBc.out.size)
  have HBT : Hid (∀ W, Below wt.heap.size wt W → W.heap[wq.heap.size + 1]? = some (.cells (cB wq.heap.size).toArray 27)) := fun W hW => by
    rw [← hzk]; exact (hW.block _ (by omega)).trans hgt
  have HBK : Hid (∀ W, Below wt.heap.size wt W → W.heap[wq.heap.size]? = some (.cells (cX o n sb A m cap l c ++ cX o2 n2 sb2 A2 m2 cap2 l2 cy).toArray 27)) := fun W hW => (hW.block _ (by omega)).trans ((hbt.block _ (by omega)).trans hgk)
  have HTo : Hid (∀ W, Below wt.heap.size wt W → Below wa.heap.size wa W) := fun W hW => HBt.out.trans (hW.mono HBt.out.size)
  have HVT : Hid (∀ W, Below wt.heap.size wt W → ExV W T (.agg (cB wq.heap.size).toArray)) := fun W hW => HT.out W wq.heap.size (HW0.out _ (HTo.out W hW)) (HBK.out W hW)
  have HVX : Hid (∀ W, Below wt.heap.size wt W → ExV W X (.agg (cX o n sb A m cap l c).toArray)) := fun W hW => HX.out W (HW0.out _ (HTo.out W hW))
  have HVY : Hid (∀ W, Below wt.heap.size wt W → ExV W Y (.agg (cX o2 n2 sb2 A2 m2 cap2 l2 cy).toArray)) := fun W hW => HY.out W (HW0.out _ (HTo.out W hW))
  have HGt : Hid (∀ W, Below wt.heap.size wt W → TrG W) := fun W hW => HG.out W (HW0.out _ (HTo.out W hW))
  have HCX : Hid (∀ W, Below wt.heap.size wt W → W.heap[w.heap.size]? = some (.cells (cX o n sb A m cap l c).toArray 27)) := fun W hW => HBX.out W (HTo.out W hW)
  have HCY : Hid (∀ W, Below wt.heap.size wt W → W.heap[w.heap.size + 1]? = some (.cells (cX o2 n2 sb2 A2 m2 cap2 l2 cy).toArray 27)) := fun W hW => HBY.out W (HTo.out W hW)
  have HEnd : Hid (∀ W, Below wt.heap.size wt W → Below w.heap.size w W) := fun W hW => HW0.out _ (HTo.out W hW)
  have HWT : Hid (wt = (wq.alloc (.cells (cX o n sb A m cap l c ++ cX o2 n2 sb2 A2 m2 cap2 l2 cy).toArray 27)).alloc (.cells (cB wq.heap.size).toArray 27)) := by unfold Hid; rw [hwt, hwk]
  have HE3 := Lib.hid (HET.out wt _ (HGt.out wt (Below.refl _ _)) (HVT.out wt (Below.refl _ _)))
  have hlty : w.heap.size + 1 < wq.heap.size := by have := HBc.out.size; have := HZa.out; omega
  clear hwk hbk hgk hzk hwt hbt hgt hzt hBt HKid HKx HSame HMk HX HY HT HG HW0 HBX HBY HBc HBt HTo HBK HBa
  go_wp2_with fail
  have hwt := HWT.out
  simp only [List.cons_append, List.nil_append] at hwt
  rw [← hwt]
  clear hwt HWT wk
  refine HE3.out.mono ?_
  rintro e w3 ⟨rfl, hB3⟩
  have HB3 := Lib.hid hB3
  obtain ⟨c0, c1, c2, c3, c4, c5⟩ := cells6 (HCX.out w3 hB3)
  have HE4 := Lib.hid (HEX.out w3 _ (HGt.out w3 hB3) (HVX.out w3 hB3))
  clear hB3 HE3
  go_wp2_with fail
  refine HE4.out.mono ?_
  rintro e w4 ⟨rfl, hB4⟩
  have HB4 : Hid (Below wt.heap.size wt w4) := HB3.out.trans (hB4.mono HB3.out.size)
  obtain ⟨d0, d1, d2, d3, d4, d5⟩ := cells6 (HCY.out w4 HB4.out)
  have HE5 := Lib.hid (HEY.out w4 _ (HGt.out w4 HB4.out) (HVY.out w4 HB4.out))
  clear hB4 HE4 HB3
  go_wp2_with fail
  refine HE5.out.mono ?_
  rintro e w5 ⟨rfl, hB5⟩
  have HB5 : Hid (Below wt.heap.size wt w5) := HB4.out.trans (hB5.mono HB4.out.size)
  obtain ⟨c0, c1, c2, c3, c4, c5⟩ := cells6 (HCX.out w5 HB5.out)
  obtain ⟨d0, d1, d2, d3, d4, d5⟩ := cells6 (HCY.out w5 HB5.out)
  obtain ⟨e0, e1, e2, e3, e4, e5⟩ := cells6 (HBT.out w5 HB5.out)
  have c0' := cell_regrown c0
  have c1' := cell_regrown c1
  have c2' := cell_regrown c2
  have c3' := cell_regrown c3
  have c4' := cell_regrown c4
  have c5' := cell_regrown c5
  have d0' := cell_regrown d0
  have d1' := cell_regrown d1
  have d2' := cell_regrown d2
  have d3' := cell_regrown d3
  have d4' := cell_regrown d4
  have d5' := cell_regrown d5
  have e0' := cell_regrown e0
  have e1' := cell_regrown e1
  have e2' := cell_regrown e2
  have e3' := cell_regrown e3
  have e4' := cell_regrown e4
  have e5' := cell_regrown e5
  have HR : Hid (∀ dq os, Below wt.heap.size wt (Go.Sort.grow (redrawn w5 dq) os)) := fun dq os => HB5.out.trans ((below_regrown w5 dq os).mono HB5.out.size)
  have Q1 : Hid (∀ dq os, Calls Tryd.prog 12 #[.agg (cB wq.heap.size).toArray] (Go.Sort.grow (redrawn w5 dq) os) fun e w' => e = .returned (.int .i64 ((z + z2 + 1 : Nat))) ∧ ∃ p : Regrown, w' = Go.Sort.grow (redrawn w5 p.d) p.os) := fun dq os => Calls.regrown_of (HST.out _ _ (HVT.out _ (HR.out dq os)))
  have Q2 : Hid (∀ dq os, Calls Tryd.prog 12 #[.agg (cX o n sb A m cap l c).toArray] (Go.Sort.grow (redrawn w5 dq) os) fun e w' => e = .returned (.int .i64 (z : Nat)) ∧ ∃ p : Regrown, w' = Go.Sort.grow (redrawn w5 p.d) p.os) := fun dq os => Calls.regrown_of (HSX.out _ _ (HVX.out _ (HR.out dq os)))
  have Q3 : Hid (∀ dq os, Calls Tryd.prog 12 #[.agg (cX o2 n2 sb2 A2 m2 cap2 l2 cy).toArray] (Go.Sort.grow (redrawn w5 dq) os) fun e w' => e = .returned (.int .i64 (z2 : Nat)) ∧ ∃ p : Regrown, w' = Go.Sort.grow (redrawn w5 p.d) p.os) := fun dq os => Calls.regrown_of (HSY.out _ _ (HVY.out _ (HR.out dq os)))
  have Q4 : Hid (∀ dq os, Calls Tryd.prog 13 #[.agg (cB wq.heap.size).toArray] (Go.Sort.grow (redrawn w5 dq) os) fun e w' => e = .returned (.bool rT) ∧ ∃ p : Regrown, w' = Go.Sort.grow (redrawn w5 p.d) p.os) := fun dq os => Calls.regrown_of (HRT.out _ _ (HVT.out _ (HR.out dq os)))
  have Q5 : Hid (∀ dq os, Calls Tryd.prog 13 #[.agg (cX o n sb A m cap l c).toArray] (Go.Sort.grow (redrawn w5 dq) os) fun e w' => e = .returned (.bool rX) ∧ ∃ p : Regrown, w' = Go.Sort.grow (redrawn w5 p.d) p.os) := fun dq os => Calls.regrown_of (HRX.out _ _ (HVX.out _ (HR.out dq os)))
  have Q6 : Hid (∀ dq os, Calls Tryd.prog 13 #[.agg (cX o2 n2 sb2 A2 m2 cap2 l2 cy).toArray] (Go.Sort.grow (redrawn w5 dq) os) fun e w' => e = .returned (.bool rY) ∧ ∃ p : Regrown, w' = Go.Sort.grow (redrawn w5 p.d) p.os) := fun dq os => Calls.regrown_of (HRY.out _ _ (HVY.out _ (HR.out dq os)))
  have y1 : IntKind.i64.wrap ((z : Int) + (z2 : Int)) = (z : Int) + (z2 : Int) := IntWalk.i64_in _ (by omega)
  have y2 : IntKind.i64.wrap ((z : Int) + (z2 : Int) + 1) = (z : Int) + (z2 : Int) + 1 := IntWalk.i64_in _ (by omega)
  have y3 : ((z : Int) + (z2 : Int) + 1 != (z : Int) + (z2 : Int) + 1) = false := by rw [bne_eq_false_iff_eq]
  clear hB5 HE5 HR c0 c1 c2 c3 c4 c5 d0 d1 d2 d3 d4 d5 e0 e1 e2 e3 e4 e5 HB4 HEX HEY HET HSX HSY HST HRX HRY HRT
  go_upto_region 14 with (fail)
  go_cut [82] (fun b wx => b = .bool false ∧ Hid (Below w5.heap.size w5 wx))
  case first =>
    rcases rT with _ | _
    · clear HRr
      refine wp_region_quiet_below (by kernel_rfl) (by kernel_rfl) (WQ.out ?_)
      refine quiet_take (by kernel_rfl) (fun K hK => ?_); go_simp; refine hK _ ?_; clear hK K
      refine quiet_take (by kernel_rfl) (fun K hK => ?_); go_simp; apply Exists.intro; refine ⟨fun _ => ?_, hK _ ?_⟩; (go_at_call 12; exact Q1.out _ _); clear hK K
      refine quiet_take (by kernel_rfl) (fun K hK => ?_); go_simp; refine hK _ ?_; clear hK K
      refine quiet_take (by kernel_rfl) (fun K hK => ?_); go_simp; apply Exists.intro; refine ⟨fun _ => ?_, hK _ ?_⟩; (go_at_call 12; exact Q2.out _ _); clear hK K
      refine quiet_take (by kernel_rfl) (fun K hK => ?_); go_simp; refine hK _ ?_; clear hK K
      refine quiet_take (by kernel_rfl) (fun K hK => ?_); go_simp; apply Exists.intro; refine ⟨fun _ => ?_, hK _ ?_⟩; (go_at_call 12; exact Q3.out _ _); clear hK K
      refine quiet_take (by kernel_rfl) (fun K hK => ?_); go_simp; refine hK _ ?_; clear hK K
      refine quiet_take (by kernel_rfl) (fun K hK => ?_); go_simp; refine hK _ ?_; clear hK K
      refine quiet_take (by kernel_rfl) (fun K hK => ?_); go_simp; refine hK _ ?_; clear hK K
      refine quiet_take (by kernel_rfl) (fun K hK => ?_); go_simp; refine hK _ ?_; clear hK K
      refine quiet_take (by kernel_rfl) (fun K hK => ?_); go_simp; refine hK _ ?_; clear hK K
      refine quiet_take (by kernel_rfl) (fun K hK => ?_); go_simp; apply Exists.intro; refine ⟨fun _ => ?_, hK _ ?_⟩; (go_at_call 13; exact Q4.out _ _); clear hK K
      refine quiet_take (by kernel_rfl) (fun K hK => ?_); go_simp; refine hK _ ?_; clear hK K
      refine quiet_skip (by kernel_rfl) (fun K hK => ?_); go_simp; refine hK _ ?_; clear hK K
      refine quiet_skip (by kernel_rfl) (fun K hK => ?_); go_simp; refine hK _ ?_; clear hK K
      refine quiet_skip (by kernel_rfl) (fun K hK => ?_); go_simp; refine hK _ ?_; clear hK K
      refine quiet_skip (by kernel_rfl) (fun K hK => ?_); go_simp; refine hK _ ?_; clear hK K
      refine quiet_skip (by kernel_rfl) (fun K hK => ?_); go_simp; refine hK _ ?_; clear hK K
      refine quiet_skip (by kernel_rfl) (fun K hK => ?_); go_simp; refine hK _ ?_; clear hK K
      refine quiet_skip (by kernel_rfl) (fun K hK => ?_); go_simp; refine hK _ ?_; clear hK K
      refine quiet_skip (by kernel_rfl) (fun K hK => ?_); go_simp; refine hK _ ?_; clear hK K
      refine quiet_take (by kernel_rfl) (fun K hK => ?_); go_simp; refine hK _ ?_; clear hK K
      refine quiet_take (by kernel_rfl) (fun K hK => ?_); go_simp; refine hK _ ?_; clear hK K
      refine ⟨wpQuiet_nil ?_⟩
      intro w6 hw'
      have hbw6 : Below w5.heap.size w5 w6 := by obtain ⟨⟨dq, osq⟩, hw''⟩ := hw'; rw [hw'']; exact below_regrown w5 dq osq
      clear hw'
      go_wp2_with fail
      go_meet
      exact ⟨rfl, hbw6⟩
    · obtain ⟨rfl, rfl⟩ := HRr.out rfl
      refine wp_region_quiet_below (by kernel_rfl) (by kernel_rfl) (WQ.out ?_)
      refine quiet_take (by kernel_rfl) (fun K hK => ?_); go_simp; refine hK _ ?_; clear hK K
      refine quiet_take (by kernel_rfl) (fun K hK => ?_); go_simp; apply Exists.intro; refine ⟨fun _ => ?_, hK _ ?_⟩; (go_at_call 12; exact Q1.out _ _); clear hK K
      refine quiet_take (by kernel_rfl) (fun K hK => ?_); go_simp; refine hK _ ?_; clear hK K
      refine quiet_take (by kernel_rfl) (fun K hK => ?_); go_simp; apply Exists.intro; refine ⟨fun _ => ?_, hK _ ?_⟩; (go_at_call 12; exact Q2.out _ _); clear hK K
      refine quiet_take (by kernel_rfl) (fun K hK => ?_); go_simp; refine hK _ ?_; clear hK K
      refine quiet_take (by kernel_rfl) (fun K hK => ?_); go_simp; apply Exists.intro; refine ⟨fun _ => ?_, hK _ ?_⟩; (go_at_call 12; exact Q3.out _ _); clear hK K
      refine quiet_take (by kernel_rfl) (fun K hK => ?_); go_simp; refine hK _ ?_; clear hK K
      refine quiet_take (by kernel_rfl) (fun K hK => ?_); go_simp; refine hK _ ?_; clear hK K
      refine quiet_take (by kernel_rfl) (fun K hK => ?_); go_simp; refine hK _ ?_; clear hK K
      refine quiet_take (by kernel_rfl) (fun K hK => ?_); go_simp; refine hK _ ?_; clear hK K
      refine quiet_take (by kernel_rfl) (fun K hK => ?_); go_simp; refine hK _ ?_; clear hK K
      refine quiet_take (by kernel_rfl) (fun K hK => ?_); go_simp; apply Exists.intro; refine ⟨fun _ => ?_, hK _ ?_⟩; (go_at_call 13; exact Q4.out _ _); clear hK K
      refine quiet_take (by kernel_rfl) (fun K hK => ?_); go_simp; refine hK _ ?_; clear hK K
      refine quiet_take (by kernel_rfl) (fun K hK => ?_); go_simp; refine hK _ ?_; clear hK K
      refine quiet_take (by kernel_rfl) (fun K hK => ?_); go_simp; apply Exists.intro; refine ⟨fun _ => ?_, hK _ ?_⟩; (go_at_call 13; exact Q5.out _ _); clear hK K
      refine quiet_take (by kernel_rfl) (fun K hK => ?_); go_simp; refine hK _ ?_; clear hK K
      refine quiet_take (by kernel_rfl) (fun K hK => ?_); go_simp; refine hK _ ?_; clear hK K
      refine quiet_take (by kernel_rfl) (fun K hK => ?_); go_simp; refine hK _ ?_; clear hK K
      refine quiet_take (by kernel_rfl) (fun K hK => ?_); go_simp; apply Exists.intro; refine ⟨fun _ => ?_, hK _ ?_⟩; (go_at_call 13; exact Q6.out _ _); clear hK K
      refine quiet_take (by kernel_rfl) (fun K hK => ?_); go_simp; refine hK _ ?_; clear hK K
      refine quiet_take (by kernel_rfl) (fun K hK => ?_); go_simp; refine hK _ ?_; clear hK K
      refine quiet_take (by kernel_rfl) (fun K hK => ?_); go_simp; refine hK _ ?_; clear hK K
      refine quiet_take (by kernel_rfl) (fun K hK => ?_); go_simp; refine hK _ ?_; clear hK K
      refine ⟨wpQuiet_nil ?_⟩
      intro w6 hw'
      have hbw6 : Below w5.heap.size w5 w6 := by obtain ⟨⟨dq, osq⟩, hw''⟩ := hw'; rw [hw'']; exact below_regrown w5 dq osq
      clear hw'
      go_wp2_with fail
      go_meet
      exact ⟨rfl, hbw6⟩
  case rest =>
  obtain ⟨rfl, hb6⟩ := hcut
  have HB6 : Hid (Below wt.heap.size wt wc) := HB5.out.trans (hb6.mono HB5.out.size)
  obtain ⟨e0, e1, e2, e3, e4, e5⟩ := cells6 (HBT.out _ HB6.out)
  have HD6 := Lib.hid (HDT.out _ _ (HVT.out _ HB6.out))
  have HE6 := Lib.hid (HEnd.out _ HB6.out)
  clear Q1 Q2 Q3 Q4 Q5 Q6 c0' c1' c2' c3' c4' c5' d0' d1' d2' d3' d4' d5' e0' e1' e2' e3' e4' e5' hb6 HB5
  rcases HCS.out with ⟨rfl, rfl, rfl, h4⟩ | ⟨rfl, rfl, h3⟩
  · have t4 : decide ((2 : Int) < (sT.size : Int)) = true := decide_eq_true (by omega)
    have t5 : decide (2 < sT.size) = true := decide_eq_true h4
    clear h4 HCS
    go_wp2_with fail
    go_ret
    exact ⟨rfl, HE6.out⟩
  · rcases h3 with rfl | ⟨rfl, rfl⟩ | ⟨rfl, rfl, h5⟩
    · clear HCS
      go_wp2_with fail
      go_ret
      exact ⟨rfl, HE6.out⟩
    · clear HCS
      go_wp2_with fail
      go_ret
      exact ⟨rfl, HE6.out⟩
    · have t4 : decide ((60 : Int) < (dT : Int)) = true := decide_eq_true (by omega)
      have t5 : decide (60 < dT) = true := decide_eq_true h5
      clear h5 HCS
      go_wp2_with (refine HD6.out.mono ?_; rintro e w7 ⟨rfl, hB7⟩)
      go_ret
      exact ⟨rfl, HE6.out.trans (hB7.mono HE6.out.size)⟩
end Go.Proofs.YtgommcgfpeomgaaDoor.TParts
