/- LitResolves is true of any two clauses and any variable: the statement Rows.LitResolvesSaid, without a condition. -/
import Derived.Test.YtghclmbicdmboaaSrtS
import Derived.Test.YtghclmbicdmboaaLitE
import Derived.Test.YtghclmbicdmboaaLaw
namespace Go.Proofs.Ytghclmbicdmboaa
open Go.ChangeShapes Go.WideShapes Go.ChangeAt Go.RowKit LitM

theorem not_rno {xs ys : List Int} {v : Int} (h : ¬ RNo xs ys v) : allOne xs = true ∧ allOne ys = true ∧ 1 ≤ v ∧ v ≤ 262144 ∧ hasB xs v = true ∧ hasB ys (-v) = true := by
  unfold RNo at h
  simp only [not_or, Bool.not_eq_false, Int.not_lt] at h
  exact h
theorem same_ref (xs : List Int) : sameB xs xs = true := (sameB_iff _ _).2 rfl
theorem all_snoc (xs : List Int) (f : Int → Bool) {k : Nat} (hk : k < xs.length) : (xs.take (k + 1)).all f = ((xs.take k).all f && f (xs.getD k 0)) := by
  rw [List.take_succ_eq_append_getElem hk, List.all_append, getD_lt hk]
  simp
set_option maxHeartbeats 6400000 in
set_option maxRecDepth 100000 in
theorem resolves_walk (A A2 : Option Addr) (n c n2 c2 : Nat) (xs ys : List Int) (v : Int) (w : World) (h : Rd .i32 w w.heap.size A n xs) (h2 : Rd .i32 w w.heap.size A2 n2 ys) (h32 : In32 xs) (h32' : In32 ys) (hn : n ≤ 9223372036854775807) (hn2 : n2 ≤ 9223372036854775807)
    (hv0 : -9223372036854775808 ≤ v) (hv1 : v ≤ 9223372036854775807) :
    Calls Try.prog 3 #[.slice A n c, .slice A2 n2 c2, .int .i64 v] w fun e w' => e = .returned (.bool true) ∧ Below w.heap.size w w' := by
  have HR := Lib.hid h
  have HR2 := Lib.hid h2
  have H32 := Lib.hid h32
  have H32' := Lib.hid h32'
  have HL := Lib.hid h.len
  have HL2 := Lib.hid h2.len
  clear h h2 h32 h32'
  by_cases hb1 : 60 < n
  · have t1 : decide (60 < n) = true := decide_eq_true hb1
    have t1' : decide ((60 : Int) < (n : Int)) = true := decide_eq_true (by omega)
    go_enter Try.func3, Try.ntmps3
    go_wp2_with fail
    refine (alive_any _).mono ?_
    rintro e wa ⟨rfl, hB⟩
    have HB := Lib.hid hB; clear hB
    go_wp2_with fail
    go_ret
    exact ⟨rfl, HB.out⟩
  have t1 : decide (60 < n) = false := decide_eq_false hb1
  have t1' : decide ((60 : Int) < (n : Int)) = false := decide_eq_false (by omega)
  by_cases hb2 : 60 < n2
  · have t2 : decide (60 < n2) = true := decide_eq_true hb2
    have t2' : decide ((60 : Int) < (n2 : Int)) = true := decide_eq_true (by omega)
    go_enter Try.func3, Try.ntmps3
    go_wp2_with fail
    refine (alive_any _).mono ?_
    rintro e wa ⟨rfl, hB⟩
    have HB := Lib.hid hB; clear hB
    go_wp2_with fail
    go_ret
    exact ⟨rfl, HB.out⟩
  have t2 : decide (60 < n2) = false := decide_eq_false hb2
  have t2' : decide ((60 : Int) < (n2 : Int)) = false := decide_eq_false (by omega)
  go_enter Try.func3, Try.ntmps3
  go_wp2_with fail
  refine (alive_any _).mono ?_
  rintro e wa ⟨rfl, hB⟩
  have hsz := hB.size
  have HRa := Lib.hid ((HR.out.below hB).more hsz)
  have HRa2 := Lib.hid ((HR2.out.below hB).more hsz)
  have HB := Lib.hid hB
  clear hB
  go_upto_region 5 with (fail)
  go_cut [7, 8] (fun t u W => Below wa.heap.size wa W ∧ ((RNo xs ys v ∧ t = .slice none 0 0 ∧ u = .int .i64 11) ∨
    (∃ A' m c' zs, ¬ RNo xs ys v ∧ t = .slice A' m c' ∧ u = .int .i64 0 ∧ Rd .i32 W W.heap.size A' m zs ∧ IsClean (restL xs ys v) zs)))
  case first =>
    by_cases hno : RNo xs ys v
    · have HC := Lib.hid (resolve_no A A2 n c n2 c2 xs ys v wa HRa.out HRa2.out H32.out H32'.out (by omega) (by omega) hv0 hv1 hno)
      have HNO := Lib.hid hno
      clear hno
      go_wp2_with fail
      refine HC.out.mono ?_
      rintro e w1 ⟨rfl, hb⟩
      have HB1 := Lib.hid hb
      clear hb
      go_wp2
      go_meet
      exact ⟨HB1.out, .inl ⟨HNO.out, rfl, rfl⟩⟩
    · obtain ⟨g1, g2, g3, g4, g5, g6⟩ := not_rno hno
      have HC := Lib.hid (resolve_yes A A2 n c n2 c2 xs ys v wa HRa.out HRa2.out (by omega) (by omega) g1 g2 g3 g4 g5 g6)
      have HNO := Lib.hid hno
      clear hno g1 g2 g5 g6
      go_wp2_with fail
      refine HC.out.mono ?_
      rintro e w1 ⟨A', m, c', zs, rfl, hr, hc, hb⟩
      have HB1 := Lib.hid hb
      have HZ := Lib.hid hr
      have HCL := Lib.hid hc
      clear hb hr hc
      go_wp2
      go_meet
      exact ⟨HB1.out, .inr ⟨A', m, c', zs, HNO.out, rfl, rfl, HZ.out, HCL.out⟩⟩
  case rest =>
  have HC1 := Lib.hid hcut
  clear hcut
  have HRb := Lib.hid ((HRa.out.below HC1.out.1).more HC1.out.1.size)
  have HRb2 := Lib.hid ((HRa2.out.below HC1.out.1).more HC1.out.1.size)
  have HBb := Lib.hid (HB.out.trans (HC1.out.1.mono hsz))
  clear HRa HRa2 HB
  go_upto_region 6 with (fail)
  go_cut [9, 10] (fun t u W => Below wc.heap.size wc W ∧ ∃ A' m c' A'' c'' zs E, u7 = .slice A' m c' ∧ u8 = .int .i64 E ∧ t = .slice A'' m c'' ∧ u = .int .i64 E ∧ m ≤ 1000 ∧ Rd .i32 W W.heap.size A' m zs ∧ Rd .i32 W W.heap.size A'' m zs)
  case first =>
    rcases HC1.out.2 with ⟨hno, e7, e8⟩ | ⟨A', m, c', zs, hno, e7, e8, hr, hcl⟩
    · subst e7
      subst e8
      have HC := Lib.hid (rresolve_no A A2 n c n2 c2 xs ys v wc _ (Nat.le_refl _) HRb.out HRb2.out (by omega) (by omega) hv0 hv1 hno)
      clear hno HC1
      go_wp2_with fail
      refine HC.out.mono ?_
      rintro e w1 ⟨rfl, rfl⟩
      go_wp2
      go_meet
      exact ⟨Below.refl _ _, none, 0, 0, none, 0, [], 11, rfl, rfl, rfl, rfl, by omega, Rd.nil, Rd.nil⟩
    · subst e7
      subst e8
      obtain ⟨g1, g2, g3, g4, g5, g6⟩ := not_rno hno
      have HC := Lib.hid (rresolve_yes A A2 n c n2 c2 xs ys v wc HRb.out HRb2.out (by omega) (by omega) g1 g2 g3 g4 g5 g6)
      have HZ := Lib.hid hr
      have HCL := Lib.hid hcl
      clear hno g1 g2 g5 g6 HC1 hr hcl
      go_wp2_with fail
      refine HC.out.mono ?_
      rintro e w1 ⟨u, us, rfl, ho, hc, hb⟩
      obtain ⟨A3, c3, rfl, hR3⟩ := ho.form
      obtain rfl := HCL.out.unique hc
      have hm : m ≤ 1000 := by
        have e1 := HZ.out.len
        have e2 := clean_len (k := (restL xs ys v).length) (ys := zs) (by rw [List.take_length]; exact HCL.out)
        have e3 := rest_len xs ys v
        have e4 := HL.out
        have e5 := HL2.out
        omega
      have hml : zs.length = m := HZ.out.len
      have HB1 := Lib.hid hb
      have H3 := Lib.hid hR3
      have HZ2 := Lib.hid ((HZ.out.below hb).more hb.size)
      clear hb hR3 ho hc
      go_wp2
      go_meet
      exact ⟨HB1.out, A', m, c', A3, c3, zs, 0, rfl, rfl, by first | rfl | rw [hml], rfl, hm, HZ2.out, by have := H3.out; rw [hml] at this; exact this⟩
  case rest =>
  obtain ⟨hb, A3, m, c3, A4, c4, zs, E, e7, e8, rfl, rfl, hm, hz, hz2⟩ := hcut
  subst e7
  subst e8
  have HZ := Lib.hid hz
  have HZ2 := Lib.hid hz2
  have HRc := Lib.hid ((HRb.out.below hb).more hb.size)
  have HRc2 := Lib.hid ((HRb2.out.below hb).more hb.size)
  have HBc := Lib.hid (HBb.out.trans (hb.mono HBb.out.size))
  clear hb hz hz2 HC1 HRb HRb2 HBb
  go_wp2
  go_loopw [11, 40] (fun t i W => ∃ k : Nat, k ≤ n ∧ t = .bool ((xs.take k).all (hasB ys)) ∧ i = .int .i64 k ∧ wc = W) (fun _ i _ => n - (intOf i).toNat)
  case atStart => exact ⟨0, Nat.zero_le _, rfl, rfl, rfl⟩
  case round =>
    obtain ⟨k, hk, rfl, rfl, rfl⟩ := hrel
    by_cases hlt : k < n
    · have tk : decide (k < n) = true := decide_eq_true hlt
      have tk' : decide ((k : Int) < (n : Int)) = true := decide_eq_true (by omega)
      have HSN := Lib.hid (all_snoc xs (hasB ys) (k := k) (by rw [HL.out]; exact hlt))
      obtain ⟨b, o, rfl, hb, hc⟩ := HRc.out.get hlt
      generalize hxk : xs.getD k 0 = y at *
      clear hxk
      rcases hx : (xs.take k).all (hasB ys) with _ | _
      · have HX := Lib.hid hx
        clear hx
        go_wp2_with fail
        go_roundw
        case rel => exact ⟨k + 1, by omega, by rw [HSN.out, HX.out]; rfl, by go_num, by trivial⟩
        case measure => simp [intOf]; omega
      · have HX := Lib.hid hx
        clear hx
        go_wp2_with fail
        refine (rhas_any _ _ _ _ _ _ _ HRc2.out hn2).mono ?_
        rintro e w' ⟨rfl, rfl⟩
        go_wp2
        go_roundw
        case rel => exact ⟨k + 1, by omega, by rw [HSN.out, HX.out]; rfl, by go_num, by trivial⟩
        case measure => simp [intOf]; omega
    · have tk : decide (k < n) = false := decide_eq_false hlt
      have tk' : decide ((k : Int) < (n : Int)) = false := decide_eq_false (by omega)
      have hall : xs.take k = xs := List.take_of_length_le (by rw [HL.out]; omega)
      rw [hall]
      clear hall
      go_wp2_with fail
      refine (same_any _ _ _ _ _ _ zs zs _ _ HZ.out HZ2.out (by omega) (by omega)).mono ?_
      rintro e w' ⟨rfl, q, rfl⟩
      rw [same_ref]
      have HRd := Lib.hid (HRc.out.drewN q)
      have HRd2 := Lib.hid (HRc2.out.drewN q)
      have HBd := Lib.hid (below_drewN HBc.out q)
      have hs : (wc.drewN q).heap.size = wc.heap.size := rfl
      rw [← hs] at HRd HRd2
      clear HRc HRc2 HBc HZ HZ2 hs
      generalize wc.drewN q = wd at *
      have he : (E == E) = true := by simp
      go_wp2_with fail
      refine (within_any A A2 n c n2 c2 xs ys wd HRd.out HRd2.out (by omega) (by omega)).mono ?_
      rintro e w5 ⟨rfl, hb⟩
      have HB5 := Lib.hid (HBd.out.trans (hb.mono HBd.out.size))
      clear hb
      generalize xs.all (hasB ys) = r at *
      have hr : (r == r) = true := by simp
      go_wp2_with fail
      go_ret
      exact ⟨ret_bool (by simp), HB5.out⟩
set_option maxHeartbeats 800000 in
set_option maxRecDepth 100000 in
theorem resolves_lifted (os : Os) (started : os.Started) (H : Type) (enc : TypeId × Value → H) :
    ReturnsInHanded {} Try.checked os 3 .any (Rows.litResolvesSpec.pre6 enc Try.prog Try.f3 Rows.litResolvesRow.domain false) (Rows.litResolvesSpec.post enc Try.prog Try.f3 false true false false) := by
  refine returnsInHanded_of_change (C := Try.checked) own_knob started (by kernel_rfl) Try.func3
    (ChangeSpec.witness6 (enc := enc) (C := Try.checked) false ⟨#[], #[.slice none 0 0, .slice none 0 0, .int .i64 0], []⟩ 8 (by kernel_rfl) (by kernel_rfl) (by kernel_rfl) (by kernel_rfl)) ?_
  intro W base args ds gs before hval0 hW _ _
  have hval : ∀ (j : Nat) t v, Try.f3.params[j]? = some t → args[j]? = some v → Value.okWide Try.prog W .any base t v := hval0
  have hW' := hW
  obtain ⟨p, q, hA0, hV, rfl, _, _⟩ := hW
  have hA : DataW.TrodAll enc Try.prog W 0 (fun _ => true) true Try.f3.params.toList args.toList ds p := hA0
  rw [Try.params3] at hA hval
  obtain ⟨v0, v1, v2, d0, d1, d2, p0, p1, p2, rfl, rfl, rfl, h0, h1, h2⟩ := trodAll_three hA
  obtain ⟨rfl, rfl⟩ := trodVars_none hV
  obtain ⟨A, n, c, xs, rfl, hR, h32, hn, hnil⟩ := open_lits (hval 0 22 v0 rfl rfl) h0
  obtain ⟨A2, n2, c2, ys, rfl, hR2, h322, hn2, hnil2⟩ := open_lits (hval 1 22 v1 rfl rfl) h1
  obtain ⟨z, rfl, rfl, rfl, wz⟩ := open_int Try.underlying3 (hval 2 3 v2 rfl rfl) h2
  obtain ⟨hz0, hz1⟩ := i64_of wz
  clear hA0 hval0
  have hlt0 : ∀ y ∈ p0, y.block < W.heap.size := fun y hy => by simpa using hW'.lt y (by simp [hy])
  have hlt1 : ∀ y ∈ p1, y.block < W.heap.size := fun y hy => by simpa using hW'.lt y (by simp [hy])
  refine (resolves_walk A A2 n c n2 c2 xs ys z W hR hR2 h32 h322 hn hn2 hz0 hz1).mono fun e W' ⟨he, hB⟩ => ?_
  subst he
  exact ⟨_, rfl, _, _, _, [], _, [], hW', trodAll_mk1 (shut_bool Try.underlying4 true),
    trodAll_mk3 (Below.trod laid_out (by kernel_rfl) (of_decide_eq_true (by kernel_rfl)) h0 hB hlt0) (Below.trod laid_out (by kernel_rfl) (of_decide_eq_true (by kernel_rfl)) h1 hB hlt1) (shut_int Try.underlying3 wz), rfl, hB.frame _, fun h => by cases h⟩

theorem litResolves_holds : Rows.LitResolvesSaid :=
  OpenClaim.holds_of_wide 3 Try.f3 rfl rfl rfl rfl rfl rfl rfl ⟨rfl, rfl, rfl, rfl, rfl⟩ rfl rfl rfl rfl rfl (by kernel_rfl) Try.func3 (by kernel_rfl)
    (of_decide_eq_true (by kernel_rfl)) (by unfold Func.isWrapper; first | (rw [if_pos (by decide +kernel)]; kernel_rfl) | (rw [if_neg (by decide +kernel)]; exact ⟨rfl, rfl⟩))
    (fun os started H enc _ => resolves_lifted os started H enc)
#print axioms litResolves_holds
end Go.Proofs.Ytghclmbicdmboaa
