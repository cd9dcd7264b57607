/- LitCleans is true of every clause: the statement Rows.LitCleansSaid, without a condition. -/
import Derived.Test.YtonkoeooflgjdaaLaw
namespace Go.Proofs.Ytonkoeooflgjdaa
open Go.ChangeShapes Go.WideShapes Go.ChangeAt Go.RowKit LitM

theorem all_one32 {xs : List Int} : ∀ u ∈ xs.map (Value.int .i32), u.oneCell' = true := by
  intro u hu
  obtain ⟨x, _, rfl⟩ := List.mem_map.1 hu
  rfl
theorem same_self (xs : List Int) : sameB xs xs = true := (sameB_iff _ _).2 rfl

set_option maxHeartbeats 6400000 in
set_option maxRecDepth 100000 in
theorem cleans_walk (A : Option Addr) (n c : Nat) (xs : List Int) (w : World) (h : Rd .i32 w w.heap.size A n xs) (h32 : In32 xs) (hn : n ≤ 9223372036854775807) (hA : A = none → n = 0 ∧ c = 0) :
    Calls Try.prog 5 #[.slice A n c] w fun e w' => e = .returned (.bool true) ∧ Below w.heap.size w w' := by
  obtain ⟨i0, hi, hz0, hz1, hz2⟩ := info_parts info_lit
  have HR := Lib.hid h
  have H32 := Lib.hid h32
  have HL := Lib.hid h.len
  have HA := Lib.hid hA
  clear h h32 hA
  by_cases hbig : 60 < n
  · go_enter Try.func5, Try.ntmps5
    go_wp2_with fail
    refine (alive_any _).mono ?_
    rintro e wa ⟨rfl, hB⟩
    have HB := Lib.hid hB; clear hB
    go_wp2_with fail
    go_ret
    exact ⟨rfl, HB.out⟩
  · go_enter Try.func5, Try.ntmps5
    go_wp2_with fail
    refine (alive_any _).mono ?_
    rintro e wa ⟨rfl, hB⟩
    have HB := Lib.hid hB
    have hsz := hB.size
    have HRa := Lib.hid ((HR.out.below hB).more hsz)
    clear hB
    have hown0 : Own (wa.alloc (.cells #[] 26)) wa.heap.size (.slice (some ⟨wa.heap.size, 0, none⟩) 0 0) [] := World.ownsRow_made wa #[] 0 (Nat.le_refl _) (Nat.zero_le _) (by simp)
    have key : ∀ v1 w1, Own w1 wa.heap.size v1 xs → Below wa.heap.size wa w1 → ∃ A1 c1, v1 = .slice A1 n c1 ∧ Rd .i32 w1 w1.heap.size A1 n xs := by
      intro v1 w1 ho hb
      obtain ⟨A1, c1, e, hR⟩ := ho.form
      rw [HL.out] at e hR
      exact ⟨A1, c1, e, hR⟩
    have KEY := Lib.hid key; clear key
    rcases A with _ | ad
    case' none =>
      obtain ⟨rfl, rfl⟩ := HA.out rfl
      have hx : xs = [] := List.length_eq_zero_iff.1 HL.out
      have hown0' : Own (wa.alloc (.cells #[] 26)) wa.heap.size (.slice (some ⟨wa.heap.size, 0, none⟩) 0 0) xs := by rw [hx]; exact hown0
      clear hx
      go_wp2_with (at_builtin; refine wpList_append_own_none rfl _ _ 22 rfl wa.heap.size 26 i0 1 Try.underlying22 hi _ _ _ rfl hown0 rfl ?_)
      have hb1 := below_alloc wa (.cells #[] 26)
      obtain ⟨A1, c1, e1, hR1⟩ := KEY.out _ _ hown0' hb1
      injection e1 with e1 _ e3
      subst e1; subst e3
      have HR1 := Lib.hid hR1
      have HB1 := Lib.hid hb1
      clear hown0 hown0' hR1 hb1 KEY
      generalize wa.alloc (.cells #[] 26) = w1 at *
    case' some =>
      have HN := Lib.hid (HRa.out.alloc (Nat.le_refl _) (.cells #[] 26)).news
      go_wp2_with (at_builtin; refine wpList_append_own _ rfl _ _ 22 rfl wa.heap.size 26 i0 (.int .i32 0) 1 4 Try.underlying22 hi hz0 hz1 hz2 rfl (by decide) _ _ _ rfl hown0 ad n c (xs.map (Value.int .i32)) rfl (by simp [HL.out]) HN.out all_one32 (by unfold maxLen; simp; omega) (by simp; omega) (by simp) ?_)
      intro v1 w1 hown1 hgrow1 _
      have ho1 : Own w1 wa.heap.size v1 xs := by
        unfold Own; rw [HL.out]; simpa using hown1
      have hb1 : Below wa.heap.size wa w1 := (below_alloc wa _).grown hgrow1 (by simp) (fun k hk => by simp [Value.ownBlock] at hk; omega)
      obtain ⟨A1, c1, rfl, hR1⟩ := KEY.out _ _ ho1 hb1
      have HR1 := Lib.hid hR1
      have HB1 := Lib.hid hb1
      clear hown0 hown1 hgrow1 ho1 hR1 hb1 HN KEY
      go_wp2_with fail
    all_goals
      have HL1 := Lib.hid ((HRa.out.below HB1.out).more HB1.out.size)
      have HBW1 := Lib.hid (HB.out.trans (HB1.out.mono hsz))
      clear HR HRa HB1 HB
      rcases hall : allOne xs with _ | _
      · have HALL := Lib.hid hall; clear hall
        refine (clean_no _ _ _ xs _ HR1.out H32.out (by omega) HALL.out).mono ?_
        rintro e w' ⟨rfl, rfl⟩
        go_wp2_with fail
        refine (rclean_no _ _ _ xs _ HL1.out (by omega) HALL.out).mono ?_
        rintro e w' ⟨rfl, rfl⟩
        go_wp2_with fail
        refine (same_any none none 0 0 0 0 [] [] _ 0 Rd.nil Rd.nil (by omega) (by omega)).mono ?_
        rintro e w' ⟨rfl, q, rfl⟩
        rw [same_self]
        have HR2 := Lib.hid (HR1.out.drewN q)
        have HL2 := Lib.hid (HL1.out.drewN q)
        have HBW2 := Lib.hid (below_drewN HBW1.out q)
        clear HR1 HL1 HBW1
        have he : (w1.drewN q).heap.size = w1.heap.size := rfl
        rw [← he] at HR2 HL2
        clear he
        generalize w1.drewN q = w2 at *
        go_wp2_with fail
        refine (same_any _ _ _ _ _ _ xs xs _ _ HR2.out HL2.out (by omega) (by omega)).mono ?_
        rintro e w' ⟨rfl, q2, rfl⟩
        rw [same_self]
        go_wp2_with fail
        refine (right_any _ _ _ xs _ (HL2.out.drewN q2) H32.out (by omega)).mono ?_
        rintro e w' ⟨rfl, rfl⟩
        rw [HALL.out]
        go_wp2_with fail
        refine (rright_any _ _ _ xs _ (HL2.out.drewN q2) (by omega)).mono ?_
        rintro e w' ⟨rfl, rfl⟩
        rw [HALL.out]
        go_wp2_with fail
        go_ret
        exact ⟨rfl, below_drewN HBW2.out q2⟩
      · have HALL := Lib.hid hall; clear hall
        refine (clean_yes _ _ _ xs _ HR1.out (by omega) HALL.out).mono ?_
        rintro e w2 ⟨A2, m2, c2, ys, rfl, hR2, hC2, hB2⟩
        have HY := Lib.hid hR2
        have HC := Lib.hid hC2
        have HR2 := Lib.hid ((HR1.out.below hB2).more hB2.size)
        have HL2 := Lib.hid ((HL1.out.below hB2).more hB2.size)
        have HBW2 := Lib.hid (HBW1.out.trans (hB2.mono HBW1.out.size))
        clear hR2 hC2 hB2 HR1 HL1 HBW1
        go_wp2_with fail
        refine (rclean_yes _ _ _ xs _ HL2.out (by omega) HALL.out).mono ?_
        rintro e w3 ⟨v3, zs, rfl, hO3, hC3, hB3⟩
        obtain ⟨A3, c3, rfl, hR3⟩ := hO3.form
        obtain rfl := HC.out.unique hC3
        have hm : m2 ≤ 60 := by
          have e1 := HY.out.len
          have e2 := clean_len (k := xs.length) (ys := ys) (by rw [List.take_length]; exact HC.out)
          have e3 := HL.out
          omega
        have hy : ys.length ≤ 60 := by have e1 := HY.out.len; omega
        have HZ := Lib.hid hR3
        have HY3 := Lib.hid ((HY.out.below hB3).more hB3.size)
        have HR3 := Lib.hid ((HR2.out.below hB3).more hB3.size)
        have HL3 := Lib.hid ((HL2.out.below hB3).more hB3.size)
        have HBW3 := Lib.hid (HBW2.out.trans (hB3.mono HBW2.out.size))
        clear hR3 hO3 hC3 hB3 HY HR2 HL2 HBW2 HC
        go_wp2_with fail
        refine (same_any _ _ _ _ _ _ ys ys _ _ HY3.out HZ.out (by omega) (by omega)).mono ?_
        rintro e w' ⟨rfl, q, rfl⟩
        rw [same_self]
        have HR4 := Lib.hid (HR3.out.drewN q)
        have HL4 := Lib.hid (HL3.out.drewN q)
        have HBW4 := Lib.hid (below_drewN HBW3.out q)
        clear HR3 HL3 HBW3 HY3 HZ
        have he : (w3.drewN q).heap.size = w3.heap.size := rfl
        rw [← he] at HR4 HL4
        clear he
        generalize w3.drewN q = w4 at *
        go_wp2_with fail
        refine (same_any _ _ _ _ _ _ xs xs _ _ HR4.out HL4.out (by omega) (by omega)).mono ?_
        rintro e w' ⟨rfl, q2, rfl⟩
        rw [same_self]
        go_wp2_with fail
        refine (right_any _ _ _ xs _ (HL4.out.drewN q2) H32.out (by omega)).mono ?_
        rintro e w' ⟨rfl, rfl⟩
        rw [HALL.out]
        go_wp2_with fail
        refine (rright_any _ _ _ xs _ (HL4.out.drewN q2) (by omega)).mono ?_
        rintro e w' ⟨rfl, rfl⟩
        rw [HALL.out]
        go_wp2_with fail
        go_ret
        exact ⟨rfl, below_drewN HBW4.out q2⟩

set_option maxHeartbeats 800000 in
set_option maxRecDepth 100000 in
theorem cleans_lifted (os : Os) (started : os.Started) (H : Type) (enc : TypeId × Value → H) :
    ReturnsInHanded {} Try.checked os 5 .any (Rows.litCleansSpec.pre6 enc Try.prog Try.f5 Rows.litCleansRow.domain false) (Rows.litCleansSpec.post enc Try.prog Try.f5 false true false false) := by
  refine returnsInHanded_of_change (C := Try.checked) own_knob started (by kernel_rfl) Try.func5
    (ChangeSpec.witness6 (enc := enc) (C := Try.checked) false ⟨#[], #[.slice none 0 0], []⟩ 8 (by kernel_rfl) (by kernel_rfl) (by kernel_rfl) (by kernel_rfl)) ?_
  intro W base args ds gs before hval0 hW _ _
  have hval : ∀ (j : Nat) t v, Try.f5.params[j]? = some t → args[j]? = some v → Value.okWide Try.prog W .any base t v := hval0
  have hW' := hW
  obtain ⟨p, q, hA0, hV, rfl, _, _⟩ := hW
  have hA : DataW.TrodAll enc Try.prog W 0 (fun _ => true) true Try.f5.params.toList args.toList ds p := hA0
  rw [Try.params5] at hA hval
  obtain ⟨v0, d0, rfl, rfl, h0⟩ := trodAll_one hA
  obtain ⟨rfl, rfl⟩ := trodVars_none hV
  obtain ⟨A, n, c, xs, rfl, hR, h32, hn, hnil⟩ := open_lits (hval 0 22 v0 rfl rfl) h0
  clear hA0 hval0
  simp only [List.append_nil] at hW'
  have hlt : ∀ y ∈ p, y.block < W.heap.size := fun y hy => by simpa using hW'.lt y (by simp [hy])
  refine (cleans_walk A n c xs W hR h32 hn hnil).mono fun e W' ⟨he, hB⟩ => ?_
  subst he
  exact ⟨_, rfl, _, _, _, [], _, [], hW', trodAll_mk1 (shut_bool Try.underlying4 true), trodAll_mk1 (Below.trod laid_out (by kernel_rfl) (of_decide_eq_true (by kernel_rfl)) h0 hB hlt), rfl, hB.frame _, fun h => by cases h⟩

theorem litCleans_holds : Rows.LitCleansSaid :=
  OpenClaim.holds_of_wide 5 Try.f5 rfl rfl rfl rfl rfl rfl rfl ⟨rfl, rfl, rfl, rfl, rfl⟩ rfl rfl rfl rfl rfl (by kernel_rfl) Try.func5 (by kernel_rfl)
    (of_decide_eq_true (by kernel_rfl)) (by unfold Func.isWrapper; first | (rw [if_pos (by decide +kernel)]; kernel_rfl) | (rw [if_neg (by decide +kernel)]; exact ⟨rfl, rfl⟩))
    (fun os started H enc _ => cleans_lifted os started H enc)
#print axioms litCleans_holds
end Go.Proofs.Ytonkoeooflgjdaa
