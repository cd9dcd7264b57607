/- The plain answer's Resolve: what follows of two clauses. -/
import Derived.Test.YtmegplcepcacgaaGreatLitD
import Derived.Test.YtmegplcepcacgaaGreatOwn
namespace Go.Proofs.YtmegplcepcacgaaGreat
open Go.RowKit LitM

/-- What two clauses hold but the variable v. -/
def restL (xs ys : List Int) (v : Int) : List Int := sansL xs v ++ sansL ys (-v)
theorem sans_mem {xs : List Int} {x y : Int} : y ∈ sansL xs x ↔ y ∈ xs ∧ y ≠ x := by
  unfold sansL; simp
theorem rest_all {xs ys : List Int} {v : Int} (h1 : allOne xs = true) (h2 : allOne ys = true) : allOne (restL xs ys v) = true := by
  unfold allOne
  rw [List.all_eq_true]
  intro z hz
  unfold restL at hz
  rw [List.mem_append, sans_mem, sans_mem] at hz
  rcases hz with hz | hz
  · exact allOne_mem h1 hz.1
  · exact allOne_mem h2 hz.1
theorem sans_len_all (xs : List Int) (x : Int) : (sansL xs x).length ≤ xs.length := by
  unfold sansL; exact List.length_filter_le _ _

/-- Two clauses that can't be resolved by v. -/
def RNo (xs ys : List Int) (v : Int) : Prop := allOne xs = false ∨ allOne ys = false ∨ v < 1 ∨ 262144 < v ∨ hasB xs v = false ∨ hasB ys (-v) = false

set_option maxHeartbeats 1600000 in
set_option maxRecDepth 100000 in
theorem rresolve_no (A A2 : Option Addr) (n c n2 c2 : Nat) (xs ys : List Int) (v : Int) (w : World) (B : Nat) (hB : B ≤ w.heap.size) (h : Rd .i32 w B A n xs) (h2 : Rd .i32 w B A2 n2 ys) (hn : n * 4 ≤ 100000000000000) (hn2 : n2 * 4 ≤ 100000000000000)
    (hv0 : -9223372036854775808 ≤ v) (hv1 : v ≤ 9223372036854775807) (hno : RNo xs ys v) :
    Calls Tryz.prog 14 #[.slice A n c, .slice A2 n2 c2, .int .i64 v] w fun e w' => e = .returned (.tuple #[.slice none 0 0, .int .i64 11]) ∧ w = w' := by
  have HNO := Lib.hid hno; clear hno
  have H1 := Lib.hid (h.more hB)
  have H2 := Lib.hid (h2.more hB)
  clear h h2
  rcases hx : allOne xs with _ | _
  · have HX := Lib.hid hx; clear hx HNO
    go_enter Tryz.func14, Tryz.ntmps14
    go_wp2_with fail
    refine (rright_any A n c xs _ H1.out (by omega)).mono ?_
    rintro e w' ⟨rfl, rfl⟩
    rw [HX.out]
    go_wp2_with fail
    go_ret2
    exact ⟨rfl, rfl⟩
  · have HX := Lib.hid hx; clear hx
    rcases hy : allOne ys with _ | _
    · have HY := Lib.hid hy; clear hy HNO
      go_enter Tryz.func14, Tryz.ntmps14
      go_wp2_with fail
      refine (rright_any A n c xs _ H1.out (by omega)).mono ?_
      rintro e w' ⟨rfl, rfl⟩
      rw [HX.out]
      go_wp2_with fail
      refine (rright_any A2 n2 c2 ys _ H2.out (by omega)).mono ?_
      rintro e w' ⟨rfl, rfl⟩
      rw [HY.out]
      go_wp2_with fail
      go_ret2
      exact ⟨rfl, rfl⟩
    · have HY := Lib.hid hy; clear hy
      by_cases hr : v < 1 ∨ 262144 < v
      · clear HNO
        by_cases hv : v < 1
        all_goals
          have hvv : 262144 < v ∨ v < 1 := by omega
          first
            | (have hv9 : 262144 < v := by omega)
            | skip
          clear hvv hr
          go_enter Tryz.func14, Tryz.ntmps14
          go_wp2_with fail
          refine (rright_any A n c xs _ H1.out (by omega)).mono ?_
          rintro e w' ⟨rfl, rfl⟩
          rw [HX.out]
          go_wp2_with fail
          refine (rright_any A2 n2 c2 ys _ H2.out (by omega)).mono ?_
          rintro e w' ⟨rfl, rfl⟩
          rw [HY.out]
          go_wp2_with fail
          go_ret2
          exact ⟨rfl, rfl⟩
      · have hv2 : 1 ≤ v := by omega
        have hv3 : v ≤ 262144 := by omega
        have hq : IntKind.i32.wrap v = v := by simp [IntKind.wrap, IntKind.bits, IntKind.signed]; omega
        have hq2 : IntKind.i32.wrap (-v) = -v := by simp [IntKind.wrap, IntKind.bits, IntKind.signed]; omega
        have hd1 : decide (v < 1) = false := by simp; omega
        have hd2 : decide (262144 < v) = false := by simp; omega
        clear hr
        have HNO2 : Hid (hasB xs v = true → hasB ys (-v) = false) := by
          intro hp
          rcases HNO.out with h | h | h | h | h | h
          · rw [HX.out] at h; cases h
          · rw [HY.out] at h; cases h
          · omega
          · omega
          · rw [hp] at h; cases h
          · exact h
        clear HNO
        rcases hp : hasB xs v with _ | _
        · have HP := Lib.hid hp; clear hp HNO2
          go_enter Tryz.func14, Tryz.ntmps14
          go_wp2_with fail
          refine (rright_any A n c xs _ H1.out (by omega)).mono ?_
          rintro e w' ⟨rfl, rfl⟩
          rw [HX.out]
          go_wp2_with fail
          refine (rright_any A2 n2 c2 ys _ H2.out (by omega)).mono ?_
          rintro e w' ⟨rfl, rfl⟩
          rw [HY.out]
          go_wp2_with fail
          refine (rhas_any A n c xs v _ _ H1.out (by omega)).mono ?_
          rintro e w' ⟨rfl, rfl⟩
          rw [HP.out]
          go_wp2_with fail
          go_ret2
          exact ⟨rfl, rfl⟩
        · have HQ := Lib.hid (HNO2.out hp)
          have HP := Lib.hid hp; clear hp HNO2
          go_enter Tryz.func14, Tryz.ntmps14
          go_wp2_with fail
          refine (rright_any A n c xs _ H1.out (by omega)).mono ?_
          rintro e w' ⟨rfl, rfl⟩
          rw [HX.out]
          go_wp2_with fail
          refine (rright_any A2 n2 c2 ys _ H2.out (by omega)).mono ?_
          rintro e w' ⟨rfl, rfl⟩
          rw [HY.out]
          go_wp2_with fail
          refine (rhas_any A n c xs v _ _ H1.out (by omega)).mono ?_
          rintro e w' ⟨rfl, rfl⟩
          rw [HP.out]
          go_wp2_with fail
          refine (rhas_any A2 n2 c2 ys (-v) _ _ H2.out (by omega)).mono ?_
          rintro e w' ⟨rfl, rfl⟩
          rw [HQ.out]
          go_wp2_with fail
          go_ret2
          exact ⟨rfl, rfl⟩

set_option maxHeartbeats 1600000 in
set_option maxRecDepth 100000 in
theorem rresolve_yes (A A2 : Option Addr) (n c n2 c2 : Nat) (xs ys : List Int) (v : Int) (w : World) (h : Rd .i32 w w.heap.size A n xs) (h2 : Rd .i32 w w.heap.size A2 n2 ys) (hn : n * 4 ≤ 40000000000000) (hn2 : n2 * 4 ≤ 40000000000000)
    (hx : allOne xs = true) (hy : allOne ys = true) (hv2 : 1 ≤ v) (hv3 : v ≤ 262144) (hp : hasB xs v = true) (hq : hasB ys (-v) = true) :
    Calls Tryz.prog 14 #[.slice A n c, .slice A2 n2 c2, .int .i64 v] w fun e w' => ∃ u zs, e = .returned (.tuple #[u, .int .i64 0]) ∧ Own w' w.heap.size u zs ∧ IsClean (restL xs ys v) zs ∧ Below w.heap.size w w' := by
  obtain ⟨i0, hi, hz0, hz1, hz2⟩ := info_parts info_lit
  have hq1 : IntKind.i32.wrap v = v := by simp [IntKind.wrap, IntKind.bits, IntKind.signed]; omega
  have hq2 : IntKind.i32.wrap (-v) = -v := by simp [IntKind.wrap, IntKind.bits, IntKind.signed]; omega
  have hd1 : decide (v < 1) = false := by simp; omega
  have hd2 : decide (262144 < v) = false := by simp; omega
  have HRA := Lib.hid (rest_all (v := v) hx hy)
  have HX := Lib.hid hx
  have HY := Lib.hid hy
  have HP := Lib.hid hp
  have HQ := Lib.hid hq
  have H1 := Lib.hid h
  have H2 := Lib.hid h2
  have HL1 := Lib.hid h.len
  have HL2 := Lib.hid h2.len
  clear hx hy hp hq h h2
  go_enter Tryz.func14, Tryz.ntmps14
  go_wp2_with fail
  refine (rright_any A n c xs _ H1.out (by omega)).mono ?_
  rintro e w' ⟨rfl, rfl⟩
  rw [HX.out]
  go_wp2_with fail
  refine (rright_any A2 n2 c2 ys _ H2.out (by omega)).mono ?_
  rintro e w' ⟨rfl, rfl⟩
  rw [HY.out]
  go_wp2_with fail
  refine (rhas_any A n c xs v _ _ H1.out (by omega)).mono ?_
  rintro e w' ⟨rfl, rfl⟩
  rw [HP.out]
  go_wp2_with fail
  refine (rhas_any A2 n2 c2 ys (-v) _ _ H2.out (by omega)).mono ?_
  rintro e w' ⟨rfl, rfl⟩
  rw [HQ.out]
  go_wp2_with fail
  go_loopw [8, 50] (fun u i wr => ∃ k : Nat, k ≤ n ∧ i = .int .i64 k ∧ Own wr w.heap.size u (sansL (xs.take k) v) ∧ Below w.heap.size w wr) (fun _ i _ => n - (intOf i).toNat)
  case atStart => exact ⟨0, Nat.zero_le _, rfl, World.ownsRow_made w #[] 0 (Nat.le_refl _) (Nat.zero_le _) (by simp), (Below.refl _ _).alloc (Nat.le_refl _) _⟩
  case round =>
    obtain ⟨k, hk, rfl, hown, hnx⟩ := hrel
    have hsz := hnx.size
    by_cases hlt : k < n
    · obtain ⟨b, o, hAe, hb, hc⟩ := (H1.out.below hnx).get hlt
      subst hAe
      have hlen := sans_len xs v k
      have hsn := sans_snoc xs v k (by rw [HL1.out]; exact hlt)
      by_cases hxv : xs.getD k 0 = v
      · have hbv : (xs.getD k 0 != v) = false := by rw [hxv]; simp
        rw [if_pos hxv, List.append_nil] at hsn
        have HS := Lib.hid hsn; clear hsn hxv
        generalize xs.getD k 0 = y at *
        go_wp2
        go_roundw
        case rel => exact ⟨k + 1, by omega, by go_num, by rw [HS.out]; exact hown, hnx⟩
        case measure => simp [intOf]; omega
      · have hbv : (xs.getD k 0 != v) = true := by rw [bne_iff_ne]; exact hxv
        rw [if_neg hxv] at hsn
        have HS := Lib.hid hsn; clear hsn hxv
        generalize xs.getD k 0 = y at *
        go_wp2_with (at_builtin; refine wpList_append_own _ rfl (.tmp 58) (.tmp 60) 32 rfl w.heap.size 28 i0 (.int .i32 0) 1 4 Tryz.underlying32 hi hz0 hz1 hz2 rfl (by decide) _ _ _ rfl (hown.alloc _) ⟨wr.heap.size, 0, none⟩ 1 1 [.int .i32 y] rfl rfl one_cell one_one (by unfold maxLen; omega) (by omega) (by simp; omega) ?_)
        intro v1 w1 hown1 hgrow1 _
        obtain ⟨hO1, hB1⟩ := Own.step hown hnx hsz hown1 hgrow1
        clear hown1 hgrow1 hown hnx hc
        go_wp2
        go_roundw
        case rel => exact ⟨k + 1, by omega, by go_num, by rw [HS.out]; exact hO1, hB1⟩
        case measure => simp [intOf]; omega
    · have hall : xs.take k = xs := List.take_of_length_le (by rw [HL1.out]; omega)
      rw [hall] at hown
      have hslen := sans_len_all xs v
      have hslen2 : (sansL xs v).length ≤ n := by rw [HL1.out] at hslen; exact hslen
      clear hall hslen
      obtain ⟨wo, rfl⟩ : ∃ wo : World, wo = wr := ⟨_, rfl⟩
      go_wp2_with fail
      go_loopw [8, 65] (fun u i wr => ∃ k : Nat, k ≤ n2 ∧ i = .int .i64 k ∧ Own wr w.heap.size u (sansL xs v ++ sansL (ys.take k) (-v)) ∧ Below w.heap.size w wr) (fun _ i _ => n2 - (intOf i).toNat)
      case atStart => exact ⟨0, Nat.zero_le _, rfl, by simpa [sansL] using hown, hnx⟩
      case round =>
        clear hown hnx hsz
        obtain ⟨k2, hk2, rfl, hown, hnx⟩ := hrel
        have hsz := hnx.size
        by_cases hlt2 : k2 < n2
        · obtain ⟨b, o, hAe, hb, hc⟩ := (H2.out.below hnx).get hlt2
          subst hAe
          have hlen := sans_len ys (-v) k2
          have hsn := sans_snoc ys (-v) k2 (by rw [HL2.out]; exact hlt2)
          have hll : (sansL xs v ++ sansL (ys.take k2) (-v)).length ≤ n + k2 := by rw [List.length_append]; omega
          clear hlen
          by_cases hxv : ys.getD k2 0 = -v
          · have hbv : (ys.getD k2 0 != -v) = false := by rw [hxv]; simp
            rw [if_pos hxv, List.append_nil] at hsn
            have HS := Lib.hid hsn; clear hsn hxv
            generalize ys.getD k2 0 = y at *
            go_wp2
            go_roundw
            case rel => exact ⟨k2 + 1, by omega, by go_num, by rw [HS.out]; exact hown, hnx⟩
            case measure => simp [intOf]; omega
          · have hbv : (ys.getD k2 0 != -v) = true := by rw [bne_iff_ne]; exact hxv
            rw [if_neg hxv] at hsn
            have HS := Lib.hid hsn; clear hsn hxv
            generalize ys.getD k2 0 = y at *
            have HAP := Lib.hid (List.append_assoc (sansL xs v) (sansL (ys.take k2) (-v)) [y])
            generalize sansL xs v ++ sansL (ys.take k2) (-v) = us at *
            go_wp2_with (at_builtin; refine wpList_append_own _ rfl (.tmp 74) (.tmp 76) 32 rfl w.heap.size 28 i0 (.int .i32 0) 1 4 Tryz.underlying32 hi hz0 hz1 hz2 rfl (by decide) _ _ _ rfl (hown.alloc _) ⟨wr.heap.size, 0, none⟩ 1 1 [.int .i32 y] rfl rfl one_cell one_one (by unfold maxLen; omega) (by omega) (by simp; omega) ?_)
            intro v1 w1 hown1 hgrow1 _
            obtain ⟨hO1, hB1⟩ := Own.step hown hnx hsz hown1 hgrow1
            clear hown1 hgrow1 hown hnx hc
            go_wp2
            go_roundw
            case rel => exact ⟨k2 + 1, by omega, by go_num, by rw [HS.out, ← HAP.out]; exact hO1, hB1⟩
            case measure => simp [intOf]; omega
        · have hall : ys.take k2 = ys := List.take_of_length_le (by rw [HL2.out]; omega)
          rw [hall] at hown
          have hslen := sans_len_all ys (-v)
          have hrl : (restL xs ys v).length ≤ n + n2 := by
            unfold restL; rw [List.length_append]; rw [HL2.out] at hslen; omega
          have hown' : Own wr w.heap.size _ (restL xs ys v) := hown
          clear hall hslen hown
          obtain ⟨A3, c3, rfl, hR3⟩ := hown'.form
          have HR3 := Lib.hid hR3
          have HNX := Lib.hid hnx
          clear hR3 hown' hnx
          go_wp2_with fail
          refine (rclean_yes A3 _ c3 (restL xs ys v) _ HR3.out (by omega) HRA.out).mono ?_
          rintro e w' ⟨u, zs, rfl, hO, hC, hB⟩
          have HC := Lib.hid hC
          clear hC
          go_wp2_with fail
          go_ret2
          exact ⟨u, zs, rfl, hO.base hsz, HC.out, HNX.out.trans (hB.mono hsz)⟩
end Go.Proofs.YtmegplcepcacgaaGreat
