/- The plain answer's Clean: a cleaned clause, and whether a variable is there by both signs. -/
import Derived.Test.YtjhopjokllkipaaLitL
import Derived.Test.YtjhopjokllkipaaOwnM
import Derived.Test.YtjhopjokllkipaaInsM
namespace Go.Proofs.Ytjhopjokllkipaa
open Go.RowKit LitM

theorem one_cell {w : World} {y : Int} : ∀ j u, [Value.int .i32 y][j]? = some u → (w.alloc (.cells #[.int .i32 y] 27)).cell? ((⟨w.heap.size, 0, none⟩ : Addr).add j) = some u := by
  intro j u hj
  match j, hj with
  | 0, hj => simp at hj; subst hj; simp [Addr.add]
theorem one_one {y : Int} : ∀ u ∈ [Value.int .i32 y], u.oneCell' = true := by
  intro u hu; simp at hu; subst hu; rfl
theorem Own.step {W wi w1 : World} {G : Nat} {v v' : Value} {xs : List Int} {y : Int} {o : Obj} (hown : Own wi G v xs) (hb : Below G W wi) (hG : G ≤ wi.heap.size)
    (hown' : w1.ownsRow G 27 1 v' (xs.length + 1) (xs.map (Value.int .i32) ++ [.int .i32 y])) (hgrow : (wi.alloc o).grownBy w1 v.ownBlock) : Own w1 G v' (xs ++ [y]) ∧ Below G W w1 :=
  ⟨Own.snoc hown', (hb.alloc hG _).grown hgrow (by simp; omega) (fun j hj => (hown.lt j hj).1)⟩

set_option maxHeartbeats 1600000 in
set_option maxRecDepth 100000 in
theorem rclean_yes (A : Option Addr) (n c : Nat) (xs : List Int) (w : World) (h : Rd .i32 w w.heap.size A n xs) (hn : n * 4 ≤ 100000000000000) (ha : allOne xs = true) :
    Calls Try.prog 18 #[.slice A n c] w fun e w' => ∃ v ys, e = .returned (.tuple #[v, .bool (bothB xs), .int .i64 0]) ∧ Own w' w.heap.size v ys ∧ IsClean xs ys ∧ Below w.heap.size w w' := by
  obtain ⟨i0, hi, hz0, hz1, hz2⟩ := info_parts info_lit
  have hl := h.len
  have HL := Lib.hid hl; clear hl
  have HA := Lib.hid ha; clear ha
  go_enter Try.func18, Try.ntmps18
  go_wp2_with fail
  refine (rright_any A n c xs _ h (by omega)).mono ?_
  rintro e w' ⟨rfl, rfl⟩
  rw [HA.out]
  go_wp2_with fail
  go_loopw [5, 6, 19] (fun v bo i wr => ∃ (k : Nat) (ys : List Int), k ≤ n ∧ i = .int .i64 k ∧ bo = .bool (bothTo xs k) ∧ Own wr w.heap.size v ys ∧ IsClean (xs.take k) ys ∧ Below w.heap.size w wr) (fun _ _ i _ => n - (intOf i).toNat)
  case atStart => exact ⟨0, [], Nat.zero_le _, rfl, rfl, World.ownsRow_made w #[] 0 (Nat.le_refl _) (Nat.zero_le _) (by simp), clean_start xs, (Below.refl _ _).alloc (Nat.le_refl _) _⟩
  case round =>
    obtain ⟨k, ys, hk, rfl, rfl, hown, hcl, hnx⟩ := hrel
    have hsz := hnx.size
    have hlen := clean_len hcl
    by_cases hlt : k < n
    · have hlk : k < xs.length := by rw [HL.out]; exact hlt
      have hR := h.below hnx
      obtain ⟨b, o, hAe, hb, hc⟩ := hR.get hlt
      have HR := Lib.hid hR; clear hR
      subst hAe
      have hone := (allOne_iff xs).1 HA.out k hlk
      have hx1 := (one_iff _).1 hone
      have hlo : -262144 ≤ xs.getD k 0 := by omega
      have hhi : xs.getD k 0 ≤ 262144 := by omega
      have HO := Lib.hid hone
      have HS := Lib.hid (bothTo_succ hlk)
      have HKeep := Lib.hid (fun hin => clean_keep hcl hlk hin)
      have HAdd := Lib.hid (fun next hnn => clean_add (next := next) hcl hlk hnn)
      have HP := Lib.hid hcl.1
      have HYA : Hid (allOne ys = true) := by
        unfold Hid allOne
        rw [List.all_eq_true]
        exact fun z hz => allOne_mem HA.out (List.mem_of_mem_take ((hcl.2 z).1 hz))
      have hlk' := Lib.hid hlk
      clear hone hx1 hcl hlk
      generalize xs.getD k 0 = x at *
      obtain ⟨A2, c2, rfl, hR2⟩ := hown.form
      have HR2 := Lib.hid hR2; clear hR2
      have HOwn := Lib.hid hown; clear hown
      obtain ⟨wo, rfl⟩ : ∃ wo : World, wo = wr := ⟨_, rfl⟩
      have HNX := Lib.hid hnx; clear hnx
      rcases hbo : bothTo xs k with _ | _
      case' false =>
        rw [hbo] at HS
        clear hbo
        go_wp2_with fail
        refine (rhas_any (some ⟨b, o, none⟩) n c xs (-x) _ w.heap.size HR.out (by omega)).mono ?_
        rintro e w' ⟨rfl, rfl⟩
        generalize hasB xs (-x) = nb at *
        go_wp2_with fail
      case' true =>
        rw [hbo] at HS
        clear hbo
        go_wp2_with fail
      all_goals
        refine (rhas_any A2 ys.length c2 ys x _ wo.heap.size HR2.out (by omega)).mono ?_
        rintro e w' ⟨rfl, rfl⟩
        rcases hh : hasB ys x with _ | _
        case' true =>
          have HH := Lib.hid (HKeep.out ((hasB_iff _ _).1 hh))
          clear hh
          go_wp2_with fail
          go_roundw
          case rel => exact ⟨k + 1, ys, by omega, by go_num, by rw [HS.out]; simp, HOwn.out, HH.out, HNX.out⟩
          case measure => simp [intOf]; omega
        have HH : Hid (x ∉ ys) := fun hm => by rw [(hasB_iff _ _).2 hm] at hh; cases hh
        clear hh
        go_wp2_with fail
        go_loopw [9, 10, 36] (fun v pu i wi => ∃ (j : Nat) (nx : List Int) (put : Bool), j ≤ ys.length ∧ i = .int .i64 j ∧ pu = .bool put ∧ Own wi wo.heap.size v nx ∧ InsAt x (ys.take j) nx put ∧ Below wo.heap.size wo wi) (fun _ _ i _ => ys.length - (intOf i).toNat)
        case atStart => exact ⟨0, [], false, Nat.zero_le _, rfl, rfl, World.ownsRow_made wo #[] 0 (Nat.le_refl _) (Nat.zero_le _) (by simp), InsAt.start x, (Below.refl _ _).alloc (Nat.le_refl _) _⟩
        case round =>
          obtain ⟨j, nx, put, hj, rfl, rfl, hownN, hins, hnxN⟩ := hrel
          have hszN := hnxN.size
          by_cases hjl : j < ys.length
          · have ht : ys.take (j + 1) = ys.take j ++ [ys.getD j 0] := by rw [List.take_succ_eq_append_getElem hjl, getD_lt hjl]
            have HT := Lib.hid ht; clear ht
            obtain ⟨b2, o2, hA2, hb2, hc2⟩ := (HR2.out.below hnxN).get hjl
            subst hA2
            have hy1 := (one_iff _).1 (allOne_mem HYA.out (mem_getD.2 ⟨j, hjl, rfl⟩))
            have hylo : -262144 ≤ ys.getD j 0 := by omega
            have hyhi : ys.getD j 0 ≤ 262144 := by omega
            clear hy1
            generalize ys.getD j 0 = y at *
            have hnl := hins.len.1
            have htl := List.length_take_le j ys
            have hnl2 : nx.length ≤ j + 1 := by omega
            clear hnl htl
            have HI := Lib.hid hins; clear hins
            rcases put with _ | _
            · rcases hbe : beforeB x y with _ | _
              · have HB := Lib.hid hbe
                go_wp2_with (first
                  | (go_at_call 49; refine (rbefore_any x y _ (by omega) (by omega) (by omega) (by omega)).mono ?_; rintro e w' ⟨rfl, rfl⟩)
                  | (at_builtin; refine wpList_append_own _ rfl (.tmp 51) (.tmp 53) 44 rfl wo.heap.size 27 i0 (.int .i32 0) 1 4 Try.underlying44 hi hz0 hz1 hz2 rfl (by decide) _ _ _ rfl (hownN.alloc _) ⟨wr.heap.size, 0, none⟩ 1 1 [.int .i32 y] rfl rfl one_cell one_one (by unfold maxLen; omega) (by omega) (by simp; omega) ?_))
                intro v1 w1 hown1 hgrow1 _
                obtain ⟨hO1, hB1⟩ := Own.step hownN hnxN hszN hown1 hgrow1
                clear hown1 hgrow1 hownN hnxN
                go_wp2
                go_roundw
                case rel => exact ⟨j + 1, nx ++ [y], false, by omega, by go_num, rfl, hO1, by rw [HT.out]; exact HI.out.skip HB.out, hB1⟩
                case measure => simp [intOf]; omega
              · have HB := Lib.hid hbe
                go_wp2_with (first
                  | (go_at_call 49; refine (rbefore_any x y _ (by omega) (by omega) (by omega) (by omega)).mono ?_; rintro e w' ⟨rfl, rfl⟩)
                  | (at_builtin; refine wpList_append_own _ rfl (.tmp 47) (.tmp 49) 44 rfl wo.heap.size 27 i0 (.int .i32 0) 1 4 Try.underlying44 hi hz0 hz1 hz2 rfl (by decide) _ _ _ rfl (hownN.alloc _) ⟨wr.heap.size, 0, none⟩ 1 1 [.int .i32 x] rfl rfl one_cell one_one (by unfold maxLen; omega) (by omega) (by simp; omega) ?_))
                intro v1 w1 hown1 hgrow1 _
                obtain ⟨hO1, hB1⟩ := Own.step hownN hnxN hszN hown1 hgrow1
                clear hown1 hgrow1 hownN hnxN hc2
                have hs1 := hB1.size
                have hl1 : (nx ++ [x]).length = nx.length + 1 := by simp
                have hl1' : (nx ++ [x]).length ≤ j + 2 := by omega
                clear hl1
                generalize hnx1 : nx ++ [x] = nx1 at *
                have HN1 := Lib.hid hnx1; clear hnx1
                go_wp2_with (at_builtin; refine wpList_append_own _ rfl (.tmp 51) (.tmp 53) 44 rfl wo.heap.size 27 i0 (.int .i32 0) 1 4 Try.underlying44 hi hz0 hz1 hz2 rfl (by decide) _ _ _ rfl (hO1.alloc _) ⟨w1.heap.size, 0, none⟩ 1 1 [.int .i32 y] rfl rfl one_cell one_one (by unfold maxLen; omega) (by omega) (by simp; omega) ?_)
                intro v2 w2 hown2 hgrow2 _
                obtain ⟨hO2, hB2⟩ := Own.step hO1 hB1 hs1 hown2 hgrow2
                clear hown2 hgrow2 hO1 hB1
                go_wp2
                go_roundw
                case rel => exact ⟨j + 1, nx1 ++ [y], true, by omega, by go_num, rfl, hO2, by rw [HT.out, ← HN1.out]; exact HI.out.lay HB.out, hB2⟩
                case measure => simp [intOf]; omega
            · go_wp2_with (at_builtin; refine wpList_append_own _ rfl (.tmp 51) (.tmp 53) 44 rfl wo.heap.size 27 i0 (.int .i32 0) 1 4 Try.underlying44 hi hz0 hz1 hz2 rfl (by decide) _ _ _ rfl (hownN.alloc _) ⟨wr.heap.size, 0, none⟩ 1 1 [.int .i32 y] rfl rfl one_cell one_one (by unfold maxLen; omega) (by omega) (by simp; omega) ?_)
              intro v1 w1 hown1 hgrow1 _
              obtain ⟨hO1, hB1⟩ := Own.step hownN hnxN hszN hown1 hgrow1
              clear hown1 hgrow1 hownN hnxN
              go_wp2
              go_roundw
              case rel => exact ⟨j + 1, nx ++ [y], true, by omega, by go_num, rfl, hO1, by rw [HT.out]; exact HI.out.more, hB1⟩
              case measure => simp [intOf]; omega
          · have hall : ys.take j = ys := List.take_of_length_le (by omega)
            rw [hall] at hins
            clear hall
            rcases put with _ | _
            · have HI := Lib.hid (HAdd.out _ (ins_no hins HP.out HYA.out HO.out HH.out))
              have hnl := hins.len.1
              clear hins
              go_wp2_with (at_builtin; refine wpList_append_own _ rfl (.tmp 58) (.tmp 60) 44 rfl wo.heap.size 27 i0 (.int .i32 0) 1 4 Try.underlying44 hi hz0 hz1 hz2 rfl (by decide) _ _ _ rfl (hownN.alloc _) ⟨wr.heap.size, 0, none⟩ 1 1 [.int .i32 x] rfl rfl one_cell one_one (by unfold maxLen; omega) (by omega) (by simp; omega) ?_)
              intro v1 w1 hown1 hgrow1 _
              obtain ⟨hO1, hB1⟩ := Own.step hownN hnxN hszN hown1 hgrow1
              clear hown1 hgrow1 hownN hnxN
              go_wp2
              go_roundw
              case rel => exact ⟨k + 1, nx ++ [x], by omega, by go_num, by rw [HS.out]; simp, hO1.base hsz, HI.out, HNX.out.trans (hB1.mono hsz)⟩
              case measure => simp [intOf]; omega
            · have HI := Lib.hid (HAdd.out _ (ins_yes hins HP.out HYA.out HO.out HH.out))
              clear hins
              go_wp2
              go_roundw
              case rel => exact ⟨k + 1, nx, by omega, by go_num, by rw [HS.out]; simp, hownN.base hsz, HI.out, HNX.out.trans (hnxN.mono hsz)⟩
              case measure => simp [intOf]; omega
    · have hkn : k = xs.length := by rw [HL.out]; omega
      have hall : xs.take k = xs := List.take_of_length_le (by omega)
      rw [hall] at hcl
      have hb : bothTo xs k = bothB xs := by rw [hkn, bothTo_all]
      rw [hb]
      have HC := Lib.hid hcl
      clear hall hkn hb hcl
      go_wp2
      go_ret3
      exact ⟨_, ys, rfl, hown, HC.out, hnx⟩

theorem rclean_no (A : Option Addr) (n c : Nat) (xs : List Int) (w : World) (h : Rd .i32 w w.heap.size A n xs) (hn : n * 4 ≤ 100000000000000) (ha : allOne xs = false) :
    Calls Try.prog 18 #[.slice A n c] w fun e w' => e = .returned (.tuple #[.slice none 0 0, .bool false, .int .i64 11]) ∧ w = w' := by
  have HA := Lib.hid ha; clear ha
  go_enter Try.func18, Try.ntmps18
  go_wp2_with fail
  refine (rright_any A n c xs _ h (by omega)).mono ?_
  rintro e w' ⟨rfl, rfl⟩
  rw [HA.out]
  go_wp2_with fail
  go_ret3
  exact ⟨rfl, rfl⟩
end Go.Proofs.Ytjhopjokllkipaa
