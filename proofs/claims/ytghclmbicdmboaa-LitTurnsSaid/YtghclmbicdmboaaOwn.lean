/- lit.without. -/
import Derived.Test.YtghclmbicdmboaaLitL
import Derived.Test.YtghclmbicdmboaaOwnM
namespace Go.Proofs.Ytghclmbicdmboaa
open Go.RowKit LitM

/-- What is left of xs without x. -/
def sansL (xs : List Int) (x : Int) : List Int := xs.filter (fun y => y != x)
theorem sans_snoc (xs : List Int) (x : Int) (k : Nat) (hk : k < xs.length) : sansL (xs.take (k + 1)) x = sansL (xs.take k) x ++ if xs.getD k 0 = x then [] else [xs.getD k 0] := by
  unfold sansL
  rw [List.take_succ_eq_append_getElem hk, List.filter_append, getD_lt hk]
  congr 1
  by_cases h : xs[k] = x <;> simp [h]
theorem sans_len (xs : List Int) (x : Int) (k : Nat) : (sansL (xs.take k) x).length ≤ k := by
  unfold sansL
  have := List.length_filter_le (fun y => y != x) (xs.take k)
  have := List.length_take_le k xs
  omega

set_option maxHeartbeats 800000 in
theorem without_any (A : Option Addr) (n c : Nat) (xs : List Int) (x : Int) (w : World) (h : Rd .i32 w w.heap.size A n xs) (hn : n * 4 ≤ 140737488355328) :
    Calls Try.prog 14 #[.slice A n c, .int .i32 x] w fun e w' => ∃ v, e = .returned v ∧ Own w' w.heap.size v (sansL xs x) ∧ Below w.heap.size w w' := by
  obtain ⟨i0, hi, hz0, hz1, hz2⟩ := info_parts info_lit
  have hl := h.len
  have HL := Lib.hid hl; clear hl
  go_enter Try.func14, Try.ntmps14
  go_wp2
  go_loopw [5, 10] (fun v i wr => ∃ k : Nat, k ≤ n ∧ i = .int .i64 k ∧ Own wr w.heap.size v (sansL (xs.take k) x) ∧ Below w.heap.size w wr) (fun _ i _ => n - (intOf i).toNat)
  case atStart => exact ⟨0, Nat.zero_le _, rfl, Own.nil _ _, Below.refl _ _⟩
  case round =>
    obtain ⟨k, hk, rfl, hown, hnx⟩ := hrel
    by_cases hlt : k < n
    · obtain ⟨b, o, rfl, hb, hc⟩ := (h.below hnx).get hlt
      have hlen := sans_len xs x k
      have hsn := sans_snoc xs x k (by rw [HL.out]; exact hlt)
      have hsz := hnx.size
      by_cases hx : xs.getD k 0 = x
      · have hv : (xs.getD k 0 != x) = false := by rw [hx]; simp
        rw [if_pos hx, List.append_nil] at hsn
        have HS := Lib.hid hsn; clear hsn hx
        generalize hxk : xs.getD k 0 = y at *
        have HX := Lib.hid hxk; clear hxk
        go_wp2
        go_roundw
        case rel => exact ⟨k + 1, by omega, by go_num, by rw [HS.out]; exact hown, hnx⟩
        case measure => simp [intOf]; omega
      · have hv : (xs.getD k 0 != x) = true := by rw [bne_iff_ne]; exact hx
        rw [if_neg hx] at hsn
        have HS := Lib.hid hsn; clear hsn hx
        generalize hxk : xs.getD k 0 = y at *
        have HX := Lib.hid hxk; clear hxk
        go_wp2_with (at_builtin; refine wpList_append_own _ rfl _ _ 22 rfl w.heap.size 29 i0 (.int .i32 0) 1 4 Try.underlying22 hi hz0 hz1 hz2 rfl (by decide) _ _ _ rfl (hown.alloc _) ⟨wr.heap.size, 0, none⟩ 1 1 [.int .i32 y] rfl rfl ?c1 ?c2 ?c3 ?c4 ?c5 ?_)
        case c1 =>
          intro j u hj
          match j, hj with
          | 0, hj => simp at hj; subst hj; simp [Addr.add]
        case c2 => intro u hu; simp at hu; subst hu; rfl
        case c3 => unfold maxLen; omega
        case c4 => omega
        case c5 => simp; omega
        intro v' w1 hown' hgrow _
        have hb1 : Below w.heap.size w w1 := (hnx.alloc hsz _).grown hgrow (by simp; omega) (fun j hj => (hown.lt j hj).1)
        have hs1 := Own.snoc hown'
        clear hown' hgrow hown hnx hc
        go_wp2
        go_roundw
        case rel => exact ⟨k + 1, by omega, by go_num, by rw [HS.out]; exact hs1, hb1⟩
        case measure => simp [intOf]; omega
    · have hkn : k = n := by omega
      have hall : xs.take k = xs := List.take_of_length_le (by rw [HL.out]; omega)
      rw [hall] at hown
      clear hall hkn
      go_wp2
      go_ret
      exact ⟨_, rfl, hown, hnx⟩
end Go.Proofs.Ytghclmbicdmboaa
