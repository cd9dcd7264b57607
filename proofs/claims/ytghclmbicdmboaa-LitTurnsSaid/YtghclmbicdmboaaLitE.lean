/- The contract of lit.Resolve. -/
import Derived.Test.YtghclmbicdmboaaLitD
import Derived.Laws.AppendOwnNone
namespace Go.Proofs.Ytghclmbicdmboaa
open Go.Shelf Go.RowKit LitM

theorem wrap_small {v : Int} (h1 : -262144 ≤ v) (h2 : v ≤ 262144) : IntKind.i32.wrap v = v := by simp [IntKind.wrap, IntKind.bits, IntKind.signed]; omega

theorem allOne_false {xs : List Int} {x : Int} (hx : x ∈ xs) (h : LitM.one x = false) : allOne xs = false := by
  rw [← Bool.not_eq_true]; intro ha; rw [allOne_mem ha hx] at h; cases h
theorem rest_none {xs ys : List Int} {v : Int} (hv2 : 1 ≤ v) (hv3 : v ≤ 262144) (h : allOne xs = false ∨ allOne ys = false) : allOne (restL xs ys v) = false := by
  have key : ∀ {zs : List Int} {u : Int}, LitM.one u = true → allOne zs = false → ∃ z, z ∈ sansL zs u ∧ LitM.one z = false := by
    intro zs u hu hz
    unfold allOne at hz
    rw [List.all_eq_false] at hz
    obtain ⟨z, h1, h2⟩ := hz
    have h2' : LitM.one z = false := by simpa using h2
    exact ⟨z, sans_mem.2 ⟨h1, fun e => by rw [e, hu] at h2'; cases h2'⟩, h2'⟩
  rcases h with h | h
  · obtain ⟨z, h1, h2⟩ := key (u := v) ((one_iff v).2 (by omega)) h
    exact allOne_false (by unfold restL; rw [List.mem_append]; exact .inl h1) h2
  · obtain ⟨z, h1, h2⟩ := key (u := -v) ((one_iff (-v)).2 (by omega)) h
    exact allOne_false (by unfold restL; rw [List.mem_append]; exact .inr h1) h2
theorem rest_in32 {xs ys : List Int} {v : Int} (h1 : In32 xs) (h2 : In32 ys) : In32 (restL xs ys v) := In32.of fun x hx => by
  unfold restL at hx
  rw [List.mem_append, sans_mem, sans_mem] at hx
  rcases hx with hx | hx
  · exact h1.mem hx.1
  · exact h2.mem hx.1
theorem rest_len (xs ys : List Int) (v : Int) : (restL xs ys v).length ≤ xs.length + ys.length := by
  unfold restL
  rw [List.length_append]
  have := sans_len_all xs v
  have := sans_len_all ys (-v)
  omega
theorem notZ_small {v : Int} (hv2 : 1 ≤ v) (hv3 : v ≤ 262144) : notZ v = -v := by
  have : LitM.one v = true := (one_iff v).2 (by omega)
  unfold notZ; rw [if_pos this]

set_option maxHeartbeats 1000000 in
/-- By a v that is no variable, or that isn't in them so. -/
theorem resolve_out (A A2 : Option Addr) (n c n2 c2 : Nat) (xs ys : List Int) (v : Int) (w : World) (B : Nat) (h : Rd .i32 w B A n xs) (h2 : Rd .i32 w B A2 n2 ys) (hn : n * 4 ≤ 100000000000000) (hn2 : n2 * 4 ≤ 100000000000000)
    (hv0 : -9223372036854775808 ≤ v) (hv1 : v ≤ 9223372036854775807) (hno : v < 1 ∨ 262144 < v ∨ hasB xs v = false ∨ hasB ys (-v) = false) :
    Calls Try.prog 6 #[.slice A n c, .slice A2 n2 c2, .int .i64 v] w fun e w' => e = .returned (.tuple #[.slice none 0 0, .int .i64 11]) ∧ w = w' := by
  have H1 := Lib.hid h
  have H2 := Lib.hid h2
  clear h h2
  by_cases hr : v < 1
  · clear hno
    have hd1 : decide (v < 1) = true := by simpa using hr
    go_enter Try.func6, Try.ntmps6
    go_wp2_with fail
    all_goals (go_ret2; exact ⟨rfl, rfl⟩)
  · have hd1 : decide (v < 1) = false := by simp; omega
    by_cases hr2 : 262144 < v
    · clear hno
      have hd2 : decide (262144 < v) = true := by simpa using hr2
      go_enter Try.func6, Try.ntmps6
      go_wp2_with fail
      all_goals (go_ret2; exact ⟨rfl, rfl⟩)
    · have hd2 : decide (262144 < v) = false := by simp; omega
      have hv2 : 1 ≤ v := by omega
      have hv3 : v ≤ 262144 := by omega
      have hq1 := wrap_small (v := v) (by omega) hv3
      have HN := Lib.hid (notZ_small hv2 hv3)
      have HNO : Hid (hasB xs v = true → hasB ys (-v) = false) := by
        intro hp
        rcases hno with h | h | h | h
        · omega
        · omega
        · rw [hp] at h; cases h
        · exact h
      clear hno hr hr2
      rcases hp : hasB xs v with _ | _
      · have HP := Lib.hid hp; clear hp HNO
        go_enter Try.func6, Try.ntmps6
        go_wp2_with fail
        refine (not_any v _ (by omega) (by omega)).mono ?_
        rintro e w' ⟨rfl, rfl⟩
        rw [HN.out]
        go_wp2_with fail
        refine (contains_any A n c xs v _ B H1.out (by omega)).mono ?_
        rintro e w' ⟨rfl, rfl⟩
        rw [HP.out]
        go_wp2_with fail
        all_goals (go_ret2; exact ⟨rfl, rfl⟩)
      · have HQ := Lib.hid (HNO.out hp)
        have HP := Lib.hid hp; clear hp HNO
        go_enter Try.func6, Try.ntmps6
        go_wp2_with fail
        refine (not_any v _ (by omega) (by omega)).mono ?_
        rintro e w' ⟨rfl, rfl⟩
        rw [HN.out]
        go_wp2_with fail
        refine (contains_any A n c xs v _ B H1.out (by omega)).mono ?_
        rintro e w' ⟨rfl, rfl⟩
        rw [HP.out]
        go_wp2_with fail
        refine (contains_any A2 n2 c2 ys (-v) _ B H2.out (by omega)).mono ?_
        rintro e w' ⟨rfl, rfl⟩
        rw [HQ.out]
        go_wp2_with fail
        all_goals (go_ret2; exact ⟨rfl, rfl⟩)

set_option maxHeartbeats 1600000 in
/-- What lit.Resolve comes to, up to its last call. -/
theorem resolve_in (A A2 : Option Addr) (n c n2 c2 : Nat) (xs ys : List Int) (v : Int) (w : World) (h : Rd .i32 w w.heap.size A n xs) (h2 : Rd .i32 w w.heap.size A2 n2 ys) (hn : n * 4 ≤ 40000000000000) (hn2 : n2 * 4 ≤ 40000000000000)
    (hv2 : 1 ≤ v) (hv3 : v ≤ 262144) (hp : hasB xs v = true) (hq : hasB ys (-v) = true) (R : Ending → World → Prop)
    (hR : ∀ A3 n3 c3 w1, Rd .i32 w1 w1.heap.size A3 n3 (restL xs ys v) → Below w.heap.size w w1 → Calls Try.prog 11 #[.slice A3 n3 c3] w1 fun e w' => ∃ u b k, e = .returned (.tuple #[u, b, k]) ∧ R (.returned (.tuple #[u, k])) w') :
    Calls Try.prog 6 #[.slice A n c, .slice A2 n2 c2, .int .i64 v] w R := by
  obtain ⟨i0, hi, hz0, hz1, hz2⟩ := info_parts info_lit
  have HR := Lib.hid hR
  have H1 := Lib.hid h
  have H2 := Lib.hid h2
  have HP := Lib.hid hp
  have HQ := Lib.hid hq
  have HL1 := Lib.hid h.len
  have HL2 := Lib.hid h2.len
  have hd1 : decide (v < 1) = false := by simp; omega
  have hd2 : decide (262144 < v) = false := by simp; omega
  have hq1 := wrap_small (v := v) (by omega) hv3
  have HN := Lib.hid (notZ_small hv2 hv3)
  clear h h2 hp hq hR
  go_enter Try.func6, Try.ntmps6
  go_wp2_with fail
  refine (not_any v _ (by omega) (by omega)).mono ?_
  rintro e w' ⟨rfl, rfl⟩
  rw [HN.out]
  go_wp2_with fail
  refine (contains_any A n c xs v _ _ H1.out (by omega)).mono ?_
  rintro e w' ⟨rfl, rfl⟩
  rw [HP.out]
  go_wp2_with fail
  refine (contains_any A2 n2 c2 ys (-v) _ _ H2.out (by omega)).mono ?_
  rintro e w' ⟨rfl, rfl⟩
  rw [HQ.out]
  go_wp2_with fail
  refine (without_any A n c xs v _ H1.out (by omega)).mono ?_
  rintro e w1 ⟨v1, rfl, hO1, hB1⟩
  have HO1 := Lib.hid hO1
  have HB1 := Lib.hid hB1
  have H2' := Lib.hid ((H2.out.below hB1).more hB1.size)
  clear hO1 hB1
  go_wp2_with fail
  refine (without_any A2 n2 c2 ys (-v) _ H2'.out (by omega)).mono ?_
  rintro e w2 ⟨v2, rfl, hO2, hB2⟩
  have hO1 := HO1.out.below hB2
  have hB2' := HB1.out.trans (hB2.mono HB1.out.size)
  have hsz := hB2'.size
  have hl1 : (sansL xs v).length ≤ n := by have := sans_len_all xs v; rw [HL1.out] at this; exact this
  have hl2 : (sansL ys (-v)).length ≤ n2 := by have := sans_len_all ys (-v); rw [HL2.out] at this; exact this
  clear hB2
  rcases hO2.2 with ⟨rfl, h0⟩ | ⟨g, cap, cur, rfl, _⟩
  · have he : restL xs ys v = sansL xs v := by
      unfold restL; rw [List.length_eq_zero_iff.1 h0, List.append_nil]
    have HE := Lib.hid he
    clear he h0 hO2
    go_wp2_with (at_builtin; refine wpList_append_own_none rfl _ _ 22 rfl w.heap.size 29 i0 1 Try.underlying22 hi _ _ _ rfl hO1 rfl ?_)
    obtain ⟨A3, c3, rfl, hR3⟩ := hO1.form
    have hR4 : Rd .i32 w2 w2.heap.size A3 (sansL xs v).length (restL xs ys v) := by rw [HE.out]; exact hR3
    have HX := Lib.hid (HR.out _ _ c3 _ hR4 hB2')
    clear hR3 hR4 hO1 hB2'
    refine HX.out.mono ?_
    rintro e w3 ⟨u, b, k, rfl, hr⟩
    have HRR := Lib.hid hr; clear hr
    go_wp2_with fail
    exact HRR.out
  · have hN := Lib.hid (Rd.of_own hO2).news
    have hON : Hid (∀ u ∈ (sansL ys (-v)).map (Value.int .i32), u.oneCell' = true) := by
      intro u hu
      obtain ⟨x, _, rfl⟩ := List.mem_map.1 hu
      rfl
    clear hO2
    go_wp2_with (at_builtin; refine wpList_append_own _ rfl _ _ 22 rfl w.heap.size 29 i0 (.int .i32 0) 1 4 Try.underlying22 hi hz0 hz1 hz2 rfl (by decide) _ _ _ rfl hO1 ⟨g, 0, none⟩ _ _ ((sansL ys (-v)).map (Value.int .i32)) rfl (by simp) hN.out hON.out (by unfold maxLen; omega) (by omega) hsz ?_)
    intro v3 w3 hown3 hgrow3 _
    have hB3 := hB2'.grown hgrow3 hsz (fun j hj => (hO1.lt j hj).1)
    have hO3 : Own w3 w.heap.size v3 (restL xs ys v) := by
      unfold Own restL; rw [List.length_append, List.map_append]; exact hown3
    clear hown3 hgrow3 hO1 hB2'
    obtain ⟨A3, c3, rfl, hR3⟩ := hO3.form
    have HX := Lib.hid (HR.out _ _ c3 _ hR3 hB3)
    clear hR3 hO3 hB3
    go_wp2_with fail
    refine HX.out.mono ?_
    rintro e w4 ⟨u, b, k, rfl, hr⟩
    have HRR := Lib.hid hr; clear hr
    go_wp2_with fail
    exact HRR.out

/-- lit.Resolve where it can't be. -/
theorem resolve_no (A A2 : Option Addr) (n c n2 c2 : Nat) (xs ys : List Int) (v : Int) (w : World) (h : Rd .i32 w w.heap.size A n xs) (h2 : Rd .i32 w w.heap.size A2 n2 ys) (h32 : In32 xs) (h32' : In32 ys) (hn : n * 4 ≤ 40000000000000) (hn2 : n2 * 4 ≤ 40000000000000)
    (hv0 : -9223372036854775808 ≤ v) (hv1 : v ≤ 9223372036854775807) (hno : RNo xs ys v) :
    Calls Try.prog 6 #[.slice A n c, .slice A2 n2 c2, .int .i64 v] w fun e w' => e = .returned (.tuple #[.slice none 0 0, .int .i64 11]) ∧ Below w.heap.size w w' := by
  by_cases ho : v < 1 ∨ 262144 < v ∨ hasB xs v = false ∨ hasB ys (-v) = false
  · exact (resolve_out A A2 n c n2 c2 xs ys v w _ h h2 (by omega) (by omega) hv0 hv1 ho).mono fun _ _ ⟨he, hw⟩ => ⟨he, hw ▸ Below.refl _ _⟩
  · have h1 : ¬ v < 1 := fun e => ho (.inl e)
    have h3 : ¬ 262144 < v := fun e => ho (.inr (.inl e))
    have h4 : hasB xs v = true := by
      rcases hh : hasB xs v with _ | _
      · exact absurd (.inr (.inr (.inl hh))) ho
      · rfl
    have h5 : hasB ys (-v) = true := by
      rcases hh : hasB ys (-v) with _ | _
      · exact absurd (.inr (.inr (.inr hh))) ho
      · rfl
    have hall : allOne xs = false ∨ allOne ys = false := by
      rcases hno with h | h | h | h | h | h
      · exact .inl h
      · exact .inr h
      · omega
      · omega
      · rw [h4] at h; cases h
      · rw [h5] at h; cases h
    have hrl := rest_len xs ys v
    have e1 := h.len
    have e2 := h2.len
    exact resolve_in A A2 n c n2 c2 xs ys v w h h2 hn hn2 (by omega) (by omega) h4 h5 _ fun A3 n3 c3 w1 hR3 hB =>
      (clean_no A3 n3 c3 _ w1 hR3 (rest_in32 h32 h32') (by have := hR3.len; omega) (rest_none (by omega) (by omega) hall)).mono fun e w' ⟨he, hw⟩ => ⟨_, _, _, he, rfl, hw ▸ hB⟩

/-- lit.Resolve where it can be. -/
theorem resolve_yes (A A2 : Option Addr) (n c n2 c2 : Nat) (xs ys : List Int) (v : Int) (w : World) (h : Rd .i32 w w.heap.size A n xs) (h2 : Rd .i32 w w.heap.size A2 n2 ys) (hn : n * 4 ≤ 40000000000000) (hn2 : n2 * 4 ≤ 40000000000000)
    (hx : allOne xs = true) (hy : allOne ys = true) (hv2 : 1 ≤ v) (hv3 : v ≤ 262144) (hp : hasB xs v = true) (hq : hasB ys (-v) = true) :
    Calls Try.prog 6 #[.slice A n c, .slice A2 n2 c2, .int .i64 v] w fun e w' => ∃ A' m c' zs, e = .returned (.tuple #[.slice A' m c', .int .i64 0]) ∧ Rd .i32 w' w'.heap.size A' m zs ∧ IsClean (restL xs ys v) zs ∧ Below w.heap.size w w' := by
  have hrl := rest_len xs ys v
  have e1 := h.len
  have e2 := h2.len
  exact resolve_in A A2 n c n2 c2 xs ys v w h h2 hn hn2 hv2 hv3 hp hq _ fun A3 n3 c3 w1 hR3 hB =>
    (clean_yes A3 n3 c3 _ w1 hR3 (by have := hR3.len; omega) (rest_all hx hy)).mono fun e w' ⟨A', m, c', zs, he, hR, hC, hB'⟩ => ⟨_, _, _, he, A', m, c', zs, rfl, hR, hC, hB.trans (hB'.mono hB.size)⟩
end Go.Proofs.Ytghclmbicdmboaa
