/- The contracts of a trail's asking methods, at its rows. -/
import Derived.Test.YtjhopjokllkipaaTrailQ
namespace Go.Proofs.Ytjhopjokllkipaa
open Go.RowKit LitM TrailM

section
variable {b gm cm co cs n d : Nat} {ao az : Option Addr} {L : List Ent}

set_option maxHeartbeats 1600000 in
theorem tvars_nat (w : World) (h : TQ w b gm cm ao co az cs n d L) (hn : n ≤ 300000) :
    Calls Try.prog 26 #[.pointer (some ⟨b, 0, none⟩)] w fun e w' => e = .returned (.int .i64 n) ∧ w = w' := by
  have c0 := h.h0
  clear h
  go_enter Try.func26, Try.ntmps26
  go_wp2
  go_ret
  exact ⟨ret_int (by omega), rfl⟩
set_option maxHeartbeats 1600000 in
theorem tdepth_nat (w : World) (h : TQ w b gm cm ao co az cs n d L) :
    Calls Try.prog 24 #[.pointer (some ⟨b, 0, none⟩)] w fun e w' => e = .returned (.int .i64 d) ∧ w = w' := by
  have c2 := h.h2
  clear h
  go_enter Try.func24, Try.ntmps24
  go_wp2
  go_ret
  exact ⟨rfl, rfl⟩
set_option maxHeartbeats 1600000 in
theorem tlen_nat (w : World) (h : TQ w b gm cm ao co az cs n d L) :
    Calls Try.prog 34 #[.pointer (some ⟨b, 0, none⟩)] w fun e w' => e = .returned (.int .i64 L.length) ∧ w = w' := by
  have c1 := h.h1
  clear h
  go_enter Try.func34, Try.ntmps34
  go_wp2
  go_ret
  exact ⟨rfl, rfl⟩

set_option maxHeartbeats 1600000 in
theorem tknown_nat (w : World) (h : TQ w b gm cm ao co az cs n d L) (hO : Pre n d L) (hn : n ≤ 300000) (v : Int) :
    Calls Try.prog 39 #[.pointer (some ⟨b, 0, none⟩), .int .i64 v] w fun e w' => e = .returned (.bool (findE L v).isSome) ∧ w = w' := by
  have HV := Lib.hid (tvars_nat w h hn)
  by_cases h1 : 1 ≤ v
  · by_cases h2 : v ≤ n
    · obtain ⟨q, rfl⟩ := Int.eq_ofNat_of_zero_le (show 0 ≤ v by omega)
      have c0 := h.h0
      have cq := h.mks.cell (show q * 3 < (n + 1) * 3 by omega)
      rw [mkC0] at cq
      have hk := hO.known q
      have t1 : decide (1 ≤ (q : Int)) = true := decide_eq_true h1
      have t2 : decide ((q : Int) ≤ (n : Int)) = true := decide_eq_true h2
      have hcm := h.mks.bd
      obtain ⟨hcm1, hcm2⟩ := hcm
      clear h
      generalize mkH L q = y at *
      generalize hz : (findE L (q : Int)).isSome = z at *
      clear hz
      go_enter Try.func39, Try.ntmps39
      go_wp2_with fail
      refine HV.out.mono ?_
      rintro e w' ⟨rfl, rfl⟩
      go_wp2_with fail
      go_ret
      exact ⟨rfl, rfl⟩
    · have hf := hO.out (v := v) (.inr (by omega))
      rw [hf]
      have t1 : decide (1 ≤ v) = true := decide_eq_true h1
      have t2 : decide (v ≤ (n : Int)) = false := decide_eq_false h2
      clear h hf
      go_enter Try.func39, Try.ntmps39
      go_wp2_with fail
      refine HV.out.mono ?_
      rintro e w' ⟨rfl, rfl⟩
      go_wp2_with fail
      go_ret
      exact ⟨rfl, rfl⟩
  · have hf := hO.out (v := v) (.inl (by omega))
    rw [hf]
    have t1 : decide (1 ≤ v) = false := decide_eq_false h1
    clear h hf
    go_enter Try.func39, Try.ntmps39
    go_wp2_with fail
    go_ret
    exact ⟨rfl, rfl⟩

set_option maxHeartbeats 1600000 in
theorem tlevel_nat (w : World) (h : TQ w b gm cm ao co az cs n d L) (hO : Pre n d L) (hn : n ≤ 300000) (v : Int) :
    Calls Try.prog 37 #[.pointer (some ⟨b, 0, none⟩), .int .i64 v] w fun e w' => e = .returned (.int .i64 (levZ L v)) ∧ w = w' := by
  have HV := Lib.hid (tknown_nat w h hO hn v)
  cases hf : findE L v with
  | none =>
    rw [hf] at HV
    have hz : levZ L v = -1 := by unfold levZ; rw [hf]
    rw [hz]
    clear h hf hz
    go_enter Try.func37, Try.ntmps37
    go_wp2_with fail
    refine HV.out.mono ?_
    rintro e w' ⟨rfl, rfl⟩
    go_wp2_with fail
    go_ret
    exact ⟨rfl, rfl⟩
  | some x =>
    rw [hf] at HV
    obtain ⟨_, _, v1, v2, _⟩ := hO.at_ hf
    obtain ⟨q, rfl⟩ := Int.eq_ofNat_of_zero_le (show 0 ≤ v by omega)
    have hz : levZ L (q : Int) = mkV L q := by unfold levZ mkV; rw [hf]
    rw [hz]
    have c0 := h.h0
    have cq := h.mks.cell (show q * 3 + 1 < (n + 1) * 3 by omega)
    rw [mkC1] at cq
    have hcm := h.mks.bd
    obtain ⟨hcm1, hcm2⟩ := hcm
    clear h hf hz
    generalize mkV L q = y at *
    go_enter Try.func37, Try.ntmps37
    go_wp2_with fail
    refine HV.out.mono ?_
    rintro e w' ⟨rfl, rfl⟩
    go_wp2_with fail
    go_ret
    exact ⟨rfl, rfl⟩
set_option maxHeartbeats 1600000 in
theorem treason_nat (w : World) (h : TQ w b gm cm ao co az cs n d L) (hO : Pre n d L) (hn : n ≤ 300000) (v : Int) :
    Calls Try.prog 22 #[.pointer (some ⟨b, 0, none⟩), .int .i64 v] w fun e w' => e = .returned (.int .i64 (reaZ L v)) ∧ w = w' := by
  have HV := Lib.hid (tknown_nat w h hO hn v)
  cases hf : findE L v with
  | none =>
    rw [hf] at HV
    have hz : reaZ L v = -1 := by unfold reaZ; rw [hf]
    rw [hz]
    clear h hf hz
    go_enter Try.func22, Try.ntmps22
    go_wp2_with fail
    refine HV.out.mono ?_
    rintro e w' ⟨rfl, rfl⟩
    go_wp2_with fail
    go_ret
    exact ⟨rfl, rfl⟩
  | some x =>
    rw [hf] at HV
    obtain ⟨_, _, v1, v2, _⟩ := hO.at_ hf
    obtain ⟨q, rfl⟩ := Int.eq_ofNat_of_zero_le (show 0 ≤ v by omega)
    have hz : reaZ L (q : Int) = mkR L q := by unfold reaZ mkR; rw [hf]
    rw [hz]
    have c0 := h.h0
    have cq := h.mks.cell (show q * 3 + 2 < (n + 1) * 3 by omega)
    rw [mkC2] at cq
    have hcm := h.mks.bd
    obtain ⟨hcm1, hcm2⟩ := hcm
    clear h hf hz
    generalize mkR L q = y at *
    go_enter Try.func22, Try.ntmps22
    go_wp2_with fail
    refine HV.out.mono ?_
    rintro e w' ⟨rfl, rfl⟩
    go_wp2_with fail
    go_ret
    exact ⟨rfl, rfl⟩
set_option maxHeartbeats 1600000 in
theorem tvalue_nat (w : World) (h : TQ w b gm cm ao co az cs n d L) (hO : Pre n d L) (hn : n ≤ 300000) (l : Int) (l0 : -2147483648 ≤ l) (l1 : l ≤ 2147483647) :
    Calls Try.prog 12 #[.pointer (some ⟨b, 0, none⟩), .int .i32 l] w fun e w' => e = .returned (.int .i64 (valZ L l)) ∧ w = w' := by
  have HL := Lib.hid (var_any l w l0 l1)
  have HV := Lib.hid (tknown_nat w h hO hn (varZ l))
  cases hf : findE L (varZ l) with
  | none =>
    rw [hf] at HV
    have hz : valZ L l = 0 := by unfold valZ; rw [hf]
    rw [hz]
    clear h hf hz
    generalize varZ l = v at *
    go_enter Try.func12, Try.ntmps12
    go_wp2_with fail
    refine HL.out.mono ?_
    rintro e w' ⟨rfl, rfl⟩
    go_wp2_with fail
    refine HV.out.mono ?_
    rintro e w' ⟨rfl, rfl⟩
    go_wp2_with fail
    go_ret
    exact ⟨rfl, rfl⟩
  | some x =>
    rw [hf] at HV
    obtain ⟨_, _, v1, v2, _⟩ := hO.at_ hf
    have hz : valZ L l = if x.l = l then 1 else -1 := by unfold valZ; rw [hf]
    rw [hz]
    generalize varZ l = v at *
    obtain ⟨q, rfl⟩ := Int.eq_ofNat_of_zero_le (show 0 ≤ v by omega)
    have c0 := h.h0
    have cq := h.mks.cell (show q * 3 < (n + 1) * 3 by omega)
    rw [mkC0, (mk_some hf).1] at cq
    have hcm := h.mks.bd
    obtain ⟨hcm1, hcm2⟩ := hcm
    clear h hf hz
    generalize x.l = y at *
    by_cases e : y = l
    · subst e
      rw [if_pos rfl]
      have ty : (y == y) = true := by simp
      go_enter Try.func12, Try.ntmps12
      go_wp2_with fail
      refine HL.out.mono ?_
      rintro e w' ⟨rfl, rfl⟩
      go_wp2_with fail
      refine HV.out.mono ?_
      rintro e w' ⟨rfl, rfl⟩
      go_wp2_with fail
      go_ret
      exact ⟨rfl, rfl⟩
    · rw [if_neg e]
      have ty : (y == l) = false := by rw [beq_eq_false_iff_ne]; exact e
      go_enter Try.func12, Try.ntmps12
      go_wp2_with fail
      refine HL.out.mono ?_
      rintro e w' ⟨rfl, rfl⟩
      go_wp2_with fail
      refine HV.out.mono ?_
      rintro e w' ⟨rfl, rfl⟩
      go_wp2_with fail
      go_ret
      exact ⟨rfl, rfl⟩
/-- The i-th true one. -/
def atZ' (L : List Ent) (i : Int) : Int := if 0 ≤ i ∧ i < L.length then litE L i.toNat else 0
set_option maxHeartbeats 1600000 in
theorem tat_nat (w : World) (h : TQ w b gm cm ao co az cs n d L) (i : Int) :
    Calls Try.prog 36 #[.pointer (some ⟨b, 0, none⟩), .int .i64 i] w fun e w' => e = .returned (.int .i32 (atZ' L i)) ∧ w = w' := by
  have HV := Lib.hid (tlen_nat w h)
  by_cases h1 : i < 0
  · have hz : atZ' L i = 0 := by unfold atZ'; rw [if_neg (by omega)]
    rw [hz]
    have t1 : decide (i < 0) = true := decide_eq_true h1
    clear h hz
    go_enter Try.func36, Try.ntmps36
    go_wp2_with fail
    go_ret
    exact ⟨rfl, rfl⟩
  · have t1 : decide (i < 0) = false := decide_eq_false h1
    by_cases h2 : (L.length : Int) ≤ i
    · have hz : atZ' L i = 0 := by unfold atZ'; rw [if_neg (by omega)]
      rw [hz]
      have t2 : decide ((L.length : Int) ≤ i) = true := decide_eq_true h2
      clear h hz
      go_enter Try.func36, Try.ntmps36
      go_wp2_with fail
      refine HV.out.mono ?_
      rintro e w' ⟨rfl, rfl⟩
      go_wp2_with fail
      go_ret
      exact ⟨rfl, rfl⟩
    · have t2 : decide ((L.length : Int) ≤ i) = false := decide_eq_false h2
      obtain ⟨q, rfl⟩ := Int.eq_ofNat_of_zero_le (show 0 ≤ i by omega)
      have hz : atZ' L (q : Int) = litE L q := by unfold atZ'; rw [if_pos (by omega)]; rfl
      rw [hz]
      obtain ⟨g, rfl, hr⟩ := h.ord.row (by omega)
      have c1 := h.h1
      have cq : w.cell? ⟨g, q, none⟩ = some (.int .i32 (litE L q)) := hr.cell (show q < L.length * 1 by omega)
      have hcm := hr.bd
      obtain ⟨hcm1, hcm2⟩ := hcm
      clear h hz hr
      generalize litE L q = y at *
      go_enter Try.func36, Try.ntmps36
      go_wp2_with fail
      refine HV.out.mono ?_
      rintro e w' ⟨rfl, rfl⟩
      go_wp2_with fail
      go_ret
      exact ⟨rfl, rfl⟩
end
end Go.Proofs.Ytjhopjokllkipaa
