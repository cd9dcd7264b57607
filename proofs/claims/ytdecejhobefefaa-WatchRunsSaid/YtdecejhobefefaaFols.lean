/- The contract of lariatref06.Follows, where the clause follows. -/
import Derived.Test.YtdecejhobefefaaClo
namespace Go.Proofs.Ytdecejhobefefaa
open Go.RowKit LitM TrailM EngM

theorem setV_same {V : Nat → Int} {x : Int} : valV (setV V x) x = 1 := by
  unfold valV setV
  by_cases e : x < 0
  · rw [if_pos e]; simp [e]
  · rw [if_neg e]; simp [e]
theorem setV_keep {V : Nat → Int} {x y : Int} (hn : y ≠ -x) (h : valV V y = 1) : valV (setV V x) y = 1 := by
  unfold valV at h ⊢
  unfold setV
  by_cases e : y < 0
  · rw [if_pos e] at h ⊢
    by_cases e2 : x < 0
    · rw [if_pos e2]
      split <;> omega
    · rw [if_neg e2, if_neg (by omega)]; exact h
  · rw [if_neg e] at h ⊢
    by_cases e2 : x < 0
    · rw [if_pos e2, if_neg (by omega)]; exact h
    · rw [if_neg e2]
      split <;> omega
theorem ext_val {V0 V : Nat → Int} (h : ∀ k, V0 k ≠ 0 → V k = V0 k) {y : Int} (hy : valV V0 y = 1) : valV V y = 1 := by
  unfold valV at hy ⊢
  by_cases e : y < 0
  · rw [if_pos e] at hy ⊢
    rw [h _ (by omega)]; exact hy
  · rw [if_neg e] at hy ⊢
    rw [h _ (by omega)]; exact hy
/-- It follows by what is set alone. -/
def Rup (all : List (List Int)) (zs : List Int) : Prop := ∀ T : Int → Prop, (∀ y, LitM.one y = true → T y → T (-y) → False) → (∀ c ∈ all, (∃ y ∈ c, T y) ∨ ∃ a b, a ∈ c ∧ b ∈ c ∧ a ≠ b ∧ ¬ T a ∧ ¬ T (-a) ∧ ¬ T b ∧ ¬ T (-b)) → ¬ ∀ l ∈ zs, T (-l)
theorem Rup.no_quiet {all : List (List Int)} {zs : List Int} (h : Rup all zs) {V0 V : Nat → Int} (he : ∀ k, V0 k ≠ 0 → V k = V0 k) (ho : ∀ c ∈ all, ∀ y ∈ c, LitM.one y = true) (hz : ∀ l ∈ zs, valV V0 (-l) = 1) (hq : ∀ c ∈ all, Quiet V c) : False := by
  refine h (fun y => valV V y = 1) (fun y hy h1 h2 => ?_) (fun c hc => ?_) fun l hl => ext_val he (hz l hl)
  · have := (one_iff y).1 hy
    have h2 : valV V (-y) = 1 := h2
    have h1 : valV V y = 1 := h1
    rw [valV_neg (by omega)] at h2
    omega
  · rcases hq c hc with e | ⟨a, b, ha, hb, hab, ea, eb⟩
    · exact .inl e
    · have oa := (one_iff a).1 (ho c hc a ha)
      have ob := (one_iff b).1 (ho c hc b hb)
      refine .inr ⟨a, b, ha, hb, hab, ?_, ?_, ?_, ?_⟩
      · show ¬ valV V a = 1; omega
      · show ¬ valV V (-a) = 1; rw [valV_neg (by omega)]; omega
      · show ¬ valV V b = 1; omega
      · show ¬ valV V (-b) = 1; rw [valV_neg (by omega)]; omega
set_option maxHeartbeats 6400000 in
set_option maxRecDepth 100000 in
theorem follows_any {w : World} {N : Nat} (hN : N ≤ 500) {A : Option Addr} {m c2 : Nat} {all : List (List Int)} (hs : RdG w A m all) (hx : ∀ c ∈ all, c.length ≤ 100000 ∧ ∀ y ∈ c, LitM.one y = true ∧ varZ y < ((N + 1 : Nat) : Int)) (hm : m ≤ 100000)
    {A2 : Option Addr} {m2 c3 : Nat} {zs : List Int} (hz : Rd .i32 w w.heap.size A2 m2 zs) (hzo : ∀ y ∈ zs, LitM.one y = true ∧ varZ y < ((N + 1 : Nat) : Int)) (hm2 : m2 ≤ 100000) (hrup : Rup all zs) :
    Calls Try.prog 35 #[.int .i64 (N : Int), .slice A m c2, .slice A2 m2 c3] w fun e w' => e = .returned (.bool true) ∧ Below w.heap.size w w' := by
  obtain ⟨C, k1, k2, hmk⟩ := make_sl (P := Try.prog) 72 3 Try.underlying72 info_tint rfl (by decide) (by decide) (N + 1) (by omega)
  have hm' : ∀ w : World, (Instr.makeSlice 72 (.int .i64 ((N : Int) + 1)) (.int .i64 ((N : Int) + 1))).run Try.prog w = .ok (.slice (some ⟨w.heap.size, 0, none⟩) (N + 1) (N + 1)) (w.alloc (.cells C 3)) := by
    intro w
    have := hmk w
    rw [show (((N + 1 : Nat)) : Int) = (N : Int) + 1 by omega] at this
    exact this
  have HV0 : Hid (RowV 3 1 (w.alloc (.cells C 3)) w.heap.size (N + 1) (N + 1) (intV fun _ => 0)) := RowV.made (by omega) k1 (fun j hj => by rw [k2 j hj]; simp [Nat.mod_one]; rfl)
  have HB0 : Hid (Below w.heap.size w (w.alloc (.cells C 3))) := (Below.refl _ _).alloc (Nat.le_refl _) _
  have HRG : Hid (∀ W, Below w.heap.size w W → RdG W A m all) := fun W h => hs.below h
  have HRZ : Hid (∀ W, Below w.heap.size w W → Rd .i32 W w.heap.size A2 m2 zs) := fun W h => hz.below h
  have HX := Lib.hid hx
  have HZO := Lib.hid hzo
  have HZL := Lib.hid hz.len
  have HRU := Lib.hid hrup
  clear hmk k1 k2 hs hz hx hzo hrup
  go_enter Try.func35, Try.ntmps35
  go_wp2_with fail
  obtain ⟨g0, hg0⟩ : ∃ g0, g0 = w.heap.size := ⟨_, rfl⟩
  obtain ⟨wv, hwv⟩ : ∃ wv, wv = w.alloc (.cells C 3) := ⟨_, rfl⟩
  rw [← hwv, ← hg0]
  rw [← hwv, ← hg0] at HV0
  rw [← hwv] at HB0
  clear hwv hg0
  go_loopw [7, 17] (fun vv pv wr => ∃ (j g c : Nat) (V : Nat → Int), vv = .slice (some ⟨g, 0, none⟩) (N + 1) c ∧ pv = .int .i64 (j : Int) ∧ j ≤ m2 ∧ Hid (RowV 3 1 wr g (N + 1) c (intV V)) ∧ Hid (∀ k, -1 ≤ V k ∧ V k ≤ 1) ∧ Hid (∀ l ∈ zs.take j, valV V (-l) = 1) ∧ Hid (Below w.heap.size w wr)) (fun _ pv _ => m2 - (intOf pv).toNat)
  case atStart => exact ⟨0, g0, N + 1, fun _ => 0, rfl, rfl, by omega, HV0, Lib.hid (fun k => by show -1 ≤ (0 : Int) ∧ (0 : Int) ≤ 1; omega), Lib.hid (by simp), HB0⟩
  case round =>
    clear HV0 HB0
    obtain ⟨j, g, c, V, rfl, rfl, hj, hR, hV, hA, hB⟩ := hrel
    by_cases hlt : j < m2
    · have tj : decide (j < m2) = true := decide_eq_true hlt
      have tj2 : decide ((j : Int) < (m2 : Int)) = true := decide_eq_true (by omega)
      obtain ⟨gx, o, rfl, hgb, hcm⟩ := (HRZ.out _ hB.out).get hlt
      have hxj : zs[j]? = some (zs.getD j 0) := by
        have := HZL.out
        rw [List.getD, List.getElem?_eq_getElem (by omega)]; rfl
      obtain ⟨x1, x2⟩ := HZO.out _ (List.mem_of_getElem? hxj)
      have HTK : Hid (zs.take (j + 1) = zs.take j ++ [zs.getD j 0]) := by unfold Hid; rw [List.take_add_one, hxj]; rfl
      generalize zs.getD j 0 = l at *
      have ho := (one_iff l).1 x1
      have HONE : Hid (Calls Try.prog 41 #[.int .i32 l] wr fun e w' => e = .returned (.bool true) ∧ wr = w') := by
        have := rone_any l wr
        rw [x1] at this
        exact this
      have HVR := Lib.hid (rvar_any l wr (by omega) (by omega))
      have HOF := Lib.hid (of_c hR.out hV.out l x1 x2 (by omega))
      have HW := Lib.hid (with_any hR.out (-l) (one_neg x1) (by rw [var_neg x1]; exact x2) (by omega))
      have tv : decide ((N : Int) < varZ l) = false := decide_eq_false (by omega)
      generalize varZ l = vz at *
      by_cases hz1 : valV V l = 1
      · have t1 : (valV V l == 1) = true := by simpa using hz1
        rw [hz1] at HOF
        clear HW HTK hz1 t1
        go_wp2_with fail
        refine HONE.out.mono ?_
        rintro e w' ⟨rfl, rfl⟩
        go_wp2_with fail
        refine HVR.out.mono ?_
        rintro e w' ⟨rfl, rfl⟩
        go_wp2_with fail
        refine HOF.out.mono ?_
        rintro e w' ⟨rfl, rfl⟩
        go_wp2_with fail
        go_ret
        exact ⟨rfl, hB.out⟩
      · have t1 : (valV V l == 1) = false := by simpa using hz1
        have HA2 : Hid (∀ y ∈ zs.take (j + 1), valV (setV V (-l)) (-y) = 1) := fun y hy => by
          rw [HTK.out, List.mem_append, List.mem_singleton] at hy
          by_cases e : y = l
          · rw [e]; exact setV_same
          · rcases hy with hy | hy
            · have h1 := hA.out y hy
              refine setV_keep (fun e2 => ?_) h1
              rw [Int.neg_neg] at e2
              rw [e2] at h1
              exact hz1 h1
            · exact absurd hy e
        have HV2 : Hid (∀ k, -1 ≤ setV V (-l) k ∧ setV V (-l) k ≤ 1) := fun k => by
          have := hV.out k
          unfold setV
          split <;> split <;> omega
        generalize valV V l = z at *
        clear HTK hA hz1
        go_wp2_with fail
        refine HONE.out.mono ?_
        rintro e w' ⟨rfl, rfl⟩
        go_wp2_with fail
        refine HVR.out.mono ?_
        rintro e w' ⟨rfl, rfl⟩
        go_wp2_with fail
        refine HOF.out.mono ?_
        rintro e w' ⟨rfl, rfl⟩
        go_wp2_with fail
        refine HW.out.mono ?_
        rintro e w5 ⟨g5, c5, rfl, hr5, _, hb5⟩
        have HR5 := Lib.hid hr5
        have HB5 : Hid (Below w.heap.size w w5) := hB.out.trans (hb5.mono hB.out.size)
        clear hr5 hb5 HW hR hV
        go_wp2_with fail
        go_roundw
        case rel => exact ⟨j + 1, g5, c5, _, by first | rfl | trivial, by go_num, by omega, HR5, HV2, HA2, HB5⟩
        case measure => simp [intOf]; omega
    · have tj : decide (j < m2) = false := decide_eq_false hlt
      have tj2 : decide ((j : Int) < (m2 : Int)) = false := decide_eq_false (by omega)
      obtain rfl : j = m2 := by omega
      have hfull : zs.take j = zs := List.take_of_length_le (by have := HZL.out; omega)
      rw [hfull] at hA
      have HC := Lib.hid (close_any (c2 := c2) hR.out hV.out (by omega) (HRG.out _ hB.out) HX.out hm)
      go_wp2_with fail
      refine HC.out.mono ?_
      rintro e w6 ⟨hb6, g6, c6, V6, fl, rfl, _, hclo, _, hq⟩
      have hfl : fl = true := by
        cases fl with
        | true => rfl
        | false => exact (HRU.out.no_quiet hclo.ext (fun c hc y hy => ((HX.out c hc).2 y hy).1) hA.out (hq rfl)).elim
      subst hfl
      have HB6 : Hid (Below w.heap.size w w6) := hB.out.trans (hb6.mono hB.out.size)
      clear hb6 hclo hq HC
      go_wp2_with fail
      go_ret
      exact ⟨rfl, HB6.out⟩
end Go.Proofs.Ytdecejhobefefaa
