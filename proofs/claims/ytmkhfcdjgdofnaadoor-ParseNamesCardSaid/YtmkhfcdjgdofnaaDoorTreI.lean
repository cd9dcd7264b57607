/- The plain answer's Deep. -/
import Derived.Test.YtmkhfcdjgdofnaaDoorParG
namespace Go.Proofs.YtmkhfcdjgdofnaaDoor
open Go.RowKit TreM WrdM

theorem deepL_app : ∀ (xs ys : List Ex), deepL (xs ++ ys) = max (deepL xs) (deepL ys)
  | [], ys => by simp [deepL]
  | x :: xs, ys => by simp only [List.cons_append, deepL, deepL_app xs ys]; omega
theorem deepL_take (ks : List Ex) (k : Nat) (x : Ex) (h : ks[k]? = some x) : deepL (ks.take (k + 1)) = max (deepL (ks.take k)) (deep x) := by
  rw [List.take_add_one, h, deepL_app]
  simp [deepL]
theorem deepL_size : ∀ ks : List Ex, (∀ k ∈ ks, deep k ≤ size k) → deepL ks ≤ sizeL ks
  | [], _ => by simp [deepL]
  | y :: ys, h => by
    have := h y (by simp)
    have := deepL_size ys fun k hk => h k (by simp [hk])
    simp only [deepL, sizeL]; omega
theorem deep_size : ∀ X : Ex, deep X ≤ size X := by
  apply Ex.ind (P := fun X => deep X ≤ size X)
  intro o n s ks l c ih
  have := deepL_size ks ih
  rw [deep, size]; omega

set_option maxHeartbeats 1600000 in
theorem deep_any : ∀ X : Ex, ∀ (v : Value) (w : World), ExV w X v → size X ≤ 4611686018427387904 → Calls Tryd.prog 39 #[v] w fun e w' => e = .returned (.int .i64 (deep X : Nat)) ∧ Below w.heap.size w w' := by
  apply Ex.ind (P := fun X => ∀ (v : Value) (w : World), ExV w X v → size X ≤ 4611686018427387904 → Calls Tryd.prog 39 #[v] w fun e w' => e = .returned (.int .i64 (deep X : Nat)) ∧ Below w.heap.size w w')
  intro o n s ks l c ih v w h hs
  obtain ⟨A, cap, rfl, hB, hK⟩ := h.open
  have hba := below_alloc w (.cells #[.int .i64 o, .int .i64 n, .string ⟨s.toArray⟩, .slice A ks.length cap, .int .i64 l, .int .i64 c] 24)
  have HBA := Lib.hid hba
  have HK : Hid (KdsAt (w.alloc (.cells #[.int .i64 o, .int .i64 n, .string ⟨s.toArray⟩, .slice A ks.length cap, .int .i64 l, .int .i64 c] 24)) A ks) := hK.below hba
  obtain ⟨m, hm⟩ : ∃ m, m = ks.length := ⟨_, rfl⟩
  have hcap := hB.cap
  have hmc := hB.m
  have HM := Lib.hid hm
  have HI := Lib.hid ih
  have HS : Hid (sizeL ks ≤ 4611686018427387903) := by
    have : size (.mk o n s ks l c) = 1 + sizeL ks := by rw [size]
    unfold Hid; omega
  have HD : Hid (deep (.mk o n s ks l c) = deepL ks + 1) := by unfold Hid; rw [deep]
  rw [← hm] at hmc HK HBA ⊢
  generalize deep (.mk o n s ks l c) = N at *
  generalize (⟨s.toArray⟩ : ByteArray) = sb at *
  clear hm hK ih hs hB h hba
  go_enter Tryd.func39, Tryd.ntmps39
  go_wp2
  generalize w.alloc (.cells #[.int .i64 o, .int .i64 n, .string sb, .slice A m cap, .int .i64 l, .int .i64 c] 24) = wa at *
  go_loopw [3, 5, 9] (fun mm _ i wr => ∃ k : Nat, k ≤ m ∧ mm = .int .i64 ((deepL (ks.take k) : Nat)) ∧ i = .int .i64 k ∧ Hid (Below wa.heap.size wa wr)) (fun _ _ i _ => m - (intOf i).toNat)
  case atStart => exact ⟨0, Nat.zero_le _, by simp [deepL], rfl, Below.refl _ _⟩
  case round =>
    obtain ⟨k, hk, rfl, rfl, HW⟩ := hrel
    by_cases hlt : k < m
    · have t1 : decide ((k : Int) < (m : Int)) = true := decide_eq_true (by omega)
      have t2 : decide (k < m) = true := decide_eq_true hlt
      obtain ⟨x, hx⟩ := get_ex (ks := ks) (k := k) (by rw [← HM.out]; exact hlt)
      rcases HK.out with hK | ⟨b', p', rfl, hb', hk'⟩
      · exfalso; rw [hK] at hx; simp at hx
      have hsx := sizeL_mem ks x (List.mem_of_getElem? hx)
      have hs := HS.out
      have hb2 : b' < wr.heap.size := Nat.lt_of_lt_of_le hb' HW.out.size
      obtain ⟨vo, vn, vs, va, vm, vk, vl, vc, c0, c1, c2, c3, c4, c5, hv⟩ := kid_val ((hk' k x hx).below HW.out hb')
      have hal := below_alloc wr (.cells #[.int .i64 vo, .int .i64 vn, .string vs, .slice va vm vk, .int .i64 vl, .int .i64 vc] 24)
      have HC := Lib.hid (HI.out x (List.mem_of_getElem? hx) _ _ (hv.below hal) (by omega))
      have HBW := Lib.hid (HW.out.trans (hal.mono HW.out.size))
      have HX := Lib.hid (deepL_take ks k x hx)
      have hdx : deep x ≤ 4611686018427387904 := Nat.le_trans (deep_size x) (by omega)
      have hdk : deepL (ks.take k) ≤ 4611686018427387904 := by
        have h1 : deepL (ks.take k) ≤ sizeL (ks.take k) := deepL_size _ fun y hy => deep_size y
        have h2 := sizeL_take_le ks k
        omega
      clear hx hk' hsx hs hv hal
      generalize deepL (ks.take k) = u at *
      generalize deep x = d at *
      go_wp2_with (refine HC.out.mono ?_; rintro e w' ⟨rfl, hB2⟩)
      go_roundw
      case rel => exact ⟨k + 1, by omega, by rw [HX.out]; go_num, by go_num, HBW.out.trans (hB2.mono HBW.out.size)⟩
      case measure => simp [intOf]; omega
    · have t1 : decide ((k : Int) < (m : Int)) = false := decide_eq_false (by omega)
      have t2 : decide (k < m) = false := decide_eq_false hlt
      have hke : ks.take k = ks := List.take_of_length_le (by rw [← HM.out]; omega)
      have hdk : deepL ks ≤ 4611686018427387903 := Nat.le_trans (deepL_size _ fun y _ => deep_size y) HS.out
      rw [hke]
      have HD2 := HD.out
      generalize deepL ks = u at *
      subst HD2
      go_wp2
      go_ret
      exact ⟨by go_num, HBA.out.trans (HW.out.mono HBA.out.size)⟩
end Go.Proofs.YtmkhfcdjgdofnaaDoor
