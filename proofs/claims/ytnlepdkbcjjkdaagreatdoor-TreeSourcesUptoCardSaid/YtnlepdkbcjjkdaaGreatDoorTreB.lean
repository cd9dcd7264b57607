/- Package tree: size, Size; kids. -/
import Derived.Test.YtnlepdkbcjjkdaaGreatDoorTreA
namespace Go.Proofs.YtnlepdkbcjjkdaaGreatDoor
open Go.RowKit TreM

theorem ret_nat {a b : Nat} (h : a = b) : Ending.returned (.int .i64 (a : Int)) = .returned (.int .i64 (b : Int)) := by rw [h]
theorem sizeL_app : ∀ (xs ys : List Ex), sizeL (xs ++ ys) = sizeL xs + sizeL ys
  | [], ys => by simp [sizeL]
  | x :: xs, ys => by simp only [List.cons_append, sizeL, sizeL_app xs ys]; omega
theorem sizeL_take (ks : List Ex) (k : Nat) (x : Ex) (h : ks[k]? = some x) : sizeL (ks.take (k + 1)) = sizeL (ks.take k) + size x := by
  have hk : k < ks.length := by
    rcases Nat.lt_or_ge k ks.length with h' | h'
    · exact h'
    · rw [List.getElem?_eq_none h'] at h; cases h
  rw [List.take_add_one, h, sizeL_app]
  simp [sizeL]
theorem sizeL_take_le (ks : List Ex) (k : Nat) : sizeL (ks.take k) ≤ sizeL ks := by
  have := sizeL_app (ks.take k) (ks.drop k)
  rw [List.take_append_drop] at this
  omega
theorem get_ex {ks : List Ex} {k : Nat} (h : k < ks.length) : ∃ x, ks[k]? = some x := ⟨_, List.getElem?_eq_getElem h⟩

set_option maxHeartbeats 1600000 in
theorem sizeP_any : ∀ X : Ex, ∀ (b p : Nat) (w : World), ExP w b p X → size X ≤ 4611686018427387904 → Calls Tryz.prog 40 #[.pointer (some ⟨b, p, none⟩)] w fun e w' => e = .returned (.int .i64 (size X : Nat)) ∧ w = w' := by
  apply Ex.ind (P := fun X => ∀ (b p : Nat) (w : World), ExP w b p X → size X ≤ 4611686018427387904 → Calls Tryz.prog 40 #[.pointer (some ⟨b, p, none⟩)] w fun e w' => e = .returned (.int .i64 (size X : Nat)) ∧ w = w')
  intro o n s ks l c ih b p w h hs
  obtain ⟨A, cap, h6, hB, hK⟩ := h.open
  obtain ⟨c0, c1, c2, c3, c4, c5⟩ := h6
  obtain ⟨m, hm⟩ : ∃ m, m = ks.length := ⟨_, rfl⟩
  have hcap := hB.cap
  have hmc := hB.m
  have HM := Lib.hid hm
  have HK := Lib.hid hK
  have HI := Lib.hid ih
  have HS : Hid (size (.mk o n s ks l c) = 1 + sizeL ks) := by unfold Hid; rw [size]
  have HL : Hid (size (.mk o n s ks l c) ≤ 4611686018427387904) := hs
  rw [← hm] at c3 hmc
  generalize size (.mk o n s ks l c) = N at *
  clear hm hK ih hs hB h
  go_enter Tryz.func40, Tryz.ntmps40
  go_wp2
  go_loopw [3, 10] (fun nn i wr => ∃ k : Nat, k ≤ m ∧ nn = .int .i64 ((1 + sizeL (ks.take k) : Nat)) ∧ i = .int .i64 k ∧ wr = w) (fun _ i _ => m - (intOf i).toNat)
  case atStart => exact ⟨0, Nat.zero_le _, by simp [sizeL], rfl, rfl⟩
  case round =>
    obtain ⟨k, hk, rfl, rfl, rfl⟩ := hrel
    by_cases hlt : k < m
    · have t1 : decide ((k : Int) < (m : Int)) = true := decide_eq_true (by omega)
      have t2 : decide (k < m) = true := decide_eq_true hlt
      obtain ⟨x, hx⟩ := get_ex (ks := ks) (k := k) (by rw [← HM.out]; exact hlt)
      rcases HK.out with hK | ⟨b', p', rfl, hb', hk'⟩
      · exfalso; rw [hK] at hx; simp at hx
      have hsx := sizeL_mem ks x (List.mem_of_getElem? hx)
      have e1 := sizeL_take ks k x hx
      have e2 := sizeL_take_le ks (k + 1)
      have e3 := HS.out
      have e4 := HL.out
      have HC := Lib.hid (HI.out x (List.mem_of_getElem? hx) b' (p' + k * 6) wr (hk' k x hx) (by omega))
      have HX := Lib.hid e1
      have hov : sizeL (ks.take k) + size x ≤ 4611686018427387904 := by omega
      clear hx hk' hsx e1 e2 e3 e4
      generalize sizeL (ks.take k) = u at *
      generalize size x = v at *
      go_wp2_with (refine HC.out.mono ?_; rintro e w' ⟨rfl, rfl⟩)
      go_roundw
      case rel => exact ⟨k + 1, by omega, by rw [HX.out]; go_num, by go_num, trivial⟩
      case measure => simp [intOf]; omega
    · have t1 : decide ((k : Int) < (m : Int)) = false := decide_eq_false (by omega)
      have t2 : decide (k < m) = false := decide_eq_false hlt
      have hke : ks.take k = ks := List.take_of_length_le (by rw [← HM.out]; omega)
      rw [hke, ← HS.out]
      go_wp2
      go_ret
      exact ⟨rfl, rfl⟩

/-- A value's box, and what stands in it. -/
theorem box_alloc {w : World} {o n : Int} {s : List UInt8} {ks : List Ex} {l c : Int} {A : Option Addr} {cap : Nat} (h : ExV w (.mk o n s ks l c) (.agg #[.int .i64 o, .int .i64 n, .string ⟨s.toArray⟩, .slice A ks.length cap, .int .i64 l, .int .i64 c])) :
    ExP (w.alloc (.cells #[.int .i64 o, .int .i64 n, .string ⟨s.toArray⟩, .slice A ks.length cap, .int .i64 l, .int .i64 c] 40)) w.heap.size 0 (.mk o n s ks l c) :=
  ExV.box (cs := [.int .i64 o, .int .i64 n, .string ⟨s.toArray⟩, .slice A ks.length cap, .int .i64 l, .int .i64 c]) h (below_alloc w _) (blk_new w _)
theorem size_any (X : Ex) (v : Value) (w : World) (h : ExV w X v) (hs : size X ≤ 4611686018427387904) :
    Calls Tryz.prog 12 #[v] w fun e w' => e = .returned (.int .i64 (size X : Nat)) ∧ Below w.heap.size w w' := by
  cases X with
  | mk o n s ks l c =>
  obtain ⟨A, cap, rfl, hB, hK⟩ := h.open
  have HC := Lib.hid (sizeP_any _ _ 0 _ (box_alloc h) hs)
  have HB := Lib.hid (below_alloc w (.cells #[.int .i64 o, .int .i64 n, .string ⟨s.toArray⟩, .slice A ks.length cap, .int .i64 l, .int .i64 c] 40))
  generalize size (.mk o n s ks l c) = N at *
  generalize ks.length = m at *
  generalize (⟨s.toArray⟩ : ByteArray) = sb at *
  clear h hB hK hs
  go_enter Tryz.func12, Tryz.ntmps12
  go_wp2_with (refine HC.out.mono ?_; rintro e w' ⟨rfl, rfl⟩)
  go_ret
  exact ⟨rfl, HB.out⟩

/-- How many kids an op has, as the code says it. -/
def kidsC (op : Int) : Nat := if 14 ≤ op then 2 else if 5 ≤ op then 1 else 0
theorem kids_any (o : Int) (w : World) : Calls Tryz.prog 71 #[.int .i64 o] w fun e w' => e = .returned (.int .i64 (kidsC o : Nat)) ∧ w = w' := by
  by_cases h1 : 14 ≤ o
  · have t1 : decide ((14 : Int) ≤ o) = true := decide_eq_true h1
    have he : kidsC o = 2 := by unfold kidsC; rw [if_pos h1]
    rw [he]
    go_enter Tryz.func71, Tryz.ntmps71
    go_wp2
    go_ret
    exact ⟨rfl, rfl⟩
  · have t1 : decide ((14 : Int) ≤ o) = false := decide_eq_false h1
    by_cases h2 : 5 ≤ o
    · have t2 : decide ((5 : Int) ≤ o) = true := decide_eq_true h2
      have he : kidsC o = 1 := by unfold kidsC; rw [if_neg h1, if_pos h2]
      rw [he]
      go_enter Tryz.func71, Tryz.ntmps71
      go_wp2
      go_ret
      exact ⟨rfl, rfl⟩
    · have t2 : decide ((5 : Int) ≤ o) = false := decide_eq_false h2
      have he : kidsC o = 0 := by unfold kidsC; rw [if_neg h1, if_neg h2]
      rw [he]
      go_enter Tryz.func71, Tryz.ntmps71
      go_wp2
      go_ret
      exact ⟨rfl, rfl⟩
end Go.Proofs.YtnlepdkbcjjkdaaGreatDoor
