/- The library's insertion sort and its reversal, at 32-bit numbers. -/
import Derived.Test.YtghclmbicdmboaaSrtK
namespace Go.Proofs.Ytghclmbicdmboaa
open Go.RowKit Go.Sort

section
variable (a b i j : Nat) (d : Array Int)
theorem inner_step (h : a < j) (hl : ltInt d[j]! d[j - 1]! = true) : insInner ltInt a j d = insInner ltInt a (j - 1) (swp d j (j - 1)) := by
  cases j with
  | zero => omega
  | succ k =>
    have hk : (decide (k + 1 > a) && ltInt d[k + 1]! d[k]!) = true := by rw [Bool.and_eq_true]; exact ⟨decide_eq_true h, hl⟩
    show (if (decide (k + 1 > a) && ltInt d[k + 1]! d[k]!) = true then _ else _) = _
    rw [if_pos hk]; rfl
theorem inner_halt (h : ¬ (a < j ∧ ltInt d[j]! d[j - 1]! = true)) : insInner ltInt a j d = d := by
  cases j with
  | zero => rfl
  | succ k =>
    show (if (decide (k + 1 > a) && ltInt d[k + 1]! d[k]!) = true then _ else _) = _
    rw [if_neg]
    rw [Bool.and_eq_true, decide_eq_true_iff]
    exact h
theorem outer_step (h : i < b) : insOuter ltInt a b i d = insOuter ltInt a b (i + 1) (insInner ltInt a i d) := by rw [insOuter, if_pos h]
theorem outer_halt (h : ¬ i < b) : insOuter ltInt a b i d = d := by rw [insOuter, if_neg h]
end
/-- Where the outer loop stands, the inner one. -/
def InsO (w : World) (blk a b N : Nat) (d : Array Int) (v : Value) (W : World) : Prop :=
  ∃ (i : Nat) (x : Array Int), v = .int .i64 i ∧ a < i ∧ i ≤ b + 1 ∧ x.size = N ∧ SW w W blk x ∧ insOuter ltInt a b i x = insOuter ltInt a b (a + 1) d
def InsI (w : World) (blk a i N : Nat) (d : Array Int) (v : Value) (W : World) : Prop :=
  ∃ (j : Nat) (x : Array Int), v = .int .i64 j ∧ a ≤ j ∧ j ≤ i ∧ x.size = N ∧ SW w W blk x ∧ insInner ltInt a j x = insInner ltInt a i d

set_option maxHeartbeats 1600000 in
set_option maxRecDepth 100000 in
theorem insort_any (blk cap a b : Nat) (d : Array Int) (w : World) (hH : RowAt w blk d) (hab : a ≤ b) (hb : b ≤ d.size) (hz : d.size ≤ 1000000) :
    Calls Try.prog 37 #[.slice (some ⟨blk, 0, none⟩) d.size cap, .int .i64 a, .int .i64 b] w (SPost w blk (Sort.insertionSort ltInt d a b)) := by
  have HH := Lib.hid hH
  have HS := Lib.hid (SW.start hH)
  clear hH
  obtain ⟨N, hN⟩ : ∃ N, N = d.size := ⟨_, rfl⟩
  rw [← hN] at hb hz ⊢
  have HN := Lib.hid hN
  clear hN
  go_enter Try.func37, Try.ntmps37
  go_wp2
  go_loopw [6] (fun v W => InsO w blk a b N d v W) (fun v _ => b + 1 - (intOf v).toNat)
  case atStart => exact ⟨a + 1, d, by go_num, by omega, by omega, HN.out.symm, HS.out, rfl⟩
  case round =>
    obtain ⟨i, x, rfl, hai, hib, hx, hs, ho⟩ := hrel
    have HX := Lib.hid hx
    have HSx := Lib.hid hs
    have HO := Lib.hid ho
    clear hx hs ho
    by_cases hlt : i < b
    · have ti : decide (i < b) = true := decide_eq_true hlt
      have ti' : decide ((i : Int) < (b : Int)) = true := decide_eq_true (by omega)
      go_wp2
      go_loopw [7] (fun v W => InsI w blk a i N x v W) (fun v _ => (intOf v).toNat)
      case atStart => exact ⟨i, x, rfl, by omega, Nat.le_refl _, HX.out, HSx.out, rfl⟩
      case round =>
        obtain ⟨j, y, rfl, haj, hji, hy, hs, hi⟩ := hrel
        have hrow := hs.row HH.out (by rw [hy]; exact HN.out)
        obtain ⟨G, hG⟩ : ∃ G : Nat → Int, ∀ t, G t = y[t]! := ⟨fun t => y[t]!, fun _ => rfl⟩
        have hcw : ∀ t, t < N → wr.cell? ⟨blk, t, none⟩ = some (.int .i32 (G t)) := fun t ht => by rw [hG]; exact (hrow.get (by omega)).1
        have hfw : ∀ t, t < N → wr.frozen? ⟨blk, t, none⟩ = false := fun t ht => (hrow.get (by omega)).2
        have HY := Lib.hid hy
        have HSy := Lib.hid hs
        have HI := Lib.hid hi
        have HG := Lib.hid hG
        clear hrow hy hs hi hG
        have HEnd : Hid (∀ q, ¬ (a < j ∧ ltInt y[j]! y[j - 1]! = true) → InsO w blk a b N d (.int .i64 ((i : Int) + 1)) (wr.drewN q)) := fun q hn =>
          ⟨i + 1, y, by go_num, by omega, by omega, HY.out, HSy.out.drewN q, by rw [← HO.out, outer_step a b i x hlt, ← HI.out, inner_halt a j y hn]⟩
        by_cases hja : a < j
        · have hjN : j < N := by omega
          have hjN1 : j - 1 < N := by omega
          have hj1 : 1 ≤ j := by omega
          go_wp2
          go_quiet (first | (go_at_call 31; refine Calls.quiet_of_same (lless_any _ _ _)))
          rcases hl : ltInt (G j) (G (j - 1)) with _ | _
          · go_wp2
            go_roundw
            case rel => exact HEnd.out _ (fun h => by rw [← HG.out, ← HG.out, hl] at h; exact absurd h.2 (by simp))
            case measure => simp [intOf]; omega
          · go_wp2
            go_region
            all_goals go_wp2
            all_goals
              go_roundw
              case rel =>
                refine ⟨j - 1, swp y j (j - 1), by congr 1; omega, by omega, by omega, by rw [swp_size]; exact HY.out, ?_, ?_⟩
                · rw [HG.out, HG.out]
                  exact (HSy.out.drewN _).swap (by rw [HY.out]; omega) (by rw [HY.out]; omega)
                · rw [← HI.out, inner_step a j y hja (by rw [← HG.out, ← HG.out]; exact hl)]
              case measure => simp [intOf]; omega
        · have tj : decide (a < j) = false := decide_eq_false hja
          have tj' : decide ((a : Int) < (j : Int)) = false := decide_eq_false (by omega)
          go_wp2
          go_quiet (first | (go_at_call 31; refine Calls.quiet_of_same (lless_any _ _ _)))
          go_wp2
          go_roundw
          case rel => exact HEnd.out _ (fun h => hja h.1)
          case measure => simp [intOf]; omega
    · have ti : decide (i < b) = false := decide_eq_false hlt
      have ti' : decide ((i : Int) < (b : Int)) = false := decide_eq_false (by omega)
      go_wp2
      go_end0
      exact ⟨rfl, by unfold Sort.insertionSort; rw [← HO.out, outer_halt a b i x hlt]; exact HSx.out⟩
end Go.Proofs.Ytghclmbicdmboaa
