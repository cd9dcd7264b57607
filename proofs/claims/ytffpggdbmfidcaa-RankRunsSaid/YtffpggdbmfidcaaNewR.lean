/- A Rank; the contract of New. -/
import Derived.Test.YtffpggdbmfidcaaNewQ
namespace Go.Proofs.Ytffpggdbmfidcaa
open Go.RowKit HeapM

/-- A Rank at block b: so many variables, their scores, who waits; F: its blocks. -/
def RankAt (w : World) (b : Nat) (F : Nat → Prop) (n : Nat) (sc : Nat → Int) (wt : Nat → Bool) : Prop :=
  ∃ (gs cs gp cp go co m : Nat) (pl : Nat → Int) (od : Nat → Nat), QAt w b gs cs gp cp go co n m sc pl od ∧ Inv n m pl od ∧ Hp sc od 0 m ∧ (∀ v, 1 ≤ v → v ≤ n → (wt v = true ↔ pl v ≠ -1)) ∧ (∀ v, 0 ≤ sc v ∧ sc v ≤ 1152921504606846976) ∧ F = Foot b gs gp go
/-- What a call leaves that may turn the Rank: its blocks are old ones of its own, or new. -/
def RankTo (F : Nat → Prop) (w w' : World) (b n : Nat) (sc : Nat → Int) (wt : Nat → Bool) : Prop :=
  ∃ F', RankAt w' b F' n sc wt ∧ (∀ k, F' k → F k ∨ w.heap.size ≤ k) ∧ Kf F w w'

theorem boxed {w w1 : World} {n : Nat} {e : Ending} (h : MadeQ w n e w1) : ∃ gs gp go, e = .returned (.agg #[.slice (some ⟨gs, 0, none⟩) (n + 1) (n + 1), .slice (some ⟨gp, 0, none⟩) (n + 1) (n + 1), .slice (some ⟨go, 0, none⟩) n n]) ∧
    ∃ F, RankAt (w1.alloc (.cells #[.slice (some ⟨gs, 0, none⟩) (n + 1) (n + 1), .slice (some ⟨gp, 0, none⟩) (n + 1) (n + 1), .slice (some ⟨go, 0, none⟩) n n] 56)) w1.heap.size F n (fun _ => 0) (fun _ => true) ∧ (∀ k, F k → w.heap.size ≤ k) ∧
      Below w.heap.size w (w1.alloc (.cells #[.slice (some ⟨gs, 0, none⟩) (n + 1) (n + 1), .slice (some ⟨gp, 0, none⟩) (n + 1) (n + 1), .slice (some ⟨go, 0, none⟩) n n] 56)) := by
  obtain ⟨gs, gp, go, rfl, r1, r2, r3, ⟨n1, n2, n3⟩, ⟨g1, g2, g3⟩, hB⟩ := h
  have l1 := r1.lt
  have l2 := r2.lt
  have l3 := r3.lt
  have hs := hB.size
  refine ⟨gs, gp, go, rfl, Foot w1.heap.size gs gp go, ⟨gs, _, gp, _, go, _, n, _, _, ⟨⟨_, blk_new _ _⟩, r1.alloc _, r2.alloc _, r3.alloc _, by omega, by omega, by omega, n1, n2, n3⟩, new_inv n, fun c c1 c2 c3 => ?_, fun v h1 h2 => ?_, fun v => ⟨by show (0 : Int) ≤ 0; omega, by show (0 : Int) ≤ 1152921504606846976; omega⟩, rfl⟩, ?_, hB.alloc hs _⟩
  · unfold le; right; exact ⟨rfl, by show (c - 1) / 2 + 1 ≤ c + 1; omega⟩
  · constructor
    · intro _; show (v : Int) - 1 ≠ -1; omega
    · intro _; rfl
  · rintro k (rfl | rfl | rfl | rfl) <;> omega

/-- What New leaves. -/
def NewPost (n : Nat) (w : World) (e : Ending) (w' : World) : Prop := ∃ b F, e = .returned (.pointer (some ⟨b, 0, none⟩)) ∧ RankAt w' b F n (fun _ => 0) (fun _ => true) ∧ (∀ k, F k → w.heap.size ≤ k) ∧ Below w.heap.size w w'

set_option maxHeartbeats 1600000 in
set_option maxRecDepth 100000 in
theorem new_pos (n : Nat) (w : World) (h1 : 1 ≤ n) (hn : n ≤ 60) : Calls Try.prog 8 #[.int .i64 (n : Int)] w (NewPost n w) := by
  have HN := Lib.hid (newQueue_nat n w (by omega))
  have t1 : 1 ≤ (n : Int) := by omega
  go_enter Try.func8, Try.ntmps8
  go_wp2_with fail
  refine HN.out.mono ?_
  intro e w1 hm
  obtain ⟨gs, gp, go, rfl, F, hR, hF, hB⟩ := boxed hm
  have HE := Lib.hid (And.intro hR (And.intro hF hB))
  clear hm hR hF hB HN
  go_wp2_with fail
  go_ret
  exact ⟨_, F, rfl, HE.out⟩
set_option maxHeartbeats 1600000 in
set_option maxRecDepth 100000 in
theorem new_zero (v : Int) (w : World) (hv : v ≤ 0) : Calls Try.prog 8 #[.int .i64 v] w (NewPost 0 w) := by
  have HN := Lib.hid (newQueue_nat 0 w (by omega))
  rw [show ((0 : Nat) : Int) = 0 from rfl] at HN
  by_cases h0 : v = 0
  · subst h0
    go_enter Try.func8, Try.ntmps8
    go_wp2_with fail
    refine HN.out.mono ?_
    intro e w1 hm
    obtain ⟨gs, gp, go, rfl, F, hR, hF, hB⟩ := boxed hm
    have HE := Lib.hid (And.intro hR (And.intro hF hB))
    clear hm hR hF hB HN
    go_wp2_with fail
    go_ret
    exact ⟨_, F, rfl, HE.out⟩
  · have h1 : v < 0 := by omega
    clear h0 hv
    go_enter Try.func8, Try.ntmps8
    go_wp2_with fail
    refine HN.out.mono ?_
    intro e w1 hm
    obtain ⟨gs, gp, go, rfl, F, hR, hF, hB⟩ := boxed hm
    have HE := Lib.hid (And.intro hR (And.intro hF hB))
    clear hm hR hF hB HN
    go_wp2_with fail
    go_ret
    exact ⟨_, F, rfl, HE.out⟩
theorem new_any (v : Int) (w : World) (hv : v ≤ 60) : Calls Try.prog 8 #[.int .i64 v] w (NewPost v.toNat w) := by
  by_cases h : v ≤ 0
  · rw [show v.toNat = 0 from by omega]; exact new_zero v w h
  · obtain ⟨n, rfl⟩ := Int.eq_ofNat_of_zero_le (show 0 ≤ v by omega)
    exact new_pos n w (by omega) (by omega)
end Go.Proofs.Ytffpggdbmfidcaa
