/- Three Ranks of a law's own, side by side. -/
import Derived.Test.YtffpggdbmfidcaaRHalves
namespace Go.Proofs.Ytffpggdbmfidcaa
open Go.RowKit HeapM

/-- Three Ranks of n variables that share nothing. -/
def Trio (B : Nat) (w0 w : World) (n : Nat) (a : Nat) (sa : Nat → Int) (ta : Nat → Bool) (b : Nat) (sb : Nat → Int) (tb : Nat → Bool) (c : Nat) (sc : Nat → Int) (tc : Nat → Bool) : Prop :=
  ∃ Fa Fb Fc, RankAt w a Fa n sa ta ∧ RankAt w b Fb n sb tb ∧ RankAt w c Fc n sc tc ∧ (∀ k, Fa k → ¬ Fb k) ∧ (∀ k, Fb k → ¬ Fc k) ∧ (∀ k, Fc k → ¬ Fa k) ∧
    (∀ k, Fa k → B ≤ k) ∧ (∀ k, Fb k → B ≤ k) ∧ (∀ k, Fc k → B ≤ k) ∧ B ≤ w0.heap.size ∧ Below B w0 w
section
variable {B n a b c : Nat} {w0 w w' : World} {sa sb sc : Nat → Int} {ta tb tc : Nat → Bool}
theorem Trio.rot (h : Trio B w0 w n a sa ta b sb tb c sc tc) : Trio B w0 w n b sb tb c sc tc a sa ta := by
  obtain ⟨Fa, Fb, Fc, r1, r2, r3, d1, d2, d3, g1, g2, g3, h0, hB⟩ := h
  exact ⟨Fb, Fc, Fa, r2, r3, r1, d2, d3, d1, g2, g3, g1, h0, hB⟩
theorem Trio.out (h : Trio B w0 w n a sa ta b sb tb c sc tc) : Below B w0 w := by
  obtain ⟨Fa, Fb, Fc, r1, r2, r3, d1, d2, d3, g1, g2, g3, h0, hB⟩ := h
  exact hB
theorem Trio.first (h : Trio B w0 w n a sa ta b sb tb c sc tc) : ∃ F, RankAt w a F n sa ta ∧ ∀ w' sa' ta', RankTo F w w' a n sa' ta' → Trio B w0 w' n a sa' ta' b sb tb c sc tc := by
  obtain ⟨Fa, Fb, Fc, r1, r2, r3, d1, d2, d3, g1, g2, g3, h0, hB⟩ := h
  refine ⟨Fa, r1, fun w' sa' ta' ht => ?_⟩
  obtain ⟨F', hR, hF, hK⟩ := ht
  have hs := hB.size
  have f2 := r2.foot
  have f3 := r3.foot
  refine ⟨F', Fb, Fc, hR, r2.kept hK (fun k hk ha => d1 k ha hk), r3.kept hK (fun k hk ha => d3 k hk ha), fun k hk hb => ?_, d2, fun k hk ha => ?_, fun k hk => ?_, g2, g3, h0, hB.trans (hK.below (by omega) g1)⟩
  · rcases hF k hk with e | e
    · exact d1 k e hb
    · have := f2 k hb; omega
  · rcases hF k ha with e | e
    · exact d3 k hk e
    · have := f3 k hk; omega
  · rcases hF k hk with e | e
    · exact g1 k e
    · omega
theorem Trio.make {w1 w2 w3 : World} {e1 e2 e3 : Ending} (h1 : NewPost n w e1 w1) (h2 : NewPost n w1 e2 w2) (h3 : NewPost n w2 e3 w3) (hB : Below B w0 w) (h0 : B ≤ w0.heap.size) :
    ∃ a b c, e1 = .returned (.pointer (some ⟨a, 0, none⟩)) ∧ e2 = .returned (.pointer (some ⟨b, 0, none⟩)) ∧ e3 = .returned (.pointer (some ⟨c, 0, none⟩)) ∧
      Trio B w0 w3 n a (fun _ => 0) (fun _ => true) b (fun _ => 0) (fun _ => true) c (fun _ => 0) (fun _ => true) := by
  obtain ⟨a, Fa, rfl, r1, f1, b1⟩ := h1
  obtain ⟨b, Fb, rfl, r2, f2, b2⟩ := h2
  obtain ⟨c, Fc, rfl, r3, f3, b3⟩ := h3
  have s1 := b1.size
  have s2 := b2.size
  have s3 := b3.size
  have s0 := hB.size
  have l1 := r1.foot
  have l2 := r2.foot
  have r2' := r2.below b3
  have r1' := (r1.below b2).below b3
  refine ⟨a, b, c, rfl, rfl, rfl, Fa, Fb, Fc, r1', r2', r3, fun k hk hb => ?_, fun k hk hb => ?_, fun k hk hb => ?_, fun k hk => ?_, fun k hk => ?_, fun k hk => ?_, h0, ((hB.trans (b1.mono (by omega))).trans (b2.mono (by omega))).trans (b3.mono (by omega))⟩
  · have := l1 k hk; have := f2 k hb; omega
  · have := l2 k hk; have := f3 k hb; omega
  · have := l1 k hb; have := f3 k hk; omega
  · have := f1 k hk; omega
  · have := f2 k hk; omega
  · have := f3 k hk; omega
theorem Trio.bump (h : Trio B w0 w n a sa ta b sb tb c sc tc) (hn : n ≤ 1000) (v : Nat) (y : Int) (h1 : 1 ≤ v) (h2 : v ≤ n) (hy0 : 0 ≤ y) (hy1 : y ≤ 1152921504606846976) :
    Calls Try.prog 10 #[.pointer (some ⟨a, 0, none⟩), .int .i64 v, .int .i64 y] w fun e w' => e = .returned (.int .i64 0) ∧ Trio B w0 w' n a (upd sa v (moreS (sa v) y)) ta b sb tb c sc tc := by
  obtain ⟨F, hR, hT⟩ := h.first
  exact (bump_yes w hR hn v y h1 h2 hy0 hy1).mono fun e w' ⟨he, ht⟩ => ⟨he, hT _ _ _ ht⟩
theorem Trio.bumpno (h : Trio B w0 w n a sa ta b sb tb c sc tc) (hn : n ≤ 1000) (v y : Int) (hb : ¬ (inB n v = true ∧ 0 ≤ y ∧ y ≤ 1152921504606846976)) :
    Calls Try.prog 10 #[.pointer (some ⟨a, 0, none⟩), .int .i64 v, .int .i64 y] w fun e w' => e = .returned (.int .i64 31) ∧ w = w' := by
  obtain ⟨F, hR, hT⟩ := h.first
  exact bump_no w hR hn v y hb
theorem Trio.pop (h : Trio B w0 w n a sa ta b sb tb c sc tc) (hn : n ≤ 1000) (hc : 0 < cntB ta n) :
    Calls Try.prog 18 #[.pointer (some ⟨a, 0, none⟩)] w fun e w' => ∃ v : Nat, FirstOf n sa ta v ∧ e = .returned (.tuple #[.int .i64 (v : Int), .bool true]) ∧ Trio B w0 w' n a sa (upd ta v false) b sb tb c sc tc := by
  obtain ⟨F, hR, hT⟩ := h.first
  exact (one_pops w hR hn hc).mono fun e w' ⟨v, hv, he, ht⟩ => ⟨v, hv, he, hT _ _ _ ht⟩
end

/-- Twice the scores. -/
def dbl (xs : List Int) : List Int := xs.map (2 * ·)
theorem dbl_getD (xs : List Int) (k : Nat) : (dbl xs).getD k 0 = 2 * xs.getD k 0 := by
  unfold dbl
  by_cases h : k < xs.length
  · simp [List.getD, List.getElem?_map, List.getElem?_eq_getElem h]
  · simp [List.getD, List.getElem?_map, List.getElem?_eq_none (by omega : xs.length ≤ k)]
theorem dbl_sc (xs : List Int) (k v : Nat) : scOf (dbl xs) k v = 2 * scOf xs k v := by
  unfold scOf; split
  · exact dbl_getD xs (v - 1)
  · rfl
theorem le_dbl (xs : List Int) (k x y : Nat) : le (scOf (dbl xs) k) x y ↔ le (scOf xs k) x y := by
  unfold le; rw [dbl_sc, dbl_sc]; omega
theorem first_dbl {xs : List Int} {n : Nat} {wt : Nat → Bool} {v : Nat} (h : FirstOf n (scOf (dbl xs) n) wt v) : FirstOf n (scOf xs n) wt v :=
  ⟨h.1, h.2.1, h.2.2.1, fun u u1 u2 hu => (le_dbl xs n v u).1 (h.2.2.2 u u1 u2 hu)⟩
/-- What is bumped above all others comes first. -/
theorem first_top {xs : List Int} {n v u : Nat} (hx : ∀ j, j < n → 0 ≤ xs.getD j 0 ∧ xs.getD j 0 ≤ 1125899906842624) (h1 : 1 ≤ v) (h2 : v ≤ n)
    (h : FirstOf n (upd (scOf xs n) v (moreS (scOf xs n v) 36028797018963968)) (fun _ => true) u) : u = v := by
  have hv : FirstOf n (upd (scOf xs n) v (moreS (scOf xs n v) 36028797018963968)) (fun _ => true) v := ⟨h1, h2, rfl, fun x x1 x2 _ => by
    by_cases e : x = v
    · subst e; exact le_refl _ _
    · left
      rw [upd_at, upd_ne _ _ e, scOf_at xs x1 x2, scOf_at xs h1 h2]
      have a := hx (x - 1) (by omega)
      have b := hx (v - 1) (by omega)
      unfold moreS; omega⟩
  exact h.only hv
end Go.Proofs.Ytffpggdbmfidcaa
