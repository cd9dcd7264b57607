/- A Rank of a law's own; the chapter's example comes out as it stands there: rankAlive is true. -/
import Derived.Test.YtffpggdbmfidcaaRankA
namespace Go.Proofs.Ytffpggdbmfidcaa
open Go.RowKit HeapM

/-- A Rank of the call's own: all its blocks are from block B on, and below B all is as it was at w0. -/
def Live (B : Nat) (w0 w : World) (b n : Nat) (sc : Nat → Int) (wt : Nat → Bool) : Prop :=
  ∃ F, RankAt w b F n sc wt ∧ (∀ k, F k → B ≤ k) ∧ B ≤ w0.heap.size ∧ Below B w0 w
section
variable {B b n : Nat} {w0 w w' : World} {sc : Nat → Int} {wt : Nat → Bool}
theorem Live.to {F : Nat → Prop} {n' : Nat} {sc' : Nat → Int} {wt' : Nat → Bool} (hF : ∀ k, F k → B ≤ k) (h0 : B ≤ w0.heap.size) (hB : Below B w0 w) (h : RankTo F w w' b n' sc' wt') : Live B w0 w' b n' sc' wt' := by
  obtain ⟨F', hR, hF', hK⟩ := h
  have hs := hB.size
  refine ⟨F', hR, fun k hk => ?_, h0, hB.trans (hK.below (by omega) hF)⟩
  rcases hF' k hk with e | e
  · exact hF k e
  · omega
theorem Live.below (h : Live B w0 w b n sc wt) (hb : Below w.heap.size w w') : Live B w0 w' b n sc wt := by
  obtain ⟨F, hR, hF, h0, hB⟩ := h
  exact ⟨F, hR.below hb, hF, h0, hB.trans (hb.mono (by have := hB.size; omega))⟩
theorem Live.out (h : Live B w0 w b n sc wt) : Below B w0 w := h.choose_spec.2.2.2
theorem Live.bd (h : Live B w0 w b n sc wt) : ∀ v, 0 ≤ sc v ∧ sc v ≤ 1152921504606846976 := h.choose_spec.1.bd
theorem Live.make {e : Ending} (h : NewPost n w e w') (hB : Below B w0 w) (h0 : B ≤ w0.heap.size) : ∃ b, e = .returned (.pointer (some ⟨b, 0, none⟩)) ∧ Live B w0 w' b n (fun _ => 0) (fun _ => true) := by
  obtain ⟨b, F, rfl, hR, hF, hb⟩ := h
  have hs := hB.size
  exact ⟨b, rfl, F, hR, fun k hk => by have := hF k hk; omega, h0, hB.trans (hb.mono (by omega))⟩
theorem Live.bump (h : Live B w0 w b n sc wt) (hn : n ≤ 1000) (v : Nat) (y : Int) (h1 : 1 ≤ v) (h2 : v ≤ n) (hy0 : 0 ≤ y) (hy1 : y ≤ 1152921504606846976) :
    Calls Try.prog 10 #[.pointer (some ⟨b, 0, none⟩), .int .i64 v, .int .i64 y] w fun e w' => e = .returned (.int .i64 0) ∧ Live B w0 w' b n (upd sc v (moreS (sc v) y)) wt := by
  obtain ⟨F, hR, hF, h0, hB⟩ := h
  exact (bump_yes w hR hn v y h1 h2 hy0 hy1).mono fun e w' ⟨he, ht⟩ => ⟨he, Live.to hF h0 hB ht⟩
theorem Live.bumpno (h : Live B w0 w b n sc wt) (hn : n ≤ 1000) (v y : Int) (hb : ¬ (inB n v = true ∧ 0 ≤ y ∧ y ≤ 1152921504606846976)) :
    Calls Try.prog 10 #[.pointer (some ⟨b, 0, none⟩), .int .i64 v, .int .i64 y] w fun e w' => e = .returned (.int .i64 31) ∧ w = w' := bump_no w h.choose_spec.1 hn v y hb
theorem Live.halve (h : Live B w0 w b n sc wt) (hn : n ≤ 1000) :
    Calls Try.prog 15 #[.pointer (some ⟨b, 0, none⟩)] w fun e w' => e = .returned (.tuple #[]) ∧ Live B w0 w' b n (fun v => sc v / 2) wt := by
  obtain ⟨F, hR, hF, h0, hB⟩ := h
  exact (halve_any w hR hn).mono fun e w' ⟨he, ht⟩ => ⟨he, Live.to hF h0 hB ht⟩
theorem Live.push (h : Live B w0 w b n sc wt) (hn : n ≤ 1000) (v : Nat) (h1 : 1 ≤ v) (h2 : v ≤ n) :
    Calls Try.prog 11 #[.pointer (some ⟨b, 0, none⟩), .int .i64 v] w fun e w' => e = .returned (.int .i64 0) ∧ Live B w0 w' b n sc (upd wt v true) := by
  obtain ⟨F, hR, hF, h0, hB⟩ := h
  exact (push_yes w hR hn v h1 h2).mono fun e w' ⟨he, ht⟩ => ⟨he, Live.to hF h0 hB ht⟩
theorem Live.pushno (h : Live B w0 w b n sc wt) (hn : n ≤ 1000) (v : Int) (hb : inB n v = false) :
    Calls Try.prog 11 #[.pointer (some ⟨b, 0, none⟩), .int .i64 v] w fun e w' => e = .returned (.int .i64 31) ∧ w = w' := push_no w h.choose_spec.1 hn v hb
theorem Live.popnone (h : Live B w0 w b n sc wt) (hc : cntB wt n = 0) :
    Calls Try.prog 18 #[.pointer (some ⟨b, 0, none⟩)] w fun e w' => e = .returned (.tuple #[.int .i64 0, .bool false]) ∧ w = w' := none_pops w h.choose_spec.1 hc
theorem Live.pop (h : Live B w0 w b n sc wt) (hn : n ≤ 1000) (hc : 0 < cntB wt n) :
    Calls Try.prog 18 #[.pointer (some ⟨b, 0, none⟩)] w fun e w' => ∃ v : Nat, FirstOf n sc wt v ∧ e = .returned (.tuple #[.int .i64 (v : Int), .bool true]) ∧ Live B w0 w' b n sc (upd wt v false) := by
  obtain ⟨F, hR, hF, h0, hB⟩ := h
  exact (one_pops w hR hn hc).mono fun e w' ⟨v, hv, he, ht⟩ => ⟨v, hv, he, Live.to hF h0 hB ht⟩
theorem Live.vars (h : Live B w0 w b n sc wt) (hn : n ≤ 1000) :
    Calls Try.prog 12 #[.pointer (some ⟨b, 0, none⟩)] w fun e w' => e = .returned (.int .i64 n) ∧ w = w' := vars_any w h.choose_spec.1 hn
theorem Live.size (h : Live B w0 w b n sc wt) :
    Calls Try.prog 25 #[.pointer (some ⟨b, 0, none⟩)] w fun e w' => e = .returned (.int .i64 (cntB wt n)) ∧ w = w' := size_any w h.choose_spec.1
theorem Live.waits (h : Live B w0 w b n sc wt) (hn : n ≤ 1000) (v : Int) :
    Calls Try.prog 24 #[.pointer (some ⟨b, 0, none⟩), .int .i64 v] w fun e w' => e = .returned (.bool (inB n v && wt v.toNat)) ∧ w = w' := waits_any w h.choose_spec.1 hn v
theorem Live.score (h : Live B w0 w b n sc wt) (hn : n ≤ 1000) (v : Int) :
    Calls Try.prog 23 #[.pointer (some ⟨b, 0, none⟩), .int .i64 v] w fun e w' => e = .returned (.int .i64 (if inB n v = true then sc v.toNat else 0)) ∧ w = w' := score_any w h.choose_spec.1 hn v
theorem Live.grow (h : Live B w0 w b n sc wt) (hn : n + 1 ≤ 1000) :
    Calls Try.prog 20 #[.pointer (some ⟨b, 0, none⟩)] w fun e w' => e = .returned (.int .i64 ((n : Int) + 1)) ∧ Live B w0 w' b (n + 1) (upd sc (n + 1) 0) (upd wt (n + 1) true) := by
  obtain ⟨F, hR, hF, h0, hB⟩ := h
  exact (grow_any w hR hn).mono fun e w' ⟨he, ht⟩ => ⟨he, Live.to hF h0 hB ht⟩
end
theorem FirstOf.only {n : Nat} {sc : Nat → Int} {wt : Nat → Bool} {v u : Nat} (h : FirstOf n sc wt v) (k : FirstOf n sc wt u) : v = u :=
  le_anti (h.2.2.2 u k.1 k.2.1 k.2.2.1) (k.2.2.2 v h.1 h.2.1 h.2.2.1)

theorem nil_ptr (a : Addr) (w : World) : (binOp .eql 22 (.pointer (some a)) (.pointer none)).run Try.prog w = .ok (.bool false) w := by kernel_rfl

set_option maxHeartbeats 3200000 in
set_option maxRecDepth 100000 in
theorem alive_any (w : World) : Calls Try.prog 9 #[] w fun e w' => e = .returned (.bool true) ∧ Below w.heap.size w w' := by
  have np := nil_ptr
  go_enter Try.func9, Try.ntmps9
  go_wp2_with fail
  refine (new_pos 3 w (by omega) (by omega)).mono ?_
  intro e w1 hm
  obtain ⟨b, rfl, h1⟩ := Live.make hm (Below.refl w.heap.size w) (Nat.le_refl _)
  clear hm
  have H1 := Lib.hid (h1.bump (by omega) 2 5 (by omega) (by omega) (by omega) (by omega))
  rw [show ((2 : Nat) : Int) = 2 from rfl] at H1
  clear h1
  go_wp2_with fail
  refine H1.out.mono ?_
  rintro e w2 ⟨rfl, h2⟩
  have H2 := Lib.hid (h2.pop (by omega) (by decide))
  clear h2 H1 np
  go_wp2_with fail
  refine H2.out.mono ?_
  rintro e w3 ⟨v, hv, rfl, h3⟩
  obtain rfl : v = 2 := hv.only (u := 2) ⟨by omega, by omega, rfl, fun u u1 u2 _ => by
    rcases (show u = 1 ∨ u = 2 ∨ u = 3 by omega) with e | e | e <;> subst e <;> (unfold le; decide)⟩
  have H3 := Lib.hid (h3.pop (by omega) (by decide))
  clear h3 H2 hv
  go_wp2_with fail
  refine H3.out.mono ?_
  rintro e w4 ⟨v, hv, rfl, h4⟩
  obtain rfl : v = 1 := hv.only (u := 1) ⟨by omega, by omega, rfl, fun u u1 u2 hw => by
    rcases (show u = 1 ∨ u = 2 ∨ u = 3 by omega) with e | e | e
    · subst e; unfold le; decide
    · subst e; cases hw
    · subst e; unfold le; decide⟩
  have H4 := Lib.hid h4.size
  rw [show cntB (upd (upd (fun _ => true) 2 false) 1 false) 3 = 1 from by decide, show ((1 : Nat) : Int) = 1 from rfl] at H4
  have HB := Lib.hid h4.out
  clear h4 H3 hv
  go_wp2_with fail
  refine H4.out.mono ?_
  rintro e w' ⟨rfl, rfl⟩
  go_wp2_with fail
  go_ret
  exact ⟨rfl, HB.out⟩
end Go.Proofs.Ytffpggdbmfidcaa
