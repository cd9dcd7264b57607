/- The contract of watch.New; one engine, two engines of a law's own. -/
import Derived.Test.YtjhopjokllkipaaEProp
namespace Go.Proofs.Ytjhopjokllkipaa
open Go.RowKit LitM TrailM EngM

/-- What New leaves. -/
def NewETo (n : Nat) (w : World) (e : Ending) (w' : World) : Prop :=
  ∃ b q, e = .returned (.pointer (some ⟨b, 0, none⟩)) ∧ E6 w' b q (newE n) 0 ∧ (∀ k, q.own k ≠ .no → w.heap.size ≤ k) ∧ Below w.heap.size w w'
theorem newE_of {n : Nat} {w w1 : World} {bt : Nat} {F : Nat → Prop} (hT : TrailAt w1 bt F n 0 []) (hF : ∀ k, F k → w.heap.size ≤ k) (hB : Below w.heap.size w w1) :
    NewETo n w (.returned (.pointer (some ⟨w1.heap.size, 0, none⟩))) (w1.alloc (.cells #[.pointer (some ⟨bt, 0, none⟩), .slice none 0 0, .slice none 0 0, .slice none 0 0, .int .i64 0, .slice none 0 0] 37)) := by
  classical
  have hlt := hT.foot
  refine ⟨w1.heap.size, ⟨fun k => if k = w1.heap.size then .eng else if F k then .trail else .no, bt, none, 0, none, 0, none, 0, none, 0, fun _ => (none, 0), fun _ => (none, 0), fun _ => (none, 0)⟩, rfl, ⟨blk_new _ _, by simp, ⟨F, hT.below ((Below.refl _ _).alloc (Nat.le_refl _) _), fun k hk => ?_⟩, Part.nil _ _ _ _ _ _, fun i hi => (by cases hi), Part.nil _ _ _ _ _ _, Part.nil _ _ _ _ _ _, fun p hp => (by cases hp), Part.nil _ _ _ _ _ _, fun k hk => (by cases hk), fun k hk => ?_⟩, fun k hk => ?_, hB.alloc hB.size _⟩
  · have := hlt k hk
    simp only
    rw [if_neg (by omega), if_pos hk]
  · have hk : w1.heap.size + 1 ≤ k := by simpa using hk
    simp only
    rw [if_neg (by omega), if_neg (fun e => by have := hlt k e; omega)]
  · simp only at hk
    by_cases e : k = w1.heap.size
    · rw [e]; exact hB.size
    · rw [if_neg e] at hk
      by_cases e2 : F k
      · exact hF k e2
      · rw [if_neg e2] at hk; exact absurd rfl hk
set_option maxHeartbeats 1600000 in
set_option maxRecDepth 100000 in
theorem enew_any (v : Int) (w : World) (hv : v ≤ 100000) : Calls Try.prog 8 #[.int .i64 v] w (NewETo v.toNat w) := by
  have HT := Lib.hid (tnew_any v w hv)
  generalize v.toNat = n at *
  go_enter Try.func8, Try.ntmps8
  go_wp2_with fail
  refine HT.out.mono ?_
  rintro e w1 ⟨bt, F, rfl, hT, hF, hB⟩
  have HE := Lib.hid (newE_of hT hF hB)
  clear hT hF hB HT
  go_wp2_with fail
  go_ret
  exact HE.out

/-- One engine of a law's own. -/
def Solo (B : Nat) (w0 w : World) (b : Nat) (S : Eng) : Prop :=
  ∃ q, E6 w b q S S.le.length ∧ Inv S ∧ (∀ k, q.own k ≠ .no → B ≤ k) ∧ Below B w0 w ∧ B ≤ w.heap.size
/-- Two engines of a law's own. -/
def Duo (B : Nat) (w0 w : World) (b1 : Nat) (S1 : Eng) (b2 : Nat) (S2 : Eng) : Prop :=
  ∃ q1 q2, E6 w b1 q1 S1 S1.le.length ∧ E6 w b2 q2 S2 S2.le.length ∧ Inv S1 ∧ Inv S2 ∧ (∀ k, q1.own k ≠ .no → q2.own k = .no) ∧ (∀ k, q1.own k ≠ .no → B ≤ k) ∧ (∀ k, q2.own k ≠ .no → B ≤ k) ∧ Below B w0 w ∧ B ≤ w.heap.size
section
variable {B b b1 b2 : Nat} {w0 w w' : World} {S S1 S2 : Eng}
theorem Solo.to {q q' : Pm} (hB : ∀ k, q.own k ≠ .no → B ≤ k) (h0 : Below B w0 w) (hs : B ≤ w.heap.size) (hE : E6 w' b q' S S.le.length) (hI : Inv S) (hX : Ext q q' w w') : Solo B w0 w' b S := by
  refine ⟨q', hE, hI, fun k hk => ?_, h0.trans (hX.kf.below hs hB), Nat.le_trans hs hX.kf.size⟩
  rcases Nat.lt_or_ge k w.heap.size with e | e
  · rw [hX.old k e] at hk; exact hB k hk
  · omega
theorem Duo.swap (h : Duo B w0 w b1 S1 b2 S2) : Duo B w0 w b2 S2 b1 S1 := by
  obtain ⟨q1, q2, h1, h2, i1, i2, hd, hb1, hb2, h0, hs⟩ := h
  refine ⟨q2, q1, h2, h1, i2, i1, fun k hk => ?_, hb2, hb1, h0, hs⟩
  by_cases e : q1.own k = .no
  · exact e
  · exact absurd (hd k e) hk
theorem Duo.to {q1 q2 q' : Pm} (h2 : E6 w b2 q2 S2 S2.le.length) (i2 : Inv S2) (hd : ∀ k, q1.own k ≠ .no → q2.own k = .no) (hb1 : ∀ k, q1.own k ≠ .no → B ≤ k) (hb2 : ∀ k, q2.own k ≠ .no → B ≤ k) (h0 : Below B w0 w) (hs : B ≤ w.heap.size)
    (hE : E6 w' b1 q' S1 S1.le.length) (hI : Inv S1) (hX : Ext q1 q' w w') : Duo B w0 w' b1 S1 b2 S2 := by
  refine ⟨q', q2, hE, h2.kept hX.kf (fun k hk hk1 => hk (hd k hk1)), hI, i2, fun k hk => ?_, fun k hk => ?_, hb2, h0.trans (hX.kf.below hs hb1), Nat.le_trans hs hX.kf.size⟩
  · rcases Nat.lt_or_ge k w.heap.size with e | e
    · rw [hX.old k e] at hk; exact hd k hk
    · exact h2.fr k e
  · rcases Nat.lt_or_ge k w.heap.size with e | e
    · rw [hX.old k e] at hk; exact hb1 k hk
    · omega
theorem Solo.below (h : Solo B w0 w b S) (hb : Below w.heap.size w w') : Solo B w0 w' b S := by
  obtain ⟨q, hE, hI, hB, h0, hs⟩ := h
  exact ⟨q, hE.below hb, hI, hB, h0.trans (hb.mono hs), Nat.le_trans hs hb.size⟩
theorem Duo.below (h : Duo B w0 w b1 S1 b2 S2) (hb : Below w.heap.size w w') : Duo B w0 w' b1 S1 b2 S2 := by
  obtain ⟨q1, q2, h1, h2, i1, i2, hd, hb1, hb2, h0, hs⟩ := h
  exact ⟨q1, q2, h1.below hb, h2.below hb, i1, i2, hd, hb1, hb2, h0.trans (hb.mono hs), Nat.le_trans hs hb.size⟩
theorem Solo.make {n : Nat} {e : Ending} (h : NewETo n w e w') (hn : n ≤ 90000) (h0 : Below B w0 w) (hs : B ≤ w.heap.size) : ∃ b, e = .returned (.pointer (some ⟨b, 0, none⟩)) ∧ Solo B w0 w' b (newE n) := by
  obtain ⟨b, q, he, hE, hF, hB⟩ := h
  exact ⟨b, he, q, hE, inv_new hn, fun k hk => Nat.le_trans hs (hF k hk), h0.trans (hB.mono hs), Nat.le_trans hs hB.size⟩
/-- One engine more. -/
theorem Solo.more {n : Nat} {e : Ending} (h1 : Solo B w0 w b1 S1) (h : NewETo n w e w') (hn : n ≤ 90000) : ∃ b, e = .returned (.pointer (some ⟨b, 0, none⟩)) ∧ Duo B w0 w' b1 S1 b (newE n) := by
  obtain ⟨q1, hE1, hI1, hB1, h0, hs⟩ := h1
  obtain ⟨b, q, he, hE, hF, hB⟩ := h
  refine ⟨b, he, q1, q, hE1.below hB, hE, hI1, inv_new hn, fun k hk => ?_, hB1, fun k hk => Nat.le_trans hs (hF k hk), h0.trans (hB.mono hs), Nat.le_trans hs hB.size⟩
  by_cases e : q.own k = .no
  · exact e
  · have := hE1.lt_of hk
    have := hF k e
    omega
end
end Go.Proofs.Ytjhopjokllkipaa
