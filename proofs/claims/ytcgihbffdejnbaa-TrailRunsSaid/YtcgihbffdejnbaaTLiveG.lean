/- A trail of a law's own beside other blocks of the law's own. -/
import Derived.Test.YtcgihbffdejnbaaTLaw
namespace Go.Proofs.Ytcgihbffdejnbaa
open Go.RowKit LitM TrailM

/-- A trail of the call's own; G: blocks of the call's own that are not the trail's. -/
def LiveG (B : Nat) (w0 w : World) (G : Nat → Prop) (b n d : Nat) (L : List Ent) : Prop :=
  ∃ F, TrailAt w b F n d L ∧ (∀ k, F k → B ≤ k ∧ ¬ G k) ∧ (∀ k, G k → B ≤ k ∧ k < w.heap.size) ∧ B ≤ w0.heap.size ∧ Below B w0 w
/-- G's blocks are as they were. -/
def SameG (G : Nat → Prop) (w w' : World) : Prop := ∀ k, G k → w'.heap[k]? = w.heap[k]?
section
variable {B b n d : Nat} {w0 w w' : World} {G : Nat → Prop} {L : List Ent}
theorem LiveG.live (h : LiveG B w0 w G b n d L) : LiveT B w0 w b n d L := by
  obtain ⟨F, hR, hF, hG, h0, hB⟩ := h
  exact ⟨F, hR, fun k hk => (hF k hk).1, h0, hB⟩
theorem LiveT.liveG (h : LiveT B w0 w b n d L) : LiveG B w0 w (fun _ => False) b n d L := by
  obtain ⟨F, hR, hF, h0, hB⟩ := h
  exact ⟨F, hR, fun k hk => ⟨hF k hk, fun h => h⟩, fun k hk => hk.elim, h0, hB⟩
theorem LiveG.out (h : LiveG B w0 w G b n d L) : Below B w0 w := h.live.out
theorem LiveG.ok (h : LiveG B w0 w G b n d L) : Ok n d L := h.live.ok
theorem LiveG.lt (h : LiveG B w0 w G b n d L) {k : Nat} (hk : G k) : B ≤ k ∧ k < w.heap.size := h.choose_spec.2.2.1 k hk
theorem LiveG.sub {G' : Nat → Prop} (h : LiveG B w0 w G b n d L) (hs : ∀ k, G' k → G k) : LiveG B w0 w G' b n d L := by
  obtain ⟨F, hR, hF, hG, h0, hB⟩ := h
  exact ⟨F, hR, fun k hk => ⟨(hF k hk).1, fun g => (hF k hk).2 (hs k g)⟩, fun k hk => hG k (hs k hk), h0, hB⟩
/-- Behind a callee that lays new blocks, and may write G's. -/
theorem LiveG.kept (h : LiveG B w0 w G b n d L) (hk : Kf G w w') : LiveG B w0 w' G b n d L := by
  obtain ⟨F, hR, hF, hG, h0, hB⟩ := h
  have hs := hB.size
  exact ⟨F, hR.kept hk (fun k hk => (hF k hk).2), hF, fun k g => ⟨(hG k g).1, Nat.lt_of_lt_of_le (hG k g).2 hk.size⟩, h0, hB.trans (hk.below (by omega) (fun k g => (hG k g).1))⟩
theorem LiveG.below (h : LiveG B w0 w G b n d L) (hb : Below w.heap.size w w') : LiveG B w0 w' G b n d L := h.kept (Kf.of_below hb)
theorem LiveG.drewN (h : LiveG B w0 w G b n d L) (q : Nat) : LiveG B w0 (w.drewN q) G b n d L := h.below ⟨rfl, rfl, rfl, Nat.le_refl _, fun _ _ => rfl⟩
/-- New blocks may be G's. -/
theorem LiveG.more {G' : Nat → Prop} (h : LiveG B w0 w G b n d L) (hb : Kf G w w') (hs : ∀ k, G' k → G k ∨ (w.heap.size ≤ k ∧ k < w'.heap.size)) : LiveG B w0 w' G' b n d L := by
  have h2 := h.kept hb
  have hf := h.choose_spec.1.foot
  obtain ⟨F, hR, hF, hG, h0, hB⟩ := h
  have hsz := hB.size
  refine ⟨F, hR.kept hb (fun k hk => (hF k hk).2), fun k hk => ⟨(hF k hk).1, fun g => ?_⟩, fun k g => ?_, h0, h2.out⟩
  · rcases hs k g with x | x
    · exact (hF k hk).2 x
    · have := hR.foot k hk; omega
  · rcases hs k g with x | x
    · exact ⟨(hG k x).1, Nat.lt_of_lt_of_le (hG k x).2 hb.size⟩
    · omega
theorem LiveG.alloc (h : LiveG B w0 w G b n d L) (o : Obj) : LiveG B w0 (w.alloc o) (fun k => G k ∨ k = w.heap.size) b n d L :=
  h.more ((Kf.refl _ _).alloc _) fun k hk => by
    rcases hk with x | x
    · exact .inl x
    · exact .inr ⟨by omega, by simp; omega⟩
theorem LiveG.set_ (h : LiveG B w0 w G b n d L) {p : Addr} (hp : G p.block) (v : Value) : LiveG B w0 (w.setCell p v) G b n d L := h.kept ((Kf.refl _ _).set (.inl hp) v)
theorem LiveG.to {F : Nat → Prop} {n' d' : Nat} {L' : List Ent} (hF : ∀ k, F k → B ≤ k ∧ ¬ G k) (hG : ∀ k, G k → B ≤ k ∧ k < w.heap.size) (h0 : B ≤ w0.heap.size) (hB : Below B w0 w) (h : TrailTo F w w' b n' d' L') : LiveG B w0 w' G b n' d' L' ∧ SameG G w w' := by
  obtain ⟨F', hR, hF', hK⟩ := h
  have hs := hB.size
  refine ⟨⟨F', hR, fun k hk => ?_, fun k g => ⟨(hG k g).1, Nat.lt_of_lt_of_le (hG k g).2 hK.size⟩, h0, hB.trans (hK.below (by omega) (fun k hk => (hF k hk).1))⟩, fun k g => hK.block k (hG k g).2 (fun f => (hF k f).2 g)⟩
  rcases hF' k hk with e | e
  · exact hF k e
  · exact ⟨by omega, fun g => by have := (hG k g).2; omega⟩
theorem LiveG.set (h : LiveG B w0 w G b n d L) (hn : n ≤ 90000) (l r : Int) (l0 : -2147483648 ≤ l) (l1 : l ≤ 2147483647) :
    Calls Try.prog 8 #[.pointer (some ⟨b, 0, none⟩), .int .i32 l, .int .i64 r] w fun e w' => e = .returned (.int .i64 (errZ n L l)) ∧ LiveG B w0 w' G b n d (setL n d L l r) ∧ SameG G w w' := by
  by_cases he : errZ n L l = 0
  · obtain ⟨F, hR, hF, hG, h0, hB⟩ := h
    unfold setL
    rw [if_pos he, he]
    exact (set_yes w hR (by omega) l r l0 l1 he).mono fun e w' ⟨he, ht⟩ => ⟨he, LiveG.to hF hG h0 hB ht⟩
  · unfold setL
    rw [if_neg he]
    refine (set_no w h.choose_spec.1 (by omega) l r l0 l1 he).mono fun e w' ⟨he, ht⟩ => ⟨he, ?_⟩
    subst ht; exact ⟨h, fun _ _ => rfl⟩
theorem LiveG.decide (h : LiveG B w0 w G b n d L) (hn : n ≤ 90000) (l : Int) (l0 : -2147483648 ≤ l) (l1 : l ≤ 2147483647) :
    Calls Try.prog 9 #[.pointer (some ⟨b, 0, none⟩), .int .i32 l] w fun e w' => e = .returned (.int .i64 (errZ n L l)) ∧ LiveG B w0 w' G b n (decD n d L l) (decL n d L l) ∧ SameG G w w' := by
  by_cases he : errZ n L l = 0
  · obtain ⟨F, hR, hF, hG, h0, hB⟩ := h
    unfold decD decL
    rw [if_pos he, if_pos he, he]
    exact (decide_yes w hR (by omega) l l0 l1 he).mono fun e w' ⟨he, ht⟩ => ⟨he, LiveG.to hF hG h0 hB ht⟩
  · unfold decD decL
    rw [if_neg he, if_neg he]
    refine (decide_no w h.choose_spec.1 (by omega) l l0 l1 he).mono fun e w' ⟨he, ht⟩ => ⟨he, ?_⟩
    subst ht; exact ⟨h, fun _ _ => rfl⟩
theorem LiveG.grow (h : LiveG B w0 w G b n d L) (hn : n ≤ 90000) :
    Calls Try.prog 17 #[.pointer (some ⟨b, 0, none⟩)] w fun e w' => e = .returned (.int .i64 ((n : Int) + 1)) ∧ LiveG B w0 w' G b (n + 1) d L ∧ SameG G w w' := by
  obtain ⟨F, hR, hF, hG, h0, hB⟩ := h
  exact (tgrow_any w hR hn).mono fun e w' ⟨he, ht⟩ => ⟨he, LiveG.to hF hG h0 hB ht⟩
/-- What a Back answers. -/
def BackG (B b n d : Nat) (L : List Ent) (v : Int) (w0 w : World) (G : Nat → Prop) (e : Ending) (w' : World) : Prop :=
  ∃ A m c, e = .returned (.tuple #[.slice A m c, .int .i64 (errB d v)]) ∧ Rd .i32 w' w'.heap.size A m (goneL d L v) ∧ m ≤ 1000000 ∧ (∀ j, -2147483648 ≤ (goneL d L v).getD j 0 ∧ (goneL d L v).getD j 0 ≤ 2147483647) ∧ LiveG B w0 w' G b n (backD d v) (backL d L v) ∧ SameG G w w'
theorem LiveG.back (h : LiveG B w0 w G b n d L) (hn : n ≤ 90000) (v : Int) :
    Calls Try.prog 10 #[.pointer (some ⟨b, 0, none⟩), .int .i64 v] w (BackG B b n d L v w0 w G) := by
  have hO := h.ok
  by_cases hv : 0 ≤ v ∧ v ≤ d
  · obtain ⟨k, rfl⟩ := Int.eq_ofNat_of_zero_le hv.1
    have e0 : errB d (k : Int) = 0 := by unfold errB; rw [if_pos hv]
    have e1 : backD d (k : Int) = k := by unfold backD; rw [if_pos hv]; rfl
    have e2 : backL d L (k : Int) = L.take (upTo L k) := by unfold backL; rw [if_pos hv]; rfl
    have e3 : goneL d L (k : Int) = gone L k := by unfold goneL; rw [if_pos hv]; rfl
    unfold BackG
    rw [e0, e1, e2, e3]
    by_cases hk : k = d
    · subst hk
      refine (back_same w h.choose_spec.1).mono fun e w' ⟨he, hw⟩ => ⟨none, 0, 0, he, ?_, by omega, gone_bd hO _, ?_⟩
      · have : gone L k = [] := by
          apply List.eq_nil_of_length_eq_zero
          rw [gone_len, upTo_all hO.pre]; omega
        rw [this]; exact Rd.nil
      · subst hw; rw [upTo_all hO.pre, List.take_length]; exact ⟨h, fun _ _ => rfl⟩
    · obtain ⟨F, hR, hF, hG, h0, hB⟩ := h
      refine (back_yes w hR (by omega) k (by omega)).mono fun e w' ⟨g, c, he, hr, hg, hT, hK⟩ => ⟨some ⟨g, 0, none⟩, _, c, he, hr.rd (gone_len L k), ?_, gone_bd hO _, LiveG.to hF hG h0 hB ⟨F, hT, fun _ h => .inl h, hK⟩⟩
      have := hO.len; omega
  · have e0 : errB d v = 41 := by unfold errB; rw [if_neg hv]
    have e1 : backD d v = d := by unfold backD; rw [if_neg hv]
    have e2 : backL d L v = L := by unfold backL; rw [if_neg hv]
    have e3 : goneL d L v = [] := by unfold goneL; rw [if_neg hv]
    unfold BackG
    rw [e0, e1, e2, e3]
    refine (back_no w h.choose_spec.1 v (by omega)).mono fun e w' ⟨he, hw⟩ => ⟨none, 0, 0, he, Rd.nil, by omega, by simp, ?_⟩
    subst hw; exact ⟨h, fun _ _ => rfl⟩
end
end Go.Proofs.Ytcgihbffdejnbaa
