/- A trail of a law's own; the chapter's example comes out as it stands there: trailAlive is true. -/
import Derived.Test.YtcgihbffdejnbaaTrailB
import Derived.Test.YtcgihbffdejnbaaRsame
namespace Go.Proofs.Ytcgihbffdejnbaa
open Go.RowKit LitM TrailM

/-- What a Set, a Decide, a Back make of a trail. -/
def setL (n d : Nat) (L : List Ent) (l r : Int) : List Ent := if errZ n L l = 0 then L ++ [⟨l, d, r⟩] else L
def decD (n d : Nat) (L : List Ent) (l : Int) : Nat := if errZ n L l = 0 then d + 1 else d
def decL (n d : Nat) (L : List Ent) (l : Int) : List Ent := if errZ n L l = 0 then L ++ [⟨l, d + 1, -1⟩] else L
def errB (d : Nat) (v : Int) : Int := if 0 ≤ v ∧ v ≤ d then 0 else 41
def backD (d : Nat) (v : Int) : Nat := if 0 ≤ v ∧ v ≤ d then v.toNat else d
def backL (d : Nat) (L : List Ent) (v : Int) : List Ent := if 0 ≤ v ∧ v ≤ d then L.take (upTo L v.toNat) else L
def goneL (d : Nat) (L : List Ent) (v : Int) : List Int := if 0 ≤ v ∧ v ≤ d then gone L v.toNat else []

/-- A trail of the call's own: all its blocks are from block B on, and below B all is as it was at w0. -/
def LiveT (B : Nat) (w0 w : World) (b n d : Nat) (L : List Ent) : Prop :=
  ∃ F, TrailAt w b F n d L ∧ (∀ k, F k → B ≤ k) ∧ B ≤ w0.heap.size ∧ Below B w0 w
section
variable {B b n d : Nat} {w0 w w' : World} {L : List Ent}
theorem LiveT.to {F : Nat → Prop} {n' d' : Nat} {L' : List Ent} (hF : ∀ k, F k → B ≤ k) (h0 : B ≤ w0.heap.size) (hB : Below B w0 w) (h : TrailTo F w w' b n' d' L') : LiveT B w0 w' b n' d' L' := by
  obtain ⟨F', hR, hF', hK⟩ := h
  have hs := hB.size
  refine ⟨F', hR, fun k hk => ?_, h0, hB.trans (hK.below (by omega) hF)⟩
  rcases hF' k hk with e | e
  · exact hF k e
  · omega
theorem LiveT.below (h : LiveT B w0 w b n d L) (hb : Below w.heap.size w w') : LiveT B w0 w' b n d L := by
  obtain ⟨F, hR, hF, h0, hB⟩ := h
  exact ⟨F, hR.below hb, hF, h0, hB.trans (hb.mono (by have := hB.size; omega))⟩
theorem LiveT.drewN (h : LiveT B w0 w b n d L) (q : Nat) : LiveT B w0 (w.drewN q) b n d L := h.below ⟨rfl, rfl, rfl, Nat.le_refl _, fun _ _ => rfl⟩
theorem LiveT.out (h : LiveT B w0 w b n d L) : Below B w0 w := h.choose_spec.2.2.2
theorem LiveT.ok (h : LiveT B w0 w b n d L) : Ok n d L := h.choose_spec.1.ok
theorem LiveT.make {e : Ending} (h : NewTPost n w e w') (hB : Below B w0 w) (h0 : B ≤ w0.heap.size) : ∃ b, e = .returned (.pointer (some ⟨b, 0, none⟩)) ∧ LiveT B w0 w' b n 0 [] := by
  obtain ⟨b, F, rfl, hR, hF, hb⟩ := h
  have hs := hB.size
  exact ⟨b, rfl, F, hR, fun k hk => by have := hF k hk; omega, h0, hB.trans (hb.mono (by omega))⟩
theorem LiveT.set (h : LiveT B w0 w b n d L) (hn : n ≤ 90000) (l r : Int) (l0 : -2147483648 ≤ l) (l1 : l ≤ 2147483647) :
    Calls Try.prog 8 #[.pointer (some ⟨b, 0, none⟩), .int .i32 l, .int .i64 r] w fun e w' => e = .returned (.int .i64 (errZ n L l)) ∧ LiveT B w0 w' b n d (setL n d L l r) := by
  by_cases he : errZ n L l = 0
  · obtain ⟨F, hR, hF, h0, hB⟩ := h
    unfold setL
    rw [if_pos he, he]
    exact (set_yes w hR (by omega) l r l0 l1 he).mono fun e w' ⟨he, ht⟩ => ⟨he, LiveT.to hF h0 hB ht⟩
  · unfold setL
    rw [if_neg he]
    refine (set_no w h.choose_spec.1 (by omega) l r l0 l1 he).mono fun e w' ⟨he, ht⟩ => ⟨he, ?_⟩
    subst ht; exact h
theorem LiveT.decide (h : LiveT B w0 w b n d L) (hn : n ≤ 90000) (l : Int) (l0 : -2147483648 ≤ l) (l1 : l ≤ 2147483647) :
    Calls Try.prog 9 #[.pointer (some ⟨b, 0, none⟩), .int .i32 l] w fun e w' => e = .returned (.int .i64 (errZ n L l)) ∧ LiveT B w0 w' b n (decD n d L l) (decL n d L l) := by
  by_cases he : errZ n L l = 0
  · obtain ⟨F, hR, hF, h0, hB⟩ := h
    unfold decD decL
    rw [if_pos he, if_pos he, he]
    exact (decide_yes w hR (by omega) l l0 l1 he).mono fun e w' ⟨he, ht⟩ => ⟨he, LiveT.to hF h0 hB ht⟩
  · unfold decD decL
    rw [if_neg he, if_neg he]
    refine (decide_no w h.choose_spec.1 (by omega) l l0 l1 he).mono fun e w' ⟨he, ht⟩ => ⟨he, ?_⟩
    subst ht; exact h
theorem LiveT.grow (h : LiveT B w0 w b n d L) (hn : n ≤ 90000) :
    Calls Try.prog 17 #[.pointer (some ⟨b, 0, none⟩)] w fun e w' => e = .returned (.int .i64 ((n : Int) + 1)) ∧ LiveT B w0 w' b (n + 1) d L := by
  obtain ⟨F, hR, hF, h0, hB⟩ := h
  exact (tgrow_any w hR hn).mono fun e w' ⟨he, ht⟩ => ⟨he, LiveT.to hF h0 hB ht⟩
/-- What a Back answers. -/
def BackTo (B b n d : Nat) (L : List Ent) (v : Int) (w0 : World) (e : Ending) (w' : World) : Prop :=
  ∃ A m c, e = .returned (.tuple #[.slice A m c, .int .i64 (errB d v)]) ∧ Rd .i32 w' w'.heap.size A m (goneL d L v) ∧ m ≤ 1000000 ∧ (∀ j, -2147483648 ≤ (goneL d L v).getD j 0 ∧ (goneL d L v).getD j 0 ≤ 2147483647) ∧ LiveT B w0 w' b n (backD d v) (backL d L v)
theorem litE_bd (h : Ok n d L) (j : Nat) : -2147483648 ≤ litE L j ∧ litE L j ≤ 2147483647 := by
  by_cases hj : j < L.length
  · rw [litE_at _ hj]
    have := (one_iff _).1 (h.pre.one L[j] (List.getElem_mem hj)).1
    omega
  · unfold litE; rw [List.getD, List.getElem?_eq_none (by simp; omega)]; simp
theorem gone_bd (h : Ok n d L) (k j : Nat) : -2147483648 ≤ (gone L k).getD j 0 ∧ (gone L k).getD j 0 ≤ 2147483647 := by
  by_cases hj : j < L.length - upTo L k
  · rw [gone_at _ _ _ hj]; exact litE_bd h _
  · rw [List.getD, List.getElem?_eq_none (by rw [gone_len]; omega)]; simp
theorem LiveT.back (h : LiveT B w0 w b n d L) (hn : n ≤ 90000) (v : Int) :
    Calls Try.prog 10 #[.pointer (some ⟨b, 0, none⟩), .int .i64 v] w (BackTo B b n d L v w0) := by
  have hO := h.ok
  by_cases hv : 0 ≤ v ∧ v ≤ d
  · obtain ⟨k, rfl⟩ := Int.eq_ofNat_of_zero_le hv.1
    have e0 : errB d (k : Int) = 0 := by unfold errB; rw [if_pos hv]
    have e1 : backD d (k : Int) = k := by unfold backD; rw [if_pos hv]; rfl
    have e2 : backL d L (k : Int) = L.take (upTo L k) := by unfold backL; rw [if_pos hv]; rfl
    have e3 : goneL d L (k : Int) = gone L k := by unfold goneL; rw [if_pos hv]; rfl
    unfold BackTo
    rw [e0, e1, e2, e3]
    by_cases hk : k = d
    · subst hk
      refine (back_same w h.choose_spec.1).mono fun e w' ⟨he, hw⟩ => ⟨none, 0, 0, he, ?_, by omega, gone_bd hO _, ?_⟩
      · have : gone L k = [] := by
          apply List.eq_nil_of_length_eq_zero
          rw [gone_len, upTo_all hO.pre]; omega
        rw [this]; exact Rd.nil
      · subst hw; rw [upTo_all hO.pre, List.take_length]; exact h
    · obtain ⟨F, hR, hF, h0, hB⟩ := h
      refine (back_yes w hR (by omega) k (by omega)).mono fun e w' ⟨g, c, he, hr, hg, hT, hK⟩ => ⟨some ⟨g, 0, none⟩, _, c, he, hr.rd (gone_len L k), ?_, gone_bd hO _, ?_⟩
      · have := hO.len; omega
      · have hs := hB.size
        exact ⟨F, hT, hF, h0, hB.trans (hK.below (by omega) hF)⟩
  · have e0 : errB d v = 41 := by unfold errB; rw [if_neg hv]
    have e1 : backD d v = d := by unfold backD; rw [if_neg hv]
    have e2 : backL d L v = L := by unfold backL; rw [if_neg hv]
    have e3 : goneL d L v = [] := by unfold goneL; rw [if_neg hv]
    unfold BackTo
    rw [e0, e1, e2, e3]
    refine (back_no w h.choose_spec.1 v (by omega)).mono fun e w' ⟨he, hw⟩ => ⟨none, 0, 0, he, Rd.nil, by omega, by simp, ?_⟩
    subst hw; exact h
theorem LiveT.vars (h : LiveT B w0 w b n d L) (hn : n ≤ 90000) :
    Calls Try.prog 18 #[.pointer (some ⟨b, 0, none⟩)] w fun e w' => e = .returned (.int .i64 n) ∧ w = w' := by
  obtain ⟨F, ⟨gm, cm, ao, co, az, cs, hQ, hO, rfl⟩, _⟩ := h
  exact tvars_nat w hQ (by omega)
theorem LiveT.depth (h : LiveT B w0 w b n d L) :
    Calls Try.prog 12 #[.pointer (some ⟨b, 0, none⟩)] w fun e w' => e = .returned (.int .i64 d) ∧ w = w' := by
  obtain ⟨F, ⟨gm, cm, ao, co, az, cs, hQ, hO, rfl⟩, _⟩ := h
  exact tdepth_nat w hQ
theorem LiveT.size (h : LiveT B w0 w b n d L) :
    Calls Try.prog 19 #[.pointer (some ⟨b, 0, none⟩)] w fun e w' => e = .returned (.int .i64 L.length) ∧ w = w' := by
  obtain ⟨F, ⟨gm, cm, ao, co, az, cs, hQ, hO, rfl⟩, _⟩ := h
  exact tlen_nat w hQ
theorem LiveT.level (h : LiveT B w0 w b n d L) (hn : n ≤ 90000) (v : Int) :
    Calls Try.prog 21 #[.pointer (some ⟨b, 0, none⟩), .int .i64 v] w fun e w' => e = .returned (.int .i64 (levZ L v)) ∧ w = w' := by
  obtain ⟨F, ⟨gm, cm, ao, co, az, cs, hQ, hO, rfl⟩, _⟩ := h
  exact tlevel_nat w hQ hO.pre (by omega) v
theorem LiveT.reason (h : LiveT B w0 w b n d L) (hn : n ≤ 90000) (v : Int) :
    Calls Try.prog 22 #[.pointer (some ⟨b, 0, none⟩), .int .i64 v] w fun e w' => e = .returned (.int .i64 (reaZ L v)) ∧ w = w' := by
  obtain ⟨F, ⟨gm, cm, ao, co, az, cs, hQ, hO, rfl⟩, _⟩ := h
  exact treason_nat w hQ hO.pre (by omega) v
theorem LiveT.value (h : LiveT B w0 w b n d L) (hn : n ≤ 90000) (l : Int) (l0 : -2147483648 ≤ l) (l1 : l ≤ 2147483647) :
    Calls Try.prog 23 #[.pointer (some ⟨b, 0, none⟩), .int .i32 l] w fun e w' => e = .returned (.int .i64 (valZ L l)) ∧ w = w' := by
  obtain ⟨F, ⟨gm, cm, ao, co, az, cs, hQ, hO, rfl⟩, _⟩ := h
  exact tvalue_nat w hQ hO.pre (by omega) l l0 l1
theorem LiveT.at_ (h : LiveT B w0 w b n d L) (i : Int) :
    Calls Try.prog 25 #[.pointer (some ⟨b, 0, none⟩), .int .i64 i] w fun e w' => e = .returned (.int .i32 (atZ' L i)) ∧ w = w' := by
  obtain ⟨F, ⟨gm, cm, ao, co, az, cs, hQ, hO, rfl⟩, _⟩ := h
  exact tat_nat w hQ i
end
theorem tnil_ptr (a : Addr) (w : World) : (binOp .eql 22 (.pointer (some a)) (.pointer none)).run Try.prog w = .ok (.bool false) w := by kernel_rfl
theorem below_drewT (w : World) (q : Nat) : Below w.heap.size w (w.drewN q) := ⟨rfl, rfl, rfl, Nat.le_refl _, fun _ _ => rfl⟩

set_option maxHeartbeats 3200000 in
set_option maxRecDepth 100000 in
theorem talive_any (w : World) : Calls Try.prog 11 #[] w fun e w' => e = .returned (.bool true) ∧ Below w.heap.size w w' := by
  have np := tnil_ptr
  go_enter Try.func11, Try.ntmps11
  go_wp2_with fail
  refine (tnew_any 2 w (by omega)).mono ?_
  intro e w1 hm
  obtain ⟨b, rfl, h1⟩ := LiveT.make hm (Below.refl w.heap.size w) (Nat.le_refl _)
  rw [show (2 : Int).toNat = 2 from rfl] at h1
  clear hm
  have H1 := Lib.hid (h1.decide (by omega) (-2) (by omega) (by omega))
  rw [show errZ 2 [] (-2) = 0 from by decide, show decD 2 0 [] (-2) = 1 from by decide, show decL 2 0 [] (-2) = [⟨-2, 1, -1⟩] from by unfold decL; rw [if_pos (by decide)]; rfl] at H1
  clear h1
  go_wp2_with fail
  refine H1.out.mono ?_
  rintro e w2 ⟨rfl, h2⟩
  have H2 := Lib.hid (h2.set (by omega) 1 7 (by omega) (by omega))
  rw [show errZ 2 [⟨-2, 1, -1⟩] 1 = 0 from by decide, show setL 2 1 [⟨-2, 1, -1⟩] 1 7 = [⟨-2, 1, -1⟩, ⟨1, 1, 7⟩] from by unfold setL; rw [if_pos (by decide)]; rfl] at H2
  clear h2 H1 np
  go_wp2_with fail
  refine H2.out.mono ?_
  rintro e w3 ⟨rfl, h3⟩
  have H3 := Lib.hid (h3.value (by omega) 2 (by omega) (by omega))
  rw [show valZ [⟨-2, 1, -1⟩, ⟨1, 1, 7⟩] 2 = -1 from by decide] at H3
  have H4 := Lib.hid (h3.level (by omega) 1)
  rw [show levZ [⟨-2, 1, -1⟩, ⟨1, 1, 7⟩] 1 = 1 from by decide] at H4
  have H5 := Lib.hid (h3.reason (by omega) 1)
  rw [show reaZ [⟨-2, 1, -1⟩, ⟨1, 1, 7⟩] 1 = 7 from by decide] at H5
  have H6 := Lib.hid (h3.back (by omega) 0)
  clear h3 H2
  go_wp2_with fail
  refine H3.out.mono ?_
  rintro e w' ⟨rfl, rfl⟩
  go_wp2_with fail
  refine H4.out.mono ?_
  rintro e w' ⟨rfl, rfl⟩
  go_wp2_with fail
  refine H5.out.mono ?_
  rintro e w' ⟨rfl, rfl⟩
  clear H3 H4 H5
  go_wp2_with fail
  refine H6.out.mono ?_
  rintro e w4 ⟨A, m, c, rfl, hr, hm, _, h4⟩
  rw [show goneL 1 [⟨-2, 1, -1⟩, ⟨1, 1, 7⟩] 0 = [1, -2] from by decide] at hr
  rw [show backD 1 0 = 0 from by decide, show backL 1 [⟨-2, 1, -1⟩, ⟨1, 1, 7⟩] 0 = [] from rfl] at h4
  rw [show errB 1 0 = 0 from by decide]
  have hr2 : Rd .i32 (w4.alloc (.cells #[.int .i32 1, .int .i32 (-2)] 26)) (w4.heap.size + 1) (some ⟨w4.heap.size, 0, none⟩) 2 [1, -2] := ⟨rfl, fun _ => ⟨w4.heap.size, 0, rfl, by omega, fun j hj => by
    rw [Lib.cell_of_heap (blk_new _ _)]
    rcases (show j = 0 ∨ j = 1 by omega) with e | e <;> subst e <;> rfl⟩⟩
  have HS := Lib.hid (same_any A (some ⟨w4.heap.size, 0, none⟩) m c 2 2 [1, -2] [1, -2] (w4.alloc (.cells #[.int .i32 1, .int .i32 (-2)] 26)) (w4.heap.size + 1) ((hr.alloc (Nat.le_refl _) _).more (by omega)) hr2 (by omega) (by omega))
  rw [show sameB [1, -2] [1, -2] = true from by decide] at HS
  have H4 : LiveT w.heap.size w (w4.alloc (.cells #[.int .i32 1, .int .i32 (-2)] 26)) b 2 0 [] := h4.below ((Below.refl _ _).alloc (Nat.le_refl _) _)
  have HL := Lib.hid H4
  clear hr hr2 h4 H4 H6 hm
  go_wp2_with fail
  refine HS.out.mono ?_
  rintro e w5 ⟨rfl, q, rfl⟩
  have h5 := HL.out.drewN q
  have H5 := Lib.hid (h5.value (by omega) 1 (by omega) (by omega))
  rw [show valZ [] 1 = 0 from by decide] at H5
  have HB := Lib.hid h5.out
  clear HS HL h5
  go_wp2_with fail
  refine H5.out.mono ?_
  rintro e w' ⟨rfl, rfl⟩
  go_wp2_with fail
  go_ret
  exact ⟨rfl, HB.out⟩
end Go.Proofs.Ytcgihbffdejnbaa
