/- The plain answer's trail: the contracts of Set and Decide. -/
import Derived.Test.YtcgihbffdejnbaaFEnt
import Derived.Deep.RegionWith
import Derived.Deep.CutBlock
namespace Go.Proofs.Ytcgihbffdejnbaa
open Go.RowKit LitM TrailM

/-- What a Set or a Decide of the plain trail leaves: the trail L, d levels deep, and an error. -/
def FTo (A0 : Option Addr) (n d : Nat) (L : List Ent) (er : Int) (w : World) (e : Ending) (w' : World) : Prop :=
  ∃ A c, e = .returned (.tuple #[trV n d A L.length c, .int .i64 er]) ∧ EnAt w' A c L ∧ (∀ j, onB A j → onB A0 j ∨ w.heap.size ≤ j) ∧ Below w.heap.size w w'
theorem enC_one (L : List Ent) : ∀ j, j < L.length * 3 → (enC L j).oneCell' = true := fun j hj => by
  unfold enC
  rw [List.getElem?_eq_getElem (show j / 3 < L.length by omega)]
  show (if j % 3 = 0 then _ else if j % 3 = 1 then _ else _ : Value).oneCell' = true
  split
  · rfl
  · split <;> rfl
theorem enC_snoc (L : List Ent) (x : Ent) (j : Nat) (hj : j < (L.length + 1) * 3) : enC (L ++ [x]) j = appV (enC L) (L.length * 3) [.int .i32 x.l, .int .i64 x.lv, .int .i64 x.rs] j := by
  unfold appV
  by_cases e : j < L.length * 3
  · rw [if_pos e]
    unfold enC
    rw [List.getElem?_append_left (by omega)]
  · rw [if_neg e]
    have : j / 3 = L.length := by omega
    unfold enC
    rw [this, List.getElem?_append_right (by omega), Nat.sub_self]
    rcases (show j = L.length * 3 ∨ j = L.length * 3 + 1 ∨ j = L.length * 3 + 2 by omega) with q | q | q <;> subst q
    · show (if L.length * 3 % 3 = 0 then _ else _ : Value) = _; rw [if_pos (by omega), Nat.sub_self]; rfl
    · show (if (L.length * 3 + 1) % 3 = 0 then _ else _ : Value) = _; rw [if_neg (by omega), if_pos (by omega), show L.length * 3 + 1 - L.length * 3 = 1 from by omega]; rfl
    · show (if (L.length * 3 + 2) % 3 = 0 then _ else _ : Value) = _; rw [if_neg (by omega), if_neg (by omega), show L.length * 3 + 2 - L.length * 3 = 2 from by omega]; rfl
theorem cellsV_enC (L : List Ent) (f : Nat → Value) : ∀ j, j < L.length * 3 → enC L j = appV f 0 (cellsV (enC L) (L.length * 3)) j := fun j hj => by
  unfold appV
  rw [if_neg (by omega), Nat.sub_zero, List.getD, cellsV_get _ hj]; rfl

/-- Behind the append: the box of t, the result's box. -/
def FIn (w : World) (V D : Int) (L2 : List Ent) (wx : World) : Prop :=
  ∃ g c, w.heap.size + 2 ≤ g ∧ wx.heap[w.heap.size]? = some (.cells #[.int .i64 V, .int .i64 D, .slice (some ⟨g, 0, none⟩) L2.length c] 36 (0, 0)) ∧ EnAt wx (some ⟨g, 0, none⟩) c L2 ∧
    wx.heap[w.heap.size + 1]? = some (.cells #[.int .i64 0, .int .i64 0, .slice none 0 0] 36 (0, 0)) ∧ Below w.heap.size w wx

theorem box_in {W : World} {g : Nat} {x y z : Value} {T : TypeId} (h : W.heap[g]? = some (.cells #[x, y, z] T (0, 0))) : ∀ j u, [x, y, z][j]? = some u → W.cell? ((⟨g, 0, none⟩ : Addr).add j) = some u := by
  intro j u hj
  have ha : ((⟨g, 0, none⟩ : Addr).add j) = ⟨g, j, none⟩ := by unfold Addr.add; split <;> simp_all
  rw [ha, Lib.cell_of_heap h]
  simpa using hj
theorem boxB (W : World) (o p : Obj) : ((W.drew.alloc o).alloc p).heap[W.heap.size + 1]? = some p := by
  have := blk_new (W.drew.alloc o) p
  simpa using this
theorem boxC (W : World) (o p : Obj) : ((W.drew.alloc p).alloc o).heap[W.heap.size]? = some p := by
  rw [Below.heap_alloc _ _ _ (by simp)]
  exact blk_new W.drew p
theorem rowA (W : World) : RowV 46 3 (W.drew.alloc (.cells #[] 46)) W.heap.size 0 0 (fun _ => .int .i64 0) := RowV.made (w := W.drew) (by omega) rfl (fun j hj => by omega)
theorem rowC (W : World) (o : Obj) : RowV 46 3 ((W.drew.alloc o).alloc (.cells #[] 46)) (W.heap.size + 1) 0 0 (fun _ => .int .i64 0) := by
  have : RowV 46 3 ((W.drew.alloc o).alloc (.cells #[] 46)) (W.drew.alloc o).heap.size 0 0 (fun _ => .int .i64 0) := RowV.made (w := W.drew.alloc o) (by omega) rfl (fun j hj => by omega)
  simpa using this
theorem belowA (W : World) (o : Obj) : Below W.heap.size W (W.drew.alloc o) := (Below.drew (Below.refl _ _)).alloc (Nat.le_refl _) _
theorem belowB (W : World) (o p : Obj) : Below W.heap.size W ((W.drew.alloc o).alloc p) := (belowA W o).alloc (by simp) _
theorem below_kf {z g0 : Nat} {W Wa Wb : World} (h : Below z W Wa) (hz : z = W.heap.size) (hg : z ≤ g0) (hk : Kf (fun k => k = g0) Wa Wb) : Below z W Wb :=
  h.trans (hk.below (by have := h.size; omega) (fun x e => by omega))
theorem ent_same {w : World} {g c : Nat} {L : List Ent} {f : Nat → Value} (h : RowV 46 3 w g (0 + L.length) c (appV f (0 * 3) (cellsV (enC L) (L.length * 3)))) : RowV 46 3 w g L.length c (enC L) := by
  rw [Nat.zero_add] at h
  refine h.congr fun j hj => ?_
  rw [cellsV_enC L f j hj, Nat.zero_mul]
theorem fin_of {w W4 w6 : World} {V D : Int} {L : List Ent} {x : Ent} {g c : Nat} {A : Option Addr} {m c0 : Nat} (hz : w.heap.size + 2 ≤ W4.heap.size) (h4 : Below w.heap.size w W4) (h6 : Below W4.heap.size W4 w6)
    (h0 : W4.heap[w.heap.size]? = some (.cells #[.int .i64 V, .int .i64 D, .slice A m c0] 36 (0, 0))) (h1 : W4.heap[w.heap.size + 1]? = some (.cells #[.int .i64 0, .int .i64 0, .slice none 0 0] 36 (0, 0)))
    (hr : RowV 46 3 w6 g (L.length + 1) c (appV (enC L) (L.length * 3) [.int .i32 x.l, .int .i64 x.lv, .int .i64 x.rs])) (hg : W4.heap.size ≤ g) :
    FIn w V D (L ++ [x]) (w6.setCell ⟨w.heap.size, 2, none⟩ (.slice (some ⟨g, 0, none⟩) (L.length + 1) c)) := by
  have hl : (L ++ [x]).length = L.length + 1 := by simp
  have e0 := (h6.block w.heap.size (by omega)).trans h0
  have e1 := (h6.block (w.heap.size + 1) (by omega)).trans h1
  refine ⟨g, c, by omega, ?_, ?_, ?_, (h4.trans (h6.mono (by omega))).setCell (p := ⟨w.heap.size, 2, none⟩) (Nat.le_refl _) _⟩
  · rw [Lib.heap_setCell_same e0, hl]; rfl
  · show SlV _ 3 _ _ (L ++ [x]).length c _
    rw [hl]
    exact .inr ⟨g, rfl, RowV.other (hr.congr fun j hj => enC_snoc L x j hj) (by show w.heap.size ≠ g; omega) _⟩
  · rw [Below.heap_setCell _ _ _ _ (by show w.heap.size + 1 ≠ w.heap.size; omega)]; exact e1

set_option maxHeartbeats 6400000 in
set_option maxRecDepth 100000 in
theorem rset_any {n d : Nat} {L : List Ent} (A : Option Addr) (c : Nat) (l r : Int) (w : World) (h : EnAt w A c L) (hO : Pre n d L) (hn : n ≤ 90000) (l0 : -2147483648 ≤ l) (l1 : l ≤ 2147483647) :
    Calls Try.prog 13 #[trV n d A L.length c, .int .i32 l, .int .i64 r] w (FTo A n d (setL n d L l r) (errZ n L l) w) := by
  have HO := Lib.hid hO
  have hll := hO.len
  have hcm := h.bd
  obtain ⟨hcm1, hcm2⟩ := hcm
  have HEn := Lib.hid h
  clear hO h
  obtain ⟨W2, hW2⟩ : ∃ W2, W2 = (w.alloc (.cells #[.int .i64 (n : Int), .int .i64 (d : Int), .slice A L.length c] 36)).alloc (.cells #[.int .i64 0, .int .i64 0, .slice none 0 0] 36) := ⟨_, rfl⟩
  have HB2 : Hid (Below w.heap.size w W2) := by unfold Hid; rw [hW2]; exact ((Below.refl _ _).alloc (Nat.le_refl _) _).alloc (by simp) _
  have HS2 : Hid (W2.heap.size = w.heap.size + 2) := by unfold Hid; rw [hW2]; simp
  have hh0 : W2.heap[w.heap.size]? = some (.cells #[.int .i64 (n : Int), .int .i64 (d : Int), .slice A L.length c] 36 (0, 0)) := by
    rw [hW2, Below.heap_alloc _ _ _ (by simp)]; exact blk_new _ _
  have hh1 : W2.heap[w.heap.size + 1]? = some (.cells #[.int .i64 0, .int .i64 0, .slice none 0 0] 36 (0, 0)) := by
    rw [hW2]
    have := blk_new (w.alloc (.cells #[.int .i64 (n : Int), .int .i64 (d : Int), .slice A L.length c] 36)) (.cells #[.int .i64 0, .int .i64 0, .slice none 0 0] 36)
    simpa using this
  have HH0 := Lib.hid hh0
  have HH1 := Lib.hid hh1
  obtain ⟨a0, a1, a2⟩ := cells3 hh0
  obtain ⟨b0, b1, b2⟩ := cells3 hh1
  have fb := Lib.frozen_of_heap hh1
  have HW2 := Lib.hid hW2
  have HV := Lib.hid (rvar_any l W2 l0 l1)
  have hvb := varZ_bd l
  obtain ⟨hvb0, hvb1⟩ := hvb
  have HEn2 : Hid (EnAt W2 A c L) := SlV.below HEn.out HB2.out
  clear hW2 hh0 hh1
  -- what is told without a change
  have HNO : Hid (∀ (er : Int) W, Below (w.heap.size + 2) W2 W → FTo A n d L er w (.returned (.tuple #[trV n d A L.length c, .int .i64 er])) (((W.setCell ⟨w.heap.size + 1, 0, none⟩ (.int .i64 (n : Int))).setCell ⟨w.heap.size + 1, 1, none⟩ (.int .i64 (d : Int))).setCell ⟨w.heap.size + 1, 2, none⟩ (.slice A L.length c))) := fun er W hW => by
    have hB : Below w.heap.size w (((W.setCell ⟨w.heap.size + 1, 0, none⟩ (.int .i64 (n : Int))).setCell ⟨w.heap.size + 1, 1, none⟩ (.int .i64 (d : Int))).setCell ⟨w.heap.size + 1, 2, none⟩ (.slice A L.length c)) :=
      (((HB2.out.trans (hW.mono (by omega))).setCell (p := ⟨w.heap.size + 1, 0, none⟩) (by simp) _).setCell (p := ⟨w.heap.size + 1, 1, none⟩) (by simp) _).setCell (p := ⟨w.heap.size + 1, 2, none⟩) (by simp) _
    exact ⟨A, c, rfl, SlV.below HEn.out hB, fun j h => .inl h, hB⟩
  rcases errZ_cases n L l with ⟨hb, he⟩ | ⟨hs, he⟩ | ⟨ho, q, hq, q1, q2, hs, he⟩
  · have hsl : setL n d L l r = L := by unfold setL; rw [if_neg (by omega)]
    rw [he, hsl]
    rw [← varZ_zero] at hb
    have HE := Lib.hid (HNO.out 41 W2 (Below.refl _ _))
    have hq3 := three_set HH1.out (.int .i64 (n : Int)) (.int .i64 (d : Int)) (.slice A L.length c)
    obtain ⟨p0, p1, p2⟩ := cells3 hq3
    clear hq3 he hsl HNO HEn HEn2
    generalize varZ l = v at *
    by_cases h0 : v = 0
    · subst h0
      clear hb
      go_enter Try.func13, Try.ntmps13
      go_upto_region 1 with (fail)
      rw [← HW2.out]
      go_wp2_with fail
      refine HV.out.mono ?_
      rintro e w' ⟨rfl, rfl⟩
      go_wp2_with fail
      refine bodyPost_ret (v := .tuple #[trV n d A L.length c, .int .i64 41]) (by simp [results, Try.results13, go_sem, p0, p1, p2]) rfl ?_
      exact HE.out
    · have t0 : (v == 0) = false := by rw [beq_eq_false_iff_ne]; exact h0
      have t1 : decide ((n : Int) < v) = true := decide_eq_true (by omega)
      clear hb
      go_enter Try.func13, Try.ntmps13
      go_upto_region 1 with (fail)
      rw [← HW2.out]
      go_wp2_with fail
      refine HV.out.mono ?_
      rintro e w' ⟨rfl, rfl⟩
      go_wp2_with fail
      refine bodyPost_ret (v := .tuple #[trV n d A L.length c, .int .i64 41]) (by simp [results, Try.results13, go_sem, p0, p1, p2]) rfl ?_
      exact HE.out
  · have hsl : setL n d L l r = L := by unfold setL; rw [if_neg (by omega)]
    rw [he, hsl]
    obtain ⟨x, hx⟩ := Option.isSome_iff_exists.1 hs
    obtain ⟨_, _, v1, v2, _⟩ := HO.out.at_ hx
    have HF := Lib.hid (rfind_any n d A c (varZ l) W2 HEn2.out HO.out (by omega))
    rw [show findV L (varZ l) = .tuple #[.agg #[.int .i32 x.l, .int .i64 x.lv, .int .i64 x.rs], .bool true] from by unfold findV; rw [hx]] at HF
    clear he hsl hs hx HEn HEn2
    generalize varZ l = v at *
    have t0 : (v == 0) = false := by rw [beq_eq_false_iff_ne]; omega
    have t1 : decide ((n : Int) < v) = false := decide_eq_false (by omega)
    generalize x.l = x0 at *
    generalize x.lv = x1 at *
    generalize x.rs = x2 at *
    go_enter Try.func13, Try.ntmps13
    go_upto_region 1 with (fail)
    rw [← HW2.out]
    go_wp2_with fail
    refine HV.out.mono ?_
    rintro e w' ⟨rfl, rfl⟩
    go_wp2_with fail
    refine HF.out.mono ?_
    rintro e w3 ⟨rfl, hb3⟩
    have hB3 : Below (w.heap.size + 2) W2 (w3.alloc (.cells #[.int .i32 x0, .int .i64 x1, .int .i64 x2] 46)) := by
      have := HS2.out
      have := hb3.size
      exact (hb3.mono (by omega)).alloc (by omega) _
    have HE := Lib.hid (HNO.out 42 _ hB3)
    have hg0 := (hB3.block w.heap.size (by omega)).trans HH0.out
    have hg1 := (hB3.block (w.heap.size + 1) (by omega)).trans HH1.out
    obtain ⟨s0, s1, s2⟩ := cells3 hg0
    obtain ⟨u0, u1, u2⟩ := cells3 hg1
    have uf := Lib.frozen_of_heap hg1
    have hq3 := three_set hg1 (.int .i64 (n : Int)) (.int .i64 (d : Int)) (.slice A L.length c)
    obtain ⟨p0, p1, p2⟩ := cells3 hq3
    clear hq3 hg0 hg1 hB3 hb3 HNO HF a0 a1 a2 b0 b1 b2 fb
    go_wp2_with fail
    refine bodyPost_ret (v := .tuple #[trV n d A L.length c, .int .i64 42]) (by simp [results, Try.results13, go_sem, p0, p1, p2]) rfl ?_
    exact HE.out
  · have hsl : setL n d L l r = L ++ [⟨l, d, r⟩] := by unfold setL; rw [if_pos he]
    rw [he, hsl]
    have HF := Lib.hid (rfind_any n d A c (varZ l) W2 HEn2.out HO.out (by omega))
    rw [show findV L (varZ l) = .tuple #[.agg #[.int .i32 0, .int .i64 (-1), .int .i64 (-1)], .bool false] from by unfold findV; rw [hs]] at HF
    clear he hsl hs HEn HNO
    rw [hq] at HV HF
    have t0 : ((q : Int) == 0) = false := by rw [beq_eq_false_iff_ne]; omega
    have t1 : decide ((n : Int) < (q : Int)) = false := decide_eq_false (by omega)
    clear hq hvb0 hvb1
    go_enter Try.func13, Try.ntmps13
    go_upto_region 1 with (fail)
    rw [← HW2.out]
    go_wp2_with fail
    refine HV.out.mono ?_
    rintro e w' ⟨rfl, rfl⟩
    go_wp2_with fail
    refine HF.out.mono ?_
    rintro e w3 ⟨rfl, hb3⟩
    have hB3 : Below (w.heap.size + 2) W2 (w3.alloc (.cells #[.int .i32 0, .int .i64 (-1), .int .i64 (-1)] 46)) := by
      have := HS2.out
      have := hb3.size
      exact (hb3.mono (by omega)).alloc (by omega) _
    go_upto_region 7 with (fail)
    have hg0 := (hB3.block w.heap.size (by omega)).trans HH0.out
    have hg1 := (hB3.block (w.heap.size + 1) (by omega)).trans HH1.out
    have HB4 : Hid (Below w.heap.size w (w3.alloc (.cells #[.int .i32 0, .int .i64 (-1), .int .i64 (-1)] 46))) := HB2.out.trans (hB3.mono (by omega))
    have HZ4 : Hid (w.heap.size + 2 ≤ (w3.alloc (.cells #[.int .i32 0, .int .i64 (-1), .int .i64 (-1)] 46)).heap.size) := by
      have := HS2.out
      have := hB3.size
      unfold Hid; omega
    have HEn4 : Hid (EnAt (w3.alloc (.cells #[.int .i32 0, .int .i64 (-1), .int .i64 (-1)] 46)) A c L) := by
      have hb4 := hb3.alloc hb3.size (.cells #[.int .i32 0, .int .i64 (-1), .int .i64 (-1)] 46)
      exact SlV.below HEn2.out hb4
    generalize w3.alloc (.cells #[.int .i32 0, .int .i64 (-1), .int .i64 (-1)] 46) = W4 at *
    have HG0 := Lib.hid hg0
    have HG1 := Lib.hid hg1
    obtain ⟨s0, s1, s2⟩ := cells3 hg0
    have z4 := HZ4.out
    have s1d : W4.drew.cell? ⟨w.heap.size, 1, none⟩ = some (.int .i64 (d : Int)) := s1
    have s2d : W4.drew.cell? ⟨w.heap.size, 2, none⟩ = some (.slice A L.length c) := s2
    clear hg0 hg1 hB3 hb3 HF HV HEn2 HS2 HB2 HH0 HH1 HW2 a0 a1 a2 b0 b1 b2 fb
    have HEnd : Hid (SlV 46 3 W4.drew A L.length c (enC L)) := HEn4.out
    have HCE : Hid (∀ W, Below W4.heap.size W4 W → W.cell? ⟨w.heap.size, 1, none⟩ = some (.int .i64 (d : Int)) ∧ W.cell? ⟨w.heap.size, 2, none⟩ = some (.slice A L.length c) ∧ W.frozen? ⟨w.heap.size, 2, none⟩ = false) := fun W hW => by
      have hb := (hW.block w.heap.size (by omega)).trans HG0.out
      exact ⟨(cells3 hb).2.1, (cells3 hb).2.2, Lib.frozen_of_heap hb 2⟩
    go_cut [] (fun wx => Hid (FIn w n d (L ++ [⟨l, d, r⟩]) wx))
    case first =>
      generalize hz5 : w.heap.size = s5 at *
      refine wp_region_any (by kernel_rfl) ?_
      change wpAny _ _ _ _ _ _ _ (World.drew _)
      refine wpAny_take (i := 1) (v := ?_) rfl (by kernel_rfl) (by kernel_rfl) (by kernel_rfl) (fun _ _ _ h => h) (Or.inl ⟨by kernel_rfl, ?_⟩) ?_
      rotate_left 1
      · (intro w; go_simp <;> with_reducible rfl)
      refine wpAny_take (i := 4) (v := ?_) rfl (by kernel_rfl) (by kernel_rfl) (by kernel_rfl) (fun _ _ _ h => h) (Or.inl ⟨by kernel_rfl, ?_⟩) ?_
      rotate_left 1
      · (intro w; go_simp <;> with_reducible rfl)
      refine wpAny_take (i := 5) (v := ?_) rfl (by kernel_rfl) (by kernel_rfl) (by kernel_rfl) (fun _ _ _ h => h) (Or.inl ⟨by kernel_rfl, ?_⟩) ?_
      rotate_left 1
      · (intro w; go_simp <;> with_reducible rfl)
      refine wpAny_take (i := 7) (v := ?_) rfl (by kernel_rfl) (by kernel_rfl) (by kernel_rfl) (fun _ _ _ h => h) (Or.inl ⟨by kernel_rfl, ?_⟩) ?_
      rotate_left 1
      · (intro w; go_simp <;> with_reducible rfl)
      refine wpAny_ready (rs := [0, 2, 6]) (by kernel_rfl) (by simp) ?_
      refine AllReady.cons rfl (fun K hK => ?_) ?_
      ·
        go_simp
        refine hK _ _ ?_; clear hK K
        refine wpAny_ready (rs := [2, 6]) (by kernel_rfl) (by simp) ?_
        refine AllReady.cons rfl (fun K hK => ?_) ?_
        ·
          obtain ⟨v1, v2, v3⟩ := HCE.out (W4.alloc (.cells #[] 46)) ((Below.refl _ _).alloc (Nat.le_refl _) _)
          go_simp
          refine hK _ _ ?_; clear hK K
          refine wpAny_ready (rs := [3, 6]) (by kernel_rfl) (by simp) ?_
          refine AllReady.cons rfl (fun K hK => ?_) ?_
          ·
            refine step_append_src _ rfl _ _ 34 46 rfl Try.underlying34 info_fent rfl (by decide) (by decide) W4.heap.size 0 0 (fun _ => .int .i64 0) rfl (rowA W4) (by omega) A L.length c (enC L) rfl (SlV.alloc HEnd.out _) (enC_one L) (by omega) ?_
            intro g1 c1 w5 hr1 hg1 hk1
            have hR1 : RowV 46 3 w5 g1 L.length c1 (enC L) := ent_same hr1
            have hB5 := below_kf (belowA W4 _) rfl (by omega) hk1
            have hz1 : W4.heap.size ≤ g1 := by
              rcases hg1 with e | e
              · omega
              · simp at e; omega
            obtain ⟨y1, y2, y3⟩ := HCE.out w5 hB5
            clear hr1 hg1 hk1
            rw [Nat.zero_add]
            refine hK _ _ ?_; clear hK K
            refine wpAny_ready (rs := [6]) (by kernel_rfl) (by simp) ?_
            refine AllReady.cons rfl (fun K hK => ?_) ?_
            ·
              go_simp
              refine hK _ _ ?_; clear hK K
              refine wpAny_take (i := 8) (v := ?_) rfl (by kernel_rfl) (by kernel_rfl) (by kernel_rfl) (fun _ _ _ h => h) (Or.inl ⟨by kernel_rfl, ?_⟩) ?_
              rotate_left 1
              · (intro w; go_simp <;> with_reducible rfl)
              refine wpAny_ready (rs := [9]) (by kernel_rfl) (by simp) ?_
              refine AllReady.cons rfl (fun K hK => ?_) ?_
              ·
                go_simp
                refine hK _ _ ?_; clear hK K
                refine wpAny_ready (rs := [10]) (by kernel_rfl) (by simp) ?_
                refine AllReady.cons rfl (fun K hK => ?_) ?_
                ·
                  refine step_append_sl _ rfl _ _ 34 46 rfl Try.underlying34 info_fent rfl (by decide) (by decide) (some ⟨g1, 0, none⟩) L.length c1 (enC L) rfl (.inr ⟨g1, rfl, hR1.alloc _⟩) (by omega) ⟨w5.heap.size, 0, none⟩ 1 1 [.int .i32 l, .int .i64 (d : Int), .int .i64 r] rfl rfl (box_news w5 46 [.int .i32 l, .int .i64 (d : Int), .int .i64 r]) (by intro u hu; simp at hu; rcases hu with rfl | rfl | rfl <;> rfl) (by decide) (by decide) ?_
                  intro g2 c2 w6 hr2 hg2 hk2
                  have hB6 := below_kf (hB5.alloc (by have := hB5.size; omega) _) rfl hz1 (hk2 (fun k => k = g1) (fun j hj => (onB_some _ _).1 hj))
                  have hz2 : W4.heap.size ≤ g2 := by
                    have := hB5.size
                    rcases hg2 with e | e
                    · rw [onB_some] at e; exact Nat.le_trans hz1 (Nat.le_of_eq e.symm)
                    · simp at e; omega
                  obtain ⟨x1, x2, x3⟩ := HCE.out w6 hB6
                  refine hK _ _ ?_; clear hK K
                  refine wpAny_take (i := 11) (v := ?_) rfl (by kernel_rfl) (by kernel_rfl) (by kernel_rfl) (fun _ _ _ h => h) (Or.inl ⟨by kernel_rfl, ?_⟩) ?_
                  rotate_left 1
                  · (intro w; go_simp <;> with_reducible rfl)
                  refine wpAny_ready (rs := [12]) (by kernel_rfl) (by simp) ?_
                  refine AllReady.cons rfl (fun K hK => ?_) ?_
                  ·
                    go_simp
                    refine hK _ _ ?_; clear hK K
                    refine wpAny_done (by kernel_rfl) ?_ _
                    go_wp2_with fail; go_meet; subst hz5; exact fin_of z4 HB4.out hB6 HG0.out HG1.out hr2 hz2
                  exact AllReady.nil
                exact AllReady.nil
              exact AllReady.nil
            exact AllReady.nil
          refine AllReady.cons rfl (fun K hK => ?_) ?_
          ·
            obtain ⟨v1, v2, v3⟩ := HCE.out (W4.alloc (.cells #[] 46)) ((Below.refl _ _).alloc (Nat.le_refl _) _)
            go_simp
            refine hK _ _ ?_; clear hK K
            refine wpAny_take (i := 8) (v := ?_) rfl (by kernel_rfl) (by kernel_rfl) (by kernel_rfl) (fun _ _ _ h => h) (Or.inl ⟨by kernel_rfl, ?_⟩) ?_
            rotate_left 1
            · (intro w; go_simp <;> with_reducible rfl)
            refine wpAny_ready (rs := [3, 9]) (by kernel_rfl) (by simp) ?_
            refine AllReady.cons rfl (fun K hK => ?_) ?_
            ·
              refine step_append_src _ rfl _ _ 34 46 rfl Try.underlying34 info_fent rfl (by decide) (by decide) W4.heap.size 0 0 (fun _ => .int .i64 0) rfl (rowA W4) (by omega) A L.length c (enC L) rfl (SlV.alloc HEnd.out _) (enC_one L) (by omega) ?_
              intro g1 c1 w5 hr1 hg1 hk1
              have hR1 : RowV 46 3 w5 g1 L.length c1 (enC L) := ent_same hr1
              have hB5 := below_kf (belowA W4 _) rfl (by omega) hk1
              have hz1 : W4.heap.size ≤ g1 := by
                rcases hg1 with e | e
                · omega
                · simp at e; omega
              obtain ⟨y1, y2, y3⟩ := HCE.out w5 hB5
              clear hr1 hg1 hk1
              rw [Nat.zero_add]
              refine hK _ _ ?_; clear hK K
              refine wpAny_ready (rs := [9]) (by kernel_rfl) (by simp) ?_
              refine AllReady.cons rfl (fun K hK => ?_) ?_
              ·
                go_simp
                refine hK _ _ ?_; clear hK K
                refine wpAny_ready (rs := [10]) (by kernel_rfl) (by simp) ?_
                refine AllReady.cons rfl (fun K hK => ?_) ?_
                ·
                  refine step_append_sl _ rfl _ _ 34 46 rfl Try.underlying34 info_fent rfl (by decide) (by decide) (some ⟨g1, 0, none⟩) L.length c1 (enC L) rfl (.inr ⟨g1, rfl, hR1.alloc _⟩) (by omega) ⟨w5.heap.size, 0, none⟩ 1 1 [.int .i32 l, .int .i64 (d : Int), .int .i64 r] rfl rfl (box_news w5 46 [.int .i32 l, .int .i64 (d : Int), .int .i64 r]) (by intro u hu; simp at hu; rcases hu with rfl | rfl | rfl <;> rfl) (by decide) (by decide) ?_
                  intro g2 c2 w6 hr2 hg2 hk2
                  have hB6 := below_kf (hB5.alloc (by have := hB5.size; omega) _) rfl hz1 (hk2 (fun k => k = g1) (fun j hj => (onB_some _ _).1 hj))
                  have hz2 : W4.heap.size ≤ g2 := by
                    have := hB5.size
                    rcases hg2 with e | e
                    · rw [onB_some] at e; exact Nat.le_trans hz1 (Nat.le_of_eq e.symm)
                    · simp at e; omega
                  obtain ⟨x1, x2, x3⟩ := HCE.out w6 hB6
                  refine hK _ _ ?_; clear hK K
                  refine wpAny_take (i := 11) (v := ?_) rfl (by kernel_rfl) (by kernel_rfl) (by kernel_rfl) (fun _ _ _ h => h) (Or.inl ⟨by kernel_rfl, ?_⟩) ?_
                  rotate_left 1
                  · (intro w; go_simp <;> with_reducible rfl)
                  refine wpAny_ready (rs := [12]) (by kernel_rfl) (by simp) ?_
                  refine AllReady.cons rfl (fun K hK => ?_) ?_
                  ·
                    go_simp
                    refine hK _ _ ?_; clear hK K
                    refine wpAny_done (by kernel_rfl) ?_ _
                    go_wp2_with fail; go_meet; subst hz5; exact fin_of z4 HB4.out hB6 HG0.out HG1.out hr2 hz2
                  exact AllReady.nil
                exact AllReady.nil
              exact AllReady.nil
            refine AllReady.cons rfl (fun K hK => ?_) ?_
            ·
              go_simp
              refine hK _ _ ?_; clear hK K
              refine wpAny_ready (rs := [3]) (by kernel_rfl) (by simp) ?_
              refine AllReady.cons rfl (fun K hK => ?_) ?_
              ·
                refine step_append_src _ rfl _ _ 34 46 rfl Try.underlying34 info_fent rfl (by decide) (by decide) W4.heap.size 0 0 (fun _ => .int .i64 0) rfl ((rowA W4).alloc _) (by omega) A L.length c (enC L) rfl (SlV.alloc (SlV.alloc HEnd.out _) _) (enC_one L) (by omega) ?_
                intro g1 c1 w5 hr1 hg1 hk1
                have hR1 : RowV 46 3 w5 g1 L.length c1 (enC L) := ent_same hr1
                have hB5 := below_kf (belowB W4 _ _) rfl (by omega) hk1
                have hz1 : W4.heap.size ≤ g1 := by
                  rcases hg1 with e | e
                  · omega
                  · simp at e; omega
                have hbx := box_in ((hk1.block (W4.heap.size + 1) (by simp) (by simp)).trans (boxB W4 _ _))
                obtain ⟨y1, y2, y3⟩ := HCE.out w5 hB5
                clear hr1 hg1 hk1
                rw [Nat.zero_add]
                refine hK _ _ ?_; clear hK K
                refine wpAny_ready (rs := [10]) (by kernel_rfl) (by simp) ?_
                refine AllReady.cons rfl (fun K hK => ?_) ?_
                ·
                  refine step_append_sl _ rfl _ _ 34 46 rfl Try.underlying34 info_fent rfl (by decide) (by decide) (some ⟨g1, 0, none⟩) L.length c1 (enC L) rfl (.inr ⟨g1, rfl, hR1⟩) (by omega) ⟨(W4.heap.size + 1), 0, none⟩ 1 1 [.int .i32 l, .int .i64 (d : Int), .int .i64 r] rfl rfl (hbx) (by intro u hu; simp at hu; rcases hu with rfl | rfl | rfl <;> rfl) (by decide) (by decide) ?_
                  intro g2 c2 w6 hr2 hg2 hk2
                  have hB6 := below_kf hB5 rfl hz1 (hk2 (fun k => k = g1) (fun j hj => (onB_some _ _).1 hj))
                  have hz2 : W4.heap.size ≤ g2 := by
                    have := hB5.size
                    rcases hg2 with e | e
                    · rw [onB_some] at e; exact Nat.le_trans hz1 (Nat.le_of_eq e.symm)
                    · omega
                  obtain ⟨x1, x2, x3⟩ := HCE.out w6 hB6
                  refine hK _ _ ?_; clear hK K
                  refine wpAny_take (i := 11) (v := ?_) rfl (by kernel_rfl) (by kernel_rfl) (by kernel_rfl) (fun _ _ _ h => h) (Or.inl ⟨by kernel_rfl, ?_⟩) ?_
                  rotate_left 1
                  · (intro w; go_simp <;> with_reducible rfl)
                  refine wpAny_ready (rs := [12]) (by kernel_rfl) (by simp) ?_
                  refine AllReady.cons rfl (fun K hK => ?_) ?_
                  ·
                    go_simp
                    refine hK _ _ ?_; clear hK K
                    refine wpAny_done (by kernel_rfl) ?_ _
                    go_wp2_with fail; go_meet; subst hz5; exact fin_of z4 HB4.out hB6 HG0.out HG1.out hr2 hz2
                  exact AllReady.nil
                exact AllReady.nil
              exact AllReady.nil
            exact AllReady.nil
          exact AllReady.nil
        refine AllReady.cons rfl (fun K hK => ?_) ?_
        ·
          obtain ⟨v1, v2, v3⟩ := HCE.out (W4.alloc (.cells #[] 46)) ((Below.refl _ _).alloc (Nat.le_refl _) _)
          go_simp
          refine hK _ _ ?_; clear hK K
          refine wpAny_take (i := 8) (v := ?_) rfl (by kernel_rfl) (by kernel_rfl) (by kernel_rfl) (fun _ _ _ h => h) (Or.inl ⟨by kernel_rfl, ?_⟩) ?_
          rotate_left 1
          · (intro w; go_simp <;> with_reducible rfl)
          refine wpAny_ready (rs := [2, 9]) (by kernel_rfl) (by simp) ?_
          refine AllReady.cons rfl (fun K hK => ?_) ?_
          ·
            obtain ⟨v1, v2, v3⟩ := HCE.out (W4.alloc (.cells #[] 46)) ((Below.refl _ _).alloc (Nat.le_refl _) _)
            go_simp
            refine hK _ _ ?_; clear hK K
            refine wpAny_ready (rs := [3, 9]) (by kernel_rfl) (by simp) ?_
            refine AllReady.cons rfl (fun K hK => ?_) ?_
            ·
              refine step_append_src _ rfl _ _ 34 46 rfl Try.underlying34 info_fent rfl (by decide) (by decide) W4.heap.size 0 0 (fun _ => .int .i64 0) rfl (rowA W4) (by omega) A L.length c (enC L) rfl (SlV.alloc HEnd.out _) (enC_one L) (by omega) ?_
              intro g1 c1 w5 hr1 hg1 hk1
              have hR1 : RowV 46 3 w5 g1 L.length c1 (enC L) := ent_same hr1
              have hB5 := below_kf (belowA W4 _) rfl (by omega) hk1
              have hz1 : W4.heap.size ≤ g1 := by
                rcases hg1 with e | e
                · omega
                · simp at e; omega
              obtain ⟨y1, y2, y3⟩ := HCE.out w5 hB5
              clear hr1 hg1 hk1
              rw [Nat.zero_add]
              refine hK _ _ ?_; clear hK K
              refine wpAny_ready (rs := [9]) (by kernel_rfl) (by simp) ?_
              refine AllReady.cons rfl (fun K hK => ?_) ?_
              ·
                go_simp
                refine hK _ _ ?_; clear hK K
                refine wpAny_ready (rs := [10]) (by kernel_rfl) (by simp) ?_
                refine AllReady.cons rfl (fun K hK => ?_) ?_
                ·
                  refine step_append_sl _ rfl _ _ 34 46 rfl Try.underlying34 info_fent rfl (by decide) (by decide) (some ⟨g1, 0, none⟩) L.length c1 (enC L) rfl (.inr ⟨g1, rfl, hR1.alloc _⟩) (by omega) ⟨w5.heap.size, 0, none⟩ 1 1 [.int .i32 l, .int .i64 (d : Int), .int .i64 r] rfl rfl (box_news w5 46 [.int .i32 l, .int .i64 (d : Int), .int .i64 r]) (by intro u hu; simp at hu; rcases hu with rfl | rfl | rfl <;> rfl) (by decide) (by decide) ?_
                  intro g2 c2 w6 hr2 hg2 hk2
                  have hB6 := below_kf (hB5.alloc (by have := hB5.size; omega) _) rfl hz1 (hk2 (fun k => k = g1) (fun j hj => (onB_some _ _).1 hj))
                  have hz2 : W4.heap.size ≤ g2 := by
                    have := hB5.size
                    rcases hg2 with e | e
                    · rw [onB_some] at e; exact Nat.le_trans hz1 (Nat.le_of_eq e.symm)
                    · simp at e; omega
                  obtain ⟨x1, x2, x3⟩ := HCE.out w6 hB6
                  refine hK _ _ ?_; clear hK K
                  refine wpAny_take (i := 11) (v := ?_) rfl (by kernel_rfl) (by kernel_rfl) (by kernel_rfl) (fun _ _ _ h => h) (Or.inl ⟨by kernel_rfl, ?_⟩) ?_
                  rotate_left 1
                  · (intro w; go_simp <;> with_reducible rfl)
                  refine wpAny_ready (rs := [12]) (by kernel_rfl) (by simp) ?_
                  refine AllReady.cons rfl (fun K hK => ?_) ?_
                  ·
                    go_simp
                    refine hK _ _ ?_; clear hK K
                    refine wpAny_done (by kernel_rfl) ?_ _
                    go_wp2_with fail; go_meet; subst hz5; exact fin_of z4 HB4.out hB6 HG0.out HG1.out hr2 hz2
                  exact AllReady.nil
                exact AllReady.nil
              exact AllReady.nil
            refine AllReady.cons rfl (fun K hK => ?_) ?_
            ·
              go_simp
              refine hK _ _ ?_; clear hK K
              refine wpAny_ready (rs := [3]) (by kernel_rfl) (by simp) ?_
              refine AllReady.cons rfl (fun K hK => ?_) ?_
              ·
                refine step_append_src _ rfl _ _ 34 46 rfl Try.underlying34 info_fent rfl (by decide) (by decide) W4.heap.size 0 0 (fun _ => .int .i64 0) rfl ((rowA W4).alloc _) (by omega) A L.length c (enC L) rfl (SlV.alloc (SlV.alloc HEnd.out _) _) (enC_one L) (by omega) ?_
                intro g1 c1 w5 hr1 hg1 hk1
                have hR1 : RowV 46 3 w5 g1 L.length c1 (enC L) := ent_same hr1
                have hB5 := below_kf (belowB W4 _ _) rfl (by omega) hk1
                have hz1 : W4.heap.size ≤ g1 := by
                  rcases hg1 with e | e
                  · omega
                  · simp at e; omega
                have hbx := box_in ((hk1.block (W4.heap.size + 1) (by simp) (by simp)).trans (boxB W4 _ _))
                obtain ⟨y1, y2, y3⟩ := HCE.out w5 hB5
                clear hr1 hg1 hk1
                rw [Nat.zero_add]
                refine hK _ _ ?_; clear hK K
                refine wpAny_ready (rs := [10]) (by kernel_rfl) (by simp) ?_
                refine AllReady.cons rfl (fun K hK => ?_) ?_
                ·
                  refine step_append_sl _ rfl _ _ 34 46 rfl Try.underlying34 info_fent rfl (by decide) (by decide) (some ⟨g1, 0, none⟩) L.length c1 (enC L) rfl (.inr ⟨g1, rfl, hR1⟩) (by omega) ⟨(W4.heap.size + 1), 0, none⟩ 1 1 [.int .i32 l, .int .i64 (d : Int), .int .i64 r] rfl rfl (hbx) (by intro u hu; simp at hu; rcases hu with rfl | rfl | rfl <;> rfl) (by decide) (by decide) ?_
                  intro g2 c2 w6 hr2 hg2 hk2
                  have hB6 := below_kf hB5 rfl hz1 (hk2 (fun k => k = g1) (fun j hj => (onB_some _ _).1 hj))
                  have hz2 : W4.heap.size ≤ g2 := by
                    have := hB5.size
                    rcases hg2 with e | e
                    · rw [onB_some] at e; exact Nat.le_trans hz1 (Nat.le_of_eq e.symm)
                    · omega
                  obtain ⟨x1, x2, x3⟩ := HCE.out w6 hB6
                  refine hK _ _ ?_; clear hK K
                  refine wpAny_take (i := 11) (v := ?_) rfl (by kernel_rfl) (by kernel_rfl) (by kernel_rfl) (fun _ _ _ h => h) (Or.inl ⟨by kernel_rfl, ?_⟩) ?_
                  rotate_left 1
                  · (intro w; go_simp <;> with_reducible rfl)
                  refine wpAny_ready (rs := [12]) (by kernel_rfl) (by simp) ?_
                  refine AllReady.cons rfl (fun K hK => ?_) ?_
                  ·
                    go_simp
                    refine hK _ _ ?_; clear hK K
                    refine wpAny_done (by kernel_rfl) ?_ _
                    go_wp2_with fail; go_meet; subst hz5; exact fin_of z4 HB4.out hB6 HG0.out HG1.out hr2 hz2
                  exact AllReady.nil
                exact AllReady.nil
              exact AllReady.nil
            exact AllReady.nil
          refine AllReady.cons rfl (fun K hK => ?_) ?_
          ·
            go_simp
            refine hK _ _ ?_; clear hK K
            refine wpAny_ready (rs := [2]) (by kernel_rfl) (by simp) ?_
            refine AllReady.cons rfl (fun K hK => ?_) ?_
            ·
              obtain ⟨v1, v2, v3⟩ := HCE.out ((W4.alloc (.cells #[] 46)).alloc (.cells #[.int .i32 l, .int .i64 (d : Int), .int .i64 r] 46)) (((Below.refl _ _).alloc (Nat.le_refl _) _).alloc (by simp) _)
              go_simp
              refine hK _ _ ?_; clear hK K
              refine wpAny_ready (rs := [3]) (by kernel_rfl) (by simp) ?_
              refine AllReady.cons rfl (fun K hK => ?_) ?_
              ·
                refine step_append_src _ rfl _ _ 34 46 rfl Try.underlying34 info_fent rfl (by decide) (by decide) W4.heap.size 0 0 (fun _ => .int .i64 0) rfl ((rowA W4).alloc _) (by omega) A L.length c (enC L) rfl (SlV.alloc (SlV.alloc HEnd.out _) _) (enC_one L) (by omega) ?_
                intro g1 c1 w5 hr1 hg1 hk1
                have hR1 : RowV 46 3 w5 g1 L.length c1 (enC L) := ent_same hr1
                have hB5 := below_kf (belowB W4 _ _) rfl (by omega) hk1
                have hz1 : W4.heap.size ≤ g1 := by
                  rcases hg1 with e | e
                  · omega
                  · simp at e; omega
                have hbx := box_in ((hk1.block (W4.heap.size + 1) (by simp) (by simp)).trans (boxB W4 _ _))
                obtain ⟨y1, y2, y3⟩ := HCE.out w5 hB5
                clear hr1 hg1 hk1
                rw [Nat.zero_add]
                refine hK _ _ ?_; clear hK K
                refine wpAny_ready (rs := [10]) (by kernel_rfl) (by simp) ?_
                refine AllReady.cons rfl (fun K hK => ?_) ?_
                ·
                  refine step_append_sl _ rfl _ _ 34 46 rfl Try.underlying34 info_fent rfl (by decide) (by decide) (some ⟨g1, 0, none⟩) L.length c1 (enC L) rfl (.inr ⟨g1, rfl, hR1⟩) (by omega) ⟨(W4.heap.size + 1), 0, none⟩ 1 1 [.int .i32 l, .int .i64 (d : Int), .int .i64 r] rfl rfl (hbx) (by intro u hu; simp at hu; rcases hu with rfl | rfl | rfl <;> rfl) (by decide) (by decide) ?_
                  intro g2 c2 w6 hr2 hg2 hk2
                  have hB6 := below_kf hB5 rfl hz1 (hk2 (fun k => k = g1) (fun j hj => (onB_some _ _).1 hj))
                  have hz2 : W4.heap.size ≤ g2 := by
                    have := hB5.size
                    rcases hg2 with e | e
                    · rw [onB_some] at e; exact Nat.le_trans hz1 (Nat.le_of_eq e.symm)
                    · omega
                  obtain ⟨x1, x2, x3⟩ := HCE.out w6 hB6
                  refine hK _ _ ?_; clear hK K
                  refine wpAny_take (i := 11) (v := ?_) rfl (by kernel_rfl) (by kernel_rfl) (by kernel_rfl) (fun _ _ _ h => h) (Or.inl ⟨by kernel_rfl, ?_⟩) ?_
                  rotate_left 1
                  · (intro w; go_simp <;> with_reducible rfl)
                  refine wpAny_ready (rs := [12]) (by kernel_rfl) (by simp) ?_
                  refine AllReady.cons rfl (fun K hK => ?_) ?_
                  ·
                    go_simp
                    refine hK _ _ ?_; clear hK K
                    refine wpAny_done (by kernel_rfl) ?_ _
                    go_wp2_with fail; go_meet; subst hz5; exact fin_of z4 HB4.out hB6 HG0.out HG1.out hr2 hz2
                  exact AllReady.nil
                exact AllReady.nil
              exact AllReady.nil
            exact AllReady.nil
          exact AllReady.nil
        exact AllReady.nil
      refine AllReady.cons rfl (fun K hK => ?_) ?_
      ·
        go_simp
        refine hK _ _ ?_; clear hK K
        refine wpAny_ready (rs := [0, 6]) (by kernel_rfl) (by simp) ?_
        refine AllReady.cons rfl (fun K hK => ?_) ?_
        ·
          go_simp
          refine hK _ _ ?_; clear hK K
          refine wpAny_ready (rs := [3, 6]) (by kernel_rfl) (by simp) ?_
          refine AllReady.cons rfl (fun K hK => ?_) ?_
          ·
            refine step_append_src _ rfl _ _ 34 46 rfl Try.underlying34 info_fent rfl (by decide) (by decide) W4.heap.size 0 0 (fun _ => .int .i64 0) rfl (rowA W4) (by omega) A L.length c (enC L) rfl (SlV.alloc HEnd.out _) (enC_one L) (by omega) ?_
            intro g1 c1 w5 hr1 hg1 hk1
            have hR1 : RowV 46 3 w5 g1 L.length c1 (enC L) := ent_same hr1
            have hB5 := below_kf (belowA W4 _) rfl (by omega) hk1
            have hz1 : W4.heap.size ≤ g1 := by
              rcases hg1 with e | e
              · omega
              · simp at e; omega
            obtain ⟨y1, y2, y3⟩ := HCE.out w5 hB5
            clear hr1 hg1 hk1
            rw [Nat.zero_add]
            refine hK _ _ ?_; clear hK K
            refine wpAny_ready (rs := [6]) (by kernel_rfl) (by simp) ?_
            refine AllReady.cons rfl (fun K hK => ?_) ?_
            ·
              go_simp
              refine hK _ _ ?_; clear hK K
              refine wpAny_take (i := 8) (v := ?_) rfl (by kernel_rfl) (by kernel_rfl) (by kernel_rfl) (fun _ _ _ h => h) (Or.inl ⟨by kernel_rfl, ?_⟩) ?_
              rotate_left 1
              · (intro w; go_simp <;> with_reducible rfl)
              refine wpAny_ready (rs := [9]) (by kernel_rfl) (by simp) ?_
              refine AllReady.cons rfl (fun K hK => ?_) ?_
              ·
                go_simp
                refine hK _ _ ?_; clear hK K
                refine wpAny_ready (rs := [10]) (by kernel_rfl) (by simp) ?_
                refine AllReady.cons rfl (fun K hK => ?_) ?_
                ·
                  refine step_append_sl _ rfl _ _ 34 46 rfl Try.underlying34 info_fent rfl (by decide) (by decide) (some ⟨g1, 0, none⟩) L.length c1 (enC L) rfl (.inr ⟨g1, rfl, hR1.alloc _⟩) (by omega) ⟨w5.heap.size, 0, none⟩ 1 1 [.int .i32 l, .int .i64 (d : Int), .int .i64 r] rfl rfl (box_news w5 46 [.int .i32 l, .int .i64 (d : Int), .int .i64 r]) (by intro u hu; simp at hu; rcases hu with rfl | rfl | rfl <;> rfl) (by decide) (by decide) ?_
                  intro g2 c2 w6 hr2 hg2 hk2
                  have hB6 := below_kf (hB5.alloc (by have := hB5.size; omega) _) rfl hz1 (hk2 (fun k => k = g1) (fun j hj => (onB_some _ _).1 hj))
                  have hz2 : W4.heap.size ≤ g2 := by
                    have := hB5.size
                    rcases hg2 with e | e
                    · rw [onB_some] at e; exact Nat.le_trans hz1 (Nat.le_of_eq e.symm)
                    · simp at e; omega
                  obtain ⟨x1, x2, x3⟩ := HCE.out w6 hB6
                  refine hK _ _ ?_; clear hK K
                  refine wpAny_take (i := 11) (v := ?_) rfl (by kernel_rfl) (by kernel_rfl) (by kernel_rfl) (fun _ _ _ h => h) (Or.inl ⟨by kernel_rfl, ?_⟩) ?_
                  rotate_left 1
                  · (intro w; go_simp <;> with_reducible rfl)
                  refine wpAny_ready (rs := [12]) (by kernel_rfl) (by simp) ?_
                  refine AllReady.cons rfl (fun K hK => ?_) ?_
                  ·
                    go_simp
                    refine hK _ _ ?_; clear hK K
                    refine wpAny_done (by kernel_rfl) ?_ _
                    go_wp2_with fail; go_meet; subst hz5; exact fin_of z4 HB4.out hB6 HG0.out HG1.out hr2 hz2
                  exact AllReady.nil
                exact AllReady.nil
              exact AllReady.nil
            exact AllReady.nil
          refine AllReady.cons rfl (fun K hK => ?_) ?_
          ·
            obtain ⟨v1, v2, v3⟩ := HCE.out (W4.alloc (.cells #[] 46)) ((Below.refl _ _).alloc (Nat.le_refl _) _)
            go_simp
            refine hK _ _ ?_; clear hK K
            refine wpAny_take (i := 8) (v := ?_) rfl (by kernel_rfl) (by kernel_rfl) (by kernel_rfl) (fun _ _ _ h => h) (Or.inl ⟨by kernel_rfl, ?_⟩) ?_
            rotate_left 1
            · (intro w; go_simp <;> with_reducible rfl)
            refine wpAny_ready (rs := [3, 9]) (by kernel_rfl) (by simp) ?_
            refine AllReady.cons rfl (fun K hK => ?_) ?_
            ·
              refine step_append_src _ rfl _ _ 34 46 rfl Try.underlying34 info_fent rfl (by decide) (by decide) W4.heap.size 0 0 (fun _ => .int .i64 0) rfl (rowA W4) (by omega) A L.length c (enC L) rfl (SlV.alloc HEnd.out _) (enC_one L) (by omega) ?_
              intro g1 c1 w5 hr1 hg1 hk1
              have hR1 : RowV 46 3 w5 g1 L.length c1 (enC L) := ent_same hr1
              have hB5 := below_kf (belowA W4 _) rfl (by omega) hk1
              have hz1 : W4.heap.size ≤ g1 := by
                rcases hg1 with e | e
                · omega
                · simp at e; omega
              obtain ⟨y1, y2, y3⟩ := HCE.out w5 hB5
              clear hr1 hg1 hk1
              rw [Nat.zero_add]
              refine hK _ _ ?_; clear hK K
              refine wpAny_ready (rs := [9]) (by kernel_rfl) (by simp) ?_
              refine AllReady.cons rfl (fun K hK => ?_) ?_
              ·
                go_simp
                refine hK _ _ ?_; clear hK K
                refine wpAny_ready (rs := [10]) (by kernel_rfl) (by simp) ?_
                refine AllReady.cons rfl (fun K hK => ?_) ?_
                ·
                  refine step_append_sl _ rfl _ _ 34 46 rfl Try.underlying34 info_fent rfl (by decide) (by decide) (some ⟨g1, 0, none⟩) L.length c1 (enC L) rfl (.inr ⟨g1, rfl, hR1.alloc _⟩) (by omega) ⟨w5.heap.size, 0, none⟩ 1 1 [.int .i32 l, .int .i64 (d : Int), .int .i64 r] rfl rfl (box_news w5 46 [.int .i32 l, .int .i64 (d : Int), .int .i64 r]) (by intro u hu; simp at hu; rcases hu with rfl | rfl | rfl <;> rfl) (by decide) (by decide) ?_
                  intro g2 c2 w6 hr2 hg2 hk2
                  have hB6 := below_kf (hB5.alloc (by have := hB5.size; omega) _) rfl hz1 (hk2 (fun k => k = g1) (fun j hj => (onB_some _ _).1 hj))
                  have hz2 : W4.heap.size ≤ g2 := by
                    have := hB5.size
                    rcases hg2 with e | e
                    · rw [onB_some] at e; exact Nat.le_trans hz1 (Nat.le_of_eq e.symm)
                    · simp at e; omega
                  obtain ⟨x1, x2, x3⟩ := HCE.out w6 hB6
                  refine hK _ _ ?_; clear hK K
                  refine wpAny_take (i := 11) (v := ?_) rfl (by kernel_rfl) (by kernel_rfl) (by kernel_rfl) (fun _ _ _ h => h) (Or.inl ⟨by kernel_rfl, ?_⟩) ?_
                  rotate_left 1
                  · (intro w; go_simp <;> with_reducible rfl)
                  refine wpAny_ready (rs := [12]) (by kernel_rfl) (by simp) ?_
                  refine AllReady.cons rfl (fun K hK => ?_) ?_
                  ·
                    go_simp
                    refine hK _ _ ?_; clear hK K
                    refine wpAny_done (by kernel_rfl) ?_ _
                    go_wp2_with fail; go_meet; subst hz5; exact fin_of z4 HB4.out hB6 HG0.out HG1.out hr2 hz2
                  exact AllReady.nil
                exact AllReady.nil
              exact AllReady.nil
            refine AllReady.cons rfl (fun K hK => ?_) ?_
            ·
              go_simp
              refine hK _ _ ?_; clear hK K
              refine wpAny_ready (rs := [3]) (by kernel_rfl) (by simp) ?_
              refine AllReady.cons rfl (fun K hK => ?_) ?_
              ·
                refine step_append_src _ rfl _ _ 34 46 rfl Try.underlying34 info_fent rfl (by decide) (by decide) W4.heap.size 0 0 (fun _ => .int .i64 0) rfl ((rowA W4).alloc _) (by omega) A L.length c (enC L) rfl (SlV.alloc (SlV.alloc HEnd.out _) _) (enC_one L) (by omega) ?_
                intro g1 c1 w5 hr1 hg1 hk1
                have hR1 : RowV 46 3 w5 g1 L.length c1 (enC L) := ent_same hr1
                have hB5 := below_kf (belowB W4 _ _) rfl (by omega) hk1
                have hz1 : W4.heap.size ≤ g1 := by
                  rcases hg1 with e | e
                  · omega
                  · simp at e; omega
                have hbx := box_in ((hk1.block (W4.heap.size + 1) (by simp) (by simp)).trans (boxB W4 _ _))
                obtain ⟨y1, y2, y3⟩ := HCE.out w5 hB5
                clear hr1 hg1 hk1
                rw [Nat.zero_add]
                refine hK _ _ ?_; clear hK K
                refine wpAny_ready (rs := [10]) (by kernel_rfl) (by simp) ?_
                refine AllReady.cons rfl (fun K hK => ?_) ?_
                ·
                  refine step_append_sl _ rfl _ _ 34 46 rfl Try.underlying34 info_fent rfl (by decide) (by decide) (some ⟨g1, 0, none⟩) L.length c1 (enC L) rfl (.inr ⟨g1, rfl, hR1⟩) (by omega) ⟨(W4.heap.size + 1), 0, none⟩ 1 1 [.int .i32 l, .int .i64 (d : Int), .int .i64 r] rfl rfl (hbx) (by intro u hu; simp at hu; rcases hu with rfl | rfl | rfl <;> rfl) (by decide) (by decide) ?_
                  intro g2 c2 w6 hr2 hg2 hk2
                  have hB6 := below_kf hB5 rfl hz1 (hk2 (fun k => k = g1) (fun j hj => (onB_some _ _).1 hj))
                  have hz2 : W4.heap.size ≤ g2 := by
                    have := hB5.size
                    rcases hg2 with e | e
                    · rw [onB_some] at e; exact Nat.le_trans hz1 (Nat.le_of_eq e.symm)
                    · omega
                  obtain ⟨x1, x2, x3⟩ := HCE.out w6 hB6
                  refine hK _ _ ?_; clear hK K
                  refine wpAny_take (i := 11) (v := ?_) rfl (by kernel_rfl) (by kernel_rfl) (by kernel_rfl) (fun _ _ _ h => h) (Or.inl ⟨by kernel_rfl, ?_⟩) ?_
                  rotate_left 1
                  · (intro w; go_simp <;> with_reducible rfl)
                  refine wpAny_ready (rs := [12]) (by kernel_rfl) (by simp) ?_
                  refine AllReady.cons rfl (fun K hK => ?_) ?_
                  ·
                    go_simp
                    refine hK _ _ ?_; clear hK K
                    refine wpAny_done (by kernel_rfl) ?_ _
                    go_wp2_with fail; go_meet; subst hz5; exact fin_of z4 HB4.out hB6 HG0.out HG1.out hr2 hz2
                  exact AllReady.nil
                exact AllReady.nil
              exact AllReady.nil
            exact AllReady.nil
          exact AllReady.nil
        refine AllReady.cons rfl (fun K hK => ?_) ?_
        ·
          go_simp
          refine hK _ _ ?_; clear hK K
          refine wpAny_take (i := 8) (v := ?_) rfl (by kernel_rfl) (by kernel_rfl) (by kernel_rfl) (fun _ _ _ h => h) (Or.inl ⟨by kernel_rfl, ?_⟩) ?_
          rotate_left 1
          · (intro w; go_simp <;> with_reducible rfl)
          refine wpAny_ready (rs := [0, 9]) (by kernel_rfl) (by simp) ?_
          refine AllReady.cons rfl (fun K hK => ?_) ?_
          ·
            go_simp
            refine hK _ _ ?_; clear hK K
            refine wpAny_ready (rs := [3, 9]) (by kernel_rfl) (by simp) ?_
            refine AllReady.cons rfl (fun K hK => ?_) ?_
            ·
              refine step_append_src _ rfl _ _ 34 46 rfl Try.underlying34 info_fent rfl (by decide) (by decide) W4.heap.size 0 0 (fun _ => .int .i64 0) rfl (rowA W4) (by omega) A L.length c (enC L) rfl (SlV.alloc HEnd.out _) (enC_one L) (by omega) ?_
              intro g1 c1 w5 hr1 hg1 hk1
              have hR1 : RowV 46 3 w5 g1 L.length c1 (enC L) := ent_same hr1
              have hB5 := below_kf (belowA W4 _) rfl (by omega) hk1
              have hz1 : W4.heap.size ≤ g1 := by
                rcases hg1 with e | e
                · omega
                · simp at e; omega
              obtain ⟨y1, y2, y3⟩ := HCE.out w5 hB5
              clear hr1 hg1 hk1
              rw [Nat.zero_add]
              refine hK _ _ ?_; clear hK K
              refine wpAny_ready (rs := [9]) (by kernel_rfl) (by simp) ?_
              refine AllReady.cons rfl (fun K hK => ?_) ?_
              ·
                go_simp
                refine hK _ _ ?_; clear hK K
                refine wpAny_ready (rs := [10]) (by kernel_rfl) (by simp) ?_
                refine AllReady.cons rfl (fun K hK => ?_) ?_
                ·
                  refine step_append_sl _ rfl _ _ 34 46 rfl Try.underlying34 info_fent rfl (by decide) (by decide) (some ⟨g1, 0, none⟩) L.length c1 (enC L) rfl (.inr ⟨g1, rfl, hR1.alloc _⟩) (by omega) ⟨w5.heap.size, 0, none⟩ 1 1 [.int .i32 l, .int .i64 (d : Int), .int .i64 r] rfl rfl (box_news w5 46 [.int .i32 l, .int .i64 (d : Int), .int .i64 r]) (by intro u hu; simp at hu; rcases hu with rfl | rfl | rfl <;> rfl) (by decide) (by decide) ?_
                  intro g2 c2 w6 hr2 hg2 hk2
                  have hB6 := below_kf (hB5.alloc (by have := hB5.size; omega) _) rfl hz1 (hk2 (fun k => k = g1) (fun j hj => (onB_some _ _).1 hj))
                  have hz2 : W4.heap.size ≤ g2 := by
                    have := hB5.size
                    rcases hg2 with e | e
                    · rw [onB_some] at e; exact Nat.le_trans hz1 (Nat.le_of_eq e.symm)
                    · simp at e; omega
                  obtain ⟨x1, x2, x3⟩ := HCE.out w6 hB6
                  refine hK _ _ ?_; clear hK K
                  refine wpAny_take (i := 11) (v := ?_) rfl (by kernel_rfl) (by kernel_rfl) (by kernel_rfl) (fun _ _ _ h => h) (Or.inl ⟨by kernel_rfl, ?_⟩) ?_
                  rotate_left 1
                  · (intro w; go_simp <;> with_reducible rfl)
                  refine wpAny_ready (rs := [12]) (by kernel_rfl) (by simp) ?_
                  refine AllReady.cons rfl (fun K hK => ?_) ?_
                  ·
                    go_simp
                    refine hK _ _ ?_; clear hK K
                    refine wpAny_done (by kernel_rfl) ?_ _
                    go_wp2_with fail; go_meet; subst hz5; exact fin_of z4 HB4.out hB6 HG0.out HG1.out hr2 hz2
                  exact AllReady.nil
                exact AllReady.nil
              exact AllReady.nil
            refine AllReady.cons rfl (fun K hK => ?_) ?_
            ·
              go_simp
              refine hK _ _ ?_; clear hK K
              refine wpAny_ready (rs := [3]) (by kernel_rfl) (by simp) ?_
              refine AllReady.cons rfl (fun K hK => ?_) ?_
              ·
                refine step_append_src _ rfl _ _ 34 46 rfl Try.underlying34 info_fent rfl (by decide) (by decide) W4.heap.size 0 0 (fun _ => .int .i64 0) rfl ((rowA W4).alloc _) (by omega) A L.length c (enC L) rfl (SlV.alloc (SlV.alloc HEnd.out _) _) (enC_one L) (by omega) ?_
                intro g1 c1 w5 hr1 hg1 hk1
                have hR1 : RowV 46 3 w5 g1 L.length c1 (enC L) := ent_same hr1
                have hB5 := below_kf (belowB W4 _ _) rfl (by omega) hk1
                have hz1 : W4.heap.size ≤ g1 := by
                  rcases hg1 with e | e
                  · omega
                  · simp at e; omega
                have hbx := box_in ((hk1.block (W4.heap.size + 1) (by simp) (by simp)).trans (boxB W4 _ _))
                obtain ⟨y1, y2, y3⟩ := HCE.out w5 hB5
                clear hr1 hg1 hk1
                rw [Nat.zero_add]
                refine hK _ _ ?_; clear hK K
                refine wpAny_ready (rs := [10]) (by kernel_rfl) (by simp) ?_
                refine AllReady.cons rfl (fun K hK => ?_) ?_
                ·
                  refine step_append_sl _ rfl _ _ 34 46 rfl Try.underlying34 info_fent rfl (by decide) (by decide) (some ⟨g1, 0, none⟩) L.length c1 (enC L) rfl (.inr ⟨g1, rfl, hR1⟩) (by omega) ⟨(W4.heap.size + 1), 0, none⟩ 1 1 [.int .i32 l, .int .i64 (d : Int), .int .i64 r] rfl rfl (hbx) (by intro u hu; simp at hu; rcases hu with rfl | rfl | rfl <;> rfl) (by decide) (by decide) ?_
                  intro g2 c2 w6 hr2 hg2 hk2
                  have hB6 := below_kf hB5 rfl hz1 (hk2 (fun k => k = g1) (fun j hj => (onB_some _ _).1 hj))
                  have hz2 : W4.heap.size ≤ g2 := by
                    have := hB5.size
                    rcases hg2 with e | e
                    · rw [onB_some] at e; exact Nat.le_trans hz1 (Nat.le_of_eq e.symm)
                    · omega
                  obtain ⟨x1, x2, x3⟩ := HCE.out w6 hB6
                  refine hK _ _ ?_; clear hK K
                  refine wpAny_take (i := 11) (v := ?_) rfl (by kernel_rfl) (by kernel_rfl) (by kernel_rfl) (fun _ _ _ h => h) (Or.inl ⟨by kernel_rfl, ?_⟩) ?_
                  rotate_left 1
                  · (intro w; go_simp <;> with_reducible rfl)
                  refine wpAny_ready (rs := [12]) (by kernel_rfl) (by simp) ?_
                  refine AllReady.cons rfl (fun K hK => ?_) ?_
                  ·
                    go_simp
                    refine hK _ _ ?_; clear hK K
                    refine wpAny_done (by kernel_rfl) ?_ _
                    go_wp2_with fail; go_meet; subst hz5; exact fin_of z4 HB4.out hB6 HG0.out HG1.out hr2 hz2
                  exact AllReady.nil
                exact AllReady.nil
              exact AllReady.nil
            exact AllReady.nil
          refine AllReady.cons rfl (fun K hK => ?_) ?_
          ·
            go_simp
            refine hK _ _ ?_; clear hK K
            refine wpAny_ready (rs := [0]) (by kernel_rfl) (by simp) ?_
            refine AllReady.cons rfl (fun K hK => ?_) ?_
            ·
              go_simp
              refine hK _ _ ?_; clear hK K
              refine wpAny_ready (rs := [3]) (by kernel_rfl) (by simp) ?_
              refine AllReady.cons rfl (fun K hK => ?_) ?_
              ·
                refine step_append_src _ rfl _ _ 34 46 rfl Try.underlying34 info_fent rfl (by decide) (by decide) (W4.heap.size + 1) 0 0 (fun _ => .int .i64 0) rfl (rowC W4 _) (by omega) A L.length c (enC L) rfl (SlV.alloc (SlV.alloc HEnd.out _) _) (enC_one L) (by omega) ?_
                intro g1 c1 w5 hr1 hg1 hk1
                have hR1 : RowV 46 3 w5 g1 L.length c1 (enC L) := ent_same hr1
                have hB5 := below_kf (belowB W4 _ _) rfl (by omega) hk1
                have hz1 : W4.heap.size ≤ g1 := by
                  rcases hg1 with e | e
                  · omega
                  · simp at e; omega
                have hbx := box_in ((hk1.block W4.heap.size (by simp; omega) (by simp)).trans (boxC W4 _ _))
                obtain ⟨y1, y2, y3⟩ := HCE.out w5 hB5
                clear hr1 hg1 hk1
                rw [Nat.zero_add]
                refine hK _ _ ?_; clear hK K
                refine wpAny_ready (rs := [10]) (by kernel_rfl) (by simp) ?_
                refine AllReady.cons rfl (fun K hK => ?_) ?_
                ·
                  refine step_append_sl _ rfl _ _ 34 46 rfl Try.underlying34 info_fent rfl (by decide) (by decide) (some ⟨g1, 0, none⟩) L.length c1 (enC L) rfl (.inr ⟨g1, rfl, hR1⟩) (by omega) ⟨W4.heap.size, 0, none⟩ 1 1 [.int .i32 l, .int .i64 (d : Int), .int .i64 r] rfl rfl (hbx) (by intro u hu; simp at hu; rcases hu with rfl | rfl | rfl <;> rfl) (by decide) (by decide) ?_
                  intro g2 c2 w6 hr2 hg2 hk2
                  have hB6 := below_kf hB5 rfl hz1 (hk2 (fun k => k = g1) (fun j hj => (onB_some _ _).1 hj))
                  have hz2 : W4.heap.size ≤ g2 := by
                    have := hB5.size
                    rcases hg2 with e | e
                    · rw [onB_some] at e; exact Nat.le_trans hz1 (Nat.le_of_eq e.symm)
                    · omega
                  obtain ⟨x1, x2, x3⟩ := HCE.out w6 hB6
                  refine hK _ _ ?_; clear hK K
                  refine wpAny_take (i := 11) (v := ?_) rfl (by kernel_rfl) (by kernel_rfl) (by kernel_rfl) (fun _ _ _ h => h) (Or.inl ⟨by kernel_rfl, ?_⟩) ?_
                  rotate_left 1
                  · (intro w; go_simp <;> with_reducible rfl)
                  refine wpAny_ready (rs := [12]) (by kernel_rfl) (by simp) ?_
                  refine AllReady.cons rfl (fun K hK => ?_) ?_
                  ·
                    go_simp
                    refine hK _ _ ?_; clear hK K
                    refine wpAny_done (by kernel_rfl) ?_ _
                    go_wp2_with fail; go_meet; subst hz5; exact fin_of z4 HB4.out hB6 HG0.out HG1.out hr2 hz2
                  exact AllReady.nil
                exact AllReady.nil
              exact AllReady.nil
            exact AllReady.nil
          exact AllReady.nil
        exact AllReady.nil
      refine AllReady.cons rfl (fun K hK => ?_) ?_
      ·
        go_simp
        refine hK _ _ ?_; clear hK K
        refine wpAny_take (i := 8) (v := ?_) rfl (by kernel_rfl) (by kernel_rfl) (by kernel_rfl) (fun _ _ _ h => h) (Or.inl ⟨by kernel_rfl, ?_⟩) ?_
        rotate_left 1
        · (intro w; go_simp <;> with_reducible rfl)
        refine wpAny_ready (rs := [0, 2, 9]) (by kernel_rfl) (by simp) ?_
        refine AllReady.cons rfl (fun K hK => ?_) ?_
        ·
          go_simp
          refine hK _ _ ?_; clear hK K
          refine wpAny_ready (rs := [2, 9]) (by kernel_rfl) (by simp) ?_
          refine AllReady.cons rfl (fun K hK => ?_) ?_
          ·
            obtain ⟨v1, v2, v3⟩ := HCE.out (W4.alloc (.cells #[] 46)) ((Below.refl _ _).alloc (Nat.le_refl _) _)
            go_simp
            refine hK _ _ ?_; clear hK K
            refine wpAny_ready (rs := [3, 9]) (by kernel_rfl) (by simp) ?_
            refine AllReady.cons rfl (fun K hK => ?_) ?_
            ·
              refine step_append_src _ rfl _ _ 34 46 rfl Try.underlying34 info_fent rfl (by decide) (by decide) W4.heap.size 0 0 (fun _ => .int .i64 0) rfl (rowA W4) (by omega) A L.length c (enC L) rfl (SlV.alloc HEnd.out _) (enC_one L) (by omega) ?_
              intro g1 c1 w5 hr1 hg1 hk1
              have hR1 : RowV 46 3 w5 g1 L.length c1 (enC L) := ent_same hr1
              have hB5 := below_kf (belowA W4 _) rfl (by omega) hk1
              have hz1 : W4.heap.size ≤ g1 := by
                rcases hg1 with e | e
                · omega
                · simp at e; omega
              obtain ⟨y1, y2, y3⟩ := HCE.out w5 hB5
              clear hr1 hg1 hk1
              rw [Nat.zero_add]
              refine hK _ _ ?_; clear hK K
              refine wpAny_ready (rs := [9]) (by kernel_rfl) (by simp) ?_
              refine AllReady.cons rfl (fun K hK => ?_) ?_
              ·
                go_simp
                refine hK _ _ ?_; clear hK K
                refine wpAny_ready (rs := [10]) (by kernel_rfl) (by simp) ?_
                refine AllReady.cons rfl (fun K hK => ?_) ?_
                ·
                  refine step_append_sl _ rfl _ _ 34 46 rfl Try.underlying34 info_fent rfl (by decide) (by decide) (some ⟨g1, 0, none⟩) L.length c1 (enC L) rfl (.inr ⟨g1, rfl, hR1.alloc _⟩) (by omega) ⟨w5.heap.size, 0, none⟩ 1 1 [.int .i32 l, .int .i64 (d : Int), .int .i64 r] rfl rfl (box_news w5 46 [.int .i32 l, .int .i64 (d : Int), .int .i64 r]) (by intro u hu; simp at hu; rcases hu with rfl | rfl | rfl <;> rfl) (by decide) (by decide) ?_
                  intro g2 c2 w6 hr2 hg2 hk2
                  have hB6 := below_kf (hB5.alloc (by have := hB5.size; omega) _) rfl hz1 (hk2 (fun k => k = g1) (fun j hj => (onB_some _ _).1 hj))
                  have hz2 : W4.heap.size ≤ g2 := by
                    have := hB5.size
                    rcases hg2 with e | e
                    · rw [onB_some] at e; exact Nat.le_trans hz1 (Nat.le_of_eq e.symm)
                    · simp at e; omega
                  obtain ⟨x1, x2, x3⟩ := HCE.out w6 hB6
                  refine hK _ _ ?_; clear hK K
                  refine wpAny_take (i := 11) (v := ?_) rfl (by kernel_rfl) (by kernel_rfl) (by kernel_rfl) (fun _ _ _ h => h) (Or.inl ⟨by kernel_rfl, ?_⟩) ?_
                  rotate_left 1
                  · (intro w; go_simp <;> with_reducible rfl)
                  refine wpAny_ready (rs := [12]) (by kernel_rfl) (by simp) ?_
                  refine AllReady.cons rfl (fun K hK => ?_) ?_
                  ·
                    go_simp
                    refine hK _ _ ?_; clear hK K
                    refine wpAny_done (by kernel_rfl) ?_ _
                    go_wp2_with fail; go_meet; subst hz5; exact fin_of z4 HB4.out hB6 HG0.out HG1.out hr2 hz2
                  exact AllReady.nil
                exact AllReady.nil
              exact AllReady.nil
            refine AllReady.cons rfl (fun K hK => ?_) ?_
            ·
              go_simp
              refine hK _ _ ?_; clear hK K
              refine wpAny_ready (rs := [3]) (by kernel_rfl) (by simp) ?_
              refine AllReady.cons rfl (fun K hK => ?_) ?_
              ·
                refine step_append_src _ rfl _ _ 34 46 rfl Try.underlying34 info_fent rfl (by decide) (by decide) W4.heap.size 0 0 (fun _ => .int .i64 0) rfl ((rowA W4).alloc _) (by omega) A L.length c (enC L) rfl (SlV.alloc (SlV.alloc HEnd.out _) _) (enC_one L) (by omega) ?_
                intro g1 c1 w5 hr1 hg1 hk1
                have hR1 : RowV 46 3 w5 g1 L.length c1 (enC L) := ent_same hr1
                have hB5 := below_kf (belowB W4 _ _) rfl (by omega) hk1
                have hz1 : W4.heap.size ≤ g1 := by
                  rcases hg1 with e | e
                  · omega
                  · simp at e; omega
                have hbx := box_in ((hk1.block (W4.heap.size + 1) (by simp) (by simp)).trans (boxB W4 _ _))
                obtain ⟨y1, y2, y3⟩ := HCE.out w5 hB5
                clear hr1 hg1 hk1
                rw [Nat.zero_add]
                refine hK _ _ ?_; clear hK K
                refine wpAny_ready (rs := [10]) (by kernel_rfl) (by simp) ?_
                refine AllReady.cons rfl (fun K hK => ?_) ?_
                ·
                  refine step_append_sl _ rfl _ _ 34 46 rfl Try.underlying34 info_fent rfl (by decide) (by decide) (some ⟨g1, 0, none⟩) L.length c1 (enC L) rfl (.inr ⟨g1, rfl, hR1⟩) (by omega) ⟨(W4.heap.size + 1), 0, none⟩ 1 1 [.int .i32 l, .int .i64 (d : Int), .int .i64 r] rfl rfl (hbx) (by intro u hu; simp at hu; rcases hu with rfl | rfl | rfl <;> rfl) (by decide) (by decide) ?_
                  intro g2 c2 w6 hr2 hg2 hk2
                  have hB6 := below_kf hB5 rfl hz1 (hk2 (fun k => k = g1) (fun j hj => (onB_some _ _).1 hj))
                  have hz2 : W4.heap.size ≤ g2 := by
                    have := hB5.size
                    rcases hg2 with e | e
                    · rw [onB_some] at e; exact Nat.le_trans hz1 (Nat.le_of_eq e.symm)
                    · omega
                  obtain ⟨x1, x2, x3⟩ := HCE.out w6 hB6
                  refine hK _ _ ?_; clear hK K
                  refine wpAny_take (i := 11) (v := ?_) rfl (by kernel_rfl) (by kernel_rfl) (by kernel_rfl) (fun _ _ _ h => h) (Or.inl ⟨by kernel_rfl, ?_⟩) ?_
                  rotate_left 1
                  · (intro w; go_simp <;> with_reducible rfl)
                  refine wpAny_ready (rs := [12]) (by kernel_rfl) (by simp) ?_
                  refine AllReady.cons rfl (fun K hK => ?_) ?_
                  ·
                    go_simp
                    refine hK _ _ ?_; clear hK K
                    refine wpAny_done (by kernel_rfl) ?_ _
                    go_wp2_with fail; go_meet; subst hz5; exact fin_of z4 HB4.out hB6 HG0.out HG1.out hr2 hz2
                  exact AllReady.nil
                exact AllReady.nil
              exact AllReady.nil
            exact AllReady.nil
          refine AllReady.cons rfl (fun K hK => ?_) ?_
          ·
            go_simp
            refine hK _ _ ?_; clear hK K
            refine wpAny_ready (rs := [2]) (by kernel_rfl) (by simp) ?_
            refine AllReady.cons rfl (fun K hK => ?_) ?_
            ·
              obtain ⟨v1, v2, v3⟩ := HCE.out ((W4.alloc (.cells #[] 46)).alloc (.cells #[.int .i32 l, .int .i64 (d : Int), .int .i64 r] 46)) (((Below.refl _ _).alloc (Nat.le_refl _) _).alloc (by simp) _)
              go_simp
              refine hK _ _ ?_; clear hK K
              refine wpAny_ready (rs := [3]) (by kernel_rfl) (by simp) ?_
              refine AllReady.cons rfl (fun K hK => ?_) ?_
              ·
                refine step_append_src _ rfl _ _ 34 46 rfl Try.underlying34 info_fent rfl (by decide) (by decide) W4.heap.size 0 0 (fun _ => .int .i64 0) rfl ((rowA W4).alloc _) (by omega) A L.length c (enC L) rfl (SlV.alloc (SlV.alloc HEnd.out _) _) (enC_one L) (by omega) ?_
                intro g1 c1 w5 hr1 hg1 hk1
                have hR1 : RowV 46 3 w5 g1 L.length c1 (enC L) := ent_same hr1
                have hB5 := below_kf (belowB W4 _ _) rfl (by omega) hk1
                have hz1 : W4.heap.size ≤ g1 := by
                  rcases hg1 with e | e
                  · omega
                  · simp at e; omega
                have hbx := box_in ((hk1.block (W4.heap.size + 1) (by simp) (by simp)).trans (boxB W4 _ _))
                obtain ⟨y1, y2, y3⟩ := HCE.out w5 hB5
                clear hr1 hg1 hk1
                rw [Nat.zero_add]
                refine hK _ _ ?_; clear hK K
                refine wpAny_ready (rs := [10]) (by kernel_rfl) (by simp) ?_
                refine AllReady.cons rfl (fun K hK => ?_) ?_
                ·
                  refine step_append_sl _ rfl _ _ 34 46 rfl Try.underlying34 info_fent rfl (by decide) (by decide) (some ⟨g1, 0, none⟩) L.length c1 (enC L) rfl (.inr ⟨g1, rfl, hR1⟩) (by omega) ⟨(W4.heap.size + 1), 0, none⟩ 1 1 [.int .i32 l, .int .i64 (d : Int), .int .i64 r] rfl rfl (hbx) (by intro u hu; simp at hu; rcases hu with rfl | rfl | rfl <;> rfl) (by decide) (by decide) ?_
                  intro g2 c2 w6 hr2 hg2 hk2
                  have hB6 := below_kf hB5 rfl hz1 (hk2 (fun k => k = g1) (fun j hj => (onB_some _ _).1 hj))
                  have hz2 : W4.heap.size ≤ g2 := by
                    have := hB5.size
                    rcases hg2 with e | e
                    · rw [onB_some] at e; exact Nat.le_trans hz1 (Nat.le_of_eq e.symm)
                    · omega
                  obtain ⟨x1, x2, x3⟩ := HCE.out w6 hB6
                  refine hK _ _ ?_; clear hK K
                  refine wpAny_take (i := 11) (v := ?_) rfl (by kernel_rfl) (by kernel_rfl) (by kernel_rfl) (fun _ _ _ h => h) (Or.inl ⟨by kernel_rfl, ?_⟩) ?_
                  rotate_left 1
                  · (intro w; go_simp <;> with_reducible rfl)
                  refine wpAny_ready (rs := [12]) (by kernel_rfl) (by simp) ?_
                  refine AllReady.cons rfl (fun K hK => ?_) ?_
                  ·
                    go_simp
                    refine hK _ _ ?_; clear hK K
                    refine wpAny_done (by kernel_rfl) ?_ _
                    go_wp2_with fail; go_meet; subst hz5; exact fin_of z4 HB4.out hB6 HG0.out HG1.out hr2 hz2
                  exact AllReady.nil
                exact AllReady.nil
              exact AllReady.nil
            exact AllReady.nil
          exact AllReady.nil
        refine AllReady.cons rfl (fun K hK => ?_) ?_
        ·
          go_simp
          refine hK _ _ ?_; clear hK K
          refine wpAny_ready (rs := [0, 9]) (by kernel_rfl) (by simp) ?_
          refine AllReady.cons rfl (fun K hK => ?_) ?_
          ·
            go_simp
            refine hK _ _ ?_; clear hK K
            refine wpAny_ready (rs := [3, 9]) (by kernel_rfl) (by simp) ?_
            refine AllReady.cons rfl (fun K hK => ?_) ?_
            ·
              refine step_append_src _ rfl _ _ 34 46 rfl Try.underlying34 info_fent rfl (by decide) (by decide) W4.heap.size 0 0 (fun _ => .int .i64 0) rfl (rowA W4) (by omega) A L.length c (enC L) rfl (SlV.alloc HEnd.out _) (enC_one L) (by omega) ?_
              intro g1 c1 w5 hr1 hg1 hk1
              have hR1 : RowV 46 3 w5 g1 L.length c1 (enC L) := ent_same hr1
              have hB5 := below_kf (belowA W4 _) rfl (by omega) hk1
              have hz1 : W4.heap.size ≤ g1 := by
                rcases hg1 with e | e
                · omega
                · simp at e; omega
              obtain ⟨y1, y2, y3⟩ := HCE.out w5 hB5
              clear hr1 hg1 hk1
              rw [Nat.zero_add]
              refine hK _ _ ?_; clear hK K
              refine wpAny_ready (rs := [9]) (by kernel_rfl) (by simp) ?_
              refine AllReady.cons rfl (fun K hK => ?_) ?_
              ·
                go_simp
                refine hK _ _ ?_; clear hK K
                refine wpAny_ready (rs := [10]) (by kernel_rfl) (by simp) ?_
                refine AllReady.cons rfl (fun K hK => ?_) ?_
                ·
                  refine step_append_sl _ rfl _ _ 34 46 rfl Try.underlying34 info_fent rfl (by decide) (by decide) (some ⟨g1, 0, none⟩) L.length c1 (enC L) rfl (.inr ⟨g1, rfl, hR1.alloc _⟩) (by omega) ⟨w5.heap.size, 0, none⟩ 1 1 [.int .i32 l, .int .i64 (d : Int), .int .i64 r] rfl rfl (box_news w5 46 [.int .i32 l, .int .i64 (d : Int), .int .i64 r]) (by intro u hu; simp at hu; rcases hu with rfl | rfl | rfl <;> rfl) (by decide) (by decide) ?_
                  intro g2 c2 w6 hr2 hg2 hk2
                  have hB6 := below_kf (hB5.alloc (by have := hB5.size; omega) _) rfl hz1 (hk2 (fun k => k = g1) (fun j hj => (onB_some _ _).1 hj))
                  have hz2 : W4.heap.size ≤ g2 := by
                    have := hB5.size
                    rcases hg2 with e | e
                    · rw [onB_some] at e; exact Nat.le_trans hz1 (Nat.le_of_eq e.symm)
                    · simp at e; omega
                  obtain ⟨x1, x2, x3⟩ := HCE.out w6 hB6
                  refine hK _ _ ?_; clear hK K
                  refine wpAny_take (i := 11) (v := ?_) rfl (by kernel_rfl) (by kernel_rfl) (by kernel_rfl) (fun _ _ _ h => h) (Or.inl ⟨by kernel_rfl, ?_⟩) ?_
                  rotate_left 1
                  · (intro w; go_simp <;> with_reducible rfl)
                  refine wpAny_ready (rs := [12]) (by kernel_rfl) (by simp) ?_
                  refine AllReady.cons rfl (fun K hK => ?_) ?_
                  ·
                    go_simp
                    refine hK _ _ ?_; clear hK K
                    refine wpAny_done (by kernel_rfl) ?_ _
                    go_wp2_with fail; go_meet; subst hz5; exact fin_of z4 HB4.out hB6 HG0.out HG1.out hr2 hz2
                  exact AllReady.nil
                exact AllReady.nil
              exact AllReady.nil
            refine AllReady.cons rfl (fun K hK => ?_) ?_
            ·
              go_simp
              refine hK _ _ ?_; clear hK K
              refine wpAny_ready (rs := [3]) (by kernel_rfl) (by simp) ?_
              refine AllReady.cons rfl (fun K hK => ?_) ?_
              ·
                refine step_append_src _ rfl _ _ 34 46 rfl Try.underlying34 info_fent rfl (by decide) (by decide) W4.heap.size 0 0 (fun _ => .int .i64 0) rfl ((rowA W4).alloc _) (by omega) A L.length c (enC L) rfl (SlV.alloc (SlV.alloc HEnd.out _) _) (enC_one L) (by omega) ?_
                intro g1 c1 w5 hr1 hg1 hk1
                have hR1 : RowV 46 3 w5 g1 L.length c1 (enC L) := ent_same hr1
                have hB5 := below_kf (belowB W4 _ _) rfl (by omega) hk1
                have hz1 : W4.heap.size ≤ g1 := by
                  rcases hg1 with e | e
                  · omega
                  · simp at e; omega
                have hbx := box_in ((hk1.block (W4.heap.size + 1) (by simp) (by simp)).trans (boxB W4 _ _))
                obtain ⟨y1, y2, y3⟩ := HCE.out w5 hB5
                clear hr1 hg1 hk1
                rw [Nat.zero_add]
                refine hK _ _ ?_; clear hK K
                refine wpAny_ready (rs := [10]) (by kernel_rfl) (by simp) ?_
                refine AllReady.cons rfl (fun K hK => ?_) ?_
                ·
                  refine step_append_sl _ rfl _ _ 34 46 rfl Try.underlying34 info_fent rfl (by decide) (by decide) (some ⟨g1, 0, none⟩) L.length c1 (enC L) rfl (.inr ⟨g1, rfl, hR1⟩) (by omega) ⟨(W4.heap.size + 1), 0, none⟩ 1 1 [.int .i32 l, .int .i64 (d : Int), .int .i64 r] rfl rfl (hbx) (by intro u hu; simp at hu; rcases hu with rfl | rfl | rfl <;> rfl) (by decide) (by decide) ?_
                  intro g2 c2 w6 hr2 hg2 hk2
                  have hB6 := below_kf hB5 rfl hz1 (hk2 (fun k => k = g1) (fun j hj => (onB_some _ _).1 hj))
                  have hz2 : W4.heap.size ≤ g2 := by
                    have := hB5.size
                    rcases hg2 with e | e
                    · rw [onB_some] at e; exact Nat.le_trans hz1 (Nat.le_of_eq e.symm)
                    · omega
                  obtain ⟨x1, x2, x3⟩ := HCE.out w6 hB6
                  refine hK _ _ ?_; clear hK K
                  refine wpAny_take (i := 11) (v := ?_) rfl (by kernel_rfl) (by kernel_rfl) (by kernel_rfl) (fun _ _ _ h => h) (Or.inl ⟨by kernel_rfl, ?_⟩) ?_
                  rotate_left 1
                  · (intro w; go_simp <;> with_reducible rfl)
                  refine wpAny_ready (rs := [12]) (by kernel_rfl) (by simp) ?_
                  refine AllReady.cons rfl (fun K hK => ?_) ?_
                  ·
                    go_simp
                    refine hK _ _ ?_; clear hK K
                    refine wpAny_done (by kernel_rfl) ?_ _
                    go_wp2_with fail; go_meet; subst hz5; exact fin_of z4 HB4.out hB6 HG0.out HG1.out hr2 hz2
                  exact AllReady.nil
                exact AllReady.nil
              exact AllReady.nil
            exact AllReady.nil
          refine AllReady.cons rfl (fun K hK => ?_) ?_
          ·
            go_simp
            refine hK _ _ ?_; clear hK K
            refine wpAny_ready (rs := [0]) (by kernel_rfl) (by simp) ?_
            refine AllReady.cons rfl (fun K hK => ?_) ?_
            ·
              go_simp
              refine hK _ _ ?_; clear hK K
              refine wpAny_ready (rs := [3]) (by kernel_rfl) (by simp) ?_
              refine AllReady.cons rfl (fun K hK => ?_) ?_
              ·
                refine step_append_src _ rfl _ _ 34 46 rfl Try.underlying34 info_fent rfl (by decide) (by decide) (W4.heap.size + 1) 0 0 (fun _ => .int .i64 0) rfl (rowC W4 _) (by omega) A L.length c (enC L) rfl (SlV.alloc (SlV.alloc HEnd.out _) _) (enC_one L) (by omega) ?_
                intro g1 c1 w5 hr1 hg1 hk1
                have hR1 : RowV 46 3 w5 g1 L.length c1 (enC L) := ent_same hr1
                have hB5 := below_kf (belowB W4 _ _) rfl (by omega) hk1
                have hz1 : W4.heap.size ≤ g1 := by
                  rcases hg1 with e | e
                  · omega
                  · simp at e; omega
                have hbx := box_in ((hk1.block W4.heap.size (by simp; omega) (by simp)).trans (boxC W4 _ _))
                obtain ⟨y1, y2, y3⟩ := HCE.out w5 hB5
                clear hr1 hg1 hk1
                rw [Nat.zero_add]
                refine hK _ _ ?_; clear hK K
                refine wpAny_ready (rs := [10]) (by kernel_rfl) (by simp) ?_
                refine AllReady.cons rfl (fun K hK => ?_) ?_
                ·
                  refine step_append_sl _ rfl _ _ 34 46 rfl Try.underlying34 info_fent rfl (by decide) (by decide) (some ⟨g1, 0, none⟩) L.length c1 (enC L) rfl (.inr ⟨g1, rfl, hR1⟩) (by omega) ⟨W4.heap.size, 0, none⟩ 1 1 [.int .i32 l, .int .i64 (d : Int), .int .i64 r] rfl rfl (hbx) (by intro u hu; simp at hu; rcases hu with rfl | rfl | rfl <;> rfl) (by decide) (by decide) ?_
                  intro g2 c2 w6 hr2 hg2 hk2
                  have hB6 := below_kf hB5 rfl hz1 (hk2 (fun k => k = g1) (fun j hj => (onB_some _ _).1 hj))
                  have hz2 : W4.heap.size ≤ g2 := by
                    have := hB5.size
                    rcases hg2 with e | e
                    · rw [onB_some] at e; exact Nat.le_trans hz1 (Nat.le_of_eq e.symm)
                    · omega
                  obtain ⟨x1, x2, x3⟩ := HCE.out w6 hB6
                  refine hK _ _ ?_; clear hK K
                  refine wpAny_take (i := 11) (v := ?_) rfl (by kernel_rfl) (by kernel_rfl) (by kernel_rfl) (fun _ _ _ h => h) (Or.inl ⟨by kernel_rfl, ?_⟩) ?_
                  rotate_left 1
                  · (intro w; go_simp <;> with_reducible rfl)
                  refine wpAny_ready (rs := [12]) (by kernel_rfl) (by simp) ?_
                  refine AllReady.cons rfl (fun K hK => ?_) ?_
                  ·
                    go_simp
                    refine hK _ _ ?_; clear hK K
                    refine wpAny_done (by kernel_rfl) ?_ _
                    go_wp2_with fail; go_meet; subst hz5; exact fin_of z4 HB4.out hB6 HG0.out HG1.out hr2 hz2
                  exact AllReady.nil
                exact AllReady.nil
              exact AllReady.nil
            exact AllReady.nil
          exact AllReady.nil
        refine AllReady.cons rfl (fun K hK => ?_) ?_
        ·
          go_simp
          refine hK _ _ ?_; clear hK K
          refine wpAny_ready (rs := [0, 2]) (by kernel_rfl) (by simp) ?_
          refine AllReady.cons rfl (fun K hK => ?_) ?_
          ·
            go_simp
            refine hK _ _ ?_; clear hK K
            refine wpAny_ready (rs := [2]) (by kernel_rfl) (by simp) ?_
            refine AllReady.cons rfl (fun K hK => ?_) ?_
            ·
              obtain ⟨v1, v2, v3⟩ := HCE.out ((W4.alloc (.cells #[.int .i32 l, .int .i64 (d : Int), .int .i64 r] 46)).alloc (.cells #[] 46)) (((Below.refl _ _).alloc (Nat.le_refl _) _).alloc (by simp) _)
              go_simp
              refine hK _ _ ?_; clear hK K
              refine wpAny_ready (rs := [3]) (by kernel_rfl) (by simp) ?_
              refine AllReady.cons rfl (fun K hK => ?_) ?_
              ·
                refine step_append_src _ rfl _ _ 34 46 rfl Try.underlying34 info_fent rfl (by decide) (by decide) (W4.heap.size + 1) 0 0 (fun _ => .int .i64 0) rfl (rowC W4 _) (by omega) A L.length c (enC L) rfl (SlV.alloc (SlV.alloc HEnd.out _) _) (enC_one L) (by omega) ?_
                intro g1 c1 w5 hr1 hg1 hk1
                have hR1 : RowV 46 3 w5 g1 L.length c1 (enC L) := ent_same hr1
                have hB5 := below_kf (belowB W4 _ _) rfl (by omega) hk1
                have hz1 : W4.heap.size ≤ g1 := by
                  rcases hg1 with e | e
                  · omega
                  · simp at e; omega
                have hbx := box_in ((hk1.block W4.heap.size (by simp; omega) (by simp)).trans (boxC W4 _ _))
                obtain ⟨y1, y2, y3⟩ := HCE.out w5 hB5
                clear hr1 hg1 hk1
                rw [Nat.zero_add]
                refine hK _ _ ?_; clear hK K
                refine wpAny_ready (rs := [10]) (by kernel_rfl) (by simp) ?_
                refine AllReady.cons rfl (fun K hK => ?_) ?_
                ·
                  refine step_append_sl _ rfl _ _ 34 46 rfl Try.underlying34 info_fent rfl (by decide) (by decide) (some ⟨g1, 0, none⟩) L.length c1 (enC L) rfl (.inr ⟨g1, rfl, hR1⟩) (by omega) ⟨W4.heap.size, 0, none⟩ 1 1 [.int .i32 l, .int .i64 (d : Int), .int .i64 r] rfl rfl (hbx) (by intro u hu; simp at hu; rcases hu with rfl | rfl | rfl <;> rfl) (by decide) (by decide) ?_
                  intro g2 c2 w6 hr2 hg2 hk2
                  have hB6 := below_kf hB5 rfl hz1 (hk2 (fun k => k = g1) (fun j hj => (onB_some _ _).1 hj))
                  have hz2 : W4.heap.size ≤ g2 := by
                    have := hB5.size
                    rcases hg2 with e | e
                    · rw [onB_some] at e; exact Nat.le_trans hz1 (Nat.le_of_eq e.symm)
                    · omega
                  obtain ⟨x1, x2, x3⟩ := HCE.out w6 hB6
                  refine hK _ _ ?_; clear hK K
                  refine wpAny_take (i := 11) (v := ?_) rfl (by kernel_rfl) (by kernel_rfl) (by kernel_rfl) (fun _ _ _ h => h) (Or.inl ⟨by kernel_rfl, ?_⟩) ?_
                  rotate_left 1
                  · (intro w; go_simp <;> with_reducible rfl)
                  refine wpAny_ready (rs := [12]) (by kernel_rfl) (by simp) ?_
                  refine AllReady.cons rfl (fun K hK => ?_) ?_
                  ·
                    go_simp
                    refine hK _ _ ?_; clear hK K
                    refine wpAny_done (by kernel_rfl) ?_ _
                    go_wp2_with fail; go_meet; subst hz5; exact fin_of z4 HB4.out hB6 HG0.out HG1.out hr2 hz2
                  exact AllReady.nil
                exact AllReady.nil
              exact AllReady.nil
            exact AllReady.nil
          refine AllReady.cons rfl (fun K hK => ?_) ?_
          ·
            obtain ⟨v1, v2, v3⟩ := HCE.out (W4.alloc (.cells #[.int .i32 l, .int .i64 (d : Int), .int .i64 r] 46)) ((Below.refl _ _).alloc (Nat.le_refl _) _)
            go_simp
            refine hK _ _ ?_; clear hK K
            refine wpAny_ready (rs := [0]) (by kernel_rfl) (by simp) ?_
            refine AllReady.cons rfl (fun K hK => ?_) ?_
            ·
              go_simp
              refine hK _ _ ?_; clear hK K
              refine wpAny_ready (rs := [3]) (by kernel_rfl) (by simp) ?_
              refine AllReady.cons rfl (fun K hK => ?_) ?_
              ·
                refine step_append_src _ rfl _ _ 34 46 rfl Try.underlying34 info_fent rfl (by decide) (by decide) (W4.heap.size + 1) 0 0 (fun _ => .int .i64 0) rfl (rowC W4 _) (by omega) A L.length c (enC L) rfl (SlV.alloc (SlV.alloc HEnd.out _) _) (enC_one L) (by omega) ?_
                intro g1 c1 w5 hr1 hg1 hk1
                have hR1 : RowV 46 3 w5 g1 L.length c1 (enC L) := ent_same hr1
                have hB5 := below_kf (belowB W4 _ _) rfl (by omega) hk1
                have hz1 : W4.heap.size ≤ g1 := by
                  rcases hg1 with e | e
                  · omega
                  · simp at e; omega
                have hbx := box_in ((hk1.block W4.heap.size (by simp; omega) (by simp)).trans (boxC W4 _ _))
                obtain ⟨y1, y2, y3⟩ := HCE.out w5 hB5
                clear hr1 hg1 hk1
                rw [Nat.zero_add]
                refine hK _ _ ?_; clear hK K
                refine wpAny_ready (rs := [10]) (by kernel_rfl) (by simp) ?_
                refine AllReady.cons rfl (fun K hK => ?_) ?_
                ·
                  refine step_append_sl _ rfl _ _ 34 46 rfl Try.underlying34 info_fent rfl (by decide) (by decide) (some ⟨g1, 0, none⟩) L.length c1 (enC L) rfl (.inr ⟨g1, rfl, hR1⟩) (by omega) ⟨W4.heap.size, 0, none⟩ 1 1 [.int .i32 l, .int .i64 (d : Int), .int .i64 r] rfl rfl (hbx) (by intro u hu; simp at hu; rcases hu with rfl | rfl | rfl <;> rfl) (by decide) (by decide) ?_
                  intro g2 c2 w6 hr2 hg2 hk2
                  have hB6 := below_kf hB5 rfl hz1 (hk2 (fun k => k = g1) (fun j hj => (onB_some _ _).1 hj))
                  have hz2 : W4.heap.size ≤ g2 := by
                    have := hB5.size
                    rcases hg2 with e | e
                    · rw [onB_some] at e; exact Nat.le_trans hz1 (Nat.le_of_eq e.symm)
                    · omega
                  obtain ⟨x1, x2, x3⟩ := HCE.out w6 hB6
                  refine hK _ _ ?_; clear hK K
                  refine wpAny_take (i := 11) (v := ?_) rfl (by kernel_rfl) (by kernel_rfl) (by kernel_rfl) (fun _ _ _ h => h) (Or.inl ⟨by kernel_rfl, ?_⟩) ?_
                  rotate_left 1
                  · (intro w; go_simp <;> with_reducible rfl)
                  refine wpAny_ready (rs := [12]) (by kernel_rfl) (by simp) ?_
                  refine AllReady.cons rfl (fun K hK => ?_) ?_
                  ·
                    go_simp
                    refine hK _ _ ?_; clear hK K
                    refine wpAny_done (by kernel_rfl) ?_ _
                    go_wp2_with fail; go_meet; subst hz5; exact fin_of z4 HB4.out hB6 HG0.out HG1.out hr2 hz2
                  exact AllReady.nil
                exact AllReady.nil
              exact AllReady.nil
            exact AllReady.nil
          exact AllReady.nil
        exact AllReady.nil
      exact AllReady.nil
    case rest =>
      obtain ⟨g, c2, hgg, hg0, hEn, hg1, hB⟩ := hcut.out
      obtain ⟨s0, s1, s2⟩ := cells3 hg0
      obtain ⟨u0, u1, u2⟩ := cells3 hg1
      have uf := Lib.frozen_of_heap hg1
      have hq3 := three_set hg1 (.int .i64 (n : Int)) (.int .i64 (d : Int)) (.slice (some ⟨g, 0, none⟩) (L ++ [(⟨l, d, r⟩ : Ent)]).length c2)
      obtain ⟨p0, p1, p2⟩ := cells3 hq3
      have hB2 := ((hB.setCell (p := ⟨w.heap.size + 1, 0, none⟩) (by simp) (.int .i64 (n : Int))).setCell (p := ⟨w.heap.size + 1, 1, none⟩) (by simp) (.int .i64 (d : Int))).setCell (p := ⟨w.heap.size + 1, 2, none⟩) (by simp) (.slice (some ⟨g, 0, none⟩) (L ++ [(⟨l, d, r⟩ : Ent)]).length c2)
      have hgn : g ≠ w.heap.size + 1 := fun e => by
        obtain ⟨g', e', hr⟩ := SlV.row hEn (by simp)
        injection e' with e'; injection e' with e'
        obtain ⟨cur, hh, _⟩ := hr
        rw [← e', e, hg1] at hh
        injection hh with hh
        injection hh with _ hh
        exact absurd hh (by decide)
      have HE : Hid (FTo A n d (L ++ [⟨l, d, r⟩]) 0 w (.returned (.tuple #[trV n d (some ⟨g, 0, none⟩) (L ++ [(⟨l, d, r⟩ : Ent)]).length c2, .int .i64 0])) (((wc.setCell ⟨w.heap.size + 1, 0, none⟩ (.int .i64 (n : Int))).setCell ⟨w.heap.size + 1, 1, none⟩ (.int .i64 (d : Int))).setCell ⟨w.heap.size + 1, 2, none⟩ (.slice (some ⟨g, 0, none⟩) (L ++ [(⟨l, d, r⟩ : Ent)]).length c2))) := by
        refine ⟨_, _, rfl, ?_, fun j hj => by rw [onB_some] at hj; subst hj; exact .inr (by omega), hB2⟩
        have hn1 : ¬ onB (some (⟨g, 0, none⟩ : Addr)) (w.heap.size + 1) := by rw [onB_some]; exact fun e => hgn e.symm
        exact SlV.other (SlV.other (SlV.other hEn hn1 _) hn1 _) hn1 _
      generalize (L ++ [(⟨l, d, r⟩ : Ent)]).length = m2 at *
      clear hcut hg0 hEn hg1 hB hq3 hB2 HEnd HCE HEn4
      go_wp2_with fail
      refine bodyPost_ret (v := .tuple #[trV n d (some ⟨g, 0, none⟩) m2 c2, .int .i64 0]) (by simp [results, Try.results13, go_sem, p0, p1, p2]) rfl ?_
      exact HE.out
end Go.Proofs.Ytcgihbffdejnbaa
