/- The contract of the reader's clause. -/
import Derived.Test.YtcfbnddoknpehaaGreatDoorNumber
import Derived.Test.YtcfbnddoknpehaaGreatDoorLenM
import Derived.Test.YtcfbnddoknpehaaGreatDoorOwnM
namespace Go.Proofs.YtcfbnddoknpehaaGreatDoor
open Go.RowKit Go.Shelf Go.Lib Words CnfP

theorem Own.kept {g B : Nat} {w w' : World} {v : Value} {xs : List Int} (h : Own w B v xs) (hk : Kept g w w') (hg : g < B) : Own w' B v xs := by
  refine ⟨h.1, ?_⟩
  rcases h.2 with h' | ⟨b, cap, cur, hv, hb, hh, r⟩
  · exact .inl h'
  · have hlt : b < w.heap.size := by
      rcases Nat.lt_or_ge b w.heap.size with h' | h'
      · exact h'
      · rw [Array.getElem?_eq_none h'] at hh; cases hh
    exact .inr ⟨b, cap, cur, hv, hb, by rw [hk.block b hlt (by omega)]; exact hh, r⟩
theorem Kept.grown {g : Nat} {a w w' : World} {row : Option Nat} (h : Kept g a w) (hg : w.grownBy w' row) (hr : ∀ k, row = some k → a.heap.size ≤ k) : Kept g a w' :=
  ⟨hg.os.trans h.os, hg.tape.trans h.tape, hg.output.trans h.output, Nat.le_trans h.size hg.size, fun k hk hkg => (hg.block k (Nat.lt_of_lt_of_le hk h.size) (fun e => by have := hr _ e.symm; omega)).trans (h.block k hk hkg)⟩
theorem RdrAt.grown {g : Nat} {L S : List UInt8} {w w' : World} {row : Option Nat} (h : RdrAt g L S w) (hg : w.grownBy w' row) (hr : row ≠ some g) : RdrAt g L S w' := by
  have := h.lt
  unfold RdrAt at *
  rw [hg.block g this (fun e => hr e.symm)]; exact h
theorem one_cell {w : World} {y : Int} : ∀ j u, [Value.int .i32 y][j]? = some u → (w.alloc (.cells #[.int .i32 y] 50)).cell? ((⟨w.heap.size, 0, none⟩ : Addr).add j) = some u := by
  intro j u hj
  match j, hj with
  | 0, hj => simp at hj; subst hj; simp [Addr.add]
theorem one_one {y : Int} : ∀ u ∈ [Value.int .i32 y], u.oneCell' = true := by
  intro u hu; simp at hu; subst hu; rfl

/-- Where the clause's reading stands: n is the number just read, c1 what was read before. -/
def Stands (ws : List (List UInt8)) (c1 : List Int) (n : Int) (rest : List (List UInt8)) : Prop :=
  clauseOf ws = if n = 0 then some (c1, rest) else (clauseOf rest).map (fun p => (c1 ++ n :: p.1, p.2))
theorem stands_start {ws : List (List UInt8)} {n : Int} (hn : numOf (ws.headD []) = some n) : Stands ws [] n ws.tail := by
  unfold Stands
  rw [clauseOf_step hn]; simp
theorem stands_next {ws rest : List (List UInt8)} {c1 : List Int} {n n2 : Int} (h : Stands ws c1 n rest) (h0 : n ≠ 0) (hn : numOf (rest.headD []) = some n2) : Stands ws (c1 ++ [n]) n2 rest.tail := by
  unfold Stands at *
  rw [h, if_neg h0, clauseOf_step hn]
  split
  · simp
  · rw [Option.map_map]
    congr 1
    funext p
    simp
theorem stands_stop {ws rest : List (List UInt8)} {c1 : List Int} {n : Int} (h : Stands ws c1 n rest) (h0 : n ≠ 0) (hn : numOf (rest.headD []) = none) : clauseOf ws = none := by
  unfold Stands at h
  rw [h, if_neg h0, clauseOf_stop hn]; rfl
theorem stands_len {ws rest : List (List UInt8)} {c1 c : List Int} {n : Int} {r : List (List UInt8)} (h : Stands ws c1 n rest) (h0 : n ≠ 0) (hc : clauseOf ws = some (c, r)) : c1.length < c.length := by
  unfold Stands at h
  rw [h, if_neg h0, Option.map_eq_some_iff] at hc
  obtain ⟨q, _, e⟩ := hc
  injection e with e1 e2
  rw [← e1]; simp
theorem stands_end {ws rest : List (List UInt8)} {c1 : List Int} (h : Stands ws c1 0 rest) : clauseOf ws = some (c1, rest) := by
  unfold Stands at h
  rw [h, if_pos rfl]

set_option maxHeartbeats 6400000 in
set_option maxRecDepth 100000 in
/-- Either it reads the clause, or it throws. -/
theorem clause_any (g : Nat) (L S : List UInt8) (room : Int) (w : World) (h : RdrAt g L S w) (hl : LibAt w) (hg : 8 ≤ g) (hL : L.length < 4294967281) (hS : S.length < 4294967281)
    (hr0 : 0 ≤ room) (hr1 : room ≤ 4194304) (hroom : ∀ c r, clauseOf (left L S) = some (c, r) → (c.length : Int) ≤ room) :
    Calls Tryz.prog 44 #[.pointer (some ⟨g, 0, none⟩), .int .i64 room] w fun e w' =>
      (∃ c r v L' S', clauseOf (left L S) = some (c, r) ∧ e = .returned v ∧ Own w' w.heap.size v c ∧ RdrAt g L' S' w' ∧ left L' S' = r ∧ L'.length < 4294967281 ∧ S'.length < 4294967281 ∧ Kept g w w') ∨
      (clauseOf (left L S) = none ∧ e = thrown ∧ Kept g w w') := by
  obtain ⟨i0, hi, hz0, hz1, hz2⟩ := info_parts info_lit
  have HROOM := Lib.hid hroom
  have HLA := Lib.hid hl
  have HH := Lib.hid h
  have hgw := h.lt
  have HLL := Lib.hid (And.intro hL hS)
  clear hroom hl h
  rcases hn1 : numOf (headW (left L S)) with _ | n1
  · have HC := Lib.hid (clauseOf_stop hn1)
    have HN := Lib.hid (number_no g L S w HH.out HLA.out hg hL hS (head_len (by omega) hL hS) hn1)
    clear hn1
    go_enter Tryz.func44, Tryz.ntmps44
    go_wp2_with fail
    refine HN.out.mono ?_
    rintro e w1 ⟨rfl, hk⟩
    exact ⟨rfl, .inr ⟨HC.out, rfl, hk⟩⟩
  have HST := Lib.hid (stands_start hn1)
  have HNB := Lib.hid (numOf_bd hn1)
  have HNE := Lib.hid (num_ne hn1)
  have HN := Lib.hid (number_yes g L S n1 w HH.out HLA.out hg hL hS hn1)
  clear hn1
  go_enter Tryz.func44, Tryz.ntmps44
  go_wp2_with fail
  refine HN.out.mono ?_
  rintro e w1 ⟨rfl, L1, S1, h1, ht1, hL1, hS1, hk1⟩
  have H1 := Lib.hid h1
  have HT1 := Lib.hid ht1
  have HK1 := Lib.hid hk1
  have HB1 := Lib.hid (And.intro hL1 hS1)
  clear h1 ht1 hk1 hL1 hS1
  go_wp2_with fail
  go_loopg [5, 6] (left L1 S1).length (fun gg v nv wr => ∃ (c1 : List Int) (n : Int) (L2 S2 : List UInt8), nv = .int .i64 n ∧ -999999999 ≤ n ∧ n ≤ 999999999 ∧ Hid (Own wr w.heap.size v c1) ∧ Hid (Stands (left L S) c1 n (left L2 S2)) ∧ Hid ((left L2 S2).length ≤ gg) ∧
    Hid (RdrAt g L2 S2 wr) ∧ Hid (Kept g w wr) ∧ Hid (L2.length < 4294967281 ∧ S2.length < 4294967281))
  case atStart => exact ⟨[], n1, L1, S1, rfl, HNB.out.1, HNB.out.2, Own.nil _ _, by rw [HT1.out]; exact HST.out, Nat.le_refl _, H1.out, HK1.out, HB1.out⟩
  case round =>
    obtain ⟨c1, n, L2, S2, rfl, hn0, hn1, HO, HS, HG, HR, HK, HB⟩ := hrel
    by_cases hz : n = 0
    · subst hz
      have HE := Lib.hid (stands_end HS.out)
      go_wp2_with fail
      go_ret
      exact .inl ⟨c1, left L2 S2, _, L2, S2, HE.out, rfl, HO.out, HR.out, rfl, HB.out.1, HB.out.2, HK.out⟩
    · have hzb : (n != 0) = true := by rw [bne_iff_ne]; exact hz
      obtain ⟨A1, cap1, rfl, hRd1⟩ := HO.out.form
      clear hRd1
      have hks := HK.out.size
      by_cases hlt : (c1.length : Int) < room
      · have hw32 : IntKind.i32.wrap n = n := by simp [IntKind.wrap, IntKind.bits, IntKind.signed]; omega
        have HO1 := Lib.hid (HO.out)
        have HZ := Lib.hid hz
        clear hz
        go_wp2_with fail
        refine (demand_yes _).mono ?_
        rintro e w' ⟨rfl, rfl⟩
        go_wp2_with (at_builtin; refine wpList_append_own _ rfl _ _ 46 rfl w.heap.size 50 i0 (.int .i32 0) 1 4 Tryz.underlying46 hi hz0 hz1 hz2 rfl (by decide) _ _ _ rfl (HO1.out.alloc _) ⟨wr.heap.size, 0, none⟩ 1 1 [.int .i32 n] rfl rfl one_cell one_one (by unfold maxLen; omega) (by omega) (by simp; omega) ?_)
        intro v2 w2 hown2 hgrow2 _
        have hs2 := Own.snoc hown2
        have hk2 : Kept g w w2 := (HK.out.trans (Kept.of ((Below.refl _ _).alloc (Nat.le_refl _) _))).grown hgrow2 (fun k hk => (HO1.out.lt k hk).1)
        have hr2 : RdrAt g L2 S2 w2 := (HR.out.below ((Below.refl _ _).alloc (Nat.le_refl _) _)).grown hgrow2 (fun e => by have := (HO1.out.lt g e).1; omega)
        have HS2 := Lib.hid hs2
        have HK2 := Lib.hid hk2
        have HR2 := Lib.hid hr2
        clear hown2 hgrow2 hs2 hk2 hr2 HO1
        have hLA2 := HLA.out.below (HK2.out.below (Below.refl 8 w) hg (by omega)) (Nat.le_refl _)
        rcases hn2 : numOf (headW (left L2 S2)) with _ | n2
        · have HC := Lib.hid (stands_stop HS.out HZ.out hn2)
          have HN2 := Lib.hid (number_no g L2 S2 w2 HR2.out hLA2 hg HB.out.1 HB.out.2 (head_len (by omega) HB.out.1 HB.out.2) hn2)
          clear hn2 hLA2
          go_wp2_with fail
          refine HN2.out.mono ?_
          rintro e w3 ⟨rfl, hk3⟩
          exact ⟨rfl, .inr ⟨HC.out, rfl, HK2.out.trans hk3⟩⟩
        · have HSN := Lib.hid (stands_next HS.out HZ.out hn2)
          have HNB2 := Lib.hid (numOf_bd hn2)
          have HNE2 := Lib.hid (num_ne hn2)
          have HN2 := Lib.hid (number_yes g L2 S2 n2 w2 HR2.out hLA2 hg HB.out.1 HB.out.2 hn2)
          clear hn2 hLA2
          go_wp2_with fail
          refine HN2.out.mono ?_
          rintro e w3 ⟨rfl, L3, S3, h3, ht3, hL3, hS3, hk3⟩
          have H3 := Lib.hid h3
          have HT3 := Lib.hid ht3
          have HO3 := Lib.hid (HS2.out.kept hk3 (by omega))
          have HK3 := Lib.hid (HK2.out.trans hk3)
          have HB3 := Lib.hid (And.intro hL3 hS3)
          have hgg : (left L3 S3).length + 1 ≤ gk := by
            have a := HNE2.out
            have b := HG.out
            rw [ht3]; omega
          clear h3 ht3 hL3 hS3 hk3
          rcases gk with _ | gk
          · exfalso; omega
          go_wp2_with fail
          go_roundg gk
          case measure => omega
          case rel => exact ⟨c1 ++ [n], n2, L3, S3, rfl, HNB2.out.1, HNB2.out.2, HO3.out, by rw [HT3.out]; exact HSN.out, by show _ ≤ _; omega, H3.out, HK3.out, HB3.out⟩
      · have HZ := Lib.hid hz
        have HNO : Hid (clauseOf (left L S) = none) := by
          show _ = _
          rcases hc : clauseOf (left L S) with _ | ⟨c, r⟩
          · rfl
          · have := stands_len HS.out HZ.out hc
            have := HROOM.out c r hc
            omega
        clear hz
        go_wp2_with fail
        refine (demand_no _).mono ?_
        rintro e w' ⟨rfl, rfl⟩
        exact ⟨rfl, .inr ⟨HNO.out, rfl, HK.out⟩⟩
end Go.Proofs.YtcfbnddoknpehaaGreatDoor
