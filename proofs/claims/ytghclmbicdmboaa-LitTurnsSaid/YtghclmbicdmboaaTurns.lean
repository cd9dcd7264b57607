/- LitTurns is true of every clause: the statement Rows.LitTurnsSaid, without a condition. -/
import Derived.Test.YtghclmbicdmboaaSrtS
import Derived.Test.YtghclmbicdmboaaLitE
import Derived.Test.YtghclmbicdmboaaLaw
import Derived.Deep.AppendLies
namespace Go.Proofs.Ytghclmbicdmboaa
open Go.ChangeShapes Go.WideShapes Go.ChangeAt Go.RowKit LitM

theorem clean_rev {xs zs : List Int} (h : IsClean xs.reverse zs) : IsClean xs zs := ⟨h.1, fun x => (h.2 x).trans List.mem_reverse⟩
theorem clean_twice {xs ys zs : List Int} (h : IsClean xs ys) (k : IsClean ys zs) : IsClean xs zs := ⟨k.1, fun x => (k.2 x).trans (h.2 x)⟩
theorem both_rev (xs : List Int) : bothB xs.reverse = bothB xs := by
  rw [Bool.eq_iff_iff, bothB_iff, bothB_iff]
  simp only [List.mem_reverse]
theorem notZ_one {x : Int} (h : LitM.one x = true) : notZ x = -x := by unfold notZ; rw [if_pos h]
theorem one_neg (x : Int) : LitM.one (-x) = LitM.one x := by
  rw [Bool.eq_iff_iff, one_iff, one_iff]; omega
theorem mem_turned {xs : List Int} (ha : allOne xs = true) (x : Int) : x ∈ xs.reverse.map notZ ↔ -x ∈ xs := by
  rw [List.mem_map]
  constructor
  · rintro ⟨y, hy, rfl⟩
    rw [List.mem_reverse] at hy
    rw [notZ_one (allOne_mem ha hy), Int.neg_neg]
    exact hy
  · intro h
    exact ⟨-x, List.mem_reverse.2 h, by rw [notZ_one (allOne_mem ha h), Int.neg_neg]⟩
theorem one_turned {xs : List Int} (ha : allOne xs = true) : allOne (xs.reverse.map notZ) = true := by
  unfold allOne
  rw [List.all_eq_true]
  intro x hx
  have h := (mem_turned ha x).1 hx
  rw [← one_neg]
  exact allOne_mem ha h
theorem out_turned {xs : List Int} (ha : allOne xs = false) : allOne (xs.reverse.map notZ) = false := by
  unfold allOne at ha ⊢
  rw [List.all_eq_false] at ha ⊢
  obtain ⟨x, h1, h2⟩ := ha
  refine ⟨notZ x, List.mem_map.2 ⟨x, List.mem_reverse.2 h1, rfl⟩, ?_⟩
  unfold notZ
  rw [if_neg h2]
  decide
theorem one_rev (xs : List Int) : allOne xs.reverse = allOne xs := by unfold allOne; rw [List.all_reverse]
theorem both_turned {xs : List Int} (ha : allOne xs = true) : bothB (xs.reverse.map notZ) = bothB xs := by
  rw [Bool.eq_iff_iff, bothB_iff, bothB_iff]
  constructor
  · rintro ⟨x, h1, h2⟩
    rw [mem_turned ha] at h1 h2
    exact ⟨-x, h1, by rw [Int.neg_neg] at h2 ⊢; exact h2⟩
  · rintro ⟨x, h1, h2⟩
    refine ⟨-x, ?_, ?_⟩
    · rw [mem_turned ha, Int.neg_neg]; exact h1
    · rw [mem_turned ha, Int.neg_neg]; exact h2
theorem nodup_of {ys : List Int} (h : ys.Pairwise (fun a b => placeZ a < placeZ b)) : ys.Nodup := h.imp fun {a b} hab e => by rw [e] at hab; omega
theorem len_turned {xs ys ds : List Int} (ha : allOne xs = true) (h : IsClean xs ys) (k : IsClean (xs.reverse.map notZ) ds) : ds.length = ys.length := by
  have hp : (ys.map fun x => -x).Perm ds := by
    refine (List.perm_ext_iff_of_nodup ?_ (nodup_of k.1)).2 fun x => ?_
    · exact List.pairwise_map.2 ((nodup_of h.1).imp fun {a b} hab e => hab (by simpa using e))
    · rw [k.2, mem_turned ha, ← h.2, List.mem_map]
      constructor
      · rintro ⟨y, hy, rfl⟩; rw [Int.neg_neg]; exact hy
      · intro hx; exact ⟨-x, hx, Int.neg_neg x⟩
  have := hp.length_eq
  rw [List.length_map] at this
  exact this.symm
theorem within_clean {xs ys : List Int} (h : IsClean xs ys) : ys.all (hasB xs) = true ∧ xs.all (hasB ys) = true := by
  rw [List.all_eq_true, List.all_eq_true]
  exact ⟨fun x hx => (hasB_iff xs x).2 ((h.2 x).1 hx), fun x hx => (hasB_iff ys x).2 ((h.2 x).2 hx)⟩
theorem in32_rev {xs : List Int} (h : In32 xs) : In32 xs.reverse := In32.of fun _ hx => h.mem (List.mem_reverse.1 hx)
theorem in32_turned {xs : List Int} : In32 (xs.reverse.map notZ) := In32.of fun _ hx => by
  obtain ⟨y, _, rfl⟩ := List.mem_map.1 hx
  unfold notZ
  split
  · rename_i h
    have := (one_iff y).1 h
    omega
  · omega
theorem same_ref (xs : List Int) : sameB xs xs = true := (sameB_iff _ _).2 rfl

/-- Where the loop stands: k of them are there, from the last one on, and turned. -/
def TurnR (wc : World) (rs : List Int) (n : Nat) (t u v : Value) (W : World) : Prop :=
  ∃ (k g1 c1 g2 c2 : Nat), k ≤ n ∧ t = .slice (some ⟨g1, 0, none⟩) k c1 ∧ u = .slice (some ⟨g2, 0, none⟩) k c2 ∧ v = .int .i64 ((n : Int) - 1 - (k : Int)) ∧ g1 ≠ g2 ∧
    W.ownsRow wc.heap.size 29 1 (.slice (some ⟨g1, 0, none⟩) k c1) k ((rs.take k).map (Value.int .i32)) ∧ W.ownsRow wc.heap.size 29 1 (.slice (some ⟨g2, 0, none⟩) k c2) k (((rs.take k).map notZ).map (Value.int .i32)) ∧ Below wc.heap.size wc W
set_option maxHeartbeats 6400000 in
set_option maxRecDepth 100000 in
theorem turns_walk (A : Option Addr) (n c : Nat) (xs : List Int) (w : World) (h : Rd .i32 w w.heap.size A n xs) (h32 : In32 xs) (hn : n ≤ 9223372036854775807) :
    Calls Try.prog 4 #[.slice A n c] w fun e w' => e = .returned (.bool true) ∧ Below w.heap.size w w' := by
  obtain ⟨i0, hi, hz0, hz1, hz2⟩ := info_parts info_lit
  have HR := Lib.hid h
  have H32 := Lib.hid h32
  have HL := Lib.hid h.len
  clear h h32
  by_cases hb1 : 40 < n
  · have t1 : decide (40 < n) = true := decide_eq_true hb1
    have t1' : decide ((40 : Int) < (n : Int)) = true := decide_eq_true (by omega)
    go_enter Try.func4, Try.ntmps4
    go_wp2_with fail
    refine (alive_any _).mono ?_
    rintro e wa ⟨rfl, hB⟩
    have HB := Lib.hid hB; clear hB
    go_wp2_with fail
    go_ret
    exact ⟨rfl, HB.out⟩
  have t1 : decide (40 < n) = false := decide_eq_false hb1
  have t1' : decide ((40 : Int) < (n : Int)) = false := decide_eq_false (by omega)
  go_enter Try.func4, Try.ntmps4
  go_wp2_with fail
  refine (alive_any _).mono ?_
  rintro e wa ⟨rfl, hB⟩
  have hsz := hB.size
  have HRa := Lib.hid ((HR.out.below hB).more hsz)
  have HB := Lib.hid hB
  clear hB
  go_upto_region 5 with (fail)
  go_cut [3, 4, 5] (fun t u v W => Below wa.heap.size wa W ∧ ∃ A' m c' ys B1 E, t = .slice A' m c' ∧ u = .bool B1 ∧ v = .int .i64 E ∧ m ≤ 40 ∧ Rd .i32 W W.heap.size A' m ys ∧ ((allOne xs = false ∧ ys = [] ∧ E = 11) ∨ (allOne xs = true ∧ E = 0 ∧ B1 = bothB xs ∧ IsClean xs ys)))
  case first =>
    rcases hall : allOne xs with _ | _
    · have HALL := Lib.hid hall; clear hall
      go_wp2_with fail
      refine (clean_no _ _ _ xs _ HRa.out H32.out (by omega) HALL.out).mono ?_
      rintro e w' ⟨rfl, rfl⟩
      go_wp2
      go_meet
      exact ⟨Below.refl _ _, none, 0, 0, [], _, 11, rfl, rfl, rfl, by omega, Rd.nil, .inl ⟨HALL.out, rfl, rfl⟩⟩
    · have HALL := Lib.hid hall; clear hall
      go_wp2_with fail
      refine (clean_yes _ _ _ xs _ HRa.out (by omega) HALL.out).mono ?_
      rintro e w2 ⟨A2, m2, c2, ys, rfl, hR2, hC2, hB2⟩
      have hm : m2 ≤ 40 := by
        have e1 := hR2.len
        have e2 := clean_len (k := xs.length) (ys := ys) (by rw [List.take_length]; exact hC2)
        have e3 := HL.out
        omega
      have HY := Lib.hid hR2
      have HC := Lib.hid hC2
      have HB2 := Lib.hid hB2
      clear hR2 hC2 hB2
      go_wp2
      go_meet
      exact ⟨HB2.out, A2, m2, c2, ys, _, 0, rfl, rfl, rfl, hm, HY.out, .inr ⟨HALL.out, rfl, rfl, HC.out⟩⟩
  case rest =>
  obtain ⟨hb, A2, m2, c2, ys, B1, E, rfl, rfl, rfl, hm2, hy, hcase⟩ := hcut
  have HRb := Lib.hid ((HRa.out.below hb).more hb.size)
  have HY := Lib.hid hy
  have HCASE := Lib.hid hcase
  have HBb := Lib.hid (HB.out.trans (hb.mono hsz))
  clear hb hy hcase HRa HB HR
  go_upto_block 0 with (fail)
  obtain ⟨rs, hrs⟩ : ∃ rs, rs = xs.reverse := ⟨_, rfl⟩
  have HRS := Lib.hid hrs
  have HRL : Hid (rs.length = n) := by unfold Hid; rw [hrs, List.length_reverse]; exact HL.out
  have HAT : Hid (∀ i k : Nat, i + k + 1 = n → xs.getD i 0 = rs.getD k 0) := fun i k hik => by
    have h1 : i < xs.length := by rw [HL.out]; omega
    have h2 : k < rs.length := by rw [HRL.out]; omega
    rw [getD_lt h1, getD_lt h2]
    subst hrs
    rw [List.getElem_reverse]
    congr 1
    have := HL.out
    omega
  clear hrs
  go_cut [6, 7, 8] (fun t u v W => ∃ g1 c1 g2 c2, t = .slice (some ⟨g1, 0, none⟩) n c1 ∧ u = .slice (some ⟨g2, 0, none⟩) n c2 ∧ Rd .i32 W W.heap.size (some ⟨g1, 0, none⟩) n rs ∧ Rd .i32 W W.heap.size (some ⟨g2, 0, none⟩) n (rs.map notZ) ∧ Below wc.heap.size wc W)
  case first =>
    have hA : Hid (TurnR wc rs n (.slice (some ⟨wc.heap.size, 0, none⟩) 0 0) (.slice (some ⟨wc.heap.size + 1, 0, none⟩) 0 0) (.int .i64 ((n : Int) - 1)) ((wc.alloc (.cells #[] 29)).alloc (.cells #[] 29))) := by
      refine ⟨0, wc.heap.size, 0, wc.heap.size + 1, 0, Nat.zero_le _, rfl, rfl, by simp, by omega, ?_, ?_, (below_alloc wc _).alloc (by simp) _⟩
      · exact (World.ownsRow_made wc #[] 0 (Nat.le_refl _) (Nat.zero_le _) (by simp)).alloc _
      · have := World.ownsRow_made (base := wc.heap.size) (e := 29) (size := 1) (wc.alloc (.cells #[] 29)) #[] 0 (by simp) (Nat.zero_le _) (by simp)
        simpa using this
    go_wp2
    go_loopw [6, 7, 8] (fun t u v W => TurnR wc rs n t u v W) (fun _ _ v _ => (intOf v + 1).toNat)
    case atStart => exact hA.out
    case round =>
      clear hA
      obtain ⟨k, g1, c1, g2, c2, hk, rfl, rfl, rfl, hg, ho1, ho2, hB⟩ := hrel
      by_cases hlt : k < n
      · obtain ⟨i, hi0⟩ : ∃ i, i = n - 1 - k := ⟨_, rfl⟩
        have ei : (n : Int) - 1 - (k : Int) = (i : Int) := by omega
        have hin : i < n := by omega
        rw [ei]
        have HY0 := Lib.hid (HAT.out i k (by omega))
        have HSN : Hid (rs.take (k + 1) = rs.take k ++ [rs.getD k 0]) := by
          unfold Hid
          rw [List.take_succ_eq_append_getElem (by rw [HRL.out]; exact hlt), getD_lt (by rw [HRL.out]; exact hlt)]
        obtain ⟨b, o, rfl, hb, _⟩ := HRb.out.get hin
        obtain ⟨y, hy⟩ : ∃ y, y = rs.getD k 0 := ⟨_, rfl⟩
        have HCELL : Hid (∀ W, Below wc.heap.size wc W → W.cell? ⟨b, o + i, none⟩ = some (.int .i32 y)) := fun W hW => by
          obtain ⟨b', o', e, _, hc⟩ := (HRb.out.below hW).get hin
          injection e with e
          injection e with e1 e2
          rw [e1, e2, hc, HY0.out, hy]
        rw [← hy] at HSN
        have hy32 : -2147483648 ≤ y ∧ y ≤ 2147483647 := by
          rw [hy, ← HY0.out]
          exact H32.out i
        have HB0 := Lib.hid hB
        have hc1 := HCELL.out wr hB
        have hszr : wc.heap.size ≤ wr.heap.size := hB.size
        have hlen1 : (rs.take k).length = k := by rw [List.length_take, HRL.out]; omega
        have HLEN := Lib.hid hlen1
        have HI := Lib.hid hi0
        have HO1 := Lib.hid ho1
        have HO2 := Lib.hid ho2
        have hg1 := ho1.lt g1 (by simp [Value.ownBlock])
        have hg2 := ho2.lt g2 (by simp [Value.ownBlock])
        clear hy hB ho1 ho2 hlen1 hi0
        go_wp2_with (at_builtin; refine wpList_append_lies _ rfl _ _ 22 rfl wc.heap.size 29 i0 (.int .i32 0) 1 4 Try.underlying22 hi hz0 hz1 hz2 rfl (by decide) _ _ _ rfl (HO1.out.alloc _) ⟨wr.heap.size, 0, none⟩ 1 1 [.int .i32 y] rfl rfl one_cell one_one ?c1 ?c2 ?c3 ?c4 _ rfl ?_)
        case c1 => omega
        case c2 => unfold maxLen; omega
        case c3 => omega
        case c4 => simp; omega
        intro g1' c1' w1 hown1 hgrow1 hlie1 hlt1
        have hB1 : Below wc.heap.size wc w1 := (HB0.out.alloc hszr _).grown hgrow1 (by simp; omega) (fun j hj => by simp [Value.ownBlock] at hj; omega)
        have hc2 := HCELL.out w1 hB1
        have ho2' := (HO2.out.alloc (.cells #[.int .i32 y] 29)).kept hgrow1 (.inr (by simp [Value.ownBlock]; omega))
        have hne1 : g1' ≠ g2 := by
          rcases hlie1 with e | e
          · simp [Value.ownBlock] at e; omega
          · rw [e]; simp; omega
        have HB1 := Lib.hid hB1
        have HO1' := Lib.hid hown1
        have HO2' := Lib.hid ho2'
        have hsz1 : wc.heap.size ≤ w1.heap.size := hB1.size
        have hg2' : g2 < w1.heap.size := (ho2'.lt g2 (by simp [Value.ownBlock])).2
        clear hB1 hown1 ho2' hgrow1 hlie1 HO1 HO2 hc1 hg1 hg2
        go_wp2_with fail
        refine (not_any y _ hy32.1 hy32.2).mono ?_
        rintro e w' ⟨rfl, rfl⟩
        go_wp2_with (at_builtin; refine wpList_append_lies _ rfl _ _ 22 rfl wc.heap.size 29 i0 (.int .i32 0) 1 4 Try.underlying22 hi hz0 hz1 hz2 rfl (by decide) _ _ _ rfl (HO2'.out.alloc _) ⟨w1.heap.size, 0, none⟩ 1 1 [.int .i32 (notZ y)] rfl rfl one_cell one_one ?d1 ?d2 ?d3 ?d4 _ rfl ?_)
        case d1 => omega
        case d2 => unfold maxLen; omega
        case d3 => omega
        case d4 => simp; omega
        intro g2' c2' w2 hown2 hgrow2 hlie2 hlt2
        have hB2 : Below wc.heap.size wc w2 := (HB1.out.alloc hsz1 _).grown hgrow2 (by simp; omega) (fun j hj => by simp [Value.ownBlock] at hj; have := (HO2'.out.lt g2 (by simp [Value.ownBlock])).1; omega)
        have ho1' := (HO1'.out.alloc (.cells #[.int .i32 (notZ y)] 29)).kept hgrow2 (.inr (by simp [Value.ownBlock]; omega))
        have hne2 : g1' ≠ g2' := by
          rcases hlie2 with e | e
          · simp [Value.ownBlock] at e; omega
          · rw [e]; simp; omega
        have HB2 := Lib.hid hB2
        have HO1'' := Lib.hid ho1'
        have HO2'' := Lib.hid hown2
        clear hB2 hown2 ho1' hgrow2 hlie2 HO1' HO2' hc2
        go_wp2
        go_roundw
        case rel =>
          refine ⟨k + 1, g1', c1', g2', c2', by omega, rfl, rfl, by congr 1; have := HI.out; omega, hne2, ?_, ?_, HB2.out⟩
          · rw [HSN.out, List.map_append]
            have h := HO1''.out
            rw [← List.map_take] at h
            exact h
          · rw [HSN.out, List.map_append, List.map_append]
            have h := HO2''.out
            rw [← List.map_take, ← List.map_map] at h
            exact h
        case measure => simp [intOf]; try omega
      · have hkn : k = n := by omega
        subst hkn
        have ei : (k : Int) - 1 - (k : Int) = -1 := by omega
        rw [ei]
        have hall : rs.take k = rs := List.take_of_length_le (by rw [HRL.out]; omega)
        rw [hall] at ho1 ho2
        have hr1 := Lib.hid (Rd.of_own ho1)
        have hr2 := Lib.hid (Rd.of_own ho2)
        have HB0 := Lib.hid hB
        clear hall ho1 ho2 hB
        go_wp2
        go_meet
        exact ⟨g1, c1, g2, c2, rfl, rfl, hr1.out, hr2.out, HB0.out⟩
  case rest =>
  obtain ⟨g1, c1, g2, c2, rfl, rfl, hr1, hr2, hB⟩ := hcut
  have HR1 := Lib.hid hr1
  have HR2 := Lib.hid hr2
  have HYc := Lib.hid ((HY.out.below hB).more hB.size)
  have HRc := Lib.hid ((HRb.out.below hB).more hB.size)
  have HBc := Lib.hid (HBb.out.trans (hB.mono HBb.out.size))
  clear hr1 hr2 hB HY HRb HBb HAT
  have HI1 : Hid (In32 rs) := by unfold Hid; rw [HRS.out]; exact in32_rev H32.out
  have HI2 : Hid (In32 (rs.map notZ)) := by unfold Hid; rw [HRS.out]; exact in32_turned
  rcases HCASE.out with ⟨hall, hys, hE⟩ | ⟨hall, hE, hB1, hcl⟩
  · subst hE
    have HYS := Lib.hid hys
    have h1 : allOne rs = false := by rw [HRS.out, one_rev]; exact hall
    have h2 : allOne (rs.map notZ) = false := by rw [HRS.out]; exact out_turned hall
    have hm0 : m2 = 0 := by have := HYc.out.len; rw [hys] at this; simpa using this.symm
    have H1 := Lib.hid h1
    have H2 := Lib.hid h2
    have HY0 : Hid (Rd .i32 wc wc.heap.size A2 m2 []) := by have := HYc.out; rw [hys] at this; exact this
    subst hm0
    clear hys hall h1 h2 HCASE
    go_wp2_with fail
    refine (clean_no _ _ _ rs _ HR1.out HI1.out (by omega) H1.out).mono ?_
    rintro e w' ⟨rfl, rfl⟩
    go_wp2_with fail
    refine (clean_yes _ _ _ [] _ HY0.out (by omega) rfl).mono ?_
    rintro e w3 ⟨A5, m5, c5, us, rfl, hR5, hC5, hB5⟩
    have HB5 := Lib.hid (HBc.out.trans (hB5.mono HBc.out.size))
    have HR2' := Lib.hid ((HR2.out.below hB5).more hB5.size)
    clear hR5 hC5 hB5
    go_wp2_with fail
    refine (clean_no _ _ _ (rs.map notZ) _ HR2'.out HI2.out (by omega) H2.out).mono ?_
    rintro e w' ⟨rfl, rfl⟩
    go_wp2_with fail
    go_ret
    exact ⟨rfl, HB5.out⟩
  · subst hE
    have h1 : allOne rs = true := by rw [HRS.out, one_rev]; exact hall
    have h2 : allOne (rs.map notZ) = true := by rw [HRS.out]; exact one_turned hall
    have H1 := Lib.hid h1
    have H2 := Lib.hid h2
    have HYA : Hid (allOne ys = true) := hcl.all.trans hall
    have HCL := Lib.hid hcl
    have HALL := Lib.hid hall
    have HB1 := Lib.hid hB1
    clear h1 h2 hcl hall hB1 HCASE
    go_wp2_with fail
    refine (clean_yes _ _ _ rs _ HR1.out (by omega) H1.out).mono ?_
    rintro e w3 ⟨A5, m5, c5, zs, rfl, hR5, hC5, hB5⟩
    have e5 : zs = ys := by rw [HRS.out] at hC5; exact (clean_rev hC5).unique HCL.out
    have b5 : bothB rs = B1 := by rw [HRS.out, both_rev, HB1.out]
    rw [b5]
    subst e5
    have em : m5 = m2 := by rw [← hR5.len, ← HYc.out.len]
    subst em
    have HZ3 := Lib.hid hR5
    have HY3 := Lib.hid ((HYc.out.below hB5).more hB5.size)
    have HR3 := Lib.hid ((HRc.out.below hB5).more hB5.size)
    have HT3 := Lib.hid ((HR2.out.below hB5).more hB5.size)
    have HW3 := Lib.hid (HBc.out.trans (hB5.mono HBc.out.size))
    clear hR5 hC5 hB5 HYc HRc HR2 HBc HR1 b5
    go_wp2_with fail
    refine (clean_yes _ _ _ zs _ HY3.out (by omega) HYA.out).mono ?_
    rintro e w4 ⟨A6, m6, c6, us, rfl, hR6, hC6, hB6⟩
    have b6 : bothB zs = B1 := by rw [HCL.out.both, HB1.out]
    have e6 : us = zs := (clean_twice HCL.out hC6).unique HCL.out
    rw [b6]
    subst e6
    have em : m6 = m5 := by rw [← hR6.len, ← HY3.out.len]
    subst em
    have HU4 := Lib.hid hR6
    have HZ4 := Lib.hid ((HZ3.out.below hB6).more hB6.size)
    have HY4 := Lib.hid ((HY3.out.below hB6).more hB6.size)
    have HR4 := Lib.hid ((HR3.out.below hB6).more hB6.size)
    have HT4 := Lib.hid ((HT3.out.below hB6).more hB6.size)
    have HW4 := Lib.hid (HW3.out.trans (hB6.mono HW3.out.size))
    clear hR6 hC6 hB6 HZ3 HY3 HR3 HT3 HW3 b6
    go_wp2_with fail
    refine (clean_yes _ _ _ (rs.map notZ) _ HT4.out (by omega) H2.out).mono ?_
    rintro e w5 ⟨A7, m7, c7, ds, rfl, hR7, hC7, hB7⟩
    have b7 : bothB (rs.map notZ) = B1 := by rw [HRS.out, both_turned HALL.out, HB1.out]
    rw [b7]
    have em : m7 = m6 := by
      rw [HRS.out] at hC7
      have := len_turned HALL.out HCL.out hC7
      rw [← hR7.len, ← HY4.out.len, this]
    subst em
    have HU5 := Lib.hid ((HU4.out.below hB7).more hB7.size)
    have HZ5 := Lib.hid ((HZ4.out.below hB7).more hB7.size)
    have HY5 := Lib.hid ((HY4.out.below hB7).more hB7.size)
    have HR5 := Lib.hid ((HR4.out.below hB7).more hB7.size)
    have HW5 := Lib.hid (HW4.out.trans (hB7.mono HW4.out.size))
    clear hR7 hC7 hB7 HU4 HZ4 HY4 HR4 HT4 HW4 b7
    have hBB : (B1 == B1) = true := by simp
    have hmm : ((m7 : Int) == (m7 : Int)) = true := by simp
    go_wp2_with fail
    refine (same_any _ _ _ _ _ _ us us _ _ HY5.out HZ5.out (by omega) (by omega)).mono ?_
    rintro e w' ⟨rfl, q, rfl⟩
    rw [same_ref]
    go_wp2_with fail
    refine (same_any _ _ _ _ _ _ us us _ _ (HY5.out.drewN q) (HU5.out.drewN q) (by omega) (by omega)).mono ?_
    rintro e w' ⟨rfl, q2, rfl⟩
    rw [same_ref]
    have HY6 := Lib.hid ((HY5.out.drewN q).drewN q2)
    have HR6 := Lib.hid ((HR5.out.drewN q).drewN q2)
    have HW6 := Lib.hid (below_drewN (below_drewN HW5.out q) q2)
    have hs : ((w5.drewN q).drewN q2).heap.size = w5.heap.size := rfl
    rw [← hs] at HY6 HR6
    clear HY5 HR5 HW5 HU5 HZ5 hs
    generalize (w5.drewN q).drewN q2 = w6 at *
    obtain ⟨k1, k2⟩ := within_clean HCL.out
    have HK1 := Lib.hid k1
    have HK2 := Lib.hid k2
    clear k1 k2
    go_wp2_with fail
    refine (within_any _ _ _ _ _ _ us xs w6 HY6.out HR6.out (by omega) (by omega)).mono ?_
    rintro e w7 ⟨rfl, hb⟩
    rw [HK1.out]
    have HY7 := Lib.hid ((HY6.out.below hb).more hb.size)
    have HR7 := Lib.hid ((HR6.out.below hb).more hb.size)
    have HW7 := Lib.hid (HW6.out.trans (hb.mono HW6.out.size))
    clear hb HY6 HR6 HW6
    go_wp2_with fail
    refine (within_any _ _ _ _ _ _ xs us w7 HR7.out HY7.out (by omega) (by omega)).mono ?_
    rintro e w8 ⟨rfl, hb⟩
    rw [HK2.out]
    have HW8 := Lib.hid (HW7.out.trans (hb.mono HW7.out.size))
    clear hb HY7 HR7 HW7
    go_wp2_with fail
    go_ret
    exact ⟨rfl, HW8.out⟩
set_option maxHeartbeats 800000 in
set_option maxRecDepth 100000 in
theorem turns_lifted (os : Os) (started : os.Started) (H : Type) (enc : TypeId × Value → H) :
    ReturnsInHanded {} Try.checked os 4 .any (Rows.litTurnsSpec.pre6 enc Try.prog Try.f4 Rows.litTurnsRow.domain false) (Rows.litTurnsSpec.post enc Try.prog Try.f4 false true false false) := by
  refine returnsInHanded_of_change (C := Try.checked) own_knob started (by kernel_rfl) Try.func4
    (ChangeSpec.witness6 (enc := enc) (C := Try.checked) false ⟨#[], #[.slice none 0 0], []⟩ 8 (by kernel_rfl) (by kernel_rfl) (by kernel_rfl) (by kernel_rfl)) ?_
  intro W base args ds gs before hval0 hW _ _
  have hval : ∀ (j : Nat) t v, Try.f4.params[j]? = some t → args[j]? = some v → Value.okWide Try.prog W .any base t v := hval0
  have hW' := hW
  obtain ⟨p, q, hA0, hV, rfl, _, _⟩ := hW
  have hA : DataW.TrodAll enc Try.prog W 0 (fun _ => true) true Try.f4.params.toList args.toList ds p := hA0
  rw [Try.params4] at hA hval
  obtain ⟨v0, d0, rfl, rfl, h0⟩ := trodAll_one hA
  obtain ⟨rfl, rfl⟩ := trodVars_none hV
  obtain ⟨A, n, c, xs, rfl, hR, h32, hn, hnil⟩ := open_lits (hval 0 22 v0 rfl rfl) h0
  clear hA0 hval0
  simp only [List.append_nil] at hW'
  have hlt : ∀ y ∈ p, y.block < W.heap.size := fun y hy => by simpa using hW'.lt y (by simp [hy])
  refine (turns_walk A n c xs W hR h32 hn).mono fun e W' ⟨he, hB⟩ => ?_
  subst he
  exact ⟨_, rfl, _, _, _, [], _, [], hW', trodAll_mk1 (shut_bool Try.underlying4 true), trodAll_mk1 (Below.trod laid_out (by kernel_rfl) (of_decide_eq_true (by kernel_rfl)) h0 hB hlt), rfl, hB.frame _, fun h => by cases h⟩

theorem litTurns_holds : Rows.LitTurnsSaid :=
  OpenClaim.holds_of_wide 4 Try.f4 rfl rfl rfl rfl rfl rfl rfl ⟨rfl, rfl, rfl, rfl, rfl⟩ rfl rfl rfl rfl rfl (by kernel_rfl) Try.func4 (by kernel_rfl)
    (of_decide_eq_true (by kernel_rfl)) (by unfold Func.isWrapper; first | (rw [if_pos (by decide +kernel)]; kernel_rfl) | (rw [if_neg (by decide +kernel)]; exact ⟨rfl, rfl⟩))
    (fun os started H enc _ => turns_lifted os started H enc)
#print axioms litTurns_holds
end Go.Proofs.Ytghclmbicdmboaa
