/- The contract of fresh. -/
import Derived.Test.YtaalaekiblifpaaFrsh
import Derived.Deep.RegionWith
import Derived.Deep.Slices
import Derived.Deep.Fields
namespace Go.Proofs.Ytaalaekiblifpaa
open Go.RowKit LitM TrailM EngM

/-- What fresh leaves. -/
def FrTo (v : Int) (w0 : World) (e : Ending) (w' : World) : Prop :=
  (e = .returned (.pointer none) ∧ Below w0.heap.size w0 w') ∨
  (0 ≤ v ∧ v ≤ 20 ∧ ∃ bs b F q all, e = .returned (.pointer (some ⟨bs, 0, none⟩)) ∧ StZ w0.heap.size w0 w' bs b F q all ∧ Fz v.toNat 80 F all)
set_option maxHeartbeats 6400000 in
set_option maxRecDepth 100000 in
theorem fresh_any (v : Int) (A : Option Addr) (n c : Nat) (cs : List (List Int)) (w : World) (hf : RdF w w.heap.size A n cs) (h32 : ∀ c ∈ cs, In32 c) (hsz : ∀ c ∈ cs, c.length * 4 ≤ 140737488351232) :
    Calls Try.prog 31 #[.agg #[.int .i64 v, .slice A n c]] w (FrTo v w) := by
  obtain ⟨W0, hW0⟩ : ∃ W0, W0 = w.alloc (.cells #[.int .i64 v, .slice A n c] 59) := ⟨_, rfl⟩
  have hs0 : W0.heap.size = w.heap.size + 1 := by rw [hW0]; simp
  have hB0 : Below w.heap.size w W0 := by rw [hW0]; exact (Below.refl _ _).alloc (Nat.le_refl _) _
  have HLF := Lib.hid hf.len
  have HT : Hid (∀ W, Below (w.heap.size + 1) W0 W → W.cell? ⟨w.heap.size, 0, none⟩ = some (.int .i64 v) ∧ W.cell? ⟨w.heap.size, 1, none⟩ = some (.slice A n c)) := by rw [hW0]; exact fun W h => frm_cells h
  have HRF : Hid (∀ W, Below (w.heap.size + 1) W0 W → RdF W (w.heap.size + 1) A n cs) := fun W h => (((hf.below hB0).more (by omega : w.heap.size ≤ w.heap.size + 1)).below h)
  have HBW : Hid (∀ W, Below (w.heap.size + 1) W0 W → Below w.heap.size w W) := fun W h => hB0.trans (h.mono (by omega))
  have HZ : Hid (∀ W, Below (w.heap.size + 1) W0 W → w.heap.size + 1 ≤ W.heap.size) := fun W h => by have := h.size; omega
  have HSW : Hid (∀ W bs b F q all, StZ (w.heap.size + 1) W0 W bs b F q all → StZ w.heap.size w W bs b F q all) := fun W bs b F q all h => by
    refine ⟨⟨h.sg.eng, h.sg.inv, fun k hk => by have := h.sg.own k hk; omega, hB0.trans (h.sg.out.mono (by omega)), by have := h.sg.hs; omega⟩, h.own, by have := h.hb; omega, ?_⟩
    obtain ⟨A', c', hh, ha⟩ := h.mem
    refine ⟨A', c', hh, ⟨?_, fun i hi => by have := ha.out i hi; exact ⟨this.1, by omega, this.2.2⟩⟩⟩
    obtain ⟨f, hf, he⟩ := ha.row
    exact ⟨f, hf, fun j hj => by
      obtain ⟨A2, c2, e1, e2, e3⟩ := he j hj
      exact ⟨A2, c2, e1, e2, fun i hi => by have := e3 i hi; exact ⟨this.1, by omega, this.2.2⟩⟩⟩
  have H32 := Lib.hid h32
  have HSZ := Lib.hid hsz
  have HR0 : Hid (Below (w.heap.size + 1) W0 W0) := Below.refl _ _
  clear hf h32 hsz hB0
  go_enter Try.func31, Try.ntmps31
  go_upto_region 1 with (fail)
  rw [← hW0]
  clear hW0 hs0
  obtain ⟨hf0, hf1⟩ := HT.out _ HR0.out
  by_cases hv0 : ¬ v < 0
  case neg =>
    have thv00 : decide (v < 0) = true := decide_eq_true (by omega)
    go_wp2_with fail
    go_ret
    exact .inl ⟨rfl, HBW.out _ HR0.out⟩
  have thv00 : decide (v < 0) = false := decide_eq_false (by omega)
  by_cases hv1 : ¬ 20 < v
  case neg =>
    have thv10 : decide (20 < v) = true := decide_eq_true (by omega)
    go_wp2_with fail
    go_ret
    exact .inl ⟨rfl, HBW.out _ HR0.out⟩
  have thv10 : decide (20 < v) = false := decide_eq_false (by omega)
  by_cases hn : ¬ 80 < n
  case neg =>
    have thn0 : decide (80 < n) = true := decide_eq_true (by omega)
    have thn1 : decide ((80 : Int) < (n : Int)) = true := decide_eq_true (by omega)
    go_wp2_with fail
    go_ret
    exact .inl ⟨rfl, HBW.out _ HR0.out⟩
  have thn0 : decide (80 < n) = false := decide_eq_false (by omega)
  have thn1 : decide ((80 : Int) < (n : Int)) = false := decide_eq_false (by omega)
  obtain ⟨N, rfl⟩ : ∃ N : Nat, v = (N : Int) := ⟨v.toNat, by omega⟩
  have hN : N ≤ 20 := by omega
  have HN1 : Hid (Calls Try.prog 11 #[.int .i64 (N : Int)] W0 fun e w' => ∃ b q, e = .returned (.pointer (some ⟨b, 0, none⟩)) ∧ Sg (w.heap.size + 1) W0 w' b (newE N) q) := (enew_any (N : Int) W0 (by omega)).mono fun e w' hm => by
    rw [Int.toNat_natCast] at hm
    obtain ⟨b, q, h1, h2, _⟩ := Sg.make hm (by omega) HR0.out (HZ.out _ HR0.out)
    exact ⟨b, q, h1, h2⟩
  go_wp2_with fail
  refine HN1.out.mono ?_
  rintro e w2 ⟨b, q, rfl, hsg⟩
  have HS : Hid (StZ (w.heap.size + 1) W0 (w2.alloc (.cells #[.pointer (some ⟨b, 0, none⟩), .slice none 0 0] 67)) w2.heap.size b (newE N) q []) := by
    have hb := (Below.refl w2.heap.size w2).alloc (Nat.le_refl _) (.cells #[.pointer (some ⟨b, 0, none⟩), .slice none 0 0] 67)
    exact ⟨hsg.below hb, hsg.fresh (Nat.le_refl _), hsg.hs, none, 0, blk_new w2 _, ⟨⟨fun _ => .int .i64 0, SlV.nil _ _ _ _, fun j hj => by simp at hj⟩, fun i hi => absurd hi (onB_none i)⟩⟩
  obtain ⟨bs, hbs⟩ : ∃ bs, bs = w2.heap.size := ⟨_, rfl⟩
  clear hsg HN1 HR0 thv00 thv10 thn0 thn1 hf0 hf1 hv0 hv1
  obtain ⟨hf0, hf1⟩ := HT.out _ HS.out.sg.out
  go_wp2_with fail
  rw [← hbs] at HS ⊢
  obtain ⟨w3, hw3⟩ : ∃ w3, w3 = w2.alloc (.cells #[.pointer (some ⟨b, 0, none⟩), .slice none 0 0] 67) := ⟨_, rfl⟩
  rw [← hw3] at HS hf0 hf1 ⊢
  clear hw3 hbs
  go_loopw [33] (fun p wr => ∃ k F q all, p = .int .i64 ((k : Nat) : Int) ∧ k ≤ n ∧ Hid (Fz N k F all) ∧ Hid (StZ (w.heap.size + 1) W0 wr bs b F q all)) (fun v _ => n - (intOf v).toNat)
  case atStart => exact ⟨0, _, _, _, rfl, by omega, Lib.hid (Fz.new N), HS⟩
  case round =>
    obtain ⟨k, F, q, all, rfl, hk, hP, hS⟩ := hrel
    clear HS hf0 hf1
    obtain ⟨hf0, hf1⟩ := HT.out _ hS.out.sg.out
    have hcf : F.cs.length ≤ 20000 := by have := hP.out.cs; omega
    by_cases hlt : k < n
    · have tk : decide (k < n) = true := decide_eq_true hlt
      obtain ⟨bk, o, Ak, nk, ck, rfl, hbk, hc, hRk⟩ := (HRF.out _ hS.out.sg.out).get hlt
      have hmem : cs.getD k [] ∈ cs := by
        have := HLF.out
        rw [List.getD, List.getElem?_eq_getElem (by omega)]; exact List.getElem_mem _
      have HI := Lib.hid (H32.out _ hmem)
      have hnl := HSZ.out _ hmem
      have hrl := hRk.len
      have hnk : nk * 4 ≤ 140737488351232 := by omega
      clear hmem hnl hrl
      generalize cs.getD k [] = xs at *
      have HRk := Lib.hid hRk
      have cs0 := hS.out.c0
      clear hRk
      cases hal : allOne xs with
      | false =>
        have HC := Lib.hid (rclean_no Ak nk ck xs wr (HRk.out.more (HZ.out _ hS.out.sg.out)) hnk hal)
        have HA := Lib.hid (hS.out.sg.addBig hcf Ak nk ck _ (HRk.out.more (HZ.out _ hS.out.sg.out)) HI.out hnk (fun ys hfit hcl => few_lits (by rw [hP.out.n]; exact hN) hfit hcl))
        clear HRk hal
        go_wp2_with fail
        refine HC.out.mono ?_
        rintro e w' ⟨rfl, rfl⟩
        go_wp2_with fail
        refine HA.out.mono ?_
        rintro e w4 ⟨F', q', ha, hs, _⟩
        have HB4 := Lib.hid (HBW.out _ hs.out)
        obtain ⟨r1, r2, rfl⟩ := ha.pair
        clear ha hs HA HC
        by_cases h20 : 20 < nk
        · have s0 : decide (20 < nk) = true := decide_eq_true h20
          have s1 : decide ((20 : Int) < (nk : Int)) = true := decide_eq_true (by omega)
          go_wp2_with fail
          go_ret
          exact .inl ⟨rfl, HB4.out⟩
        · have s0 : decide (20 < nk) = false := decide_eq_false h20
          have s1 : decide ((20 : Int) < (nk : Int)) = false := decide_eq_false (by omega)
          cases hr2 : (r2 != 0) with
          | true =>
            go_wp2_with fail
            go_ret
            exact .inl ⟨rfl, HB4.out⟩
          | false =>
            go_wp2_with fail
            go_ret
            exact .inl ⟨rfl, HB4.out⟩
      | true =>
        have HC := Lib.hid (rclean_yes Ak nk ck xs wr (HRk.out.more (HZ.out _ hS.out.sg.out)) hnk hal)
        clear hal
        go_wp2_with fail
        refine HC.out.mono ?_
        rintro e w4 ⟨vv, ys, rfl, hown, hcl, hb4⟩
        obtain ⟨A1, c1, rfl, hsl1, hon1⟩ := hown.sl
        have HS4 := Lib.hid (hS.out.below hb4)
        have HSL4 : Hid (SlV 43 1 w4 A1 ys.length c1 (lsC ys) ∧ ∀ i, onB A1 i → q.own i = .no ∧ w.heap.size + 1 ≤ i ∧ i ≠ bs) := ⟨hsl1, fun i hi => by
          have h1 := hon1 i hi
          have h2 := hS.out.lt
          have h3 := hS.out.sg.hs
          exact ⟨hS.out.sg.fresh h1, by omega, by omega⟩⟩
        have HCL := Lib.hid hcl
        have hR4 : Rd .i32 w4 w4.heap.size Ak nk xs := (HRk.out.below (hb4.mono (HZ.out _ hS.out.sg.out))).more (HZ.out _ HS4.out.sg.out)
        have HA := Lib.hid (HS4.out.sg.addBig hcf Ak nk ck _ hR4 HI.out hnk (fun ys hfit hcl => few_lits (by rw [hP.out.n]; exact hN) hfit hcl))
        have cs4 := HS4.out.c0
        clear hown hcl hb4 hsl1 hon1 hR4 HC HRk cs0
        go_wp2_with fail
        refine HA.out.mono ?_
        rintro e w5 ⟨F', q', ha, hs, hx⟩
        have HS5 := Lib.hid (HS4.out.ext hs hx)
        have HSL5 : Hid (SlV 43 1 w5 A1 ys.length c1 (lsC ys) ∧ ∀ i, onB A1 i → q'.own i = .no ∧ w.heap.size + 1 ≤ i ∧ i ≠ bs) := ⟨(hx.sl (fun i hi => (HSL4.out.2 i hi).1) HSL4.out.1).1, fun i hi => ⟨(hx.sl (fun i hi => (HSL4.out.2 i hi).1) HSL4.out.1).2 i hi, (HSL4.out.2 i hi).2⟩⟩
        have HB5 := Lib.hid (HBW.out _ hs.out)
        clear hs hx HA cs4
        by_cases h20 : 20 < nk
        · have s0 : decide (20 < nk) = true := decide_eq_true h20
          have s1 : decide ((20 : Int) < (nk : Int)) = true := decide_eq_true (by omega)
          obtain ⟨r1, r2, rfl⟩ := ha.pair
          clear ha
          go_wp2_with fail
          go_ret
          exact .inl ⟨rfl, HB5.out⟩
        have s0 : decide (20 < nk) = false := decide_eq_false h20
        have s1 : decide ((20 : Int) < (nk : Int)) = false := decide_eq_false (by omega)
        rcases ha with ⟨_, rfl, _⟩ | ⟨_, rfl, ys2, hcl2, hF'⟩
        · go_wp2_with fail
          go_ret
          exact .inl ⟨rfl, HB5.out⟩
        have HFz : Hid (Fz N (k + 1) F' (if bothB xs = true then all else all ++ [ys])) := by
          have e : ys2 = ys := hcl2.unique HCL.out
          subst e
          rw [hF']
          exact hP.out.add ys2 (bothB xs) hcl2.both
        clear hcl2 hF'
        cases hbo : bothB xs with
        | true =>
          rw [hbo] at HFz
          simp only [if_true] at HFz
          clear hbo
          go_wp2_with fail
          go_roundw
          case rel => exact ⟨k + 1, F', q', all, by go_num, by omega, HFz, HS5⟩
          case measure => simp [intOf]; omega
        | false =>
          rw [hbo] at HFz
          simp only [Bool.false_eq_true, if_false] at HFz
          clear hbo
          obtain ⟨A6, c6, hh6, ha6⟩ := HS5.out.mem
          obtain ⟨f6, hf6, hj6⟩ := ha6.row
          have HPU : Hid (∀ g' c7 w7, RowV 29 1 w7 g' (all.length + 1) c7 (appV f6 (all.length * 1) [.slice A1 ys.length c1]) → (onB A6 g' ∨ (w5.alloc (.cells #[.slice A1 ys.length c1] 29)).heap.size ≤ g') → Kf (fun i => onB A6 i) (w5.alloc (.cells #[.slice A1 ys.length c1] 29)) w7 →
              w7.cell? ⟨bs, 1, none⟩ = some (.slice A6 all.length c6) ∧ w7.frozen? ⟨bs, 1, none⟩ = false ∧ StZ (w.heap.size + 1) W0 (w7.setCell ⟨bs, 1, none⟩ (.slice (some ⟨g', 0, none⟩) (all ++ [ys]).length c7)) bs b F' q' (all ++ [ys])) := fun g' c7 w7 x1 x2 x3 => by
            have hb := (Below.refl w5.heap.size w5).alloc (Nat.le_refl _) (.cells #[.slice A1 ys.length c1] 29)
            have hS6 := HS5.out.below hb
            refine hS6.push (A := A6) (c := c6) (f := f6) (A1 := A1) (c1 := c1) ?_ (hf6.alloc _) (fun j hj => ?_) ha6.out (HSL5.out.1.alloc _) HSL5.out.2 x1 x2 x3
            · rw [hb.block bs HS5.out.lt]; exact hh6
            · obtain ⟨A', c', e1, e2, e3⟩ := hj6 j hj
              exact ⟨A', c', e1, e2.alloc _, e3⟩
          have HF6 := Lib.hid hf6
          have d1 : w5.cell? ⟨bs, 1, none⟩ = some (.slice A6 all.length c6) := by rw [Lib.cell_of_heap hh6]; rfl
          have hal : all.length ≤ 100000 := by have := hP.out.len; omega
          have HAL : Hid ((all ++ [ys]).length = all.length + 1) := Lib.hid (by simp)
          clear hh6 ha6 hf6 hj6 HSL5 HSL4 HS4
          go_wp2_with (at_builtin; refine wpList_append_sl _ rfl _ _ 27 29 rfl Try.underlying27 info_rrow rfl (by decide) (by decide) A6 all.length c6 f6 rfl (SlV.alloc HF6.out _) (by omega) ⟨w5.heap.size, 0, none⟩ 1 1 [.slice A1 ys.length c1] rfl rfl (box_news w5 29 [.slice A1 ys.length c1]) (by intro u hu; simp at hu; subst hu; rfl) (by decide) (by decide) ?_)
          intro g' c7 w7 hr7 hg7 hk7
          obtain ⟨y1, y2, y3⟩ := HPU.out g' c7 w7 (by rw [Nat.mul_one]; exact hr7) (by simpa using hg7) (hk7 _ (fun i hi => hi))
          have HS8 := Lib.hid y3
          rw [HAL.out] at HS8
          clear hr7 hg7 hk7 y3 HPU
          go_wp2_with fail
          go_roundw
          case rel => exact ⟨k + 1, F', q', all ++ [ys], by go_num, by omega, HFz, HS8⟩
          case measure => simp [intOf]; omega
    · have tk : decide (k < n) = false := decide_eq_false hlt
      obtain rfl : k = n := by omega
      have HFN : Hid (Fz N 80 F all) := ⟨hP.out.n, hP.out.L, hP.out.le, by have := hP.out.cs; omega, hP.out.pr, hP.out.al, by have := hP.out.len; omega⟩
      go_wp2_with fail
      go_ret
      exact .inr ⟨by omega, by omega, bs, b, F, q, all, rfl, HSW.out _ _ _ _ _ _ hS.out, HFN.out⟩
end Go.Proofs.Ytaalaekiblifpaa
