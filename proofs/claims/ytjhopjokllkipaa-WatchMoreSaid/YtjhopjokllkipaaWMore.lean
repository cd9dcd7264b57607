/- WatchMore is true: the statement Rows.WatchMoreSaid, without a condition. -/
import Derived.Test.YtjhopjokllkipaaDuo
import Derived.Test.YtjhopjokllkipaaWOpen
import Derived.Test.YtjhopjokllkipaaRows
import Derived.Deep.RegionWith
import Derived.Deep.Slices
import Derived.Deep.Fields
import Derived.ChangeSame
namespace Go.Proofs.Ytjhopjokllkipaa.WMore
open Go.ChangeShapes Go.WideShapes Go.ChangeAt Go.RowKit LitM TrailM EngM

section
variable {B b b1 b2 : Nat} {w0 w : World} {S S1 S2 : Eng}
theorem new_one {N : Nat} (hN : N ≤ 90000) (h0 : Below B w0 w) (hs : B ≤ w.heap.size) :
    Calls Try.prog 8 #[.int .i64 (N : Int)] w fun e w' => ∃ b, e = .returned (.pointer (some ⟨b, 0, none⟩)) ∧ Solo B w0 w' b (newE N) :=
  (enew_any (N : Int) w (by omega)).mono fun e w' hm => by rw [Int.toNat_natCast] at hm; exact Solo.make hm hN h0 hs
theorem new_two {N : Nat} (hN : N ≤ 90000) (h : Solo B w0 w b1 S1) :
    Calls Try.prog 8 #[.int .i64 (N : Int)] w fun e w' => ∃ b, e = .returned (.pointer (some ⟨b, 0, none⟩)) ∧ Duo B w0 w' b1 S1 b (newE N) :=
  (enew_any (N : Int) w (by omega)).mono fun e w' hm => by rw [Int.toNat_natCast] at hm; exact Solo.more h hm hN
end
theorem boxes_cells {w W : World} {v x y : Int} {A : Option Addr} {n c : Nat} (h : Below (w.heap.size + 2) ((w.alloc (.cells #[.int .i64 v, .slice A n c] 59)).alloc (.cells #[.int .i64 x, .int .i64 y] 61)) W) :
    W.cell? ⟨w.heap.size, 0, none⟩ = some (.int .i64 v) ∧ W.cell? ⟨w.heap.size, 1, none⟩ = some (.slice A n c) ∧ W.cell? ⟨w.heap.size + 1, 0, none⟩ = some (.int .i64 x) ∧ W.cell? ⟨w.heap.size + 1, 1, none⟩ = some (.int .i64 y) := by
  rw [h.cell (p := ⟨w.heap.size, 0, none⟩) (by simp), h.cell (p := ⟨w.heap.size, 1, none⟩) (by simp), h.cell (p := ⟨w.heap.size + 1, 0, none⟩) (by simp), h.cell (p := ⟨w.heap.size + 1, 1, none⟩) (by simp)]
  have hz : w.heap.size + 1 = (w.alloc (.cells #[.int .i64 v, .slice A n c] 59)).heap.size := by simp
  have e0 := blk_new w (.cells #[.int .i64 v, .slice A n c] 59)
  have e1 := blk_new (w.alloc (.cells #[.int .i64 v, .slice A n c] 59)) (.cells #[.int .i64 x, .int .i64 y] 61)
  rw [← hz] at e1
  refine ⟨?_, ?_, Lib.cell_of_heap e1 0, Lib.cell_of_heap e1 1⟩
  · rw [World.cell?_alloc_lt _ _ _ (by simp)]; exact Lib.cell_of_heap e0 0
  · rw [World.cell?_alloc_lt _ _ _ (by simp)]; exact Lib.cell_of_heap e0 1

set_option maxHeartbeats 6400000 in
set_option maxRecDepth 100000 in
theorem walk (v : Int) (A : Option Addr) (n c : Nat) (cs : List (List Int)) (A2 : Option Addr) (n2 c2 : Nat) (xs : List Int) (x y : Int) (w : World)
    (hf : RdF w w.heap.size A n cs) (hx : Rd .i32 w w.heap.size A2 n2 xs) (h32 : ∀ c ∈ cs, In32 c) (hx32 : In32 xs) :
    Calls Try.prog 6 #[.agg #[.int .i64 v, .slice A n c], .slice A2 n2 c2, .agg #[.int .i64 x, .int .i64 y]] w fun e w' => e = .returned (.bool true) ∧ Below w.heap.size w w' := by
  obtain ⟨W0, hW0⟩ : ∃ W0, W0 = (w.alloc (.cells #[.int .i64 v, .slice A n c] 59)).alloc (.cells #[.int .i64 x, .int .i64 y] 61) := ⟨_, rfl⟩
  have hs0 : W0.heap.size = w.heap.size + 2 := by rw [hW0]; simp
  have hB0 : Below w.heap.size w W0 := by rw [hW0]; exact ((Below.refl _ _).alloc (Nat.le_refl _) _).alloc (by simp) _
  have HLF := Lib.hid hf.len
  have HLX := Lib.hid hx.len
  have HT : Hid (∀ W, Below (w.heap.size + 2) W0 W → W.cell? ⟨w.heap.size, 0, none⟩ = some (.int .i64 v) ∧ W.cell? ⟨w.heap.size, 1, none⟩ = some (.slice A n c) ∧ W.cell? ⟨w.heap.size + 1, 0, none⟩ = some (.int .i64 x) ∧ W.cell? ⟨w.heap.size + 1, 1, none⟩ = some (.int .i64 y)) := by rw [hW0]; exact fun W h => boxes_cells h
  have HRF : Hid (∀ W, Below (w.heap.size + 2) W0 W → RdF W (w.heap.size + 2) A n cs) := fun W h => (((hf.below hB0).more (by omega : w.heap.size ≤ w.heap.size + 2)).below h)
  have HRX : Hid (∀ W, Below (w.heap.size + 2) W0 W → Rd .i32 W (w.heap.size + 2) A2 n2 xs) := fun W h => (((hx.below hB0).more (by omega : w.heap.size ≤ w.heap.size + 2)).below h)
  have HBW : Hid (∀ W, Below (w.heap.size + 2) W0 W → Below w.heap.size w W) := fun W h => hB0.trans (h.mono (by omega))
  have HZ : Hid (∀ W, Below (w.heap.size + 2) W0 W → w.heap.size + 2 ≤ W.heap.size) := fun W h => by have := h.size; omega
  have H32 := Lib.hid h32
  have HX32 := Lib.hid hx32
  clear hf hx h32 hx32 hB0
  go_enter Try.func6, Try.ntmps6
  go_wp2_with fail
  rw [← hW0]
  refine (walive_any W0).mono ?_
  rintro e w1 ⟨rfl, hB⟩
  have HB1 : Hid (Below (w.heap.size + 2) W0 w1) := by rw [← hs0]; exact hB
  obtain ⟨hf0, hf1, hp0, hp1⟩ := HT.out _ HB1.out
  clear hB hW0 hs0
  by_cases hv0 : ¬ v < 0
  case neg =>
    have thv00 : decide (v < 0) = true := decide_eq_true (by omega)
    go_wp2_with fail
    go_ret
    exact ⟨rfl, HBW.out _ HB1.out⟩
  have thv00 : decide (v < 0) = false := decide_eq_false (by omega)
  by_cases hv1 : ¬ 30 < v
  case neg =>
    have thv10 : decide (30 < v) = true := decide_eq_true (by omega)
    go_wp2_with fail
    go_ret
    exact ⟨rfl, HBW.out _ HB1.out⟩
  have thv10 : decide (30 < v) = false := decide_eq_false (by omega)
  by_cases hn : ¬ 60 < n
  case neg =>
    have thn0 : decide (60 < n) = true := decide_eq_true (by omega)
    have thn1 : decide ((60 : Int) < (n : Int)) = true := decide_eq_true (by omega)
    go_wp2_with fail
    go_ret
    exact ⟨rfl, HBW.out _ HB1.out⟩
  have thn0 : decide (60 < n) = false := decide_eq_false (by omega)
  have thn1 : decide ((60 : Int) < (n : Int)) = false := decide_eq_false (by omega)
  by_cases hn2 : ¬ 20 < n2
  case neg =>
    have thn20 : decide (20 < n2) = true := decide_eq_true (by omega)
    have thn21 : decide ((20 : Int) < (n2 : Int)) = true := decide_eq_true (by omega)
    go_wp2_with fail
    go_ret
    exact ⟨rfl, HBW.out _ HB1.out⟩
  have thn20 : decide (20 < n2) = false := decide_eq_false (by omega)
  have thn21 : decide ((20 : Int) < (n2 : Int)) = false := decide_eq_false (by omega)
  by_cases hx0 : ¬ x < 0
  case neg =>
    have thx00 : decide (x < 0) = true := decide_eq_true (by omega)
    go_wp2_with fail
    go_ret
    exact ⟨rfl, HBW.out _ HB1.out⟩
  have thx00 : decide (x < 0) = false := decide_eq_false (by omega)
  by_cases hx1 : ¬ (n : Int) < x
  case neg =>
    have thx10 : decide ((n : Int) < x) = true := decide_eq_true (by omega)
    go_wp2_with fail
    go_ret
    exact ⟨rfl, HBW.out _ HB1.out⟩
  have thx10 : decide ((n : Int) < x) = false := decide_eq_false (by omega)
  by_cases hy0 : ¬ y < 0
  case neg =>
    have thy00 : decide (y < 0) = true := decide_eq_true (by omega)
    go_wp2_with fail
    go_ret
    exact ⟨rfl, HBW.out _ HB1.out⟩
  have thy00 : decide (y < 0) = false := decide_eq_false (by omega)
  by_cases hy1 : ¬ (n2 : Int) < y
  case neg =>
    have thy10 : decide ((n2 : Int) < y) = true := decide_eq_true (by omega)
    go_wp2_with fail
    go_ret
    exact ⟨rfl, HBW.out _ HB1.out⟩
  have thy10 : decide ((n2 : Int) < y) = false := decide_eq_false (by omega)
  obtain ⟨N, rfl⟩ : ∃ N : Nat, v = (N : Int) := ⟨v.toNat, by omega⟩
  have hN : N ≤ 30 := by omega
  go_wp2_with fail
  have HN1 : Hid (∀ q, Calls Try.prog 8 #[.int .i64 (N : Int)] (w1.drewN q) fun e w' => ∃ b, e = .returned (.pointer (some ⟨b, 0, none⟩)) ∧ Solo (w.heap.size + 2) W0 w' b (newE N)) := fun q =>
    new_one (by omega) (below_drewN HB1.out q) (HZ.out _ (below_drewN HB1.out q))
  clear thv00 thv10 thn0 thn1 thn20 thn21 thx00 thx10 thy00 thy10
  go_cut [7, 8] (fun p q wx => ∃ b1 b2, p = .pointer (some ⟨b1, 0, none⟩) ∧ q = .pointer (some ⟨b2, 0, none⟩) ∧ Hid (Duo (w.heap.size + 2) W0 wx b1 (newE N) b2 (newE N)))
  case first =>
    refine wp_region_any (by kernel_rfl) ?_
    change wpAny _ _ _ _ _ _ _ (World.drew _)
    refine wpAny_take (i := 0) (v := ?_) rfl (by kernel_rfl) (by kernel_rfl) (by kernel_rfl) (fun _ _ _ h => h) (Or.inl ⟨by kernel_rfl, ?_⟩) ?_
    rotate_left 1
    · (intro w; go_simp <;> with_reducible rfl)
    go_simp
    refine wpAny_take (i := 3) (v := ?_) rfl (by kernel_rfl) (by kernel_rfl) (by kernel_rfl) (fun _ _ _ h => h) (Or.inl ⟨by kernel_rfl, ?_⟩) ?_
    rotate_left 1
    · (intro w; go_simp <;> with_reducible rfl)
    go_simp
    refine wpAny_ready (rs := [1, 4]) (by kernel_rfl) (by simp) ?_
    refine AllReady.cons rfl (fun K hK => ?_) ?_
    ·
      go_simp
      refine hK _ _ ?_; clear hK K
      refine wpAny_ready (rs := [2, 4]) (by kernel_rfl) (by simp) ?_
      refine AllReady.cons rfl (fun K hK => ?_) ?_
      ·
        go_simp
        go_wp2_with ((go_at_call 8; refine (HN1.out 1).mono ?_; rintro e w2 ⟨b1, rfl, h1⟩; have HS1 := Lib.hid h1; obtain ⟨g0, g1, g2, g3⟩ := HT.out _ h1.out; have HN2 := Lib.hid (new_two (N := N) (by omega) h1); clear h1))
        first | (refine hK _ _ ?_; clear hK K) | skip
        refine wpAny_ready (rs := [4]) (by kernel_rfl) (by simp) ?_
        refine AllReady.cons rfl (fun K hK => ?_) ?_
        ·
          go_simp
          refine hK _ _ ?_; clear hK K
          refine wpAny_ready (rs := [5]) (by kernel_rfl) (by simp) ?_
          refine AllReady.cons rfl (fun K hK => ?_) ?_
          ·
            go_simp
            go_wp2_with ((go_at_call 8; refine HN2.out.mono ?_; rintro e w3 ⟨b2, rfl, h2⟩; have HD := Lib.hid h2; clear h2))
            first | (refine hK _ _ ?_; clear hK K) | skip
            refine wpAny_take (i := 6) (v := ?_) rfl (by kernel_rfl) (by kernel_rfl) (by kernel_rfl) (fun _ _ _ h => h) (Or.inl ⟨by kernel_rfl, ?_⟩) ?_
            rotate_left 1
            · (intro w; go_simp <;> with_reducible rfl)
            go_simp
            refine wpAny_take (i := 7) (v := ?_) rfl (by kernel_rfl) (by kernel_rfl) (by kernel_rfl) (fun _ _ _ h => h) (Or.inl ⟨by kernel_rfl, ?_⟩) ?_
            rotate_left 1
            · (intro w; go_simp <;> with_reducible rfl)
            go_simp
            refine wpAny_done (by kernel_rfl) ?_ _
            (go_wp2_with fail; go_meet; exact ⟨b1, b2, rfl, rfl, HD⟩)
          exact AllReady.nil
        exact AllReady.nil
      refine AllReady.cons rfl (fun K hK => ?_) ?_
      ·
        go_simp
        refine hK _ _ ?_; clear hK K
        refine wpAny_ready (rs := [2]) (by kernel_rfl) (by simp) ?_
        refine AllReady.cons rfl (fun K hK => ?_) ?_
        ·
          go_simp
          go_wp2_with ((go_at_call 8; refine (HN1.out 1).mono ?_; rintro e w2 ⟨b1, rfl, h1⟩; have HS1 := Lib.hid h1; obtain ⟨g0, g1, g2, g3⟩ := HT.out _ h1.out; have HN2 := Lib.hid (new_two (N := N) (by omega) h1); clear h1))
          first | (refine hK _ _ ?_; clear hK K) | skip
          refine wpAny_ready (rs := [5]) (by kernel_rfl) (by simp) ?_
          refine AllReady.cons rfl (fun K hK => ?_) ?_
          ·
            go_simp
            go_wp2_with ((go_at_call 8; refine HN2.out.mono ?_; rintro e w3 ⟨b2, rfl, h2⟩; have HD := Lib.hid h2; clear h2))
            first | (refine hK _ _ ?_; clear hK K) | skip
            refine wpAny_take (i := 6) (v := ?_) rfl (by kernel_rfl) (by kernel_rfl) (by kernel_rfl) (fun _ _ _ h => h) (Or.inl ⟨by kernel_rfl, ?_⟩) ?_
            rotate_left 1
            · (intro w; go_simp <;> with_reducible rfl)
            go_simp
            refine wpAny_take (i := 7) (v := ?_) rfl (by kernel_rfl) (by kernel_rfl) (by kernel_rfl) (fun _ _ _ h => h) (Or.inl ⟨by kernel_rfl, ?_⟩) ?_
            rotate_left 1
            · (intro w; go_simp <;> with_reducible rfl)
            go_simp
            refine wpAny_done (by kernel_rfl) ?_ _
            (go_wp2_with fail; go_meet; exact ⟨b1, b2, rfl, rfl, HD⟩)
          exact AllReady.nil
        exact AllReady.nil
      exact AllReady.nil
    refine AllReady.cons rfl (fun K hK => ?_) ?_
    ·
      go_simp
      refine hK _ _ ?_; clear hK K
      refine wpAny_ready (rs := [1]) (by kernel_rfl) (by simp) ?_
      refine AllReady.cons rfl (fun K hK => ?_) ?_
      ·
        go_simp
        refine hK _ _ ?_; clear hK K
        refine wpAny_ready (rs := [2]) (by kernel_rfl) (by simp) ?_
        refine AllReady.cons rfl (fun K hK => ?_) ?_
        ·
          go_simp
          go_wp2_with ((go_at_call 8; refine (HN1.out 1).mono ?_; rintro e w2 ⟨b1, rfl, h1⟩; have HS1 := Lib.hid h1; obtain ⟨g0, g1, g2, g3⟩ := HT.out _ h1.out; have HN2 := Lib.hid (new_two (N := N) (by omega) h1); clear h1))
          first | (refine hK _ _ ?_; clear hK K) | skip
          refine wpAny_ready (rs := [5]) (by kernel_rfl) (by simp) ?_
          refine AllReady.cons rfl (fun K hK => ?_) ?_
          ·
            go_simp
            go_wp2_with ((go_at_call 8; refine HN2.out.mono ?_; rintro e w3 ⟨b2, rfl, h2⟩; have HD := Lib.hid h2; clear h2))
            first | (refine hK _ _ ?_; clear hK K) | skip
            refine wpAny_take (i := 6) (v := ?_) rfl (by kernel_rfl) (by kernel_rfl) (by kernel_rfl) (fun _ _ _ h => h) (Or.inl ⟨by kernel_rfl, ?_⟩) ?_
            rotate_left 1
            · (intro w; go_simp <;> with_reducible rfl)
            go_simp
            refine wpAny_take (i := 7) (v := ?_) rfl (by kernel_rfl) (by kernel_rfl) (by kernel_rfl) (fun _ _ _ h => h) (Or.inl ⟨by kernel_rfl, ?_⟩) ?_
            rotate_left 1
            · (intro w; go_simp <;> with_reducible rfl)
            go_simp
            refine wpAny_done (by kernel_rfl) ?_ _
            (go_wp2_with fail; go_meet; exact ⟨b1, b2, rfl, rfl, HD⟩)
          exact AllReady.nil
        exact AllReady.nil
      exact AllReady.nil
    exact AllReady.nil
  case rest =>
  obtain ⟨b1, b2, rfl, rfl, HD⟩ := hcut
  clear hf0 hf1 hp0 hp1 HN1 HB1
  obtain ⟨hf0, hf1, hp0, hp1⟩ := HT.out _ HD.out.out
  go_wp2_with fail
  go_loopw [72] (fun p wr => ∃ k F G, p = .int .i64 ((k : Nat) : Int) ∧ k ≤ n ∧ Rel1 N k F G ∧ Hid (Duo (w.heap.size + 2) W0 wr b1 F b2 G)) (fun v _ => n - (intOf v).toNat)
  case atStart => exact ⟨0, _, _, rfl, by omega, Rel1.new N, HD⟩
  case round =>
    obtain ⟨k, F, G, rfl, hk, hR, HD2⟩ := hrel
    clear HD hf0 hf1 hp0 hp1
    obtain ⟨hf0, hf1, hp0, hp1⟩ := HT.out _ HD2.out.out
    have hcf : F.cs.length ≤ 20000 := by have := hR.cf; omega
    have hcg : G.cs.length ≤ 20000 := by have := hR.cg; omega
    by_cases hlt : k < n
    · have tk : decide (k < n) = true := decide_eq_true hlt
      obtain ⟨bk, o, Ak, nk, ck, rfl, hbk, hc, hRk⟩ := (HRF.out _ HD2.out.out).get hlt
      have hmem : cs.getD k [] ∈ cs := by
        have := HLF.out
        rw [List.getD, List.getElem?_eq_getElem (by omega)]; exact List.getElem_mem _
      have HI := Lib.hid (H32.out _ hmem)
      clear hmem
      by_cases hnk : ¬ 20 < nk
      case neg =>
        have s0 : decide (20 < nk) = true := decide_eq_true (by omega)
        have s1 : decide ((20 : Int) < (nk : Int)) = true := decide_eq_true (by omega)
        go_wp2_with fail
        go_ret
        exact ⟨rfl, HBW.out _ HD2.out.out⟩
      have s0 : decide (20 < nk) = false := decide_eq_false (by omega)
      have s1 : decide ((20 : Int) < (nk : Int)) = false := decide_eq_false (by omega)
      have HK := Lib.hid hRk
      by_cases hkx : (k : Int) < x
      · have tx : decide ((k : Int) < x) = true := decide_eq_true hkx
        have HA := Lib.hid (HD2.out.add hcf Ak nk ck _ (hRk.more (HZ.out _ HD2.out.out)) HI.out (by omega))
        clear hRk
        go_wp2_with fail
        refine HA.out.mono ?_
        rintro e w4 ⟨r1, r2, F', rfl, aF, h4⟩
        have HS4 := Lib.hid h4.swap
        have HB := Lib.hid (HS4.out.add hcg Ak nk ck _ ((HK.out.keep fun p hp => (HS4.out.out.cell hp).trans (HD2.out.out.cell hp).symm).more (HZ.out _ HS4.out.out)) HI.out (by omega))
        have HAF := Lib.hid aF
        clear h4 aF HA
        go_wp2_with fail
        refine HB.out.mono ?_
        rintro e w5 ⟨r3, r4, G', rfl, aG, h5⟩
        have HD5 := Lib.hid h5.swap
        have HR5 := Lib.hid (hR.both HAF.out aG)
        clear h5 aG HB HS4
        go_wp2_with fail
        go_roundw
        case rel => exact ⟨k + 1, F', G', by go_num, by omega, HR5.out, HD5⟩
        case measure => simp [intOf]; omega
      · have tx : decide ((k : Int) < x) = false := decide_eq_false hkx
        have HS4 := Lib.hid HD2.out.swap
        have HB := Lib.hid (HS4.out.add hcg Ak nk ck _ (hRk.more (HZ.out _ HD2.out.out)) HI.out (by omega))
        clear hRk
        go_wp2_with fail
        refine HB.out.mono ?_
        rintro e w5 ⟨r3, r4, G', rfl, aG, h5⟩
        have HD5 := Lib.hid h5.swap
        have HR5 := Lib.hid (hR.all aG)
        clear h5 aG HB HS4
        go_wp2_with fail
        go_roundw
        case rel => exact ⟨k + 1, F, G', by go_num, by omega, HR5.out, HD5⟩
        case measure => simp [intOf]; omega
    have tk : decide (k < n) = false := decide_eq_false hlt
    obtain rfl : k = n := by omega
    have HR2 := Lib.hid hR.two
    clear hR hcf hcg
    go_wp2_with fail
    clear tk hlt hk
    go_loopw [93] (fun p wr => ∃ j F G, p = .int .i64 ((j : Nat) : Int) ∧ j ≤ n2 ∧ Hid (Rel2 N k F G) ∧ Hid (Duo (w.heap.size + 2) W0 wr b1 F b2 G)) (fun v _ => n2 - (intOf v).toNat)
    case atStart => exact ⟨0, F, G, rfl, by omega, HR2, HD2⟩
    case round =>
      obtain ⟨j, F1, G1, rfl, hj, HR3, HD3⟩ := hrel
      clear HD2 HR2 hf0 hf1 hp0 hp1
      obtain ⟨hf0, hf1, hp0, hp1⟩ := HT.out _ HD3.out.out
      by_cases hlt : j < n2
      · have tj : decide (j < n2) = true := decide_eq_true hlt
        obtain ⟨bj, o, rfl, hbj, hc⟩ := (HRX.out _ HD3.out.out).get hlt
        have hi := HX32.out j
        generalize xs.getD j 0 = l at *
        obtain ⟨i0, i1⟩ := hi
        have HDE := Lib.hid (HD3.out.swap.decide l i0 i1)
        by_cases hz : eErr G1 l = 0
        · rw [hz] at HDE
          by_cases hjy : (j : Int) < y
          · have ty : decide ((j : Int) < y) = true := decide_eq_true hjy
            go_wp2_with fail
            refine HDE.out.mono ?_
            rintro e w4 ⟨rfl, h4⟩
            have HS4 := Lib.hid h4.swap
            have HDF := Lib.hid (HS4.out.decide l i0 i1)
            rw [HR3.out.few hz] at HDF
            have HR4 := Lib.hid (HR3.out.both hz)
            clear h4 HDE hf0 hf1 hp0 hp1 hc
            obtain ⟨hf0, hf1, hp0, hp1⟩ := HT.out _ HS4.out.out
            go_wp2_with fail
            refine HDF.out.mono ?_
            rintro e w5 ⟨rfl, h5⟩
            have HD5 := Lib.hid h5
            clear h5 HDF HS4
            go_wp2_with fail
            go_roundw
            case rel => exact ⟨j + 1, _, _, by go_num, by omega, HR4, HD5⟩
            case measure => simp [intOf]; omega
          · have ty : decide ((j : Int) < y) = false := decide_eq_false hjy
            go_wp2_with fail
            refine HDE.out.mono ?_
            rintro e w4 ⟨rfl, h4⟩
            have HS4 := Lib.hid h4.swap
            have HR4 := Lib.hid (HR3.out.all l)
            clear h4 HDE hf0 hf1 hp0 hp1 hc
            obtain ⟨hf0, hf1, hp0, hp1⟩ := HT.out _ HS4.out.out
            go_wp2_with fail
            go_roundw
            case rel => exact ⟨j + 1, _, _, by go_num, by omega, HR4, HS4⟩
            case measure => simp [intOf]; omega
        · have tz : (eErr G1 l == 0) = false := by simpa using hz
          have HR4 := Lib.hid (HR3.out.skip hz)
          generalize eErr G1 l = ee at *
          go_wp2_with fail
          refine HDE.out.mono ?_
          rintro e w4 ⟨rfl, h4⟩
          have HS4 := Lib.hid h4.swap
          clear h4 HDE hf0 hf1 hp0 hp1 hc
          go_wp2_with fail
          go_roundw
          case rel => exact ⟨j + 1, _, _, by go_num, by omega, HR4, HS4⟩
          case measure => simp [intOf]; omega
      have tj : decide (j < n2) = false := decide_eq_false hlt
      have hcf : F1.cs.length ≤ 20000 := by have := HR3.out.cf; omega
      have hcg : G1.cs.length ≤ 20000 := by have := HR3.out.cg; omega
      have HQ : Hid ((propF G1).2 < 0 → _) := fun hr => HR3.out.prop HD3.out.one.inv HD3.out.swap.one.inv hr
      have HP1 := Lib.hid (HD3.out.prop hcf)
      go_wp2_with fail
      refine HP1.out.mono ?_
      rintro e w4 ⟨rfl, h4⟩
      have HS4 := Lib.hid h4.swap
      have HP2 := Lib.hid (HS4.out.prop hcg)
      clear h4 HP1 HD3 hf0 hf1 hp0 hp1
      go_wp2_with fail
      refine HP2.out.mono ?_
      rintro e w5 ⟨rfl, h5⟩
      have HD4 := Lib.hid h5.swap
      clear h5 HP2 HS4
      obtain ⟨hf0, hf1, hp0, hp1⟩ := HT.out _ HD4.out.out
      by_cases hge : 0 ≤ (propF G1).2
      · have tg : decide (0 ≤ (propF G1).2) = true := decide_eq_true hge
        go_wp2_with fail
        go_ret
        exact ⟨rfl, HBW.out _ HD4.out.out⟩
      have tg : decide (0 ≤ (propF G1).2) = false := decide_eq_false hge
      obtain ⟨hm, hv⟩ := HQ.out (by omega)
      rw [hm]
      have HV := Lib.hid hv
      clear hm hv HQ HR3 hcf hcg
      generalize (propF F1).1 = F2 at *
      generalize propF G1 = G2 at *
      go_wp2_with fail
      obtain ⟨B1, a1, V1, _⟩ := HD4.out.one.asks
      obtain ⟨B2, a2, V2, _⟩ := HD4.out.swap.one.asks
      have HV1 := Lib.hid V1
      have HV2 := Lib.hid V2
      clear V1 V2
      have HBX := Lib.hid (HBW.out _ HD4.out.out)
      clear hp0 hp1 HD4
      go_loopw [15] (fun p wr => ∃ u : Nat, p = .int .i64 (u : Int) ∧ 1 ≤ u ∧ u ≤ N + 1 ∧ wr = w5) (fun v _ => N + 1 - (intOf v).toNat)
      case atStart => exact ⟨1, rfl, by omega, by omega, rfl⟩
      case round =>
        obtain ⟨u, rfl, hu, hu2, rfl⟩ := hrel
        by_cases hlu : u ≤ N
        · have tu : decide (u ≤ N) = true := decide_eq_true hlu
          have tu2 : decide ((u : Int) ≤ (N : Int)) = true := decide_eq_true (by omega)
          have hwr : IntKind.i32.wrap (u : Int) = (u : Int) := by rw [IntKind.wrap_i32]; omega
          have HX := Lib.hid (HV1.out (u : Int) (by omega) (by omega))
          by_cases hz : valZ F2.L (u : Int) = 0
          · rw [hz] at HX
            go_wp2_with fail
            refine HX.out.mono ?_
            rintro e w' ⟨rfl, rfl⟩
            go_wp2_with fail
            go_roundw
            case rel => exact ⟨u + 1, by go_num, by omega, by omega, by first | trivial | rfl⟩
            case measure => simp [intOf]; omega
          · have HY := Lib.hid (HV2.out (u : Int) (by omega) (by omega))
            rw [HV.out (u : Int) (by omega) (by omega) hz] at HY
            have tz : (valZ F2.L (u : Int) != 0) = true := by simpa using hz
            generalize valZ F2.L (u : Int) = z at *
            have tz2 : (z != z) = false := by simp
            go_wp2_with fail
            refine HX.out.mono ?_
            rintro e w' ⟨rfl, rfl⟩
            go_wp2_with fail
            refine HY.out.mono ?_
            rintro e w' ⟨rfl, rfl⟩
            go_wp2_with fail
            go_roundw
            case rel => exact ⟨u + 1, by go_num, by omega, by omega, by first | trivial | rfl⟩
            case measure => simp [intOf]; omega
        have tu : decide (u ≤ N) = false := decide_eq_false hlu
        have tu2 : decide ((u : Int) ≤ (N : Int)) = false := decide_eq_false (by omega)
        go_wp2_with fail
        go_ret
        exact ⟨rfl, HBX.out⟩
set_option maxHeartbeats 800000 in
set_option maxRecDepth 100000 in
theorem lifted (os : Os) (started : os.Started) (H : Type) (enc : TypeId × Value → H) :
    ReturnsInHanded {} Try.checked os 6 .any (Rows.watchMoreSpec.pre6 enc Try.prog Try.f6 Rows.watchMoreRow.domain false) (Rows.watchMoreSpec.post enc Try.prog Try.f6 false true false false) := by
  refine returnsInHanded_of_change (C := Try.checked) own_knob5 started (by kernel_rfl) Try.func6
    (ChangeSpec.witness6 (enc := enc) (C := Try.checked) false ⟨#[], #[.agg #[.int .i64 0, .slice none 0 0], .slice none 0 0, .agg #[.int .i64 0, .int .i64 0]], []⟩ 8 (by kernel_rfl) (by kernel_rfl) (by kernel_rfl) (by kernel_rfl)) ?_
  intro W base args ds gs before hval0 hW _ _
  have hval : ∀ (j : Nat) t v, Try.f6.params[j]? = some t → args[j]? = some v → Value.okWide Try.prog W .any base t v := hval0
  have hW' := hW
  obtain ⟨p, q, hA0, hV, rfl, _, _⟩ := hW
  have hA : DataW.TrodAll enc Try.prog W 0 (fun _ => true) true Try.f6.params.toList args.toList ds p := hA0
  rw [Try.params6] at hA hval
  obtain ⟨v0, v1, v2, d0, d1, d2, p0, p1, p2, rfl, rfl, rfl, h0, h1, h2⟩ := trodAll_three hA
  obtain ⟨rfl, rfl⟩ := trodVars_none hV
  obtain ⟨a0, A0, n0, c0, cs0, rfl, hR0, h320, _⟩ := open_form (hval 0 59 v0 rfl rfl) h0
  obtain ⟨A1, n1, c1, xs1, rfl, hR1, h321, _⟩ := open_lits (hval 1 44 v1 rfl rfl) h1
  obtain ⟨x2, y2, rfl⟩ := open_pair (hval 2 61 v2 rfl rfl) h2
  clear hA0 hval0
  have hlt0 : ∀ y ∈ p0, y.block < W.heap.size := fun y hy => by simpa using hW'.lt y (by simp [hy])
  have hlt1 : ∀ y ∈ p1, y.block < W.heap.size := fun y hy => by simpa using hW'.lt y (by simp [hy])
  have hlt2 : ∀ y ∈ p2, y.block < W.heap.size := fun y hy => by simpa using hW'.lt y (by simp [hy])
  refine (walk a0 A0 n0 c0 cs0 A1 n1 c1 xs1 x2 y2 W hR0 hR1 h320 h321).mono fun e W' ⟨he, hB⟩ => ?_
  subst he
  exact ⟨_, rfl, _, _, _, [], _, [], hW', trodAll_mk1 (shut_bool Try.underlying4 true), trodAll_mk3 (Below.trod laid_out (by kernel_rfl) (of_decide_eq_true (by kernel_rfl)) h0 hB hlt0) (Below.trod laid_out (by kernel_rfl) (of_decide_eq_true (by kernel_rfl)) h1 hB hlt1) (Below.trod laid_out (by kernel_rfl) (of_decide_eq_true (by kernel_rfl)) h2 hB hlt2), rfl, hB.frame _, fun h => by cases h⟩

theorem proved : Rows.WatchMoreSaid :=
  OpenClaim.holds_of_wide 6 Try.f6 rfl rfl rfl rfl rfl rfl rfl ⟨rfl, rfl, rfl, rfl, rfl⟩ rfl rfl rfl rfl rfl (by kernel_rfl) Try.func6 (by kernel_rfl)
    (of_decide_eq_true (by kernel_rfl)) (by unfold Func.isWrapper; first | (rw [if_pos (by decide +kernel)]; kernel_rfl) | (rw [if_neg (by decide +kernel)]; exact ⟨rfl, rfl⟩))
    (fun os started H enc _ => lifted os started H enc)
end Go.Proofs.Ytjhopjokllkipaa.WMore
namespace Go.Proofs.Ytjhopjokllkipaa
theorem watchMore_holds : Rows.WatchMoreSaid := WMore.proved
#print axioms watchMore_holds
end Go.Proofs.Ytjhopjokllkipaa
