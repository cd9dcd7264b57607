/- The contracts of layer 5's own helpers: great, Fits, All, known, Now. -/
import Derived.Test.YtdecejhobefefaaWrM
import Derived.Test.YtdecejhobefefaaWOpn
import Derived.Test.YtdecejhobefefaaFrsh
import Derived.Test.YtdecejhobefefaaClo
import Derived.Deep.RegionWith
import Derived.Deep.Slices
import Derived.Deep.Fields
import Derived.Lib.QuietBelow
namespace Go.Proofs.Ytdecejhobefefaa
open Go.RowKit LitM TrailM EngM

/-- Acts that came in: kinds, clauses, numbers. -/
structure RdA (w : World) (B : Nat) (A : Option Addr) (n : Nat) (K : Nat → Int) (C : Nat → List Int) (Y : Nat → Int) : Prop where
  at_ : ∀ j, j < n → ∃ b o Aj cj, A = some ⟨b, o, none⟩ ∧ b < B ∧ w.cell? ⟨b, o + j * 3, none⟩ = some (.int .i64 (K j)) ∧ w.cell? ⟨b, o + j * 3 + 1, none⟩ = some (.slice Aj (C j).length cj) ∧ w.cell? ⟨b, o + j * 3 + 2, none⟩ = some (.int .i64 (Y j)) ∧ Rd .i32 w B Aj (C j).length (C j) ∧ In32 (C j) ∧ (C j).length ≤ 9223372036854775807
theorem RdA.below {w w' : World} {B n : Nat} {A : Option Addr} {K : Nat → Int} {C : Nat → List Int} {Y : Nat → Int} (h : RdA w B A n K C Y) (hb : Below B w w') : RdA w' B A n K C Y := ⟨fun j hj => by
  obtain ⟨b, o, Aj, cj, e, hlt, c0, c1, c2, hr, h3, h4⟩ := h.at_ j hj
  exact ⟨b, o, Aj, cj, e, hlt, (hb.cell (p := ⟨b, o + j * 3, none⟩) hlt).trans c0, (hb.cell (p := ⟨b, o + j * 3 + 1, none⟩) hlt).trans c1, (hb.cell (p := ⟨b, o + j * 3 + 2, none⟩) hlt).trans c2, hr.below hb, h3, h4⟩⟩
theorem RdA.more {w : World} {B B' n : Nat} {A : Option Addr} {K : Nat → Int} {C : Nat → List Int} {Y : Nat → Int} (h : RdA w B A n K C Y) (hB : B ≤ B') : RdA w B' A n K C Y := ⟨fun j hj => by
  obtain ⟨b, o, Aj, cj, e, hlt, c0, c1, c2, hr, h3, h4⟩ := h.at_ j hj
  exact ⟨b, o, Aj, cj, e, by omega, c0, c1, c2, hr.more hB, h3, h4⟩⟩
/-- What great leaves. -/
def GrTo (n : Nat) (C : Nat → List Int) (w : World) (e : Ending) (w' : World) : Prop :=
  Below w.heap.size w w' ∧ (e = .returned (.bool true) ∨ (e = .returned (.bool false) ∧ n ≤ 60 ∧ ∀ j, j < n → (C j).length ≤ 20))
set_option maxHeartbeats 3200000 in
set_option maxRecDepth 100000 in
theorem great_any {A : Option Addr} {n c : Nat} {K : Nat → Int} {C : Nat → List Int} {Y : Nat → Int} (w : World) (h : RdA w w.heap.size A n K C Y) :
    Calls Try.prog 10 #[.slice A n c] w (GrTo n C w) := by
  have HA := Lib.hid h
  have HB0 : Hid (Below w.heap.size w w) := Below.refl _ _
  clear h
  by_cases hn : ¬ 60 < n
  case neg =>
    have thn0 : decide (60 < n) = true := decide_eq_true (by omega)
    have thn1 : decide ((60 : Int) < (n : Int)) = true := decide_eq_true (by omega)
    go_enter Try.func10, Try.ntmps10
    go_wp2_with fail
    go_ret
    exact ⟨HB0.out, .inl rfl⟩
  have thn0 : decide (60 < n) = false := decide_eq_false (by omega)
  have thn1 : decide ((60 : Int) < (n : Int)) = false := decide_eq_false (by omega)
  obtain ⟨w1, hw1⟩ : ∃ w1, w1 = w := ⟨_, rfl⟩
  have HB1 : Hid (Below w.heap.size w w1) := by rw [hw1]; exact HB0.out
  rw [show (Calls Try.prog 10 #[.slice A n c] w (GrTo n C w)) = (Calls Try.prog 10 #[.slice A n c] w1 (GrTo n C w)) by rw [hw1]]
  clear hw1
  go_enter Try.func10, Try.ntmps10
  go_wp2_with fail
  go_loopw [10] (fun iv wr => ∃ j : Nat, iv = .int .i64 (j : Int) ∧ j ≤ n ∧ Hid (∀ i, i < j → (C i).length ≤ 20) ∧ Hid (Below w.heap.size w wr)) (fun iv _ => n - (intOf iv).toNat)
  case atStart => exact ⟨0, rfl, by omega, Lib.hid (fun i hi => by omega), HB1⟩
  case round =>
    clear HB1
    obtain ⟨j, rfl, hj, hC, hB⟩ := hrel
    by_cases hlt : j < n
    case neg =>
      have tj : decide (j < n) = false := decide_eq_false hlt
      have tj2 : decide ((j : Int) < (n : Int)) = false := decide_eq_false (by omega)
      go_wp2_with fail
      go_ret
      exact ⟨hB.out, .inr ⟨rfl, by omega, fun i hi => hC.out i (by omega)⟩⟩
    have tj : decide (j < n) = true := decide_eq_true hlt
    have tj2 : decide ((j : Int) < (n : Int)) = true := decide_eq_true (by omega)
    obtain ⟨b, o, Aj, cj, rfl, hb, c0, c1, c2, hr, _, hl⟩ := (HA.out.below hB.out).at_ j hlt
    have HN : Hid ((C j).length ≤ 20 → ∀ i, i < j + 1 → (C i).length ≤ 20) := fun h i hi => by
      rcases Nat.lt_or_ge i j with e | e
      · exact hC.out i e
      · rw [show i = j by omega]; exact h
    clear hr hb
    generalize (C j).length = m at *
    generalize K j = k at *
    generalize Y j = y at *
    have HBN : Hid (∀ o, Below w.heap.size w (wr.alloc o)) := fun o => hB.out.alloc hB.out.size o
    by_cases hm : 20 < m
    · have tm : decide (20 < m) = true := decide_eq_true hm
      have tm2 : decide ((20 : Int) < (m : Int)) = true := decide_eq_true (by omega)
      go_wp2_with fail
      go_ret
      exact ⟨HBN.out _, .inl rfl⟩
    · have tm : decide (20 < m) = false := decide_eq_false hm
      have tm2 : decide ((20 : Int) < (m : Int)) = false := decide_eq_false (by omega)
      have HC2 := Lib.hid (HN.out (by omega))
      clear HN hC
      go_wp2_with fail
      go_roundw
      case rel => exact ⟨j + 1, by go_num, by omega, HC2, HBN.out _⟩
      case measure => simp [intOf]; omega
set_option maxHeartbeats 3200000 in
set_option maxRecDepth 100000 in
theorem rfits_any {A A1 A2 A3 : Option Addr} {m c n n1 n2 n3 c1 c2 c3 : Nat} {xs : List Int} (w : World) (h : Rd .i32 w w.heap.size A m xs) (h32 : In32 xs) (hm : m ≤ 9223372036854775807) :
    Calls Try.prog 13 #[.agg #[.int .i64 (n : Int), .slice A1 n1 c1, .slice A2 n2 c2, .slice A3 n3 c3], .slice A m c] w fun e w' => e = .returned (.bool (fitsB n xs)) ∧ Below w.heap.size w w' := by
  obtain ⟨W0, hW0⟩ : ∃ W0, W0 = w.alloc (.cells #[.int .i64 (n : Int), .slice A1 n1 c1, .slice A2 n2 c2, .slice A3 n3 c3] 31) := ⟨_, rfl⟩
  have hB0 : Below w.heap.size w W0 := by rw [hW0]; exact (Below.refl _ _).alloc (Nat.le_refl _) _
  have HB0 := Lib.hid hB0
  have hbox : W0.heap[w.heap.size]? = some (.cells #[.int .i64 (n : Int), .slice A1 n1 c1, .slice A2 n2 c2, .slice A3 n3 c3] 31 (0, 0)) := by rw [hW0]; exact blk_new w _
  have k0 : W0.cell? ⟨w.heap.size, 0, none⟩ = some (.int .i64 (n : Int)) := by rw [Lib.cell_of_heap hbox]; rfl
  have HR := Lib.hid (h.below hB0)
  have HL := Lib.hid h.len
  have H32 := Lib.hid h32
  clear h hB0 hbox h32
  go_enter Try.func13, Try.ntmps13
  go_upto_region 1 with (fail)
  rw [← hW0]
  clear hW0
  go_wp2_with fail
  go_loopw [9] (fun iv wr => ∃ j r : Nat, iv = .int .i64 (j : Int) ∧ j ≤ m ∧ Hid (fitsB n (xs.take j) = true) ∧ wr = W0.drewN r) (fun iv _ => m - (intOf iv).toNat)
  case atStart => exact ⟨0, 0, rfl, by omega, Lib.hid rfl, rfl⟩
  case round =>
    obtain ⟨j, r, rfl, hj, hF, hwr⟩ := hrel
    by_cases hlt : j < m
    case neg =>
      have tj : decide (j < m) = false := decide_eq_false hlt
      have tj2 : decide ((j : Int) < (m : Int)) = false := decide_eq_false (by omega)
      have HBw : Hid (Below w.heap.size w wr) := by rw [hwr]; exact below_drewN HB0.out r
      have hfull : xs.take j = xs := List.take_of_length_le (by have := HL.out; omega)
      rw [hfull] at hF
      clear hwr hfull
      go_wp2_with fail
      go_ret
      exact ⟨by rw [hF.out]; rfl, HBw.out⟩
    have tj : decide (j < m) = true := decide_eq_true hlt
    have tj2 : decide ((j : Int) < (m : Int)) = true := decide_eq_true (by omega)
    have HBw : Hid (Below w.heap.size w wr) := by rw [hwr]; exact below_drewN HB0.out r
    have HDW : Hid (∀ r', ∃ r2, wr.drewN r' = W0.drewN r2) := fun r' => ⟨r + r', by rw [hwr, World.drewN_drewN]⟩
    have kr : wr.cell? ⟨w.heap.size, 0, none⟩ = some (.int .i64 (n : Int)) := by rw [hwr]; exact k0
    obtain ⟨g, o, rfl, hgb, hcm⟩ := HR.out.get hlt
    have hcr : wr.cell? ⟨g, o + j, none⟩ = some (.int .i32 (xs.getD j 0)) := by rw [hwr]; exact hcm
    have hxj : xs[j]? = some (xs.getD j 0) := by
      have := HL.out
      rw [List.getD, List.getElem?_eq_getElem (by omega)]; rfl
    obtain ⟨l0, l1⟩ := H32.out j
    have HTS : Hid (fitsB n (xs.take (j + 1)) = (LitM.one (xs.getD j 0) && decide (varZ (xs.getD j 0) ≤ (n : Int)))) := by
      have e : xs.take (j + 1) = xs.take j ++ [xs.getD j 0] := by rw [List.take_add_one, hxj]; rfl
      have hF := hF.out
      unfold Hid fitsB at *
      rw [e, List.all_append, hF]; simp
    have HNO : Hid ((LitM.one (xs.getD j 0) && decide (varZ (xs.getD j 0) ≤ (n : Int))) = false → fitsB n xs = false) := fun h => by
      unfold fitsB
      rw [List.all_eq_false]
      exact ⟨_, List.mem_of_getElem? hxj, by rw [h]; simp⟩
    clear hwr hcm hgb hxj hF
    generalize xs.getD j 0 = l at *
    have HO : Hid (∀ V : World, Calls Try.prog 41 #[.int .i32 l] V fun e w' => e = .returned (.bool (LitM.one l)) ∧ w' = V) := fun V => (rone_any l V).mono fun e w' ⟨h1, h2⟩ => ⟨h1, h2.symm⟩
    have HVq : Hid (∀ V : World, Calls Try.prog 33 #[.int .i32 l] V fun e w' => e = .returned (.int .i64 (varZ l)) ∧ w' = V) := fun V => (rvar_any l V l0 l1).mono fun e w' ⟨h1, h2⟩ => ⟨h1, h2.symm⟩
    generalize varZ l = v at *
    generalize LitM.one l = ob at *
    cases ob with
    | false =>
      have HN := Lib.hid (HNO.out rfl)
      clear HNO HTS
      go_upto_region 4 with (fail)
      go_quiet (first | (go_at_call 33; exact Calls.quiet_of_same (HVq.out _)) | (go_at_call 41; exact Calls.quiet_of_same (HO.out _)))
      go_wp2_with fail
      go_ret
      exact ⟨by rw [HN.out]; rfl, below_drewN HBw.out _⟩
    | true =>
      by_cases hv : (n : Int) < v
      · have tv : decide ((n : Int) < v) = true := decide_eq_true hv
        have HN := Lib.hid (HNO.out (by simp; omega))
        clear HNO HTS
        go_upto_region 4 with (fail)
        go_quiet (first | (go_at_call 33; exact Calls.quiet_of_same (HVq.out _)) | (go_at_call 41; exact Calls.quiet_of_same (HO.out _)))
        go_wp2_with fail
        go_ret
        exact ⟨by rw [HN.out]; rfl, below_drewN HBw.out _⟩
      · have tv : decide ((n : Int) < v) = false := decide_eq_false hv
        have HT2 : Hid (fitsB n (xs.take (j + 1)) = true) := by unfold Hid; rw [HTS.out]; simp; omega
        clear HNO HTS
        go_upto_region 4 with (fail)
        go_quiet (first | (go_at_call 33; exact Calls.quiet_of_same (HVq.out _)) | (go_at_call 41; exact Calls.quiet_of_same (HO.out _)))
        go_wp2_with fail
        obtain ⟨r2, hr2⟩ := HDW.out nq
        go_roundw
        case rel => exact ⟨j + 1, r2, by go_num, by omega, HT2, hr2⟩
        case measure => simp [intOf]; omega
end Go.Proofs.Ytdecejhobefefaa
