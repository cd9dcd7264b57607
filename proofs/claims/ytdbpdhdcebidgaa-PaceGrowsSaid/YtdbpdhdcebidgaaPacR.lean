/- The contract of the plain answer's Row. -/
import Derived.Test.YtdbpdhdcebidgaaPacL
namespace Go.Proofs.Ytdbpdhdcebidgaa
open Go.RowKit PacM

theorem info_tint : (Try.prog.info? 3).map (fun i => (i.zero, i.size, i.bytes)) = some (some (.int .i64 0), 1, 8) := by kernel_rfl
/-- The numbers as cells. -/
def rowF : Nat → Value := fun j => .int .i64 (lub (j + 1))
theorem rowF_one (n : Nat) : ∀ u ∈ cellsV rowF n, u.oneCell' = true := fun u hu => by
  unfold cellsV at hu
  obtain ⟨j, _, rfl⟩ := List.mem_map.1 hu
  rfl
theorem src_row {w : World} {g n c : Nat} {f : Nat → Value} (h : RowV 3 1 w g n c f) : ∀ j u, (cellsV f n)[j]? = some u → w.cell? ((⟨g, 0, none⟩ : Addr).add j) = some u := fun j u hu => by
  have hj : j < n := by
    have := (List.getElem?_eq_some_iff.1 hu).1
    simpa [cellsV] using this
  have h2 := h.cell (show j < n * 1 by omega)
  rw [cellsV_get f hj] at hu
  injection hu with hu
  rw [← hu, ← h2]
  congr 1
  simp [Addr.add]
  omega
def lenOf : Value → Nat
  | .slice _ n _ => n
  | _ => 0
def RowTo (many : Nat) (w : World) (v : Value) (wr : World) : Prop :=
  ∃ g n c k : Nat, v = .slice (some ⟨g, 0, none⟩) n c ∧ k ≤ 12 ∧ Hid (n = 2 ^ (k + 1) - 1) ∧ 1 ≤ n ∧ n ≤ 2 * many + 1 ∧ w.heap.size ≤ g ∧ Hid (RowV 3 1 wr g n c rowF) ∧ Hid (Below w.heap.size w wr)
set_option maxHeartbeats 3200000 in
set_option maxRecDepth 100000 in
theorem row_any (many : Nat) (w : World) (hm : many ≤ 5000) : Calls Try.prog 14 #[.int .i64 (many : Int)] w fun e w' => ∃ g n c : Nat, e = .returned (.slice (some ⟨g, 0, none⟩) n c) ∧ many ≤ n ∧ n ≤ 20000 ∧ w.heap.size ≤ g ∧ RowV 3 1 w' g n c rowF ∧ Below w.heap.size w w' := by
  have HR0 : Hid (RowV 3 1 (w.alloc (.cells #[.int .i64 1] 3)) w.heap.size 1 1 rowF) := RowV.made (by omega) rfl (fun j hj => by
    obtain rfl : j = 0 := by omega
    rfl)
  have HB0 : Hid (Below w.heap.size w (w.alloc (.cells #[.int .i64 1] 3))) := (Below.refl _ _).alloc (Nat.le_refl _) _
  obtain ⟨W1, hW1⟩ : ∃ W1, W1 = w.alloc (.cells #[.int .i64 1] 3) := ⟨_, rfl⟩
  rw [← hW1] at HR0 HB0
  go_enter Try.func14, Try.ntmps14
  go_wp2_with fail
  rw [← hW1]
  clear hW1
  go_loopw [3] (fun v wr => RowTo many w v wr) (fun v _ => many - lenOf v)
  case atStart => exact ⟨w.heap.size, 1, 1, 0, rfl, by omega, rfl, by omega, by omega, Nat.le_refl _, HR0, HB0⟩
  case round =>
    clear HR0 HB0 W1
    obtain ⟨g, n, c, k, rfl, hk, hn, hn1, hn2, hg, hR, hB⟩ := hrel
    have hbd := hR.out.bd
    obtain ⟨hbd1, hbd2⟩ := hbd
    by_cases hlt : n < many
    · have t1 : decide (n < many) = true := decide_eq_true hlt
      have t2 : decide ((n : Int) < (many : Int)) = true := decide_eq_true (by omega)
      have hk2 : k ≤ 11 := by
        rcases Nat.lt_or_ge 11 k with h | h
        · have h1 : 2 ^ 13 ≤ 2 ^ (k + 1) := Nat.pow_le_pow_right (by omega) (by omega)
          have := hn.out
          omega
        · exact h
      have hcl : wr.cell? ⟨g, n - 1, none⟩ = some (.int .i64 (lub n)) := by
        have := hR.out.cell (show n - 1 < n * 1 by omega)
        rw [this]
        unfold rowF
        rw [show n - 1 + 1 = n by omega]
      have hlb := lub_bd (i := n) hn1 (by omega)
      obtain ⟨hlb1, hlb2⟩ := hlb
      have hgl := hR.out.lt
      have HRE : Hid (∀ j, j < n + n + 1 → rowF j = if j < n then rowF j else if j < n + n then rowF (j - n) else .int .i64 ((2 * lub n : Nat) : Int)) := fun j hj => by
        have := row_step (k := k) (by omega) (j := j) (by rw [← hn.out]; omega)
        rw [← hn.out] at this
        unfold rowF
        rw [this]
        split
        · rfl
        · by_cases e : j < n + n
          · rw [if_pos (by omega), if_pos e]
          · rw [if_neg (by omega), if_neg e]
      generalize lub n = lst at *
      have HR1 : Hid (SlV 3 1 (wr.alloc (.cells #[] 3)) (some ⟨wr.heap.size, 0, none⟩) 0 0 (fun _ => .int .i64 0)) := .inr ⟨wr.heap.size, rfl, RowV.made (by omega) rfl (fun j hj => by omega)⟩
      have HRa : Hid (RowV 3 1 (wr.alloc (.cells #[] 3)) g n c rowF) := hR.out.alloc _
      have HNW := Lib.hid (src_row HRa.out)
      have HBa : Hid (Below w.heap.size w (wr.alloc (.cells #[] 3))) := hB.out.alloc hB.out.size _
      have HLN : Hid ((cellsV rowF n).length = n * 1) := by unfold Hid; simp [cellsV_length]
      have HONE := Lib.hid (rowF_one n)
      have hsz := hB.out.size
      have HK : Hid (n + n + 1 = 2 ^ (k + 1 + 1) - 1) := by
        have := hn.out
        have e : 2 ^ (k + 1 + 1) = 2 * 2 ^ (k + 1) := by rw [Nat.pow_succ]; omega
        unfold Hid
        have := two_pos (k + 1)
        omega
      clear hn hR hB
      go_wp2_with (at_builtin; refine wpList_append_sl _ rfl _ _ 35 3 rfl Try.underlying35 info_tint rfl (by decide) (by decide) (some ⟨wr.heap.size, 0, none⟩) 0 0 _ rfl HR1.out (by omega) ⟨g, 0, none⟩ n c _ rfl HLN.out HNW.out HONE.out (by omega) (by omega) ?_)
      intro g1 c1 w1 hr1 hg1 hk1
      have hr2 : RowV 3 1 w1 g1 n c1 rowF := hr1.congr fun j hj => by
        unfold appV
        rw [if_neg (by omega), Nat.sub_zero, List.getD, cellsV_get rowF (show j < n by omega)]; rfl
      have hk2' := hk1 (fun i => i = wr.heap.size) (fun i hi => (onB_some _ _).1 hi)
      have hs1 := hk2'.size
      rw [World.size_alloc] at hs1
      have hg2 : wr.heap.size ≤ g1 := by
        rcases hg1 with e | e
        · rw [onB_some] at e
          exact Nat.le_of_eq e.symm
        · omega
      have HB1 : Hid (Below w.heap.size w w1) := HBa.out.trans (hk2'.below HBa.out.size (fun i hi => by rw [hi]; exact hsz))
      have HR2 : Hid (SlV 3 1 w1 (some ⟨g1, 0, none⟩) n c1 rowF) := .inr ⟨g1, rfl, hr2⟩
      have HRb : Hid (RowV 3 1 w1 g n c rowF) := HRa.out.same (hk2'.block g HRa.out.lt (by omega))
      have HNW2 := Lib.hid (src_row HRb.out)
      clear HNW HR1 HRa HBa hr1 hg1 hk1 hr2 hk2'
      go_wp2_with (at_builtin; refine wpList_append_sl _ rfl _ _ 35 3 rfl Try.underlying35 info_tint rfl (by decide) (by decide) (some ⟨g1, 0, none⟩) n c1 _ rfl HR2.out (by omega) ⟨g, 0, none⟩ n c _ rfl HLN.out HNW2.out HONE.out (by omega) (by omega) ?_)
      intro g2 c2 w2 hr3 hg3 hk3
      have hk4 := hk3 (fun i => i = g1) (fun i hi => (onB_some _ _).1 hi)
      have hs2 := hk4.size
      have hg4 : wr.heap.size ≤ g2 := by
        rcases hg3 with e | e
        · rw [onB_some] at e
          rw [show g2 = g1 from e]; exact hg2
        · omega
      have HB2 : Hid (Below w.heap.size w w2) := HB1.out.trans (hk4.below HB1.out.size (fun i hi => by rw [hi]; omega))
      have HR3 : Hid (SlV 3 1 (w2.alloc (.cells #[.int .i64 ((2 * lst : Nat) : Int)] 3)) (some ⟨g2, 0, none⟩) (n + n) c2 (appV rowF n (cellsV rowF n))) := .inr ⟨g2, rfl, hr3.alloc _⟩
      have hlw : wrap64 (2 * (lst : Int)) = ((2 * lst : Nat) : Int) := by simp only [wrap64]; omega
      have HBc : Hid (Below w.heap.size w (w2.alloc (.cells #[.int .i64 ((2 * lst : Nat) : Int)] 3))) := HB2.out.alloc HB2.out.size _
      clear hr3 hg3 hk3 hk4 HRb HNW2 HR2 HB1
      go_wp2_with (at_builtin; refine wpList_append_sl _ rfl _ _ 35 3 rfl Try.underlying35 info_tint rfl (by decide) (by decide) (some ⟨g2, 0, none⟩) (n + n) c2 _ rfl HR3.out (by omega) ⟨w2.heap.size, 0, none⟩ 1 1 [.int .i64 ((2 * lst : Nat) : Int)] rfl rfl (box_news w2 3 [.int .i64 ((2 * lst : Nat) : Int)]) (by intro u hu; simp at hu; subst hu; rfl) (by decide) (by decide) ?_)
      intro g3 c3 w3 hr5 hg5 hk5
      have hk6 := hk5 (fun i => i = g2) (fun i hi => (onB_some _ _).1 hi)
      have HB3 : Hid (Below w.heap.size w w3) := HBc.out.trans (hk6.below HBc.out.size (fun i hi => by rw [hi]; omega))
      have hg6 : w.heap.size ≤ g3 := by
        rcases hg5 with e | e
        · rw [onB_some] at e
          rw [show g3 = g2 from e]; omega
        · have := World.size_alloc w2 (.cells #[.int .i64 ((2 * lst : Nat) : Int)] 3)
          omega
      have HR5 : Hid (RowV 3 1 w3 g3 (n + n + 1) c3 rowF) := hr5.congr fun j hj => by
        rw [HRE.out j (by omega)]
        unfold appV
        by_cases h1 : j < n
        · rw [if_pos h1, if_pos (by omega), if_pos h1]
        · rw [if_neg h1]
          by_cases h2 : j < n + n
          · rw [if_pos h2, if_pos (by omega), if_neg h1, List.getD, cellsV_get rowF (show j - n < n by omega)]; rfl
          · obtain rfl : j = n + n := by omega
            rw [if_neg h2, if_neg (by omega)]
            simp
      clear hr5 hg5 hk5 hk6 HR3 HBc HB2
      go_wp2_with fail
      go_roundw
      case rel => exact ⟨g3, n + n + 1, c3, k + 1, rfl, by omega, HK, by omega, by omega, hg6, HR5, HB3⟩
      case measure => simp only [lenOf]; omega
    have t1 : decide (n < many) = false := decide_eq_false hlt
    have t2 : decide ((n : Int) < (many : Int)) = false := decide_eq_false (by omega)
    go_wp2_with fail
    go_ret
    exact ⟨g, n, c, rfl, by omega, by omega, hg, hR.out, hB.out⟩
end Go.Proofs.Ytdbpdhdcebidgaa
