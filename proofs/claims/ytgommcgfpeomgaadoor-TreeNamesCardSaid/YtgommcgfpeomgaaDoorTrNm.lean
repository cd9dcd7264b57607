/- The walk of TreeNames. -/
import Derived.Test.YtgommcgfpeomgaaDoorTevI
namespace Go.Proofs.YtgommcgfpeomgaaDoor.TNames
open Go.RowKit TreM WrdM

theorem sgT : ∀ j : Nat, j < 26 → signT.getD j [] = signE ((j : Int) + 5) := by decide
abbrev sgV : Array Value := #[.string ⟨#[45]⟩, .string ⟨#[33]⟩, .string ⟨#[88]⟩, .string ⟨#[70]⟩, .string ⟨#[71]⟩, .string ⟨#[89]⟩, .string ⟨#[90]⟩, .string ⟨#[79]⟩, .string ⟨#[72]⟩, .string ⟨#[42]⟩, .string ⟨#[43]⟩, .string ⟨#[45]⟩, .string ⟨#[61]⟩, .string ⟨#[33, 61]⟩, .string ⟨#[60]⟩, .string ⟨#[60, 61]⟩, .string ⟨#[62]⟩, .string ⟨#[62, 61]⟩, .string ⟨#[85]⟩, .string ⟨#[82]⟩, .string ⟨#[83]⟩, .string ⟨#[84]⟩, .string ⟨#[38]⟩, .string ⟨#[124]⟩, .string ⟨#[45, 62]⟩, .string ⟨#[60, 45, 62]⟩]
theorem sgV_at : ∀ j : Nat, j < 26 → sgV[j]? = some (.string ⟨(signT.getD j []).toArray⟩) := by
  intro j hj
  match j, hj with
  | 0, _ => rfl | 1, _ => rfl | 2, _ => rfl | 3, _ => rfl | 4, _ => rfl | 5, _ => rfl | 6, _ => rfl | 7, _ => rfl | 8, _ => rfl | 9, _ => rfl | 10, _ => rfl | 11, _ => rfl | 12, _ => rfl
  | 13, _ => rfl | 14, _ => rfl | 15, _ => rfl | 16, _ => rfl | 17, _ => rfl | 18, _ => rfl | 19, _ => rfl | 20, _ => rfl | 21, _ => rfl | 22, _ => rfl | 23, _ => rfl | 24, _ => rfl | 25, _ => rfl
  | j + 26, h => exact absurd h (by omega)
set_option maxHeartbeats 1600000 in
set_option maxRecDepth 100000 in
theorem psign_any (o : Int) (w : World) : Calls Tryd.prog 9 #[.int .i64 o] w fun e w' => e = .returned (.string ⟨(signE o).toArray⟩) ∧ Below w.heap.size w w' := by
  by_cases h1 : o < 5
  · have t1 : decide (o < 5) = true := decide_eq_true h1
    have hE : signE o = [] := by unfold signE; rw [if_neg (by omega)]
    rw [hE]
    go_enter Tryd.func9, Tryd.ntmps9
    go_wp2
    go_ret
    exact ⟨rfl, Below.refl _ _⟩
  have t1 : decide (o < 5) = false := decide_eq_false h1
  by_cases h2 : 30 < o
  · have t2 : decide ((30 : Int) < o) = true := decide_eq_true h2
    have hE : signE o = [] := by unfold signE; rw [if_neg (by omega)]
    rw [hE]
    go_enter Tryd.func9, Tryd.ntmps9
    go_wp2
    go_ret
    exact ⟨rfl, Below.refl _ _⟩
  have t2 : decide ((30 : Int) < o) = false := decide_eq_false h2
  obtain ⟨j, hj⟩ := Int.eq_ofNat_of_zero_le (show 0 ≤ o - 5 by omega)
  have ho : o = (j : Int) + 5 := by omega
  subst ho
  have hj26 : j < 26 := by omega
  rw [← sgT j hj26]
  have hc : (w.alloc (.cells sgV 9)).cell? ⟨w.heap.size, j, none⟩ = some (.string ⟨(signT.getD j []).toArray⟩) := by
    rw [Lib.cell_of_heap (blk_new w _)]; exact sgV_at j hj26
  have hb := below_alloc w (.cells sgV 9)
  have hw5 : (j : Int) + 5 - 5 = (j : Int) := by omega
  generalize signT.getD j [] = sg at *
  go_enter Tryd.func9, Tryd.ntmps9
  go_wp2_with fail
  go_ret
  exact ⟨rfl, hb⟩

theorem eg_renum : ∀ args w, (callFunc 19 args).run Tryd.prog w = .ok (.enter 19 args) w := enters_of Tryd.func19 (by kernel_rfl) rfl
theorem eg_rvar : ∀ args w, (callFunc 21 args).run Tryd.prog w = .ok (.enter 21 args) w := enters_of Tryd.func21 (by kernel_rfl) rfl
theorem eg_rprc : ∀ args w, (callFunc 23 args).run Tryd.prog w = .ok (.enter 23 args) w := enters_of Tryd.func23 (by kernel_rfl) rfl
theorem noEnum (w : World) : Calls Tryd.prog 18 #[.slice none 0 0, .func (.func 19) #[] #[]] w fun e w' => e = .returned (.bool true) ∧ Below w.heap.size w w' :=
  everyEnum_any (α := Unit) _ eg_renum (fun _ => true) (fun _ _ => True) [] none 0 w (.inl rfl) (Nat.le_refl _) (by decide) (fun x hx => by cases hx)
theorem noProc (w : World) : Calls Tryd.prog 22 #[.slice none 0 0, .func (.func 23) #[] #[]] w fun e w' => e = .returned (.bool true) ∧ Below w.heap.size w w' :=
  everyProc_any (α := Unit) _ eg_rprc (fun _ => true) (fun _ _ => True) [] none 0 w (.inl rfl) (Nat.le_refl _) (by decide) (fun x hx => by cases hx)
theorem noDecl (w : World) : Calls Tryd.prog 20 #[.slice none 0 0, .func (.func 21) #[] #[]] w fun e w' => e = .returned (.bool true) ∧ Below w.heap.size w w' :=
  everyDecl_any (α := Unit) _ eg_rvar (fun _ => true) (fun _ _ => True) [] none 0 w (.inl rfl) (Nat.le_refl _) (by decide) (fun x hx => by cases hx)
abbrev zD : List Value := [.string ⟨#[]⟩, .string ⟨#[]⟩, .int .i64 0, .int .i64 0, .slice none 0 0, .int .i64 0, .int .i64 0]
theorem zD_dcl (W : World) : DclC W ⟨[], [], 0, 0, []⟩ zD := ⟨_, _, _, rfl, by decide, by decide, ⟨by decide, by decide⟩, ⟨by decide, by decide⟩, none, 0, rfl, Nat.le_refl _, by decide, .inl rfl⟩
theorem oneDecl (w : World) (g : Nat) (q : Nat × Nat) (hg : w.heap[g]? = some (.cells zD.toArray 56 q)) : Calls Tryd.prog 20 #[.slice (some ⟨g, 0, none⟩) 1 1, .func (.func 21) #[] #[]] w fun e w' => e = .returned (.bool false) ∧ Below w.heap.size w w' := by
  have hl : g < w.heap.size := (Array.getElem?_eq_some_iff.1 hg).1
  have h : SlAt w (DclC w) 7 (some ⟨g, 0, none⟩) [(⟨[], [], 0, 0, []⟩ : Dcl)] := by
    refine .inr ⟨g, 0, rfl, hl, fun j x hj => ?_⟩
    match j, hj with
    | 0, hj =>
      have : (⟨[], [], 0, 0, []⟩ : Dcl) = x := by simpa using hj
      subst this
      refine ⟨zD, rfl, fun i u hu => ?_, zD_dcl w⟩
      rw [show 0 + 0 * 7 + i = i from by omega, Lib.cell_of_heap hg, List.getElem?_toArray]
      exact hu
    | j + 1, hj => simp at hj
  exact everyDecl_any _ eg_rvar declB (DclC w) [(⟨[], [], 0, 0, []⟩ : Dcl)] (some ⟨g, 0, none⟩) 1 w h (Nat.le_refl _) (by decide) (fun x hx cs W hW _ hR => rightVar_any x cs W (hR.below hW))
abbrev cSrc (v : Value) : List Value := [.slice none 0 0, v, .slice none 0 0]
theorem cells3s {w : World} {g : Nat} {a b c : Value} {t : TypeId} {q : Nat × Nat} (h : w.heap[g]? = some (.cells #[a, b, c] t q)) :
    w.cell? ⟨g, 0, none⟩ = some a ∧ w.cell? ⟨g, 1, none⟩ = some b ∧ w.cell? ⟨g, 2, none⟩ = some c := by
  refine ⟨?_, ?_, ?_⟩ <;> (rw [Lib.cell_of_heap h]; rfl)
set_option maxHeartbeats 1600000 in
set_option maxRecDepth 100000 in
theorem source_bad (w : World) (g : Nat) (q : Nat × Nat) (hg : w.heap[g]? = some (.cells zD.toArray 56 q)) :
    Calls Tryd.prog 7 #[.agg (cSrc (.slice (some ⟨g, 0, none⟩) 1 1)).toArray] w fun e w' => e = .returned (.tuple #[.string ⟨#[]⟩, .int .i64 141]) ∧ Below w.heap.size w w' := by
  have hl : g < w.heap.size := (Array.getElem?_eq_some_iff.1 hg).1
  obtain ⟨wa, hwa⟩ : ∃ wa, wa = w.alloc (.cells (cSrc (.slice (some ⟨g, 0, none⟩) 1 1)).toArray 33) := ⟨_, rfl⟩
  have hba : Below w.heap.size w wa := by rw [hwa]; exact below_alloc w _
  have hga : wa.heap[w.heap.size]? = some (.cells (cSrc (.slice (some ⟨g, 0, none⟩) 1 1)).toArray 33) := by rw [hwa]; exact blk_new w _
  have hlt : w.heap.size < wa.heap.size := by rw [hwa]; simp
  have HC : Hid (∀ W, Below wa.heap.size wa W → W.heap[w.heap.size]? = some (.cells (cSrc (.slice (some ⟨g, 0, none⟩) 1 1)).toArray 33)) := fun W hW => (hW.block _ hlt).trans hga
  have HD : Hid (∀ W, Below wa.heap.size wa W → W.heap[g]? = some (.cells zD.toArray 56 q)) := fun W hW => (hW.block _ (by omega)).trans ((hba.block _ hl).trans hg)
  have HBA := Lib.hid hba
  obtain ⟨c0, c1, c2⟩ := cells3s hga
  have HWA := Lib.hid hwa
  clear hba hga hwa hg
  go_enter Tryd.func7, Tryd.ntmps7
  go_wp2_with fail
  have hwa := HWA.out
  rw [← hwa]
  clear hwa HWA
  refine (noEnum wa).mono ?_
  rintro x w1 ⟨rfl, hB1⟩
  have HB1 := Lib.hid hB1
  obtain ⟨c0, c1, c2⟩ := cells3s (HC.out w1 hB1)
  have HD1 := Lib.hid (oneDecl w1 g q (HD.out w1 hB1))
  clear hB1
  go_wp2_with (refine HD1.out.mono ?_; rintro x w2 ⟨rfl, hB2⟩)
  go_ret2
  exact ⟨rfl, HBA.out.trans ((HB1.out.trans (hB2.mono HB1.out.size)).mono HBA.out.size)⟩
set_option maxHeartbeats 1600000 in
set_option maxRecDepth 100000 in
theorem source_none (w : World) : Calls Tryd.prog 7 #[.agg (cSrc (.slice none 0 0)).toArray] w fun e w' => e = .returned (.tuple #[.string ⟨#[]⟩, .int .i64 0]) ∧ Below w.heap.size w w' := by
  obtain ⟨wa, hwa⟩ : ∃ wa, wa = w.alloc (.cells (cSrc (.slice none 0 0)).toArray 33) := ⟨_, rfl⟩
  have hba : Below w.heap.size w wa := by rw [hwa]; exact below_alloc w _
  have hga : wa.heap[w.heap.size]? = some (.cells (cSrc (.slice none 0 0)).toArray 33) := by rw [hwa]; exact blk_new w _
  have hlt : w.heap.size < wa.heap.size := by rw [hwa]; simp
  have HC : Hid (∀ W, Below wa.heap.size wa W → W.heap[w.heap.size]? = some (.cells (cSrc (.slice none 0 0)).toArray 33)) := fun W hW => (hW.block _ hlt).trans hga
  have HBA := Lib.hid hba
  obtain ⟨c0, c1, c2⟩ := cells3s hga
  have HWA := Lib.hid hwa
  clear hba hga hwa
  go_enter Tryd.func7, Tryd.ntmps7
  go_wp2_with fail
  have hwa := HWA.out
  rw [← hwa]
  clear hwa HWA
  refine (noEnum wa).mono ?_
  rintro x w1 ⟨rfl, hB1⟩
  have HB1 := Lib.hid hB1
  obtain ⟨c0, c1, c2⟩ := cells3s (HC.out w1 hB1)
  clear hB1
  go_wp2_with fail
  refine (noDecl _).mono ?_
  rintro x w2 ⟨rfl, hB2⟩
  have HB2 := Lib.hid (HB1.out.trans (hB2.mono HB1.out.size))
  obtain ⟨c0, c1, c2⟩ := cells3s (HC.out w2 HB2.out)
  clear hB2
  go_wp2_with fail
  refine (noProc _).mono ?_
  rintro x w3 ⟨rfl, hB3⟩
  have HB3 := Lib.hid (HB2.out.trans (hB3.mono HB2.out.size))
  have hal := below_alloc w3 (.cells #[.pointer none, .slice none 0 0] 46)
  have HB4 : Hid (Below wa.heap.size wa (w3.alloc (.cells #[.pointer none, .slice none 0 0] 46))) := HB3.out.trans (hal.mono HB3.out.size)
  have HS := Lib.hid (string_any w3.heap.size w3.heap.size [] _ (BldAt.fresh w3) hal.size)
  obtain ⟨wb, hwb⟩ : ∃ wb, wb = w3.alloc (.cells #[.pointer none, .slice none 0 0] 46) := ⟨_, rfl⟩
  rw [← hwb] at HB4 HS
  obtain ⟨c0, c1, c2⟩ := cells3s (HC.out wb HB4.out)
  have HZ : Hid (w3.heap.size ≤ wb.heap.size) := by unfold Hid; rw [hwb]; exact hal.size
  have HWB := Lib.hid hwb
  clear hB3 hal hwb
  go_upto_region 4 with (fail)
  have hwb := HWB.out
  rw [← hwb]
  clear hwb HWB
  go_wp2_with fail
  go_loopw [6, 28] (fun _ i wr => i = .int .i64 0 ∧ wr = wb) (fun _ _ _ => 0)
  case atStart => exact ⟨rfl, rfl⟩
  case round =>
    obtain ⟨rfl, rfl⟩ := hrel
    go_wp2_with fail
    go_loopw [7, 46] (fun _ i wr2 => i = .int .i64 0 ∧ wr2 = wr) (fun _ _ _ => 0)
    case atStart => exact ⟨rfl, rfl⟩
    case round =>
      obtain ⟨rfl, rfl⟩ := hrel
      go_wp2_with fail
      go_loopw [8, 58] (fun _ i wr3 => i = .int .i64 0 ∧ wr3 = wr) (fun _ _ _ => 0)
      case atStart => exact ⟨rfl, rfl⟩
      case round =>
        obtain ⟨rfl, rfl⟩ := hrel
        go_wp2_with (refine HS.out.mono ?_; rintro x w5 ⟨rfl, hB5⟩)
        go_ret2
        exact ⟨rfl, HBA.out.trans ((HB4.out.trans (hB5.mono (by have := HZ.out; have := HB3.out.size; omega))).mono HBA.out.size)⟩
end Go.Proofs.YtgommcgfpeomgaaDoor.TNames
