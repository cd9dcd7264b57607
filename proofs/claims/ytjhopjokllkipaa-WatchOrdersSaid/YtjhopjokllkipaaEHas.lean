/- The contract of an engine's has: are all of them literals of its variables? And what asks for its length, its clauses. -/
import Derived.Test.YtjhopjokllkipaaEClone
import Derived.Test.YtjhopjokllkipaaTrailR
import Derived.Deep.QuietTactic
import Derived.BigQuiet
import Derived.Deep.DeepCutAuto
import Derived.Shelf.SlicesE.IndexFunc
namespace Go.Proofs.Ytjhopjokllkipaa
open Go.Shelf Go.RowKit Go.Lib Go.Sort LitM TrailM EngM

set_option maxHeartbeats 1600000 in
theorem elen_any {w : World} {b : Nat} {q : Pm} {S : Eng} {d : Nat} (h : E6 w b q S d) : Calls Try.prog 25 #[.pointer (some ⟨b, 0, none⟩)] w fun e w' => e = .returned (.int .i64 (S.cs.length : Int)) ∧ w = w' := by
  have h1 := h.h1
  clear h
  go_enter Try.func25, Try.ntmps25
  go_wp2
  go_ret
  exact ⟨rfl, rfl⟩
/-- Are all literals of variables that there are? -/
def fitsB (n : Nat) (xs : List Int) : Bool := xs.all fun x => LitM.one x && decide (varZ x ≤ (n : Int))
theorem fitsB_iff {n : Nat} {xs : List Int} : fitsB n xs = true ↔ ∀ x ∈ xs, LitM.one x = true ∧ varZ x ≤ (n : Int) := by
  unfold fitsB
  rw [List.all_eq_true]
  simp only [Bool.and_eq_true, decide_eq_true_eq]
set_option maxHeartbeats 1600000 in
theorem has1_any {W : World} {b x0 : Nat} {q : Pm} {S : Eng} {d : Nat} (h : E6 W b q S d) (hb : W.cell? ⟨x0, 0, none⟩ = some (.pointer (some ⟨b, 0, none⟩))) (hn : S.n ≤ 90000) (l : Int) (l0 : -2147483648 ≤ l) (l1 : l ≤ 2147483647) :
    Calls Try.prog 56 #[.int .i32 l, .pointer (some ⟨x0, 0, none⟩)] W fun e w' => e = .returned (.bool (decide ((S.n : Int) < varZ l))) ∧ ∃ r, w' = W.drewN r := by
  have h0 := h.h0
  have HVq : Hid (∀ V : World, Calls Try.prog 38 #[.int .i32 l] V fun e w' => e = .returned (.int .i64 (varZ l)) ∧ w' = V) := fun V => (var_any l V l0 l1).mono fun e w' ⟨h1, h2⟩ => ⟨h1, h2.symm⟩
  have HV : Hid (∀ r, Calls Try.prog 26 #[.pointer (some ⟨q.bt, 0, none⟩)] (W.drewN r) fun e w' => e = .returned (.int .i64 (S.n : Int)) ∧ w' = W.drewN r) := fun r => by
    obtain ⟨F, gm, cm, ao, co, az, cz, hQ, hO, _⟩ := (h.drewN r).trail
    exact (tvars_nat (W.drewN r) hQ (by omega)).mono fun e w' ⟨h1, h2⟩ => ⟨h1, h2.symm⟩
  clear h
  generalize S.n = n at *
  generalize varZ l = v at *
  go_enter Try.func56, Try.ntmps56
  go_upto_region 1 with (fail)
  go_quiet (first | (go_at_call 38; exact Calls.quiet_of_same (HVq.out _)) | (go_at_call 26; exact Calls.quiet_of_same (HV.out _)))
  go_wp2_with fail
  go_ret
  exact ⟨rfl, _, rfl⟩
theorem eg_has1 : ∀ args w, (callFunc 56 args).run Try.prog w = .ok (.enter 56 args) w := enters_of Try.func56 (by kernel_rfl) rfl
/-- ContainsFunc by has$1. -/
theorem containsHas {w : World} {b x0 : Nat} {q : Pm} {S : Eng} {d : Nat} (h : E6 w b q S d) (hb : w.cell? ⟨x0, 0, none⟩ = some (.pointer (some ⟨b, 0, none⟩))) (hx : x0 < w.heap.size) (hn : S.n ≤ 90000) (A : Option Addr) (n c B : Nat) (xs : List Int) (hr : Rd .i32 w B A n xs) (ha : allOne xs = true) (hm : n ≤ 9223372036854775807) :
    Calls Try.prog 55 #[.slice A n c, .func (.func 56) #[] #[.pointer (some ⟨x0, 0, none⟩)]] w fun e w' => e = .returned (.bool (xs.any fun x => decide ((S.n : Int) < varZ x))) ∧ ∃ r, w' = w.drewN r := by
  obtain ⟨ls, rfl⟩ := to_L1 xs ha
  have hl := hr.len
  by_cases h0 : n = 0
  · subst h0
    have : ls = [] := by simpa using hl
    subst this
    have := AnyE.slices_ContainsFunc_empty Try.containsF A c (.func (.func 56) #[] #[.pointer (some ⟨x0, 0, none⟩)]) w
    change Calls Try.prog 55 _ _ _ at this
    exact this.mono fun e w' ⟨he, hw⟩ => ⟨he, 0, hw⟩
  · obtain ⟨g, o, rfl, hgB, hc⟩ := hr.at_ (by omega)
    have hp : PredAt Try.prog 56 #[.pointer (some ⟨x0, 0, none⟩)] encL (fun x : L1 => decide ((S.n : Int) < varZ x.val)) w := fun W x hW => by
      have := has1_any (h.below hW) ((hW.cell (p := ⟨x0, 0, none⟩) hx).trans hb) hn x.val x.bd.1 x.bd.2
      exact this
    have := AnyE.slices_ContainsFunc Try.containsF encL (fun x : L1 => decide ((S.n : Int) < varZ x.val)) 56 #[.pointer (some ⟨x0, 0, none⟩)] eg_has1 g o n c ls w hp (by simp at hl; omega) hm (fun j hj => by
      rw [hc j (by simp at hl; omega)]
      rw [getElem!_pos ls j hj, getD_lt (by simpa using hj)]
      simp [encL])
    change Calls Try.prog 55 _ _ _ at this
    refine this.mono fun e w' ⟨he, hw⟩ => ⟨?_, hw⟩
    rw [he]
    congr 2
    rw [List.take_of_length_le (by simp at hl; omega), List.any_map]; rfl
set_option maxHeartbeats 3200000 in
set_option maxRecDepth 100000 in
theorem has_any {w : World} {b : Nat} {q : Pm} {S : Eng} {d : Nat} (h : E6 w b q S d) (hn : S.n ≤ 90000) (A : Option Addr) (n c : Nat) (xs : List Int) (hr : Rd .i32 w w.heap.size A n xs) (h32 : In32 xs) (hm : n ≤ 9223372036854775807) :
    Calls Try.prog 29 #[.pointer (some ⟨b, 0, none⟩), .slice A n c] w fun e w' => e = .returned (.bool (fitsB S.n xs)) ∧ Below w.heap.size w w' := by
  obtain ⟨W, hW⟩ : ∃ W, W = w.alloc (.cells #[.pointer (some ⟨b, 0, none⟩)] 22) := ⟨_, rfl⟩
  have hB : Below w.heap.size w W := by rw [hW]; exact (Below.refl _ _).alloc (Nat.le_refl _) _
  have hs : W.heap.size = w.heap.size + 1 := by rw [hW]; simp
  have hr1 : Rd .i32 W W.heap.size A n xs := ⟨hr.len, fun h0 => by
    obtain ⟨g, o, e, hg, hc⟩ := hr.at_ h0
    exact ⟨g, o, e, by omega, fun j hj => (hB.cell (p := ⟨g, o + j, none⟩) hg).trans (hc j hj)⟩⟩
  have hbx : W.cell? ⟨w.heap.size, 0, none⟩ = some (.pointer (some ⟨b, 0, none⟩)) := by rw [hW, Lib.cell_of_heap (blk_new w _)]; rfl
  have HR := Lib.hid (right_any A n c xs W hr1 h32 hm)
  have HB := Lib.hid hB
  have HW := Lib.hid hW
  by_cases ha : allOne xs = true
  · have HC := Lib.hid (containsHas (h.below hB) hbx (by omega) hn A n c W.heap.size xs hr1 ha hm)
    have HE : Hid (fitsB S.n xs = !(xs.any fun x => decide ((S.n : Int) < varZ x))) := by
      unfold Hid
      rw [Bool.eq_iff_iff, fitsB_iff]
      simp only [Bool.not_eq_true', List.any_eq_false, decide_eq_true_eq]
      constructor
      · intro hx x hm; have := (hx x hm).2; omega
      · intro hx x hm; exact ⟨allOne_mem ha hm, by have := hx x hm; omega⟩
    rw [HE.out]
    rw [ha] at HR
    clear h hr hr1 hW hB hbx
    generalize (xs.any fun x => decide ((S.n : Int) < varZ x)) = y at *
    go_enter Try.func29, Try.ntmps29
    go_upto_region 1 with (fail)
    rw [← HW.out]
    go_wp2_with ((go_at_call 54; refine HR.out.mono ?_; rintro e w' ⟨rfl, rfl⟩))
    refine HC.out.mono ?_
    rintro e w' ⟨rfl, r, rfl⟩
    go_wp2_with fail
    go_ret
    exact ⟨rfl, below_drewN HB.out r⟩
  · have ha : allOne xs = false := by simpa using ha
    have HE : Hid (fitsB S.n xs = false) := by
      unfold Hid
      rw [Bool.eq_false_iff]
      intro e
      have := fitsB_iff.1 e
      have h2 : allOne xs = true := by unfold allOne; rw [List.all_eq_true]; exact fun x hx => (this x hx).1
      rw [h2] at ha; cases ha
    rw [HE.out]
    rw [ha] at HR
    clear h hr hr1 hW hB hbx
    go_enter Try.func29, Try.ntmps29
    go_upto_region 1 with (fail)
    rw [← HW.out]
    go_wp2_with ((go_at_call 54; refine HR.out.mono ?_; rintro e w' ⟨rfl, rfl⟩))
    go_ret
    exact ⟨rfl, HB.out⟩
end Go.Proofs.Ytjhopjokllkipaa
