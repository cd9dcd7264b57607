/- The contracts of cnf.within and cnf.Right. -/
import Derived.Test.YtcfbnddoknpehaaGreatDoorRight
import Derived.Test.YtcfbnddoknpehaaGreatDoorFindL
import Derived.Test.YtcfbnddoknpehaaGreatDoorRdF
namespace Go.Proofs.YtcfbnddoknpehaaGreatDoor
open Go.RowKit LitM CnfP

theorem clauseB_no {v : Int} {c : List Int} (h : allOne c = false) : clauseB v c = false := by
  rw [← Bool.not_eq_true]
  intro ha
  unfold clauseB at ha
  rw [List.all_eq_true] at ha
  rw [← Bool.not_eq_true] at h
  refine h ?_
  unfold allOne
  rw [List.all_eq_true]
  intro x hx
  have := ha x hx
  unfold litB at this
  rw [Bool.and_eq_true] at this
  exact this.1
theorem clauseB_any {v : Int} {c : List Int} (h : allOne c = true) : (!c.any (fun l => decide (v < varZ l))) = clauseB v c := by
  unfold allOne at h
  unfold clauseB
  rw [List.all_eq_true] at h
  rw [Bool.eq_iff_iff, Bool.not_eq_true', List.any_eq_false, List.all_eq_true]
  constructor
  · intro hh x hx
    have := hh x hx
    unfold litB
    rw [h x hx]
    simp at this ⊢
    omega
  · intro hh x hx
    have := hh x hx
    unfold litB at this
    rw [h x hx] at this
    simp at this ⊢
    omega

theorem eg_within1 : ∀ args w, (callFunc 40 args).run Tryz.prog w = .ok (.enter 40 args) w := enters_of Tryz.func40 (by kernel_rfl) rfl
theorem var_q (l : Int) (w : World) (h0 : -2147483648 ≤ l) (h1 : l ≤ 2147483647) :
    Calls Tryz.prog 36 #[.int .i32 l] w fun e w' => e = .returned (.int .i64 (varZ l)) ∧ w' = w :=
  (var_any l w h0 h1).mono fun _ _ ⟨he, hw⟩ => ⟨he, hw.symm⟩

set_option maxHeartbeats 400000 in
theorem within1_says (B : Nat) (v : Int) (w : World) (hc : w.cell? ⟨B, 0, none⟩ = some (.int .i64 v)) (x : Int) (h0 : -2147483648 ≤ x) (h1 : x ≤ 2147483647) :
    Says 40 #[.pointer (some ⟨B, 0, none⟩)] (Value.int .i32) (fun l => decide (v < varZ l)) w x := by
  intro q
  have hc' : (w.drewN q).cell? ⟨B, 0, none⟩ = some (.int .i64 v) := hc
  generalize hW : w.drewN q = W at *
  have HW := Lib.hid hW; clear hW
  by_cases hv : v < varZ x
  all_goals
    have EV : Hid (decide (v < varZ x) = true ∨ decide (v < varZ x) = false) := by unfold Hid; simp; omega
    show Calls Tryz.prog 40 #[.int .i32 x, .pointer (some ⟨B, 0, none⟩)] W _
    go_enter Tryz.func40, Tryz.ntmps40
    go_wp2
    go_quiet ((go_at_call 36; exact Calls.quiet_of_same (var_q _ _ (by omega) (by omega))))
    go_wp2
    all_goals (go_ret; exact ⟨ret_bool (by simp [hv]), _, by rw [← HW.out]; exact World.drewN_drewN _ _ _⟩)

set_option maxHeartbeats 800000 in
theorem within_any (A : Option Addr) (n c : Nat) (xs : List Int) (v : Int) (w : World) (h : Rd .i32 w w.heap.size A n xs) (hr : In32 xs) (hn : n ≤ 9223372036854775807) :
    Calls Tryz.prog 26 #[.slice A n c, .int .i64 v] w fun e w' => e = .returned (.bool (clauseB v xs)) ∧ Below w.heap.size w w' := by
  have hmf : ∀ (fn : Fn) (first cap : Array Value) (w : World), (Instr.makeFunc fn first cap).run Tryz.prog w = .ok (.func fn first cap) w := fun _ _ _ _ => rfl
  have hR := (h.alloc (Nat.le_refl _) (.cells #[.int .i64 v] 3)).more (B' := (w.alloc (.cells #[.int .i64 v] 3)).heap.size) (by simp)
  have HRI := Lib.hid (right_any A n c xs _ hR hr hn)
  rcases ha : allOne xs with _ | _
  · have EV := Lib.hid (clauseB_no (v := v) ha)
    have h2 := HRI.out
    rw [ha] at h2
    have H2 := Lib.hid h2
    clear h2 ha hR HRI
    go_enter Tryz.func26, Tryz.ntmps26
    go_wp2_with fail
    refine H2.out.mono ?_
    rintro e w' ⟨rfl, rfl⟩
    go_wp2_with fail
    go_ret
    exact ⟨ret_bool (by rw [EV.out]), (Below.refl _ _).alloc (Nat.le_refl _) _⟩
  · have EV := Lib.hid (clauseB_any (v := v) ha)
    have h2 := HRI.out
    rw [ha] at h2
    have H2 := Lib.hid h2
    have hcon := containsL_any 40 #[.pointer (some ⟨w.heap.size, 0, none⟩)] (fun l => decide (v < varZ l)) eg_within1 A n c xs _ _ hR hn (fun j _ => within1_says w.heap.size v _ (by simp) _ (hr j).1 (hr j).2)
    generalize (xs.any fun l => decide (v < varZ l)) = r at *
    have HC := Lib.hid hcon
    clear h2 ha hR HRI hcon
    go_enter Tryz.func26, Tryz.ntmps26
    go_wp2_with fail
    refine H2.out.mono ?_
    rintro e w' ⟨rfl, rfl⟩
    go_wp2_with fail
    refine HC.out.mono ?_
    rintro e w' ⟨rfl, q, rfl⟩
    go_wp2_with fail
    go_ret
    exact ⟨ret_bool (by rw [← EV.out]), below_drewN ((Below.refl _ _).alloc (Nat.le_refl _) _) q⟩
end Go.Proofs.YtcfbnddoknpehaaGreatDoor
