/- The contracts of a Rank's asking methods, at the queue's level. -/
import Derived.Test.YtffpggdbmfidcaaPush
namespace Go.Proofs.Ytffpggdbmfidcaa
open Go.RowKit HeapM

/-- Is it one of so many? -/
def inB (n : Nat) (v : Int) : Bool := decide (1 ≤ v ∧ v ≤ n)
theorem inB_iff (n : Nat) (v : Int) : inB n v = true ↔ 1 ≤ v ∧ v ≤ n := by simp [inB]
theorem inB_no (n : Nat) (v : Int) : inB n v = false ↔ ¬ (1 ≤ v ∧ v ≤ n) := by rw [← inB_iff]; simp

section
variable {b gs cs gp cp go co n m : Nat} {sc pl : Nat → Int} {od : Nat → Nat}

set_option maxHeartbeats 1600000 in
theorem qvars_any {np : Nat} (w : World) (h : Q3 w b gs cs gp cp go co (n + 1) np m sc pl od) (hn : n ≤ 1000) :
    Calls Try.prog 30 #[.pointer (some ⟨b, 0, none⟩)] w fun e w' => e = .returned (.int .i64 n) ∧ w = w' := by
  have c0 := h.h0
  clear h
  go_enter Try.func30, Try.ntmps30
  go_wp2
  go_ret
  exact ⟨ret_int (by omega), rfl⟩
set_option maxHeartbeats 1600000 in
theorem vars_nat (w : World) (h : QAt w b gs cs gp cp go co n m sc pl od) (hn : n ≤ 1000) :
    Calls Try.prog 12 #[.pointer (some ⟨b, 0, none⟩)] w fun e w' => e = .returned (.int .i64 n) ∧ w = w' := by
  have H := Lib.hid (qvars_any w h hn)
  clear h
  go_enter Try.func12, Try.ntmps12
  go_wp2_with fail
  refine H.out.mono ?_
  rintro e w' ⟨rfl, rfl⟩
  go_wp2_with fail
  go_ret
  exact ⟨rfl, rfl⟩
set_option maxHeartbeats 1600000 in
theorem len_nat (w : World) (h : QAt w b gs cs gp cp go co n m sc pl od) :
    Calls Try.prog 25 #[.pointer (some ⟨b, 0, none⟩)] w fun e w' => e = .returned (.int .i64 m) ∧ w = w' := by
  have H := Lib.hid (len_any w h)
  clear h
  go_enter Try.func25, Try.ntmps25
  go_wp2_with fail
  refine H.out.mono ?_
  rintro e w' ⟨rfl, rfl⟩
  go_wp2_with fail
  go_ret
  exact ⟨rfl, rfl⟩
set_option maxHeartbeats 1600000 in
theorem has_nat (w : World) (h : QAt w b gs cs gp cp go co n m sc pl od) (hn : n ≤ 1000) (v : Int) :
    Calls Try.prog 27 #[.pointer (some ⟨b, 0, none⟩), .int .i64 v] w fun e w' => e = .returned (.bool (inB n v)) ∧ w = w' := by
  have H := Lib.hid (vars_nat w h hn)
  clear h
  by_cases h1 : v < 1
  · have HE := Lib.hid ((inB_no n v).2 (by omega))
    go_enter Try.func27, Try.ntmps27
    go_wp2_with fail
    go_ret
    exact ⟨ret_bool (by rw [HE.out]), rfl⟩
  · have h1' : 1 ≤ v := by omega
    have t1 : decide (1 ≤ v) = true := decide_eq_true h1'
    by_cases h2 : v ≤ n
    · have HE := Lib.hid ((inB_iff n v).2 ⟨h1', h2⟩)
      clear h1
      go_enter Try.func27, Try.ntmps27
      go_wp2_with fail
      refine H.out.mono ?_
      rintro e w' ⟨rfl, rfl⟩
      go_wp2_with fail
      go_ret
      exact ⟨ret_bool (by rw [HE.out]), rfl⟩
    · have HE := Lib.hid ((inB_no n v).2 (by omega))
      clear h1
      go_enter Try.func27, Try.ntmps27
      go_wp2_with fail
      refine H.out.mono ?_
      rintro e w' ⟨rfl, rfl⟩
      go_wp2_with fail
      go_ret
      exact ⟨ret_bool (by rw [HE.out]; simp; omega), rfl⟩

set_option maxHeartbeats 1600000 in
set_option maxRecDepth 100000 in
theorem waits_nat (w : World) (h : QAt w b gs cs gp cp go co n m sc pl od) (hn : n ≤ 1000) (v : Int) :
    Calls Try.prog 24 #[.pointer (some ⟨b, 0, none⟩), .int .i64 v] w fun e w' => e = .returned (.bool (inB n v && (pl v.toNat != -1))) ∧ w = w' := by
  have H := Lib.hid (has_nat w h hn v)
  rcases hb : inB n v
  · rw [hb] at H
    clear h hb
    go_enter Try.func24, Try.ntmps24
    go_wp2_with fail
    refine H.out.mono ?_
    rintro e w' ⟨rfl, rfl⟩
    go_wp2_with fail
    go_ret
    exact ⟨rfl, rfl⟩
  · rw [hb] at H
    obtain ⟨h1, h2⟩ := (inB_iff n v).1 hb
    have h0 : 0 ≤ v := by omega
    have c1 := h.h1
    have hc := h.pls.cell (show v.toNat < n + 1 by omega)
    clear h hb
    obtain ⟨v, rfl⟩ := Int.eq_ofNat_of_zero_le h0
    rw [show ((v : Int).toNat) = v from by omega] at hc ⊢
    generalize pl v = x at *
    go_enter Try.func24, Try.ntmps24
    go_wp2_with fail
    refine H.out.mono ?_
    rintro e w' ⟨rfl, rfl⟩
    go_wp2_with fail
    go_ret
    exact ⟨ret_bool (by simp), rfl⟩

set_option maxHeartbeats 1600000 in
set_option maxRecDepth 100000 in
theorem score_nat (w : World) (h : QAt w b gs cs gp cp go co n m sc pl od) (hn : n ≤ 1000) (v : Int) :
    Calls Try.prog 23 #[.pointer (some ⟨b, 0, none⟩), .int .i64 v] w fun e w' => e = .returned (.int .i64 (if inB n v = true then sc v.toNat else 0)) ∧ w = w' := by
  have H := Lib.hid (has_nat w h hn v)
  rcases hb : inB n v
  · rw [hb] at H
    clear h hb
    go_enter Try.func23, Try.ntmps23
    go_wp2_with fail
    refine H.out.mono ?_
    rintro e w' ⟨rfl, rfl⟩
    go_wp2_with fail
    go_ret
    exact ⟨ret_int (by simp), rfl⟩
  · rw [hb] at H
    obtain ⟨h1, h2⟩ := (inB_iff n v).1 hb
    have h0 : 0 ≤ v := by omega
    have c1 := h.h0
    have hc := h.scs.cell (show v.toNat < n + 1 by omega)
    clear h hb
    obtain ⟨v, rfl⟩ := Int.eq_ofNat_of_zero_le h0
    rw [show ((v : Int).toNat) = v from by omega] at hc ⊢
    generalize sc v = x at *
    go_enter Try.func23, Try.ntmps23
    go_wp2_with fail
    refine H.out.mono ?_
    rintro e w' ⟨rfl, rfl⟩
    go_wp2_with fail
    go_ret
    exact ⟨ret_int (by simp), rfl⟩
end
end Go.Proofs.Ytffpggdbmfidcaa
