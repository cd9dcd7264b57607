/- The contract of container/heap's up over a queue. -/
import Derived.Test.YtffpggdbmfidcaaHeapD
namespace Go.Proofs.Ytffpggdbmfidcaa
open Go.RowKit HeapM

section
variable {b gs cs gp cp go co n m : Nat} {sc pl : Nat → Int} {od : Nat → Nat}

/-- What up leaves: all in order. -/
def UpPost (b gs cs gp cp go co n m : Nat) (sc pl : Nat → Int) (w : World) (e : Ending) (w' : World) : Prop :=
  ∃ (pl' : Nat → Int) (od' : Nat → Nat), e = .returned (.tuple #[]) ∧ QAt w' b gs cs gp cp go co n m sc pl' od' ∧ Kf (Foot b gs gp go) w w' ∧ Inv n m pl' od' ∧ SameW n pl pl' ∧ Hp sc od' 0 m
/-- The loop's relation. -/
def UpRel (b gs cs gp cp go co n m : Nat) (sc pl : Nat → Int) (w : World) (v : Value) (wr : World) : Prop :=
  ∃ (j : Nat) (pl' : Nat → Int) (od' : Nat → Nat), v = .int .i64 (j : Int) ∧ j < m ∧ QAt wr b gs cs gp cp go co n m sc pl' od' ∧ Kf (Foot b gs gp go) w wr ∧ Inv n m pl' od' ∧ SameW n pl pl' ∧ Up sc od' m j
theorem up_next {j : Nat} {pl' : Nat → Int} {od' : Nat → Nat} {w wr w2 : World} (hj : 1 ≤ j) (hjm : j < m) (hQ : QAt w2 b gs cs gp cp go co n m sc (swP pl' od' ((j - 1) / 2) j) (swO od' ((j - 1) / 2) j)) (hK : Kf (Foot b gs gp go) w wr) (hK2 : Kf (Foot b gs gp go) wr w2)
    (hI : Inv n m pl' od') (hA : SameW n pl pl') (hU : Up sc od' m j) (hl : lessB sc (od' j) (od' ((j - 1) / 2)) = true) : UpRel b gs cs gp cp go co n m sc pl w (.int .i64 (((j - 1) / 2 : Nat) : Int)) w2 :=
  ⟨(j - 1) / 2, _, _, rfl, by omega, hQ, hK.trans hK2 (fun _ h => .inl h), swap_any hI (by omega) hjm, hA.trans (swap_alike hI (by omega) hjm), hU.step hj hjm (lessB_yes hl)⟩

set_option maxHeartbeats 6400000 in
set_option maxRecDepth 100000 in
theorem up_any (w : World) (h : QAt w b gs cs gp cp go co n m sc pl od) (hI : Inv n m pl od) (hn : n ≤ 1000) {j : Nat} (hj : j < m) (hU : Up sc od m j) :
    Calls Try.prog 37 #[.iface 58 (.pointer (some ⟨b, 0, none⟩)), .int .i64 j] w (UpPost b gs cs gp cp go co n m sc pl w) := by
  have hml := hI.le
  have HS : Hid (UpRel b gs cs gp cp go co n m sc pl w (.int .i64 (j : Int)) w) := ⟨j, pl, od, rfl, hj, h, Kf.refl _ _, hI, SameW.refl _ _, hU⟩
  clear h hI hU
  have ml := meth_less
  have ms := meth_swap
  go_enter Try.func37, Try.ntmps37
  go_wp2_with fail
  go_loopw [1] (fun v wr => UpRel b gs cs gp cp go co n m sc pl w v wr) (fun v _ => (intOf v).toNat)
  case atStart => exact HS.out
  case round =>
    clear HS
    obtain ⟨j, pl', od', rfl, hjm, hQ, hK, hI, hA, hU⟩ := hrel
    by_cases hz : j = 0
    · subst hz
      have HE : Hid (UpPost b gs cs gp cp go co n m sc pl w (.returned (.tuple #[])) wr) := ⟨pl', od', rfl, hQ, hK, hI, hA, hU.stop0⟩
      clear hQ hK hI hA hU
      go_wp2_with fail
      go_end0
      exact HE.out
    · have t0 : (((j : Int) - 1) / 2).toNat = (j - 1) / 2 := by omega
      have t2 : ((j : Int).toNat) = j := by omega
      have hj1 : 1 ≤ (j : Int) := by omega
      have hne : (((j : Int) - 1) / 2 == (j : Int)) = false := by rw [beq_eq_false_iff_ne]; omega
      have L1 := less_any wr hQ hI hn (j : Int) (((j : Int) - 1) / 2) (by omega) (by omega) (by omega) (by omega)
      rw [t0, t2] at L1
      by_cases b1 : lessB sc (od' j) (od' ((j - 1) / 2)) = true
      · have HSW : Hid (∀ q, Calls Try.prog 57 #[.pointer (some ⟨b, 0, none⟩), .int .i64 (((j : Int) - 1) / 2), .int .i64 j] (wr.drewN q) fun e w' => e = .returned (.tuple #[]) ∧ UpRel b gs cs gp cp go co n m sc pl w (.int .i64 (((j : Int) - 1) / 2)) w') := fun q => by
          refine (swap_same (wr.drewN q) (hQ.drewN q) hI hn (((j : Int) - 1) / 2) (j : Int) (by omega) (by omega) (by omega) (by omega)).mono ?_
          rintro e w2 ⟨rfl, hq2, hk2⟩
          rw [t2, t0] at hq2
          refine ⟨rfl, ?_⟩
          have := up_next (by omega) hjm hq2 (hK.drewN q) hk2 hI hA hU b1
          rwa [show (((j - 1) / 2 : Nat) : Int) = ((j : Int) - 1) / 2 from by omega] at this
        simp only [b1] at L1
        clear hQ hK hI hA hU t0 t2 b1 hz
        go_wp2_with fail
        refine L1.mono ?_
        rintro e w2 ⟨rfl, q2, rfl⟩
        go_wp2_with fail
        refine (HSW.out _).mono ?_
        rintro e w3 ⟨rfl, hr⟩
        go_wp2_with fail
        go_roundw
        case rel => exact hr
        case measure => simp [intOf]; omega
      · have b1' : lessB sc (od' j) (od' ((j - 1) / 2)) = false := by simpa using b1
        have HE : Hid (∀ q, UpPost b gs cs gp cp go co n m sc pl w (.returned (.tuple #[])) (wr.drewN q)) := fun q => ⟨pl', od', rfl, hQ.drewN q, hK.drewN q, hI, hA, hU.stop (lessB_no b1')⟩
        simp only [b1'] at L1
        clear hQ hK hI hA hU t0 t2 b1 b1' hz
        go_wp2_with fail
        refine L1.mono ?_
        rintro e w2 ⟨rfl, q2, rfl⟩
        go_wp2_with fail
        go_end0
        exact HE.out _
end
end Go.Proofs.Ytffpggdbmfidcaa
