/- A search's found: the values of all variables; the contract. A solver's conclude. -/
import Derived.Test.YtfllhfhcmoemeaaGreatSolR
namespace Go.Proofs.YtfllhfhcmoemeaaGreat
open Go.Shelf Go.RowKit Go.Lib Go.Sort LitM TrailM EngM

/-- The values of all variables. -/
def foundL (S : Eng) : List Bool := (List.range S.n).map fun (i : Nat) => valZ S.L ((i : Int) + 1) == 1
theorem foundL_length (S : Eng) : (foundL S).length = S.n := by simp [foundL]
theorem foundL_get (S : Eng) {j : Nat} (h : j < S.n) : (foundL S).getD j false = (valZ S.L ((j : Int) + 1) == 1) := by
  simp [foundL, List.getD, h]
section
variable {B bs bh n cp : Nat} {w0 w w' : World} {c : SolC} {S S' : Eng} {q q' : Pm} {F : Nat → Prop} {sc : Nat → Int} {wt : Nat → Bool} {vs : List Bool} {A : Option Addr} {ak bud bef : Int}
set_option maxHeartbeats 3200000 in
set_option maxRecDepth 100000 in
theorem sfound_any (h : Srch B w0 w bs bh c S q F sc wt vs A n cp ak bud bef) :
    Calls Tryz.prog 84 #[.pointer (some ⟨bh, 0, none⟩)] w fun e w' => e = .returned (.slice (some ⟨w.heap.size, 0, none⟩) S.n S.n) ∧ RowV 4 1 w' w.heap.size S.n S.n (boC (foundL S)) ∧ Below w.heap.size w w' := by
  have hln := h.s.ln
  obtain ⟨a0, _⟩ := h.cells
  have HV := Lib.hid (svars_any h.s)
  obtain ⟨C, c1, c2, hm⟩ := make_sl (P := Tryz.prog) 40 4 Tryz.underlying40 info_bool rfl (by decide) (by decide) S.n (by omega)
  have HR0 : Hid (RowV 4 1 (w.alloc (.cells C 4)) w.heap.size S.n S.n (fun _ => .bool false)) := RowV.made (by omega) c1 (fun j hj => by rw [c2 j hj]; simp [Nat.mod_one]; rfl)
  have HF := Lib.hid (fun j (hj : j < S.n) => foundL_get S hj)
  have HH := Lib.hid h
  obtain ⟨N, hN⟩ : ∃ N, N = S.n := ⟨_, rfl⟩
  have HN := Lib.hid hN
  rw [← hN] at HV hm HR0 HF hln ⊢
  clear h c1 c2 hN
  obtain ⟨w0, rfl⟩ : ∃ w0 : World, w0 = w := ⟨_, rfl⟩
  go_enter Tryz.func84, Tryz.ntmps84
  go_wp2_with fail
  refine HV.out.mono ?_
  rintro e w' ⟨rfl, rfl⟩
  go_wp2_with fail
  go_loopw [13, 4] (fun v _ wr => ∃ m : Nat, v = .int .i64 (m : Int) ∧ m ≤ N ∧ Hid (RowV 4 1 wr w'.heap.size N N (fun j => if j < m then boC (foundL S) j else .bool false)) ∧ Hid (Below w'.heap.size w' wr)) (fun v _ _ => N - (intOf v).toNat)
  case atStart => exact ⟨0, rfl, by omega, HR0.out.congr (fun j hj => by simp), Lib.hid ((Below.refl _ _).alloc (Nat.le_refl _) _)⟩
  case round =>
    obtain ⟨m, rfl, hml, hR, hB⟩ := hrel
    by_cases hlt : m < N
    · have tm : decide ((m : Int) < (N : Int)) = true := decide_eq_true (by omega)
      have hr := HH.out.below hB.out
      obtain ⟨b0, _⟩ := hr.cells
      obtain ⟨_, _, b2, _⟩ := hr.s.cells
      have be := hr.s.e0
      have HVa := Lib.hid (hr.s.eng.asks.2.1 ((m : Int) + 1) (by omega) (by omega))
      have hcm : wr.cell? ⟨w'.heap.size, m, none⟩ = some (.bool false) := by
        rw [hR.out.cell (show m < N * 1 by omega)]; simp
      have hfm := hR.out.free m
      have HX := Lib.hid (HF.out m hlt)
      generalize valZ S.L ((m : Int) + 1) = z at *
      have HNx : Hid (RowV 4 1 (wr.setCell ⟨w'.heap.size, m, none⟩ (.bool (z == 1))) w'.heap.size N N (fun j => if j < m + 1 then boC (foundL S) j else .bool false) ∧ Below w'.heap.size w' (wr.setCell ⟨w'.heap.size, m, none⟩ (.bool (z == 1)))) := by
        refine ⟨(hR.out.set (show m < N * 1 by omega) _).congr fun j hj => ?_, hB.out.setCell (p := ⟨w'.heap.size, m, none⟩) (Nat.le_refl _) _⟩
        by_cases e : j = m
        · subst e; rw [updV_at, if_pos (by omega)]; unfold boC; rw [HX.out]
        · rw [updV_ne _ _ e]
          by_cases e2 : j < m
          · rw [if_pos e2, if_pos (by omega)]
          · rw [if_neg e2, if_neg (by omega)]
      clear hr hR hB HX a0
      go_wp2_with fail
      refine HVa.out.mono ?_
      rintro e w'' ⟨rfl, rfl⟩
      go_wp2_with fail
      go_roundw
      case rel => exact ⟨m + 1, by go_num, by omega, Lib.hid HNx.out.1, Lib.hid HNx.out.2⟩
      case measure => simp [intOf]; omega
    · have tm : decide ((m : Int) < (N : Int)) = false := decide_eq_false (by omega)
      obtain rfl : m = N := by omega
      go_wp2_with fail
      go_ret
      exact ⟨rfl, hR.out.congr fun j hj => by rw [if_pos (by omega)], hB.out⟩
end
end Go.Proofs.YtfllhfhcmoemeaaGreat
