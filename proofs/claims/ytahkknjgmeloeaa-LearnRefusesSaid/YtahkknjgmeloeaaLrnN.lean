/- learnAlive is true. -/
import Derived.Test.YtahkknjgmeloeaaLrnW
import Derived.Test.YtahkknjgmeloeaaLitD
namespace Go.Proofs.Ytahkknjgmeloeaa
open Go.Shelf Go.RowKit Go.Lib LitM TrailM EngM

/-- Of two clauses with 1, and with -1 decided, 1 is learnt. -/
theorem alive_zs {S : Eng} (hI : Inv S) (hm : S.L.map Ent.l = [-1, 2]) (hcl : ∀ i, i < S.cs.length → (1 : Int) ∈ (clA S.cs i).ls) {zs : List Int} (h : Lrnt S 1 zs) : zs = [1] := by
  obtain ⟨u, r, rfl, hu, hr, _⟩ := h.hd
  have hr0 : r = [] := by
    match r with
    | [] => rfl
    | y :: r2 =>
      have h1 := (hr y (by simp)).1
      have h2 := (h.fl y (by simp)).2.1
      omega
  subst hr0
  obtain ⟨_, j, x, hx, e, _⟩ := false_at hI (h.fl u (by simp)).1
  have hxm : x.l ∈ S.L.map Ent.l := List.mem_map.2 ⟨x, List.mem_of_getElem? hx, rfl⟩
  rw [hm] at hxm
  have h3 : u = 1 ∨ u = -2 := by
    simp at hxm
    omega
  rcases h3 with rfl | rfl
  · rfl
  · exfalso
    refine h.rup (fun y => y = 1 ∨ y = 2) ⟨fun y hy h1 h2 => by omega, fun i hi _ _ => .inl ⟨1, hcl i hi, .inl rfl⟩⟩ fun l hl => ?_
    have : l = -2 := by simpa using hl
    rw [this]; exact .inr rfl
theorem cnf_none {S : Eng} (hL : S.L = []) (id : Int) : ¬ CnfZ S id := fun ⟨_, h⟩ => by
  obtain ⟨_, _, h2⟩ := topZ_ok S (clsL S id)
  rcases h2 with e | ⟨l, hl, e⟩
  · omega
  · unfold lvl at e
    rw [hL] at e
    simp [levZ, findE] at e
    omega
set_option maxHeartbeats 3200000 in
set_option maxRecDepth 100000 in
theorem lalive_any (w : World) : Calls Try.prog 30 #[] w fun e w' => e = .returned (.bool true) ∧ Below w.heap.size w w' := by
  have c12 : IsClean [1, 2] [1, 2] := ⟨by decide, fun x => Iff.rfl⟩
  have c13 : IsClean [1, -2] [1, -2] := ⟨by decide, fun x => Iff.rfl⟩
  go_enter Try.func30, Try.ntmps30
  go_wp2_with fail
  refine (enew_any 3 w (by omega)).mono ?_
  intro e w1 hm
  obtain ⟨b, rfl, h1⟩ := Solo.make hm (by decide) (Below.refl w.heap.size w) (Nat.le_refl _)
  rw [show (3 : Int).toNat = 3 from rfl] at h1
  clear hm
  have h1a := h1.below ((Below.refl _ _).alloc (Nat.le_refl _) (.cells #[.int .i32 1, .int .i32 2] 43))
  have HA := Lib.hid (h1a.addYes (by decide) (some ⟨w1.heap.size, 0, none⟩) 2 2 [1, 2] [1, 2] (rd_made w1 [1, 2]) (In32.of (by simp)) (by omega) (by decide) c12)
  rw [show ((newE 3).cs.length : Int) = 0 from rfl, show bothB [1, 2] = false from by decide] at HA
  clear h1 h1a
  go_wp2_with fail
  refine HA.out.mono ?_
  rintro e w2 ⟨rfl, h2⟩
  have h2a := h2.below ((Below.refl _ _).alloc (Nat.le_refl _) (.cells #[.int .i32 1, .int .i32 (-2)] 43))
  have HB := Lib.hid (h2a.addYes (by decide) (some ⟨w2.heap.size, 0, none⟩) 2 2 [1, -2] [1, -2] (rd_made w2 [1, -2]) (In32.of (by simp)) (by omega) (by decide) c13)
  rw [show ((addF (newE 3) [1, 2] false).cs.length : Int) = 1 from rfl, show bothB [1, -2] = false from by decide] at HB
  clear h2 h2a HA
  go_wp2_with fail
  refine HB.out.mono ?_
  rintro e w3 ⟨rfl, h3⟩
  have HP := Lib.hid (h3.prop (by decide))
  obtain ⟨P, hP⟩ : ∃ P, P = propF (addF (addF (newE 3) [1, 2] false) [1, -2] false) := ⟨_, rfl⟩
  have dP : DecI P.1 := by
    rw [hP]
    obtain ⟨_, _, hI, _⟩ := h3
    exact deci_prop hI (deci_add (deci_add (deci_new 3) _ _) _ _)
  rw [← hP] at HP
  have p2 : P.2 = -1 := by rw [hP]; decide
  have e2 : eErr P.1 (-1) = 0 := by rw [hP]; decide
  rw [p2] at HP
  have HPP : Hid (P = propF (addF (addF (newE 3) [1, 2] false) [1, -2] false) ∧ DecI P.1 ∧ eErr P.1 (-1) = 0) := ⟨hP, dP, e2⟩
  clear h3 HB hP p2 dP e2
  go_wp2_with fail
  refine HP.out.mono ?_
  rintro e w4 ⟨rfl, h4⟩
  have HD := Lib.hid (h4.decide (-1) (by omega) (by omega))
  rw [HPP.out.2.2] at HD
  have dD : DecI (decE P.1 (-1)) := by
    obtain ⟨_, _, hI, _⟩ := h4
    exact deci_decE hI HPP.out.2.1 _
  have HDD := Lib.hid dD
  clear h4 HP dD
  go_wp2_with fail
  refine HD.out.mono ?_
  rintro e w5 ⟨rfl, h5⟩
  have hcn : (decE P.1 (-1)).cs.length ≤ 20000 := by rw [HPP.out.1]; decide
  have HQ := Lib.hid (h5.prop hcn)
  have dQ : DecI (propF (decE P.1 (-1))).1 := by
    obtain ⟨_, _, hI, _⟩ := h5
    exact deci_prop hI HDD.out
  obtain ⟨Q, hQ⟩ : ∃ Q, Q = propF (decE P.1 (-1)) := ⟨_, rfl⟩
  rw [← hQ] at HQ dQ
  have q2 : Q.2 = 1 := by rw [hQ, HPP.out.1]; decide
  have qm : Q.1.L.map Ent.l = [-1, 2] := by rw [hQ, HPP.out.1]; decide
  have qc : Q.1.cs.length = 2 := by rw [hQ, HPP.out.1]; decide
  have qd : (1 : Int) ∈ (clA Q.1.cs 0).ls ∧ (1 : Int) ∈ (clA Q.1.cs 1).ls := by rw [hQ, HPP.out.1]; decide
  have qt : topZ Q.1 (clsL Q.1 1) = 1 := by rw [hQ, HPP.out.1]; decide
  have qf : ∀ l ∈ clsL Q.1 1, valZ Q.1.L l = -1 := by rw [hQ, HPP.out.1]; decide
  have ql : (lvsZ Q.1 [1, 2, 3]).length = 1 := by rw [hQ, HPP.out.1]; decide
  have qi : ∀ i, i < Q.1.cs.length → (1 : Int) ∈ (clA Q.1.cs i).ls := fun i hi => by
    rw [qc] at hi
    match i, hi with
    | 0, _ => exact qd.1
    | 1, _ => exact qd.2
  have HF : Hid (DecI Q.1 ∧ Q.1.L.map Ent.l = [-1, 2] ∧ (∀ i, i < Q.1.cs.length → (1 : Int) ∈ (clA Q.1.cs i).ls) ∧ CnfZ Q.1 1 ∧ topZ Q.1 (clsL Q.1 1) = 1 ∧ (lvsZ Q.1 [1, 2, 3]).length = 1) := ⟨dQ, qm, qi, ⟨qf, by rw [qt]; decide⟩, qt, ql⟩
  rw [q2] at HQ
  clear h5 HD dQ hQ q2 qm qc qd qt qf ql qi HPP HDD hcn
  generalize Q.1 = F at *
  go_wp2_with fail
  refine HQ.out.mono ?_
  rintro e w6 ⟨rfl, q6, hE, hI, hb0, h0, hs⟩
  have HE := Lib.hid hE
  have HI := Lib.hid hI
  have H0 := Lib.hid h0
  have HL := Lib.hid (learn_any hE hI HF.out.1 1)
  clear hE hI h0 hs HQ hb0
  go_wp2_with fail
  refine HL.out.mono ?_
  rintro e w7 ⟨hB7, hl⟩
  rcases hl with ⟨hn, _⟩ | ⟨_, g, c, zs, rfl, hz, hr, _⟩
  · exact absurd HF.out.2.2.2.1 hn
  rw [HF.out.2.2.2.2.1] at hz
  obtain rfl := alive_zs HI.out HF.out.2.1 HF.out.2.2.1 hz
  have HB7 := Lib.hid hB7
  have HR := Lib.hid hr
  have hbz : backZ F [1] = 0 := rfl
  rw [hbz]
  have HX : Hid (Calls Try.prog 16 #[.slice (some ⟨g, 0, none⟩) 1 c, .slice (some ⟨w7.heap.size, 0, none⟩) 1 1] (w7.alloc (.cells #[.int .i32 1] 43)) fun e w' => e = .returned (.bool true) ∧ ∃ q, w' = (w7.alloc (.cells #[.int .i32 1] 43)).drewN q) :=
    same_any (some ⟨g, 0, none⟩) (some ⟨w7.heap.size, 0, none⟩) 1 c 1 1 [1] [1] _ _ (SlV.rd (.inr ⟨g, rfl, hr.alloc _⟩) rfl) (rd_made w7 [1]) (by omega) (by omega)
  clear hz hr hB7 HL hbz
  go_wp2_with fail
  refine HX.out.mono ?_
  rintro e w8 ⟨rfl, rr, rfl⟩
  obtain ⟨W8, hW8⟩ : ∃ W, W = (w7.alloc (.cells #[.int .i32 1] 43)).drewN rr := ⟨_, rfl⟩
  have hB8 : Below w7.heap.size w7 W8 := by
    rw [hW8]
    have h := (Below.refl w7.heap.size w7).alloc (Nat.le_refl _) (.cells #[.int .i32 1] 43)
    exact ⟨h.os, h.tape, h.output, h.size, h.block⟩
  rw [← hW8]
  clear hW8 HX
  have hB9 := (Below.refl W8.heap.size W8).alloc (Nat.le_refl _) (.cells #[.int .i32 1, .int .i32 2, .int .i32 3] 43)
  have HE9 := Lib.hid (((HE.out.below HB7.out).below hB8).below hB9)
  have HB9 : Hid (Below w.heap.size w (W8.alloc (.cells #[.int .i32 1, .int .i32 2, .int .i32 3] 43))) := by
    have h1 : Below w.heap.size w w7 := H0.out.trans (HB7.out.mono H0.out.size)
    have h2 : Below w.heap.size w W8 := h1.trans (hB8.mono h1.size)
    exact h2.trans (hB9.mono h2.size)
  have HLv := Lib.hid (levels_any (xs := [1, 2, 3]) (A := some ⟨W8.heap.size, 0, none⟩) (m := 3) (c := 3) HE9.out HI.out.small.n (.inr ⟨_, rfl, RowV.made (by omega) rfl (fun j hj => by
    have : j < 3 := by omega
    match j, this with
    | 0, _ => rfl
    | 1, _ => rfl
    | 2, _ => rfl)⟩) rfl (In32.of (by simp)) (by omega))
  rw [HF.out.2.2.2.2.2] at HLv
  clear hB8 hB9
  go_wp2_with fail
  refine HLv.out.mono ?_
  rintro e w9 ⟨rfl, hb9⟩
  have HB10 : Hid (Below w.heap.size w w9) := HB9.out.trans (hb9.mono HB9.out.size)
  clear hb9
  go_wp2_with fail
  go_ret
  exact ⟨rfl, HB10.out⟩
end Go.Proofs.Ytahkknjgmeloeaa
