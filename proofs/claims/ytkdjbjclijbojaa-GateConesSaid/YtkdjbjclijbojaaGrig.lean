/- A law's check of all edges: right. -/
import Derived.Test.YtkdjbjclijbojaaGsta
namespace Go.Proofs.Ytkdjbjclijbojaa
open Go.RowKit GatM

set_option maxHeartbeats 6400000 in
set_option maxRecDepth 100000 in
theorem gright_any {B : Nat} {w0 w : World} {k : MkrC} {c : GrC} {gs : Gs} {E T : List Nat} (h : Mkr B w0 w k c gs E T) (ha : Agr gs E T) (hE : E.length ≤ 1000) (hG : gs.length ≤ 80000) (h2 : 2 ≤ E.length) :
    Calls Try.prog 20 #[.pointer (some ⟨k.bk, 0, none⟩)] w fun e w' => e = .returned (.bool true) ∧ Below w.heap.size w w' := by
  have HM := Lib.hid h
  have HA := Lib.hid ha
  have HC : Hid (∀ V, Below w.heap.size w V → V.cell? ⟨k.bk, 0, none⟩ = some (.pointer (some ⟨c.bg, 0, none⟩)) ∧ V.cell? ⟨k.bk, 1, none⟩ = some (.slice k.Ae E.length k.ce) ∧ V.cell? ⟨k.bk, 2, none⟩ = some (.slice k.At E.length k.ct)) := fun V hV => by
    obtain ⟨p0, p1, p2, _⟩ := (h.below hV).mk'.cells
    rw [ha.len] at p2
    exact ⟨p0, p1, p2⟩
  have HR : Hid (∀ V, Below w.heap.size w V → RdN .u64 V V.heap.size k.At E.length T) := fun V hV => by
    have := (h.below hV).mk'.tr.rdn
    rw [ha.len] at this
    exact this
  clear h ha
  go_enter Try.func20, Try.ntmps20
  go_wp2_with fail
  go_loopw [3] (fun i wr => ∃ r : Nat, i = .int .i64 (r : Int) ∧ r ≤ 64 ∧ Hid (Below w.heap.size w wr)) (fun i _ => 64 - (intOf i).toNat)
  case atStart => exact ⟨0, rfl, by omega, Lib.hid (Below.refl _ _)⟩
  case round =>
    obtain ⟨r, rfl, hr, hb⟩ := hrel
    by_cases hlt : r < 64
    · have tk : decide ((r : Int) < 64) = true := decide_eq_true (by omega)
      have tk2 : decide (r < 64) = true := decide_eq_true hlt
      have HRW : Hid (∀ W, Below w.heap.size w W → Calls Try.prog 23 #[.int .i64 (r : Int)] W fun e w' => ∃ g cc, e = .returned (.slice (some ⟨g, 0, none⟩) 6 cc) ∧ RdO w' w'.heap.size (some ⟨g, 0, none⟩) 6 (rowV r) ∧ Below w.heap.size w w') := fun W hW =>
        (trow_any r W).mono fun e w' ⟨g, cc, a, b, d, _⟩ => ⟨g, cc, a, b, hW.trans (d.mono hW.size)⟩
      have HEV : Hid (∀ W g cc, Below w.heap.size w W → RdO W W.heap.size (some ⟨g, 0, none⟩) 6 (rowV r) → Calls Try.prog 11 #[.pointer (some ⟨c.bg, 0, none⟩), .slice (some ⟨g, 0, none⟩) 6 cc, .slice k.Ae E.length k.ce] W fun e w' => ∃ g2, e = .returned (.tuple #[.slice (some ⟨g2, 0, none⟩) E.length E.length, .int .i64 0]) ∧ Hid (∀ j, j < E.length → w'.cell? ⟨g2, j, none⟩ = some (.bool (sayE (rowV r) gs (E.getD j 0)))) ∧ Below w.heap.size w w') := fun W g cc hW hO => by
        have hM := HM.out.below hW
        exact (hM.lv.eval (by omega) (some ⟨g, 0, none⟩) 6 cc (rowV r) hO k.Ae E.length k.ce E hM.mk'.er.rdn HA.out.inn (by omega)).mono fun e w' ⟨g2, a, b, _, d⟩ => ⟨g2, a, Lib.hid fun j hj => b.cell (by omega), hW.trans (d.mono hW.size)⟩
      have hb0 : Below w.heap.size w wr.drew := hb.out.drew
      obtain ⟨x0, x1, _⟩ := HC.out wr hb.out
      clear hb
      go_upto_region 4 with (fail)
      go_region_held3 (fun W => Below w.heap.size w W ∧ W.cell? ⟨k.bk, 0, none⟩ = some (.pointer (some ⟨c.bg, 0, none⟩)) ∧ W.cell? ⟨k.bk, 1, none⟩ = some (.slice k.Ae E.length k.ce))
        (first | exact ⟨by assumption, (HC.out _ (by assumption)).1, (HC.out _ (by assumption)).2.1⟩ | exact ⟨hb0, x0, x1⟩)
        (first | (go_at_call 23; with_reducible refine (HRW.out _ (by assumption)).mono ?_; rintro e w2 ⟨g, cc, rfl, hO, hb2⟩) | (go_at_call 11; with_reducible refine (HEV.out _ _ _ (by assumption) (by assumption)).mono ?_; rintro e w3 ⟨g2, rfl, hr3, hb3⟩))
      all_goals
        have HB3 := Lib.hid hb3
        have HB0 := Lib.hid hb0
        clear x0 x1 HRW HEV hb2 hb3 hb0 hO
        obtain ⟨x0, x1, x2⟩ := HC.out w3 HB3.out
        have HRT := Lib.hid (HR.out w3 HB3.out)
        rename_i hHeld
        clear hHeld
        go_wp2_with fail
        obtain ⟨wo, rfl⟩ : ∃ wo : World, wo = w3 := ⟨_, rfl⟩
        go_loopw [43] (fun i wq => ∃ j : Nat, i = .int .i64 (j : Int) ∧ j ≤ E.length ∧ Hid (∃ q, wq = wo.drewN q)) (fun i _ => E.length - (intOf i).toNat)
        case atStart => exact ⟨0, rfl, Nat.zero_le _, Lib.hid ⟨0, rfl⟩⟩
        case round =>
          obtain ⟨j, rfl, hj, hq⟩ := hrel
          obtain ⟨q, rfl⟩ := hq.out
          by_cases hjl : j < E.length
          · have tj : decide ((j : Int) < (E.length : Int)) = true := decide_eq_true (by omega)
            have tj2 : decide (j < E.length) = true := decide_eq_true hjl
            have tj3 : decide ((E.length : Int) ≤ (j : Int)) = false := decide_eq_false (by omega)
            have hji : (j : Int) < (E.length : Int) := by omega
            obtain ⟨b, o, hAt, hbk, hcj⟩ := HRT.out.get hjl
            rw [hAt]
            have hgj := hr3.out j hjl
            have htb := HA.out.bit r hlt j hjl
            have hu := HA.out.u64 _ (nmem.2 ⟨j, by rw [HA.out.len]; exact hjl, rfl⟩)
            rw [← htb] at hgj
            have HTB : Hid (∀ x : Nat, x.testBit r = decide (x / 2 ^ r % 2 = 1)) := fun x => Nat.testBit_eq_decide_div_mod_eq
            rw [HTB.out] at hgj
            generalize T.getD j 0 = t at *
            have hcj' : (wo.drewN q).cell? ⟨b, o + j, none⟩ = some (.int .u64 (t : Int)) := hcj
            have hgj' : (wo.drewN q).cell? ⟨g2, j, none⟩ = some (.bool (decide (t / 2 ^ r % 2 = 1))) := hgj
            obtain ⟨wq, hwq⟩ : ∃ wq, wq = wo.drewN q := ⟨_, rfl⟩
            rw [← hwq] at hcj' hgj' ⊢
            have HWQ := Lib.hid hwq
            have tb : (((t : Int) / 2 ^ r).tmod 2 == 1) = decide (t / 2 ^ r % 2 = 1) := tbit t r
            clear hcj hgj hq x0 x1 x2 htb hwq hAt
            go_upto_region 10 with (fail)
            go_quiet (fail)
            rename_i nq
            have HQ2 : Hid (∃ q2, wq.drewN nq = wo.drewN q2) := ⟨q + nq, by rw [HWQ.out]; simp [World.drewN, Nat.add_assoc]⟩
            clear HWQ hcj' hgj'
            go_wp2_with fail
            go_roundw
            case rel => exact ⟨j + 1, by go_num, by omega, HQ2⟩
            case measure => simp [intOf]; omega
          · have tj : decide ((j : Int) < (E.length : Int)) = false := decide_eq_false (by omega)
            have tj2 : decide (j < E.length) = false := decide_eq_false hjl
            have HBQ : Hid (Below w.heap.size w (wo.drewN q)) := below_drewN HB3.out q
            clear hq x0 x1 x2
            go_wp2_with fail
            go_roundw
            case rel => exact ⟨r + 1, by go_num, by omega, HBQ⟩
            case measure => simp [intOf]; omega
    · have tk : decide ((r : Int) < 64) = false := decide_eq_false (by omega)
      have tk2 : decide (r < 64) = false := decide_eq_false hlt
      go_wp2_with fail
      go_ret
      exact ⟨rfl, hb.out⟩
end Go.Proofs.Ytkdjbjclijbojaa
