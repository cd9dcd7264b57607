/- The contract of the plain answer's Number. -/
import Derived.Test.YtcfbnddoknpehaaGreatDoorNumM
import Derived.Test.YtcfbnddoknpehaaGreatDoorPDec
namespace Go.Proofs.YtcfbnddoknpehaaGreatDoor
open Go.RowKit LitM CnfP Words

/-- The loop's relation. -/
def PNum (d : List UInt8) (w : World) (n i : Value) (wr : World) : Prop :=
  ∃ k : Nat, k ≤ d.length ∧ i = .int .i64 k ∧ n = .int .i64 (valN (d.take k) : Nat) ∧ (d.take k).all digB = true ∧ wr = w

/-- What Number answers. -/
def PNumPost (ok : Bool) (v : Int) (w : World) (e : Ending) (w' : World) : Prop := e = .returned (.tuple #[.int .i64 (if ok then v else 0), .bool ok]) ∧ w = w'
theorem PNumPost.yes {v : Int} {w : World} : PNumPost true v w (.returned (.tuple #[.int .i64 v, .bool true])) w := ⟨rfl, rfl⟩
theorem PNumPost.no {v : Int} {w : World} : PNumPost false v w (.returned (.tuple #[.int .i64 0, .bool false])) w := ⟨rfl, rfl⟩
theorem digB_lo {c : UInt8} (h : (c.toNat : Int) < 48) : digB c = false := by
  unfold digB; rw [Bool.and_eq_false_iff]; left; rw [decide_eq_false_iff_not]; omega
theorem digB_hi {c : UInt8} (h : 57 < (c.toNat : Int)) : digB c = false := by
  unfold digB; rw [Bool.and_eq_false_iff]; right; rw [decide_eq_false_iff_not]; omega
theorem digB_in {c : UInt8} (h : 48 ≤ (c.toNat : Int)) (h2 : (c.toNat : Int) ≤ 57) : digB c = true := by
  unfold digB; rw [Bool.and_eq_true]; exact ⟨decide_eq_true (by omega), decide_eq_true (by omega)⟩
theorem take_snocB {d : List UInt8} {k : Nat} (h : k < d.length) : d.take (k + 1) = d.take k ++ [d.getD k 0] := by
  rw [List.take_succ_eq_append_getElem h, List.getD_eq_getElem?_getD, List.getElem?_eq_getElem h]; rfl
theorem all_not {d : List UInt8} {k : Nat} (h : k < d.length) (hx : digB (d.getD k 0) = false) : d.all digB = false := by
  rw [List.all_eq_false]
  refine ⟨d[k], List.getElem_mem h, ?_⟩
  rw [List.getD_eq_getElem?_getD, List.getElem?_eq_getElem h] at hx
  simpa using hx

set_option maxHeartbeats 1600000 in
set_option maxRecDepth 100000 in
theorem pnum_minus (d : List UInt8) (w : World) :
    Calls Tryz.prog 32 #[.string ⟨(45 :: d).toArray⟩] w (PNumPost (okB (45 :: d)) (valZ (45 :: d)) w) := by
  obtain ⟨sb, hsb⟩ : ∃ sb : ByteArray, sb = ⟨(45 :: d).toArray⟩ := ⟨_, rfl⟩
  obtain ⟨tb, htb⟩ : ∃ tb : ByteArray, tb = ⟨d.toArray⟩ := ⟨_, rfl⟩
  have hz : sb.size = d.length + 1 := by rw [hsb, size_mk]; rfl
  have h0 : 0 < sb.size := by omega
  have h45 : ((sb[0].toNat : Int) == 45) = true := by subst hsb; rfl
  have hx : sb.extract 1 sb.size = tb := by
    rw [hsb, htb, size_mk]; apply ByteArray.ext; simp
  have hn : tb.size = d.length := by rw [htb, size_mk]
  have ht1 : 1 ≤ sb.size := by omega
  have HE : Hid (okB (45 :: d) = (decide (1 ≤ d.length) && decide (d.length ≤ 9) && d.all digB)) := rfl
  have HV : Hid (valZ (45 :: d) = -(valN d : Int)) := rfl
  have hat : ∀ (k : Nat) (h : k < tb.size), tb[k]'h = d.getD k 0 := fun k h => by subst htb; rw [List.getD_eq_getElem?_getD]; rw [size_mk] at h; rw [List.getElem?_eq_getElem h]; rfl
  have HAT := Lib.hid hat
  rw [← hsb]
  generalize okB (45 :: d) = ok at *
  generalize valZ (45 :: d) = vz at *
  clear hsb htb hat
  clear hz
  by_cases hlen : 1 ≤ d.length ∧ d.length ≤ 9
  case neg =>
    have EV : ok = false := by
      rw [HE.out, Bool.and_eq_false_iff, Bool.and_eq_false_iff, decide_eq_false_iff_not, decide_eq_false_iff_not]; omega
    clear HE
    subst EV
    go_enter Tryz.func32, Tryz.ntmps32
    by_cases hl1 : d.length < 1
    · have t1 : decide (d.length < 1) = true := decide_eq_true (by omega)
      have t1' : decide ((d.length : Int) < 1) = true := decide_eq_true (by omega)
      go_wp2
      go_ret2
      exact PNumPost.no
    · have t1 : decide (d.length < 1) = false := decide_eq_false (by omega)
      have t1' : decide ((d.length : Int) < 1) = false := decide_eq_false (by omega)
      have t2 : decide (9 < d.length) = true := decide_eq_true (by omega)
      have t2' : decide (9 < (d.length : Int)) = true := decide_eq_true (by omega)
      have t2' : decide (9 < (d.length : Int)) = true := decide_eq_true (by omega)
      go_wp2
      go_ret2
      exact PNumPost.no
  have t1 : decide (d.length < 1) = false := decide_eq_false (by omega)
  have t1' : decide ((d.length : Int) < 1) = false := decide_eq_false (by omega)
  have t2 : decide (9 < d.length) = false := decide_eq_false (by omega)
  have t2' : decide (9 < (d.length : Int)) = false := decide_eq_false (by omega)
  have t2' : decide (9 < (d.length : Int)) = false := decide_eq_false (by omega)
  go_enter Tryz.func32, Tryz.ntmps32
  go_wp2
  go_loopw [5, 6] (fun n i wr => PNum d w n i wr) (fun _ i _ => d.length - (intOf i).toNat)
  case atStart => exact ⟨0, Nat.zero_le _, rfl, rfl, rfl, rfl⟩
  case round =>
    obtain ⟨k, hk, rfl, rfl, hal, rfl⟩ := hrel
    have HAL := Lib.hid hal
    clear hal
    have hvb : valN (d.take k) ≤ 999999999 := valN_small HAL.out (by rw [List.length_take]; omega)
    by_cases hlt : k < d.length
    · have tk : decide (k < d.length) = true := decide_eq_true (by omega)
      have tk' : decide ((k : Int) < (d.length : Int)) = true := decide_eq_true (by omega)
      have hk' : k < tb.size := by omega
      go_wp2
      · rename_i h1
        have EV : ok = false := by rw [HE.out, all_not hlt (digB_lo (by rw [← HAT.out k hk']; exact h1))]; simp
        clear HE
        subst EV
        go_ret2
        exact PNumPost.no
      · rename_i h1
        have EV : ok = false := by rw [HE.out, all_not hlt (digB_hi (by rw [← HAT.out k hk']; first | exact h1 | omega))]; simp
        clear HE
        subst EV
        go_ret2
        exact PNumPost.no
      · rename_i h1 h2
        have hd : digB (d.getD k 0) = true := digB_in (by rw [← HAT.out k hk']; omega) (by rw [← HAT.out k hk']; exact h2)
        have hx0 : 48 ≤ (d.getD k 0).toNat ∧ (d.getD k 0).toNat ≤ 57 := by
          rw [← HAT.out k hk']; omega
        rw [HAT.out k hk']
        go_roundw
        case rel =>
          refine ⟨k + 1, hlt, by go_num, ?_, by rw [take_snocB hlt, List.all_append, HAL.out]; show (true && (digB (d.getD k 0) && true)) = true; rw [hd]; rfl, rfl⟩
          rw [take_snocB hlt, valN_snoc]
          congr 1
          omega
        case measure => simp [intOf]; omega
    · have tk : decide (k < d.length) = false := decide_eq_false (by omega)
      have tk' : decide ((k : Int) < (d.length : Int)) = false := decide_eq_false (by omega)
      have hfull : d.take k = d := by rw [show k = d.length from by omega]; exact List.take_length
      have EV : ok = true := by
        have h1 := HAL.out
        rw [hfull] at h1
        rw [HE.out, h1]; simp; omega
      clear HE
      subst EV
      rw [hfull] at hvb ⊢
      have hw : IntKind.i64.wrap (-(valN d : Int)) = -(valN d : Int) := IntWalk.i64_in _ (by omega)
      go_wp2
      go_ret2
      first | rw [HV.out] | (rw [hw]; rw [HV.out])
      exact PNumPost.yes

set_option maxHeartbeats 1600000 in
set_option maxRecDepth 100000 in
theorem pnum_plain (d : List UInt8) (w : World) (hm : minusB d = false) :
    Calls Tryz.prog 32 #[.string ⟨d.toArray⟩] w (PNumPost (okB d) (valZ d) w) := by
  obtain ⟨tb, htb⟩ : ∃ tb : ByteArray, tb = ⟨d.toArray⟩ := ⟨_, rfl⟩
  have hsb := htb
  have hn : tb.size = d.length := by rw [htb, size_mk]
  have HE : Hid (okB d = (decide (1 ≤ d.length) && decide (d.length ≤ 9) && d.all digB)) := by unfold Hid okB digitsOf; rw [hm]; rfl
  have HV : Hid (valZ d = (valN d : Int)) := by unfold Hid valZ digitsOf; rw [hm]; rfl
  have h45 : ∀ h : 0 < tb.size, ((tb[0].toNat : Int) == 45) = false := fun h => by
    subst htb
    cases d with
    | nil => simp at hn; cases h
    | cons c t =>
      have hc : (c == 45) = false := hm
      rw [beq_eq_false_iff_ne] at hc ⊢
      intro e
      apply hc
      apply UInt8.toNat_inj.1
      have : ((c.toNat : Nat) : Int) = 45 := e
      show c.toNat = 45
      omega
  have hat : ∀ (k : Nat) (h : k < tb.size), tb[k]'h = d.getD k 0 := fun k h => by subst htb; rw [List.getD_eq_getElem?_getD]; rw [size_mk] at h; rw [List.getElem?_eq_getElem h]; rfl
  have HAT := Lib.hid hat
  rw [← hsb]
  generalize okB d = ok at *
  generalize valZ d = vz at *
  clear hsb htb hat
  by_cases hlen : 1 ≤ d.length ∧ d.length ≤ 9
  case neg =>
    have EV : ok = false := by
      rw [HE.out, Bool.and_eq_false_iff, Bool.and_eq_false_iff, decide_eq_false_iff_not, decide_eq_false_iff_not]; omega
    clear HE
    subst EV
    go_enter Tryz.func32, Tryz.ntmps32
    by_cases hl1 : d.length < 1
    · have t1 : decide (d.length < 1) = true := decide_eq_true (by omega)
      have t1' : decide ((d.length : Int) < 1) = true := decide_eq_true (by omega)
      have hl0 : decide (0 < d.length) = false := decide_eq_false (by omega)
      have hl0' : decide (0 < (d.length : Int)) = false := decide_eq_false (by omega)
      go_wp2
      go_ret2
      exact PNumPost.no
    · have t1 : decide (d.length < 1) = false := decide_eq_false (by omega)
      have t1' : decide ((d.length : Int) < 1) = false := decide_eq_false (by omega)
      have t2 : decide (9 < d.length) = true := decide_eq_true (by omega)
      have t2' : decide (9 < (d.length : Int)) = true := decide_eq_true (by omega)
      have t2' : decide (9 < (d.length : Int)) = true := decide_eq_true (by omega)
      have hl0 : 0 < tb.size := by omega
      have h45' := h45 hl0
      have p0 : decide (0 < d.length) = true := decide_eq_true (by omega)
      have p0' : decide (0 < (d.length : Int)) = true := decide_eq_true (by omega)
      go_wp2
      go_ret2
      exact PNumPost.no
  have t1 : decide (d.length < 1) = false := decide_eq_false (by omega)
  have t1' : decide ((d.length : Int) < 1) = false := decide_eq_false (by omega)
  have t2 : decide (9 < d.length) = false := decide_eq_false (by omega)
  have t2' : decide (9 < (d.length : Int)) = false := decide_eq_false (by omega)
  have t2' : decide (9 < (d.length : Int)) = false := decide_eq_false (by omega)
  have hl0 : 0 < tb.size := by omega
  have h45' := h45 hl0
  have p0 : decide (0 < d.length) = true := decide_eq_true (by omega)
  have p0' : decide (0 < (d.length : Int)) = true := decide_eq_true (by omega)
  go_enter Tryz.func32, Tryz.ntmps32
  go_wp2
  go_loopw [5, 6] (fun n i wr => PNum d w n i wr) (fun _ i _ => d.length - (intOf i).toNat)
  case atStart => exact ⟨0, Nat.zero_le _, rfl, rfl, rfl, rfl⟩
  case round =>
    obtain ⟨k, hk, rfl, rfl, hal, rfl⟩ := hrel
    have HAL := Lib.hid hal
    clear hal
    have hvb : valN (d.take k) ≤ 999999999 := valN_small HAL.out (by rw [List.length_take]; omega)
    by_cases hlt : k < d.length
    · have tk : decide (k < d.length) = true := decide_eq_true (by omega)
      have tk' : decide ((k : Int) < (d.length : Int)) = true := decide_eq_true (by omega)
      have hk' : k < tb.size := by omega
      go_wp2
      · rename_i h1
        have EV : ok = false := by rw [HE.out, all_not hlt (digB_lo (by rw [← HAT.out k hk']; exact h1))]; simp
        clear HE
        subst EV
        go_ret2
        exact PNumPost.no
      · rename_i h1
        have EV : ok = false := by rw [HE.out, all_not hlt (digB_hi (by rw [← HAT.out k hk']; first | exact h1 | omega))]; simp
        clear HE
        subst EV
        go_ret2
        exact PNumPost.no
      · rename_i h1 h2
        have hd : digB (d.getD k 0) = true := digB_in (by rw [← HAT.out k hk']; omega) (by rw [← HAT.out k hk']; exact h2)
        have hx0 : 48 ≤ (d.getD k 0).toNat ∧ (d.getD k 0).toNat ≤ 57 := by
          rw [← HAT.out k hk']; omega
        rw [HAT.out k hk']
        go_roundw
        case rel =>
          refine ⟨k + 1, hlt, by go_num, ?_, by rw [take_snocB hlt, List.all_append, HAL.out]; show (true && (digB (d.getD k 0) && true)) = true; rw [hd]; rfl, rfl⟩
          rw [take_snocB hlt, valN_snoc]
          congr 1
          omega
        case measure => simp [intOf]; omega
    · have tk : decide (k < d.length) = false := decide_eq_false (by omega)
      have tk' : decide ((k : Int) < (d.length : Int)) = false := decide_eq_false (by omega)
      have hfull : d.take k = d := by rw [show k = d.length from by omega]; exact List.take_length
      have EV : ok = true := by
        have h1 := HAL.out
        rw [hfull] at h1
        rw [HE.out, h1]; simp; omega
      clear HE
      subst EV
      rw [hfull] at hvb ⊢
      go_wp2
      go_ret2
      rw [HV.out]
      exact PNumPost.yes
end Go.Proofs.YtcfbnddoknpehaaGreatDoor
