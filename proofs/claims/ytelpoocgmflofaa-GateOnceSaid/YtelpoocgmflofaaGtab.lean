/- Tables of what edges say, as bits of whole numbers; the contracts of the plain answers' Input, All, Some, Row. -/
import Derived.Test.YtelpoocgmflofaaGliv
import Derived.Laws.Bits64b
import Derived.Laws.Bits64
namespace Go.Proofs.Ytelpoocgmflofaa
open Go.RowKit GatM

def allT (ts : List Nat) : Nat := ts.foldl (· &&& ·) 18446744073709551615
def someT (ts : List Nat) : Nat := ts.foldl (· ||| ·) 0
def notT (t : Nat) : Nat := 18446744073709551615 ^^^ t
def inpF (i : Nat) : Nat → Nat
  | 0 => 0
  | r + 1 => inpF i r + if r / 2 ^ i % 2 = 1 then 2 ^ r else 0
def rowV (r : Nat) : List Bool := [decide (r / 1 % 2 = 1), decide (r / 2 % 2 = 1), decide (r / 4 % 2 = 1), decide (r / 8 % 2 = 1), decide (r / 16 % 2 = 1), decide (r / 32 % 2 = 1)]
theorem two64 : 18446744073709551615 = 2 ^ 64 - 1 := by decide
theorem ones_bit {r : Nat} (h : r < 64) : Nat.testBit 18446744073709551615 r = true := by
  rw [two64, Nat.testBit_two_pow_sub_one]; exact decide_eq_true h
theorem foldAnd_bit (r : Nat) : ∀ (ts : List Nat) (a : Nat), (ts.foldl (· &&& ·) a).testBit r = (a.testBit r && ts.all fun t => t.testBit r)
  | [], a => by simp
  | t :: ts, a => by rw [List.foldl_cons, foldAnd_bit r ts, Nat.testBit_and, List.all_cons, Bool.and_assoc]
theorem foldOr_bit (r : Nat) : ∀ (ts : List Nat) (a : Nat), (ts.foldl (· ||| ·) a).testBit r = (a.testBit r || ts.any fun t => t.testBit r)
  | [], a => by simp
  | t :: ts, a => by rw [List.foldl_cons, foldOr_bit r ts, Nat.testBit_or, List.any_cons, Bool.or_assoc]
theorem allT_bit {r : Nat} (h : r < 64) (ts : List Nat) : (allT ts).testBit r = ts.all fun t => t.testBit r := by
  unfold allT; rw [foldAnd_bit, ones_bit h, Bool.true_and]
theorem someT_bit (r : Nat) (ts : List Nat) : (someT ts).testBit r = ts.any fun t => t.testBit r := by
  unfold someT; rw [foldOr_bit]; simp
theorem notT_bit {r : Nat} (h : r < 64) (t : Nat) : (notT t).testBit r = !t.testBit r := by
  unfold notT; rw [Nat.testBit_xor, ones_bit h]; simp
theorem inp_bit : ∀ i, i < 6 → ∀ r, r < 64 → (inpF i 64).testBit r = decide (r / 2 ^ i % 2 = 1) := by decide +kernel
theorem inp_lt : ∀ i, i < 6 → inpF i 64 < 18446744073709551616 := by decide +kernel
def rowF (r j : Nat) : Value := .bool (decide (r / 2 ^ j % 2 = 1))
theorem tbit (r i : Nat) : (((r : Int) / 2 ^ i).tmod 2 == 1) = decide (r / 2 ^ i % 2 = 1) := by
  have e : (r : Int) / 2 ^ i = ((r / 2 ^ i : Nat) : Int) := by rw [Int.natCast_ediv]; simp
  rw [e]
  generalize r / 2 ^ i = x
  rw [Int.tmod_eq_emod_of_nonneg (by omega), Bool.eq_iff_iff, beq_iff_eq, decide_eq_true_iff]
  omega
def U64 (ts : List Nat) : Prop := ∀ t ∈ ts, t < 18446744073709551616
theorem foldAnd_lt : ∀ (ts : List Nat) (a : Nat), a < 18446744073709551616 → ts.foldl (· &&& ·) a < 18446744073709551616
  | [], _, h => h
  | _ :: ts, _, h => foldAnd_lt ts _ (Nat.lt_of_le_of_lt Nat.and_le_left h)
theorem allT_lt (ts : List Nat) : allT ts < 18446744073709551616 := foldAnd_lt ts _ (by decide)
theorem or_lt64 {a b : Nat} (ha : a < 18446744073709551616) (hb : b < 18446744073709551616) : a ||| b < 18446744073709551616 := Nat.or_lt_two_pow (n := 64) ha hb
theorem xor_lt64 {a b : Nat} (ha : a < 18446744073709551616) (hb : b < 18446744073709551616) : a ^^^ b < 18446744073709551616 := Nat.xor_lt_two_pow (n := 64) ha hb
theorem notT_lt {t : Nat} (h : t < 18446744073709551616) : notT t < 18446744073709551616 := xor_lt64 (by decide) h
theorem someT_lt : ∀ (ts : List Nat), U64 ts → someT ts < 18446744073709551616 := by
  have key : ∀ (ts : List Nat) (a : Nat), a < 18446744073709551616 → U64 ts → ts.foldl (· ||| ·) a < 18446744073709551616 := by
    intro ts
    induction ts with
    | nil => exact fun a h _ => h
    | cons t ts ih => exact fun a h hu => ih _ (or_lt64 h (hu t (List.mem_cons_self ..))) fun x hx => hu x (List.mem_cons_of_mem _ hx)
  exact fun ts h => key ts 0 (by decide) h
set_option maxHeartbeats 1600000 in
set_option maxRecDepth 100000 in
theorem tall_any (A : Option Addr) (n c : Nat) (ts : List Nat) (w : World) (h : RdN .u64 w w.heap.size A n ts) (hu : U64 ts) (hn : n ≤ 9223372036854775807) :
    Calls Try.prog 56 #[.slice A n c] w fun e w' => e = .returned (.int .u64 ((allT ts : Nat) : Int)) ∧ w = w' := by
  have HH := Lib.hid h
  have HU := Lib.hid hu
  clear h hu
  go_enter Try.func56, Try.ntmps56
  go_wp2_with fail
  go_loopw [3, 8] (fun v i wr => ∃ (k a : Nat), i = .int .i64 (k : Int) ∧ v = .int .u64 (a : Int) ∧ k ≤ n ∧ Hid (a = allT (ts.take k)) ∧ w = wr) (fun _ i _ => n - (intOf i).toNat)
  case atStart => exact ⟨0, 18446744073709551615, rfl, rfl, Nat.zero_le _, Lib.hid rfl, rfl⟩
  case round =>
    obtain ⟨k, a, rfl, rfl, hk, ha, rfl⟩ := hrel
    by_cases hlt : k < n
    · have tk : decide ((k : Int) < (n : Int)) = true := decide_eq_true (by omega)
      have tk2 : decide (k < n) = true := decide_eq_true hlt
      have hkl : k < ts.length := by have := HH.out.len; omega
      obtain ⟨b, o, rfl, hb, hc⟩ := HH.out.get hlt
      have hal : a < 18446744073709551616 := by rw [ha.out]; exact allT_lt _
      have hxl : ts.getD k 0 < 18446744073709551616 := HU.out _ (nmem.2 ⟨k, hkl, rfl⟩)
      have hop := bits_and_u64_nat a (ts.getD k 0) hal hxl
      have HN : Hid (a &&& ts.getD k 0 = allT (ts.take (k + 1))) := by
        unfold Hid allT; rw [ntake_snoc hkl, List.foldl_append, ha.out]; rfl
      clear ha
      generalize ts.getD k 0 = x at *
      generalize a &&& x = y at *
      go_wp2_with fail
      go_roundw
      case rel => exact ⟨k + 1, y, by go_num, rfl, by omega, HN, trivial⟩
      case measure => simp [intOf]; omega
    · have tk : decide ((k : Int) < (n : Int)) = false := decide_eq_false (by omega)
      have tk2 : decide (k < n) = false := decide_eq_false hlt
      obtain rfl : k = n := by omega
      have HF : Hid (a = allT ts) := by rw [Hid, ha.out, List.take_of_length_le (by have := HH.out.len; omega)]
      clear ha
      go_wp2_with fail
      go_ret
      exact ⟨by rw [HF.out]; rfl, rfl⟩
set_option maxHeartbeats 1600000 in
set_option maxRecDepth 100000 in
theorem tsome_any (A : Option Addr) (n c : Nat) (ts : List Nat) (w : World) (h : RdN .u64 w w.heap.size A n ts) (hu : U64 ts) (hn : n ≤ 9223372036854775807) :
    Calls Try.prog 58 #[.slice A n c] w fun e w' => e = .returned (.int .u64 ((someT ts : Nat) : Int)) ∧ w = w' := by
  have HH := Lib.hid h
  have HU := Lib.hid hu
  clear h hu
  go_enter Try.func58, Try.ntmps58
  go_wp2_with fail
  go_loopw [3, 8] (fun v i wr => ∃ (k a : Nat), i = .int .i64 (k : Int) ∧ v = .int .u64 (a : Int) ∧ k ≤ n ∧ Hid (a = someT (ts.take k)) ∧ w = wr) (fun _ i _ => n - (intOf i).toNat)
  case atStart => exact ⟨0, 0, rfl, rfl, Nat.zero_le _, Lib.hid rfl, rfl⟩
  case round =>
    obtain ⟨k, a, rfl, rfl, hk, ha, rfl⟩ := hrel
    by_cases hlt : k < n
    · have tk : decide ((k : Int) < (n : Int)) = true := decide_eq_true (by omega)
      have tk2 : decide (k < n) = true := decide_eq_true hlt
      have hkl : k < ts.length := by have := HH.out.len; omega
      obtain ⟨b, o, rfl, hb, hc⟩ := HH.out.get hlt
      have hal : a < 18446744073709551616 := by rw [ha.out]; exact someT_lt _ fun t ht => HU.out t (List.mem_of_mem_take ht)
      have hxl : ts.getD k 0 < 18446744073709551616 := HU.out _ (nmem.2 ⟨k, hkl, rfl⟩)
      have hop := bits_or_u64_nat a (ts.getD k 0) hal hxl
      have HN : Hid (a ||| ts.getD k 0 = someT (ts.take (k + 1))) := by
        unfold Hid someT; rw [ntake_snoc hkl, List.foldl_append, ha.out]; rfl
      clear ha
      generalize ts.getD k 0 = x at *
      generalize a ||| x = y at *
      go_wp2_with fail
      go_roundw
      case rel => exact ⟨k + 1, y, by go_num, rfl, by omega, HN, trivial⟩
      case measure => simp [intOf]; omega
    · have tk : decide ((k : Int) < (n : Int)) = false := decide_eq_false (by omega)
      have tk2 : decide (k < n) = false := decide_eq_false hlt
      obtain rfl : k = n := by omega
      have HF : Hid (a = someT ts) := by rw [Hid, ha.out, List.take_of_length_le (by have := HH.out.len; omega)]
      clear ha
      go_wp2_with fail
      go_ret
      exact ⟨by rw [HF.out]; rfl, rfl⟩
set_option maxHeartbeats 1600000 in
set_option maxRecDepth 100000 in
theorem tinput_any (i : Nat) (hi : i < 6) (w : World) : Calls Try.prog 55 #[.int .i64 (i : Int)] w fun e w' => e = .returned (.int .u64 ((inpF i 64 : Nat) : Int)) ∧ w = w' := by
  go_enter Try.func55, Try.ntmps55
  go_wp2_with fail
  go_loopw [3, 4] (fun v i' wr => ∃ (r a : Nat), i' = .int .i64 (r : Int) ∧ v = .int .u64 (a : Int) ∧ r ≤ 64 ∧ Hid (a = inpF i r ∧ a < 2 ^ r) ∧ w = wr) (fun _ i' _ => 64 - (intOf i').toNat)
  case atStart => exact ⟨0, 0, rfl, rfl, by omega, Lib.hid ⟨rfl, by decide⟩, rfl⟩
  case round =>
    obtain ⟨r, a, rfl, rfl, hr, ha, rfl⟩ := hrel
    by_cases hlt : r < 64
    · have tk : decide ((r : Int) < 64) = true := decide_eq_true (by omega)
      have tk2 : decide (r < 64) = true := decide_eq_true hlt
      by_cases hb : r / 2 ^ i % 2 = 1
      · have tb : (((r : Int) / 2 ^ i).tmod 2 == 1) = true := by rw [tbit, decide_eq_true hb]
        have hpow : a + 2 ^ r < 2 ^ 64 := by
          have h1 := ha.out.2
          have h2 : 2 ^ (r + 1) ≤ 2 ^ 64 := Nat.pow_le_pow_right (by omega) (by omega)
          rw [Nat.pow_succ] at h2
          omega
        have HA : Hid (IntKind.u64.wrap ((a : Int) + IntKind.u64.wrap (2 ^ r)) = ((a + 2 ^ r : Nat) : Int)) := by
          unfold Hid
          rw [IntKind.wrap_u64, IntKind.wrap_u64, show (2 : Int) ^ r = ((2 ^ r : Nat) : Int) by simp]
          generalize 2 ^ r = p at *
          omega
        have HN : Hid (a + 2 ^ r = inpF i (r + 1) ∧ a + 2 ^ r < 2 ^ (r + 1)) := by
          refine ⟨?_, ?_⟩
          · show _ = inpF i r + _
            rw [if_pos hb, ha.out.1]
          · have := ha.out.2
            rw [Nat.pow_succ]; omega
        clear hb ha hpow
        go_wp2_with fail
        go_roundw
        case rel => exact ⟨r + 1, _, by go_num, by rw [HA.out], by omega, HN, trivial⟩
        case measure => simp [intOf]; omega
      · have tb : (((r : Int) / 2 ^ i).tmod 2 == 1) = false := by rw [tbit, decide_eq_false hb]
        have HN : Hid (a = inpF i (r + 1) ∧ a < 2 ^ (r + 1)) := by
          refine ⟨?_, ?_⟩
          · show _ = inpF i r + _
            rw [if_neg hb, ha.out.1, Nat.add_zero]
          · have := ha.out.2
            rw [Nat.pow_succ]; omega
        clear hb ha
        go_wp2_with fail
        go_roundw
        case rel => exact ⟨r + 1, a, by go_num, rfl, by omega, HN, trivial⟩
        case measure => simp [intOf]; omega
    · have tk : decide ((r : Int) < 64) = false := decide_eq_false (by omega)
      have tk2 : decide (r < 64) = false := decide_eq_false hlt
      obtain rfl : r = 64 := by omega
      have HF : Hid (a = inpF i 64) := ha.out.1
      clear ha
      go_wp2_with fail
      go_ret
      exact ⟨by rw [← HF.out]; rfl, rfl⟩
/-- What Row answers. -/
def RowTo (r : Nat) (w : World) (e : Ending) (w' : World) : Prop :=
  ∃ g c, e = .returned (.slice (some ⟨g, 0, none⟩) 6 c) ∧ RdO w' w'.heap.size (some ⟨g, 0, none⟩) 6 (rowV r) ∧ Below w.heap.size w w' ∧ w.heap.size ≤ g ∧ RowV 4 1 w' g 6 c (rowF r)
theorem rowV_get (r : Nat) : ∀ j, j < 6 → (rowV r).getD j false = decide (r / 2 ^ j % 2 = 1) := by
  intro j hj
  rcases (show j = 0 ∨ j = 1 ∨ j = 2 ∨ j = 3 ∨ j = 4 ∨ j = 5 by omega) with q | q | q | q | q | q <;> subst q <;> rfl
end Go.Proofs.Ytelpoocgmflofaa
