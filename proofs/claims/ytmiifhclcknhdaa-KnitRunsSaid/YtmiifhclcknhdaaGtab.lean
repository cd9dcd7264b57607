/- Tables of what edges say, as bits of whole numbers; the contracts of the plain answers' Input, All, Some, Row. -/
import Derived.Test.YtmiifhclcknhdaaGliv
import Derived.Laws.Bits64b
import Derived.Laws.Bits64
namespace Go.Proofs.Ytmiifhclcknhdaa
open Go.RowKit GatM

def allT (ts : List Nat) : Nat := ts.foldl (· &&& ·) 18446744073709551615
def someT (ts : List Nat) : Nat := ts.foldl (· ||| ·) 0
def notT (t : Nat) : Nat := 18446744073709551615 ^^^ t
def inpF (i : Nat) : Nat → Nat
  | 0 => 0
  | r + 1 => inpF i r + if r / 2 ^ i % 2 = 1 then 2 ^ r else 0
def rowV (r : Nat) : List Bool := [decide (r / 1 % 2 = 1), decide (r / 2 % 2 = 1), decide (r / 4 % 2 = 1), decide (r / 8 % 2 = 1), decide (r / 16 % 2 = 1), decide (r / 32 % 2 = 1)]
theorem two64 : 18446744073709551615 = 2 ^ 64 - 1 := by decide
theorem ones_bit {r : Nat} (h : r < 64) : Nat.testBit 18446744073709551615 r = true := by
  rw [two64, Nat.testBit_two_pow_sub_one]; exact decide_eq_true h
theorem foldAnd_bit (r : Nat) : ∀ (ts : List Nat) (a : Nat), (ts.foldl (· &&& ·) a).testBit r = (a.testBit r && ts.all fun t => t.testBit r)
  | [], a => by simp
  | t :: ts, a => by rw [List.foldl_cons, foldAnd_bit r ts, Nat.testBit_and, List.all_cons, Bool.and_assoc]
theorem foldOr_bit (r : Nat) : ∀ (ts : List Nat) (a : Nat), (ts.foldl (· ||| ·) a).testBit r = (a.testBit r || ts.any fun t => t.testBit r)
  | [], a => by simp
  | t :: ts, a => by rw [List.foldl_cons, foldOr_bit r ts, Nat.testBit_or, List.any_cons, Bool.or_assoc]
theorem allT_bit {r : Nat} (h : r < 64) (ts : List Nat) : (allT ts).testBit r = ts.all fun t => t.testBit r := by
  unfold allT; rw [foldAnd_bit, ones_bit h, Bool.true_and]
theorem someT_bit (r : Nat) (ts : List Nat) : (someT ts).testBit r = ts.any fun t => t.testBit r := by
  unfold someT; rw [foldOr_bit]; simp
theorem notT_bit {r : Nat} (h : r < 64) (t : Nat) : (notT t).testBit r = !t.testBit r := by
  unfold notT; rw [Nat.testBit_xor, ones_bit h]; simp
theorem inp_bit : ∀ i, i < 6 → ∀ r, r < 64 → (inpF i 64).testBit r = decide (r / 2 ^ i % 2 = 1) := by decide +kernel
theorem inp_lt : ∀ i, i < 6 → inpF i 64 < 18446744073709551616 := by decide +kernel
def rowF (r j : Nat) : Value := .bool (decide (r / 2 ^ j % 2 = 1))
theorem tbit (r i : Nat) : (((r : Int) / 2 ^ i).tmod 2 == 1) = decide (r / 2 ^ i % 2 = 1) := by
  have e : (r : Int) / 2 ^ i = ((r / 2 ^ i : Nat) : Int) := by rw [Int.natCast_ediv]; simp
  rw [e]
  generalize r / 2 ^ i = x
  rw [Int.tmod_eq_emod_of_nonneg (by omega), Bool.eq_iff_iff, beq_iff_eq, decide_eq_true_iff]
  omega
def U64 (ts : List Nat) : Prop := ∀ t ∈ ts, t < 18446744073709551616
theorem foldAnd_lt : ∀ (ts : List Nat) (a : Nat), a < 18446744073709551616 → ts.foldl (· &&& ·) a < 18446744073709551616
  | [], _, h => h
  | _ :: ts, _, h => foldAnd_lt ts _ (Nat.lt_of_le_of_lt Nat.and_le_left h)
theorem allT_lt (ts : List Nat) : allT ts < 18446744073709551616 := foldAnd_lt ts _ (by decide)
theorem or_lt64 {a b : Nat} (ha : a < 18446744073709551616) (hb : b < 18446744073709551616) : a ||| b < 18446744073709551616 := Nat.or_lt_two_pow (n := 64) ha hb
theorem xor_lt64 {a b : Nat} (ha : a < 18446744073709551616) (hb : b < 18446744073709551616) : a ^^^ b < 18446744073709551616 := Nat.xor_lt_two_pow (n := 64) ha hb
theorem notT_lt {t : Nat} (h : t < 18446744073709551616) : notT t < 18446744073709551616 := xor_lt64 (by decide) h
theorem someT_lt : ∀ (ts : List Nat), U64 ts → someT ts < 18446744073709551616 := by
  have key : ∀ (ts : List Nat) (a : Nat), a < 18446744073709551616 → U64 ts → ts.foldl (· ||| ·) a < 18446744073709551616 := by
    intro ts
    induction ts with
    | nil => exact fun a h _ => h
    | cons t ts ih => exact fun a h hu => ih _ (or_lt64 h (hu t (List.mem_cons_self ..))) fun x hx => hu x (List.mem_cons_of_mem _ hx)
  exact fun ts h => key ts 0 (by decide) h
/-- What Row answers. -/
def RowTo (r : Nat) (w : World) (e : Ending) (w' : World) : Prop :=
  ∃ g c, e = .returned (.slice (some ⟨g, 0, none⟩) 6 c) ∧ RdO w' w'.heap.size (some ⟨g, 0, none⟩) 6 (rowV r) ∧ Below w.heap.size w w' ∧ w.heap.size ≤ g ∧ RowV 4 1 w' g 6 c (rowF r)
theorem rowV_get (r : Nat) : ∀ j, j < 6 → (rowV r).getD j false = decide (r / 2 ^ j % 2 = 1) := by
  intro j hj
  rcases (show j = 0 ∨ j = 1 ∨ j = 2 ∨ j = 3 ∨ j = 4 ∨ j = 5 by omega) with q | q | q | q | q | q <;> subst q <;> rfl
set_option maxHeartbeats 1600000 in
set_option maxRecDepth 100000 in
theorem trow_any (r : Nat) (w : World) : Calls Try.prog 14 #[.int .i64 (r : Int)] w (RowTo r w) := by
  have hb1 : Below w.heap.size w (w.alloc (.cells #[] 4)) := (Below.refl _ _).alloc (Nat.le_refl _) _
  have HP0 : Hid (RowV 4 1 (w.alloc (.cells #[] 4)) w.heap.size 0 0 (rowF r) ∧ Below w.heap.size w (w.alloc (.cells #[] 4))) := ⟨RowV.made (by omega) rfl (fun j hj => by omega), hb1⟩
  clear hb1
  go_enter Try.func14, Try.ntmps14
  go_wp2_with fail
  go_loopw [3, 4] (fun v i' wr => ∃ (j g c : Nat), i' = .int .i64 (j : Int) ∧ v = .slice (some ⟨g, 0, none⟩) j c ∧ j ≤ 6 ∧ w.heap.size ≤ g ∧ Hid (RowV 4 1 wr g j c (rowF r) ∧ Below w.heap.size w wr)) (fun _ i' _ => 6 - (intOf i').toNat)
  case atStart => exact ⟨0, w.heap.size, 0, rfl, rfl, by omega, Nat.le_refl _, HP0⟩
  case round =>
    obtain ⟨j, g, c, rfl, rfl, hj, hg, hP⟩ := hrel
    clear HP0
    by_cases hlt : j < 6
    · have tk : decide ((j : Int) < 6) = true := decide_eq_true (by omega)
      have tk2 : decide (j < 6) = true := decide_eq_true hlt
      have tb : (((r : Int) / 2 ^ j).tmod 2 == 1) = decide (r / 2 ^ j % 2 = 1) := tbit r j
      obtain ⟨b, hb⟩ : ∃ b, b = decide (r / 2 ^ j % 2 = 1) := ⟨_, rfl⟩
      rw [← hb] at tb
      have HBE : Hid (rowF r j = .bool b) := by unfold Hid rowF; rw [hb]
      have HSL : Hid (SlV 4 1 (wr.alloc (.cells #[.bool b] 4)) (some ⟨g, 0, none⟩) j c (rowF r)) := .inr ⟨g, rfl, hP.out.1.alloc _⟩
      clear hb
      go_wp2_with (at_builtin; refine wpList_append_sl _ rfl _ _ 49 4 rfl Try.underlying49 info_gbool rfl (by decide) (by decide) (some ⟨g, 0, none⟩) j c (rowF r) rfl HSL.out (by omega) ⟨wr.heap.size, 0, none⟩ 1 1 [.bool b] rfl rfl (box_news wr 4 _) (by simp [Value.oneCell']) (by omega) (by omega) ?_)
      intro g4 c4 w4 hr4 hg4 hk4
      have HN : Hid (RowV 4 1 w4 g4 (j + 1) c4 (rowF r) ∧ Below w.heap.size w w4) := by
        refine ⟨RowV.congr hr4 fun t ht => ?_, ?_⟩
        · unfold appV
          by_cases e : t < j
          · rw [if_pos (by omega)]
          · have : t = j := by omega
            subst this
            rw [if_neg (by omega), HBE.out]; simp
        · exact (hP.out.2.alloc hP.out.2.size _).trans ((hk4 (fun k => k = g) (fun x hx => (onB_some _ _).1 hx)).below (by have := hP.out.2.size; simp; omega) (fun x hx => by have hx : x = g := hx; omega))
      have hgl : w.heap.size ≤ g4 := by
        rcases hg4 with e | e
        · rw [onB_some] at e
          have e : g4 = g := e
          omega
        · have h1 := hP.out.2.size
          have : wr.heap.size + 1 ≤ g4 := by simpa using e
          omega
      clear hr4 hg4 hk4 hP HSL HBE
      go_wp2_with fail
      go_roundw
      case rel => exact ⟨j + 1, g4, c4, by go_num, rfl, by omega, hgl, HN⟩
      case measure => simp [intOf]; omega
    · have tk : decide ((j : Int) < 6) = false := decide_eq_false (by omega)
      have tk2 : decide (j < 6) = false := decide_eq_false hlt
      obtain rfl : j = 6 := by omega
      have HF : Hid (RowTo r w (.returned (.slice (some ⟨g, 0, none⟩) 6 c)) wr) := ⟨g, c, rfl, ⟨rfl, fun _ => ⟨g, 0, rfl, hP.out.1.lt, fun j hj => by rw [Nat.zero_add, hP.out.1.cell (by omega), rowV_get r j hj]; rfl⟩⟩, hP.out.2, hg, hP.out.1⟩
      clear hP
      go_wp2_with fail
      go_ret
      exact HF.out
end Go.Proofs.Ytmiifhclcknhdaa
