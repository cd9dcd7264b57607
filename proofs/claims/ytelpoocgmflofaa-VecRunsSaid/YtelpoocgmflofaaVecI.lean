/- Numbers that come in, and their bits: Width, Const, Input, Widen, Number. -/
import Derived.Test.YtelpoocgmflofaaVecH
import Derived.Test.YtelpoocgmflofaaVecZ
import Derived.Test.YtelpoocgmflofaaShelf
import Derived.Shelf.Strconv.Itoa0
import Derived.Laws.Bits64
namespace Go.Proofs.Ytelpoocgmflofaa
open Go.RowKit GatM VecM

theorem vfitsZ_any (n : Int) (w : World) : Calls Try.prog 36 #[.int .i64 n] w fun e w' => e = .returned (.bool (decide (1 ≤ n ∧ n ≤ 32))) ∧ w = w' := by
  by_cases h1 : 1 ≤ n
  · have t1 : decide ((1 : Int) ≤ n) = true := decide_eq_true h1
    by_cases h2 : n ≤ 32
    · have t2 : decide (n ≤ 32) = true := decide_eq_true h2
      rw [decide_eq_true (And.intro h1 h2)]
      go_enter Try.func36, Try.ntmps36
      go_wp2_with fail
      go_ret
      exact ⟨rfl, rfl⟩
    · have t2 : decide (n ≤ 32) = false := decide_eq_false h2
      rw [decide_eq_false (show ¬ (1 ≤ n ∧ n ≤ 32) from fun q => h2 q.2)]
      go_enter Try.func36, Try.ntmps36
      go_wp2_with fail
      go_ret
      exact ⟨rfl, rfl⟩
  · have t1 : decide ((1 : Int) ≤ n) = false := decide_eq_false h1
    rw [decide_eq_false (show ¬ (1 ≤ n ∧ n ≤ 32) from fun q => h1 q.1)]
    go_enter Try.func36, Try.ntmps36
    go_wp2_with fail
    go_ret
    exact ⟨rfl, rfl⟩
theorem wid_le65 {n : Int} (h1 : -9223372036854775808 ≤ n) (h2 : n ≤ 9223372036854775807) : widZ n ≤ 64 := by
  have := (wid_le h1 h2 (k := 63) (by omega)).2 (by have : pw 63 = 9223372036854775808 := by decide
                                                    omega)
  exact this
theorem i64_notZ (n : Int) (h1 : -9223372036854775808 ≤ n) (h2 : n ≤ 9223372036854775807) : bits .xor .i64 (-1) n = -1 - n := by
  show IntKind.i64.wrap ((BitVec.ofInt 64 (-1) ^^^ BitVec.ofInt 64 n).toNat : Int) = _
  have h : BitVec.ofInt 64 (-1) = BitVec.allOnes 64 := by decide
  rw [h, BitVec.allOnes_xor, BitVec.toNat_not, BitVec.toNat_ofInt, IntKind.wrap_i64]
  omega
theorem i64_and1 (n : Int) : bits .and .i64 n 1 = n % 2 := by
  have h1 : (BitVec.ofInt 64 1).toNat = 2 ^ 1 - 1 := by decide
  have key : (BitVec.ofInt 64 n &&& BitVec.ofInt 64 1).toNat = (n % ((2 ^ 64 : Nat) : Int)).toNat % 2 ^ 1 := by
    rw [BitVec.toNat_and, BitVec.toNat_ofInt, h1, Nat.and_two_pow_sub_one_eq_mod]
  show IntKind.i64.wrap ((BitVec.ofInt 64 n &&& BitVec.ofInt 64 1).toNat : Nat) = n % 2
  rw [key, IntKind.wrap_i64]
  omega
theorem not_i64 (n : Int) (h1 : -9223372036854775808 ≤ n) (h2 : n ≤ 9223372036854775807) : (max n (-1 - n)) = ((absZ n : Nat) : Int) ∧ absZ n < 9223372036854775808 := by unfold absZ; omega
set_option maxHeartbeats 1600000 in
theorem vwidthOf_any (n : Int) (h1 : -9223372036854775808 ≤ n) (h2 : n ≤ 9223372036854775807) (w : World) : Calls Try.prog 44 #[.int .i64 n] w fun e w' => e = .returned (.int .i64 ((widZ n : Nat) : Int)) ∧ w = w' := by
  obtain ⟨e1, e2⟩ := not_i64 n h1 h2
  have HL := Lib.hid (Any.bits_Len64 Try.lays129 ((absZ n : Nat) : Int) w (by omega) (by omega))
  have hw65 := wid_le65 h1 h2
  have hwd : widZ n = Lib.bitLen (absZ n) + 1 := rfl
  rw [hwd] at hw65 ⊢
  rw [Int.toNat_natCast] at HL
  clear hwd
  generalize Lib.bitLen (absZ n) = bl at *
  generalize absZ n = x at *
  have hx := i64_notZ n h1 h2
  have hsg : IntKind.i64.signed = true := rfl
  have hu : IntKind.u64.wrap (x : Int) = (x : Int) := by rw [IntKind.wrap_u64]; omega
  go_enter Try.func44, Try.ntmps44
  go_wp2_with fail
  refine HL.out.mono ?_
  rintro e w' ⟨rfl, rfl⟩
  go_wp2_with fail
  go_ret
  exact ⟨rfl, rfl⟩
theorem max_nat (a b : Nat) : max (a : Int) (b : Int) = ((max a b : Nat) : Int) := by omega
set_option maxHeartbeats 1600000 in
theorem vWidth_any (a b : Int) (ha : -9223372036854775808 ≤ a ∧ a ≤ 9223372036854775807) (hb : -9223372036854775808 ≤ b ∧ b ≤ 9223372036854775807) (w : World) : Calls Try.prog 18 #[.int .i64 a, .int .i64 b] w fun e w' => e = .returned (.int .i64 ((widthZ a b : Nat) : Int)) ∧ w = w' := by
  have HA := Lib.hid (vwidthOf_any a ha.1 ha.2 w)
  have HB := Lib.hid (vwidthOf_any b hb.1 hb.2 w)
  have hmx := max_nat (widZ a) (widZ b)
  have HF := Lib.hid (vfitsZ_any ((max (widZ a) (widZ b) : Nat) : Int) w)
  have h1 : 1 ≤ max (widZ a) (widZ b) := by have := wid_pos a; omega
  have HW : Hid (widthZ a b = if b < a ∨ 32 < max (widZ a) (widZ b) then 0 else max (widZ a) (widZ b)) := rfl
  rw [HW.out]
  generalize max (widZ a) (widZ b) = m at *
  generalize widZ a = x at *
  generalize widZ b = y at *
  clear HW
  by_cases hab : b < a
  · have t1 : decide (b < a) = true := decide_eq_true hab
    rw [if_pos (.inl hab)]
    go_enter Try.func18, Try.ntmps18
    go_wp2_with fail
    refine HA.out.mono ?_
    rintro e w' ⟨rfl, rfl⟩
    go_wp2_with fail
    refine HB.out.mono ?_
    rintro e w' ⟨rfl, rfl⟩
    go_wp2_with fail
    go_ret
    exact ⟨rfl, rfl⟩
  · have t1 : decide (b < a) = false := decide_eq_false hab
    by_cases hm : 32 < m
    · rw [if_pos (.inr hm)]
      rw [decide_eq_false (show ¬ (1 ≤ (m : Int) ∧ (m : Int) ≤ 32) by omega)] at HF
      go_enter Try.func18, Try.ntmps18
      go_wp2_with fail
      refine HA.out.mono ?_
      rintro e w' ⟨rfl, rfl⟩
      go_wp2_with fail
      refine HB.out.mono ?_
      rintro e w' ⟨rfl, rfl⟩
      go_wp2_with fail
      refine HF.out.mono ?_
      rintro e w' ⟨rfl, rfl⟩
      go_wp2_with fail
      go_ret
      exact ⟨rfl, rfl⟩
    · rw [if_neg (by omega)]
      rw [decide_eq_true (show (1 ≤ (m : Int) ∧ (m : Int) ≤ 32) by omega)] at HF
      go_enter Try.func18, Try.ntmps18
      go_wp2_with fail
      refine HA.out.mono ?_
      rintro e w' ⟨rfl, rfl⟩
      go_wp2_with fail
      refine HB.out.mono ?_
      rintro e w' ⟨rfl, rfl⟩
      go_wp2_with fail
      refine HF.out.mono ?_
      rintro e w' ⟨rfl, rfl⟩
      go_wp2_with fail
      go_ret
      exact ⟨rfl, rfl⟩
/-- A number's bits as edges. -/
def conL (n : Int) (k : Nat) : List Nat := (List.range k).map fun i => if bitZ n i then 1 else 0
theorem conL_len (n : Int) (k : Nat) : (conL n k).length = k := by simp [conL]
theorem conL_at (n : Int) {k i : Nat} (h : i < k) : (conL n k).getD i 0 = if bitZ n i then 1 else 0 := by
  unfold conL
  rw [List.getD, List.getElem?_map, List.getElem?_range h]
  rfl
theorem conL_cst (n : Int) (k : Nat) : Cst (conL n k) := fun x hx => by
  obtain ⟨i, _, rfl⟩ := List.mem_map.1 hx
  split <;> omega
theorem conL_in {gs : Gs} (h : Wf gs) (n : Int) (k : Nat) : AllIn gs (conL n k) := fun x hx => by
  have := conL_cst n k x hx
  have := h.pos
  omega
theorem conL_val {gs : Gs} (h : Wf gs) (vals : List Bool) (n : Int) {k : Nat} (hk : 0 < k) : valE vals gs (conL n k) = nB (bitZ n) k := by
  have := valE_of (vals := vals) (gs := gs) (l := conL n k) (f := bitZ n) (by rw [conL_len]; exact hk) fun i hi => by
    rw [conL_len] at hi
    rw [conL_at n hi]
    cases bitZ n i
    · exact say_false h
    · exact say_true h
  rwa [conL_len] at this
theorem wid_self (n : Int) (h1 : -9223372036854775808 ≤ n) (h2 : n ≤ 9223372036854775807) {k : Nat} (hk : k + 1 ≤ 64) (h : widZ n ≤ k + 1) : nB (bitZ n) (k + 1) = n := by
  have := (wid_le h1 h2 (k := k) (by omega)).1 h
  exact nB_bit this.1 (by omega)
/-- What Const answers. -/
def ConTo (w : World) (n : Int) (e : Ending) (w' : World) : Prop :=
  if widthZ n n = 0 then e = .returned (.tuple #[.slice none 0 0, .int .i64 111]) ∧ w = w' else ∃ g, e = .returned (.tuple #[.slice (some ⟨g, 0, none⟩) (widthZ n n) (widthZ n n), .int .i64 0]) ∧ RowV 25 1 w' g (widthZ n n) (widthZ n n) (numF .u32 (conL n (widthZ n n))) ∧ Below w.heap.size w w' ∧ w.heap.size ≤ g
def conF (n : Int) (k j : Nat) : Value := .int .u32 (if j < k ∧ bitZ n j = true then 1 else 0)
set_option maxHeartbeats 3200000 in
set_option maxRecDepth 100000 in
theorem vConst_any (n : Int) (hn : -9223372036854775808 ≤ n ∧ n ≤ 9223372036854775807) (w : World) : Calls Try.prog 11 #[.int .i64 n] w (ConTo w n) := by
  have HW := Lib.hid (vWidth_any n n hn hn w)
  have hm32 : widthZ n n ≤ 32 := by unfold widthZ; split <;> omega
  obtain ⟨m, hm⟩ : ∃ m, m = widthZ n n := ⟨_, rfl⟩
  have HE : Hid (∀ e w', ConTo w n e w' = if m = 0 then e = .returned (.tuple #[.slice none 0 0, .int .i64 111]) ∧ w = w' else ∃ g, e = .returned (.tuple #[.slice (some ⟨g, 0, none⟩) m m, .int .i64 0]) ∧ RowV 25 1 w' g m m (numF .u32 (conL n m)) ∧ Below w.heap.size w w' ∧ w.heap.size ≤ g) := fun e w' => by rw [hm]; rfl
  rw [← hm] at HW hm32
  obtain ⟨C, hC1, hC2, hmk⟩ := make_vec m (by omega)
  have hmk0 := hmk w
  have H0 : Hid (RowV 25 1 (w.alloc (.cells C 25)) w.heap.size m m (conF n 0) ∧ Below w.heap.size w (w.alloc (.cells C 25))) := ⟨RowV.made (by omega) hC1 fun j hj => by rw [hC2 j hj]; unfold conF; rw [if_neg (by omega)], (Below.refl _ _).alloc (Nat.le_refl _) _⟩
  clear hm hC1 hC2 hmk
  by_cases hm0 : m = 0
  · subst hm0
    have HE2 : Hid (ConTo w n (.returned (.tuple #[.slice none 0 0, .int .i64 111])) w) := by
      unfold Hid
      rw [HE.out, if_pos rfl]
      exact ⟨rfl, rfl⟩
    clear HE H0 hmk0
    go_enter Try.func11, Try.ntmps11
    go_wp2_with fail
    refine HW.out.mono ?_
    rintro e w' ⟨rfl, rfl⟩
    go_wp2_with fail
    go_ret2
    exact HE2.out
  have t0 : ((m : Int) == 0) = false := by rw [beq_eq_false_iff_ne]; omega
  have t00 : (m == 0) = false := by rw [beq_eq_false_iff_ne]; omega
  have HE2 : Hid (∀ W, RowV 25 1 W w.heap.size m m (conF n m) ∧ Below w.heap.size w W → ConTo w n (.returned (.tuple #[.slice (some ⟨w.heap.size, 0, none⟩) m m, .int .i64 0])) W) := fun W h => by
    rw [HE.out, if_neg hm0]
    refine ⟨_, rfl, h.1.congr fun j hj => ?_, h.2, Nat.le_refl _⟩
    unfold numF conF
    rw [conL_at n (by omega)]
    by_cases hb : bitZ n j = true
    · rw [if_pos hb, if_pos ⟨by omega, hb⟩]; rfl
    · rw [if_neg hb, if_neg (fun q => hb q.2)]; rfl
  have hand := i64_and1
  clear HE
  go_enter Try.func11, Try.ntmps11
  go_wp2_with fail
  refine HW.out.mono ?_
  rintro e w' ⟨rfl, rfl⟩
  go_wp2_with fail
  go_loopw [16] (fun i wr => ∃ k : Nat, i = .int .i64 (k : Int) ∧ k ≤ m ∧ Hid (RowV 25 1 wr w.heap.size m m (conF n k) ∧ Below w.heap.size w wr)) (fun i _ => m - (intOf i).toNat)
  case atStart => exact ⟨0, rfl, Nat.zero_le _, H0⟩
  case round =>
    clear H0
    obtain ⟨k, rfl, hk, HO⟩ := hrel
    by_cases hlt : k < m
    · have tk : decide ((k : Int) < (m : Int)) = true := decide_eq_true (by omega)
      have tk2 : decide (k < m) = true := decide_eq_true hlt
      have tk3 : decide ((m : Int) ≤ (k : Int)) = false := decide_eq_false (by omega)
      have x0 : wr.cell? ⟨w.heap.size, k, none⟩ = some (.int .u32 0) := by
        rw [HO.out.1.cell (show k < m * 1 by omega)]; unfold conF; rw [if_neg (by omega)]
      have x1 := HO.out.1.free k
      have hr1 := HO.out.1.set (show k < m * 1 by omega) (.int .u32 0)
      have y0 := hr1.cell (show k < m * 1 by omega)
      rw [updV_at] at y0
      have y1 := hr1.free k
      by_cases hb : bitZ n k = true
      · have ht : (n / 2 ^ k % 2 == 1) = true := by
          unfold bitZ at hb
          rw [decide_eq_true_iff] at hb
          rw [beq_iff_eq]; exact hb
        have HN : Hid (RowV 25 1 ((wr.setCell ⟨w.heap.size, k, none⟩ (.int .u32 0)).setCell ⟨w.heap.size, k, none⟩ (.int .u32 1)) w.heap.size m m (conF n (k + 1)) ∧ Below w.heap.size w ((wr.setCell ⟨w.heap.size, k, none⟩ (.int .u32 0)).setCell ⟨w.heap.size, k, none⟩ (.int .u32 1))) :=
          ⟨(hr1.set (show k < m * 1 by omega) _).congr fun j _ => by
            unfold updV
            by_cases e : j = k
            · rw [if_pos e, e]; unfold conF; rw [if_pos ⟨by omega, hb⟩]
            · rw [if_neg e, if_neg e]
              unfold conF
              by_cases q : j < k ∧ bitZ n j = true
              · rw [if_pos q, if_pos ⟨by omega, q.2⟩]
              · rw [if_neg q, if_neg (fun r => q ⟨by omega, r.2⟩)], (HO.out.2.setCell (Nat.le_refl _) _).setCell (Nat.le_refl _) _⟩
        clear HO hr1 hb
        go_wp2_with fail
        go_roundw
        case rel => exact ⟨k + 1, by go_num, by omega, HN⟩
        case measure => simp [intOf]; omega
      · have ht : (n / 2 ^ k % 2 == 1) = false := by
          unfold bitZ at hb
          rw [decide_eq_true_iff] at hb
          rw [beq_eq_false_iff_ne]; exact hb
        have HN : Hid (RowV 25 1 (wr.setCell ⟨w.heap.size, k, none⟩ (.int .u32 0)) w.heap.size m m (conF n (k + 1)) ∧ Below w.heap.size w (wr.setCell ⟨w.heap.size, k, none⟩ (.int .u32 0))) :=
          ⟨hr1.congr fun j _ => by
            unfold updV
            by_cases e : j = k
            · rw [if_pos e, e]; unfold conF; rw [if_neg (fun r => hb r.2)]
            · rw [if_neg e]
              unfold conF
              by_cases q : j < k ∧ bitZ n j = true
              · rw [if_pos q, if_pos ⟨by omega, q.2⟩]
              · rw [if_neg q, if_neg (fun r => q ⟨by omega, r.2⟩)], HO.out.2.setCell (Nat.le_refl _) _⟩
        clear HO hr1 hb y0 y1
        go_wp2_with fail
        go_roundw
        case rel => exact ⟨k + 1, by go_num, by omega, HN⟩
        case measure => simp [intOf]; omega
    · have tk : decide ((k : Int) < (m : Int)) = false := decide_eq_false (by omega)
      have tk2 : decide (k < m) = false := decide_eq_false hlt
      obtain rfl : k = m := by omega
      have HR := Lib.hid (HE2.out wr HO.out)
      clear HO HE2
      go_wp2_with fail
      go_ret2
      exact HR.out
end Go.Proofs.Ytelpoocgmflofaa
