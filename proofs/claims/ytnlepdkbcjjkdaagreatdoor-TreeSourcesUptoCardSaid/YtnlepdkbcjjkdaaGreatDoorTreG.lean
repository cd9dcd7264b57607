/- Package tree: the signs, leaves, and how an expression is written. -/
import Derived.Test.YtnlepdkbcjjkdaaGreatDoorTreF
import Derived.Test.YtnlepdkbcjjkdaaGreatDoorBldT
import Derived.Lib.LaidTab
import Derived.WalkSmall
namespace Go.Proofs.YtnlepdkbcjjkdaaGreatDoor
open Go.RowKit TreM WrdM

/-- The listed variable of package tree. -/
def sgL : List (List UInt8) := [[], [], [], [], [], [45], [33], [88], [70], [71], [89], [90], [79], [72], [42], [43], [45], [61], [33, 61], [60], [60, 61], [62], [62, 61], [85], [82], [83], [84], [38], [124], [45, 62], [60, 45, 62]]
/-- What the listed variables hold. -/
structure TrG (W : World) : Prop where
  sg : ∀ j, j < 31 → W.cell? ⟨0, j, none⟩ = some (.string ⟨(sgL.getD j []).toArray⟩)
  pow : Lib.TabIs Tryz.prog W "internal/strconv.uint64pow10" .u64 Lib.pow10Tab
  n : 5 ≤ W.heap.size
theorem TrG.below {B : Nat} {W W' : World} (h : TrG W) (hb : Below B W W') (hB : 5 ≤ B) : TrG W' :=
  ⟨fun j hj => (hb.cell (p := ⟨0, j, none⟩) (by show 0 < B; omega)).trans (h.sg j hj), var?_below hb (by kernel_rfl) (show 2 < B by omega) h.pow, Nat.le_trans h.n hb.size⟩

theorem sg_len : ∀ j, j < 31 → (sgL.getD j []).length ≤ 3 := by decide
theorem sign_eq (j : Nat) (hj : j < 31) : sgL.getD j [] = signE (j : Int) := by
  have h : ∀ j : Nat, j < 31 → sgL.getD j [] = signE (j : Int) := by decide
  exact h j hj
theorem signE_len (o : Int) : (signE o).length ≤ 3 := by
  by_cases h : 0 ≤ o ∧ o < 31
  · obtain ⟨j, rfl⟩ := Int.eq_ofNat_of_zero_le h.1
    rw [← sign_eq j (by omega)]
    exact sg_len j (by omega)
  · unfold signE
    rw [if_neg (by omega)]
    decide
theorem sign_any (o : Int) (w : World) (h : TrG w) : Calls Tryz.prog 13 #[.int .i64 o] w fun e w' => e = .returned (.string ⟨(signE o).toArray⟩) ∧ w = w' := by
  by_cases h1 : o < 0
  · have t1 : decide (o < 0) = true := decide_eq_true h1
    have hE : signE o = [] := by unfold signE; rw [if_neg (by omega)]
    rw [hE]
    go_enter Tryz.func13, Tryz.ntmps13
    go_wp2
    go_ret
    exact ⟨rfl, rfl⟩
  have t1 : decide (o < 0) = false := decide_eq_false h1
  by_cases h2 : 31 ≤ o
  · have t2 : decide ((31 : Int) ≤ o) = true := decide_eq_true h2
    have hE : signE o = [] := by unfold signE; rw [if_neg (by omega)]
    rw [hE]
    go_enter Tryz.func13, Tryz.ntmps13
    go_wp2
    go_ret
    exact ⟨rfl, rfl⟩
  have t2 : decide ((31 : Int) ≤ o) = false := decide_eq_false h2
  obtain ⟨j, rfl⟩ := Int.eq_ofNat_of_zero_le (show 0 ≤ o by omega)
  have hc := h.sg j (by omega)
  rw [sign_eq j (by omega)] at hc
  have hj : j < 31 := by omega
  generalize (⟨(signE (j : Int)).toArray⟩ : ByteArray) = sb at *
  go_enter Tryz.func13, Tryz.ntmps13
  go_wp2
  go_ret
  exact ⟨rfl, rfl⟩

/-- An op's sign ahead of its one kid. -/
def aheadE (o : Int) : List UInt8 := if 6 < o then signE o ++ [32] else signE o
theorem app_mk (a b : List UInt8) : (⟨a.toArray⟩ : ByteArray) ++ ⟨b.toArray⟩ = ⟨(a ++ b).toArray⟩ := by
  apply ByteArray.ext
  simp
theorem ahead_any (o : Int) (w : World) (h : TrG w) (h5 : 5 ≤ o) : Calls Tryz.prog 73 #[.int .i64 o] w fun e w' => e = .returned (.string ⟨(aheadE o).toArray⟩) ∧ w = w' := by
  have HC := Lib.hid (sign_any o w h)
  have hl : (⟨(signE o).toArray⟩ : ByteArray).size ≤ 3 := by rw [size_mk]; exact signE_len o
  have HE : Hid (∀ sb : ByteArray, sb = ⟨(signE o).toArray⟩ → sb ++ ⟨#[32]⟩ = ⟨(signE o ++ [32]).toArray⟩) := fun sb hs => by rw [hs]; exact app_mk _ _
  obtain ⟨sb, hsb⟩ : ∃ sb : ByteArray, sb = ⟨(signE o).toArray⟩ := ⟨_, rfl⟩
  have HSB := Lib.hid hsb
  rw [← hsb] at hl HC
  have z1 : ¬ 9223372036854775807 < sb.size + 1 := by omega
  clear hsb
  by_cases h1 : o = 5
  · have t1 : (o == 5) = true := by rw [beq_iff_eq]; exact h1
    have hA : aheadE o = signE o := by unfold aheadE; rw [if_neg (by omega)]
    rw [hA, ← HSB.out]
    clear h1 HSB HE hA
    go_enter Tryz.func73, Tryz.ntmps73
    go_wp2_with (refine HC.out.mono ?_; rintro e w' ⟨rfl, rfl⟩)
    go_ret
    exact ⟨rfl, rfl⟩
  have t1 : (o == 5) = false := by rw [beq_eq_false_iff_ne]; exact h1
  by_cases h2 : o = 6
  · have t2 : (o == 6) = true := by rw [beq_iff_eq]; exact h2
    have hA : aheadE o = signE o := by unfold aheadE; rw [if_neg (by omega)]
    rw [hA, ← HSB.out]
    clear h1 h2 HSB HE hA
    go_enter Tryz.func73, Tryz.ntmps73
    go_wp2_with (refine HC.out.mono ?_; rintro e w' ⟨rfl, rfl⟩)
    go_ret
    exact ⟨rfl, rfl⟩
  have t2 : (o == 6) = false := by rw [beq_eq_false_iff_ne]; exact h2
  have hA : aheadE o = signE o ++ [32] := by unfold aheadE; rw [if_pos (by omega)]
  rw [hA]
  have HF := Lib.hid (HE.out sb HSB.out)
  clear h1 h2 HSB HE hA
  generalize (⟨(signE o ++ [32]).toArray⟩ : ByteArray) = sb2 at *
  go_enter Tryz.func73, Tryz.ntmps73
  go_wp2_with (refine HC.out.mono ?_; rintro e w' ⟨rfl, rfl⟩)
  go_ret
  exact ⟨ret_str HF.out, rfl⟩

theorem fint_any (n : Int) (w : World) (h0 : -9223372036854775808 ≤ n) (h1 : n ≤ 9223372036854775807) (h : TrG w) :
    Calls Tryz.prog 56 #[.int .i64 n, .int .i64 10] w fun e w' => e = .returned (.string ⟨(Lib.itoa n).toArray⟩) ∧ Below w.heap.size w w' := by
  refine (Any.strconv_FormatInt_10 Tryz.laysM173 n h0 h1 w h.pow).mono ?_
  rintro e w' ⟨rfl, k, os, rfl⟩
  exact ⟨rfl, below_grow' (w := w.drewN k) (w0 := w) ⟨rfl, rfl, rfl, Nat.le_refl _, fun _ _ => rfl⟩ (Nat.le_refl _) os⟩
theorem fboolI_any (b : Bool) (w : World) : Calls Tryz.prog 118 #[.bool b] w fun e w' => e = .returned (.string (if b then ⟨#[116, 114, 117, 101]⟩ else ⟨#[102, 97, 108, 115, 101]⟩)) ∧ w = w' := by
  cases b
  · go_enter Tryz.func118, Tryz.ntmps118
    go_wp2
    go_ret
    exact ⟨rfl, rfl⟩
  · go_enter Tryz.func118, Tryz.ntmps118
    go_wp2
    go_ret
    exact ⟨rfl, rfl⟩
theorem fbool_any (b : Bool) (w : World) : Calls Tryz.prog 102 #[.bool b] w fun e w' => e = .returned (.string (if b then ⟨#[116, 114, 117, 101]⟩ else ⟨#[102, 97, 108, 115, 101]⟩)) ∧ w = w' := by
  have HC := Lib.hid (fboolI_any b w)
  generalize (if b then (⟨#[116, 114, 117, 101]⟩ : ByteArray) else ⟨#[102, 97, 108, 115, 101]⟩) = sb at *
  go_enter Tryz.func102, Tryz.ntmps102
  go_wp2_with (refine HC.out.mono ?_; rintro e w' ⟨rfl, rfl⟩)
  go_ret
  exact ⟨rfl, rfl⟩

theorem leaf_any {b p : Nat} {w : World} {o n : Int} {s : List UInt8} {A : Option Addr} {m cap : Nat} {l c : Int} (h : Ex6 w b p o n s A m cap l c) (hB : ExB o n s m cap l c) (hG : TrG w) :
    Calls Tryz.prog 72 #[.pointer (some ⟨b, p, none⟩)] w fun e w' => e = .returned (.string ⟨(textK o n s []).toArray⟩) ∧ Below w.heap.size w w' := by
  obtain ⟨c0, c1, c2, c3, c4, c5⟩ := h
  have hT : textK o n s [] = if o = 1 then Lib.itoa n else if o = 2 then (if n = 1 then [116, 114, 117, 101] else [102, 97, 108, 115, 101]) else s := by
    rw [textK]
    all_goals (intros; contradiction)
  rw [hT]
  by_cases h1 : o = 1
  · have t1 : (o == 1) = true := by rw [beq_iff_eq]; exact h1
    rw [if_pos h1]
    have HC := Lib.hid (fint_any n w hB.n0 hB.n1 hG)
    clear hT h1 hB
    go_enter Tryz.func72, Tryz.ntmps72
    go_wp2_with (refine HC.out.mono ?_; rintro e w' ⟨rfl, hB1⟩)
    go_ret
    exact ⟨rfl, hB1⟩
  have t1 : (o == 1) = false := by rw [beq_eq_false_iff_ne]; exact h1
  by_cases h2 : o = 2
  · have t2 : (o == 2) = true := by rw [beq_iff_eq]; exact h2
    rw [if_neg h1, if_pos h2]
    by_cases h3 : n = 1
    · have t3 : (n == 1) = true := by rw [beq_iff_eq]; exact h3
      have HC := Lib.hid (fbool_any true w)
      rw [if_pos h3]
      clear hT h1 h2 h3 hB
      go_enter Tryz.func72, Tryz.ntmps72
      go_wp2_with (refine HC.out.mono ?_; rintro e w' ⟨rfl, rfl⟩)
      go_ret
      exact ⟨rfl, Below.refl _ _⟩
    · have t3 : (n == 1) = false := by rw [beq_eq_false_iff_ne]; exact h3
      have HC := Lib.hid (fbool_any false w)
      rw [if_neg h3]
      clear hT h1 h2 h3 hB
      go_enter Tryz.func72, Tryz.ntmps72
      go_wp2_with (refine HC.out.mono ?_; rintro e w' ⟨rfl, rfl⟩)
      go_ret
      exact ⟨rfl, Below.refl _ _⟩
  have t2 : (o == 2) = false := by rw [beq_eq_false_iff_ne]; exact h2
  rw [if_neg h1, if_neg h2]
  clear hT h1 h2 hB
  generalize (⟨s.toArray⟩ : ByteArray) = sb at *
  go_enter Tryz.func72, Tryz.ntmps72
  go_wp2
  go_ret
  exact ⟨rfl, Below.refl _ _⟩
end Go.Proofs.YtnlepdkbcjjkdaaGreatDoor
