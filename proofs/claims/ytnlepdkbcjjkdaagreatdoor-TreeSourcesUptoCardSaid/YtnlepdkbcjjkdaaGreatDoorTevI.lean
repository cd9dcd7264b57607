/- Package tree: rightType, rightVar, rightAssign, rightRule, rightProcess. -/
import Derived.Test.YtnlepdkbcjjkdaaGreatDoorTevH
namespace Go.Proofs.YtnlepdkbcjjkdaaGreatDoor
open Go.RowKit TreM WrdM

theorem cells7 {w : World} {g : Nat} {a b c d e f i : Value} {t : TypeId} {q : Nat × Nat} (h : w.heap[g]? = some (.cells #[a, b, c, d, e, f, i] t q)) :
    w.cell? ⟨g, 0, none⟩ = some a ∧ w.cell? ⟨g, 1, none⟩ = some b ∧ w.cell? ⟨g, 2, none⟩ = some c ∧ w.cell? ⟨g, 3, none⟩ = some d ∧ w.cell? ⟨g, 4, none⟩ = some e ∧ w.cell? ⟨g, 5, none⟩ = some f ∧ w.cell? ⟨g, 6, none⟩ = some i := by
  refine ⟨?_, ?_, ?_, ?_, ?_, ?_, ?_⟩ <;> (rw [Lib.cell_of_heap h]; rfl)
def typeB (d : Dcl) : Bool := if d.type.isEmpty then smallB d.low && smallB d.high else decide (d.low = 0) && (decide (d.high = 0) && (d.type == boolT || nameOk d.type))
theorem bool_list (s : List UInt8) : ((⟨s.toArray⟩ : ByteArray).toList == [98, 111, 111, 108]) = (s == boolT) := by
  rw [Lib.toList_data]; rfl
abbrev cD (nb tb : ByteArray) (lo hi : Int) (v : Value) (l c : Int) : List Value := [.string nb, .string tb, .int .i64 lo, .int .i64 hi, v, .int .i64 l, .int .i64 c]
set_option maxHeartbeats 1600000 in
set_option maxRecDepth 100000 in
theorem rightType_any (d : Dcl) (A : Option Addr) (m cap : Nat) (l c : Int) (w : World) (ht : d.type.length ≤ 9223372036854775807) (nb : ByteArray) :
    Calls Tryz.prog 47 #[.agg (cD nb ⟨d.type.toArray⟩ d.low d.high (.slice A m cap) l c).toArray] w fun x w' => x = .returned (.bool (typeB d)) ∧ Below w.heap.size w w' := by
  obtain ⟨wa, hwa⟩ : ∃ wa, wa = w.alloc (.cells (cD nb ⟨d.type.toArray⟩ d.low d.high (.slice A m cap) l c).toArray 52) := ⟨_, rfl⟩
  have hba : Below w.heap.size w wa := by rw [hwa]; exact below_alloc w _
  have hga : wa.heap[w.heap.size]? = some (.cells (cD nb ⟨d.type.toArray⟩ d.low d.high (.slice A m cap) l c).toArray 52) := by rw [hwa]; exact blk_new w _
  have hlt : w.heap.size < wa.heap.size := by rw [hwa]; simp
  have HN := Lib.hid (name_any d.type wa ht)
  have HI := Lib.hid (inRange_any d.low)
  have HJ := Lib.hid (inRange_any d.high)
  have HC : Hid (∀ W, Below wa.heap.size wa W → W.heap[w.heap.size]? = some (.cells (cD nb ⟨d.type.toArray⟩ d.low d.high (.slice A m cap) l c).toArray 52)) := fun W hW => (hW.block _ hlt).trans hga
  have hE : typeB d = if d.type.isEmpty then smallB d.low && smallB d.high else decide (d.low = 0) && (decide (d.high = 0) && (d.type == boolT || nameB d.type)) := rfl
  have h1 := empty_list d.type
  have h2 := bool_list d.type
  rw [hE]
  have HBA := Lib.hid hba
  obtain ⟨c0, c1, c2, c3, c4, c5, c6⟩ := cells7 hga
  have HWA := Lib.hid hwa
  clear hE hba hga hwa ht
  generalize smallB d.low = s1 at *
  generalize smallB d.high = s2 at *
  generalize nameB d.type = N at *
  generalize d.type.isEmpty = em at *
  generalize (d.type == boolT) = bt at *
  generalize (⟨d.type.toArray⟩ : ByteArray) = tb at *
  generalize d.low = lo at *
  generalize d.high = hi at *
  go_enter Tryz.func47, Tryz.ntmps47
  rcases em with _ | _
  · rw [if_neg (by decide)]
    have e1 : (lo == 0) = decide (lo = 0) := by rw [Bool.eq_iff_iff]; simp
    have e2 : (hi == 0) = decide (hi = 0) := by rw [Bool.eq_iff_iff]; simp
    generalize decide (lo = 0) = z1 at *
    generalize decide (hi = 0) = z2 at *
    rcases bt with _ | _
    · go_wp2_with fail
      have hwa := HWA.out
      rw [← hwa]
      clear hwa HWA
      refine HN.out.mono ?_
      rintro x w1 ⟨rfl, hB1⟩
      have HB1 := Lib.hid hB1
      obtain ⟨c0, c1, c2, c3, c4, c5, c6⟩ := cells7 (HC.out w1 hB1)
      clear hB1 HN
      rcases N with _ | _
      · go_wp2_with fail
        go_ret
        exact ⟨ret_bool (by simp), HBA.out.trans (HB1.out.mono HBA.out.size)⟩
      · rcases z1 with _ | _
        · go_wp2_with fail
          go_ret
          exact ⟨ret_bool (by simp), HBA.out.trans (HB1.out.mono HBA.out.size)⟩
        · go_wp2_with fail
          go_ret
          exact ⟨ret_bool (by simp), HBA.out.trans (HB1.out.mono HBA.out.size)⟩
    · have HE := Lib.hid (HBA.out)
      rcases z1 with _ | _
      · go_wp2_with fail
        go_ret
        exact ⟨ret_bool (by simp), by have hwa := HWA.out; rw [← hwa]; exact HBA.out⟩
      · go_wp2_with fail
        go_ret
        exact ⟨ret_bool (by simp), by have hwa := HWA.out; rw [← hwa]; exact HBA.out⟩
  · rw [if_pos rfl]
    go_wp2_with fail
    have hwa := HWA.out
    rw [← hwa]
    clear hwa HWA
    refine (HI.out _).mono ?_
    rintro x w1 ⟨rfl, rfl⟩
    rcases s1 with _ | _
    · go_wp2_with fail
      go_ret
      exact ⟨rfl, HBA.out⟩
    · go_wp2_with (refine (HJ.out _).mono ?_; rintro x w1 ⟨rfl, rfl⟩)
      go_ret
      exact ⟨rfl, HBA.out⟩

set_option maxHeartbeats 1600000 in
set_option maxRecDepth 100000 in
theorem rightVar_any (d : Dcl) (cs : List Value) (w : World) (h : DclC w d cs) : Calls Tryz.prog 17 #[.agg cs.toArray] w fun x w' => x = .returned (.bool (declB d)) ∧ Below w.heap.size w w' := by
  obtain ⟨v, l, c, rfl, hn, ht, hlo, hhi, A, cap, rfl, hm, hc, hA⟩ := h
  obtain ⟨wa, hwa⟩ : ∃ wa, wa = w.alloc (.cells (cD ⟨d.name.toArray⟩ ⟨d.type.toArray⟩ d.low d.high (.slice A d.begins.length cap) l c).toArray 52) := ⟨_, rfl⟩
  have hba : Below w.heap.size w wa := by rw [hwa]; exact below_alloc w _
  have hga : wa.heap[w.heap.size]? = some (.cells (cD ⟨d.name.toArray⟩ ⟨d.type.toArray⟩ d.low d.high (.slice A d.begins.length cap) l c).toArray 52) := by rw [hwa]; exact blk_new w _
  have hlt : w.heap.size < wa.heap.size := by rw [hwa]; simp
  have HN := Lib.hid (name_any d.name wa hn)
  have HT : Hid (∀ W, Calls Tryz.prog 47 #[.agg (cD ⟨d.name.toArray⟩ ⟨d.type.toArray⟩ d.low d.high (.slice A d.begins.length cap) l c).toArray] W fun x w' => x = .returned (.bool (typeB d)) ∧ Below W.heap.size W w') := fun W => rightType_any d A _ cap l c W ht _
  have HE : Hid (∀ W, Below wa.heap.size wa W → Calls Tryz.prog 48 #[.slice A d.begins.length cap, .func (.func 49) #[] #[]] W fun x w' => x = .returned (.bool (decide (d.begins.length ≤ 32) && d.begins.all writB)) ∧ Below W.heap.size W w') := fun W hW =>
    exprs_every d.begins A cap W (hA.below (hba.trans (hW.mono hba.size)) fun x _ cs h => ExC.below (hba.trans (hW.mono hba.size)) x cs h) hm hc
  have HC : Hid (∀ W, Below wa.heap.size wa W → W.heap[w.heap.size]? = some (.cells (cD ⟨d.name.toArray⟩ ⟨d.type.toArray⟩ d.low d.high (.slice A d.begins.length cap) l c).toArray 52)) := fun W hW => (hW.block _ hlt).trans hga
  have hE : declB d = (typeB d && (decide (d.begins.length ≤ 1) && (nameB d.name && d.begins.all writB))) := rfl
  rw [hE]
  have HBA := Lib.hid hba
  obtain ⟨c0, c1, c2, c3, c4, c5, c6⟩ := cells7 hga
  have HWA := Lib.hid hwa
  clear hA hE hba hga hwa ht hlo hhi hn
  generalize d.begins.all writB = R at *
  generalize nameB d.name = N at *
  generalize typeB d = ty at *
  generalize d.begins.length = m at *
  generalize (⟨d.name.toArray⟩ : ByteArray) = sb at *
  generalize (⟨d.type.toArray⟩ : ByteArray) = tb at *
  go_enter Tryz.func17, Tryz.ntmps17
  go_wp2_with fail
  have hwa := HWA.out
  rw [← hwa]
  clear hwa HWA
  refine HN.out.mono ?_
  rintro x w1 ⟨rfl, hB1⟩
  have HB1 := Lib.hid hB1
  obtain ⟨c0, c1, c2, c3, c4, c5, c6⟩ := cells7 (HC.out w1 hB1)
  clear hB1 HN
  rcases N with _ | _
  · go_wp2_with fail
    go_ret
    exact ⟨ret_bool (by simp), HBA.out.trans (HB1.out.mono HBA.out.size)⟩
  go_wp2_with fail
  refine (HT.out _).mono ?_
  rintro x w2 ⟨rfl, hB2⟩
  have HB2 := Lib.hid (HB1.out.trans (hB2.mono HB1.out.size))
  obtain ⟨c0, c1, c2, c3, c4, c5, c6⟩ := cells7 (HC.out w2 HB2.out)
  have HE2 := Lib.hid (HE.out w2 HB2.out)
  clear hB2 HT HE
  rcases ty with _ | _
  · go_wp2_with fail
    go_ret
    exact ⟨ret_bool (by simp), HBA.out.trans (HB2.out.mono HBA.out.size)⟩
  by_cases hm1 : m ≤ 1
  · have t1 : decide ((m : Int) ≤ 1) = true := decide_eq_true (by omega)
    have H1 := Lib.hid (decide_eq_true hm1)
    have HR : Hid ((decide (m ≤ 32) && R) = R) := by unfold Hid; rw [decide_eq_true (by omega), Bool.true_and]
    rw [HR.out] at HE2
    go_wp2_with (refine HE2.out.mono ?_; rintro x w3 ⟨rfl, hB3⟩)
    go_ret
    exact ⟨ret_bool (by rw [H1.out]; simp), HBA.out.trans ((HB2.out.trans (hB3.mono HB2.out.size)).mono HBA.out.size)⟩
  · have t1 : decide ((m : Int) ≤ 1) = false := decide_eq_false (by omega)
    have H1 := Lib.hid (decide_eq_false hm1)
    go_wp2_with fail
    go_ret
    exact ⟨ret_bool (by rw [H1.out]; simp), HBA.out.trans (HB2.out.mono HBA.out.size)⟩
end Go.Proofs.YtnlepdkbcjjkdaaGreatDoor
