/- The plain answers' Letter, Digit, one, Kept, Name. -/
import Derived.Test.YtmkhfcdjgdofnaaDoorTrfA
namespace Go.Proofs.YtmkhfcdjgdofnaaDoor
open Go.RowKit WrdM

theorem pmem_getD {p : List UInt8} {x : UInt8} (h : x ∈ p) : ∃ j, j < p.length ∧ p.getD j 0 = x := by
  obtain ⟨j, hj, e⟩ := List.getElem_of_mem h
  exact ⟨j, hj, by rw [List.getD_eq_getElem?_getD, List.getElem?_eq_getElem hj]; exact e⟩
theorem letB_of (c : UInt8) : letB c = ((decide ((97 : Int) ≤ (c.toNat : Int)) && decide ((c.toNat : Int) ≤ 122)) || (decide ((65 : Int) ≤ (c.toNat : Int)) && decide ((c.toNat : Int) ≤ 90))) := by
  have h : ∀ n : Nat, n < 256 → letB (UInt8.ofNat n) = ((decide ((97 : Int) ≤ ((UInt8.ofNat n).toNat : Int)) && decide (((UInt8.ofNat n).toNat : Int) ≤ 122)) || (decide ((65 : Int) ≤ ((UInt8.ofNat n).toNat : Int)) && decide (((UInt8.ofNat n).toNat : Int) ≤ 90))) := by decide +kernel
  have := h c.toNat (UInt8.toNat_lt c)
  rwa [UInt8.ofNat_toNat] at this
theorem digB_of (c : UInt8) : digB c = (decide ((48 : Int) ≤ (c.toNat : Int)) && decide ((c.toNat : Int) ≤ 57)) := by
  have h : ∀ n : Nat, n < 256 → digB (UInt8.ofNat n) = (decide ((48 : Int) ≤ ((UInt8.ofNat n).toNat : Int)) && decide (((UInt8.ofNat n).toNat : Int) ≤ 57)) := by decide +kernel
  have := h c.toNat (UInt8.toNat_lt c)
  rwa [UInt8.ofNat_toNat] at this
set_option maxHeartbeats 1600000 in
theorem letter_any (c : UInt8) (w : World) : Calls Tryd.prog 81 #[.int .u8 (c.toNat : Int)] w fun e w' => e = .returned (.bool (letB c)) ∧ w = w' := by
  have HE := Lib.hid (letB_of c)
  generalize letB c = b at *
  generalize (c.toNat : Int) = x at *
  obtain ⟨b1, h1⟩ : ∃ b1, b1 = decide (97 ≤ x) := ⟨_, rfl⟩
  obtain ⟨b2, h2⟩ : ∃ b2, b2 = decide (x ≤ 122) := ⟨_, rfl⟩
  obtain ⟨b3, h3⟩ : ∃ b3, b3 = decide (65 ≤ x) := ⟨_, rfl⟩
  obtain ⟨b4, h4⟩ : ∃ b4, b4 = decide (x ≤ 90) := ⟨_, rfl⟩
  rw [← h1, ← h2, ← h3, ← h4] at HE
  cases b1 <;> cases b2 <;> cases b3 <;> cases b4
  all_goals
    have k1 := h1.symm
    have k2 := h2.symm
    have k3 := h3.symm
    have k4 := h4.symm
    clear h1 h2 h3 h4
    go_enter Tryd.func81, Tryd.ntmps81
    go_wp2_with fail
    go_ret
    exact ⟨ret_bool HE.out.symm, rfl⟩
set_option maxHeartbeats 1600000 in
theorem digit_any (c : UInt8) (w : World) : Calls Tryd.prog 82 #[.int .u8 (c.toNat : Int)] w fun e w' => e = .returned (.bool (digB c)) ∧ w = w' := by
  have HE := Lib.hid (digB_of c)
  generalize digB c = b at *
  generalize (c.toNat : Int) = x at *
  obtain ⟨b1, h1⟩ : ∃ b1, b1 = decide (48 ≤ x) := ⟨_, rfl⟩
  obtain ⟨b2, h2⟩ : ∃ b2, b2 = decide (x ≤ 57) := ⟨_, rfl⟩
  rw [← h1, ← h2] at HE
  cases b1 <;> cases b2
  all_goals
    have k1 := h1.symm
    have k2 := h2.symm
    clear h1 h2
    go_enter Tryd.func82, Tryd.ntmps82
    go_wp2_with fail
    go_ret
    exact ⟨ret_bool HE.out.symm, rfl⟩

theorem not_in (xs : List (List UInt8)) (s : List UInt8) (h : ∀ j, j < xs.length → (xs.getD j [] == s) = false) : xs.contains s = false := by
  rw [Bool.eq_false_iff]
  intro e
  have : s ∈ xs := by simpa using e
  obtain ⟨j, hj, e⟩ := List.getElem_of_mem this
  have := h j hj
  rw [List.getD_eq_getElem?_getD, List.getElem?_eq_getElem hj] at this
  simp [e] at this
theorem is_in (xs : List (List UInt8)) (s : List UInt8) (k : Nat) (hk : k < xs.length) (h : (xs.getD k [] == s) = true) : xs.contains s = true := by
  rw [beq_iff_eq, List.getD_eq_getElem?_getD, List.getElem?_eq_getElem hk] at h
  have : s ∈ xs := by rw [← h]; exact List.getElem_mem hk
  simpa using this
theorem list_bytes (l : List UInt8) : (⟨l.toArray⟩ : ByteArray).toList = l := by rw [Lib.toList_data]
set_option maxHeartbeats 1600000 in
theorem one_any (s : List UInt8) (xs : List (List UInt8)) (g c : Nat) (w : World) (hx : ∀ j, j < xs.length → w.cell? ⟨g, j, none⟩ = some (.string ⟨(xs.getD j []).toArray⟩)) (hn : xs.length ≤ 1000) :
    Calls Tryd.prog 94 #[.string ⟨s.toArray⟩, .slice (some ⟨g, 0, none⟩) xs.length c] w fun e w' => e = .returned (.bool (xs.contains s)) ∧ w = w' := by
  have HX := Lib.hid hx
  obtain ⟨sb, hsb⟩ : ∃ sb : ByteArray, sb = ⟨s.toArray⟩ := ⟨_, rfl⟩
  have HSL : Hid (sb.toList = s) := by rw [hsb]; exact list_bytes s
  have HNO := Lib.hid (not_in xs s)
  have HYES := Lib.hid (is_in xs s)
  obtain ⟨n, hnl⟩ : ∃ n, n = xs.length := ⟨_, rfl⟩
  rw [← hnl] at hn HX HNO HYES ⊢
  rw [← hsb]
  clear hsb hx hnl
  generalize xs.contains s = bb at *
  go_enter Tryd.func94, Tryd.ntmps94
  go_wp2_with fail
  go_loopw [6, 9] (fun _ i wr => ∃ k : Nat, k ≤ n ∧ i = .int .i64 k ∧ wr = w ∧ Hid (∀ j, j < k → (xs.getD j [] == s) = false)) (fun _ i _ => n - (intOf i).toNat)
  case atStart => exact ⟨0, Nat.zero_le _, rfl, rfl, fun j hj => absurd hj (by omega)⟩
  case round =>
    obtain ⟨k, hk, rfl, rfl, HA⟩ := hrel
    by_cases hlt : k < n
    · have t1 : decide ((k : Int) < (n : Int)) = true := decide_eq_true (by omega)
      have t2 : decide (k < n) = true := decide_eq_true hlt
      have hcell := HX.out k hlt
      obtain ⟨xb, hxb⟩ : ∃ xb : ByteArray, xb = ⟨(xs.getD k []).toArray⟩ := ⟨_, rfl⟩
      rw [← hxb] at hcell
      have HXL : Hid (xb.toList = xs.getD k []) := by rw [hxb]; exact list_bytes _
      clear hxb
      rcases hb : (xs.getD k [] == s) with _ | _
      · have te : (xb.toList == sb.toList) = false := by rw [HXL.out, HSL.out]; exact hb
        have HB := Lib.hid hb
        clear hb
        go_wp2_with fail
        go_roundw
        case rel =>
          refine ⟨k + 1, by omega, by go_num, trivial, fun j hj => ?_⟩
          by_cases e : j = k
          · rw [e]; exact HB.out
          · exact HA.out j (by omega)
        case measure => simp [intOf]; omega
      · have te : (xb.toList == sb.toList) = true := by rw [HXL.out, HSL.out]; exact hb
        have HB := Lib.hid hb
        clear hb
        go_wp2_with fail
        go_ret
        exact ⟨ret_bool (HYES.out k hlt HB.out).symm, rfl⟩
    · have t1 : decide ((k : Int) < (n : Int)) = false := decide_eq_false (by omega)
      have t2 : decide (k < n) = false := decide_eq_false hlt
      have HR := Lib.hid (HNO.out fun j hj => HA.out j (by omega))
      go_wp2_with fail
      go_ret
      exact ⟨ret_bool HR.out.symm, rfl⟩
/-- Strings in a row. -/
def strC (xs : List (List UInt8)) : Array Value := (xs.map (fun x => Value.string ⟨x.toArray⟩)).toArray
theorem strC_cell (w : World) (xs : List (List UInt8)) (t : TypeId) (j : Nat) (hj : j < xs.length) : (w.alloc (.cells (strC xs) t)).cell? ⟨w.heap.size, j, none⟩ = some (.string ⟨(xs.getD j []).toArray⟩) := by
  rw [Lib.cell_of_heap (blk_new w _)]
  unfold strC
  rw [List.getElem?_toArray, List.getElem?_map, List.getElem?_eq_getElem hj, List.getD_eq_getElem?_getD, List.getElem?_eq_getElem hj]
  rfl
set_option maxHeartbeats 1600000 in
set_option maxRecDepth 100000 in
theorem pkept_any (s : List UInt8) (w : World) : Calls Tryd.prog 83 #[.string ⟨s.toArray⟩] w fun e w' => e = .returned (.bool (keptB s)) ∧ Below w.heap.size w w' := by
  have HO := Lib.hid (one_any s keptL w.heap.size 19 (w.alloc (.cells (strC keptL) 9)) (fun j hj => strC_cell w keptL _ j hj) (by decide))
  have HB := Lib.hid (below_alloc w (.cells (strC keptL) 9))
  rw [show keptL.contains s = keptB s from rfl] at HO
  go_enter Tryd.func83, Tryd.ntmps83
  go_wp2_with fail
  refine HO.out.mono ?_
  rintro e w' ⟨rfl, rfl⟩
  go_wp2_with fail
  go_ret
  exact ⟨rfl, HB.out⟩

/-- May it stand there in a name? -/
def okN (k : Nat) (c : UInt8) : Bool := letB c || (!(decide (k = 0)) && (digB c || c == 95))
theorem okN_yes (s : List UInt8) (h : ∀ j, j < s.length → okN j (s.getD j 0) = true) (hn : s ≠ []) : headB letB s = true ∧ s.all namB = true := by
  constructor
  · cases s with
    | nil => exact absurd rfl hn
    | cons c cs =>
      have := h 0 (by simp)
      simpa [okN, headB] using this
  · rw [List.all_eq_true]
    intro x hx
    obtain ⟨j, hj, e⟩ := pmem_getD hx
    have := h j hj
    rw [e] at this
    unfold okN at this
    unfold namB
    revert this
    cases letB x <;> cases digB x <;> cases (x == 95) <;> simp
theorem okN_no (s : List UInt8) (k : Nat) (hk : k < s.length) (h : okN k (s.getD k 0) = false) : nameB s = false := by
  unfold nameB
  unfold okN at h
  rw [Bool.or_eq_false_iff] at h
  obtain ⟨h1, h2⟩ := h
  rw [Bool.and_eq_false_iff]
  right
  by_cases h0 : k = 0
  · subst h0
    rw [Bool.and_eq_false_iff]
    left
    cases s with
    | nil => simp at hk
    | cons c cs => simpa [headB] using h1
  · rw [Bool.and_eq_false_iff]
    right
    rw [Bool.and_eq_false_iff]
    left
    rw [List.all_eq_false]
    refine ⟨s[k], List.getElem_mem hk, ?_⟩
    rw [List.getD_eq_getElem?_getD, List.getElem?_eq_getElem hk] at h1 h2
    simp only [Option.getD_some] at h1 h2
    unfold namB
    rw [h1]
    simp only [h0, decide_false, Bool.not_false, Bool.true_and, Bool.or_eq_false_iff] at h2
    simp [h2.1]
    simpa using h2.2
theorem byte_ne (c : UInt8) (k : Nat) (hk : k < 256) : (((c.toNat : Nat) : Int) != (k : Int)) = !(c == UInt8.ofNat k) := by
  rw [bne, Bool.eq_iff_iff, Bool.not_eq_true', Bool.not_eq_true', beq_eq_false_iff_ne, beq_eq_false_iff_ne]
  constructor
  · intro h e
    apply h
    rw [e, UInt8.toNat_ofNat']
    omega
  · intro h e
    apply h
    apply UInt8.toNat_inj.1
    rw [UInt8.toNat_ofNat']
    omega
set_option maxHeartbeats 3200000 in
set_option maxRecDepth 100000 in
theorem pname_any (s : List UInt8) (w : World) (hs : s.length ≤ 9223372036854775807) : Calls Tryd.prog 60 #[.string ⟨s.toArray⟩] w fun e w' => e = .returned (.bool (nameB s)) ∧ Below w.heap.size w w' := by
  have HNO := Lib.hid (okN_no s)
  have HYES := Lib.hid (okN_yes s)
  have HL := Lib.hid letter_any
  have HD := Lib.hid digit_any
  have HK := Lib.hid (pkept_any s)
  have HE : Hid (nameB s = (decide (s.length ≤ 32) && (headB letB s && (s.all namB && !keptB s)))) := rfl
  obtain ⟨sb, hsb⟩ : ∃ sb : ByteArray, sb = ⟨s.toArray⟩ := ⟨_, rfl⟩
  have hn : sb.size = s.length := by rw [hsb, size_mk]
  have HAT : Hid (∀ (k : Nat) (h : k < sb.size), sb[k]'h = s.getD k 0) := fun k h => by subst hsb; exact get_mk s k h
  rw [← hsb] at HK ⊢
  clear hsb
  generalize keptB s = bk at *
  go_enter Tryd.func60, Tryd.ntmps60
  go_wp2_with fail
  go_loopw [3] (fun i wr => ∃ k : Nat, k ≤ s.length ∧ i = .int .i64 k ∧ wr = w ∧ Hid (∀ j, j < k → okN j (s.getD j 0) = true)) (fun i _ => s.length - (intOf i).toNat)
  case atStart => exact ⟨0, Nat.zero_le _, rfl, rfl, fun j hj => absurd hj (by omega)⟩
  case round =>
    obtain ⟨k, hk, rfl, rfl, HA⟩ := hrel
    by_cases hlt : k < s.length
    · have t1 : decide ((k : Int) < (s.length : Int)) = true := decide_eq_true (by omega)
      have t2 : decide (k < s.length) = true := decide_eq_true hlt
      have hk2 : k < sb.size := by omega
      have hg := HAT.out k hk2
      obtain ⟨c, hc0⟩ : ∃ c, c = s.getD k 0 := ⟨_, rfl⟩
      rw [← hc0] at hg
      have HC0 := Lib.hid hc0
      clear hc0
      have HL1 := Lib.hid (HL.out c)
      have HD1 := Lib.hid (HD.out c)
      have t5 : (((c.toNat : Nat) : Int) != 95) = !(c == 95) := byte_ne c 95 (by decide)
      rcases hl : letB c with _ | _
      · rw [hl] at HL1
        by_cases h0 : k = 0
        · have t4 : ((k : Int) == 0) = true := by rw [beq_iff_eq]; omega
          have HR := Lib.hid (HNO.out k hlt (by rw [← HC0.out]; unfold okN; rw [hl, h0]; rfl))
          clear hl h0 HD1 t5
          go_wp2_with fail
          refine (HL1.out _).mono ?_
          rintro e w' ⟨rfl, rfl⟩
          go_wp2_with fail
          go_ret
          exact ⟨ret_bool HR.out.symm, Below.refl _ _⟩
        · have t4 : ((k : Int) == 0) = false := by rw [beq_eq_false_iff_ne]; omega
          rcases hd : digB c with _ | _
          · rw [hd] at HD1
            rcases h5 : (c == 95) with _ | _
            · rw [h5, Bool.not_false] at t5
              have HR := Lib.hid (HNO.out k hlt (by rw [← HC0.out]; unfold okN; rw [hl, hd, h5]; simp))
              clear hl hd h5 h0
              go_wp2_with fail
              refine (HL1.out _).mono ?_
              rintro e w' ⟨rfl, rfl⟩
              go_wp2_with fail
              refine (HD1.out _).mono ?_
              rintro e w' ⟨rfl, rfl⟩
              go_wp2_with fail
              go_ret
              exact ⟨ret_bool HR.out.symm, Below.refl _ _⟩
            · rw [h5, Bool.not_true] at t5
              have HOK : Hid (okN k c = true) := by unfold Hid okN; rw [hl, hd, h5]; simp [h0]
              clear hl hd h5 h0
              go_wp2_with fail
              refine (HL1.out _).mono ?_
              rintro e w' ⟨rfl, rfl⟩
              go_wp2_with fail
              refine (HD1.out _).mono ?_
              rintro e w' ⟨rfl, rfl⟩
              go_wp2_with fail
              go_roundw
              case rel =>
                refine ⟨k + 1, by omega, by go_num, trivial, fun j hj => ?_⟩
                by_cases e : j = k
                · rw [e, ← HC0.out]; exact HOK.out
                · exact HA.out j (by omega)
              case measure => simp [intOf]; omega
          · rw [hd] at HD1
            have HOK : Hid (okN k c = true) := by unfold Hid okN; rw [hl, hd]; simp [h0]
            clear hl hd h0 t5
            go_wp2_with fail
            refine (HL1.out _).mono ?_
            rintro e w' ⟨rfl, rfl⟩
            go_wp2_with fail
            refine (HD1.out _).mono ?_
            rintro e w' ⟨rfl, rfl⟩
            go_wp2_with fail
            go_roundw
            case rel =>
              refine ⟨k + 1, by omega, by go_num, trivial, fun j hj => ?_⟩
              by_cases e : j = k
              · rw [e, ← HC0.out]; exact HOK.out
              · exact HA.out j (by omega)
            case measure => simp [intOf]; omega
      · rw [hl] at HL1
        have HOK : Hid (okN k c = true) := by unfold Hid okN; rw [hl]; rfl
        clear hl HD1 t5
        go_wp2_with fail
        refine (HL1.out _).mono ?_
        rintro e w' ⟨rfl, rfl⟩
        go_wp2_with fail
        go_roundw
        case rel =>
          refine ⟨k + 1, by omega, by go_num, trivial, fun j hj => ?_⟩
          by_cases e : j = k
          · rw [e, ← HC0.out]; exact HOK.out
          · exact HA.out j (by omega)
        case measure => simp [intOf]; omega
    · have t1 : decide ((k : Int) < (s.length : Int)) = false := decide_eq_false (by omega)
      have t2 : decide (k < s.length) = false := decide_eq_false hlt
      have HAll : Hid (∀ j, j < s.length → okN j (s.getD j 0) = true) := fun j hj => HA.out j (by omega)
      clear HA
      by_cases hz : s.length = 0
      · have t3 : decide ((0 : Int) < (s.length : Int)) = false := decide_eq_false (by omega)
        have t4 : decide (0 < s.length) = false := decide_eq_false (by omega)
        have HR : Hid (nameB s = false) := by
          have hs0 : s = [] := List.length_eq_zero_iff.1 hz
          rw [HE.out, hs0]; rfl
        clear hz
        go_wp2_with fail
        go_ret
        exact ⟨ret_bool HR.out.symm, Below.refl _ _⟩
      have t3 : decide ((0 : Int) < (s.length : Int)) = true := decide_eq_true (by omega)
      have t4 : decide (0 < s.length) = true := decide_eq_true (by omega)
      obtain ⟨y1, y2⟩ := HYES.out HAll.out (fun e => hz (by rw [e]; rfl))
      rw [y1, y2, Bool.true_and, Bool.true_and] at HE
      clear hz y1 y2
      by_cases h32 : s.length ≤ 32
      · have t5 : decide ((s.length : Int) ≤ 32) = true := decide_eq_true (by omega)
        have t6 : decide (s.length ≤ 32) = true := decide_eq_true h32
        rw [t6, Bool.true_and] at HE
        go_wp2_with fail
        refine (HK.out _).mono ?_
        rintro e w2 ⟨rfl, hB⟩
        have HB := Lib.hid hB
        clear hB
        go_wp2_with fail
        go_ret
        exact ⟨ret_bool HE.out.symm, HB.out⟩
      · have t5 : decide ((s.length : Int) ≤ 32) = false := decide_eq_false (by omega)
        have t6 : decide (s.length ≤ 32) = false := decide_eq_false h32
        rw [t6, Bool.false_and] at HE
        go_wp2_with fail
        go_ret
        exact ⟨ret_bool HE.out.symm, Below.refl _ _⟩
end Go.Proofs.YtmkhfcdjgdofnaaDoor
