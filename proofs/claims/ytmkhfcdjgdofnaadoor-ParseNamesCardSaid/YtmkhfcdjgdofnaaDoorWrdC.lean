/- Package word: the word with which a text begins. -/
import Derived.Test.YtmkhfcdjgdofnaaDoorWrdB
import Derived.Lib.LastIndexByte
import Derived.Deep.MidRow
namespace Go.Proofs.YtmkhfcdjgdofnaaDoor
open Go.RowKit WrdM

/-- A word as it is handed back, without its place. -/
def wrdV (x : Wrd) : Value := .agg #[.int .i64 x.kind, .string ⟨x.text.toArray⟩, .int .i64 x.num, .int .i64 0, .int .i64 0]
def wrdR (x : Wrd) : Ending := .returned (.tuple #[wrdV x, .int .i64 x.err])
theorem wrdR_of {x y : Wrd} (h : x = y) : wrdR x = wrdR y := by rw [h]

theorem tok_cells (w : World) (a b c d e : Value) (t : TypeId) :
    (w.alloc (.cells #[a, b, c, d, e] t)).cell? ⟨w.heap.size, 0, none⟩ = some a ∧ (w.alloc (.cells #[a, b, c, d, e] t)).cell? ⟨w.heap.size, 1, none⟩ = some b ∧
    (w.alloc (.cells #[a, b, c, d, e] t)).cell? ⟨w.heap.size, 2, none⟩ = some c ∧ (w.alloc (.cells #[a, b, c, d, e] t)).cell? ⟨w.heap.size, 3, none⟩ = some d ∧
    (w.alloc (.cells #[a, b, c, d, e] t)).cell? ⟨w.heap.size, 4, none⟩ = some e := by
  have h := blk_new w (.cells #[a, b, c, d, e] t)
  refine ⟨?_, ?_, ?_, ?_, ?_⟩ <;> (rw [Lib.cell_of_heap h]; rfl)
set_option maxHeartbeats 1600000 in
theorem letterWord_any (s : List UInt8) (w : World) (hs : s.length ≤ 9223372036854775807) :
    Calls Tryd.prog 67 #[.string ⟨s.toArray⟩] w fun e w' => e = wrdR (namW s) ∧ Below w.heap.size w w' := by
  have HK := Lib.hid (kept_any s)
  have HE : Hid (namW s = if 32 < s.length then ⟨132, 0, [], 0⟩ else ⟨0, if keptB s then 4 else 1, s, 0⟩) := rfl
  have HB := Lib.hid (below_alloc w (.cells #[.int .i64 0, .string ⟨#[]⟩, .int .i64 0, .int .i64 0, .int .i64 0] 71))
  obtain ⟨sb, hsb⟩ : ∃ sb : ByteArray, sb = ⟨s.toArray⟩ := ⟨_, rfl⟩
  have hn : (sb.size : Int) = (s.length : Int) := by rw [hsb, size_mk]
  have HSB := Lib.hid hsb
  rw [← hsb] at HK ⊢
  clear hsb
  by_cases hl : 32 < s.length
  · have t1 : decide ((32 : Int) < (s.length : Int)) = true := decide_eq_true (by omega)
    go_enter Tryd.func67, Tryd.ntmps67
    go_wp2_with fail
    obtain ⟨p0, p1, p2, p3, p4⟩ := tok_cells w (.int .i64 0) (.string ⟨#[]⟩) (.int .i64 0) (.int .i64 0) (.int .i64 0) 71
    refine bodyPost_ret (v := .tuple #[wrdV ⟨132, 0, [], 0⟩, .int .i64 132]) (by simp [results, Tryd.results67, go_sem, p0, p1, p2, p3, p4, wrdV]) rfl ?_
    rw [HE.out, if_pos hl]
    exact ⟨rfl, HB.out⟩
  · have t1 : decide ((32 : Int) < (s.length : Int)) = false := decide_eq_false (by omega)
    rw [if_neg hl] at HE
    rcases hk : keptB s with _ | _
    all_goals
      rw [hk] at HK HE
      clear hk
      go_enter Tryd.func67, Tryd.ntmps67
      go_wp2_with fail
      refine (HK.out _).mono ?_
      rintro e w' ⟨rfl, rfl⟩
      go_wp2_with fail
    · obtain ⟨p0, p1, p2, p3, p4⟩ := tok_cells w (.int .i64 1) (.string sb) (.int .i64 0) (.int .i64 0) (.int .i64 0) 71
      refine bodyPost_ret (v := .tuple #[.agg #[.int .i64 1, .string sb, .int .i64 0, .int .i64 0, .int .i64 0], .int .i64 0]) (by simp [results, Tryd.results67, go_sem, p0, p1, p2, p3, p4]) rfl ?_
      rw [HE.out, HSB.out]
      exact ⟨rfl, below_alloc _ _⟩
    · obtain ⟨p0, p1, p2, p3, p4⟩ := tok_cells w (.int .i64 4) (.string sb) (.int .i64 0) (.int .i64 0) (.int .i64 0) 71
      refine bodyPost_ret (v := .tuple #[.agg #[.int .i64 4, .string sb, .int .i64 0, .int .i64 0, .int .i64 0], .int .i64 0]) (by simp [results, Tryd.results67, go_sem, p0, p1, p2, p3, p4]) rfl ?_
      rw [HE.out, HSB.out]
      exact ⟨rfl, below_alloc _ _⟩
/-- The signs' variable. -/
def SgnAt (w : World) : Prop := ∀ j, j < 23 → w.cell? ⟨1, j, none⟩ = some (.string ⟨(signL.getD j []).toArray⟩)
theorem find_at (p : List UInt8 → Bool) : ∀ (l : List (List UInt8)) (k : Nat), k < l.length → p (l.getD k []) = true → (∀ j, j < k → p (l.getD j []) = false) → l.find? p = some (l.getD k [])
  | [], k, h, _, _ => absurd h (by simp)
  | x :: xs, 0, _, h, _ => by
    have : p x = true := by simpa using h
    simp [this]
  | x :: xs, k + 1, hk, h, ha => by
    have h0 : p x = false := by simpa using ha 0 (by omega)
    rw [List.find?_cons, h0]
    simpa using find_at p xs k (by simpa using hk) (by simpa using h) (fun j hj => by simpa using ha (j + 1) (by omega))
theorem find_no (p : List UInt8 → Bool) : ∀ (l : List (List UInt8)), (∀ j, j < l.length → p (l.getD j []) = false) → l.find? p = none
  | [], _ => rfl
  | x :: xs, ha => by
    have h0 : p x = false := by simpa using ha 0 (by simp)
    rw [List.find?_cons, h0]
    exact find_no p xs (fun j hj => by simpa using ha (j + 1) (by simpa using hj))
theorem sgn_yes (s : List UInt8) (k : Nat) (hk : k < 23) (h : (signL.getD k []).isPrefixOf s = true) (ha : ∀ j, j < k → (signL.getD j []).isPrefixOf s = false) : sgnW (signW s) = ⟨0, 3, signL.getD k [], 0⟩ := by
  have := find_at (fun x => x.isPrefixOf s) signL k hk h ha
  have hm : signL.getD k [] ∈ signL := List.mem_of_find?_eq_some this
  unfold signW
  rw [this]
  unfold sgnW
  rw [if_neg (by exact (signL_bytes _ hm).1)]
  rfl
theorem sgn_no (s : List UInt8) (ha : ∀ j, j < 23 → (signL.getD j []).isPrefixOf s = false) : sgnW (signW s) = ⟨131, 0, [], 0⟩ := by
  have := find_no (fun x => x.isPrefixOf s) signL ha
  unfold signW
  rw [this]
  rfl
def signV : List Value := signL.map (fun x => Value.string ⟨x.toArray⟩)
theorem signV_get (k : Nat) (h : k < 23) : signV[k]? = some (.string ⟨(signL.getD k []).toArray⟩) := by
  unfold signV
  rw [List.getElem?_map, List.getD_eq_getElem?_getD, List.getElem?_eq_getElem (show k < signL.length from h)]
  rfl
theorem run_index_sa (sa : Array Value) (k : Nat) (x : Value) (hk : k < 23) (hx : sa[k]? = some x) (w : World) :
    (Instr.index 113 (.agg sa) (.int .i64 (k : Int))).run Tryd.prog w = .ok x w := by
  have h1 : (0 : Int) ≤ (k : Int) ∧ (k : Int) < 23 := by omega
  simp [Instr.index, asIntOf, part, go_sem, hx, h1, hk, Tryd.isAgg9, Tryd.sizeOf9]
set_option maxHeartbeats 1600000 in
set_option maxRecDepth 100000 in
theorem sign_any (s : List UInt8) (w : World) (h : SgnAt w) (hw : 1 < w.heap.size) :
    Calls Tryd.prog 70 #[.string ⟨s.toArray⟩] w fun e w' => e = wrdR (sgnW (signW s)) ∧ Below w.heap.size w w' := by
  have hal := below_alloc w (.cells #[.int .i64 0, .string ⟨#[]⟩, .int .i64 0, .int .i64 0, .int .i64 0] 71)
  have h1 : SgnAt (w.alloc (.cells #[.int .i64 0, .string ⟨#[]⟩, .int .i64 0, .int .i64 0, .int .i64 0] 71)) := fun j hj => by rw [hal.cell (p := ⟨1, j, none⟩) hw]; exact h j hj
  have HP := Lib.hid (fun x => hasPrefix_any s x)
  obtain ⟨sl, hsa⟩ : ∃ sl : List Value, sl = signV := ⟨_, rfl⟩
  have HG : Hid (∀ k, k < 23 → sl[k]? = some (.string ⟨(signL.getD k []).toArray⟩)) := fun k hk => by rw [hsa]; exact signV_get k hk
  have HLN : Hid (sl.length = 23) := by rw [hsa]; rfl
  have HR : Hid ((w.alloc (.cells #[.int .i64 0, .string ⟨#[]⟩, .int .i64 0, .int .i64 0, .int .i64 0] 71)).rangeAt 1 0 sl) := by
    intro j v hv
    have hj : j < 23 := by
      rcases Nat.lt_or_ge j 23 with h | h
      · exact h
      · rw [List.getElem?_eq_none (by rw [HLN.out]; exact h)] at hv; cases hv
    rw [HG.out j hj] at hv
    injection hv with hv
    subst hv
    rw [Nat.zero_add]
    exact h1 j hj
  clear hal h1 hsa h
  go_enter Tryd.func70, Tryd.ntmps70
  go_upto_region 1 with (fail)
  go_cut [6, 7] (fun u v wx => u = .agg sl.toArray ∧ v = .int .i64 0 ∧ wx = w.alloc (.cells #[.int .i64 0, .string ⟨#[]⟩, .int .i64 0, .int .i64 0, .int .i64 0] 71))
  case first =>
    refine wp_region_list ?_
    refine wpList_load_mid rfl 113 (.global 1) rfl 1 0 rfl sl _ HR.out Tryd.underlying113 rfl (by rw [HLN.out]; kernel_rfl) ?_
    go_wp2_with fail
    go_meet
    exact ⟨rfl, rfl, rfl⟩
  case rest =>
    obtain ⟨rfl, rfl, rfl⟩ := hcut
    have HG2 : Hid (∀ k, k < 23 → sl.toArray[k]? = some (.string ⟨(signL.getD k []).toArray⟩)) := fun k hk => by rw [List.getElem?_toArray]; exact HG.out k hk
    generalize sl.toArray = sa at *
    clear HG HLN HR
    go_wp2_with fail
    go_loopw [5, 7] (fun _ i wr => ∃ k : Nat, k ≤ 23 ∧ i = .int .i64 k ∧ wr = w.alloc (.cells #[.int .i64 0, .string ⟨#[]⟩, .int .i64 0, .int .i64 0, .int .i64 0] 71) ∧ Hid (∀ j, j < k → (signL.getD j []).isPrefixOf s = false)) (fun _ i _ => 23 - (intOf i).toNat)
    case atStart => exact ⟨0, Nat.zero_le _, rfl, rfl, fun j hj => absurd hj (by omega)⟩
    case round =>
      obtain ⟨k, hk, rfl, rfl, HA⟩ := hrel
      by_cases hlt : k < 23
      · have t1 : decide ((k : Int) < 23) = true := decide_eq_true (by omega)
        have t2 : decide (k < 23) = true := decide_eq_true hlt
        have hg := HG2.out k hlt
        have hc := HP.out (signL.getD k [])
        have HY := Lib.hid (sgn_yes s k hlt)
        have HSA : Hid ((signL.getD k []).isPrefixOf s = (signL.getD k []).isPrefixOf s) := rfl
        obtain ⟨xk, hxk⟩ : ∃ xk, xk = signL.getD k [] := ⟨_, rfl⟩
        rw [← hxk] at hg hc HY HSA
        have HXK := Lib.hid hxk
        clear hxk
        obtain ⟨xb, hxb⟩ : ∃ xb : ByteArray, xb = ⟨xk.toArray⟩ := ⟨_, rfl⟩
        rw [← hxb] at hg hc
        have HXB := Lib.hid hxb
        clear hxb
        have hix := run_index_sa sa k (.string xb) hlt hg
        clear hg
        rcases hp : xk.isPrefixOf s with _ | _
        all_goals
          rw [hp] at hc HY
          have HC := Lib.hid hc
          have HPF := Lib.hid hp
          clear hc hp HSA
          go_wp2_with (refine (HC.out _).mono ?_; rintro e w' ⟨rfl, rfl⟩)
        · go_roundw
          case rel =>
            refine ⟨k + 1, by omega, by go_num, trivial, fun j hj => ?_⟩
            by_cases e : j = k
            · rw [e, ← HXK.out]; exact HPF.out
            · exact HA.out j (by omega)
          case measure => simp [intOf]; omega
        · obtain ⟨p0, p1, p2, p3, p4⟩ := tok_cells w (.int .i64 3) (.string xb) (.int .i64 0) (.int .i64 0) (.int .i64 0) 71
          refine bodyPost_ret (v := .tuple #[.agg #[.int .i64 3, .string xb, .int .i64 0, .int .i64 0, .int .i64 0], .int .i64 0]) (by simp [results, Tryd.results70, go_sem, p0, p1, p2, p3, p4]) rfl ?_
          rw [HY.out trivial HA.out, HXB.out]
          exact ⟨rfl, below_alloc _ _⟩
      · have t1 : decide ((k : Int) < 23) = false := decide_eq_false (by omega)
        have t2 : decide (k < 23) = false := decide_eq_false hlt
        have HN := Lib.hid (sgn_no s (fun j hj => HA.out j (by omega)))
        go_wp2_with fail
        obtain ⟨p0, p1, p2, p3, p4⟩ := tok_cells w (.int .i64 0) (.string ⟨#[]⟩) (.int .i64 0) (.int .i64 0) (.int .i64 0) 71
        refine bodyPost_ret (v := .tuple #[.agg #[.int .i64 0, .string ⟨#[]⟩, .int .i64 0, .int .i64 0, .int .i64 0], .int .i64 131]) (by simp [results, Tryd.results70, go_sem, p0, p1, p2, p3, p4]) rfl ?_
        rw [HN.out]
        exact ⟨rfl, below_alloc _ _⟩

theorem digits_get {s : List UInt8} (h : s.all digB = true) (k : Nat) (hk : k < s.length) : 48 ≤ (s.getD k 0).toNat ∧ (s.getD k 0).toNat ≤ 57 := by
  rw [List.all_eq_true] at h
  have := h s[k] (List.getElem_mem hk)
  rw [List.getD_eq_getElem?_getD, List.getElem?_eq_getElem hk]
  unfold digB at this
  simp only [Bool.and_eq_true, decide_eq_true_eq, UInt8.le_iff_toNat_le] at this
  exact this
theorem numL_snoc (s : List UInt8) (k : Nat) (hk : k < s.length) : numL (s.take (k + 1)) = 10 * numL (s.take k) + (((s.getD k 0).toNat : Int) - 48) := by
  rw [List.take_succ_eq_append_getElem hk, List.getD_eq_getElem?_getD, List.getElem?_eq_getElem hk]
  unfold numL
  rw [List.foldl_append]
  rfl
theorem numL_bd {s : List UInt8} (h : s.all digB = true) : ∀ k, k ≤ s.length → k ≤ 7 → 0 ≤ numL (s.take k) ∧ numL (s.take k) < 10 ^ k
  | 0, _, _ => by simp [numL]
  | k + 1, hk, h7 => by
    have ih := numL_bd h k (by omega) (by omega)
    have hd := digits_get h k (by omega)
    rw [numL_snoc s k (by omega)]
    have : (10 : Int) ^ (k + 1) = 10 ^ k * 10 := by rw [Int.pow_succ]
    omega
theorem pow7 : ∀ k, k ≤ 7 → (10 : Int) ^ k ≤ 10000000 := by decide
set_option maxHeartbeats 1600000 in
set_option maxRecDepth 100000 in
theorem number_any (s : List UInt8) (w : World) (hd : s.all digB = true) (hs : s.length ≤ 9223372036854775807) :
    Calls Tryd.prog 69 #[.string ⟨s.toArray⟩] w fun e w' => e = wrdR (digW s) ∧ Below w.heap.size w w' := by
  obtain ⟨sb, hsb⟩ : ∃ sb : ByteArray, sb = ⟨s.toArray⟩ := ⟨_, rfl⟩
  have hn : sb.size = s.length := by rw [hsb, size_mk]
  have HAT : Hid (∀ (k : Nat) (h : k < sb.size), sb[k]'h = s.getD k 0) := fun k h => by subst hsb; exact get_mk s k h
  have HSB := Lib.hid hsb
  have HD := Lib.hid hd
  have HE : Hid (digW s = if 7 < s.length then ⟨132, 0, [], 0⟩ else if 1000000 < numL s then ⟨132, 0, [], 0⟩ else ⟨0, 2, s, numL s⟩) := rfl
  rw [← hsb]
  clear hsb hd
  by_cases hl : 7 < s.length
  · have t1 : decide ((7 : Int) < (s.length : Int)) = true := decide_eq_true (by omega)
    rw [if_pos hl] at HE
    clear hl
    go_enter Tryd.func69, Tryd.ntmps69
    go_wp2_with fail
    obtain ⟨p0, p1, p2, p3, p4⟩ := tok_cells w (.int .i64 0) (.string ⟨#[]⟩) (.int .i64 0) (.int .i64 0) (.int .i64 0) 71
    refine bodyPost_ret (v := .tuple #[.agg #[.int .i64 0, .string ⟨#[]⟩, .int .i64 0, .int .i64 0, .int .i64 0], .int .i64 132]) (by simp [results, Tryd.results69, go_sem, p0, p1, p2, p3, p4]) rfl ?_
    rw [HE.out]
    exact ⟨rfl, below_alloc _ _⟩
  · have t1 : decide ((7 : Int) < (s.length : Int)) = false := decide_eq_false (by omega)
    rw [if_neg hl] at HE
    have hl7 : s.length ≤ 7 := by omega
    clear hl
    go_enter Tryd.func69, Tryd.ntmps69
    go_wp2_with fail
    go_loopw [4, 5, 12] (fun n _ i wr => ∃ k : Nat, k ≤ s.length ∧ i = .int .i64 k ∧ n = .int .i64 (numL (s.take k)) ∧ wr = w.alloc (.cells #[.int .i64 0, .string ⟨#[]⟩, .int .i64 0, .int .i64 0, .int .i64 0] 71)) (fun _ _ i _ => s.length - (intOf i).toNat)
    case atStart => exact ⟨0, Nat.zero_le _, rfl, rfl, rfl⟩
    case round =>
      obtain ⟨k, hk, rfl, rfl, rfl⟩ := hrel
      by_cases hlt : k < s.length
      · have t2 : decide ((k : Int) < (s.length : Int)) = true := decide_eq_true (by omega)
        have t3 : decide (k < s.length) = true := decide_eq_true hlt
        have hk2 : k < sb.size := by omega
        have hg := HAT.out k hk2
        have hdg := digits_get HD.out k hlt
        have hbd := numL_bd HD.out k hk (by omega)
        have hpw := pow7 k (by omega)
        have HNX := Lib.hid (numL_snoc s k hlt)
        obtain ⟨nk, hnk⟩ : ∃ nk, nk = numL (s.take k) := ⟨_, rfl⟩
        rw [← hnk] at hbd HNX ⊢
        obtain ⟨c, hc0⟩ : ∃ c, c = s.getD k 0 := ⟨_, rfl⟩
        rw [← hc0] at hg hdg HNX
        have hb1 : 0 ≤ nk := hbd.1
        have hb2 : nk < 10000000 := by omega
        obtain ⟨hd1, hd2⟩ := hdg
        clear hnk hc0 hbd hpw
        go_wp2_with fail
        go_roundw
        case rel => exact ⟨k + 1, by omega, by go_num, by rw [HNX.out], trivial⟩
        case measure => simp [intOf]; omega
      · have t2 : decide ((k : Int) < (s.length : Int)) = false := decide_eq_false (by omega)
        have t3 : decide (k < s.length) = false := decide_eq_false hlt
        have hke : s.take k = s := List.take_of_length_le (by omega)
        rw [hke]
        have HNZ : Hid (numL s = numL s) := rfl
        obtain ⟨nz, hnz⟩ : ∃ nz, nz = numL s := ⟨_, rfl⟩
        rw [← hnz] at HE ⊢
        clear hnz hke HNZ
        by_cases hm : 1000000 < nz
        · have t4 : decide (1000000 < nz) = true := decide_eq_true hm
          rw [if_pos hm] at HE
          go_wp2_with fail
          obtain ⟨p0, p1, p2, p3, p4⟩ := tok_cells w (.int .i64 0) (.string ⟨#[]⟩) (.int .i64 0) (.int .i64 0) (.int .i64 0) 71
          refine bodyPost_ret (v := .tuple #[.agg #[.int .i64 0, .string ⟨#[]⟩, .int .i64 0, .int .i64 0, .int .i64 0], .int .i64 132]) (by simp [results, Tryd.results69, go_sem, p0, p1, p2, p3, p4]) rfl ?_
          rw [HE.out]
          exact ⟨rfl, below_alloc _ _⟩
        · have t4 : decide (1000000 < nz) = false := decide_eq_false hm
          rw [if_neg hm] at HE
          go_wp2_with fail
          obtain ⟨p0, p1, p2, p3, p4⟩ := tok_cells w (.int .i64 2) (.string sb) (.int .i64 nz) (.int .i64 0) (.int .i64 0) 71
          refine bodyPost_ret (v := .tuple #[.agg #[.int .i64 2, .string sb, .int .i64 nz, .int .i64 0, .int .i64 0], .int .i64 0]) (by simp [results, Tryd.results69, go_sem, p0, p1, p2, p3, p4]) rfl ?_
          rw [HE.out, HSB.out]
          exact ⟨rfl, below_alloc _ _⟩
end Go.Proofs.YtmkhfcdjgdofnaaDoor
