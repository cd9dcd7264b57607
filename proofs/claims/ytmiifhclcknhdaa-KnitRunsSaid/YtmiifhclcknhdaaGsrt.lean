/- slices.Sort at ints of the call's own; slices.BinarySearch at edges; slices.Clone at edges; a circuit's Inputs. -/
import Derived.Test.YtmiifhclcknhdaaGrtE
import Derived.Test.YtmiifhclcknhdaaGatN
import Derived.Test.YtmiifhclcknhdaaShelf
import Derived.Sort.OwnSortedInts
import Derived.Laws.AppendOwnNone
import Derived.Deep.DeepCutAuto
namespace Go.Proofs.Ytmiifhclcknhdaa
open Go.RowKit GatM

theorem gsort_any {w : World} {g c : Nat} {C : List Nat} (h : RowV 3 1 w g C.length c (numF .i64 C)) (hn : C.length ≤ 90000) :
    Calls Try.prog 49 #[.slice (some ⟨g, 0, none⟩) C.length c] w fun e w' => e = .returned (.tuple #[]) ∧ ∃ D : List Nat, D.Perm C ∧ D.Pairwise (· ≤ ·) ∧ RowV 3 1 w' g C.length c (numF .i64 D) ∧ Kf (fun k => k = g) w w' := by
  obtain ⟨zs, hzs⟩ : ∃ zs : List Int, zs = C.map fun x : Nat => (x : Int) := ⟨_, rfl⟩
  have hzl : zs.length = C.length := by rw [hzs, List.length_map]
  have hH : Go.Sort.Holds (Value.int .i64) w g 0 zs.toArray := fun j hj => by
    have hj' : j < C.length := by rw [← hzl]; simpa using hj
    rw [Nat.zero_add, h.cell (by omega)]
    refine ⟨?_, h.free j⟩
    unfold numF
    rw [nget_lt hj']
    congr 2
    simp [hzs, hj']
  have hs := Any.slices_Sort_int Try.lays189 g 0 c zs w hH h.lt (by rw [hzl]; omega)
  rw [hzl] at hs
  refine hs.mono ?_
  rintro e w' ⟨rfl, n, os, rfl⟩
  obtain ⟨ts, hts⟩ : ∃ ts, ts = zs.mergeSort (fun x y => decide (x ≤ y)) := ⟨_, rfl⟩
  have hperm : ts.Perm zs := by rw [hts]; exact List.mergeSort_perm _ _
  have hsort : ts.Pairwise (· ≤ ·) := by
    have := List.pairwise_mergeSort (le := fun x y : Int => decide (x ≤ y)) (by intro a b c; simp only [decide_eq_true_eq]; omega) (by intro a b; simp only [Bool.or_eq_true, decide_eq_true_eq]; omega) zs
    rw [hts]
    exact this.imp (by simp)
  rw [← hts]
  have hpos : ∀ x ∈ ts, 0 ≤ x := fun x hx => by
    have := hperm.mem_iff.1 hx
    rw [hzs] at this
    obtain ⟨y, _, rfl⟩ := List.mem_map.1 this
    omega
  have hmap : (ts.map Int.toNat).map (fun x : Nat => (x : Int)) = ts := by
    rw [List.map_map]
    conv => rhs; rw [← List.map_id ts]
    apply List.map_congr_left
    intro x hx
    have := hpos x hx
    simp only [Function.comp, id]
    omega
  have hlt : ts.length = C.length := by rw [hperm.length_eq, hzl]
  refine ⟨rfl, ts.map Int.toNat, ?_, ?_, ?_, ?_⟩
  · have := hperm.map Int.toNat
    rw [hzs, List.map_map] at this
    rw [show (Int.toNat ∘ fun x : Nat => (x : Int)) = id from by funext x; simp] at this
    rw [List.map_id] at this
    exact this
  · rw [List.pairwise_map]
    exact hsort.imp fun h => by omega
  · obtain ⟨cur, h1, h2, h3, h4, h5⟩ := h
    have hb := heap_sortedI (n := n) (os := os) ts.toArray h1
    refine ⟨_, hb, h2, h3, by simp [Go.Sort.putCells, h4], fun j hj => ?_⟩
    have ht := take_putCellsI cur ts (by rw [hlt, h4]; omega)
    have hj2 : j < ts.length := by omega
    have e := congrArg (fun l => l[j]?) ht
    simp only [List.getElem?_take_of_lt hj2, Array.getElem?_toList, List.getElem?_map, List.getElem?_eq_getElem hj2] at e
    rw [e]
    unfold numF
    have hj3 : j < (ts.map Int.toNat).length := by rw [List.length_map]; exact hj2
    rw [nget_lt hj3, List.getElem_map]
    have := hpos _ (List.getElem_mem hj2)
    show some (Value.int .i64 ts[j]) = _
    congr 2
    omega
  · exact (Kf.refl (fun k => k = g) w).grown (grownBy_sortedI ts.toArray) (fun g' hg' => by injection hg' with hg'; exact .inl hg'.symm)
theorem gsort_nil (p : Option Addr) (c : Nat) (w : World) : Calls Try.prog 49 #[.slice p 0 c] w fun e w' => e = .returned (.tuple #[]) ∧ w = w' :=
  (Any.slices_Sort_int_none Try.lays189 p c w).mono fun _ _ ⟨a, b⟩ => ⟨a, b.symm⟩
theorem eNaN_any (x : Int) (w : World) : Calls Try.prog 70 #[.int .u32 x] w fun e w' => e = .returned (.bool false) ∧ w' = w := by
  have hx : (x != x) = false := by simp
  go_enter Try.func70, Try.ntmps70
  go_wp2
  go_ret
  exact ⟨rfl, rfl⟩
theorem eless_any (x y : Int) (w : World) : Calls Try.prog 57 #[.int .u32 x, .int .u32 y] w fun e w' => e = .returned (.bool (decide (x < y))) ∧ w' = w := by
  go_enter Try.func57, Try.ntmps57
  go_wp2_with (first | (go_at_call 70; refine (eNaN_any _ _).mono ?_; rintro e w' ⟨rfl, rfl⟩))
  go_ret
  exact ⟨rfl, rfl⟩
theorem esnan_any (x : Int) (w : World) : Calls Try.prog 58 #[.int .u32 x] w fun e w' => e = .returned (.bool false) ∧ w' = w := by
  have hx : (x != x) = false := by simp
  go_enter Try.func58, Try.ntmps58
  go_wp2
  go_ret
  exact ⟨rfl, rfl⟩
/-- Where it is found. -/
def BsTo (l : List Nat) (t : Nat) (w : World) (e : Ending) (w' : World) : Prop := ∃ k : Nat, e = .returned (.tuple #[.int .i64 (k : Int), .bool (decide (t ∈ l))]) ∧ (t ∈ l → k < l.length ∧ l.getD k 0 = t) ∧ w = w'
theorem ebs_nil (A : Option Addr) (c t : Nat) (w : World) : Calls Try.prog 54 #[.slice A 0 c, .int .u32 (t : Int)] w (BsTo [] t w) := by
  have HB : Hid (BsTo [] t w (.returned (.tuple #[.int .i64 0, .bool false])) w) := ⟨0, rfl, fun h => by simp at h, rfl⟩
  go_enter Try.func54, Try.ntmps54
  go_wp2
  go_loopw [7, 8] (fun v u W => v = .int .i64 0 ∧ u = .int .i64 0 ∧ w = W) (fun _ _ _ => 0)
  case atStart => exact ⟨rfl, rfl, rfl⟩
  case round =>
    obtain ⟨rfl, rfl, rfl⟩ := hrel
    go_wp2
    go_ret2
    exact HB.out
set_option maxHeartbeats 1600000 in
set_option maxRecDepth 100000 in
/-- slices.BinarySearch in a row that rises. -/
theorem ebs_any (A : Option Addr) (N cap : Nat) (l : List Nat) (t : Nat) (w : World) (h : RdN .u32 w w.heap.size A N l) (hs : l.Pairwise (· < ·)) (hz : N ≤ 1000000) :
    Calls Try.prog 54 #[.slice A N cap, .int .u32 (t : Int)] w (BsTo l t w) := by
  have hlen := h.len
  rcases Nat.eq_zero_or_pos N with h0 | h0
  · subst h0
    obtain rfl : l = [] := List.length_eq_zero_iff.1 hlen
    exact ebs_nil A cap t w
  obtain ⟨b, o, rfl, hb, hcell⟩ := h.at_ h0
  obtain ⟨G, hG⟩ : ∃ G : Nat → Nat, ∀ k, G k = l.getD k 0 := ⟨fun k => l.getD k 0, fun _ => rfl⟩
  have hcw : ∀ k, k < N → w.cell? ⟨b, o + k, none⟩ = some (.int .u32 ((G k : Nat) : Int)) := fun k hk => by rw [hG]; exact hcell k hk
  have HM : Hid (∀ i k : Nat, i < k → k < N → G i < G k) := fun i k h1 h2 => by
    rw [hG, hG, nget_lt (show i < l.length by omega), nget_lt (show k < l.length by omega)]
    exact List.pairwise_iff_getElem.1 hs i k (by omega) (by omega) h1
  have HF : Hid (∀ i : Nat, (∀ k, k < i → G k < t) → (∀ k, i ≤ k → k < N → t ≤ G k) → ∀ r : Bool, (r = true ↔ (i < N ∧ G i = t)) → BsTo l t w (.returned (.tuple #[.int .i64 (i : Int), .bool r])) w) := fun i h1 h2 r hr => by
    have hmem : t ∈ l ↔ (i < N ∧ G i = t) := by
      rw [nmem]
      constructor
      · rintro ⟨j, hj, e⟩
        rw [← hG] at e
        have hij : i ≤ j := by
          rcases Nat.lt_or_ge j i with h' | h'
          · have := h1 j h'; omega
          · exact h'
        have hjN : j < N := by omega
        refine ⟨by omega, ?_⟩
        rcases Nat.eq_or_lt_of_le hij with q | q
        · rw [q]; exact e
        · have := HM.out i j q hjN
          have := h2 i (Nat.le_refl _) (by omega)
          omega
      · rintro ⟨a, e⟩
        exact ⟨i, by omega, by rw [← hG]; exact e⟩
    refine ⟨i, ?_, fun hm => ?_, rfl⟩
    · have : r = decide (t ∈ l) := by rw [Bool.eq_iff_iff, hr, decide_eq_true_iff, hmem]
      rw [this]
    · obtain ⟨a, e⟩ := hmem.1 hm
      exact ⟨by omega, by rw [← hG]; exact e⟩
  clear h hs hlen hcell hG
  go_enter Try.func54, Try.ntmps54
  go_wp2
  go_loopw [7, 8] (fun v u W => ∃ i j : Nat, v = .int .i64 i ∧ u = .int .i64 j ∧ i ≤ j ∧ j ≤ N ∧ Hid (∀ k, k < i → G k < t) ∧ Hid (∀ k, j ≤ k → k < N → t ≤ G k) ∧ w = W) (fun v u _ => (intOf u).toNat - (intOf v).toNat)
  case atStart => exact ⟨0, N, rfl, rfl, Nat.zero_le _, Nat.le_refl _, Lib.hid fun k hk => absurd hk (by omega), Lib.hid fun k h1 h2 => absurd h1 (by omega), rfl⟩
  case round =>
    obtain ⟨i, j, rfl, rfl, hij, hj, HLO, HHI, rfl⟩ := hrel
    by_cases hlt : i < j
    · have ti : decide (i < j) = true := decide_eq_true hlt
      have ti' : decide ((i : Int) < (j : Int)) = true := decide_eq_true (by omega)
      obtain ⟨h, hh⟩ : ∃ h : Nat, h = (i + j) / 2 := ⟨_, rfl⟩
      have s1 : IntKind.u64.wrap ((i : Int) + (j : Int)) = (i : Int) + (j : Int) := by rw [IntKind.wrap_u64]; omega
      have hhj : h < j := by omega
      have hih : i ≤ h := by omega
      have hhN : h < N := by omega
      go_upto_region 4 with (fail)
      go_cut [9] (fun t W => t = .int .i64 h ∧ w = W)
      case first =>
        go_wp2
        go_meet
        exact ⟨by congr 1; omega, rfl⟩
      case rest =>
      obtain ⟨rfl, rfl⟩ := hcut
      clear hh s1
      have hch := hcw h hhN
      go_wp2_with fail
      refine (eless_any _ _ _).mono ?_
      rintro e w' ⟨rfl, rfl⟩
      by_cases hl : G h < t
      · have tl : decide (((G h : Nat) : Int) < (t : Int)) = true := decide_eq_true (by omega)
        have tl2 : decide (G h < t) = true := decide_eq_true hl
        have HL := Lib.hid hl
        clear hl
        go_wp2
        go_roundw
        case rel => exact ⟨h + 1, j, by go_num, rfl, by omega, hj, Lib.hid fun k h1 => by
            rcases Nat.lt_or_ge k h with e | e
            · have := HM.out k h e hhN; have := HL.out; omega
            · have e : k = h := by omega
              rw [e]; exact HL.out, HHI, trivial⟩
        case measure => simp [intOf]; omega
      · have tl : decide (((G h : Nat) : Int) < (t : Int)) = false := decide_eq_false (by omega)
        have tl2 : decide (G h < t) = false := decide_eq_false hl
        have HL := Lib.hid hl
        clear hl
        go_wp2
        go_roundw
        case rel => exact ⟨i, h, rfl, rfl, hih, by omega, HLO, Lib.hid fun k h1 h2 => by
            rcases Nat.eq_or_lt_of_le h1 with e | e
            · rw [← e]; have := HL.out; omega
            · have := HM.out h k e h2; have := HL.out; omega, trivial⟩
        case measure => simp [intOf]; omega
    · have hji : j = i := by omega
      subst hji
      have ti : decide (j < j) = false := decide_eq_false hlt
      have HR := Lib.hid (HF.out j HLO.out HHI.out)
      by_cases hjN : j < N
      · have tj : decide (j < N) = true := decide_eq_true hjN
        have tj' : decide ((j : Int) < (N : Int)) = true := decide_eq_true (by omega)
        have hcj := hcw j hjN
        by_cases hv : G j = t
        · have t1 : (((G j : Nat) : Int) == (t : Int)) = true := by rw [beq_iff_eq]; omega
          have t2 : (G j == t) = true := by rw [beq_iff_eq]; exact hv
          have HRR := Lib.hid (HR.out true (by simp [hjN, hv]))
          clear hv
          go_wp2_with (first | (go_at_call 58; refine (esnan_any _ _).mono ?_; rintro e w' ⟨rfl, rfl⟩))
          go_ret2
          exact HRR.out
        · have t1 : (((G j : Nat) : Int) == (t : Int)) = false := by rw [beq_eq_false_iff_ne]; omega
          have t2 : (G j == t) = false := by rw [beq_eq_false_iff_ne]; exact hv
          have HRR := Lib.hid (HR.out false (by simp [hv]))
          clear hv
          go_wp2_with (first | (go_at_call 58; refine (esnan_any _ _).mono ?_; rintro e w' ⟨rfl, rfl⟩))
          go_ret2
          exact HRR.out
      · have tj : decide (j < N) = false := decide_eq_false hjN
        have tj' : decide ((j : Int) < (N : Int)) = false := decide_eq_false (by omega)
        have HRR := Lib.hid (HR.out false (by simp [hjN]))
        go_wp2_with (first | (go_at_call 58; refine (esnan_any _ _).mono ?_; rintro e w' ⟨rfl, rfl⟩))
        go_ret2
        exact HRR.out
/-- append(x, y...) of a slice that may be nil to a row of the call's own. -/
theorem wpList_append_src {P : Program} {ops : Array Oper} {rest : List Oper} {o : Oper} {a : Act} {Q : Exit → Act → World → Prop} (w : World) (hgd : o.guard = none) (s x : Operand) (t e : TypeId)
    (ho : o.op = .call { callee := .builtin .append, args := #[s, x], argTypes := #[t, t] }) (ht : P.underlying t = some (.slice e)) {z : Value} {size bytes : Nat}
    (hinfo : (P.info? e).map (fun i => (i.zero, i.size, i.bytes)) = some (some z, size, bytes)) (hzs : z.cells.size = size) (hsz : 0 < size) (hby : bytes ≤ 1000)
    (g n c : Nat) (f : Nat → Value) (hs : a.eval s = .slice (some ⟨g, 0, none⟩) n c) (hrow : RowV e size w g n c f) (hn : n ≤ 100000)
    (A : Option Addr) (m c' : Nat) (f2 : Nat → Value) (hx : a.eval x = .slice A m c') (hsrc : SlV e size w A m c' f2) (h1 : ∀ j, j < m * size → (f2 j).oneCell' = true) (hm : m ≤ 100000)
    (h : ∀ g' c' w', RowV e size w' g' (n + m) c' (appV f (n * size) (cellsV f2 (m * size))) → (g' = g ∨ w.heap.size ≤ g') → Kf (fun k => k = g) w w' → wpList P ops Q rest (a.put o.dst (.slice (some ⟨g', 0, none⟩) (n + m) c')) w') : wpList P ops Q (o :: rest) a w :=
  wpList_plain hgd fun K hK => by
    have := step_append_src (K := K) (Q := Q) (E := True) (ops := #[]) w hgd s x t e ho ht hinfo hzs hsz hby g n c f hs hrow hn A m c' f2 hx hsrc h1 hm (fun g' c' w' h2 h3 h4 => hK _ _ (h g' c' w' h2 h3 h4))
    rw [if_pos (by simp [Region.wanted, hgd])] at this
    exact this
/-- What Clone answers. -/
def CloneE (l : List Nat) (w : World) (e : Ending) (w' : World) : Prop :=
  ∃ A c, e = .returned (.slice A l.length c) ∧ SlN .u32 25 w' A c l ∧ (∀ k, onB A k → w.heap.size ≤ k) ∧ Below w.heap.size w w'
end Go.Proofs.Ytmiifhclcknhdaa
