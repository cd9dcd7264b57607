/- slices.Clone, slices.SortFunc by byPlace, slices.Compact, lit.bothSigns at literals; the contract of lit.Clean. -/
import Derived.Test.YtjhopjokllkipaaLitL
import Derived.Test.YtjhopjokllkipaaOwnM
import Derived.Test.YtjhopjokllkipaaCleanM
import Derived.Shelf.SlicesE.Compact
import Derived.Shelf.SlicesE.Clone
import Derived.Shelf.SlSortCmp.NoneTotal
import Derived.Shelf.SlicesE.Index
import Derived.Lib.OwnBridge
namespace Go.Proofs.Ytjhopjokllkipaa
open Go.Shelf Go.RowKit Go.Lib Go.Sort LitM

theorem Rd.news {k : IntKind} {w : World} {B n : Nat} {ad : Addr} {xs : List Int} (h : Rd k w B (some ad) n xs) : ∀ j u, (xs.map (Value.int k))[j]? = some u → w.cell? (ad.add j) = some u := by
  intro j u hu
  have hl := h.len
  have hj : j < n := by
    rcases Nat.lt_or_ge j n with h' | h'
    · exact h'
    · rw [List.getElem?_eq_none (by simp; omega)] at hu; cases hu
  obtain ⟨b, o, e, _, hc⟩ := h.get hj
  injection e with e
  subst e
  have ea : ((⟨b, o, none⟩ : Addr).add j) = ⟨b, o + j, none⟩ := by unfold Addr.add; split <;> simp_all
  rw [ea, hc, ← hu, List.getElem?_map, List.getElem?_eq_getElem (by omega), getD_lt (by omega)]
  rfl

set_option maxHeartbeats 800000 in
theorem clone_some (ad : Addr) (n c : Nat) (xs : List Int) (w : World) (h : Rd .i32 w w.heap.size (some ad) n xs) (hn : n * 4 ≤ 140737488355328) :
    Calls Try.prog 50 #[.slice (some ad) n c] w fun e w' =>
      ∃ v', e = .returned v' ∧ w'.ownsRow w.heap.size 27 1 v' n (xs.map (Value.int .i32)) ∧ v' ≠ .slice none 0 0 ∧ Below w.heap.size w w' := by
  obtain ⟨i0, hi, hz0, hz1, hz2⟩ := info_parts info_lit
  have hl : (xs.map (Value.int .i32)).length = n * 1 := by simp [h.len]
  have hN := Lib.hid (h.alloc (Nat.le_refl _) (.cells #[] 27)).news
  have h1 : ∀ u ∈ xs.map (Value.int .i32), u.oneCell' = true := by
    intro u hu
    obtain ⟨x, _, rfl⟩ := List.mem_map.1 hu
    rfl
  have H1 := Lib.hid h1
  clear h h1
  have q22 : ∀ (w : World) (a : Option Addr) (n c n' c' : Nat), (binOp .eql 44 (.slice a n c) (.slice none n' c')).run Try.prog w = .ok (.bool a.isNone) w := fun w a n c n' c' => Lib.run_eql_slice_nil w _ _ a n c n' c' Try.underlying44
  have HL := Lib.hid hl
  clear hl
  go_enter Try.func50, Try.ntmps50
  go_wp2_with (at_builtin; refine wpList_append_own _ rfl _ _ 44 rfl w.heap.size 27 i0 (.int .i32 0) 1 4 Try.underlying44 hi hz0 hz1 hz2 rfl (by decide) _ _ _ rfl (World.ownsRow_made w #[] 0 (Nat.le_refl _) (Nat.zero_le _) (by simp)) ad n c (xs.map (Value.int .i32)) rfl ?qc1 ?qc2 ?qc3 ?qc4 ?qc5 ?qc6 ?_)
  case qc1 => exact HL.out
  case qc2 => exact hN.out
  case qc3 => exact H1.out
  case qc4 => simp only [maxLen]; omega
  case qc5 => omega
  case qc6 => simp
  intro v' w1 hown hgrow hnil
  go_wp2
  go_ret
  refine ⟨v', rfl, by simpa using hown, ?_, ?_⟩
  · simpa using hnil
  · exact ((Below.refl _ w).alloc (Nat.le_refl _) _).grown hgrow (by simp) (by intro k hk; simp [Value.ownBlock] at hk; omega)

/-- Literals. -/
structure L1 where
  val : Int
  is : LitM.one val = true
instance : Inhabited L1 := ⟨⟨1, by decide⟩⟩
def encL (x : L1) : Value := .int .i32 x.val
def cfL (x y : L1) : Int := cfP x.val y.val
theorem ltL (x y : L1) : ltOf cfL x y = decide (placeZ x.val < placeZ y.val) := by
  unfold ltOf cfL cfP Lib.compareInt
  by_cases h1 : placeZ x.val < placeZ y.val
  · simp [h1]
  · by_cases h2 : placeZ y.val < placeZ x.val <;> simp [h1, h2]
theorem swoL : SWO (ltOf cfL) where
  irrefl x := by rw [ltL]; simp
  trans x y z h1 h2 := by rw [ltL] at *; simp at *; omega
  ntrans x y z h1 h2 := by rw [ltL] at *; simp at *; omega
theorem totL (x y : L1) (h1 : ltOf cfL x y = false) (h2 : ltOf cfL y x = false) : x = y := by
  rw [ltL] at *
  simp at *
  have h := place_inj x.is y.is (by omega)
  cases x; cases y
  simp only [L1.mk.injEq]
  exact h
theorem L1.bd (x : L1) : -2147483648 ≤ x.val ∧ x.val ≤ 2147483647 := by
  have := (one_iff x.val).1 x.is
  omega

theorem to_L1 : ∀ (xs : List Int), allOne xs = true → ∃ ls : List L1, ls.map L1.val = xs
  | [], _ => ⟨[], rfl⟩
  | x :: xs, h => by
    unfold allOne at h
    rw [List.all_cons, Bool.and_eq_true] at h
    obtain ⟨ls, e⟩ := to_L1 xs h.2
    exact ⟨⟨x, h.1⟩ :: ls, by simp [e]⟩

theorem below_grow {B : Nat} {w0 w : World} (h : Below B w0 w) (hB : B ≤ w.heap.size) (os : Array Obj) : Below B w0 (grow w os) :=
  ⟨h.os, h.tape, h.output, by rw [size_grow]; have := h.size; omega, fun k hk => by
    rw [← h.block k hk]
    unfold grow
    rw [Array.getElem?_append, if_pos (by omega)]⟩

theorem eg_byPlace : ∀ args w, (callFunc 58 args).run Try.prog w = .ok (.enter 58 args) w := enters_of Try.func58 (by kernel_rfl) rfl
theorem cmpReadsL (blk off size : Nat) (w : World) : CmpReads Try.prog 58 #[] encL cfL blk off size w := fun _ _ _ _ x y =>
  (byPlace_any x.val y.val _ x.bd.1 x.bd.2 y.bd.1 y.bd.2).mono fun _ _ ⟨he, hw⟩ => ⟨he, 0, hw.symm⟩

/-- slices.SortFunc by byPlace on a row of the call's own. -/
theorem sort_own (g n cap base : Nat) (xs : List Int) (w : World) (ha : allOne xs = true) (hn : n < 4611686018427387904)
    (hown : w.ownsRow base 27 1 (.slice (some ⟨g, 0, none⟩) n cap) n (xs.map (Value.int .i32))) :
    Calls Try.prog 57 #[.slice (some ⟨g, 0, none⟩) n cap, .func (.func 58) #[] #[]] w fun e w' =>
      e = .returned (.tuple #[]) ∧ ∃ zs : List Int, zs.length = n ∧ zs.Pairwise (fun a b => placeZ a ≤ placeZ b) ∧ (∀ x, x ∈ zs ↔ x ∈ xs) ∧
        Holds (Value.int .i32) w' g 0 zs.toArray ∧ Below base w w' ∧ g < w'.heap.size := by
  obtain ⟨ls, rfl⟩ := to_L1 xs ha
  have hown' : w.ownsRow base 27 1 (.slice (some ⟨g, 0, none⟩) n cap) n (ls.map encL) := by
    rw [List.map_map] at hown; exact hown
  obtain ⟨g', cap', e, hbg, hlt, hncap, hcap, hlen, hH⟩ := holds_of_ownsRow hown' (by intro h; cases h)
  injection e with e1 e2 e3
  injection e1 with e1
  injection e1 with e1
  subst e1
  have hS := Any.slices_SortFunc_total Try.sortL encL (fun _ => rfl) cfL swoL 58 #[] g 0 cap ls.toArray w eg_byPlace (cmpReadsL g 0 ls.toArray.size w).lays hH hlt (by simp; omega) totL
  have hsz : ls.toArray.size = n := by simp [hlen]
  rw [hsz] at hS
  refine Calls.mono hS fun e w' ⟨he, q, os, hw⟩ => ⟨he, ?_⟩
  refine ⟨((ls.mergeSort fun x y => !(ltOf cfL) y x).map L1.val), by simp [hlen], ?_, ?_, ?_, ?_, ?_⟩
  · rw [List.pairwise_map]
    have := List.pairwise_mergeSort (le := fun x y => !(ltOf cfL) y x) (fun a b c h1 h2 => by rw [ltL] at *; simp at *; omega) (fun a b => by rw [ltL, ltL]; simp; omega) ls
    refine this.imp fun {a b} h => ?_
    rw [ltL] at h
    simpa using h
  · intro x
    rw [List.mem_map, List.mem_map]
    simp only [List.mem_mergeSort]
  · have hh := holds_sortWorld encL w g 0 q ls.toArray (ls.mergeSort fun x y => !(ltOf cfL) y x).toArray os hlt hH (by simp)
    rw [hw]
    intro j hj
    have hj' : j < (ls.mergeSort fun x y => !(ltOf cfL) y x).length := by simpa using hj
    obtain ⟨c1, c2⟩ := hh j (by simpa using hj')
    refine ⟨c1.trans ?_, c2⟩
    rw [getElem!_pos _ j (by simpa using hj'), getElem!_pos _ j (by simpa using hj')]
    simp [encL]
  · rw [hw]
    exact below_grow (below_putRow (Below.refl _ _) hbg) (by simp [putRow, mapBlock, Sort.ahead]; omega) os
  · rw [hw]; unfold sortWorld; rw [size_grow]; simp [putRow, mapBlock, Sort.ahead]; omega

theorem int_getD {zs : List Int} {j : Nat} (hj : j < zs.length) : zs.toArray[j]! = zs.getD j 0 := by
  rw [getD_lt hj]; simp [getElem!_pos, hj]

/-- slices.Compact on a row that lies whole. -/
theorem compact_own (g cap base : Nat) (zs : List Int) (w w0 : World) (hn : zs.length ≤ 9223372036854775807) (hcap : zs.length ≤ cap) (hH : Holds (Value.int .i32) w g 0 zs.toArray) (hb : Below base w0 w) (hg : base ≤ g) (hgl : g < w.heap.size) :
    Calls Try.prog 59 #[.slice (some ⟨g, 0, none⟩) zs.length cap] w fun e w' =>
      e = .returned (.slice (some ⟨g, 0, none⟩) (compact zs).length cap) ∧ Rd .i32 w' w'.heap.size (some ⟨g, 0, none⟩) (compact zs).length (compact zs) ∧ Below base w0 w' := by
  have hS := AnyE.slices_Compact Try.compactL (Value.int .i32) (fun _ => rfl) (EqlAt.intD _ _ .i32) (NeqAt.intD _ _ .i32) 0 Try.zeroValue27 g 0 cap zs.toArray w hH (by simpa using hn) (by simpa using hcap)
  have hsz : zs.toArray.size = zs.length := by simp
  rw [hsz] at hS
  change Calls Try.prog 59 _ _ _ at hS
  have hcl : (compact zs).length ≤ zs.length := compact_length_le zs
  refine Calls.mono hS fun e w' ⟨he, q, hw⟩ => ?_
  have hB : Below base w0 w' := by rw [hw]; exact below_putRow hb hg
  refine ⟨he, ⟨rfl, fun _ => ⟨g, 0, rfl, ?_, fun j hj => ?_⟩⟩, hB⟩
  · rw [hw]; simpa [putRow, mapBlock, Sort.ahead] using hgl
  · have hA := holds_ahead (Value.int .i32) w q g 0 zs.toArray hH
    rw [hw]
    have := cell?_putRow (Value.int .i32) (Sort.ahead w q) g 0 zs.toArray (compactUpTo zs.toArray zs.length ++ List.replicate (zs.length - (compactUpTo zs.toArray zs.length).length) 0).toArray hA (by
      have : (compactUpTo zs.toArray zs.length).length ≤ zs.length := hcl
      simp; omega) j (by
      have : j < (compactUpTo zs.toArray zs.length).length := hj
      simp; omega)
    rw [this]
    have hj' : j < (compactUpTo zs.toArray zs.length).length := hj
    rw [getElem!_pos _ j (by simp; omega), getD_lt hj]
    simp [List.getElem_append_left hj', compact]


theorem var_q (l : Int) (w : World) (h0 : -2147483648 ≤ l) (h1 : l ≤ 2147483647) :
    Calls Try.prog 38 #[.int .i32 l] w fun e w' => e = .returned (.int .i64 (varZ l)) ∧ w' = w :=
  (var_any l w h0 h1).mono fun _ _ ⟨he, hw⟩ => ⟨he, hw.symm⟩

set_option maxHeartbeats 800000 in
theorem bothSigns_any (A : Option Addr) (n c : Nat) (xs : List Int) (w : World) (B : Nat) (h : Rd .i32 w B A n xs) (hr : In32 xs) (hn : n ≤ 4611686018427387904) :
    Calls Try.prog 60 #[.slice A n c] w fun e w' => e = .returned (.bool (nbB xs)) ∧ ∃ q, w' = w.drewN q := by
  have HL := Lib.hid h.len
  go_enter Try.func60, Try.ntmps60
  go_wp2
  go_loopw [3] (fun i wr => ∃ m q : Nat, (m + 1 ≤ n ∨ m = 0) ∧ i = .int .i64 (m + 1 : Nat) ∧ wr = w.drewN q ∧ ∀ j, j < m → varZ (xs.getD (j + 1) 0) ≠ varZ (xs.getD j 0)) (fun i _ => n - (intOf i).toNat)
  case atStart => exact ⟨0, 0, .inr rfl, rfl, rfl, fun j hj => absurd hj (by omega)⟩
  case round =>
    obtain ⟨m, q, hm, rfl, hw, hall⟩ := hrel
    have HA := Lib.hid hall; clear hall
    have hR : Rd .i32 wr B A n xs := by rw [hw]; exact ⟨h.len, h.at_⟩
    have HW := Lib.hid hw; clear hw
    by_cases hlt : m + 1 < n
    · obtain ⟨b, o, rfl, hb, hc1⟩ := hR.get hlt
      have hc0 : wr.cell? ⟨b, o + m, none⟩ = some (.int .i32 (xs.getD m 0)) := by
        obtain ⟨b', o', e, _, hc'⟩ := hR.get (show m < n by omega)
        injection e with e
        injection e with e1 e2
        subst e1; subst e2
        exact hc'
      have r1 := hr (m + 1)
      have r0 := hr m
      by_cases he : varZ (xs.getD (m + 1) 0) = varZ (xs.getD m 0)
      · have EV : Hid (nbB xs = true) := by
          unfold Hid nbB; rw [decide_eq_true_iff]; exact ⟨m, by rw [HL.out]; omega, he⟩
        have hb1 : (varZ (xs.getD (m + 1) 0) == varZ (xs.getD m 0)) = true := by rw [beq_iff_eq]; exact he
        clear he
        generalize xs.getD (m + 1) 0 = x1 at *
        generalize xs.getD m 0 = x0 at *
        go_wp2
        go_quiet ((go_at_call 38; exact Calls.quiet_of_same (var_q _ _ (by omega) (by omega))))
        go_wp2
        all_goals (go_ret; exact ⟨ret_bool (by rw [EV.out]), _, by rw [HW.out]; exact World.drewN_drewN _ _ _⟩)
      · have hb1 : (varZ (xs.getD (m + 1) 0) == varZ (xs.getD m 0)) = false := by rw [beq_eq_false_iff_ne]; exact he
        have HO := Lib.hid he; clear he
        generalize hx1 : xs.getD (m + 1) 0 = x1 at *
        have HX1 := Lib.hid hx1; clear hx1
        generalize hx0 : xs.getD m 0 = x0 at *
        have HX0 := Lib.hid hx0; clear hx0
        go_wp2
        go_quiet ((go_at_call 38; exact Calls.quiet_of_same (var_q _ _ (by omega) (by omega))))
        go_wp2
        all_goals
          go_roundw
          case rel =>
            refine ⟨m + 1, _, by omega, by go_num, by rw [HW.out]; exact World.drewN_drewN _ _ _, fun j hj => ?_⟩
            by_cases e : j = m
            · rw [e, HX1.out, HX0.out]; exact HO.out
            · exact HA.out j (by omega)
          case measure => simp [intOf]; omega
    · have EV : Hid (nbB xs = false) := by
        unfold Hid nbB
        rw [decide_eq_false_iff_not]
        rintro ⟨i, hi, he⟩
        rw [HL.out] at hi
        exact HA.out i (by omega) he
      go_wp2
      go_ret
      exact ⟨ret_bool (by rw [EV.out]), _, HW.out⟩
end Go.Proofs.Ytjhopjokllkipaa
