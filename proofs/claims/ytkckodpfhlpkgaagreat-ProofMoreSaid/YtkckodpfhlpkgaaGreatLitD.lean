/- The contract of lit.Right. The contract of the plain answer's Same. A slice of literals of the call's own, as a list. Contracts of byPlace, and of the plain answers' One, Var, before. Contracts of the plain answers' Right, Has. slices.Clone, slices.SortFunc by byPlace, slices.Compact, lit.bothSigns at literals; the contract of lit.Clean. Plain facts on the insertion of a literal into a cleaned clause, as the plain answer does it. The plain answer's Clean: a cleaned clause, and whether a variable is there by both signs. The contracts of lit.Clean and lit.Resolve. -/
import Derived.Test.YtkckodpfhlpkgaaGreatVar
import Derived.Test.YtkckodpfhlpkgaaGreatRd
import Derived.OwnWalk
import Derived.Test.YtkckodpfhlpkgaaGreatLitA
import Derived.Test.YtkckodpfhlpkgaaGreatRone
import Derived.Test.YtkckodpfhlpkgaaGreatShelf
import Derived.Shelf.SlicesG.Cmp
import Derived.Test.YtkckodpfhlpkgaaGreatCleanM
import Derived.Shelf.SlicesE.Compact
import Derived.Shelf.SlicesE.Clone
import Derived.Shelf.SlSortCmp.NoneTotal
import Derived.Shelf.SlicesE.Index
import Derived.Lib.OwnBridge
namespace Go.Proofs.YtkckodpfhlpkgaaGreat
open Go.RowKit LitM

set_option maxHeartbeats 400000 in
theorem right_any (A : Option Addr) (n c : Nat) (xs : List Int) (w : World) (h : Rd .i32 w w.heap.size A n xs) (hr : In32 xs) (hn : n ≤ 9223372036854775807) :
    Calls Tryz.prog 45 #[.slice A n c] w fun e w' => e = .returned (.bool (allOne xs)) ∧ w = w' := by
  have hl := h.len
  have HL := Lib.hid hl; clear hl
  go_enter Tryz.func45, Tryz.ntmps45
  go_wp2
  go_loop [7] (fun i => ∃ k : Nat, k ≤ n ∧ i = .int .i64 k ∧ ∀ j, j < k → LitM.one (xs.getD j 0) = true) (fun i => n - (intOf i).toNat)
  case atStart => exact ⟨0, Nat.zero_le _, rfl, fun j hj => absurd hj (by omega)⟩
  case round =>
    obtain ⟨k, hk, rfl, hall⟩ := hrel
    have HA := Lib.hid hall; clear hall
    by_cases hlt : k < n
    · obtain ⟨b, o, rfl, hb, hc⟩ := h.get hlt
      have hx := hr k
      rcases hone : LitM.one (xs.getD k 0) with _ | _
      · have EV := Lib.hid (allOne_no (xs := xs) (j := k) (by rw [HL.out]; exact hlt) hone)
        have hv : (varZ (xs.getD k 0) == 0) = true := by rw [varZ_out hone]; rfl
        clear hone
        generalize xs.getD k 0 = x at *
        go_wp2_with (go_at_call 28; refine (var_any _ _ (by omega) (by omega)).mono ?_; rintro e w' ⟨rfl, rfl⟩)
        go_ret
        exact ⟨ret_bool (by rw [EV.out]), rfl⟩
      · have hv : (varZ (xs.getD k 0) == 0) = false := by
          have : varZ (xs.getD k 0) ≠ 0 := fun e => by rw [(varZ_zero _).1 e] at hone; cases hone
          simpa using this
        have HO := Lib.hid hone; clear hone
        generalize hxk : xs.getD k 0 = x at *
        have HX := Lib.hid hxk; clear hxk
        go_wp2_with (go_at_call 28; refine (var_any _ _ (by omega) (by omega)).mono ?_; rintro e w' ⟨rfl, rfl⟩)
        go_round
        case rel =>
          refine ⟨k + 1, by omega, by go_num, fun j hj => ?_⟩
          by_cases e : j = k
          · rw [e, HX.out]; exact HO.out
          · exact HA.out j (by omega)
        case measure => simp [intOf]; omega
    · have EV : Hid (allOne xs = true) := (allOne_iff xs).2 fun j hj => HA.out j (by rw [HL.out] at hj; omega)
      go_wp2
      go_ret
      exact ⟨ret_bool (by rw [EV.out]), rfl⟩
end Go.Proofs.YtkckodpfhlpkgaaGreat
namespace Go.Proofs.YtkckodpfhlpkgaaGreat
open Go.RowKit LitM

end Go.Proofs.YtkckodpfhlpkgaaGreat
namespace Go.Proofs.YtkckodpfhlpkgaaGreat
open Go.RowKit LitM

theorem info_lit : (Tryz.prog.info? 34).map (fun i => (i.zero, i.size, i.bytes)) = some (some (.int .i32 0), 1, 4) := by kernel_rfl

/-- v is a slice of the call's own, from block B on, that holds xs. -/
def Own (w : World) (B : Nat) (v : Value) (xs : List Int) : Prop := w.ownsRow B 34 1 v xs.length (xs.map (Value.int .i32))
theorem Own.nil (w : World) (B : Nat) : Own w B (.slice none 0 0) [] := World.ownsRow_nil _ _ _ _
theorem Own.base {w : World} {B B' : Nat} {v : Value} {xs : List Int} (h : Own w B v xs) (hB : B' ≤ B) : Own w B' v xs := by
  refine ⟨h.1, ?_⟩
  rcases h.2 with h' | ⟨g, cap, cur, hv, hb, r⟩
  · exact .inl h'
  · exact .inr ⟨g, cap, cur, hv, by omega, r⟩
theorem Own.below {w w' : World} {B : Nat} {v : Value} {xs : List Int} (h : Own w B v xs) (hb : Below w.heap.size w w') : Own w' B v xs := by
  refine ⟨h.1, ?_⟩
  rcases h.2 with h' | ⟨g, cap, cur, hv, hg, hh, r⟩
  · exact .inl h'
  · have hlt : g < w.heap.size := by
      rcases Nat.lt_or_ge g w.heap.size with h' | h'
      · exact h'
      · rw [Array.getElem?_eq_none h'] at hh; cases hh
    exact .inr ⟨g, cap, cur, hv, hg, by rw [hb.block g hlt]; exact hh, r⟩
theorem Own.form {w : World} {B : Nat} {v : Value} {xs : List Int} (h : Own w B v xs) : ∃ A c, v = .slice A xs.length c ∧ Rd .i32 w w.heap.size A xs.length xs := by
  rcases h.2 with ⟨rfl, h0⟩ | ⟨g, cap, cur, rfl, _⟩
  · refine ⟨none, 0, by rw [h0], ?_⟩
    rw [List.length_eq_zero_iff.1 h0]; exact Rd.nil
  · exact ⟨_, _, rfl, Rd.of_own h⟩
/-- Behind an append of one number. -/
theorem Own.snoc {w : World} {B : Nat} {v : Value} {xs : List Int} {x : Int} (h : w.ownsRow B 34 1 v (xs.length + 1) (xs.map (Value.int .i32) ++ [.int .i32 x])) : Own w B v (xs ++ [x]) := by
  unfold Own
  rw [List.length_append, List.map_append]
  exact h
theorem own_bytes {n : Nat} (h : n * 4 ≤ 140737488355328) : n ≤ maxLen := by unfold maxLen; omega

end Go.Proofs.YtkckodpfhlpkgaaGreat
namespace Go.Proofs.YtkckodpfhlpkgaaGreat
open Go.RowKit Go.Shelf LitM

/-- Does one come ahead of another one? -/
def beforeB (a b : Int) : Bool := decide (varZ a < varZ b ∨ (varZ a = varZ b ∧ b < a))
/-- The order of the places. -/
def cfP (a b : Int) : Int := Lib.compareInt (placeZ a) (placeZ b)
set_option maxHeartbeats 400000 in
theorem byPlace_any (a b : Int) (w : World) (h0 : -2147483648 ≤ a) (h1 : a ≤ 2147483647) (h2 : -2147483648 ≤ b) (h3 : b ≤ 2147483647) :
    Calls Tryz.prog 80 #[.int .i32 a, .int .i32 b] w fun e w' => e = .returned (.int .i64 (cfP a b)) ∧ w = w' := by
  have hcon := AnyG.cmp_Compare_int Tryz.cmpL (placeZ a) (placeZ b) w
  change Calls Tryz.prog 93 _ _ _ at hcon
  unfold cfP
  generalize Lib.compareInt (placeZ a) (placeZ b) = r at hcon ⊢
  have H := Lib.hid hcon; clear hcon
  go_enter Tryz.func80, Tryz.ntmps80
  go_wp2_with fail
  refine (place_any _ _ (by omega) (by omega)).mono ?_
  rintro e w' ⟨rfl, rfl⟩
  go_wp2_with fail
  refine (place_any _ _ (by omega) (by omega)).mono ?_
  rintro e w' ⟨rfl, rfl⟩
  go_wp2_with fail
  refine H.out.mono ?_
  rintro e w' ⟨rfl, rfl⟩
  go_wp2_with fail
  go_ret
  exact ⟨rfl, rfl⟩
end Go.Proofs.YtkckodpfhlpkgaaGreat
namespace Go.Proofs.YtkckodpfhlpkgaaGreat
open Go.RowKit LitM

end Go.Proofs.YtkckodpfhlpkgaaGreat
namespace Go.Proofs.YtkckodpfhlpkgaaGreat
open Go.Shelf Go.RowKit Go.Lib Go.Sort LitM

theorem Rd.news {k : IntKind} {w : World} {B n : Nat} {ad : Addr} {xs : List Int} (h : Rd k w B (some ad) n xs) : ∀ j u, (xs.map (Value.int k))[j]? = some u → w.cell? (ad.add j) = some u := by
  intro j u hu
  have hl := h.len
  have hj : j < n := by
    rcases Nat.lt_or_ge j n with h' | h'
    · exact h'
    · rw [List.getElem?_eq_none (by simp; omega)] at hu; cases hu
  obtain ⟨b, o, e, _, hc⟩ := h.get hj
  injection e with e
  subst e
  have ea : ((⟨b, o, none⟩ : Addr).add j) = ⟨b, o + j, none⟩ := by unfold Addr.add; split <;> simp_all
  rw [ea, hc, ← hu, List.getElem?_map, List.getElem?_eq_getElem (by omega), getD_lt (by omega)]
  rfl

set_option maxHeartbeats 800000 in
theorem clone_some (ad : Addr) (n c : Nat) (xs : List Int) (w : World) (h : Rd .i32 w w.heap.size (some ad) n xs) (hn : n * 4 ≤ 140737488355328) :
    Calls Tryz.prog 61 #[.slice (some ad) n c] w fun e w' =>
      ∃ v', e = .returned v' ∧ w'.ownsRow w.heap.size 34 1 v' n (xs.map (Value.int .i32)) ∧ v' ≠ .slice none 0 0 ∧ Below w.heap.size w w' := by
  obtain ⟨i0, hi, hz0, hz1, hz2⟩ := info_parts info_lit
  have hl : (xs.map (Value.int .i32)).length = n * 1 := by simp [h.len]
  have hN := Lib.hid (h.alloc (Nat.le_refl _) (.cells #[] 34)).news
  have h1 : ∀ u ∈ xs.map (Value.int .i32), u.oneCell' = true := by
    intro u hu
    obtain ⟨x, _, rfl⟩ := List.mem_map.1 hu
    rfl
  have H1 := Lib.hid h1
  clear h h1
  have q22 : ∀ (w : World) (a : Option Addr) (n c n' c' : Nat), (binOp .eql 36 (.slice a n c) (.slice none n' c')).run Tryz.prog w = .ok (.bool a.isNone) w := fun w a n c n' c' => Lib.run_eql_slice_nil w _ _ a n c n' c' Tryz.underlying36
  have HL := Lib.hid hl
  clear hl
  go_enter Tryz.func61, Tryz.ntmps61
  go_wp2_with (at_builtin; refine wpList_append_own _ rfl _ _ 36 rfl w.heap.size 34 i0 (.int .i32 0) 1 4 Tryz.underlying36 hi hz0 hz1 hz2 rfl (by decide) _ _ _ rfl (World.ownsRow_made w #[] 0 (Nat.le_refl _) (Nat.zero_le _) (by simp)) ad n c (xs.map (Value.int .i32)) rfl ?qc1 ?qc2 ?qc3 ?qc4 ?qc5 ?qc6 ?_)
  case qc1 => exact HL.out
  case qc2 => exact hN.out
  case qc3 => exact H1.out
  case qc4 => simp only [maxLen]; omega
  case qc5 => omega
  case qc6 => simp
  intro v' w1 hown hgrow hnil
  go_wp2
  go_ret
  refine ⟨v', rfl, by simpa using hown, ?_, ?_⟩
  · simpa using hnil
  · exact ((Below.refl _ w).alloc (Nat.le_refl _) _).grown hgrow (by simp) (by intro k hk; simp [Value.ownBlock] at hk; omega)

/-- Literals. -/
structure L1 where
  val : Int
  is : LitM.one val = true
instance : Inhabited L1 := ⟨⟨1, by decide⟩⟩
def encL (x : L1) : Value := .int .i32 x.val
def cfL (x y : L1) : Int := cfP x.val y.val
theorem ltL (x y : L1) : ltOf cfL x y = decide (placeZ x.val < placeZ y.val) := by
  unfold ltOf cfL cfP Lib.compareInt
  by_cases h1 : placeZ x.val < placeZ y.val
  · simp [h1]
  · by_cases h2 : placeZ y.val < placeZ x.val <;> simp [h1, h2]
theorem swoL : SWO (ltOf cfL) where
  irrefl x := by rw [ltL]; simp
  trans x y z h1 h2 := by rw [ltL] at *; simp at *; omega
  ntrans x y z h1 h2 := by rw [ltL] at *; simp at *; omega
theorem totL (x y : L1) (h1 : ltOf cfL x y = false) (h2 : ltOf cfL y x = false) : x = y := by
  rw [ltL] at *
  simp at *
  have h := place_inj x.is y.is (by omega)
  cases x; cases y
  simp only [L1.mk.injEq]
  exact h
theorem L1.bd (x : L1) : -2147483648 ≤ x.val ∧ x.val ≤ 2147483647 := by
  have := (one_iff x.val).1 x.is
  omega

theorem to_L1 : ∀ (xs : List Int), allOne xs = true → ∃ ls : List L1, ls.map L1.val = xs
  | [], _ => ⟨[], rfl⟩
  | x :: xs, h => by
    unfold allOne at h
    rw [List.all_cons, Bool.and_eq_true] at h
    obtain ⟨ls, e⟩ := to_L1 xs h.2
    exact ⟨⟨x, h.1⟩ :: ls, by simp [e]⟩

theorem below_grow {B : Nat} {w0 w : World} (h : Below B w0 w) (hB : B ≤ w.heap.size) (os : Array Obj) : Below B w0 (grow w os) :=
  ⟨h.os, h.tape, h.output, by rw [size_grow]; have := h.size; omega, fun k hk => by
    rw [← h.block k hk]
    unfold grow
    rw [Array.getElem?_append, if_pos (by omega)]⟩

theorem eg_byPlace : ∀ args w, (callFunc 80 args).run Tryz.prog w = .ok (.enter 80 args) w := enters_of Tryz.func80 (by kernel_rfl) rfl
theorem cmpReadsL (blk off size : Nat) (w : World) : CmpReads Tryz.prog 80 #[] encL cfL blk off size w := fun _ _ _ _ x y =>
  (byPlace_any x.val y.val _ x.bd.1 x.bd.2 y.bd.1 y.bd.2).mono fun _ _ ⟨he, hw⟩ => ⟨he, 0, hw.symm⟩

/-- slices.SortFunc by byPlace on a row of the call's own. -/
theorem sort_own (g n cap base : Nat) (xs : List Int) (w : World) (ha : allOne xs = true) (hn : n < 4611686018427387904)
    (hown : w.ownsRow base 34 1 (.slice (some ⟨g, 0, none⟩) n cap) n (xs.map (Value.int .i32))) :
    Calls Tryz.prog 79 #[.slice (some ⟨g, 0, none⟩) n cap, .func (.func 80) #[] #[]] w fun e w' =>
      e = .returned (.tuple #[]) ∧ ∃ zs : List Int, zs.length = n ∧ zs.Pairwise (fun a b => placeZ a ≤ placeZ b) ∧ (∀ x, x ∈ zs ↔ x ∈ xs) ∧
        Holds (Value.int .i32) w' g 0 zs.toArray ∧ Below base w w' ∧ g < w'.heap.size := by
  obtain ⟨ls, rfl⟩ := to_L1 xs ha
  have hown' : w.ownsRow base 34 1 (.slice (some ⟨g, 0, none⟩) n cap) n (ls.map encL) := by
    rw [List.map_map] at hown; exact hown
  obtain ⟨g', cap', e, hbg, hlt, hncap, hcap, hlen, hH⟩ := holds_of_ownsRow hown' (by intro h; cases h)
  injection e with e1 e2 e3
  injection e1 with e1
  injection e1 with e1
  subst e1
  have hS := Any.slices_SortFunc_total Tryz.sortL encL (fun _ => rfl) cfL swoL 80 #[] g 0 cap ls.toArray w eg_byPlace (cmpReadsL g 0 ls.toArray.size w).lays hH hlt (by simp; omega) totL
  have hsz : ls.toArray.size = n := by simp [hlen]
  rw [hsz] at hS
  refine Calls.mono hS fun e w' ⟨he, q, os, hw⟩ => ⟨he, ?_⟩
  refine ⟨((ls.mergeSort fun x y => !(ltOf cfL) y x).map L1.val), by simp [hlen], ?_, ?_, ?_, ?_, ?_⟩
  · rw [List.pairwise_map]
    have := List.pairwise_mergeSort (le := fun x y => !(ltOf cfL) y x) (fun a b c h1 h2 => by rw [ltL] at *; simp at *; omega) (fun a b => by rw [ltL, ltL]; simp; omega) ls
    refine this.imp fun {a b} h => ?_
    rw [ltL] at h
    simpa using h
  · intro x
    rw [List.mem_map, List.mem_map]
    simp only [List.mem_mergeSort]
  · have hh := holds_sortWorld encL w g 0 q ls.toArray (ls.mergeSort fun x y => !(ltOf cfL) y x).toArray os hlt hH (by simp)
    rw [hw]
    intro j hj
    have hj' : j < (ls.mergeSort fun x y => !(ltOf cfL) y x).length := by simpa using hj
    obtain ⟨c1, c2⟩ := hh j (by simpa using hj')
    refine ⟨c1.trans ?_, c2⟩
    rw [getElem!_pos _ j (by simpa using hj'), getElem!_pos _ j (by simpa using hj')]
    simp [encL]
  · rw [hw]
    exact below_grow (below_putRow (Below.refl _ _) hbg) (by simp [putRow, mapBlock, Sort.ahead]; omega) os
  · rw [hw]; unfold sortWorld; rw [size_grow]; simp [putRow, mapBlock, Sort.ahead]; omega

theorem int_getD {zs : List Int} {j : Nat} (hj : j < zs.length) : zs.toArray[j]! = zs.getD j 0 := by
  rw [getD_lt hj]; simp [getElem!_pos, hj]

/-- slices.Compact on a row that lies whole. -/
theorem compact_own (g cap base : Nat) (zs : List Int) (w w0 : World) (hn : zs.length ≤ 9223372036854775807) (hcap : zs.length ≤ cap) (hH : Holds (Value.int .i32) w g 0 zs.toArray) (hb : Below base w0 w) (hg : base ≤ g) (hgl : g < w.heap.size) :
    Calls Tryz.prog 81 #[.slice (some ⟨g, 0, none⟩) zs.length cap] w fun e w' =>
      e = .returned (.slice (some ⟨g, 0, none⟩) (compact zs).length cap) ∧ Rd .i32 w' w'.heap.size (some ⟨g, 0, none⟩) (compact zs).length (compact zs) ∧ Below base w0 w' := by
  have hS := AnyE.slices_Compact Tryz.compactL (Value.int .i32) (fun _ => rfl) (EqlAt.intD _ _ .i32) (NeqAt.intD _ _ .i32) 0 Tryz.zeroValue34 g 0 cap zs.toArray w hH (by simpa using hn) (by simpa using hcap)
  have hsz : zs.toArray.size = zs.length := by simp
  rw [hsz] at hS
  change Calls Tryz.prog 81 _ _ _ at hS
  have hcl : (compact zs).length ≤ zs.length := compact_length_le zs
  refine Calls.mono hS fun e w' ⟨he, q, hw⟩ => ?_
  have hB : Below base w0 w' := by rw [hw]; exact below_putRow hb hg
  refine ⟨he, ⟨rfl, fun _ => ⟨g, 0, rfl, ?_, fun j hj => ?_⟩⟩, hB⟩
  · rw [hw]; simpa [putRow, mapBlock, Sort.ahead] using hgl
  · have hA := holds_ahead (Value.int .i32) w q g 0 zs.toArray hH
    rw [hw]
    have := cell?_putRow (Value.int .i32) (Sort.ahead w q) g 0 zs.toArray (compactUpTo zs.toArray zs.length ++ List.replicate (zs.length - (compactUpTo zs.toArray zs.length).length) 0).toArray hA (by
      have : (compactUpTo zs.toArray zs.length).length ≤ zs.length := hcl
      simp; omega) j (by
      have : j < (compactUpTo zs.toArray zs.length).length := hj
      simp; omega)
    rw [this]
    have hj' : j < (compactUpTo zs.toArray zs.length).length := hj
    rw [getElem!_pos _ j (by simp; omega), getD_lt hj]
    simp [List.getElem_append_left hj', compact]


theorem var_q (l : Int) (w : World) (h0 : -2147483648 ≤ l) (h1 : l ≤ 2147483647) :
    Calls Tryz.prog 28 #[.int .i32 l] w fun e w' => e = .returned (.int .i64 (varZ l)) ∧ w' = w :=
  (var_any l w h0 h1).mono fun _ _ ⟨he, hw⟩ => ⟨he, hw.symm⟩

set_option maxHeartbeats 800000 in
theorem bothSigns_any (A : Option Addr) (n c : Nat) (xs : List Int) (w : World) (B : Nat) (h : Rd .i32 w B A n xs) (hr : In32 xs) (hn : n ≤ 4611686018427387904) :
    Calls Tryz.prog 82 #[.slice A n c] w fun e w' => e = .returned (.bool (nbB xs)) ∧ ∃ q, w' = w.drewN q := by
  have HL := Lib.hid h.len
  go_enter Tryz.func82, Tryz.ntmps82
  go_wp2
  go_loopw [3] (fun i wr => ∃ m q : Nat, (m + 1 ≤ n ∨ m = 0) ∧ i = .int .i64 (m + 1 : Nat) ∧ wr = w.drewN q ∧ ∀ j, j < m → varZ (xs.getD (j + 1) 0) ≠ varZ (xs.getD j 0)) (fun i _ => n - (intOf i).toNat)
  case atStart => exact ⟨0, 0, .inr rfl, rfl, rfl, fun j hj => absurd hj (by omega)⟩
  case round =>
    obtain ⟨m, q, hm, rfl, hw, hall⟩ := hrel
    have HA := Lib.hid hall; clear hall
    have hR : Rd .i32 wr B A n xs := by rw [hw]; exact ⟨h.len, h.at_⟩
    have HW := Lib.hid hw; clear hw
    by_cases hlt : m + 1 < n
    · obtain ⟨b, o, rfl, hb, hc1⟩ := hR.get hlt
      have hc0 : wr.cell? ⟨b, o + m, none⟩ = some (.int .i32 (xs.getD m 0)) := by
        obtain ⟨b', o', e, _, hc'⟩ := hR.get (show m < n by omega)
        injection e with e
        injection e with e1 e2
        subst e1; subst e2
        exact hc'
      have r1 := hr (m + 1)
      have r0 := hr m
      by_cases he : varZ (xs.getD (m + 1) 0) = varZ (xs.getD m 0)
      · have EV : Hid (nbB xs = true) := by
          unfold Hid nbB; rw [decide_eq_true_iff]; exact ⟨m, by rw [HL.out]; omega, he⟩
        have hb1 : (varZ (xs.getD (m + 1) 0) == varZ (xs.getD m 0)) = true := by rw [beq_iff_eq]; exact he
        clear he
        generalize xs.getD (m + 1) 0 = x1 at *
        generalize xs.getD m 0 = x0 at *
        go_wp2
        go_quiet ((go_at_call 28; exact Calls.quiet_of_same (var_q _ _ (by omega) (by omega))))
        go_wp2
        all_goals (go_ret; exact ⟨ret_bool (by rw [EV.out]), _, by rw [HW.out]; exact World.drewN_drewN _ _ _⟩)
      · have hb1 : (varZ (xs.getD (m + 1) 0) == varZ (xs.getD m 0)) = false := by rw [beq_eq_false_iff_ne]; exact he
        have HO := Lib.hid he; clear he
        generalize hx1 : xs.getD (m + 1) 0 = x1 at *
        have HX1 := Lib.hid hx1; clear hx1
        generalize hx0 : xs.getD m 0 = x0 at *
        have HX0 := Lib.hid hx0; clear hx0
        go_wp2
        go_quiet ((go_at_call 28; exact Calls.quiet_of_same (var_q _ _ (by omega) (by omega))))
        go_wp2
        all_goals
          go_roundw
          case rel =>
            refine ⟨m + 1, _, by omega, by go_num, by rw [HW.out]; exact World.drewN_drewN _ _ _, fun j hj => ?_⟩
            by_cases e : j = m
            · rw [e, HX1.out, HX0.out]; exact HO.out
            · exact HA.out j (by omega)
          case measure => simp [intOf]; omega
    · have EV : Hid (nbB xs = false) := by
        unfold Hid nbB
        rw [decide_eq_false_iff_not]
        rintro ⟨i, hi, he⟩
        rw [HL.out] at hi
        exact HA.out i (by omega) he
      go_wp2
      go_ret
      exact ⟨ret_bool (by rw [EV.out]), _, HW.out⟩
end Go.Proofs.YtkckodpfhlpkgaaGreat
namespace Go.Proofs.YtkckodpfhlpkgaaGreat
open LitM

theorem before_place {a b : Int} (ha : LitM.one a = true) (hb : LitM.one b = true) : beforeB a b = decide (placeZ a < placeZ b) := by
  have h1 := (one_iff a).1 ha
  have h2 := (one_iff b).1 hb
  unfold beforeB
  rw [decide_eq_decide]
  by_cases n1 : a < 0 <;> by_cases n2 : b < 0
  · rw [placeZ_neg (l := a) (by omega) (by omega), placeZ_neg (l := b) (by omega) (by omega), varZ_neg (l := a) (by omega) (by omega), varZ_neg (l := b) (by omega) (by omega)]; omega
  · rw [placeZ_neg (l := a) (by omega) (by omega), placeZ_pos (l := b) (by omega) (by omega), varZ_neg (l := a) (by omega) (by omega), varZ_pos (l := b) (by omega) (by omega)]; omega
  · rw [placeZ_pos (l := a) (by omega) (by omega), placeZ_neg (l := b) (by omega) (by omega), varZ_pos (l := a) (by omega) (by omega), varZ_neg (l := b) (by omega) (by omega)]; omega
  · rw [placeZ_pos (l := a) (by omega) (by omega), placeZ_pos (l := b) (by omega) (by omega), varZ_pos (l := a) (by omega) (by omega), varZ_pos (l := b) (by omega) (by omega)]; omega

/-- x has been laid into the prefix p, or not yet. -/
def InsAt (x : Int) (p next : List Int) (put : Bool) : Prop :=
  if put = true then ∃ p1 y p2, p = p1 ++ y :: p2 ∧ next = p1 ++ x :: y :: p2 ∧ (∀ z ∈ p1, beforeB x z = false) ∧ beforeB x y = true
  else next = p ∧ ∀ z ∈ p, beforeB x z = false
theorem InsAt.start (x : Int) : InsAt x [] [] false := by simp [InsAt]
theorem InsAt.skip {x y : Int} {p next : List Int} (h : InsAt x p next false) (hy : beforeB x y = false) : InsAt x (p ++ [y]) (next ++ [y]) false := by
  simp only [InsAt, Bool.false_eq_true, if_false] at h ⊢
  refine ⟨by rw [h.1], fun z hz => ?_⟩
  rw [List.mem_append, List.mem_singleton] at hz
  rcases hz with hz | rfl
  · exact h.2 z hz
  · exact hy
theorem InsAt.lay {x y : Int} {p next : List Int} (h : InsAt x p next false) (hy : beforeB x y = true) : InsAt x (p ++ [y]) (next ++ [x] ++ [y]) true := by
  simp only [InsAt, Bool.false_eq_true, if_false, if_true] at h ⊢
  exact ⟨p, y, [], by simp, by simp [h.1], h.2, hy⟩
theorem InsAt.more {x y : Int} {p next : List Int} (h : InsAt x p next true) : InsAt x (p ++ [y]) (next ++ [y]) true := by
  simp only [InsAt, if_true] at h ⊢
  obtain ⟨p1, y1, p2, rfl, rfl, h1, h2⟩ := h
  exact ⟨p1, y1, p2 ++ [y], by simp, by simp, h1, h2⟩
theorem InsAt.len {x : Int} {p next : List Int} {put : Bool} (h : InsAt x p next put) : next.length ≤ p.length + 1 ∧ (put = false → next.length = p.length) := by
  unfold InsAt at h
  cases put
  · simp only [Bool.false_eq_true, if_false] at h
    rw [h.1]; simp
  · simp only [if_true] at h
    obtain ⟨p1, y1, p2, rfl, rfl, _⟩ := h
    simp; omega

theorem ins_yes {x : Int} {ys next : List Int} (h : InsAt x ys next true) (hs : ys.Pairwise (fun a b => placeZ a < placeZ b)) (ha : allOne ys = true) (hx : LitM.one x = true) (hn : x ∉ ys) :
    next.Pairwise (fun a b => placeZ a < placeZ b) ∧ ∀ z, z ∈ next ↔ z ∈ ys ∨ z = x := by
  simp only [InsAt, if_true] at h
  obtain ⟨p1, y, p2, rfl, rfl, h1, h2⟩ := h
  have hy : LitM.one y = true := allOne_mem ha (by simp)
  rw [before_place hx hy, decide_eq_true_iff] at h2
  rw [List.pairwise_append, List.pairwise_cons] at hs
  obtain ⟨s1, ⟨s2, s3⟩, s4⟩ := hs
  constructor
  · rw [List.pairwise_append, List.pairwise_cons, List.pairwise_cons]
    refine ⟨s1, ⟨fun z hz => ?_, s2, s3⟩, fun a hp b hb => ?_⟩
    · rw [List.mem_cons] at hz
      rcases hz with rfl | hz
      · exact h2
      · have := s2 z hz; omega
    · rw [List.mem_cons] at hb
      rcases hb with rfl | hb
      · have oa : LitM.one a = true := allOne_mem ha (by simp [hp])
        have h3 := h1 a hp
        rw [before_place hx oa, decide_eq_false_iff_not] at h3
        have hne : placeZ a ≠ placeZ b := fun e => hn (by rw [← place_inj oa hx e]; simp [hp])
        omega
      · exact s4 a hp b hb
  · intro z
    simp only [List.mem_append, List.mem_cons]
    constructor
    · rintro (h | h | h | h)
      · exact .inl (.inl h)
      · exact .inr h
      · exact .inl (.inr (.inl h))
      · exact .inl (.inr (.inr h))
    · rintro ((h | h | h) | h)
      · exact .inl h
      · exact .inr (.inr (.inl h))
      · exact .inr (.inr (.inr h))
      · exact .inr (.inl h)
theorem ins_no {x : Int} {ys next : List Int} (h : InsAt x ys next false) (hs : ys.Pairwise (fun a b => placeZ a < placeZ b)) (ha : allOne ys = true) (hx : LitM.one x = true) (hn : x ∉ ys) :
    (next ++ [x]).Pairwise (fun a b => placeZ a < placeZ b) ∧ ∀ z, z ∈ next ++ [x] ↔ z ∈ ys ∨ z = x := by
  simp only [InsAt, Bool.false_eq_true, if_false] at h
  obtain ⟨rfl, h1⟩ := h
  constructor
  · rw [List.pairwise_append]
    refine ⟨hs, by simp, fun a hp b hb => ?_⟩
    rw [List.mem_singleton] at hb
    subst hb
    have oa : LitM.one a = true := allOne_mem ha hp
    have h3 := h1 a hp
    rw [before_place hx oa, decide_eq_false_iff_not] at h3
    have hne : placeZ a ≠ placeZ b := fun e => hn (by rw [← place_inj oa hx e]; exact hp)
    omega
  · intro z; rw [List.mem_append, List.mem_singleton]

theorem clean_start (xs : List Int) : IsClean (xs.take 0) [] := ⟨List.Pairwise.nil, by simp⟩
theorem clean_keep {xs ys : List Int} {k : Nat} (h : IsClean (xs.take k) ys) (hk : k < xs.length) (hin : xs.getD k 0 ∈ ys) : IsClean (xs.take (k + 1)) ys := by
  refine ⟨h.1, fun z => ?_⟩
  rw [List.take_succ_eq_append_getElem hk, List.mem_append, List.mem_singleton, h.2 z]
  constructor
  · exact .inl
  · rintro (h' | h')
    · exact h'
    · rw [getD_lt hk] at hin
      rw [h']; exact (h.2 _).1 hin
theorem clean_add {xs ys next : List Int} {k : Nat} (h : IsClean (xs.take k) ys) (hk : k < xs.length)
    (hn : next.Pairwise (fun a b => placeZ a < placeZ b) ∧ ∀ z, z ∈ next ↔ z ∈ ys ∨ z = xs.getD k 0) : IsClean (xs.take (k + 1)) next := by
  refine ⟨hn.1, fun z => ?_⟩
  rw [List.take_succ_eq_append_getElem hk, List.mem_append, List.mem_singleton, hn.2 z, h.2 z, getD_lt hk]
theorem nodup_len : ∀ (ys l : List Int), ys.Nodup → (∀ x ∈ ys, x ∈ l) → ys.length ≤ l.length
  | [], _, _, _ => Nat.zero_le _
  | a :: ys, l, h, hs => by
    rw [List.nodup_cons] at h
    have ha : a ∈ l := hs a (by simp)
    have := nodup_len ys (l.erase a) h.2 fun x hx => by
      have hne : x ≠ a := fun e => h.1 (by rw [← e]; exact hx)
      exact (List.mem_erase_of_ne hne).2 (hs x (by simp [hx]))
    rw [List.length_erase_of_mem ha] at this
    have := List.length_pos_of_mem ha
    simp only [List.length_cons]; omega
theorem clean_len {xs ys : List Int} {k : Nat} (h : IsClean (xs.take k) ys) : ys.length ≤ k := by
  have hnd : ys.Nodup := h.1.imp fun {a b} hab e => by rw [e] at hab; omega
  have := nodup_len ys _ hnd fun x hx => (h.2 x).1 hx
  have := List.length_take_le k xs
  omega

/-- Is a variable of the first k there by both signs? -/
def bothTo (xs : List Int) (k : Nat) : Bool := (xs.take k).any fun x => hasB xs (-x)
theorem bothTo_succ {xs : List Int} {k : Nat} (hk : k < xs.length) : bothTo xs (k + 1) = (bothTo xs k || hasB xs (-(xs.getD k 0))) := by
  unfold bothTo
  rw [List.take_succ_eq_append_getElem hk, List.any_append, getD_lt hk]
  simp
theorem bothTo_all (xs : List Int) : bothTo xs xs.length = bothB xs := by
  unfold bothTo bothB; rw [List.take_length]
end Go.Proofs.YtkckodpfhlpkgaaGreat
namespace Go.Proofs.YtkckodpfhlpkgaaGreat
open Go.RowKit LitM

theorem one_cell {w : World} {y : Int} : ∀ j u, [Value.int .i32 y][j]? = some u → (w.alloc (.cells #[.int .i32 y] 34)).cell? ((⟨w.heap.size, 0, none⟩ : Addr).add j) = some u := by
  intro j u hj
  match j, hj with
  | 0, hj => simp at hj; subst hj; simp [Addr.add]
theorem one_one {y : Int} : ∀ u ∈ [Value.int .i32 y], u.oneCell' = true := by
  intro u hu; simp at hu; subst hu; rfl
theorem Own.step {W wi w1 : World} {G : Nat} {v v' : Value} {xs : List Int} {y : Int} {o : Obj} (hown : Own wi G v xs) (hb : Below G W wi) (hG : G ≤ wi.heap.size)
    (hown' : w1.ownsRow G 34 1 v' (xs.length + 1) (xs.map (Value.int .i32) ++ [.int .i32 y])) (hgrow : (wi.alloc o).grownBy w1 v.ownBlock) : Own w1 G v' (xs ++ [y]) ∧ Below G W w1 :=
  ⟨Own.snoc hown', (hb.alloc hG _).grown hgrow (by simp; omega) (fun j hj => (hown.lt j hj).1)⟩

end Go.Proofs.YtkckodpfhlpkgaaGreat
namespace Go.Proofs.YtkckodpfhlpkgaaGreat
open Go.Shelf Go.RowKit Go.Lib Go.Sort LitM

theorem allOne_in32 {xs : List Int} (h : allOne xs = true) : In32 xs := In32.of fun x hx => by
  have := (one_iff x).1 (allOne_mem h hx)
  omega
theorem Rd.drewN {k : IntKind} {w : World} {B n : Nat} {A : Option Addr} {xs : List Int} (h : Rd k w B A n xs) (q : Nat) : Rd k (w.drewN q) B A n xs := ⟨h.len, h.at_⟩
theorem below_drewN {B : Nat} {a w : World} (h : Below B a w) (n : Nat) : Below B a (w.drewN n) := ⟨h.os, h.tape, h.output, h.size, h.block⟩

theorem compact_nil (w : World) : Calls Tryz.prog 81 #[.slice none 0 0] w fun e w' => e = .returned (.slice none 0 0) ∧ w = w' := by
  go_enter Tryz.func81, Tryz.ntmps81
  go_wp2
  go_ret
  exact ⟨rfl, rfl⟩

/-- What lit.Clean comes to where all are literals. -/
def CleanYes (xs : List Int) (w : World) (e : Ending) (w' : World) : Prop :=
  ∃ A' m c' ys, e = .returned (.tuple #[.slice A' m c', .bool (bothB xs), .int .i64 0]) ∧ Rd .i32 w' w'.heap.size A' m ys ∧ IsClean xs ys ∧ Below w.heap.size w w'

set_option maxHeartbeats 1000000 in
theorem clean_yes (A : Option Addr) (n c : Nat) (xs : List Int) (w : World) (h : Rd .i32 w w.heap.size A n xs) (hn : n * 4 ≤ 140737488351232) (ha : allOne xs = true) :
    Calls Tryz.prog 65 #[.slice A n c] w (CleanYes xs w) := by
  have HA := Lib.hid ha
  have h32 := Lib.hid (allOne_in32 ha)
  have HL := Lib.hid h.len
  clear ha
  rcases A with _ | ad
  · have hn0 : n = 0 := by
      rcases Nat.eq_zero_or_pos n with h0 | h0
      · exact h0
      · obtain ⟨b, o, e, _⟩ := h.at_ h0; cases e
    subst hn0
    have hx : xs = [] := List.length_eq_zero_iff.1 h.len
    subst hx
    have H := Lib.hid h; clear h
    have hc1 := fun W => AnyE.slices_Clone_nil Tryz.cloneL 0 c W
    change ∀ W, Calls Tryz.prog 61 _ _ _ at hc1
    have C1 := Lib.hid hc1; clear hc1
    have hc2 := fun W => AnyF.slices_SortFunc_none (P := Tryz.prog) (ρ := Tryz.sortL_ren) { Tryz.sortL with } none 0 (.func (.func 80) #[] #[]) W
    change ∀ W, Calls Tryz.prog 79 _ _ _ at hc2
    have C2 := Lib.hid hc2; clear hc2
    have hb0 : bothB [] = false := rfl
    have hnb : nbB [] = false := by decide
    have HB0 := Lib.hid hb0
    have HNB := Lib.hid hnb
    clear hb0 hnb
    go_enter Tryz.func65, Tryz.ntmps65
    go_wp2_with fail
    refine (right_any none 0 c [] _ H.out h32.out (by omega)).mono ?_
    rintro e w' ⟨rfl, rfl⟩
    rw [HA.out]
    go_wp2_with fail
    refine (C1.out _).mono ?_
    rintro e w' ⟨rfl, rfl⟩
    go_wp2_with fail
    refine (C2.out _).mono ?_
    rintro e w' ⟨rfl, rfl⟩
    go_wp2_with fail
    refine (compact_nil _).mono ?_
    rintro e w' ⟨rfl, rfl⟩
    go_wp2_with fail
    refine (bothSigns_any none 0 0 [] _ 0 Rd.nil h32.out (by omega)).mono ?_
    rintro e w' ⟨rfl, q, rfl⟩
    rw [HNB.out]
    go_wp2_with fail
    go_ret3
    exact ⟨none, 0, 0, [], by rw [HB0.out]; rfl, Rd.nil, ⟨List.Pairwise.nil, by simp⟩, below_drewN (Below.refl _ _) _⟩
  · have H := Lib.hid h; clear h
    go_enter Tryz.func65, Tryz.ntmps65
    go_wp2_with fail
    refine (right_any (some ad) n c xs _ H.out h32.out (by omega)).mono ?_
    rintro e w' ⟨rfl, rfl⟩
    rw [HA.out]
    go_wp2_with fail
    refine (clone_some ad n c xs _ H.out (by omega)).mono ?_
    rintro e w1 ⟨v', rfl, hown, hne, hb1⟩
    obtain ⟨g, cap, rfl, hgb, hgl, hncap, hcm, _, _⟩ := holds_of_ownsRow hown hne
    have HOWN := Lib.hid hown
    have HB1 := Lib.hid hb1
    clear hown hne hb1
    go_wp2_with fail
    refine (sort_own g n cap w.heap.size xs _ HA.out (by omega) HOWN.out).mono ?_
    rintro e w2 ⟨rfl, zs, hzl, hzs, hzm, hH, hb2, hg2⟩
    have HH := Lib.hid hH
    have HCL := Lib.hid (compact_clean hzs hzm HA.out)
    have HB2 := Lib.hid (HB1.out.trans hb2)
    clear hzs hzm hH hb2
    have hbw := HB1.out.size
    obtain rfl : zs.length = n := hzl
    go_wp2_with fail
    refine (compact_own g cap w.heap.size zs _ w (by omega) hncap HH.out HB2.out hgb hg2).mono ?_
    rintro e w3 ⟨rfl, hR3, hB3⟩
    have HR3 := Lib.hid hR3
    have HB3 := Lib.hid hB3
    have hcl : (compact zs).length ≤ zs.length := compact_length_le zs
    have hall : allOne (compact zs) = true := by rw [HCL.out.all]; exact HA.out
    have HNB := Lib.hid ((nbB_both HCL.out.1 hall).trans HCL.out.both)
    have HI := Lib.hid (allOne_in32 hall)
    clear hR3 hB3 hall
    generalize compact zs = cs at *
    go_wp2_with fail
    refine (bothSigns_any (some ⟨g, 0, none⟩) cs.length cap cs _ _ HR3.out HI.out (by omega)).mono ?_
    rintro e w4 ⟨rfl, q, rfl⟩
    rw [HNB.out]
    go_wp2_with fail
    go_ret3
    exact ⟨_, _, cap, cs, rfl, HR3.out.drewN q, HCL.out, below_drewN HB3.out q⟩

theorem clean_no (A : Option Addr) (n c : Nat) (xs : List Int) (w : World) (h : Rd .i32 w w.heap.size A n xs) (hr : In32 xs) (hn : n * 4 ≤ 140737488351232) (ha : allOne xs = false) :
    Calls Tryz.prog 65 #[.slice A n c] w fun e w' => e = .returned (.tuple #[.slice none 0 0, .bool false, .int .i64 11]) ∧ w = w' := by
  have HA := Lib.hid ha; clear ha
  go_enter Tryz.func65, Tryz.ntmps65
  go_wp2_with fail
  refine (right_any A n c xs _ h hr (by omega)).mono ?_
  rintro e w' ⟨rfl, rfl⟩
  rw [HA.out]
  go_wp2_with fail
  go_ret3
  exact ⟨rfl, rfl⟩
end Go.Proofs.YtkckodpfhlpkgaaGreat
