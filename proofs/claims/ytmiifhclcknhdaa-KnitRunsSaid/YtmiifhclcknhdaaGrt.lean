/- A circuit in memory: its gates, its INPUTS, the map of what was made; slices of plain numbers as lists; the contracts of turn, turned, number, Len, has, Parts, add, both, Input. -/
import Derived.Test.YtmiifhclcknhdaaGatM
import Derived.Test.YtmiifhclcknhdaaRowV
import Derived.Maps.OwnSet
import Derived.Maps.OwnOps
import Derived.WideKeyPair
import Derived.Laws.Bits64
import Derived.Deep.RegionWith
import Derived.Deep.RegionHeld3
import Derived.Deep.CutBlock
import Derived.Deep.QuietTactic
import Derived.BigQuiet
namespace Go.Proofs.Ytmiifhclcknhdaa
open Go.RowKit GatM

theorem gret_int {k : IntKind} {a b : Int} (h : a = b) : Ending.returned (.int k a) = .returned (.int k b) := by rw [h]
theorem gret_bool {a b : Bool} (h : a = b) : Ending.returned (.bool a) = .returned (.bool b) := by rw [h]
/-- The slice with address A and length n holds the numbers l (of kind k), in a block below B. -/
structure RdN (k : IntKind) (w : World) (B : Nat) (A : Option Addr) (n : Nat) (l : List Nat) : Prop where
  len : l.length = n
  at_ : 0 < n → ∃ b o, A = some ⟨b, o, none⟩ ∧ b < B ∧ ∀ j, j < n → w.cell? ⟨b, o + j, none⟩ = some (.int k ((l.getD j 0 : Nat) : Int))
section
variable {k : IntKind} {w w' : World} {B n : Nat} {A : Option Addr} {l : List Nat}
theorem RdN.nil : RdN k w B A 0 [] := ⟨rfl, fun h => absurd h (by omega)⟩
theorem RdN.get (h : RdN k w B A n l) {j : Nat} (hj : j < n) :
    ∃ b o, A = some ⟨b, o, none⟩ ∧ b < B ∧ w.cell? ⟨b, o + j, none⟩ = some (.int k ((l.getD j 0 : Nat) : Int)) := by
  obtain ⟨b, o, e, hb, hc⟩ := h.at_ (by omega)
  exact ⟨b, o, e, hb, hc j hj⟩
theorem RdN.keep (h : RdN k w B A n l) (hk : ∀ p : Addr, p.block < B → w'.cell? p = w.cell? p) : RdN k w' B A n l :=
  ⟨h.len, fun hn => by
    obtain ⟨b, o, e, hb, hc⟩ := h.at_ hn
    exact ⟨b, o, e, hb, fun j hj => (hk ⟨b, o + j, none⟩ hb).trans (hc j hj)⟩⟩
theorem RdN.more {B' : Nat} (h : RdN k w B A n l) (hB : B ≤ B') : RdN k w B' A n l :=
  ⟨h.len, fun hn => by
    obtain ⟨b, o, e, hb, hc⟩ := h.at_ hn
    exact ⟨b, o, e, by omega, hc⟩⟩
theorem RdN.below (h : RdN k w B A n l) (hb : Below B w w') : RdN k w' B A n l := h.keep fun _ hp => hb.cell hp
theorem RdN.belo (h : RdN k w w.heap.size A n l) (hb : Below w.heap.size w w') : RdN k w' w'.heap.size A n l := (h.below hb).more hb.size
end
theorem nget_lt {l : List Nat} {j : Nat} (h : j < l.length) : l.getD j 0 = l[j] := by simp [List.getD, List.getElem?_eq_getElem h]
theorem nmem {l : List Nat} {x : Nat} : x ∈ l ↔ ∃ j, j < l.length ∧ l.getD j 0 = x := by
  constructor
  · intro h
    obtain ⟨i, hi, rfl⟩ := List.getElem_of_mem h
    exact ⟨i, hi, nget_lt hi⟩
  · rintro ⟨j, hj, rfl⟩
    rw [nget_lt hj]; exact List.getElem_mem hj
/-- Numbers as cells. -/
def numF (k : IntKind) (l : List Nat) (j : Nat) : Value := .int k ((l.getD j 0 : Nat) : Int)
/-- A slice of the call's own that holds the numbers l. -/
abbrev SlN (k : IntKind) (T : TypeId) (w : World) (A : Option Addr) (c : Nat) (l : List Nat) : Prop := SlV T 1 w A l.length c (numF k l)
theorem SlV.rdn {k : IntKind} {T : TypeId} {w : World} {A : Option Addr} {c : Nat} {l : List Nat} (h : SlN k T w A c l) : RdN k w w.heap.size A l.length l :=
  ⟨rfl, fun hn => by
    obtain ⟨g, rfl, hr⟩ := h.row hn
    exact ⟨g, 0, rfl, hr.lt, fun j hj => by rw [Nat.zero_add]; exact hr.cell (by omega)⟩⟩
theorem numF_app {k : IntKind} {l : List Nat} {x : Nat} {j : Nat} (hj : j < (l ++ [x]).length) : numF k (l ++ [x]) j = appV (numF k l) (l.length * 1) [.int k (x : Int)] j := by
  have hl : (l ++ [x]).length = l.length + 1 := by simp
  unfold appV numF
  by_cases h : j < l.length * 1
  · rw [if_pos h, List.getD, List.getD, List.getElem?_append_left (by omega)]
  · rw [if_neg h]
    have : j = l.length := by omega
    subst this
    rw [List.getD, List.getElem?_append_right (Nat.le_refl _)]
    simp

theorem bits_xor_u32 (a b : Nat) (ha : a < 4294967296) (hb : b < 4294967296) : bits .xor .u32 (a : Int) (b : Int) = ((a ^^^ b : Nat) : Int) := by
  have hx : a ^^^ b < 2 ^ 32 := Nat.xor_lt_two_pow (by omega) (by omega)
  have h1 : (BitVec.ofInt 32 (a : Int)).toNat = a := by
    rw [BitVec.ofInt_natCast, BitVec.toNat_ofNat]; exact Nat.mod_eq_of_lt (by omega)
  have h2 : (BitVec.ofInt 32 (b : Int)).toNat = b := by
    rw [BitVec.ofInt_natCast, BitVec.toNat_ofNat]; exact Nat.mod_eq_of_lt (by omega)
  show IntKind.u32.wrap ((BitVec.ofInt 32 (a : Int) ^^^ BitVec.ofInt 32 (b : Int)).toNat : Int) = _
  rw [BitVec.toNat_xor, h1, h2]
  have hw : ∀ n : Int, IntKind.u32.wrap n = n % 4294967296 := fun n => by simp [IntKind.wrap, IntKind.bits, IntKind.signed]
  rw [hw]
  omega
theorem xor_one {a : Nat} (ha : a < 4294967296) : bits .xor .u32 (a : Int) 1 = ((turnE a : Nat) : Int) := by
  have := bits_xor_u32 a 1 ha (by omega)
  rw [turn_xor] at this
  exact this
theorem gturn_any (a : Nat) (w : World) (ha : a < 4294967296) : Calls Try.prog 41 #[.int .u32 (a : Int)] w fun e w' => e = .returned (.int .u32 ((turnE a : Nat) : Int)) ∧ w = w' := by
  have hx := xor_one ha
  go_enter Try.func41, Try.ntmps41
  go_wp2_with fail
  go_ret
  exact ⟨rfl, rfl⟩
theorem gturned_any (a : Nat) (w : World) (ha : a < 4294967296) : Calls Try.prog 50 #[.int .u32 (a : Int)] w fun e w' => e = .returned (.bool (odd a)) ∧ w = w' := by
  go_enter Try.func50, Try.ntmps50
  go_wp2_with fail
  go_ret
  refine ⟨gret_bool ?_, rfl⟩
  unfold odd
  rw [Bool.eq_iff_iff, beq_iff_eq, decide_eq_true_iff]
  omega
theorem gnum_any (a : Nat) (w : World) (ha : a < 4294967296) : Calls Try.prog 43 #[.int .u32 (a : Int)] w fun e w' => e = .returned (.int .i64 ((a / 2 : Nat) : Int)) ∧ w = w' := by
  go_enter Try.func43, Try.ntmps43
  go_wp2_with fail
  go_ret
  exact ⟨gret_int (by omega), rfl⟩

/-! ### The map of what was made -/
theorem g_arr : WideMaps.ArrKey Try.prog 67 25 2 := ⟨Try.underlying67, by kernel_rfl, by kernel_rfl, by kernel_rfl⟩
theorem g_keyed : Maps.Keyed Try.prog 67 := Maps.Keyed.of_law g_arr.law
theorem g_size : ∃ m, Try.prog.types.size = m + 1 := ⟨Try.prog.types.size - 1, by
  have : 0 < Try.prog.types.size := of_decide_eq_true (by kernel_rfl)
  omega⟩
theorem zero_edge (w : World) : (zeroValue 25).run Try.prog w = .ok (.int .u32 0) w := by kernel_rfl
def pairV (p : Nat × Nat) : Value := .agg #[.int .u32 (p.1 : Int), .int .u32 (p.2 : Int)]
def klP (p : Nat × Nat) : Lit := .string (keyBytes [.int .u32 (p.1 : Int), .int .u32 (p.2 : Int)])
def SmlP (p : Nat × Nat) : Prop := p.1 < 4294967296 ∧ p.2 < 4294967296
theorem u32_wf {x : Nat} (h : x < 4294967296) : (Lit.int .u32 (x : Int)).wf = true := by
  simp [Lit.wf, IntKind.min, IntKind.max, IntKind.bits, IntKind.signed]; omega
theorem u32_pos {c : Int} (h : (Lit.int .u32 c).wf = true) : 0 ≤ c := by
  simp [Lit.wf, IntKind.min, IntKind.max, IntKind.bits, IntKind.signed] at h; exact h.1
theorem g_key {p : Nat × Nat} (h : SmlP p) : keyOf Try.prog 67 (pairV p) = some (klP p) :=
  WideMaps.keyOf_pair g_arr Try.underlying25 g_size (u32_wf h.1) (u32_wf h.2)
theorem klP_inj {p q : Nat × Nat} (hp : SmlP p) (hq : SmlP q) (h : klP p = klP q) : p = q := by
  have := g_keyed.inj (g_key hp) (by rw [h]; exact g_key hq)
  unfold pairV at this
  simp only [Value.agg.injEq, Array.mk.injEq, List.cons.injEq, Value.int.injEq] at this
  obtain ⟨⟨_, h1⟩, ⟨_, h2⟩, _⟩ := this
  have h1 : p.1 = q.1 := by omega
  have h2 : p.2 = q.2 := by omega
  exact Prod.ext h1 h2
/-- The map tells of each AND of mp its edge, and of nothing else. -/
def MapP (w : World) (bm n : Nat) (mp : Gs) : Prop := ∃ D : DataW Value, w.ownsMap Try.prog 67 (plainElem Try.prog 25) bm n D ∧
  ∀ p, SmlP p → p ≠ (0, 0) → Maps.has D (klP p) = decide (p ∈ mp) ∧ (p ∈ mp → D.atKey (klP p) (.lit (.int .u32 0)) = .lit (.int .u32 ((2 * mp.idxOf p : Nat) : Int)))
section
variable {w w' : World} {bm n : Nat} {mp : Gs}
theorem MapP.made (w : World) : MapP (w.alloc (.map #[] 0)) w.heap.size 0 [(0, 0)] :=
  ⟨_, World.ownsMap_made _ _ _ _, fun p _ hp => by
    have hn : p ∉ ([(0, 0)] : Gs) := by simpa using hp
    exact ⟨by rw [decide_eq_false hn]; rfl, fun h => absurd h hn⟩⟩
theorem MapP.same (h : MapP w bm n mp) (hb : w'.heap[bm]? = w.heap[bm]?) : MapP w' bm n mp := by
  obtain ⟨D, ⟨es, clock, h1, h2⟩, k⟩ := h
  exact ⟨D, ⟨es, clock, by rw [hb]; exact h1, h2⟩, k⟩
theorem MapP.lt (h : MapP w bm n mp) : bm < w.heap.size := by obtain ⟨D, h, _⟩ := h; exact h.lt
theorem MapP.obj (h : MapP w bm n mp) : ∃ es clock, w.heap[bm]? = some (.map es clock) := by
  obtain ⟨D, ⟨es, clock, h1, _⟩, _⟩ := h
  exact ⟨es, clock, h1⟩
theorem MapP.input (h : MapP w bm n mp) : MapP w bm n (mp ++ [(0, 0)]) := by
  obtain ⟨D, h1, h2⟩ := h
  refine ⟨D, h1, fun p hs hp => ?_⟩
  have hm : p ∈ mp ++ [(0, 0)] ↔ p ∈ mp := by simp [hp]
  obtain ⟨k1, k2⟩ := h2 p hs hp
  refine ⟨by rw [k1, decide_eq_decide]; exact hm.symm, fun h => ?_⟩
  have h := hm.1 h
  rw [k2 h, List.idxOf_append, if_pos h]
theorem MapP.look (h : MapP w bm n mp) {p : Nat × Nat} (hs : SmlP p) (hp : p ≠ (0, 0)) : ∃ x : Nat, (Instr.lookup 62 (.map (some bm)) (pairV p) true).run Try.prog w = .ok (.tuple #[.int .u32 (x : Int), .bool (decide (p ∈ mp))]) w ∧ (p ∈ mp → x = 2 * mp.idxOf p) := by
  obtain ⟨D, h1, h2⟩ := h
  obtain ⟨k1, k2⟩ := h2 p hs hp
  obtain ⟨v, ps, hrun, hv⟩ := h1.look_ok g_keyed Try.underlying62 (zero_edge w) (zd := .lit (.int .u32 0)) (zp := []) (plainElem_int Try.underlying25 (by decide)) (g_key hs)
  obtain ⟨c, rfl, hc, hwc⟩ := plainElem_int_inv Try.underlying25 hv
  have hc : D.atKey (klP p) (.lit (.int .u32 0)) = .lit (.int .u32 c) := congrArg Prod.fst hc
  have hc0 := u32_pos hwc
  obtain ⟨x, rfl⟩ := Int.eq_ofNat_of_zero_le hc0
  refine ⟨x, by rw [← k1]; exact hrun, fun hm => ?_⟩
  rw [k2 hm] at hc
  have hc := (Lit.int.inj (DataW.lit.inj hc)).2
  generalize 2 * mp.idxOf p = y at *
  exact (Int.ofNat.inj hc).symm
theorem MapP.put (h : MapP w bm n mp) (hn : n < maxLen) {p : Nat × Nat} (hs : SmlP p) (hp : p ≠ (0, 0)) (hnew : p ∉ mp) {x : Nat} (hx : x = 2 * mp.length) (hx2 : x < 4294967296) :
    ∃ w', (Instr.mapUpdate 62 (.map (some bm)) (pairV p) (.int .u32 (x : Int))).run Try.prog w = .ok () w' ∧ MapP w' bm (n + 1) (mp ++ [p]) ∧ Kf (fun k => k = bm) w w' := by
  obtain ⟨D, h1, h2⟩ := h
  obtain ⟨w', hrun, k1, k2⟩ := h1.store g_keyed Try.underlying62 hn (g_key hs) (val := .int .u32 (x : Int)) (d := .lit (.int .u32 (x : Int))) (ps := []) (plainElem_int Try.underlying25 (u32_wf hx2))
  refine ⟨w', hrun, ⟨_, k1, fun q hq hq0 => ?_⟩, ?_⟩
  · by_cases e : q = p
    · subst e
      have hm : q ∈ mp ++ [q] := by simp
      refine ⟨by rw [decide_eq_true hm]; exact Maps.has_put_same h1.isMap (g_keyed.key (g_key hs)) _, fun _ => ?_⟩
      rw [Maps.atKey_put_same h1.isMap (g_keyed.key (g_key hs)), List.idxOf_append, if_neg hnew, hx]
      simp
    · have hne : klP q ≠ klP p := fun h => e (klP_inj hq hs h)
      have hm : q ∈ mp ++ [p] ↔ q ∈ mp := by simp [e]
      obtain ⟨m1, m2⟩ := h2 q hq hq0
      refine ⟨by rw [Maps.has_put_other hne, m1, decide_eq_decide]; exact hm.symm, fun h => ?_⟩
      have h := hm.1 h
      rw [Maps.atKey_put_other hne, m2 h, List.idxOf_append, if_pos h]
  · exact (Kf.refl (fun k => k = bm) w).grown k2.grown (fun g hg' => by injection hg' with hg'; exact .inl hg'.symm)
end
end Go.Proofs.Ytmiifhclcknhdaa
