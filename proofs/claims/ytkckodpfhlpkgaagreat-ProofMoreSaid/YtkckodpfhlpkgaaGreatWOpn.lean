/- What the rows of layer 5 open: a formula, literals, a pair of numbers. -/
import Derived.Test.YtkckodpfhlpkgaaGreatRd
import Derived.ProofKit
import Derived.OpenShut
import Derived.SizedLaws
import Derived.Deep.DeepCutAuto
import Derived.Deep.Matrix
import Derived.Deep.Grids
namespace Go.Proofs.YtkckodpfhlpkgaaGreat
set_option maxRecDepth 100000
open Go.ChangeShapes Go.WideShapes Go.ChangeAt Go.RowKit LitM Go.Deep

/-- The slice with address A and length n holds slices that hold the numbers of cs, all in blocks below B. -/
structure RdF (w : World) (B : Nat) (A : Option Addr) (n : Nat) (cs : List (List Int)) : Prop where
  len : cs.length = n
  at_ : 0 < n → ∃ b o, A = some ⟨b, o, none⟩ ∧ b < B ∧ ∀ j, j < n → ∃ Aj nj cj, w.cell? ⟨b, o + j, none⟩ = some (.slice Aj nj cj) ∧ Rd .i32 w B Aj nj (cs.getD j [])

theorem RdF.nil {w : World} {B : Nat} {A : Option Addr} : RdF w B A 0 [] := ⟨rfl, fun h => absurd h (by omega)⟩
theorem RdF.get {w : World} {B n : Nat} {A : Option Addr} {cs : List (List Int)} (h : RdF w B A n cs) {j : Nat} (hj : j < n) :
    ∃ b o Aj nj cj, A = some ⟨b, o, none⟩ ∧ b < B ∧ w.cell? ⟨b, o + j, none⟩ = some (.slice Aj nj cj) ∧ Rd .i32 w B Aj nj (cs.getD j []) := by
  obtain ⟨b, o, e, hb, hc⟩ := h.at_ (by omega)
  obtain ⟨Aj, nj, cj, h1, h2⟩ := hc j hj
  exact ⟨b, o, Aj, nj, cj, e, hb, h1, h2⟩
theorem RdF.keep {w w' : World} {B n : Nat} {A : Option Addr} {cs : List (List Int)} (h : RdF w B A n cs) (hk : ∀ p : Addr, p.block < B → w'.cell? p = w.cell? p) : RdF w' B A n cs :=
  ⟨h.len, fun hn => by
    obtain ⟨b, o, e, hb, hc⟩ := h.at_ hn
    refine ⟨b, o, e, hb, fun j hj => ?_⟩
    obtain ⟨Aj, nj, cj, h1, h2⟩ := hc j hj
    exact ⟨Aj, nj, cj, (hk ⟨b, o + j, none⟩ hb).trans h1, h2.keep hk⟩⟩
theorem RdF.more {w : World} {B B' n : Nat} {A : Option Addr} {cs : List (List Int)} (h : RdF w B A n cs) (hB : B ≤ B') : RdF w B' A n cs :=
  ⟨h.len, fun hn => by
    obtain ⟨b, o, e, hb, hc⟩ := h.at_ hn
    refine ⟨b, o, e, by omega, fun j hj => ?_⟩
    obtain ⟨Aj, nj, cj, h1, h2⟩ := hc j hj
    exact ⟨Aj, nj, cj, h1, h2.more hB⟩⟩
theorem RdF.below {w w' : World} {B n : Nat} {A : Option Addr} {cs : List (List Int)} (h : RdF w B A n cs) (hb : Below B w w') : RdF w' B A n cs := h.keep fun _ hp => hb.cell hp
theorem RdF.alloc {w : World} {B n : Nat} {A : Option Addr} {cs : List (List Int)} (h : RdF w B A n cs) (hB : B ≤ w.heap.size) (o : Obj) : RdF (w.alloc o) B A n cs :=
  h.keep fun p hp => World.cell?_alloc_lt w o p (by omega)

theorem cells_form : Tryz.prog.cellsOf 24 = 2 := by kernel_rfl
theorem cells_int : Tryz.prog.cellsOf 3 = 1 := by kernel_rfl
theorem cells_mat : Tryz.prog.cellsOf 22 = 1 := by kernel_rfl
theorem cells_row : Tryz.prog.cellsOf 36 = 1 := by kernel_rfl
theorem cells_lit : Tryz.prog.cellsOf 34 = 1 := by kernel_rfl
theorem i32_of {n : Int} (h : (Lit.int .i32 n).wf = true) : -2147483648 ≤ n ∧ n ≤ 2147483647 := by
  simpa [Lit.wf, IntKind.min, IntKind.max, IntKind.bits, IntKind.signed] using h
theorem i64_of {n : Int} (h : (Lit.int .i64 n).wf = true) : -9223372036854775808 ≤ n ∧ n ≤ 9223372036854775807 := by
  simpa [Lit.wf, IntKind.min, IntKind.max, IntKind.bits, IntKind.signed] using h

/-- A slice of 32 bit numbers, as the reading of an argument tells it. -/
theorem rd_of {W : World} {A : Option Addr} {L C : Nat} {Z : List Int} (hLC : L ≤ C) (hz : Z.length = C) (hn : A = none → C = 0) (hc : ∀ a', A = some a' → ∀ c, c < C → W.cell? (a'.add c) = some (.int .i32 (Z.getD c 0))) :
    Rd .i32 W W.heap.size A L (Z.take L) := by
  refine ⟨by simp; omega, fun hL => ?_⟩
  rcases A with _ | ⟨b, off, spot⟩
  · have := hn rfl; omega
  have hcell := hc _ rfl
  have hspot : spot = none := by simpa [Addr.add] using World.cell?_spot (hcell 0 (by omega))
  subst hspot
  have hcell' : ∀ j, j < C → W.cell? ⟨b, off + j, none⟩ = some (.int .i32 (Z.getD j 0)) := fun j hj => by rw [← add_plain]; exact hcell j hj
  refine ⟨b, off, rfl, World.block_lt_of_cell? _ _ (hcell' 0 (by omega)), fun j hj => ?_⟩
  rw [hcell' j (by omega), getD_lt (show j < Z.length by omega), getD_lt (show j < (Z.take L).length by simp; omega)]
  simp

/-- A formula that came in. -/
theorem open_form {H : Type} {enc : TypeId × Value → H} {W : World} {base : Nat} {v : Value} {d : DataW H} {p : List MemPlace} (hok : Value.okWide Tryz.prog W .any base 24 v)
    (h : DataW.Trod enc Tryz.prog W 0 (fun _ => true) true 24 v d p) :
    ∃ x A n c cs, v = .agg #[.int .i64 x, .slice A n c] ∧ RdF W W.heap.size A n cs ∧ (∀ c ∈ cs, In32 c) ∧ (∀ j, (cs.getD j []).length ≤ 9223372036854775807) ∧ n ≤ 9223372036854775807 ∧ -9223372036854775808 ≤ x ∧ x ≤ 9223372036854775807 ∧ (A = none → n = 0 ∧ c = 0) ∧ n ≤ c ∧ c ≤ 9223372036854775807 := by
  simp only [Value.okWide, Tryz.underlying24] at hok
  obtain ⟨cs, rfl, hsz, _⟩ := hok
  rw [cells_form] at hsz
  obtain ⟨fuel, hf⟩ := h
  obtain ⟨xs, m, _, _, _, hl, hel⟩ := DataW.trod_struct Tryz.underlying24 hf
  have e0 := hel 0 _ rfl
  have e1 := hel 1 _ rfl
  simp only [List.getElem_toArray, List.getElem_cons_zero, List.getElem_cons_succ] at e0 e1
  rw [cells_int] at e0
  rw [cells_mat] at e1
  match xs, hl with
  | [x0, x1], _ =>
    have hcs : ∃ c0 c1, cs = #[c0, c1] := by
      rcases cs with ⟨l⟩
      match l, hsz with
      | [c0, c1], _ => exact ⟨c0, c1, rfl⟩
    obtain ⟨c0, c1, rfl⟩ := hcs
    simp [Value.cells] at e0 e1
    obtain ⟨x, h0, _, wx⟩ := DataW.trod_int Tryz.underlying3 e0
    simp at h0
    subst h0
    have hx := i64_of wx
    rcases open_int_rows Tryz.underlying22 Tryz.underlying36 Tryz.underlying34 cells_row cells_lit e1 with ⟨hcs, _⟩ | ⟨a, len, cap, A, L, C, Z, hcs, _, hlc, hm, _, hrow⟩
    · simp at hcs
      subst hcs
      exact ⟨x, none, 0, 0, [], rfl, RdF.nil, by simp, by simp, by omega, hx.1, hx.2, fun _ => ⟨rfl, rfl⟩, by omega, by omega⟩
    · simp at hcs
      subst hcs
      have hm' : cap ≤ 9223372036854775807 := by unfold maxLen at hm; omega
      have hget : ∀ j, j < len → ((List.range len).map fun r => (Z r).take (L r)).getD j [] = (Z j).take (L j) := fun j hj => by
        simp [List.getD, List.getElem?_map, List.getElem?_range hj]
      refine ⟨x, some a, len, cap, (List.range len).map fun r => (Z r).take (L r), rfl, ⟨by simp, fun hn => ?_⟩, fun c hc => ?_, fun j => ?_, by omega, hx.1, hx.2, (fun e => by cases e), hlc, hm'⟩
      · obtain ⟨b, off, spot⟩ := a
        have hspot : spot = none := by simpa [Addr.add] using World.cell?_spot (hrow 0 (by omega)).1
        subst hspot
        have hcell' : ∀ j, j < cap → W.cell? ⟨b, off + j, none⟩ = some (.slice (A j) (L j) (C j)) := fun j hj => by rw [← add_plain]; exact (hrow j hj).1
        refine ⟨b, off, rfl, World.block_lt_of_cell? _ _ (hcell' 0 (by omega)), fun j hj => ?_⟩
        obtain ⟨_, r2, r3, r4, r5, r6, r7⟩ := hrow j (by omega)
        rw [hget j hj]
        exact ⟨A j, L j, C j, hcell' j (by omega), rd_of r2 r4 r6 (fun a' ha' => (r7 a' ha').2)⟩
      · obtain ⟨j, hj, rfl⟩ := List.mem_map.1 hc
        obtain ⟨_, r2, r3, r4, r5, r6, r7⟩ := hrow j (by have := List.mem_range.1 hj; omega)
        exact In32.of fun y hy => i32_of (r5 y (List.mem_of_mem_take hy))
      · by_cases hj : j < len
        · obtain ⟨_, r2, r3, r4, r5, r6, r7⟩ := hrow j (by omega)
          rw [hget j hj]
          unfold maxLen at r3
          simp; omega
        · rw [List.getD, List.getElem?_eq_none (by simp; omega)]; simp
/-- A clause that came in. -/
theorem open_lits {H : Type} {enc : TypeId × Value → H} {W : World} {base : Nat} {v : Value} {d : DataW H} {p : List MemPlace} (hok : Value.okWide Tryz.prog W .any base 36 v)
    (h : DataW.Trod enc Tryz.prog W 0 (fun _ => true) true 36 v d p) :
    ∃ A n c xs, v = .slice A n c ∧ Rd .i32 W W.heap.size A n xs ∧ In32 xs ∧ n ≤ 9223372036854775807 ∧ (A = none → n = 0 ∧ c = 0) := by
  obtain ⟨a0, len, cap, rfl⟩ := okWide_slice Tryz.underlying36 hok
  obtain ⟨fuel, hf⟩ := h
  rcases open_ints Tryz.underlying36 Tryz.underlying34 cells_lit hf with ⟨hcs, _⟩ | ⟨a, len', cap', zs, hcs, _, hl, hmx, hz, _, hcell, hwz⟩
  · simp [Value.cells] at hcs
    obtain ⟨rfl, rfl, rfl⟩ := hcs
    exact ⟨none, 0, 0, [], rfl, Rd.nil, In32.of (by simp), by omega, fun _ => ⟨rfl, rfl⟩⟩
  · simp [Value.cells] at hcs
    obtain ⟨rfl, rfl, rfl⟩ := hcs
    simp only [if_true] at hz
    have hm : len ≤ 9223372036854775807 := by unfold maxLen at hmx; omega
    exact ⟨some a, len, cap, zs.take len, rfl, rd_of hl hz (fun e => by cases e) (fun a' ha' c hc => by cases ha'; exact hcell c (by omega)), In32.of fun x hx => i32_of (hwz x (List.mem_of_mem_take hx)), hm, fun e => by cases e⟩
theorem own_knob5 : ownKnob Tryz.prog.godebug = none := by kernel_rfl
theorem laid_out : laidOutB Tryz.prog = true := by kernel_rfl
theorem frm_cells {w W : World} {v : Int} {A : Option Addr} {n c : Nat} (h : Below (w.heap.size + 1) (w.alloc (.cells #[.int .i64 v, .slice A n c] 24)) W) :
    W.cell? ⟨w.heap.size, 0, none⟩ = some (.int .i64 v) ∧ W.cell? ⟨w.heap.size, 1, none⟩ = some (.slice A n c) := by
  rw [h.cell (p := ⟨w.heap.size, 0, none⟩) (by simp), h.cell (p := ⟨w.heap.size, 1, none⟩) (by simp)]
  simp
/-- What is left of it behind the first y; its first y. -/
theorem RdF.dropped {w : World} {B n c y : Nat} {A : Option Addr} {cs : List (List Int)} (h : RdF w B A n cs) (hy : y ≤ n) (hc : n ≤ c) : RdF w B (if c = y then A else A.map (·.add y)) (n - y) (cs.drop y) := by
  refine ⟨by have := h.len; simp; omega, fun h0 => ?_⟩
  obtain ⟨b, o, rfl, hb, hg⟩ := h.at_ (by omega)
  rw [if_neg (by omega)]
  refine ⟨b, o + y, by rw [Option.map_some, add_plain], hb, fun j hj => ?_⟩
  obtain ⟨Aj, nj, cj, e1, e2⟩ := hg (y + j) (by omega)
  refine ⟨Aj, nj, cj, by rw [show o + y + j = o + (y + j) from by omega]; exact e1, ?_⟩
  rw [List.getD, List.getElem?_drop]; exact e2
theorem RdF.taken {w : World} {B n y : Nat} {A : Option Addr} {cs : List (List Int)} (h : RdF w B A n cs) (hy : y ≤ n) : RdF w B A y (cs.take y) := by
  refine ⟨by have := h.len; simp; omega, fun h0 => ?_⟩
  obtain ⟨b, o, rfl, hb, hg⟩ := h.at_ (by omega)
  refine ⟨b, o, rfl, hb, fun j hj => ?_⟩
  obtain ⟨Aj, nj, cj, e1, e2⟩ := hg j (by omega)
  refine ⟨Aj, nj, cj, e1, ?_⟩
  rw [List.getD, List.getElem?_take_of_lt hj]; exact e2
end Go.Proofs.YtkckodpfhlpkgaaGreat
