/- A slice of whole numbers that reads as a list; plain facts on such lists. -/
import Derived.Test.YtkckodpfhlpkgaaGreatRows
import Derived.Test.YtkckodpfhlpkgaaGreatLitM
import Derived.WalkKit
import Derived.Below
import Derived.Laws.OwnMore
import Derived.Deep.Draws
import Derived.Deep.AppendLies
namespace Go.Proofs.YtkckodpfhlpkgaaGreat
open Go.RowKit LitM

/-- The slice with address A and length n holds the numbers xs (of kind k), in a block below B. -/
structure Rd (k : IntKind) (w : World) (B : Nat) (A : Option Addr) (n : Nat) (xs : List Int) : Prop where
  len : xs.length = n
  at_ : 0 < n → ∃ b o, A = some ⟨b, o, none⟩ ∧ b < B ∧ ∀ j, j < n → w.cell? ⟨b, o + j, none⟩ = some (.int k (xs.getD j 0))

theorem Rd.nil {k : IntKind} {w : World} {B : Nat} {A : Option Addr} : Rd k w B A 0 [] := ⟨rfl, fun h => absurd h (by omega)⟩
theorem Rd.get {k : IntKind} {w : World} {B n : Nat} {A : Option Addr} {xs : List Int} (h : Rd k w B A n xs) {j : Nat} (hj : j < n) :
    ∃ b o, A = some ⟨b, o, none⟩ ∧ b < B ∧ w.cell? ⟨b, o + j, none⟩ = some (.int k (xs.getD j 0)) := by
  obtain ⟨b, o, e, hb, hc⟩ := h.at_ (by omega)
  exact ⟨b, o, e, hb, hc j hj⟩
theorem Rd.keep {k : IntKind} {w w' : World} {B n : Nat} {A : Option Addr} {xs : List Int} (h : Rd k w B A n xs) (hk : ∀ p : Addr, p.block < B → w'.cell? p = w.cell? p) : Rd k w' B A n xs :=
  ⟨h.len, fun hn => by
    obtain ⟨b, o, e, hb, hc⟩ := h.at_ hn
    exact ⟨b, o, e, hb, fun j hj => (hk ⟨b, o + j, none⟩ hb).trans (hc j hj)⟩⟩
theorem Rd.more {k : IntKind} {w : World} {B B' n : Nat} {A : Option Addr} {xs : List Int} (h : Rd k w B A n xs) (hB : B ≤ B') : Rd k w B' A n xs :=
  ⟨h.len, fun hn => by
    obtain ⟨b, o, e, hb, hc⟩ := h.at_ hn
    exact ⟨b, o, e, by omega, hc⟩⟩
theorem Rd.below {k : IntKind} {w w' : World} {B n : Nat} {A : Option Addr} {xs : List Int} (h : Rd k w B A n xs) (hb : Below B w w') : Rd k w' B A n xs := h.keep fun _ hp => hb.cell hp
theorem Rd.alloc {k : IntKind} {w : World} {B n : Nat} {A : Option Addr} {xs : List Int} (h : Rd k w B A n xs) (hB : B ≤ w.heap.size) (o : Obj) : Rd k (w.alloc o) B A n xs :=
  h.keep fun p hp => World.cell?_alloc_lt w o p (by omega)
theorem Rd.grown {k : IntKind} {w w' : World} {B n : Nat} {A : Option Addr} {xs : List Int} {row : Option Nat} (h : Rd k w B A n xs) (hg : w.grownBy w' row) (hB : B ≤ w.heap.size) (hr : ∀ g, row = some g → B ≤ g) : Rd k w' B A n xs :=
  h.keep fun p hp => World.cell?_of_block (hg.block p.block (by omega) (fun e => by have := hr _ e.symm; omega))
theorem Rd.of_own {k : IntKind} {w : World} {base n c : Nat} {A : Option Addr} {e : TypeId} {xs : List Int} (h : w.ownsRow base e 1 (.slice A n c) n (xs.map (Value.int k))) : Rd k w w.heap.size A n xs := by
  have hl : xs.length = n := by have := h.1; simpa using this
  refine ⟨hl, fun hn => ?_⟩
  obtain ⟨g, cap, hv, _, hlt⟩ := h.form hn
  have hA : A = some ⟨g, 0, none⟩ := by injection hv
  subst hA
  refine ⟨g, 0, rfl, hlt, fun j hj => ?_⟩
  have := h.cells (g := g) rfl j (Value.int k (xs.getD j 0)) (by
    rw [List.getElem?_map, List.getElem?_eq_getElem (by omega)]
    simp [List.getD, List.getElem?_eq_getElem (show j < xs.length by omega)])
  have e : ((⟨g, 0, none⟩ : Addr).add j) = ⟨g, 0 + j, none⟩ := by
    unfold Addr.add; split <;> simp_all
  rw [← e]; exact this

/-- Numbers of 32 bits. -/
def In32 (xs : List Int) : Prop := ∀ j, -2147483648 ≤ xs.getD j 0 ∧ xs.getD j 0 ≤ 2147483647
theorem In32.of {xs : List Int} (h : ∀ x ∈ xs, -2147483648 ≤ x ∧ x ≤ 2147483647) : In32 xs := by
  intro j
  by_cases hj : j < xs.length
  · have : xs.getD j 0 = xs[j] := by simp [List.getD, List.getElem?_eq_getElem hj]
    rw [this]; exact h _ (List.getElem_mem hj)
  · have : xs.getD j 0 = 0 := by simp [List.getD, List.getElem?_eq_none (by omega : xs.length ≤ j)]
    rw [this]; omega
theorem In32.mem {xs : List Int} (h : In32 xs) {x : Int} (hx : x ∈ xs) : -2147483648 ≤ x ∧ x ≤ 2147483647 := by
  obtain ⟨i, hi, rfl⟩ := List.getElem_of_mem hx
  have := h i
  simpa [List.getD, List.getElem?_eq_getElem hi] using this

theorem getD_lt {xs : List Int} {j : Nat} (h : j < xs.length) : xs.getD j 0 = xs[j] := by simp [List.getD, List.getElem?_eq_getElem h]
theorem mem_getD {xs : List Int} {x : Int} : x ∈ xs ↔ ∃ j, j < xs.length ∧ xs.getD j 0 = x := by
  constructor
  · intro h
    obtain ⟨i, hi, rfl⟩ := List.getElem_of_mem h
    exact ⟨i, hi, getD_lt hi⟩
  · rintro ⟨j, hj, rfl⟩
    rw [getD_lt hj]; exact List.getElem_mem hj

/-- Are all of them literals? -/
def allOne (xs : List Int) : Bool := xs.all one
theorem allOne_iff (xs : List Int) : allOne xs = true ↔ ∀ j, j < xs.length → one (xs.getD j 0) = true := by
  unfold allOne
  rw [List.all_eq_true]
  constructor
  · intro h j hj; rw [getD_lt hj]; exact h _ (List.getElem_mem hj)
  · intro h x hx
    obtain ⟨i, hi, rfl⟩ := List.getElem_of_mem hx
    have := h i hi
    rwa [getD_lt hi] at this
theorem allOne_no {xs : List Int} {j : Nat} (hj : j < xs.length) (h : one (xs.getD j 0) = false) : allOne xs = false := by
  rw [← Bool.not_eq_true]
  intro ha
  rw [(allOne_iff xs).1 ha j hj] at h; cases h

/-- Is x among them? -/
def hasB (xs : List Int) (x : Int) : Bool := decide (x ∈ xs)
theorem hasB_iff (xs : List Int) (x : Int) : hasB xs x = true ↔ x ∈ xs := by simp [hasB]
theorem hasB_at {xs : List Int} {x : Int} {j : Nat} (hj : j < xs.length) (h : x = xs.getD j 0) : hasB xs x = true :=
  (hasB_iff _ _).2 (mem_getD.2 ⟨j, hj, h.symm⟩)
theorem hasB_no {xs : List Int} {x : Int} (h : ∀ j, j < xs.length → x ≠ xs.getD j 0) : hasB xs x = false := by
  rw [← Bool.not_eq_true, hasB_iff, mem_getD]
  rintro ⟨j, hj, e⟩
  exact h j hj e.symm

/-- Has one of them a place in the other list? -/
def holdsB (xs ys : List Int) : Bool := xs.any (hasB ys)
theorem holdsB_at {xs ys : List Int} {j : Nat} (hj : j < xs.length) (h : hasB ys (xs.getD j 0) = true) : holdsB xs ys = true := by
  unfold holdsB
  rw [List.any_eq_true]
  exact ⟨_, mem_getD.2 ⟨j, hj, rfl⟩, h⟩
theorem holdsB_no {xs ys : List Int} (h : ∀ j, j < xs.length → hasB ys (xs.getD j 0) = false) : holdsB xs ys = false := by
  unfold holdsB
  rw [List.any_eq_false]
  intro x hx
  obtain ⟨j, hj, rfl⟩ := mem_getD.1 hx
  rw [h j hj]; exact Bool.false_ne_true

/-- The same numbers, in order? -/
def sameB (xs ys : List Int) : Bool := decide (xs = ys)
theorem sameB_iff (xs ys : List Int) : sameB xs ys = true ↔ xs = ys := by simp [sameB]
theorem sameB_len {xs ys : List Int} (h : xs.length ≠ ys.length) : sameB xs ys = false := by
  rw [← Bool.not_eq_true, sameB_iff]; intro e; exact h (by rw [e])
theorem sameB_at {xs ys : List Int} {j : Nat} (h : xs.getD j 0 ≠ ys.getD j 0) : sameB xs ys = false := by
  rw [← Bool.not_eq_true, sameB_iff]; intro e; exact h (by rw [e])
theorem sameB_yes {xs ys : List Int} (hl : xs.length = ys.length) (h : ∀ j, j < xs.length → xs.getD j 0 = ys.getD j 0) : sameB xs ys = true := by
  rw [sameB_iff]
  apply List.ext_getElem hl
  intro i h1 h2
  have := h i h1
  rwa [getD_lt h1, getD_lt h2] at this
end Go.Proofs.YtkckodpfhlpkgaaGreat
