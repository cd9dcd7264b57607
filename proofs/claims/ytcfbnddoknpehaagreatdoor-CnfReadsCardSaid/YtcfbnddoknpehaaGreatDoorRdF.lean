/- A slice of slices of numbers that reads as a list of lists. -/
import Derived.Test.YtcfbnddoknpehaaGreatDoorRd
import Derived.Test.YtcfbnddoknpehaaGreatDoorParse
namespace Go.Proofs.YtcfbnddoknpehaaGreatDoor
open Go.RowKit LitM CnfP

/-- The slice with address A and length n holds slices that hold the numbers of cs, all in blocks below B. -/
structure RdF (w : World) (B : Nat) (A : Option Addr) (n : Nat) (cs : List (List Int)) : Prop where
  len : cs.length = n
  at_ : 0 < n → ∃ b o, A = some ⟨b, o, none⟩ ∧ b < B ∧ ∀ j, j < n → ∃ Aj nj cj, w.cell? ⟨b, o + j, none⟩ = some (.slice Aj nj cj) ∧ Rd .i32 w B Aj nj (cs.getD j [])

theorem RdF.nil {w : World} {B : Nat} {A : Option Addr} : RdF w B A 0 [] := ⟨rfl, fun h => absurd h (by omega)⟩
theorem RdF.get {w : World} {B n : Nat} {A : Option Addr} {cs : List (List Int)} (h : RdF w B A n cs) {j : Nat} (hj : j < n) :
    ∃ b o Aj nj cj, A = some ⟨b, o, none⟩ ∧ b < B ∧ w.cell? ⟨b, o + j, none⟩ = some (.slice Aj nj cj) ∧ Rd .i32 w B Aj nj (cs.getD j []) := by
  obtain ⟨b, o, e, hb, hc⟩ := h.at_ (by omega)
  obtain ⟨Aj, nj, cj, h1, h2⟩ := hc j hj
  exact ⟨b, o, Aj, nj, cj, e, hb, h1, h2⟩
theorem RdF.keep {w w' : World} {B n : Nat} {A : Option Addr} {cs : List (List Int)} (h : RdF w B A n cs) (hk : ∀ p : Addr, p.block < B → w'.cell? p = w.cell? p) : RdF w' B A n cs :=
  ⟨h.len, fun hn => by
    obtain ⟨b, o, e, hb, hc⟩ := h.at_ hn
    refine ⟨b, o, e, hb, fun j hj => ?_⟩
    obtain ⟨Aj, nj, cj, h1, h2⟩ := hc j hj
    exact ⟨Aj, nj, cj, (hk ⟨b, o + j, none⟩ hb).trans h1, h2.keep hk⟩⟩
theorem RdF.more {w : World} {B B' n : Nat} {A : Option Addr} {cs : List (List Int)} (h : RdF w B A n cs) (hB : B ≤ B') : RdF w B' A n cs :=
  ⟨h.len, fun hn => by
    obtain ⟨b, o, e, hb, hc⟩ := h.at_ hn
    refine ⟨b, o, e, by omega, fun j hj => ?_⟩
    obtain ⟨Aj, nj, cj, h1, h2⟩ := hc j hj
    exact ⟨Aj, nj, cj, h1, h2.more hB⟩⟩
theorem RdF.below {w w' : World} {B n : Nat} {A : Option Addr} {cs : List (List Int)} (h : RdF w B A n cs) (hb : Below B w w') : RdF w' B A n cs := h.keep fun _ hp => hb.cell hp
theorem RdF.alloc {w : World} {B n : Nat} {A : Option Addr} {cs : List (List Int)} (h : RdF w B A n cs) (hB : B ≤ w.heap.size) (o : Obj) : RdF (w.alloc o) B A n cs :=
  h.keep fun p hp => World.cell?_alloc_lt w o p (by omega)

/-- Clauses of numbers of 32 bits, none longer than memory is. -/
def Ok32 (cs : List (List Int)) : Prop := ∀ j, (cs.getD j []).length ≤ 35184372088832 ∧ In32 (cs.getD j [])
theorem Ok32.of {cs : List (List Int)} (h : ∀ c ∈ cs, c.length ≤ 35184372088832 ∧ In32 c) : Ok32 cs := by
  intro j
  by_cases hj : j < cs.length
  · have : cs.getD j [] = cs[j] := by simp [List.getD, List.getElem?_eq_getElem hj]
    rw [this]; exact h _ (List.getElem_mem hj)
  · have : cs.getD j [] = [] := by simp [List.getD, List.getElem?_eq_none (by omega : cs.length ≤ j)]
    rw [this]; exact ⟨by simp, In32.of (by simp)⟩

theorem getF_lt {cs : List (List Int)} {j : Nat} (h : j < cs.length) : cs.getD j [] = cs[j] := by simp [List.getD, List.getElem?_eq_getElem h]
theorem take_snocF {cs : List (List Int)} {k : Nat} (h : k < cs.length) : cs.take (k + 1) = cs.take k ++ [cs.getD k []] := by
  rw [List.take_succ_eq_append_getElem h, getF_lt h]

/-- What is left of the room for literals behind k clauses. -/
def roomZ (cs : List (List Int)) (k : Nat) : Int := 4194304 - (total (cs.take k) : Int)
theorem roomZ_zero (cs : List (List Int)) : roomZ cs 0 = 4194304 := by simp [roomZ, total]
theorem roomZ_succ {cs : List (List Int)} {k : Nat} (h : k < cs.length) : roomZ cs (k + 1) = roomZ cs k - ((cs.getD k []).length : Int) := by
  unfold roomZ; rw [take_snocF h, total_append]; simp [total]; omega
theorem total_take (cs : List (List Int)) (k : Nat) : total (cs.take k) ≤ total cs := by
  have := total_append (cs.take k) (cs.drop k)
  rw [List.take_append_drop] at this
  omega
theorem right_big {v : Int} {cs : List (List Int)} {k : Nat} (h : roomZ cs k < 0) : rightF v cs = false := by
  have := total_take cs k
  unfold roomZ at h
  unfold rightF
  simp only [Bool.and_eq_false_iff, decide_eq_false_iff_not]
  exact .inl (.inr (by omega))
theorem right_bad {v : Int} {cs : List (List Int)} {k : Nat} (hk : k < cs.length) (h : clauseB v (cs.getD k []) = false) : rightF v cs = false := by
  unfold rightF
  simp only [Bool.and_eq_false_iff]
  refine .inr ?_
  rw [← Bool.not_eq_true, List.all_eq_true]
  intro ha
  rw [getF_lt hk] at h
  rw [ha _ (List.getElem_mem hk)] at h
  cases h
theorem right_yes {v : Int} {cs : List (List Int)} (h0 : 0 ≤ v) (h1 : v ≤ 262144) (h2 : cs.length ≤ 1048576) (h3 : ¬ roomZ cs cs.length < 0) (h4 : ∀ j, j < cs.length → clauseB v (cs.getD j []) = true) : rightF v cs = true := by
  unfold roomZ at h3
  rw [List.take_length] at h3
  unfold rightF
  simp only [Bool.and_eq_true, decide_eq_true_eq, List.all_eq_true]
  refine ⟨⟨⟨⟨h0, h1⟩, h2⟩, by omega⟩, fun c hc => ?_⟩
  obtain ⟨i, hi, rfl⟩ := List.getElem_of_mem hc
  have := h4 i hi
  rwa [getF_lt hi] at this
theorem right_out {v : Int} {cs : List (List Int)} (h : v < 0 ∨ 262144 < v ∨ 1048576 < cs.length) : rightF v cs = false := by
  unfold rightF
  simp only [Bool.and_eq_false_iff, decide_eq_false_iff_not]
  omega
end Go.Proofs.YtcfbnddoknpehaaGreatDoor
