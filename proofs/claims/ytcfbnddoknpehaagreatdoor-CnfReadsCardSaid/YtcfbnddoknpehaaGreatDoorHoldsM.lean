/- Values that read as a list of bools; whether a clause, a formula holds by them. -/
import Derived.Test.YtcfbnddoknpehaaGreatDoorRdF
namespace Go.Proofs.YtcfbnddoknpehaaGreatDoor
open Go.RowKit LitM CnfP

/-- The slice with address A and length n holds the bools bs, in a block below B. -/
structure RdB (w : World) (B : Nat) (A : Option Addr) (n : Nat) (bs : List Bool) : Prop where
  len : bs.length = n
  at_ : 0 < n → ∃ b o, A = some ⟨b, o, none⟩ ∧ b < B ∧ ∀ j, j < n → w.cell? ⟨b, o + j, none⟩ = some (.bool (bs.getD j false))
theorem RdB.nil {w : World} {B : Nat} {A : Option Addr} : RdB w B A 0 [] := ⟨rfl, fun h => absurd h (by omega)⟩
theorem RdB.get {w : World} {B n : Nat} {A : Option Addr} {bs : List Bool} (h : RdB w B A n bs) {j : Nat} (hj : j < n) :
    ∃ b o, A = some ⟨b, o, none⟩ ∧ b < B ∧ w.cell? ⟨b, o + j, none⟩ = some (.bool (bs.getD j false)) := by
  obtain ⟨b, o, e, hb, hc⟩ := h.at_ (by omega)
  exact ⟨b, o, e, hb, hc j hj⟩
theorem RdB.keep {w w' : World} {B n : Nat} {A : Option Addr} {bs : List Bool} (h : RdB w B A n bs) (hk : ∀ p : Addr, p.block < B → w'.cell? p = w.cell? p) : RdB w' B A n bs :=
  ⟨h.len, fun hn => by
    obtain ⟨b, o, e, hb, hc⟩ := h.at_ hn
    exact ⟨b, o, e, hb, fun j hj => (hk ⟨b, o + j, none⟩ hb).trans (hc j hj)⟩⟩
theorem RdB.more {w : World} {B B' n : Nat} {A : Option Addr} {bs : List Bool} (h : RdB w B A n bs) (hB : B ≤ B') : RdB w B' A n bs :=
  ⟨h.len, fun hn => by
    obtain ⟨b, o, e, hb, hc⟩ := h.at_ hn
    exact ⟨b, o, e, by omega, hc⟩⟩
theorem RdB.below {w w' : World} {B n : Nat} {A : Option Addr} {bs : List Bool} (h : RdB w B A n bs) (hb : Below B w w') : RdB w' B A n bs := h.keep fun _ hp => hb.cell hp
theorem RdB.alloc {w : World} {B n : Nat} {A : Option Addr} {bs : List Bool} (h : RdB w B A n bs) (hB : B ≤ w.heap.size) (o : Obj) : RdB (w.alloc o) B A n bs :=
  h.keep fun p hp => World.cell?_alloc_lt w o p (by omega)

/-- Is a literal true? -/
def trueB (bs : List Bool) (l : Int) : Bool := bs.getD (varZ l - 1).toNat false == decide (0 < l)
def clauseH (bs : List Bool) (c : List Int) : Bool := c.any (trueB bs)
/-- Where the first clause is that doesn't hold; -1, if there is none. -/
def falseAt (bs : List Bool) : List (List Int) → Int
  | [] => -1
  | c :: cs => if clauseH bs c then (if falseAt bs cs = -1 then -1 else falseAt bs cs + 1) else 0
theorem falseAt_ge (bs : List Bool) : ∀ cs, -1 ≤ falseAt bs cs
  | [] => by simp [falseAt]
  | c :: cs => by
    have := falseAt_ge bs cs
    unfold falseAt
    split
    · split <;> omega
    · omega
theorem falseAt_le (bs : List Bool) : ∀ cs, falseAt bs cs ≤ cs.length
  | [] => by simp [falseAt]
  | c :: cs => by
    have := falseAt_le bs cs
    unfold falseAt
    split
    · split
      · simp; omega
      · simp; omega
    · simp; omega
theorem falseAt_at (bs : List Bool) : ∀ (cs : List (List Int)) (k : Nat), k < cs.length → clauseH bs (cs.getD k []) = false → (∀ j, j < k → clauseH bs (cs.getD j []) = true) → falseAt bs cs = k
  | [], k, h, _, _ => absurd h (by simp)
  | c :: cs, 0, _, h, _ => by
    have : clauseH bs c = false := by simpa using h
    simp [falseAt, this]
  | c :: cs, k + 1, hk, h, hall => by
    have h0 : clauseH bs c = true := by simpa using hall 0 (by omega)
    have ih := falseAt_at bs cs k (by simpa using hk) (by simpa using h) (fun j hj => by simpa using hall (j + 1) (by omega))
    unfold falseAt
    rw [h0, ih]
    simp
theorem falseAt_no (bs : List Bool) : ∀ (cs : List (List Int)), (∀ j, j < cs.length → clauseH bs (cs.getD j []) = true) → falseAt bs cs = -1
  | [], _ => rfl
  | c :: cs, hall => by
    have h0 : clauseH bs c = true := by simpa using hall 0 (by simp)
    have ih := falseAt_no bs cs (fun j hj => by simpa using hall (j + 1) (by simpa using hj))
    unfold falseAt
    rw [h0, ih]
    simp
theorem rightF_clause {v : Int} {cs : List (List Int)} (h : rightF v cs = true) {j : Nat} (hj : j < cs.length) : ∀ l ∈ cs.getD j [], 1 ≤ varZ l ∧ varZ l ≤ v := by
  unfold rightF at h
  simp only [Bool.and_eq_true, List.all_eq_true] at h
  rw [getF_lt hj]
  have := h.2 _ (List.getElem_mem hj)
  intro l hl
  unfold clauseB at this
  rw [List.all_eq_true] at this
  have := this l hl
  unfold litB at this
  rw [Bool.and_eq_true, decide_eq_true_eq] at this
  have h0 := (varZ_zero l)
  have h1 := (varZ_bd l)
  have h2 : varZ l ≠ 0 := fun e => by rw [h0.1 e] at this; cases this.1
  omega
theorem rightF_v {v : Int} {cs : List (List Int)} (h : rightF v cs = true) : 0 ≤ v ∧ v ≤ 262144 ∧ total cs ≤ 4194304 := by
  unfold rightF at h
  simp only [Bool.and_eq_true, decide_eq_true_eq] at h
  omega
end Go.Proofs.YtcfbnddoknpehaaGreatDoor
