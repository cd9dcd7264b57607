/- Plain facts on formulaOf, word by word. -/
import Derived.Test.YtcfbnddoknpehaaGreatDoorLenM
namespace Go.Proofs.YtcfbnddoknpehaaGreatDoor
open Words CnfP

theorem formulaOf_eq (ws : List (List UInt8)) : formulaOf ws = if ws.headD [] = pW ∧ ws.tail.headD [] = cnfW then
    (match numOf (ws.tail.tail.headD []), numOf (ws.tail.tail.tail.headD []) with
      | some v, some m => bodyOf v m ws.tail.tail.tail.tail
      | _, _ => none) else none := by
  match ws with
  | [] => simp [formulaOf, pW]
  | [a] => simp [formulaOf, cnfW]
  | [a, b] =>
    have : numOf [] = none := rfl
    simp [formulaOf, this]
  | [a, b, c] =>
    have : numOf [] = none := rfl
    simp only [formulaOf, List.headD_cons, List.tail_cons, List.headD_nil, this]
    split
    · split
      · rename_i h; cases h
      · rfl
    · rfl
  | a :: b :: c :: d :: t => rfl
theorem form_1 {ws : List (List UInt8)} (h : ws.headD [] ≠ pW) : formulaOf ws = none := by rw [formulaOf_eq, if_neg (fun x => h x.1)]
theorem form_2 {ws : List (List UInt8)} (h : ws.tail.headD [] ≠ cnfW) : formulaOf ws = none := by rw [formulaOf_eq, if_neg (fun x => h x.2)]
theorem form_3 {ws : List (List UInt8)} (h : numOf (ws.tail.tail.headD []) = none) : formulaOf ws = none := by
  rw [formulaOf_eq, h]
  split <;> rfl
theorem form_4 {ws : List (List UInt8)} (h : numOf (ws.tail.tail.tail.headD []) = none) : formulaOf ws = none := by
  rw [formulaOf_eq, h]
  split
  · cases numOf (ws.tail.tail.headD []) <;> rfl
  · rfl
theorem form_5 {ws : List (List UInt8)} {v m : Int} (h1 : ws.headD [] = pW) (h2 : ws.tail.headD [] = cnfW) (h3 : numOf (ws.tail.tail.headD []) = some v) (h4 : numOf (ws.tail.tail.tail.headD []) = some m) :
    formulaOf ws = bodyOf v m ws.tail.tail.tail.tail := by
  rw [formulaOf_eq, if_pos ⟨h1, h2⟩, h3, h4]
theorem body_out {v m : Int} {ws : List (List UInt8)} (h : ¬ (0 ≤ m ∧ m ≤ 1048576)) : bodyOf v m ws = none := by
  unfold bodyOf; rw [if_neg h]
theorem body_none {v m : Int} {ws : List (List UInt8)} (h : clausesOf m.toNat ws = none) : bodyOf v m ws = none := by
  unfold bodyOf
  rw [h]
  split <;> rfl
theorem body_more {v m : Int} {ws : List (List UInt8)} {cs : List (List Int)} {a : List UInt8} {r : List (List UInt8)} (h : clausesOf m.toNat ws = some (cs, a :: r)) : bodyOf v m ws = none := by
  unfold bodyOf
  rw [h]
  split <;> rfl
theorem body_wrong {v m : Int} {ws : List (List UInt8)} {cs : List (List Int)} (h : clausesOf m.toNat ws = some (cs, [])) (hr : rightF v cs = false) : bodyOf v m ws = none := by
  unfold bodyOf
  rw [h]
  simp [hr]
theorem body_yes {v m : Int} {ws : List (List UInt8)} {cs : List (List Int)} (hm : 0 ≤ m ∧ m ≤ 1048576) (h : clausesOf m.toNat ws = some (cs, [])) (hr : rightF v cs = true) : bodyOf v m ws = some (v, cs) := by
  unfold bodyOf
  rw [if_pos hm, h]
  simp [hr]

/-- Where the clauses' reading stands: cs is read, j clauses are still to come. -/
def Stood (m : Nat) (ws : List (List UInt8)) (cs : List (List Int)) (j : Nat) (rest : List (List UInt8)) : Prop :=
  clausesOf m ws = (clausesOf j rest).map (fun q => (cs ++ q.1, q.2))
theorem stood_start (m : Nat) (ws : List (List UInt8)) : Stood m ws [] m ws := by
  unfold Stood
  cases clausesOf m ws <;> simp
theorem stood_next {m j : Nat} {ws rest r : List (List UInt8)} {cs : List (List Int)} {c : List Int} (h : Stood m ws cs (j + 1) rest) (hc : clauseOf rest = some (c, r)) : Stood m ws (cs ++ [c]) j r := by
  unfold Stood at *
  rw [h]
  simp only [clausesOf, hc, Option.map_map]
  congr 1
  funext q
  simp
theorem stood_stop {m j : Nat} {ws rest : List (List UInt8)} {cs : List (List Int)} (h : Stood m ws cs (j + 1) rest) (hc : clauseOf rest = none) : clausesOf m ws = none := by
  unfold Stood at h
  rw [h]
  simp [clausesOf, hc]
theorem stood_end {m : Nat} {ws rest : List (List UInt8)} {cs : List (List Int)} (h : Stood m ws cs 0 rest) : clausesOf m ws = some (cs, rest) := by
  unfold Stood at h
  rw [h]
  simp [clausesOf]
theorem goL_ne : ∀ (s line : List UInt8), ∀ w ∈ goL line s, w ≠ []
  | [], line, w, h => by
    simp only [goL, lineW] at h
    split at h
    · simp at h
    · exact words_ne line [] w h
  | c :: cs, line, w, h => by
    simp only [goL] at h
    split at h
    · rcases List.mem_append.1 h with h | h
      · simp only [lineW] at h
        split at h
        · simp at h
        · exact words_ne line [] w h
      · exact goL_ne cs [] w h
    · exact goL_ne cs _ w h
theorem left_words {L S : List UInt8} : ∀ w ∈ left L S, w ≠ [] := by
  unfold left
  intro w h
  rcases List.mem_append.1 h with h | h
  · exact words_ne L [] w h
  · exact goL_ne S [] w h
theorem clausesOf_bd : ∀ (k : Nat) (ws : List (List UInt8)) (cs : List (List Int)) (r : List (List UInt8)), clausesOf k ws = some (cs, r) → ∀ c ∈ cs, ∀ l ∈ c, -999999999 ≤ l ∧ l ≤ 999999999
  | 0, ws, cs, r, h => by
    simp only [clausesOf] at h
    injection h with h
    injection h with h1 h2
    subst h1; simp
  | k + 1, ws, cs, r, h => by
    simp only [clausesOf] at h
    split at h
    · cases h
    · rename_i p hp
      rw [Option.map_eq_some_iff] at h
      obtain ⟨q, hq, e⟩ := h
      injection e with e1 e2
      subst e1
      have h1 := clauseOf_bd ws p.1 p.2 hp
      have h2 := clausesOf_bd k p.2 q.1 q.2 hq
      intro c hc
      rcases List.mem_cons.1 hc with rfl | hc
      · exact h1
      · exact h2 c hc
theorem mem_total : ∀ (cs : List (List Int)) (c : List Int), c ∈ cs → c.length ≤ total cs
  | [], c, h => by simp at h
  | a :: t, c, h => by
    rw [total_cons]
    rcases List.mem_cons.1 h with rfl | h
    · omega
    · have := mem_total t c h; omega
end Go.Proofs.YtcfbnddoknpehaaGreatDoor
