/- Plain facts on how many words there are, and how long they are. -/
import Derived.Test.YtcfbnddoknpehaaGreatDoorParse
namespace Go.Proofs.YtcfbnddoknpehaaGreatDoor
open Words CnfP

theorem goW_count : ∀ (l acc : List UInt8), (goW acc l).length ≤ acc.length + l.length
  | [], acc => by
    simp only [goW]
    rcases acc with _ | ⟨a, b⟩ <;> simp
  | c :: cs, acc => by
    simp only [goW]
    have i1 := goW_count cs []
    have i2 := goW_count cs (acc ++ [c])
    simp only [List.length_append, List.length_cons, List.length_nil] at i1 i2 ⊢
    split
    · split
      · omega
      · rename_i h
        have : 1 ≤ acc.length := by
          rcases acc with _ | ⟨a, b⟩
          · simp at h
          · simp
        simp only [List.length_cons]; omega
    · omega
theorem goW_len : ∀ (l acc : List UInt8), ∀ w ∈ goW acc l, w.length ≤ acc.length + l.length
  | [], acc, w, h => by
    simp only [goW] at h
    split at h
    · simp at h
    · simp at h; subst h; simp
  | c :: cs, acc, w, h => by
    have i1 := goW_len cs [] w
    have i2 := goW_len cs (acc ++ [c]) w
    simp only [List.length_append, List.length_cons, List.length_nil] at i1 i2 ⊢
    simp only [goW] at h
    split at h
    · split at h
      · have := i1 h; omega
      · rcases List.mem_cons.1 h with rfl | h
        · omega
        · have := i1 h; omega
    · have := i2 h; omega
theorem lineW_count (l : List UInt8) : (lineW l).length ≤ l.length := by
  unfold lineW
  split
  · simp
  · have := goW_count l []; simpa using this
theorem lineW_len (l : List UInt8) : ∀ w ∈ lineW l, w.length ≤ l.length := by
  unfold lineW
  split
  · simp
  · intro w h; have := goW_len l [] w h; simpa using this
theorem goL_count : ∀ (s line : List UInt8), (goL line s).length ≤ line.length + s.length
  | [], line => by simp only [goL]; have := lineW_count line; simp; omega
  | c :: cs, line => by
    have i1 := goL_count cs []
    have i2 := goL_count cs (line ++ [c])
    have i3 := lineW_count line
    simp only [List.length_append, List.length_cons, List.length_nil] at i1 i2 ⊢
    simp only [goL]
    split
    · simp only [List.length_append]; omega
    · omega
theorem goL_len : ∀ (s line : List UInt8), ∀ w ∈ goL line s, w.length ≤ line.length + s.length
  | [], line, w, h => by simp only [goL] at h; have := lineW_len line w h; simp; omega
  | c :: cs, line, w, h => by
    have i1 := goL_len cs [] w
    have i2 := goL_len cs (line ++ [c]) w
    simp only [List.length_append, List.length_cons, List.length_nil] at i1 i2 ⊢
    simp only [goL] at h
    split at h
    · rcases List.mem_append.1 h with h | h
      · have := lineW_len line w h; omega
      · have := i1 h; omega
    · have := i2 h; omega
theorem left_count (L S : List UInt8) : (left L S).length ≤ L.length + S.length := by
  unfold left
  have := goW_count L []
  have := goL_count S []
  simp only [List.length_append, List.length_nil] at *
  omega
theorem left_len {L S : List UInt8} {N : Nat} (hL : L.length < N) (hS : S.length < N) : ∀ w ∈ left L S, w.length < N := by
  unfold left
  intro w h
  rcases List.mem_append.1 h with h | h
  · have := goW_len L [] w h; simp at this; omega
  · have := goL_len S [] w h; simp at this; omega
theorem head_len {L S : List UInt8} {N : Nat} (hN : 0 < N) (hL : L.length < N) (hS : S.length < N) : ((left L S).headD []).length < N := by
  rcases hl : left L S with _ | ⟨a, b⟩
  · simpa using hN
  · exact left_len hL hS a (by rw [hl]; simp)

theorem clauseOf_count : ∀ (ws : List (List UInt8)) (c : List Int) (r : List (List UInt8)), clauseOf ws = some (c, r) → c.length + r.length + 1 = ws.length
  | [], c, r, h => by cases h
  | w :: ws, c, r, h => by
    simp only [clauseOf] at h
    split at h
    · cases h
    · split at h
      · injection h with h
        injection h with h1 h2
        subst h1; subst h2; simp
      · rw [Option.map_eq_some_iff] at h
        obtain ⟨q, hq, e⟩ := h
        injection e with e1 e2
        subst e1; subst e2
        have := clauseOf_count ws q.1 q.2 hq
        simp; omega
theorem clausesOf_count : ∀ (k : Nat) (ws : List (List UInt8)) (cs : List (List Int)) (r : List (List UInt8)), clausesOf k ws = some (cs, r) → total cs + cs.length + r.length = ws.length
  | 0, ws, cs, r, h => by
    simp only [clausesOf] at h
    injection h with h
    injection h with h1 h2
    subst h1; subst h2; simp [total]
  | k + 1, ws, cs, r, h => by
    simp only [clausesOf] at h
    split at h
    · cases h
    · rename_i p hp
      rw [Option.map_eq_some_iff] at h
      obtain ⟨q, hq, e⟩ := h
      injection e with e1 e2
      subst e1
      have h1 := clauseOf_count ws p.1 p.2 hp
      have h2 := clausesOf_count k p.2 q.1 q.2 hq
      rw [total_cons]
      subst e2
      simp only [List.length_cons]; omega
theorem clauseOf_bd : ∀ (ws : List (List UInt8)) (c : List Int) (r : List (List UInt8)), clauseOf ws = some (c, r) → ∀ l ∈ c, -999999999 ≤ l ∧ l ≤ 999999999
  | [], c, r, h => by cases h
  | w :: ws, c, r, h => by
    simp only [clauseOf] at h
    split at h
    · cases h
    · rename_i n hn
      split at h
      · injection h with h
        injection h with h1 h2
        subst h1; simp
      · rw [Option.map_eq_some_iff] at h
        obtain ⟨q, hq, e⟩ := h
        injection e with e1 e2
        subst e1
        have := clauseOf_bd ws q.1 q.2 hq
        intro l hl
        rcases List.mem_cons.1 hl with rfl | hl
        · exact numOf_bd hn
        · exact this l hl
/-- One word of a clause. -/
theorem clauseOf_step {ws : List (List UInt8)} {n : Int} (hn : numOf (ws.headD []) = some n) : clauseOf ws = if n = 0 then some ([], ws.tail) else (clauseOf ws.tail).map (fun p => (n :: p.1, p.2)) := by
  rcases ws with _ | ⟨w, t⟩
  · cases hn
  · simp only [List.headD_cons] at hn
    simp [clauseOf, hn]
theorem clauseOf_stop {ws : List (List UInt8)} (hn : numOf (ws.headD []) = none) : clauseOf ws = none := by
  rcases ws with _ | ⟨w, t⟩
  · rfl
  · simp only [List.headD_cons] at hn
    simp [clauseOf, hn]
theorem num_ne {ws : List (List UInt8)} {n : Int} (hn : numOf (ws.headD []) = some n) : ws.tail.length + 1 = ws.length := by
  rcases ws with _ | ⟨w, t⟩
  · cases hn
  · simp
end Go.Proofs.YtcfbnddoknpehaaGreatDoor
