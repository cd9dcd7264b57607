/- Plain facts on the plain answer's reading, word by word; a slice of words that reads cell by cell. -/
import Derived.Test.YtcfbnddoknpehaaGreatDoorPWords
import Derived.Test.YtcfbnddoknpehaaGreatDoorFormW
import Derived.Test.YtcfbnddoknpehaaGreatDoorPRight
namespace Go.Proofs.YtcfbnddoknpehaaGreatDoor
open Go.RowKit LitM CnfP Words

theorem form_short {ws : List (List UInt8)} (h : ws.length < 4) : formulaOf ws = none := by
  match ws, h with
  | [], _ => rfl
  | [a], _ => rfl
  | [a, b], _ => rfl
  | [a, b, c], _ => rfl
  | a :: b :: c :: d :: t, h => simp at h; omega
theorem form_get {ws : List (List UInt8)} (h : 4 ≤ ws.length) : formulaOf ws = if ws.getD 0 [] = pW ∧ ws.getD 1 [] = cnfW then
    (match numOf (ws.getD 2 []), numOf (ws.getD 3 []) with
      | some v, some m => bodyOf v m (ws.drop 4)
      | _, _ => none) else none := by
  match ws, h with
  | [], h => simp at h
  | [a], h => simp at h
  | [a, b], h => simp at h
  | [a, b, c], h => simp at h
  | a :: b :: c :: d :: t, _ => rfl
theorem form_head {ws : List (List UInt8)} (h : 4 ≤ ws.length) (hh : ¬ (ws.getD 0 [] = pW ∧ ws.getD 1 [] = cnfW)) : formulaOf ws = none := by
  rw [form_get h, if_neg hh]
theorem drop_word {ws : List (List UInt8)} {j : Nat} (h : j < ws.length) : ws.drop j = ws.getD j [] :: ws.drop (j + 1) := by
  rw [List.drop_eq_getElem_cons h, List.getD_eq_getElem?_getD, List.getElem?_eq_getElem h]; rfl
/-- Where the reading stands behind k of the words that follow the second one. -/
def RS (ws : List (List UInt8)) (k : Nat) (v m : Int) (F : List (List Int)) (cur : List Int) : Prop :=
  (k = 0 ∧ F = [] ∧ cur = []) ∨ (k = 1 ∧ F = [] ∧ cur = [] ∧ numOf (ws.getD 2 []) = some v) ∨
  (2 ≤ k ∧ numOf (ws.getD 2 []) = some v ∧ numOf (ws.getD 3 []) = some m ∧ refGo [] [] (ws.drop 4) = refGo F cur (ws.drop (k + 2)))
theorem ref_none {ws : List (List UInt8)} {v m : Int} (h : refGo [] [] ws = none) : bodyOf v m ws = none := by
  rw [← refBody_eq]; unfold refBody; rw [h]
theorem form_none {ws : List (List UInt8)} (h : 4 ≤ ws.length) (hr : refGo [] [] (ws.drop 4) = none) : formulaOf ws = none := by
  rw [form_get h]
  split
  · split
    · exact ref_none hr
    · rfl
  · rfl
theorem rs_stop {ws : List (List UInt8)} {k : Nat} {v m : Int} {F : List (List Int)} {cur : List Int} (h : RS ws k v m F cur) (hk : k + 2 < ws.length) (hl : 4 ≤ ws.length) (hn : numOf (ws.getD (k + 2) []) = none) : formulaOf ws = none := by
  rcases h with ⟨rfl, _⟩ | ⟨rfl, _⟩ | ⟨h2, h3, h4, h5⟩
  · rw [form_get hl]
    simp only [Nat.zero_add] at hn
    rw [hn]
    split <;> rfl
  · rw [form_get hl]
    rw [show (1 + 2 : Nat) = 3 from rfl] at hn
    rw [hn]
    split
    · cases numOf (ws.getD 2 []) <;> rfl
    · rfl
  · refine form_none hl ?_
    rw [h5, drop_word hk]
    simp only [refGo, hn]
theorem rs_far {ws : List (List UInt8)} {k : Nat} {v m n : Int} {F : List (List Int)} {cur : List Int} (h : RS ws k v m F cur) (h2 : 2 ≤ k) (hk : k + 2 < ws.length) (hl : 4 ≤ ws.length) (hn : numOf (ws.getD (k + 2) []) = some n) (hb : 262144 < n ∨ n < -262144) : formulaOf ws = none := by
  rcases h with ⟨rfl, _⟩ | ⟨rfl, _⟩ | ⟨h2, h3, h4, h5⟩
  · omega
  · omega
  · refine form_none hl ?_
    rw [h5, drop_word hk]
    simp only [refGo, hn]
    rw [if_pos hb]
theorem rs_zero {ws : List (List UInt8)} {k : Nat} {v m : Int} {F : List (List Int)} {cur : List Int} (h : RS ws k v m F cur) (h2 : 2 ≤ k) (hk : k + 2 < ws.length) (hn : numOf (ws.getD (k + 2) []) = some 0) : RS ws (k + 1) v m (F ++ [cur]) [] := by
  rcases h with ⟨rfl, _⟩ | ⟨rfl, _⟩ | ⟨_, h3, h4, h5⟩
  · omega
  · omega
  · refine .inr (.inr ⟨by omega, h3, h4, ?_⟩)
    rw [h5, drop_word hk]
    simp only [refGo, hn]
    rw [if_neg (by omega), if_pos trivial, show k + 2 + 1 = k + 1 + 2 from by omega]
theorem rs_more {ws : List (List UInt8)} {k : Nat} {v m n : Int} {F : List (List Int)} {cur : List Int} (h : RS ws k v m F cur) (h2 : 2 ≤ k) (hk : k + 2 < ws.length) (hn : numOf (ws.getD (k + 2) []) = some n) (h0 : n ≠ 0) (hb : ¬ (262144 < n ∨ n < -262144)) : RS ws (k + 1) v m F (cur ++ [n]) := by
  rcases h with ⟨rfl, _⟩ | ⟨rfl, _⟩ | ⟨_, h3, h4, h5⟩
  · omega
  · omega
  · refine .inr (.inr ⟨by omega, h3, h4, ?_⟩)
    rw [h5, drop_word hk]
    simp only [refGo, hn]
    rw [if_neg hb, if_neg h0, show k + 2 + 1 = k + 1 + 2 from by omega]
theorem rs_end {ws : List (List UInt8)} {k : Nat} {v m : Int} {F : List (List Int)} {cur : List Int} (h : RS ws k v m F cur) (hk : k + 2 = ws.length) (hl : 4 ≤ ws.length) (hh : ws.getD 0 [] = pW ∧ ws.getD 1 [] = cnfW) :
    formulaOf ws = if cur = [] ∧ (F.length : Int) = m ∧ rightF v F = true then some (v, F) else none := by
  rcases h with ⟨rfl, _⟩ | ⟨rfl, _⟩ | ⟨h2, h3, h4, h5⟩
  · omega
  · omega
  · have h6 : refGo [] [] (ws.drop 4) = some (F, cur) := by rw [h5, show ws.drop (k + 2) = [] from List.drop_eq_nil_of_le (by omega)]; rfl
    rw [form_get hl, if_pos hh, h3, h4]
    show bodyOf v m (ws.drop 4) = _
    rw [← refBody_eq]
    unfold refBody
    rw [h6]
    cases cur with
    | nil =>
      show (if (F.length : Int) = m ∧ rightF v F = true then some (v, F) else none) = _
      by_cases hc : (F.length : Int) = m ∧ rightF v F = true
      · rw [if_pos hc, if_pos ⟨rfl, hc⟩]
      · rw [if_neg hc, if_neg (fun x => hc x.2)]
    | cons a t => rw [if_neg (by simp)]
theorem rs_at0 {ws : List (List UInt8)} {v m n : Int} {F : List (List Int)} {cur : List Int} (h : RS ws 0 v m F cur) (hn : numOf (ws.getD 2 []) = some n) : RS ws 1 n m F cur := by
  rcases h with ⟨_, h1, h2⟩ | ⟨h, _⟩ | ⟨h, _⟩
  · exact .inr (.inl ⟨rfl, h1, h2, hn⟩)
  · omega
  · omega
theorem rs_at1 {ws : List (List UInt8)} {v m n : Int} {F : List (List Int)} {cur : List Int} (h : RS ws 1 v m F cur) (hn : numOf (ws.getD 3 []) = some n) : RS ws 2 v n F cur := by
  rcases h with ⟨h, _⟩ | ⟨_, h1, h2, h3⟩ | ⟨h, _⟩
  · omega
  · subst h1; subst h2
    exact .inr (.inr ⟨by omega, h3, hn, rfl⟩)
  · omega
/-- Bounds behind k words. -/
def RB (k : Nat) (v m : Int) (F : List (List Int)) (cur : List Int) : Prop :=
  total F + F.length + cur.length ≤ k ∧ (∀ c ∈ F, ∀ l ∈ c, -262144 ≤ l ∧ l ≤ 262144) ∧ (∀ l ∈ cur, -262144 ≤ l ∧ l ≤ 262144) ∧ -999999999 ≤ v ∧ v ≤ 999999999 ∧ -999999999 ≤ m ∧ m ≤ 999999999
theorem rb_start : RB 0 0 0 [] [] := ⟨by simp [total], by simp, by simp, by omega, by omega, by omega, by omega⟩
theorem rb_zero {k : Nat} {v m : Int} {F : List (List Int)} {cur : List Int} (h : RB k v m F cur) : RB (k + 1) v m (F ++ [cur]) [] := by
  obtain ⟨h1, h2, h3, h4⟩ := h
  refine ⟨?_, fun c hc => ?_, by simp, h4⟩
  · rw [total_append, total_cons, total_nil]; simp; omega
  · rcases List.mem_append.1 hc with h | h
    · exact h2 c h
    · rw [List.mem_singleton] at h; subst h; exact h3
theorem rb_more {k : Nat} {v m n : Int} {F : List (List Int)} {cur : List Int} (h : RB k v m F cur) (hb : ¬ (262144 < n ∨ n < -262144)) : RB (k + 1) v m F (cur ++ [n]) := by
  obtain ⟨h1, h2, h3, h4⟩ := h
  refine ⟨by simp; omega, h2, fun l hl => ?_, h4⟩
  rcases List.mem_append.1 hl with h | h
  · exact h3 l h
  · rw [List.mem_singleton] at h; subst h; omega
theorem rb_vars {k : Nat} {v m n : Int} {F : List (List Int)} {cur : List Int} (h : RB k v m F cur) (hb : -999999999 ≤ n ∧ n ≤ 999999999) : RB (k + 1) n m F cur := ⟨by have := h.1; omega, h.2.1, h.2.2.1, hb.1, hb.2, h.2.2.2.2.2⟩
theorem rb_many {k : Nat} {v m n : Int} {F : List (List Int)} {cur : List Int} (h : RB k v m F cur) (hb : -999999999 ≤ n ∧ n ≤ 999999999) : RB (k + 1) v n F cur := ⟨by have := h.1; omega, h.2.1, h.2.2.1, h.2.2.2.1, h.2.2.2.2.1, hb.1, hb.2⟩
theorem rb_ok {k : Nat} {v m : Int} {F : List (List Int)} {cur : List Int} (h : RB k v m F cur) (hk : k ≤ 100000) : Ok32 F :=
  Ok32.of fun c hc => ⟨by have := mem_total F c hc; have := h.1; omega, In32.of fun x hx => by have := h.2.1 c hc x hx; omega⟩

/-- The slice's block g holds the words. -/
def WdsAt (w : World) (g : Nat) (ws : List (List UInt8)) : Prop := g < w.heap.size ∧ ∀ j, j < ws.length → w.cell? ⟨g, j, none⟩ = some (.string ⟨(ws.getD j []).toArray⟩)
theorem OwnS.wds {w : World} {B : Nat} {v : Value} {ws : List (List UInt8)} (h : OwnS w B v ws) (hn : 0 < ws.length) :
    ∃ g c, v = .slice (some ⟨g, 0, none⟩) ws.length c ∧ ws.length ≤ c ∧ c ≤ maxLen ∧ B ≤ g ∧ WdsAt w g ws := by
  have hlt := fun b => World.ownsRow.lt h b
  have hc := fun b => World.ownsRow.cells h (g := b)
  rcases h.2 with ⟨_, h0⟩ | ⟨g, cap, cur, rfl, hb, _, h1, h2, _⟩
  · omega
  · refine ⟨g, cap, rfl, h1, h2, hb, (hlt g rfl).2, fun j hj => ?_⟩
    have := hc g rfl j (.string ⟨(ws.getD j []).toArray⟩) (by rw [List.getElem?_map, List.getElem?_eq_getElem hj, List.getD_eq_getElem?_getD, List.getElem?_eq_getElem hj]; rfl)
    rw [← this]
    congr 1
    unfold Addr.add
    split <;> simp_all
theorem WdsAt.kept {w w' : World} {g b : Nat} {ws : List (List UInt8)} (h : WdsAt w g ws) (hk : Kept b w w') (hg : g ≠ b) : WdsAt w' g ws := by
  refine ⟨Nat.lt_of_lt_of_le h.1 hk.size, fun j hj => ?_⟩
  rw [← h.2 j hj]
  have := hk.block g h.1 hg
  simp only [World.cell?, this]
theorem pnum_any (d : List UInt8) (w : World) : Calls Tryz.prog 32 #[.string ⟨d.toArray⟩] w (PNumPost (okB d) (valZ d) w) := by
  cases hm : minusB d with
  | false => exact pnum_plain d w hm
  | true =>
    cases d with
    | nil => cases hm
    | cons c t =>
      have hc : (c == 45) = true := hm
      rw [beq_iff_eq] at hc
      subst hc
      exact pnum_minus t w
/-- Two cells of a block set anew. -/
theorem two_set {w : World} {g : Nat} {a b : Value} {T : TypeId} (h : w.heap[g]? = some (.cells #[a, b] T (0, 0))) (x y : Value) :
    ((w.setCell ⟨g, 0, none⟩ x).setCell ⟨g, 1, none⟩ y).heap[g]? = some (.cells #[x, y] T (0, 0)) := by
  rw [Lib.heap_setCell_same (Lib.heap_setCell_same h x) y]
  rfl
theorem FrmAt.set0 {b : Nat} {v : Int} {u : Value} {w : World} (h : FrmAt b v u w) (n : Int) : FrmAt b n u (w.setCell ⟨b, 0, none⟩ (.int .i64 n)) := by
  unfold FrmAt at *
  simp [World.setCell, Array.getElem?_modify, h]
theorem below_set_both {a w : World} {B : Nat} (h : Below B a w) (p : Addr) (v : Value) : Below B (a.setCell p v) (w.setCell p v) := by
  refine ⟨h.os, h.tape, h.output, by simpa [World.setCell] using h.size, fun k hk => ?_⟩
  have := h.block k hk
  simp only [World.setCell, Array.getElem?_modify, this]
theorem size_set (w : World) (p : Addr) (v : Value) : (w.setCell p v).heap.size = w.heap.size := by simp [World.setCell]
/-- How the test of a word goes. -/
def StopW (ws : List (List UInt8)) (k : Nat) (wd : List UInt8) (ok : Bool) (n : Int) (st : Bool) : Prop :=
  (ok = false ∧ st = true ∧ formulaOf ws = none) ∨ (ok = true ∧ numOf wd = some n ∧ ((k ≤ 1 ∧ st = false) ∨ (2 ≤ k ∧ 262144 < n ∧ st = true ∧ formulaOf ws = none) ∨ (2 ≤ k ∧ n < -262144 ∧ st = true ∧ formulaOf ws = none) ∨
    (2 ≤ k ∧ ¬ (262144 < n ∨ n < -262144) ∧ st = false)))
theorem stop_w {ws : List (List UInt8)} {k : Nat} {v m : Int} {F : List (List Int)} {cur : List Int} (h : RS ws k v m F cur) (hk : k + 2 < ws.length) (hl : 4 ≤ ws.length) :
    ∃ st, StopW ws k (ws.getD (k + 2) []) (okB (ws.getD (k + 2) [])) (if okB (ws.getD (k + 2) []) then valZ (ws.getD (k + 2) []) else 0) st := by
  have hnum : numOf (ws.getD (k + 2) []) = if okB (ws.getD (k + 2) []) then some (valZ (ws.getD (k + 2) [])) else none := rfl
  cases ho : okB (ws.getD (k + 2) []) with
  | false =>
    rw [ho] at hnum
    exact ⟨true, .inl ⟨rfl, rfl, rs_stop h hk hl hnum⟩⟩
  | true =>
    rw [ho] at hnum
    simp only [if_true] at hnum ⊢
    by_cases h2 : 2 ≤ k
    · by_cases hp : 262144 < valZ (ws.getD (k + 2) [])
      · exact ⟨true, .inr ⟨rfl, hnum, .inr (.inl ⟨h2, hp, rfl, rs_far h h2 hk hl hnum (.inl hp)⟩)⟩⟩
      · by_cases hq : valZ (ws.getD (k + 2) []) < -262144
        · exact ⟨true, .inr ⟨rfl, hnum, .inr (.inr (.inl ⟨h2, hq, rfl, rs_far h h2 hk hl hnum (.inr hq)⟩))⟩⟩
        · exact ⟨false, .inr ⟨rfl, hnum, .inr (.inr (.inr ⟨h2, fun x => x.elim hp hq, rfl⟩))⟩⟩
    · exact ⟨false, .inr ⟨rfl, hnum, .inl ⟨by omega, rfl⟩⟩⟩
/-- What Read answers. -/
def PReadP (ws : List (List UInt8)) (w : World) (e : Ending) (w' : World) : Prop :=
  Below w.heap.size w w' ∧ ((∃ v cs A n c, formulaOf ws = some (v, cs) ∧ e = .returned (.tuple #[.agg #[.int .i64 v, .slice A n c], .int .i64 0]) ∧ RdF w' w'.heap.size A n cs) ∨
    (formulaOf ws = none ∧ e = .returned (.tuple #[.agg #[.int .i64 0, .slice none 0 0], .int .i64 22])))
theorem blkP (w : World) (o : Obj) : (w.alloc o).heap[w.heap.size]? = some o := by show (w.heap.push o)[w.heap.size]? = _; simp
end Go.Proofs.YtcfbnddoknpehaaGreatDoor
