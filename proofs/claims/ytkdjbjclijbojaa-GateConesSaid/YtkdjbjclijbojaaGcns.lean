/- GateCones, in plain words: marks of a cone, what is needed, that edges agree where the cone's inputs agree; and what the walk asks of memory. -/
import Derived.Test.YtkdjbjclijbojaaGlms
import Derived.Test.YtkdjbjclijbojaaGevl
import Derived.Test.YtkdjbjclijbojaaGtab
namespace Go.Proofs.Ytkdjbjclijbojaa
open Go.RowKit GatM

def inF (D : List Nat) (k j : Nat) : Value := .bool (decide (j ∈ D.take k))
theorem take_snoc {D : List Nat} {k : Nat} (hk : k < D.length) : D.take (k + 1) = D.take k ++ [D.getD k 0] := by
  rw [List.take_succ_eq_append_getElem hk]; simp [List.getD, List.getElem?_eq_getElem hk]
theorem inF_step {D : List Nat} {k : Nat} (hk : k < D.length) (j : Nat) : inF D (k + 1) j = updV (inF D k) (D.getD k 0) (.bool true) j := by
  unfold inF updV
  rw [take_snoc hk]
  by_cases h : j = D.getD k 0
  · rw [if_pos h, decide_eq_true (by rw [h]; simp)]
  · rw [if_neg h]
    have : (j ∈ D.take k ++ [D.getD k 0]) ↔ j ∈ D.take k := by rw [List.mem_append, List.mem_singleton]; exact ⟨fun q => q.resolve_right h, .inl⟩
    rw [decide_eq_decide.2 this]
theorem inF_zero (D : List Nat) (j : Nat) : inF D 0 j = .bool false := by unfold inF; simp
theorem inF_full (D : List Nat) (j : Nat) : inF D D.length j = .bool (decide (j ∈ D)) := by unfold inF; rw [List.take_length]
theorem cone_rise {D : List Nat} (h : D.Pairwise (· < ·)) {k : Nat} (hk : k < D.length) (h0 : 0 < k) : D.getD (k - 1) 0 < D.getD k 0 := by
  have e : D.getD k 0 = D[k] := by simp [List.getD, List.getElem?_eq_getElem hk]
  have e2 : D.getD (k - 1) 0 = D[k - 1] := by simp [List.getD, List.getElem?_eq_getElem (show k - 1 < D.length by omega)]
  rw [e, e2]
  exact List.pairwise_iff_getElem.1 h (k - 1) k (by omega) hk (by omega)
theorem cone_in {gs : Gs} {l D : List Nat} (hw : Wf gs) (hl : AllIn gs l) (hc : ConeL gs l D) {x : Nat} (hx : x ∈ D) : x ≠ 0 ∧ x < gs.length := ((hc.mem x).1 hx).pos hw hl
theorem cone_len {gs : Gs} {l D : List Nat} (hw : Wf gs) (hl : AllIn gs l) (hc : ConeL gs l D) : D.length ≤ gs.length := by
  have hn : D.Nodup := hc.srt.imp fun h => Nat.ne_of_lt h
  have := List.Nodup.length_le_of_subset hn (l₂ := List.range gs.length) fun x hx => List.mem_range.2 (cone_in hw hl hc hx).2
  simpa using this

/-- Is gate j needed, by the edge t or by a gate of D above m? -/
def ndB (gs : Gs) (D : List Nat) (t m j : Nat) : Bool := decide (j = t) || D.any fun q => decide (m < q) && (decide (getG gs q ≠ (0, 0)) && (decide (j = (getG gs q).1 / 2) || decide (j = (getG gs q).2 / 2)))
theorem ndB_iff {gs : Gs} {D : List Nat} {t m j : Nat} : ndB gs D t m j = true ↔ (j = t ∨ ∃ q, q ∈ D ∧ m < q ∧ getG gs q ≠ (0, 0) ∧ (j = (getG gs q).1 / 2 ∨ j = (getG gs q).2 / 2)) := by
  unfold ndB
  rw [Bool.or_eq_true, decide_eq_true_iff, List.any_eq_true]
  simp only [Bool.and_eq_true, Bool.or_eq_true, decide_eq_true_iff]
section
variable {gs : Gs} {e : Nat} {D : List Nat}
theorem all_one (he : e / 2 < gs.length) : AllIn gs [e] := fun x hx => by rw [List.mem_singleton.1 hx]; exact he
theorem nd_start (hw : Wf gs) (he : e / 2 < gs.length) (hc : ConeL gs [e] D) (j : Nat) : ndB gs D (e / 2) (gs.length - 1) j = decide (j = e / 2) := by
  rw [Bool.eq_iff_iff, ndB_iff, decide_eq_true_iff]
  refine ⟨fun h => ?_, .inl⟩
  rcases h with h | ⟨q, hq, h1, _⟩
  · exact h
  · have := cone_in hw (all_one he) hc hq; omega
theorem nd_eq (hw : Wf gs) (he : e / 2 < gs.length) (hc : ConeL gs [e] D) {m : Nat} (hm : m ≠ 0) : decide (m ∈ D) = ndB gs D (e / 2) m m := by
  rw [Bool.eq_iff_iff, ndB_iff, decide_eq_true_iff, hc.mem]
  constructor
  · intro h
    cases h with
    | root h h0 => exact .inl (by rw [List.mem_singleton.1 h])
    | left h hne =>
      have hz := h.pos hw (all_one he)
      exact .inr ⟨_, (hc.mem _).2 h, (hw.lt1 hz.2 hne).1, hne, .inl rfl⟩
    | right h hne =>
      have hz := h.pos hw (all_one he)
      exact .inr ⟨_, (hc.mem _).2 h, (hw.lt1 hz.2 hne).2, hne, .inr rfl⟩
  · rintro (h | ⟨q, hq, _, hne, h⟩)
    · subst h
      exact .root (by simp) hm
    · rcases h with h | h
      · rw [h]; exact .left ((hc.mem q).1 hq) hne
      · rw [h]; exact .right ((hc.mem q).1 hq) hne
/-- A gate that needs nothing. -/
theorem nd_skip {t m j : Nat} (h : ¬ (m + 1 ∈ D ∧ getG gs (m + 1) ≠ (0, 0))) : ndB gs D t m j = ndB gs D t (m + 1) j := by
  rw [Bool.eq_iff_iff, ndB_iff, ndB_iff]
  refine ⟨fun q => ?_, fun q => ?_⟩
  · rcases q with q | ⟨q, h1, h2, h3, h4⟩
    · exact .inl q
    · by_cases e : q = m + 1
      · subst e; exact absurd ⟨h1, h3⟩ h
      · exact .inr ⟨q, h1, by omega, h3, h4⟩
  · rcases q with q | ⟨q, h1, h2, h3, h4⟩
    · exact .inl q
    · exact .inr ⟨q, h1, by omega, h3, h4⟩
theorem nd_step {t m j : Nat} (h1 : m + 1 ∈ D) (h2 : getG gs (m + 1) ≠ (0, 0)) : Value.bool (ndB gs D t m j) = updV (updV (fun j => .bool (ndB gs D t (m + 1) j)) ((getG gs (m + 1)).1 / 2) (.bool true)) ((getG gs (m + 1)).2 / 2) (.bool true) j := by
  unfold updV
  by_cases e2 : j = (getG gs (m + 1)).2 / 2
  · rw [if_pos e2, ndB_iff.2 (.inr ⟨m + 1, h1, by omega, h2, .inr e2⟩)]
  · rw [if_neg e2]
    by_cases e1 : j = (getG gs (m + 1)).1 / 2
    · rw [if_pos e1, ndB_iff.2 (.inr ⟨m + 1, h1, by omega, h2, .inl e1⟩)]
    · rw [if_neg e1]
      congr 1
      rw [Bool.eq_iff_iff, ndB_iff, ndB_iff]
      refine ⟨fun q => ?_, fun q => ?_⟩
      · rcases q with q | ⟨q, h1, h2, h3, h4⟩
        · exact .inl q
        · by_cases e : q = m + 1
          · subst e; rcases h4 with h4 | h4
            · exact absurd h4 e1
            · exact absurd h4 e2
          · exact .inr ⟨q, h1, by omega, h3, h4⟩
      · rcases q with q | ⟨q, h1, h2, h3, h4⟩
        · exact .inl q
        · exact .inr ⟨q, h1, by omega, h3, h4⟩
theorem tru_agree (hw : Wf gs) (he : e / 2 < gs.length) (hc : ConeL gs [e] D) {u v : List Bool} (h : ∀ n, n ∈ D → getG gs n = (0, 0) → inV gs u n = inV gs v n) (n : Nat) : n ∈ D → tru u gs n = tru v gs n := by
  induction n using Nat.strongRecOn with
  | ind n ih =>
    intro hn
    have hz := cone_in hw (all_one he) hc hn
    by_cases hne : getG gs n = (0, 0)
    · rw [tru_in hz.1 hne, tru_in hz.1 hne, h n hn hne]
    · rw [tru_and hw hz.2 hne, tru_and hw hz.2 hne]
      have hl := hw.lt1 hz.2 hne
      have hr := (hc.mem n).1 hn
      have e1 := ih _ hl.1 ((hc.mem _).2 (.left hr hne))
      have e2 := ih _ hl.2 ((hc.mem _).2 (.right hr hne))
      unfold sayE
      rw [e1, e2]
theorem say_agree (hw : Wf gs) (he : e / 2 < gs.length) (hc : ConeL gs [e] D) {u v : List Bool} (h : ∀ n, n ∈ D → getG gs n = (0, 0) → inV gs u n = inV gs v n) : sayE u gs e = sayE v gs e := by
  unfold sayE
  by_cases h0 : e / 2 = 0
  · rw [h0, tru_zero hw, tru_zero hw]
  · rw [tru_agree hw he hc h _ ((hc.mem _).2 (.root (by simp) h0))]
/-- The second row, behind k inputs. -/
def mixB (gs : Gs) (D : List Nat) (r1 r2 k j : Nat) : Bool := if j < k ∧ (insL gs).getD j 0 / 2 ∈ D then (rowV r1).getD j false else (rowV r2).getD j false
def mixL (gs : Gs) (D : List Nat) (r1 r2 : Nat) : List Bool := (List.range 6).map (mixB gs D r1 r2 (insL gs).length)
theorem mixL_get (r1 r2 : Nat) {j : Nat} (hj : j < 6) : (mixL gs D r1 r2).getD j false = mixB gs D r1 r2 (insL gs).length j := by
  unfold mixL
  rw [List.getD, List.getElem?_map, List.getElem?_range hj]; rfl
theorem mix_say (hw : Wf gs) (he : e / 2 < gs.length) (hc : ConeL gs [e] D) (h6 : (insL gs).length ≤ 6) (r1 r2 : Nat) : sayE (rowV r1) gs e = sayE (mixL gs D r1 r2) gs e := by
  refine say_agree hw he hc fun n hn h0 => ?_
  have hz := cone_in hw (all_one he) hc hn
  obtain ⟨p1, p2⟩ := ins_at hz.2 hz.1 h0
  unfold inV
  rw [mixL_get r1 r2 (by omega)]
  unfold mixB
  rw [if_pos ⟨p1, by rw [p2]; have : 2 * n / 2 = n := by omega
                     rw [this]; exact hn⟩]
theorem mix_step {r1 r2 k j : Nat} (h : (insL gs).getD k 0 / 2 ∈ D) : Value.bool (mixB gs D r1 r2 (k + 1) j) = updV (fun j => .bool (mixB gs D r1 r2 k j)) k (.bool ((rowV r1).getD k false)) j := by
  unfold updV
  by_cases e : j = k
  · subst e; rw [if_pos rfl]; unfold mixB; rw [if_pos ⟨by omega, h⟩]
  · rw [if_neg e]
    congr 1
    unfold mixB
    by_cases h1 : j < k ∧ (insL gs).getD j 0 / 2 ∈ D
    · rw [if_pos h1, if_pos ⟨by omega, h1.2⟩]
    · rw [if_neg h1, if_neg fun q => h1 ⟨by omega, q.2⟩]
theorem mix_skip {r1 r2 k j : Nat} (h : ¬ (insL gs).getD k 0 / 2 ∈ D) : mixB gs D r1 r2 (k + 1) j = mixB gs D r1 r2 k j := by
  unfold mixB
  by_cases h1 : j < k ∧ (insL gs).getD j 0 / 2 ∈ D
  · rw [if_pos h1, if_pos ⟨by omega, h1.2⟩]
  · rw [if_neg h1, if_neg fun q => ?_]
    by_cases e : j = k
    · subst e; exact h q.2
    · exact h1 ⟨by omega, q.2⟩
end
theorem RowV.keep {T : TypeId} {k g n cap B : Nat} {w w' : World} {f : Nat → Value} (h : RowV T k w g n cap f) (hb : Below B w w') (hg : g < B) : RowV T k w' g n cap f := h.same (hb.block _ hg)
section
variable {B bg : Nat} {w0 W : World} {k : MkrC} {E T : List Nat} {gs : Gs}
theorem MS.len_ (h : MS B w0 k bg E T gs W) : Calls Try.prog 17 #[.pointer (some ⟨bg, 0, none⟩)] W fun e w' => e = .returned (.int .i64 (gs.length : Int)) ∧ W = w' := by
  obtain ⟨c, rfl, hm⟩ := h
  exact hm.lv.len_
theorem MS.parts (h : MS B w0 k bg E T gs W) (hn : gs.length ≤ 80000) (i : Nat) (hi : i < gs.length) : Calls Try.prog 22 #[.pointer (some ⟨bg, 0, none⟩), .int .i64 (i : Int)] W fun e w' => e = .returned (.tuple #[.int .u32 (((getG gs i).1 : Nat) : Int), .int .u32 (((getG gs i).2 : Nat) : Int), .bool (andB gs i)]) ∧ Below W.heap.size W w' := by
  obtain ⟨c, rfl, hm⟩ := h
  exact gparts_any hm.lv.at_ hm.lv.wf (by omega) i hi
theorem MS.cone (h : MS B w0 k bg E T gs W) (hn : gs.length ≤ 80000) (x : Nat) (hx : x / 2 < gs.length) : Calls Try.prog 12 #[.pointer (some ⟨bg, 0, none⟩), .slice (some ⟨W.heap.size, 0, none⟩) 1 1] (W.alloc (.cells #[.int .u32 (x : Int)] 25)) fun e w' =>
    ∃ D A c, e = .returned (.tuple #[.slice A D.length c, .int .i64 0]) ∧ Hid (ConeL gs [x] D) ∧ Hid (RdN .i64 w' w'.heap.size A D.length D) ∧ Hid (Below W.heap.size W w') := by
  obtain ⟨c, rfl, hm⟩ := h
  have hb : Below W.heap.size W (W.alloc (.cells #[.int .u32 (x : Int)] 25)) := (Below.refl _ _).alloc (Nat.le_refl _) _
  have hm2 := hm.below hb
  refine (gCone_any hm2.lv.at_ hm2.lv.wf _ _ _ [x] (rdn_made .u32 W 25 [x]) (all_one hx) (by omega) (by simp)).mono ?_
  rintro e w' ⟨D, A, cc, rfl, h1, h2, _, h4⟩
  exact ⟨D, A, cc, rfl, h1, h2.rdn, hb.trans (h4.mono hb.size)⟩
theorem MS.inputs (h : MS B w0 k bg E T gs W) (hn : (insL gs).length ≤ 80000) : Calls Try.prog 21 #[.pointer (some ⟨bg, 0, none⟩)] W fun e w' =>
    ∃ A c, e = .returned (.slice A (insL gs).length c) ∧ Hid (RdN .u32 w' w'.heap.size A (insL gs).length (insL gs)) ∧ Hid (∀ q, onB A q → W.heap.size ≤ q) ∧ Hid (Below W.heap.size W w') := by
  obtain ⟨c, rfl, hm⟩ := h
  refine (ginputs_any hm.lv.at_ (by omega)).mono ?_
  rintro e w' ⟨A, cc, rfl, h1, h2, h3⟩
  exact ⟨A, cc, rfl, h1.rdn, h2, h3⟩
end
theorem RdN.put {k : IntKind} {W : World} {A : Option Addr} {n g j : Nat} {l : List Nat} (h : RdN k W W.heap.size A n l) (hA : ¬ onB A g) (v : Value) : RdN k (W.setCell ⟨g, j, none⟩ v) (W.setCell ⟨g, j, none⟩ v).heap.size A n l :=
  ⟨h.len, fun hn => by
    obtain ⟨b, o, e, hb, hc⟩ := h.at_ hn
    have hne : b ≠ g := fun q => hA (by rw [e, q, onB_some])
    refine ⟨b, o, e, by simpa [World.setCell] using hb, fun i hi => ?_⟩
    have hh : (W.setCell ⟨g, j, none⟩ v).heap[b]? = W.heap[b]? := Below.heap_setCell _ _ _ _ hne
    have := hc i hi
    simp only [World.cell?, hh] at this ⊢
    exact this⟩
theorem rdo_row {W : World} {g c : Nat} {f : Nat → Value} {bs : List Bool} (h : RowV 4 1 W g 6 c f) (hl : bs.length = 6) (hf : ∀ j, j < 6 → f j = .bool (bs.getD j false)) : RdO W W.heap.size (some ⟨g, 0, none⟩) 6 bs :=
  ⟨hl, fun _ => ⟨g, 0, rfl, h.lt, fun j hj => by rw [Nat.zero_add, h.cell (by omega), hf j hj]⟩⟩
theorem mixL_len (gs : Gs) (D : List Nat) (r1 r2 : Nat) : (mixL gs D r1 r2).length = 6 := by unfold mixL; simp
theorem rowF_eq (r : Nat) {j : Nat} (hj : j < 6) : rowF r j = .bool ((rowV r).getD j false) := by rw [rowV_get r j hj]; rfl
theorem mix_zero (gs : Gs) (D : List Nat) (r1 r2 j : Nat) : mixB gs D r1 r2 0 j = (rowV r2).getD j false := by unfold mixB; rw [if_neg (by omega)]
theorem ins_lt {gs : Gs} {t : Nat} (h : t < (insL gs).length) : (insL gs).getD t 0 / 2 < gs.length := by
  have hm := ngetD h
  unfold insL at hm
  obtain ⟨i, hi, e⟩ := List.mem_map.1 hm
  have := List.mem_range.1 (List.mem_filter.1 hi).1
  unfold insL
  rw [← e]
  omega
end Go.Proofs.Ytkdjbjclijbojaa
