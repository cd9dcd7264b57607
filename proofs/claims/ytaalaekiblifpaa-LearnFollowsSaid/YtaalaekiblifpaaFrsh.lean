/- A law's student: an engine and its clauses; the contract of fresh. -/
import Derived.Test.YtaalaekiblifpaaLrnW
import Derived.Test.YtaalaekiblifpaaLitD
import Derived.Test.YtaalaekiblifpaaWOpn
namespace Go.Proofs.Ytaalaekiblifpaa
open Go.RowKit LitM TrailM EngM

theorem info_rrow : (Try.prog.info? 29).map (fun i => (i.zero, i.size, i.bytes)) = some (some (.slice none 0 0), 1, 24) := by kernel_rfl
theorem Own.sl {w : World} {B : Nat} {v : Value} {xs : List Int} (h : Own w B v xs) : ∃ A c, v = .slice A xs.length c ∧ SlV 43 1 w A xs.length c (lsC xs) ∧ ∀ i, onB A i → B ≤ i := by
  obtain ⟨_, h2⟩ := h
  rcases h2 with ⟨rfl, h0⟩ | ⟨g, cap, cur, rfl, hb, hh, h1, h3, h4, h5⟩
  · exact ⟨none, 0, by rw [h0], .inl ⟨rfl, h0, rfl⟩, fun i hi => absurd hi (onB_none i)⟩
  · refine ⟨_, cap, rfl, .inr ⟨g, rfl, cur, hh, h1, h3, h4, fun j hj => ?_⟩, fun i hi => ?_⟩
    · have hj2 : j < xs.length := by omega
      rw [← Array.getElem?_toList, ← List.getElem?_take_of_lt hj, h5, List.getElem?_map, List.getElem?_eq_getElem hj2]
      unfold lsC
      rw [List.getD, List.getElem?_eq_getElem hj2]; rfl
    · rw [onB_some] at hi
      have hi : i = g := hi
      rw [hi]; exact hb
theorem SlV.apart {T T' : TypeId} {k n c n' c' : Nat} {w : World} {A A' : Option Addr} {f f' : Nat → Value} (h : SlV T k w A n c f) (h' : SlV T' k w A' n' c' f') (hT : T ≠ T') {i : Nat} (hi : onB A i) (hi' : onB A' i) : False := by
  rcases h with ⟨rfl, _⟩ | ⟨g, rfl, cur, h1, _⟩
  · exact onB_none i hi
  · rcases h' with ⟨rfl, _⟩ | ⟨g', rfl, cur', h1', _⟩
    · exact onB_none i hi'
    · rw [onB_some] at hi hi'
      have hi : i = g := hi
      have hi' : i = g' := hi'
      subst hi; subst hi'
      rw [h1] at h1'
      injection h1' with h1'
      injection h1' with _ h1'
      exact hT h1'
/-- Clauses in memory, none of the engine's blocks. -/
structure AllZ (w : World) (q : Pm) (B bs : Nat) (A : Option Addr) (c : Nat) (all : List (List Int)) : Prop where
  row : ∃ f : Nat → Value, SlV 29 1 w A all.length c f ∧ ∀ j, j < all.length → ∃ A' c', f j = .slice A' (all.getD j []).length c' ∧ SlV 43 1 w A' (all.getD j []).length c' (lsC (all.getD j [])) ∧ ∀ i, onB A' i → q.own i = .no ∧ B ≤ i ∧ i ≠ bs
  out : ∀ i, onB A i → q.own i = .no ∧ B ≤ i ∧ i ≠ bs
/-- A student: the engine b of the state F, and the clauses. -/
structure StZ (B : Nat) (w0 w : World) (bs b : Nat) (F : Eng) (q : Pm) (all : List (List Int)) : Prop where
  sg : Sg B w0 w b F q
  own : q.own bs = .no
  hb : B ≤ bs
  mem : ∃ A c, w.heap[bs]? = some (.cells #[.pointer (some ⟨b, 0, none⟩), .slice A all.length c] 67 (0, 0)) ∧ AllZ w q B bs A c all
section
variable {B bs b : Nat} {w0 w w' : World} {F F' : Eng} {q q' : Pm} {all : List (List Int)}
theorem AllZ.keep {A : Option Addr} {c : Nat} (h : AllZ w q B bs A c all) (hk : ∀ i, i < w.heap.size → q.own i = .no → i ≠ bs → w'.heap[i]? = w.heap[i]? ∧ q'.own i = .no) : AllZ w' q' B bs A c all := by
  obtain ⟨f, hf, he⟩ := h.row
  refine ⟨⟨f, hf.same fun i hi => (hk i (hf.lt i hi) (h.out i hi).1 (h.out i hi).2.2).1, fun j hj => ?_⟩, fun i hi => ⟨(hk i (hf.lt i hi) (h.out i hi).1 (h.out i hi).2.2).2, (h.out i hi).2⟩⟩
  obtain ⟨A', c', e1, e2, e3⟩ := he j hj
  exact ⟨A', c', e1, e2.same fun i hi => (hk i (e2.lt i hi) (e3 i hi).1 (e3 i hi).2.2).1, fun i hi => ⟨(hk i (e2.lt i hi) (e3 i hi).1 (e3 i hi).2.2).2, (e3 i hi).2⟩⟩
theorem StZ.lt (h : StZ B w0 w bs b F q all) : bs < w.heap.size := by obtain ⟨A, c, hh, _⟩ := h.mem; exact lt_of_heap hh
theorem StZ.c0 (h : StZ B w0 w bs b F q all) : w.cell? ⟨bs, 0, none⟩ = some (.pointer (some ⟨b, 0, none⟩)) := by obtain ⟨A, c, hh, _⟩ := h.mem; rw [Lib.cell_of_heap hh]; rfl
/-- Behind a call of the engine. -/
theorem StZ.ext (h : StZ B w0 w bs b F q all) (hs : Sg B w0 w' b F' q') (hx : Ext q q' w w') : StZ B w0 w' bs b F' q' all := by
  obtain ⟨A, c, hh, ha⟩ := h.mem
  have hb := hx.blk h.lt h.own
  exact ⟨hs, hb.2, h.hb, A, c, by rw [hb.1]; exact hh, ha.keep fun i hi ho _ => hx.blk hi ho⟩
theorem StZ.below (h : StZ B w0 w bs b F q all) (hb : Below w.heap.size w w') : StZ B w0 w' bs b F q all := by
  obtain ⟨A, c, hh, ha⟩ := h.mem
  exact ⟨h.sg.below hb, h.own, h.hb, A, c, by rw [hb.block bs h.lt]; exact hh, ha.keep fun i hi ho _ => ⟨hb.block i hi, ho⟩⟩
/-- A clause more. -/
theorem StZ.push (h : StZ B w0 w bs b F q all) {A A1 : Option Addr} {c c1 g c2 : Nat} {f : Nat → Value} {ys : List Int} {w1 : World}
    (hh : w.heap[bs]? = some (.cells #[.pointer (some ⟨b, 0, none⟩), .slice A all.length c] 67 (0, 0))) (hf : SlV 29 1 w A all.length c f)
    (hj : ∀ j, j < all.length → ∃ A' c', f j = .slice A' (all.getD j []).length c' ∧ SlV 43 1 w A' (all.getD j []).length c' (lsC (all.getD j [])) ∧ ∀ i, onB A' i → q.own i = .no ∧ B ≤ i ∧ i ≠ bs)
    (ho : ∀ i, onB A i → q.own i = .no ∧ B ≤ i ∧ i ≠ bs)
    (hy : SlV 43 1 w A1 ys.length c1 (lsC ys)) (hyo : ∀ i, onB A1 i → q.own i = .no ∧ B ≤ i ∧ i ≠ bs)
    (hr : RowV 29 1 w1 g (all.length + 1) c2 (appV f (all.length * 1) [.slice A1 ys.length c1])) (hg : onB A g ∨ w.heap.size ≤ g) (hk : Kf (fun i => onB A i) w w1) :
    w1.cell? ⟨bs, 1, none⟩ = some (.slice A all.length c) ∧ w1.frozen? ⟨bs, 1, none⟩ = false ∧ StZ B w0 (w1.setCell ⟨bs, 1, none⟩ (.slice (some ⟨g, 0, none⟩) (all ++ [ys]).length c2)) bs b F q (all ++ [ys]) := by
  have hbA : ¬ onB A bs := fun e => (ho bs e).2.2 rfl
  have hh1 := hk.block bs h.lt hbA
  have hh2 : w1.heap[bs]? = some (.cells #[.pointer (some ⟨b, 0, none⟩), .slice A all.length c] 67 (0, 0)) := hh1.trans hh
  refine ⟨by rw [Lib.cell_of_heap hh2]; rfl, Lib.frozen_of_heap hh2 1, ?_⟩
  have hkk : Kf (fun i => onB A i ∨ i = bs) w (w1.setCell ⟨bs, 1, none⟩ (.slice (some ⟨g, 0, none⟩) (all ++ [ys]).length c2)) := (hk.mono (fun i hi => .inl (.inl hi))).set (.inl (.inr rfl)) _
  have hgbs : g ≠ bs := by
    rintro rfl
    rcases hg with e | e
    · exact hbA e
    · have := h.lt; omega
  refine ⟨h.sg.kept hkk (fun i hi => ?_), h.own, h.hb, some ⟨g, 0, none⟩, c2, ?_, ⟨⟨appV f (all.length * 1) [.slice A1 ys.length c1], .inr ⟨g, rfl, ?_⟩, fun j hj' => ?_⟩, fun i hi => ?_⟩⟩
  · rcases hi with e | e
    · exact ⟨(ho i e).1, (ho i e).2.1⟩
    · rw [e]; exact ⟨h.own, h.hb⟩
  · rw [Lib.heap_setCell_same hh2]; rfl
  · have := hr.other (a := ⟨bs, 1, none⟩) (fun e => hgbs e.symm) (.slice (some ⟨g, 0, none⟩) (all ++ [ys]).length c2)
    rw [show (all ++ [ys]).length = all.length + 1 by simp] at *
    exact this
  · have hl : (all ++ [ys]).length = all.length + 1 := by simp
    by_cases e : j < all.length
    · obtain ⟨A', c', e1, e2, e3⟩ := hj j e
      have hgd : (all ++ [ys]).getD j [] = all.getD j [] := by rw [List.getD, List.getD, List.getElem?_append_left e]
      rw [hgd]
      refine ⟨A', c', ?_, e2.kept hkk (fun i hi hn => ?_), e3⟩
      · unfold appV; rw [if_pos (by omega)]; exact e1
      · rcases hn with hn | hn
        · exact SlV.apart hf e2 (by decide) hn hi
        · exact (e3 i hi).2.2 hn
    · have e2 : j = all.length := by omega
      subst e2
      have hgd : (all ++ [ys]).getD all.length [] = ys := by simp
      rw [hgd]
      refine ⟨A1, c1, ?_, hy.kept hkk (fun i hi hn => ?_), hyo⟩
      · unfold appV; rw [if_neg (by omega)]; simp
      · rcases hn with hn | hn
        · exact SlV.apart hf hy (by decide) hn hi
        · exact (hyo i hi).2.2 hn
  · rw [onB_some] at hi
    have hi : i = g := hi
    subst hi
    rcases hg with e | e
    · exact ho _ e
    · exact ⟨h.sg.fresh e, Nat.le_trans h.sg.hs e, hgbs⟩
end
/-- An engine that just got its clauses. -/
structure Fz (N k : Nat) (F : Eng) (all : List (List Int)) : Prop where
  n : F.n = N
  L : F.L = []
  le : F.le = []
  cs : F.cs.length ≤ k
  pr : ∀ i, i < F.cs.length → (clA F.cs i).pr = true
  al : all = (F.cs.map Cl.ls).filter fun c => !bothB c
  len : all.length ≤ k
theorem Fz.new (N : Nat) : Fz N 0 (newE N) [] := ⟨rfl, rfl, rfl, Nat.le_refl _, fun i hi => by simp [newE] at hi, rfl, Nat.le_refl _⟩
theorem Fz.add {N k : Nat} {F : Eng} {all : List (List Int)} (h : Fz N k F all) (ys : List Int) (both : Bool) (hb : bothB ys = both) : Fz N (k + 1) (addF F ys both) (if both = true then all else all ++ [ys]) := by
  refine ⟨h.n, h.L, h.le, ?_, fun i hi => ?_, ?_, ?_⟩
  · show (F.cs ++ [_]).length ≤ k + 1
    rw [List.length_append]
    have := h.cs
    show F.cs.length + 1 ≤ k + 1
    omega
  · show (clA (F.cs ++ [_]) i).pr = true
    have hi : i < (F.cs ++ [(⟨true, ys, 0, 0, 0⟩ : Cl)]).length := hi
    by_cases e : i < F.cs.length
    · have := h.pr i e
      unfold clA at this ⊢
      rw [List.getD, List.getElem?_append_left e]; exact this
    · have e2 : i = F.cs.length := by simp at hi; omega
      subst e2
      unfold clA; simp
  · show _ = ((F.cs ++ [_]).map Cl.ls).filter _
    rw [List.map_append, List.filter_append, ← h.al]
    subst hb
    cases e : bothB ys with
    | true => simp [e]
    | false => simp [e]
  · have := h.len
    split
    · omega
    · rw [List.length_append]
      show all.length + 1 ≤ k + 1
      omega
/-- Of few variables a clause has few literals. -/
theorem few_lits {n : Nat} (hn : n ≤ 20) {xs ys : List Int} (hf : fitsB n xs = true) (hc : IsClean xs ys) : ys.length ≤ 10000 := by
  have hnd : ys.Nodup := hc.1.imp (fun {a b} h e => by subst e; omega)
  have hsub : ys ⊆ (List.range 41).map (fun i : Nat => (i : Int) - 20) := fun y hy => by
    have h1 := (fitsB_iff.1 hf) y ((hc.2 y).1 hy)
    have h2 : varZ y ≤ 20 := by omega
    have h3 := (one_iff y).1 h1.1
    have h4 : -20 ≤ y ∧ y ≤ 20 := by
      by_cases e : 1 ≤ y
      · rw [varZ_pos e (by omega)] at h2; omega
      · rw [varZ_neg (by omega) (by omega)] at h2; omega
    refine List.mem_map.2 ⟨(y + 20).toNat, List.mem_range.2 (by omega), by omega⟩
  have := List.Nodup.length_le_of_subset hnd hsub
  simp at this
  omega
end Go.Proofs.Ytaalaekiblifpaa
