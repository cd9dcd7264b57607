/- A law's student: an engine and its clauses; the contract of fresh. The contract of fresh. -/
import Derived.Test.YtdecejhobefefaaLrnW
import Derived.Test.YtdecejhobefefaaLitD
import Derived.Test.YtdecejhobefefaaWOpn
import Derived.Deep.RegionWith
import Derived.Deep.Slices
import Derived.Deep.Fields
namespace Go.Proofs.Ytdecejhobefefaa
open Go.RowKit LitM TrailM EngM

theorem info_rrow : (Try.prog.info? 29).map (fun i => (i.zero, i.size, i.bytes)) = some (some (.slice none 0 0), 1, 24) := by kernel_rfl
theorem Own.sl {w : World} {B : Nat} {v : Value} {xs : List Int} (h : Own w B v xs) : ∃ A c, v = .slice A xs.length c ∧ SlV 43 1 w A xs.length c (lsC xs) ∧ ∀ i, onB A i → B ≤ i := by
  obtain ⟨_, h2⟩ := h
  rcases h2 with ⟨rfl, h0⟩ | ⟨g, cap, cur, rfl, hb, hh, h1, h3, h4, h5⟩
  · exact ⟨none, 0, by rw [h0], .inl ⟨rfl, h0, rfl⟩, fun i hi => absurd hi (onB_none i)⟩
  · refine ⟨_, cap, rfl, .inr ⟨g, rfl, cur, hh, h1, h3, h4, fun j hj => ?_⟩, fun i hi => ?_⟩
    · have hj2 : j < xs.length := by omega
      rw [← Array.getElem?_toList, ← List.getElem?_take_of_lt hj, h5, List.getElem?_map, List.getElem?_eq_getElem hj2]
      unfold lsC
      rw [List.getD, List.getElem?_eq_getElem hj2]; rfl
    · rw [onB_some] at hi
      have hi : i = g := hi
      rw [hi]; exact hb
theorem SlV.apart {T T' : TypeId} {k n c n' c' : Nat} {w : World} {A A' : Option Addr} {f f' : Nat → Value} (h : SlV T k w A n c f) (h' : SlV T' k w A' n' c' f') (hT : T ≠ T') {i : Nat} (hi : onB A i) (hi' : onB A' i) : False := by
  rcases h with ⟨rfl, _⟩ | ⟨g, rfl, cur, h1, _⟩
  · exact onB_none i hi
  · rcases h' with ⟨rfl, _⟩ | ⟨g', rfl, cur', h1', _⟩
    · exact onB_none i hi'
    · rw [onB_some] at hi hi'
      have hi : i = g := hi
      have hi' : i = g' := hi'
      subst hi; subst hi'
      rw [h1] at h1'
      injection h1' with h1'
      injection h1' with _ h1'
      exact hT h1'
/-- Clauses in memory, none of the engine's blocks. -/
structure AllZ (w : World) (q : Pm) (B bs : Nat) (A : Option Addr) (c : Nat) (all : List (List Int)) : Prop where
  row : ∃ f : Nat → Value, SlV 29 1 w A all.length c f ∧ ∀ j, j < all.length → ∃ A' c', f j = .slice A' (all.getD j []).length c' ∧ SlV 43 1 w A' (all.getD j []).length c' (lsC (all.getD j [])) ∧ ∀ i, onB A' i → q.own i = .no ∧ B ≤ i ∧ i ≠ bs
  out : ∀ i, onB A i → q.own i = .no ∧ B ≤ i ∧ i ≠ bs
/-- A student: the engine b of the state F, and the clauses. -/
structure StZ (B : Nat) (w0 w : World) (bs b : Nat) (F : Eng) (q : Pm) (all : List (List Int)) : Prop where
  sg : Sg B w0 w b F q
  own : q.own bs = .no
  hb : B ≤ bs
  mem : ∃ A c, w.heap[bs]? = some (.cells #[.pointer (some ⟨b, 0, none⟩), .slice A all.length c] 67 (0, 0)) ∧ AllZ w q B bs A c all
section
variable {B bs b : Nat} {w0 w w' : World} {F F' : Eng} {q q' : Pm} {all : List (List Int)}
theorem AllZ.keep {A : Option Addr} {c : Nat} (h : AllZ w q B bs A c all) (hk : ∀ i, i < w.heap.size → q.own i = .no → i ≠ bs → w'.heap[i]? = w.heap[i]? ∧ q'.own i = .no) : AllZ w' q' B bs A c all := by
  obtain ⟨f, hf, he⟩ := h.row
  refine ⟨⟨f, hf.same fun i hi => (hk i (hf.lt i hi) (h.out i hi).1 (h.out i hi).2.2).1, fun j hj => ?_⟩, fun i hi => ⟨(hk i (hf.lt i hi) (h.out i hi).1 (h.out i hi).2.2).2, (h.out i hi).2⟩⟩
  obtain ⟨A', c', e1, e2, e3⟩ := he j hj
  exact ⟨A', c', e1, e2.same fun i hi => (hk i (e2.lt i hi) (e3 i hi).1 (e3 i hi).2.2).1, fun i hi => ⟨(hk i (e2.lt i hi) (e3 i hi).1 (e3 i hi).2.2).2, (e3 i hi).2⟩⟩
theorem StZ.lt (h : StZ B w0 w bs b F q all) : bs < w.heap.size := by obtain ⟨A, c, hh, _⟩ := h.mem; exact lt_of_heap hh
theorem StZ.c0 (h : StZ B w0 w bs b F q all) : w.cell? ⟨bs, 0, none⟩ = some (.pointer (some ⟨b, 0, none⟩)) := by obtain ⟨A, c, hh, _⟩ := h.mem; rw [Lib.cell_of_heap hh]; rfl
/-- Behind a call of the engine. -/
theorem StZ.ext (h : StZ B w0 w bs b F q all) (hs : Sg B w0 w' b F' q') (hx : Ext q q' w w') : StZ B w0 w' bs b F' q' all := by
  obtain ⟨A, c, hh, ha⟩ := h.mem
  have hb := hx.blk h.lt h.own
  exact ⟨hs, hb.2, h.hb, A, c, by rw [hb.1]; exact hh, ha.keep fun i hi ho _ => hx.blk hi ho⟩
theorem StZ.below (h : StZ B w0 w bs b F q all) (hb : Below w.heap.size w w') : StZ B w0 w' bs b F q all := by
  obtain ⟨A, c, hh, ha⟩ := h.mem
  exact ⟨h.sg.below hb, h.own, h.hb, A, c, by rw [hb.block bs h.lt]; exact hh, ha.keep fun i hi ho _ => ⟨hb.block i hi, ho⟩⟩
/-- A clause more. -/
theorem StZ.push (h : StZ B w0 w bs b F q all) {A A1 : Option Addr} {c c1 g c2 : Nat} {f : Nat → Value} {ys : List Int} {w1 : World}
    (hh : w.heap[bs]? = some (.cells #[.pointer (some ⟨b, 0, none⟩), .slice A all.length c] 67 (0, 0))) (hf : SlV 29 1 w A all.length c f)
    (hj : ∀ j, j < all.length → ∃ A' c', f j = .slice A' (all.getD j []).length c' ∧ SlV 43 1 w A' (all.getD j []).length c' (lsC (all.getD j [])) ∧ ∀ i, onB A' i → q.own i = .no ∧ B ≤ i ∧ i ≠ bs)
    (ho : ∀ i, onB A i → q.own i = .no ∧ B ≤ i ∧ i ≠ bs)
    (hy : SlV 43 1 w A1 ys.length c1 (lsC ys)) (hyo : ∀ i, onB A1 i → q.own i = .no ∧ B ≤ i ∧ i ≠ bs)
    (hr : RowV 29 1 w1 g (all.length + 1) c2 (appV f (all.length * 1) [.slice A1 ys.length c1])) (hg : onB A g ∨ w.heap.size ≤ g) (hk : Kf (fun i => onB A i) w w1) :
    w1.cell? ⟨bs, 1, none⟩ = some (.slice A all.length c) ∧ w1.frozen? ⟨bs, 1, none⟩ = false ∧ StZ B w0 (w1.setCell ⟨bs, 1, none⟩ (.slice (some ⟨g, 0, none⟩) (all ++ [ys]).length c2)) bs b F q (all ++ [ys]) := by
  have hbA : ¬ onB A bs := fun e => (ho bs e).2.2 rfl
  have hh1 := hk.block bs h.lt hbA
  have hh2 : w1.heap[bs]? = some (.cells #[.pointer (some ⟨b, 0, none⟩), .slice A all.length c] 67 (0, 0)) := hh1.trans hh
  refine ⟨by rw [Lib.cell_of_heap hh2]; rfl, Lib.frozen_of_heap hh2 1, ?_⟩
  have hkk : Kf (fun i => onB A i ∨ i = bs) w (w1.setCell ⟨bs, 1, none⟩ (.slice (some ⟨g, 0, none⟩) (all ++ [ys]).length c2)) := (hk.mono (fun i hi => .inl (.inl hi))).set (.inl (.inr rfl)) _
  have hgbs : g ≠ bs := by
    rintro rfl
    rcases hg with e | e
    · exact hbA e
    · have := h.lt; omega
  refine ⟨h.sg.kept hkk (fun i hi => ?_), h.own, h.hb, some ⟨g, 0, none⟩, c2, ?_, ⟨⟨appV f (all.length * 1) [.slice A1 ys.length c1], .inr ⟨g, rfl, ?_⟩, fun j hj' => ?_⟩, fun i hi => ?_⟩⟩
  · rcases hi with e | e
    · exact ⟨(ho i e).1, (ho i e).2.1⟩
    · rw [e]; exact ⟨h.own, h.hb⟩
  · rw [Lib.heap_setCell_same hh2]; rfl
  · have := hr.other (a := ⟨bs, 1, none⟩) (fun e => hgbs e.symm) (.slice (some ⟨g, 0, none⟩) (all ++ [ys]).length c2)
    rw [show (all ++ [ys]).length = all.length + 1 by simp] at *
    exact this
  · have hl : (all ++ [ys]).length = all.length + 1 := by simp
    by_cases e : j < all.length
    · obtain ⟨A', c', e1, e2, e3⟩ := hj j e
      have hgd : (all ++ [ys]).getD j [] = all.getD j [] := by rw [List.getD, List.getD, List.getElem?_append_left e]
      rw [hgd]
      refine ⟨A', c', ?_, e2.kept hkk (fun i hi hn => ?_), e3⟩
      · unfold appV; rw [if_pos (by omega)]; exact e1
      · rcases hn with hn | hn
        · exact SlV.apart hf e2 (by decide) hn hi
        · exact (e3 i hi).2.2 hn
    · have e2 : j = all.length := by omega
      subst e2
      have hgd : (all ++ [ys]).getD all.length [] = ys := by simp
      rw [hgd]
      refine ⟨A1, c1, ?_, hy.kept hkk (fun i hi hn => ?_), hyo⟩
      · unfold appV; rw [if_neg (by omega)]; simp
      · rcases hn with hn | hn
        · exact SlV.apart hf hy (by decide) hn hi
        · exact (hyo i hi).2.2 hn
  · rw [onB_some] at hi
    have hi : i = g := hi
    subst hi
    rcases hg with e | e
    · exact ho _ e
    · exact ⟨h.sg.fresh e, Nat.le_trans h.sg.hs e, hgbs⟩
end
/-- An engine that just got its clauses. -/
structure Fz (N k : Nat) (F : Eng) (all : List (List Int)) : Prop where
  n : F.n = N
  L : F.L = []
  le : F.le = []
  cs : F.cs.length ≤ k
  pr : ∀ i, i < F.cs.length → (clA F.cs i).pr = true
  al : all = (F.cs.map Cl.ls).filter fun c => !bothB c
  len : all.length ≤ k
theorem Fz.new (N : Nat) : Fz N 0 (newE N) [] := ⟨rfl, rfl, rfl, Nat.le_refl _, fun i hi => by simp [newE] at hi, rfl, Nat.le_refl _⟩
theorem Fz.add {N k : Nat} {F : Eng} {all : List (List Int)} (h : Fz N k F all) (ys : List Int) (both : Bool) (hb : bothB ys = both) : Fz N (k + 1) (addF F ys both) (if both = true then all else all ++ [ys]) := by
  refine ⟨h.n, h.L, h.le, ?_, fun i hi => ?_, ?_, ?_⟩
  · show (F.cs ++ [_]).length ≤ k + 1
    rw [List.length_append]
    have := h.cs
    show F.cs.length + 1 ≤ k + 1
    omega
  · show (clA (F.cs ++ [_]) i).pr = true
    have hi : i < (F.cs ++ [(⟨true, ys, 0, 0, 0⟩ : Cl)]).length := hi
    by_cases e : i < F.cs.length
    · have := h.pr i e
      unfold clA at this ⊢
      rw [List.getD, List.getElem?_append_left e]; exact this
    · have e2 : i = F.cs.length := by simp at hi; omega
      subst e2
      unfold clA; simp
  · show _ = ((F.cs ++ [_]).map Cl.ls).filter _
    rw [List.map_append, List.filter_append, ← h.al]
    subst hb
    cases e : bothB ys with
    | true => simp [e]
    | false => simp [e]
  · have := h.len
    split
    · omega
    · rw [List.length_append]
      show all.length + 1 ≤ k + 1
      omega
/-- Of few variables a clause has few literals. -/
theorem few_lits {n : Nat} (hn : n ≤ 20) {xs ys : List Int} (hf : fitsB n xs = true) (hc : IsClean xs ys) : ys.length ≤ 10000 := by
  have hnd : ys.Nodup := hc.1.imp (fun {a b} h e => by subst e; omega)
  have hsub : ys ⊆ (List.range 41).map (fun i : Nat => (i : Int) - 20) := fun y hy => by
    have h1 := (fitsB_iff.1 hf) y ((hc.2 y).1 hy)
    have h2 : varZ y ≤ 20 := by omega
    have h3 := (one_iff y).1 h1.1
    have h4 : -20 ≤ y ∧ y ≤ 20 := by
      by_cases e : 1 ≤ y
      · rw [varZ_pos e (by omega)] at h2; omega
      · rw [varZ_neg (by omega) (by omega)] at h2; omega
    refine List.mem_map.2 ⟨(y + 20).toNat, List.mem_range.2 (by omega), by omega⟩
  have := List.Nodup.length_le_of_subset hnd hsub
  simp at this
  omega
end Go.Proofs.Ytdecejhobefefaa
namespace Go.Proofs.Ytdecejhobefefaa
open Go.RowKit LitM TrailM EngM

/-- What fresh leaves. -/
def FrTo (v : Int) (w0 : World) (e : Ending) (w' : World) : Prop :=
  (e = .returned (.pointer none) ∧ Below w0.heap.size w0 w') ∨
  (0 ≤ v ∧ v ≤ 20 ∧ ∃ bs b F q all, e = .returned (.pointer (some ⟨bs, 0, none⟩)) ∧ StZ w0.heap.size w0 w' bs b F q all ∧ Fz v.toNat 80 F all)
set_option maxHeartbeats 6400000 in
set_option maxRecDepth 100000 in
theorem fresh_any (v : Int) (A : Option Addr) (n c : Nat) (cs : List (List Int)) (w : World) (hf : RdF w w.heap.size A n cs) (h32 : ∀ c ∈ cs, In32 c) (hsz : ∀ c ∈ cs, c.length * 4 ≤ 140737488351232) :
    Calls Try.prog 31 #[.agg #[.int .i64 v, .slice A n c]] w (FrTo v w) := by
  obtain ⟨W0, hW0⟩ : ∃ W0, W0 = w.alloc (.cells #[.int .i64 v, .slice A n c] 59) := ⟨_, rfl⟩
  have hs0 : W0.heap.size = w.heap.size + 1 := by rw [hW0]; simp
  have hB0 : Below w.heap.size w W0 := by rw [hW0]; exact (Below.refl _ _).alloc (Nat.le_refl _) _
  have HLF := Lib.hid hf.len
  have HT : Hid (∀ W, Below (w.heap.size + 1) W0 W → W.cell? ⟨w.heap.size, 0, none⟩ = some (.int .i64 v) ∧ W.cell? ⟨w.heap.size, 1, none⟩ = some (.slice A n c)) := by rw [hW0]; exact fun W h => frm_cells h
  have HRF : Hid (∀ W, Below (w.heap.size + 1) W0 W → RdF W (w.heap.size + 1) A n cs) := fun W h => (((hf.below hB0).more (by omega : w.heap.size ≤ w.heap.size + 1)).below h)
  have HBW : Hid (∀ W, Below (w.heap.size + 1) W0 W → Below w.heap.size w W) := fun W h => hB0.trans (h.mono (by omega))
  have HZ : Hid (∀ W, Below (w.heap.size + 1) W0 W → w.heap.size + 1 ≤ W.heap.size) := fun W h => by have := h.size; omega
  have HSW : Hid (∀ W bs b F q all, StZ (w.heap.size + 1) W0 W bs b F q all → StZ w.heap.size w W bs b F q all) := fun W bs b F q all h => by
    refine ⟨⟨h.sg.eng, h.sg.inv, fun k hk => by have := h.sg.own k hk; omega, hB0.trans (h.sg.out.mono (by omega)), by have := h.sg.hs; omega⟩, h.own, by have := h.hb; omega, ?_⟩
    obtain ⟨A', c', hh, ha⟩ := h.mem
    refine ⟨A', c', hh, ⟨?_, fun i hi => by have := ha.out i hi; exact ⟨this.1, by omega, this.2.2⟩⟩⟩
    obtain ⟨f, hf, he⟩ := ha.row
    exact ⟨f, hf, fun j hj => by
      obtain ⟨A2, c2, e1, e2, e3⟩ := he j hj
      exact ⟨A2, c2, e1, e2, fun i hi => by have := e3 i hi; exact ⟨this.1, by omega, this.2.2⟩⟩⟩
  have H32 := Lib.hid h32
  have HSZ := Lib.hid hsz
  have HR0 : Hid (Below (w.heap.size + 1) W0 W0) := Below.refl _ _
  clear hf h32 hsz hB0
  go_enter Try.func31, Try.ntmps31
  go_upto_region 1 with (fail)
  rw [← hW0]
  clear hW0 hs0
  obtain ⟨hf0, hf1⟩ := HT.out _ HR0.out
  by_cases hv0 : ¬ v < 0
  case neg =>
    have thv00 : decide (v < 0) = true := decide_eq_true (by omega)
    go_wp2_with fail
    go_ret
    exact .inl ⟨rfl, HBW.out _ HR0.out⟩
  have thv00 : decide (v < 0) = false := decide_eq_false (by omega)
  by_cases hv1 : ¬ 20 < v
  case neg =>
    have thv10 : decide (20 < v) = true := decide_eq_true (by omega)
    go_wp2_with fail
    go_ret
    exact .inl ⟨rfl, HBW.out _ HR0.out⟩
  have thv10 : decide (20 < v) = false := decide_eq_false (by omega)
  by_cases hn : ¬ 80 < n
  case neg =>
    have thn0 : decide (80 < n) = true := decide_eq_true (by omega)
    have thn1 : decide ((80 : Int) < (n : Int)) = true := decide_eq_true (by omega)
    go_wp2_with fail
    go_ret
    exact .inl ⟨rfl, HBW.out _ HR0.out⟩
  have thn0 : decide (80 < n) = false := decide_eq_false (by omega)
  have thn1 : decide ((80 : Int) < (n : Int)) = false := decide_eq_false (by omega)
  obtain ⟨N, rfl⟩ : ∃ N : Nat, v = (N : Int) := ⟨v.toNat, by omega⟩
  have hN : N ≤ 20 := by omega
  have HN1 : Hid (Calls Try.prog 11 #[.int .i64 (N : Int)] W0 fun e w' => ∃ b q, e = .returned (.pointer (some ⟨b, 0, none⟩)) ∧ Sg (w.heap.size + 1) W0 w' b (newE N) q) := (enew_any (N : Int) W0 (by omega)).mono fun e w' hm => by
    rw [Int.toNat_natCast] at hm
    obtain ⟨b, q, h1, h2, _⟩ := Sg.make hm (by omega) HR0.out (HZ.out _ HR0.out)
    exact ⟨b, q, h1, h2⟩
  go_wp2_with fail
  refine HN1.out.mono ?_
  rintro e w2 ⟨b, q, rfl, hsg⟩
  have HS : Hid (StZ (w.heap.size + 1) W0 (w2.alloc (.cells #[.pointer (some ⟨b, 0, none⟩), .slice none 0 0] 67)) w2.heap.size b (newE N) q []) := by
    have hb := (Below.refl w2.heap.size w2).alloc (Nat.le_refl _) (.cells #[.pointer (some ⟨b, 0, none⟩), .slice none 0 0] 67)
    exact ⟨hsg.below hb, hsg.fresh (Nat.le_refl _), hsg.hs, none, 0, blk_new w2 _, ⟨⟨fun _ => .int .i64 0, SlV.nil _ _ _ _, fun j hj => by simp at hj⟩, fun i hi => absurd hi (onB_none i)⟩⟩
  obtain ⟨bs, hbs⟩ : ∃ bs, bs = w2.heap.size := ⟨_, rfl⟩
  clear hsg HN1 HR0 thv00 thv10 thn0 thn1 hf0 hf1 hv0 hv1
  obtain ⟨hf0, hf1⟩ := HT.out _ HS.out.sg.out
  go_wp2_with fail
  rw [← hbs] at HS ⊢
  obtain ⟨w3, hw3⟩ : ∃ w3, w3 = w2.alloc (.cells #[.pointer (some ⟨b, 0, none⟩), .slice none 0 0] 67) := ⟨_, rfl⟩
  rw [← hw3] at HS hf0 hf1 ⊢
  clear hw3 hbs
  go_loopw [33] (fun p wr => ∃ k F q all, p = .int .i64 ((k : Nat) : Int) ∧ k ≤ n ∧ Hid (Fz N k F all) ∧ Hid (StZ (w.heap.size + 1) W0 wr bs b F q all)) (fun v _ => n - (intOf v).toNat)
  case atStart => exact ⟨0, _, _, _, rfl, by omega, Lib.hid (Fz.new N), HS⟩
  case round =>
    obtain ⟨k, F, q, all, rfl, hk, hP, hS⟩ := hrel
    clear HS hf0 hf1
    obtain ⟨hf0, hf1⟩ := HT.out _ hS.out.sg.out
    have hcf : F.cs.length ≤ 20000 := by have := hP.out.cs; omega
    by_cases hlt : k < n
    · have tk : decide (k < n) = true := decide_eq_true hlt
      obtain ⟨bk, o, Ak, nk, ck, rfl, hbk, hc, hRk⟩ := (HRF.out _ hS.out.sg.out).get hlt
      have hmem : cs.getD k [] ∈ cs := by
        have := HLF.out
        rw [List.getD, List.getElem?_eq_getElem (by omega)]; exact List.getElem_mem _
      have HI := Lib.hid (H32.out _ hmem)
      have hnl := HSZ.out _ hmem
      have hrl := hRk.len
      have hnk : nk * 4 ≤ 140737488351232 := by omega
      clear hmem hnl hrl
      generalize cs.getD k [] = xs at *
      have HRk := Lib.hid hRk
      have cs0 := hS.out.c0
      clear hRk
      cases hal : allOne xs with
      | false =>
        have HC := Lib.hid (rclean_no Ak nk ck xs wr (HRk.out.more (HZ.out _ hS.out.sg.out)) hnk hal)
        have HA := Lib.hid (hS.out.sg.addBig hcf Ak nk ck _ (HRk.out.more (HZ.out _ hS.out.sg.out)) HI.out hnk (fun ys hfit hcl => few_lits (by rw [hP.out.n]; exact hN) hfit hcl))
        clear HRk hal
        go_wp2_with fail
        refine HC.out.mono ?_
        rintro e w' ⟨rfl, rfl⟩
        go_wp2_with fail
        refine HA.out.mono ?_
        rintro e w4 ⟨F', q', ha, hs, _⟩
        have HB4 := Lib.hid (HBW.out _ hs.out)
        obtain ⟨r1, r2, rfl⟩ := ha.pair
        clear ha hs HA HC
        by_cases h20 : 20 < nk
        · have s0 : decide (20 < nk) = true := decide_eq_true h20
          have s1 : decide ((20 : Int) < (nk : Int)) = true := decide_eq_true (by omega)
          go_wp2_with fail
          go_ret
          exact .inl ⟨rfl, HB4.out⟩
        · have s0 : decide (20 < nk) = false := decide_eq_false h20
          have s1 : decide ((20 : Int) < (nk : Int)) = false := decide_eq_false (by omega)
          cases hr2 : (r2 != 0) with
          | true =>
            go_wp2_with fail
            go_ret
            exact .inl ⟨rfl, HB4.out⟩
          | false =>
            go_wp2_with fail
            go_ret
            exact .inl ⟨rfl, HB4.out⟩
      | true =>
        have HC := Lib.hid (rclean_yes Ak nk ck xs wr (HRk.out.more (HZ.out _ hS.out.sg.out)) hnk hal)
        clear hal
        go_wp2_with fail
        refine HC.out.mono ?_
        rintro e w4 ⟨vv, ys, rfl, hown, hcl, hb4⟩
        obtain ⟨A1, c1, rfl, hsl1, hon1⟩ := hown.sl
        have HS4 := Lib.hid (hS.out.below hb4)
        have HSL4 : Hid (SlV 43 1 w4 A1 ys.length c1 (lsC ys) ∧ ∀ i, onB A1 i → q.own i = .no ∧ w.heap.size + 1 ≤ i ∧ i ≠ bs) := ⟨hsl1, fun i hi => by
          have h1 := hon1 i hi
          have h2 := hS.out.lt
          have h3 := hS.out.sg.hs
          exact ⟨hS.out.sg.fresh h1, by omega, by omega⟩⟩
        have HCL := Lib.hid hcl
        have hR4 : Rd .i32 w4 w4.heap.size Ak nk xs := (HRk.out.below (hb4.mono (HZ.out _ hS.out.sg.out))).more (HZ.out _ HS4.out.sg.out)
        have HA := Lib.hid (HS4.out.sg.addBig hcf Ak nk ck _ hR4 HI.out hnk (fun ys hfit hcl => few_lits (by rw [hP.out.n]; exact hN) hfit hcl))
        have cs4 := HS4.out.c0
        clear hown hcl hb4 hsl1 hon1 hR4 HC HRk cs0
        go_wp2_with fail
        refine HA.out.mono ?_
        rintro e w5 ⟨F', q', ha, hs, hx⟩
        have HS5 := Lib.hid (HS4.out.ext hs hx)
        have HSL5 : Hid (SlV 43 1 w5 A1 ys.length c1 (lsC ys) ∧ ∀ i, onB A1 i → q'.own i = .no ∧ w.heap.size + 1 ≤ i ∧ i ≠ bs) := ⟨(hx.sl (fun i hi => (HSL4.out.2 i hi).1) HSL4.out.1).1, fun i hi => ⟨(hx.sl (fun i hi => (HSL4.out.2 i hi).1) HSL4.out.1).2 i hi, (HSL4.out.2 i hi).2⟩⟩
        have HB5 := Lib.hid (HBW.out _ hs.out)
        clear hs hx HA cs4
        by_cases h20 : 20 < nk
        · have s0 : decide (20 < nk) = true := decide_eq_true h20
          have s1 : decide ((20 : Int) < (nk : Int)) = true := decide_eq_true (by omega)
          obtain ⟨r1, r2, rfl⟩ := ha.pair
          clear ha
          go_wp2_with fail
          go_ret
          exact .inl ⟨rfl, HB5.out⟩
        have s0 : decide (20 < nk) = false := decide_eq_false h20
        have s1 : decide ((20 : Int) < (nk : Int)) = false := decide_eq_false (by omega)
        rcases ha with ⟨_, rfl, _⟩ | ⟨_, rfl, ys2, hcl2, hF'⟩
        · go_wp2_with fail
          go_ret
          exact .inl ⟨rfl, HB5.out⟩
        have HFz : Hid (Fz N (k + 1) F' (if bothB xs = true then all else all ++ [ys])) := by
          have e : ys2 = ys := hcl2.unique HCL.out
          subst e
          rw [hF']
          exact hP.out.add ys2 (bothB xs) hcl2.both
        clear hcl2 hF'
        cases hbo : bothB xs with
        | true =>
          rw [hbo] at HFz
          simp only [if_true] at HFz
          clear hbo
          go_wp2_with fail
          go_roundw
          case rel => exact ⟨k + 1, F', q', all, by go_num, by omega, HFz, HS5⟩
          case measure => simp [intOf]; omega
        | false =>
          rw [hbo] at HFz
          simp only [Bool.false_eq_true, if_false] at HFz
          clear hbo
          obtain ⟨A6, c6, hh6, ha6⟩ := HS5.out.mem
          obtain ⟨f6, hf6, hj6⟩ := ha6.row
          have HPU : Hid (∀ g' c7 w7, RowV 29 1 w7 g' (all.length + 1) c7 (appV f6 (all.length * 1) [.slice A1 ys.length c1]) → (onB A6 g' ∨ (w5.alloc (.cells #[.slice A1 ys.length c1] 29)).heap.size ≤ g') → Kf (fun i => onB A6 i) (w5.alloc (.cells #[.slice A1 ys.length c1] 29)) w7 →
              w7.cell? ⟨bs, 1, none⟩ = some (.slice A6 all.length c6) ∧ w7.frozen? ⟨bs, 1, none⟩ = false ∧ StZ (w.heap.size + 1) W0 (w7.setCell ⟨bs, 1, none⟩ (.slice (some ⟨g', 0, none⟩) (all ++ [ys]).length c7)) bs b F' q' (all ++ [ys])) := fun g' c7 w7 x1 x2 x3 => by
            have hb := (Below.refl w5.heap.size w5).alloc (Nat.le_refl _) (.cells #[.slice A1 ys.length c1] 29)
            have hS6 := HS5.out.below hb
            refine hS6.push (A := A6) (c := c6) (f := f6) (A1 := A1) (c1 := c1) ?_ (hf6.alloc _) (fun j hj => ?_) ha6.out (HSL5.out.1.alloc _) HSL5.out.2 x1 x2 x3
            · rw [hb.block bs HS5.out.lt]; exact hh6
            · obtain ⟨A', c', e1, e2, e3⟩ := hj6 j hj
              exact ⟨A', c', e1, e2.alloc _, e3⟩
          have HF6 := Lib.hid hf6
          have d1 : w5.cell? ⟨bs, 1, none⟩ = some (.slice A6 all.length c6) := by rw [Lib.cell_of_heap hh6]; rfl
          have hal : all.length ≤ 100000 := by have := hP.out.len; omega
          have HAL : Hid ((all ++ [ys]).length = all.length + 1) := Lib.hid (by simp)
          clear hh6 ha6 hf6 hj6 HSL5 HSL4 HS4
          go_wp2_with (at_builtin; refine wpList_append_sl _ rfl _ _ 27 29 rfl Try.underlying27 info_rrow rfl (by decide) (by decide) A6 all.length c6 f6 rfl (SlV.alloc HF6.out _) (by omega) ⟨w5.heap.size, 0, none⟩ 1 1 [.slice A1 ys.length c1] rfl rfl (box_news w5 29 [.slice A1 ys.length c1]) (by intro u hu; simp at hu; subst hu; rfl) (by decide) (by decide) ?_)
          intro g' c7 w7 hr7 hg7 hk7
          obtain ⟨y1, y2, y3⟩ := HPU.out g' c7 w7 (by rw [Nat.mul_one]; exact hr7) (by simpa using hg7) (hk7 _ (fun i hi => hi))
          have HS8 := Lib.hid y3
          rw [HAL.out] at HS8
          clear hr7 hg7 hk7 y3 HPU
          go_wp2_with fail
          go_roundw
          case rel => exact ⟨k + 1, F', q', all ++ [ys], by go_num, by omega, HFz, HS8⟩
          case measure => simp [intOf]; omega
    · have tk : decide (k < n) = false := decide_eq_false hlt
      obtain rfl : k = n := by omega
      have HFN : Hid (Fz N 80 F all) := ⟨hP.out.n, hP.out.L, hP.out.le, by have := hP.out.cs; omega, hP.out.pr, hP.out.al, by have := hP.out.len; omega⟩
      go_wp2_with fail
      go_ret
      exact .inr ⟨by omega, by omega, bs, b, F, q, all, rfl, HSW.out _ _ _ _ _ _ hS.out, HFN.out⟩
end Go.Proofs.Ytdecejhobefefaa
