/- A circuit, numbers and edges while a law asks, beside a guest's block. -/
import Derived.Test.YtelpoocgmflofaaVecX
namespace Go.Proofs.Ytelpoocgmflofaa
open Go.RowKit GatM VecM

/-- A circuit of a law's own with numbers L and edges E. -/
def StG (B : Nat) (w0 : World) (bg : Nat) (W : World) (gs : Gs) (L : List Vrec) (E : List (Nat × (List Bool → Bool))) (gb : Nat) (ob : Option Obj) : Prop :=
  ∃ c : GrC, c.bg = bg ∧ LvG B w0 W c gs ∧ (∀ x ∈ L, VcAt W c x.A x.n x.l ∧ AllIn gs x.l ∧ ∀ vals, valE vals gs x.l = x.F vals) ∧ (∀ x ∈ E, x.1 / 2 < gs.length ∧ (∀ vals, sayE vals gs x.1 = x.2 vals)) ∧ gb < W.heap.size ∧ ¬ c.own gb ∧ W.heap[gb]? = ob
section
variable {gb : Nat} {ob : Option Obj} {B bg : Nat} {w0 W w' : World} {gs gs' : Gs} {L : List Vrec} {E : List (Nat × (List Bool → Bool))}
theorem StG.below (h : StG B w0 bg W gs L E gb ob) (hb : Below W.heap.size W w') : StG B w0 bg w' gs L E gb ob := by
  obtain ⟨c, h1, h2, h3, h4, h5⟩ := h
  exact ⟨c, h1, h2.below hb, fun x hx => ⟨(h3 x hx).1.below hb, (h3 x hx).2⟩, h4, Nat.lt_of_lt_of_le h5.1 hb.size, h5.2.1, (hb.block _ h5.1).trans h5.2.2⟩
theorem StG.be (h : StG B w0 bg W gs L E gb ob) : Below B w0 W ∧ B ≤ W.heap.size := by
  obtain ⟨c, _, h2, _⟩ := h
  exact ⟨h2.be, h2.hB⟩
/-- Behind an operation that makes a number. -/
theorem StG.put {c c' : GrC} {x : Vrec} (h1 : c.bg = bg) (h3 : ∀ x ∈ L, VcAt W c x.A x.n x.l ∧ AllIn gs x.l ∧ ∀ vals, valE vals gs x.l = x.F vals) (h4 : ∀ x ∈ E, x.1 / 2 < gs.length ∧ ∀ vals, sayE vals gs x.1 = x.2 vals) (h5 : gb < W.heap.size ∧ ¬ c.own gb ∧ W.heap[gb]? = ob)
    (hT : LvTo B w0 W w' c c' gs') (hx : Ex gs gs') (hv : VcAt w' c' x.A x.n x.l ∧ AllIn gs' x.l ∧ ∀ vals, valE vals gs' x.l = x.F vals) : StG B w0 bg w' gs' (x :: L) E gb ob :=
  ⟨c', hT.bg.trans h1, hT.lv, fun y hy => by
    rcases List.mem_cons.1 hy with e | e
    · rw [e]; exact hv
    · obtain ⟨a1, a2, a3⟩ := h3 y e
      exact ⟨a1.to hT, a2.ex hx, fun vals => (valE_ex hx a2 (by rw [a1.len]; exact a1.pos)).trans (a3 vals)⟩, fun y hy => ⟨Nat.lt_of_lt_of_le (h4 y hy).1 hx.len, fun vals => (say_ex hx (h4 y hy).1).trans ((h4 y hy).2 vals)⟩, ⟨Nat.lt_of_lt_of_le h5.1 hT.size, (hT.gst gb h5.1 h5.2.1).2, (hT.gst gb h5.1 h5.2.1).1.trans h5.2.2⟩⟩
theorem StG.putE {c c' : GrC} {x : Nat × (List Bool → Bool)} (h1 : c.bg = bg) (h3 : ∀ x ∈ L, VcAt W c x.A x.n x.l ∧ AllIn gs x.l ∧ ∀ vals, valE vals gs x.l = x.F vals) (h4 : ∀ x ∈ E, x.1 / 2 < gs.length ∧ ∀ vals, sayE vals gs x.1 = x.2 vals) (h5 : gb < W.heap.size ∧ ¬ c.own gb ∧ W.heap[gb]? = ob)
    (hT : LvTo B w0 W w' c c' gs') (hx : Ex gs gs') (hv : x.1 / 2 < gs'.length ∧ ∀ vals, sayE vals gs' x.1 = x.2 vals) : StG B w0 bg w' gs' L (x :: E) gb ob :=
  ⟨c', hT.bg.trans h1, hT.lv, fun y hy => by
    obtain ⟨a1, a2, a3⟩ := h3 y hy
    exact ⟨a1.to hT, a2.ex hx, fun vals => (valE_ex hx a2 (by rw [a1.len]; exact a1.pos)).trans (a3 vals)⟩, fun y hy => by
    rcases List.mem_cons.1 hy with e | e
    · rw [e]; exact hv
    · exact ⟨Nat.lt_of_lt_of_le (h4 y e).1 hx.len, fun vals => (say_ex hx (h4 y e).1).trans ((h4 y e).2 vals)⟩, ⟨Nat.lt_of_lt_of_le h5.1 hT.size, (hT.gst gb h5.1 h5.2.1).2, (hT.gst gb h5.1 h5.2.1).1.trans h5.2.2⟩⟩
/-- What an operation on numbers leaves. -/
def NumG (gb : Nat) (ob : Option Obj) (B : Nat) (w0 : World) (bg : Nat) (gs : Gs) (L : List Vrec) (E : List (Nat × (List Bool → Bool))) (n K : Nat) (C : Prop) (F : List Bool → Int) (e : Ending) (w' : World) : Prop :=
  ∃ (g cp : Nat) (l : List Nat) (gs' : Gs), e = .returned (.tuple #[.slice (some ⟨g, 0, none⟩) n cp, .int .i64 0]) ∧ gs'.length ≤ gs.length + K ∧ (C → gs' = gs ∧ Cst l) ∧ Hid (StG B w0 bg w' gs' (⟨some ⟨g, 0, none⟩, n, l, F⟩ :: L) E gb ob)
def EdgG (gb : Nat) (ob : Option Obj) (B : Nat) (w0 : World) (bg : Nat) (gs : Gs) (L : List Vrec) (E : List (Nat × (List Bool → Bool))) (K : Nat) (C : Prop) (F : List Bool → Bool) (e : Ending) (w' : World) : Prop :=
  ∃ (r : Nat) (gs' : Gs), e = .returned (.tuple #[.int .u32 (r : Int), .int .i64 0]) ∧ gs'.length ≤ gs.length + K ∧ (C → gs' = gs ∧ r < 2) ∧ Hid (StG B w0 bg w' gs' L ((r, F) :: E) gb ob)
theorem StG.num {c : GrC} {n K : Nat} {C : Prop} {F F2 : List Bool → Int} {e : Ending} (h1 : c.bg = bg) (h3 : ∀ x ∈ L, VcAt W c x.A x.n x.l ∧ AllIn gs x.l ∧ ∀ vals, valE vals gs x.l = x.F vals) (h4 : ∀ x ∈ E, x.1 / 2 < gs.length ∧ ∀ vals, sayE vals gs x.1 = x.2 vals) (h5 : gb < W.heap.size ∧ ¬ c.own gb ∧ W.heap[gb]? = ob)
    (h : Vec2To B w0 W c gs n K C F e w') (hF : ∀ vals, F vals = F2 vals) : NumG gb ob B w0 bg gs L E n K C F2 e w' := by
  obtain ⟨g, cp, l, gs', c', rfl, hr, hT, hv⟩ := h.out
  exact ⟨g, cp, l, gs', rfl, hr.len, hr.cst, StG.put h1 h3 h4 h5 hT hr.ex ⟨hv, hr.inn, fun vals => (hr.val vals).trans (hF vals)⟩⟩
theorem StG.edg {c : GrC} {K : Nat} {C : Prop} {F F2 : List Bool → Bool} {e : Ending} (h1 : c.bg = bg) (h3 : ∀ x ∈ L, VcAt W c x.A x.n x.l ∧ AllIn gs x.l ∧ ∀ vals, valE vals gs x.l = x.F vals) (h4 : ∀ x ∈ E, x.1 / 2 < gs.length ∧ ∀ vals, sayE vals gs x.1 = x.2 vals) (h5 : gb < W.heap.size ∧ ¬ c.own gb ∧ W.heap[gb]? = ob)
    (h : Edge2To B w0 W c gs K C F e w') (hF : ∀ vals, F vals = F2 vals) : EdgG gb ob B w0 bg gs L E K C F2 e w' := by
  obtain ⟨r, gs', c', rfl, hr, hT⟩ := h.out
  exact ⟨r, gs', rfl, hr.len, hr.cst, StG.putE h1 h3 h4 h5 hT hr.ex ⟨hr.lt, fun vals => (hr.say vals).trans (hF vals)⟩⟩
variable {A D : Option Addr} {n m : Nat} {la lb : List Nat} {Fa Fb : List Bool → Int}
theorem StG.add (h : StG B w0 bg W gs L E gb ob) (cn cm : Nat) (ha : ⟨A, n, la, Fa⟩ ∈ L) (hb : ⟨D, m, lb, Fb⟩ ∈ L) (hn : n ≤ 31) (hm : m ≤ 31) (hg : gs.length ≤ 30000) :
    Calls Try.prog 12 #[.pointer (some ⟨bg, 0, none⟩), .slice A n cn, .slice D m cm] W (NumG gb ob B w0 bg gs L E (max n m + 1) 512 (Cst la ∧ Cst lb) fun vals => Fa vals + Fb vals) := by
  obtain ⟨c, h1, h2, h3, h4, h5⟩ := h
  obtain ⟨a1, a2, a3⟩ : VcAt W c A n la ∧ AllIn gs la ∧ ∀ vals, valE vals gs la = Fa vals := h3 _ ha
  obtain ⟨b1, b2, b3⟩ : VcAt W c D m lb ∧ AllIn gs lb ∧ ∀ vals, valE vals gs lb = Fb vals := h3 _ hb
  rw [← h1]
  exact (vadd_any h2 a1 b1 a2 b2 hn hm hg).mono fun e w' q => by
    rw [h1]; exact StG.num h1 h3 h4 h5 q fun vals => by rw [← a3 vals, ← b3 vals]
theorem StG.sub (h : StG B w0 bg W gs L E gb ob) (cn cm : Nat) (ha : ⟨A, n, la, Fa⟩ ∈ L) (hb : ⟨D, m, lb, Fb⟩ ∈ L) (hn : n ≤ 31) (hm : m ≤ 31) (hg : gs.length ≤ 30000) :
    Calls Try.prog 24 #[.pointer (some ⟨bg, 0, none⟩), .slice A n cn, .slice D m cm] W (NumG gb ob B w0 bg gs L E (max n m + 1) 512 (Cst la ∧ Cst lb) fun vals => Fa vals - Fb vals) := by
  obtain ⟨c, h1, h2, h3, h4, h5⟩ := h
  obtain ⟨a1, a2, a3⟩ : VcAt W c A n la ∧ AllIn gs la ∧ ∀ vals, valE vals gs la = Fa vals := h3 _ ha
  obtain ⟨b1, b2, b3⟩ : VcAt W c D m lb ∧ AllIn gs lb ∧ ∀ vals, valE vals gs lb = Fb vals := h3 _ hb
  rw [← h1]
  exact (vsub_any h2 a1 b1 a2 b2 hn hm hg).mono fun e w' q => by
    rw [h1]; exact StG.num h1 h3 h4 h5 q fun vals => by rw [← a3 vals, ← b3 vals]
theorem StG.times (h : StG B w0 bg W gs L E gb ob) (cn cm : Nat) (ha : ⟨A, n, la, Fa⟩ ∈ L) (hb : ⟨D, m, lb, Fb⟩ ∈ L) (hnm : n + m ≤ 32) (hg : gs.length ≤ 30000) (K : Nat) (hK1 : m * (18 * (n + 1)) ≤ K) (hK2 : n * (18 * (m + 1)) ≤ K) :
    Calls Try.prog 25 #[.pointer (some ⟨bg, 0, none⟩), .slice A n cn, .slice D m cm] W (NumG gb ob B w0 bg gs L E (n + m) K (Cst la ∧ Cst lb) fun vals => Fa vals * Fb vals) := by
  obtain ⟨c, h1, h2, h3, h4, h5⟩ := h
  obtain ⟨a1, a2, a3⟩ : VcAt W c A n la ∧ AllIn gs la ∧ ∀ vals, valE vals gs la = Fa vals := h3 _ ha
  obtain ⟨b1, b2, b3⟩ : VcAt W c D m lb ∧ AllIn gs lb ∧ ∀ vals, valE vals gs lb = Fb vals := h3 _ hb
  rw [← h1]
  exact (vtimes_any h2 a1 b1 a2 b2 hnm hg K hK1 hK2).mono fun e w' q => by
    rw [h1]; exact StG.num h1 h3 h4 h5 q fun vals => by rw [← a3 vals, ← b3 vals]
theorem StG.less (h : StG B w0 bg W gs L E gb ob) (cn cm : Nat) (ha : ⟨A, n, la, Fa⟩ ∈ L) (hb : ⟨D, m, lb, Fb⟩ ∈ L) (hn : n ≤ 32) (hm : m ≤ 32) (hg : gs.length ≤ 60000) :
    Calls Try.prog 14 #[.pointer (some ⟨bg, 0, none⟩), .slice A n cn, .slice D m cm] W (EdgG gb ob B w0 bg gs L E 256 (Cst la ∧ Cst lb) fun vals => decide (Fa vals < Fb vals)) := by
  obtain ⟨c, h1, h2, h3, h4, h5⟩ := h
  obtain ⟨a1, a2, a3⟩ : VcAt W c A n la ∧ AllIn gs la ∧ ∀ vals, valE vals gs la = Fa vals := h3 _ ha
  obtain ⟨b1, b2, b3⟩ : VcAt W c D m lb ∧ AllIn gs lb ∧ ∀ vals, valE vals gs lb = Fb vals := h3 _ hb
  rw [← h1]
  exact (vless_any h2 a1 b1 a2 b2 hn hm hg).mono fun e w' q => by
    rw [h1]; exact StG.edg h1 h3 h4 h5 q fun vals => by rw [← a3 vals, ← b3 vals]
theorem StG.equal (h : StG B w0 bg W gs L E gb ob) (cn cm : Nat) (ha : ⟨A, n, la, Fa⟩ ∈ L) (hb : ⟨D, m, lb, Fb⟩ ∈ L) (hn : n ≤ 32) (hm : m ≤ 32) (hg : gs.length ≤ 60000) :
    Calls Try.prog 16 #[.pointer (some ⟨bg, 0, none⟩), .slice A n cn, .slice D m cm] W (EdgG gb ob B w0 bg gs L E 160 (Cst la ∧ Cst lb) fun vals => decide (Fa vals = Fb vals)) := by
  obtain ⟨c, h1, h2, h3, h4, h5⟩ := h
  obtain ⟨a1, a2, a3⟩ : VcAt W c A n la ∧ AllIn gs la ∧ ∀ vals, valE vals gs la = Fa vals := h3 _ ha
  obtain ⟨b1, b2, b3⟩ : VcAt W c D m lb ∧ AllIn gs lb ∧ ∀ vals, valE vals gs lb = Fb vals := h3 _ hb
  rw [← h1]
  exact (vequal_any h2 a1 b1 a2 b2 hn hm hg).mono fun e w' q => by
    rw [h1]; exact StG.edg h1 h3 h4 h5 q fun vals => by rw [← a3 vals, ← b3 vals]
theorem StG.choose (h : StG B w0 bg W gs L E gb ob) (cn cm : Nat) {p : Nat} {f : List Bool → Bool} (hp : (p, f) ∈ E) (ha : ⟨A, n, la, Fa⟩ ∈ L) (hb : ⟨D, m, lb, Fb⟩ ∈ L) (hn : n ≤ 32) (hm : m ≤ 32) (hg : gs.length ≤ 60000) :
    Calls Try.prog 26 #[.pointer (some ⟨bg, 0, none⟩), .int .u32 (p : Int), .slice A n cn, .slice D m cm] W (NumG gb ob B w0 bg gs L E (max n m) 128 (p < 2 ∧ Cst la ∧ Cst lb) fun vals => if f vals then Fa vals else Fb vals) := by
  obtain ⟨c, h1, h2, h3, h4, h5⟩ := h
  obtain ⟨a1, a2, a3⟩ : VcAt W c A n la ∧ AllIn gs la ∧ ∀ vals, valE vals gs la = Fa vals := h3 _ ha
  obtain ⟨b1, b2, b3⟩ : VcAt W c D m lb ∧ AllIn gs lb ∧ ∀ vals, valE vals gs lb = Fb vals := h3 _ hb
  obtain ⟨e1, e2⟩ : p / 2 < gs.length ∧ ∀ vals, sayE vals gs p = f vals := h4 _ hp
  rw [← h1]
  exact (vchose_any h2 p e1 a1 b1 a2 b2 hn hm hg).mono fun e w' q => by
    rw [h1]; exact StG.num h1 h3 h4 h5 q fun vals => by rw [← a3 vals, ← b3 vals, e2 vals]
theorem StG.number (h : StG B w0 bg W gs L E gb ob) (cn cv : Nat) {V : Option Addr} {nv : Nat} {bs : List Bool} (ha : ⟨A, n, la, Fa⟩ ∈ L) (hv : RdO W W.heap.size V nv bs) (hn : n ≤ 32) (hg : gs.length ≤ 80000) :
    Calls Try.prog 20 #[.pointer (some ⟨bg, 0, none⟩), .slice V nv cv, .slice A n cn] W fun e w' => e = .returned (.tuple #[.int .i64 (Fa bs), .int .i64 0]) ∧ Below W.heap.size W w' := by
  obtain ⟨c, h1, h2, h3, h4, h5⟩ := h
  obtain ⟨a1, a2, a3⟩ : VcAt W c A n la ∧ AllIn gs la ∧ ∀ vals, valE vals gs la = Fa vals := h3 _ ha
  rw [← h1, ← a3 bs]
  exact vNumber_any h2 a1 hv a2 hn hg
/-- What edges say, asked in a new list. -/
theorem StG.eval (h : StG B w0 bg W gs L E gb ob) (cv : Nat) {V : Option Addr} {nv : Nat} {bs : List Bool} (hv : RdO W W.heap.size V nv bs) (R : List (Nat × (List Bool → Bool))) (hR : ∀ x ∈ R, x ∈ E) (hl : R.length ≤ 100) (hg : gs.length ≤ 80000) :
    Calls Try.prog 27 #[.pointer (some ⟨bg, 0, none⟩), .slice V nv cv, .slice (some ⟨W.heap.size, 0, none⟩) R.length R.length] (W.alloc (.cells (R.map fun x => Value.int .u32 (x.1 : Int)).toArray 25)) fun e w' =>
      ∃ g, e = .returned (.tuple #[.slice (some ⟨g, 0, none⟩) R.length R.length, .int .i64 0]) ∧ Below W.heap.size W w' ∧ Hid (∀ j, j < R.length → w'.cell? ⟨g, j, none⟩ = some (.bool ((R.getD j (0, fun _ => false)).2 bs))) ∧ Hid (∀ W2, Below w'.heap.size w' W2 → ∀ j, j < R.length → W2.cell? ⟨g, j, none⟩ = w'.cell? ⟨g, j, none⟩) := by
  obtain ⟨c, h1, h2, h3, h4, h5⟩ := h
  have hb : Below W.heap.size W (W.alloc (.cells (R.map fun x => Value.int .u32 (x.1 : Int)).toArray 25)) := (Below.refl _ _).alloc (Nat.le_refl _) _
  have hm : (R.map fun x => Value.int .u32 (x.1 : Int)) = (R.map (·.1)).map fun x : Nat => Value.int .u32 (x : Int) := by rw [List.map_map]; rfl
  have hrd := rdn_made .u32 W 25 (R.map (·.1))
  rw [← hm, List.length_map] at hrd
  have hin : AllIn gs (R.map (·.1)) := fun x hx => by
    obtain ⟨y, hy, rfl⟩ := List.mem_map.1 hx
    exact (h4 y (hR y hy)).1
  rw [← h1]
  refine ((h2.below hb).eval (by omega) V nv cv bs (hv.belo hb) (some ⟨W.heap.size, 0, none⟩) R.length R.length (R.map (·.1)) hrd hin (by omega)).mono ?_
  rintro e w' ⟨g, rfl, hr, hg2, hb2⟩
  rw [List.length_map] at hr ⊢
  refine ⟨g, rfl, hb.trans (hb2.mono hb.size), fun j hj => ?_, fun W2 hW2 j hj => hW2.cell (p := ⟨g, j, none⟩) hr.lt⟩
  rw [hr.cell (show j < R.length * 1 by omega)]
  congr 2
  rw [List.getD, List.getD, List.getElem?_map, List.getElem?_eq_getElem hj]
  exact (h4 _ (hR _ (List.getElem_mem hj))).2 bs

end
/-- The guest comes in. -/
theorem St.guest {B bg : Nat} {w0 V W : World} {gs : Gs} {L : List Vrec} {E : List (Nat × (List Bool → Bool))} (h : St B w0 bg V gs L E) (hb : Below V.heap.size V W) {g : Nat} (h1 : V.heap.size ≤ g) (h2 : g < W.heap.size) : StG B w0 bg W gs L E g W.heap[g]? := by
  have hno : ∀ c, LvG B w0 V c gs → ¬ c.own g := fun c hc ho => by have := hc.at_.lt ho; omega
  obtain ⟨c, k1, k2, k3, k4⟩ := h
  exact ⟨c, k1, k2.below hb, fun x hx => ⟨(k3 x hx).1.below hb, (k3 x hx).2⟩, k4, h2, hno c k2, rfl⟩
theorem StG.row {B bg gb : Nat} {ob : Option Obj} {w0 W : World} {gs : Gs} {L : List Vrec} {E : List (Nat × (List Bool → Bool))} (h : StG B w0 bg W gs L E gb ob) : gb < W.heap.size ∧ W.heap[gb]? = ob := by
  obtain ⟨c, _, _, _, _, h5⟩ := h
  exact ⟨h5.1, h5.2.2⟩
end Go.Proofs.Ytelpoocgmflofaa
