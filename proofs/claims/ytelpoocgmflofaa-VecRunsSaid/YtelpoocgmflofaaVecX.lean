/- A circuit, numbers and edges while a law asks: what each operation leaves. -/
import Derived.Test.YtelpoocgmflofaaVecW
namespace Go.Proofs.Ytelpoocgmflofaa
open Go.RowKit GatM VecM

/-- A number in memory: its list's place, its edges, what it is. -/
structure Vrec where
  A : Option Addr
  n : Nat
  l : List Nat
  F : List Bool → Int
/-- A circuit of a law's own with numbers L and edges E. -/
def St (B : Nat) (w0 : World) (bg : Nat) (W : World) (gs : Gs) (L : List Vrec) (E : List (Nat × (List Bool → Bool))) : Prop :=
  ∃ c : GrC, c.bg = bg ∧ LvG B w0 W c gs ∧ (∀ x ∈ L, VcAt W c x.A x.n x.l ∧ AllIn gs x.l ∧ ∀ vals, valE vals gs x.l = x.F vals) ∧ ∀ x ∈ E, x.1 / 2 < gs.length ∧ ∀ vals, sayE vals gs x.1 = x.2 vals
section
variable {B bg : Nat} {w0 W w' : World} {gs gs' : Gs} {L : List Vrec} {E : List (Nat × (List Bool → Bool))}
theorem St.below (h : St B w0 bg W gs L E) (hb : Below W.heap.size W w') : St B w0 bg w' gs L E := by
  obtain ⟨c, h1, h2, h3, h4⟩ := h
  exact ⟨c, h1, h2.below hb, fun x hx => ⟨(h3 x hx).1.below hb, (h3 x hx).2⟩, h4⟩
theorem St.be (h : St B w0 bg W gs L E) : Below B w0 W ∧ B ≤ W.heap.size := by
  obtain ⟨c, _, h2, _⟩ := h
  exact ⟨h2.be, h2.hB⟩
theorem St.len_ (h : St B w0 bg W gs L E) : Calls Try.prog 28 #[.pointer (some ⟨bg, 0, none⟩)] W fun e w' => e = .returned (.int .i64 (gs.length : Int)) ∧ W = w' := by
  obtain ⟨c, h1, h2, _⟩ := h
  rw [← h1]; exact h2.len_
theorem St.new {w1 : World} {e : Ending} (h : NewTo w1 e W) (hb : Below B w0 w1) (hB : B ≤ w1.heap.size) : ∃ bg, e = .returned (.pointer (some ⟨bg, 0, none⟩)) ∧ St B w0 bg W [(0, 0)] [] [] := by
  obtain ⟨c, h1, h2⟩ := LvG.new h hb hB
  exact ⟨c.bg, h1, c, rfl, h2, fun x hx => absurd hx List.not_mem_nil, fun x hx => absurd hx List.not_mem_nil⟩
/-- Behind an operation that makes a number. -/
theorem St.put {c c' : GrC} {x : Vrec} (h1 : c.bg = bg) (h3 : ∀ x ∈ L, VcAt W c x.A x.n x.l ∧ AllIn gs x.l ∧ ∀ vals, valE vals gs x.l = x.F vals) (h4 : ∀ x ∈ E, x.1 / 2 < gs.length ∧ ∀ vals, sayE vals gs x.1 = x.2 vals)
    (hT : LvTo B w0 W w' c c' gs') (hx : Ex gs gs') (hv : VcAt w' c' x.A x.n x.l ∧ AllIn gs' x.l ∧ ∀ vals, valE vals gs' x.l = x.F vals) : St B w0 bg w' gs' (x :: L) E :=
  ⟨c', hT.bg.trans h1, hT.lv, fun y hy => by
    rcases List.mem_cons.1 hy with e | e
    · rw [e]; exact hv
    · obtain ⟨a1, a2, a3⟩ := h3 y e
      exact ⟨a1.to hT, a2.ex hx, fun vals => (valE_ex hx a2 (by rw [a1.len]; exact a1.pos)).trans (a3 vals)⟩, fun y hy => ⟨Nat.lt_of_lt_of_le (h4 y hy).1 hx.len, fun vals => (say_ex hx (h4 y hy).1).trans ((h4 y hy).2 vals)⟩⟩
theorem St.putE {c c' : GrC} {x : Nat × (List Bool → Bool)} (h1 : c.bg = bg) (h3 : ∀ x ∈ L, VcAt W c x.A x.n x.l ∧ AllIn gs x.l ∧ ∀ vals, valE vals gs x.l = x.F vals) (h4 : ∀ x ∈ E, x.1 / 2 < gs.length ∧ ∀ vals, sayE vals gs x.1 = x.2 vals)
    (hT : LvTo B w0 W w' c c' gs') (hx : Ex gs gs') (hv : x.1 / 2 < gs'.length ∧ ∀ vals, sayE vals gs' x.1 = x.2 vals) : St B w0 bg w' gs' L (x :: E) :=
  ⟨c', hT.bg.trans h1, hT.lv, fun y hy => by
    obtain ⟨a1, a2, a3⟩ := h3 y hy
    exact ⟨a1.to hT, a2.ex hx, fun vals => (valE_ex hx a2 (by rw [a1.len]; exact a1.pos)).trans (a3 vals)⟩, fun y hy => by
    rcases List.mem_cons.1 hy with e | e
    · rw [e]; exact hv
    · exact ⟨Nat.lt_of_lt_of_le (h4 y e).1 hx.len, fun vals => (say_ex hx (h4 y e).1).trans ((h4 y e).2 vals)⟩⟩
/-- What an operation on numbers leaves. -/
def Num (B : Nat) (w0 : World) (bg : Nat) (gs : Gs) (L : List Vrec) (E : List (Nat × (List Bool → Bool))) (n K : Nat) (C : Prop) (F : List Bool → Int) (e : Ending) (w' : World) : Prop :=
  ∃ (g cp : Nat) (l : List Nat) (gs' : Gs), e = .returned (.tuple #[.slice (some ⟨g, 0, none⟩) n cp, .int .i64 0]) ∧ gs'.length ≤ gs.length + K ∧ (C → gs' = gs ∧ Cst l) ∧ Hid (St B w0 bg w' gs' (⟨some ⟨g, 0, none⟩, n, l, F⟩ :: L) E)
def Edg (B : Nat) (w0 : World) (bg : Nat) (gs : Gs) (L : List Vrec) (E : List (Nat × (List Bool → Bool))) (K : Nat) (C : Prop) (F : List Bool → Bool) (e : Ending) (w' : World) : Prop :=
  ∃ (r : Nat) (gs' : Gs), e = .returned (.tuple #[.int .u32 (r : Int), .int .i64 0]) ∧ gs'.length ≤ gs.length + K ∧ (C → gs' = gs ∧ r < 2) ∧ Hid (St B w0 bg w' gs' L ((r, F) :: E))
theorem St.num {c : GrC} {n K : Nat} {C : Prop} {F F2 : List Bool → Int} {e : Ending} (h1 : c.bg = bg) (h3 : ∀ x ∈ L, VcAt W c x.A x.n x.l ∧ AllIn gs x.l ∧ ∀ vals, valE vals gs x.l = x.F vals) (h4 : ∀ x ∈ E, x.1 / 2 < gs.length ∧ ∀ vals, sayE vals gs x.1 = x.2 vals)
    (h : Vec2To B w0 W c gs n K C F e w') (hF : ∀ vals, F vals = F2 vals) : Num B w0 bg gs L E n K C F2 e w' := by
  obtain ⟨g, cp, l, gs', c', rfl, hr, hT, hv⟩ := h.out
  exact ⟨g, cp, l, gs', rfl, hr.len, hr.cst, St.put h1 h3 h4 hT hr.ex ⟨hv, hr.inn, fun vals => (hr.val vals).trans (hF vals)⟩⟩
theorem St.edg {c : GrC} {K : Nat} {C : Prop} {F F2 : List Bool → Bool} {e : Ending} (h1 : c.bg = bg) (h3 : ∀ x ∈ L, VcAt W c x.A x.n x.l ∧ AllIn gs x.l ∧ ∀ vals, valE vals gs x.l = x.F vals) (h4 : ∀ x ∈ E, x.1 / 2 < gs.length ∧ ∀ vals, sayE vals gs x.1 = x.2 vals)
    (h : Edge2To B w0 W c gs K C F e w') (hF : ∀ vals, F vals = F2 vals) : Edg B w0 bg gs L E K C F2 e w' := by
  obtain ⟨r, gs', c', rfl, hr, hT⟩ := h.out
  exact ⟨r, gs', rfl, hr.len, hr.cst, St.putE h1 h3 h4 hT hr.ex ⟨hr.lt, fun vals => (hr.say vals).trans (hF vals)⟩⟩
variable {A D : Option Addr} {n m : Nat} {la lb : List Nat} {Fa Fb : List Bool → Int}
theorem St.add (h : St B w0 bg W gs L E) (cn cm : Nat) (ha : ⟨A, n, la, Fa⟩ ∈ L) (hb : ⟨D, m, lb, Fb⟩ ∈ L) (hn : n ≤ 31) (hm : m ≤ 31) (hg : gs.length ≤ 30000) :
    Calls Try.prog 12 #[.pointer (some ⟨bg, 0, none⟩), .slice A n cn, .slice D m cm] W (Num B w0 bg gs L E (max n m + 1) 512 (Cst la ∧ Cst lb) fun vals => Fa vals + Fb vals) := by
  obtain ⟨c, h1, h2, h3, h4⟩ := h
  obtain ⟨a1, a2, a3⟩ : VcAt W c A n la ∧ AllIn gs la ∧ ∀ vals, valE vals gs la = Fa vals := h3 _ ha
  obtain ⟨b1, b2, b3⟩ : VcAt W c D m lb ∧ AllIn gs lb ∧ ∀ vals, valE vals gs lb = Fb vals := h3 _ hb
  rw [← h1]
  exact (vadd_any h2 a1 b1 a2 b2 hn hm hg).mono fun e w' q => by
    rw [h1]; exact St.num h1 h3 h4 q fun vals => by rw [← a3 vals, ← b3 vals]
theorem St.sub (h : St B w0 bg W gs L E) (cn cm : Nat) (ha : ⟨A, n, la, Fa⟩ ∈ L) (hb : ⟨D, m, lb, Fb⟩ ∈ L) (hn : n ≤ 31) (hm : m ≤ 31) (hg : gs.length ≤ 30000) :
    Calls Try.prog 24 #[.pointer (some ⟨bg, 0, none⟩), .slice A n cn, .slice D m cm] W (Num B w0 bg gs L E (max n m + 1) 512 (Cst la ∧ Cst lb) fun vals => Fa vals - Fb vals) := by
  obtain ⟨c, h1, h2, h3, h4⟩ := h
  obtain ⟨a1, a2, a3⟩ : VcAt W c A n la ∧ AllIn gs la ∧ ∀ vals, valE vals gs la = Fa vals := h3 _ ha
  obtain ⟨b1, b2, b3⟩ : VcAt W c D m lb ∧ AllIn gs lb ∧ ∀ vals, valE vals gs lb = Fb vals := h3 _ hb
  rw [← h1]
  exact (vsub_any h2 a1 b1 a2 b2 hn hm hg).mono fun e w' q => by
    rw [h1]; exact St.num h1 h3 h4 q fun vals => by rw [← a3 vals, ← b3 vals]
theorem St.times (h : St B w0 bg W gs L E) (cn cm : Nat) (ha : ⟨A, n, la, Fa⟩ ∈ L) (hb : ⟨D, m, lb, Fb⟩ ∈ L) (hnm : n + m ≤ 32) (hg : gs.length ≤ 30000) (K : Nat) (hK1 : m * (18 * (n + 1)) ≤ K) (hK2 : n * (18 * (m + 1)) ≤ K) :
    Calls Try.prog 25 #[.pointer (some ⟨bg, 0, none⟩), .slice A n cn, .slice D m cm] W (Num B w0 bg gs L E (n + m) K (Cst la ∧ Cst lb) fun vals => Fa vals * Fb vals) := by
  obtain ⟨c, h1, h2, h3, h4⟩ := h
  obtain ⟨a1, a2, a3⟩ : VcAt W c A n la ∧ AllIn gs la ∧ ∀ vals, valE vals gs la = Fa vals := h3 _ ha
  obtain ⟨b1, b2, b3⟩ : VcAt W c D m lb ∧ AllIn gs lb ∧ ∀ vals, valE vals gs lb = Fb vals := h3 _ hb
  rw [← h1]
  exact (vtimes_any h2 a1 b1 a2 b2 hnm hg K hK1 hK2).mono fun e w' q => by
    rw [h1]; exact St.num h1 h3 h4 q fun vals => by rw [← a3 vals, ← b3 vals]
theorem St.less (h : St B w0 bg W gs L E) (cn cm : Nat) (ha : ⟨A, n, la, Fa⟩ ∈ L) (hb : ⟨D, m, lb, Fb⟩ ∈ L) (hn : n ≤ 32) (hm : m ≤ 32) (hg : gs.length ≤ 60000) :
    Calls Try.prog 14 #[.pointer (some ⟨bg, 0, none⟩), .slice A n cn, .slice D m cm] W (Edg B w0 bg gs L E 256 (Cst la ∧ Cst lb) fun vals => decide (Fa vals < Fb vals)) := by
  obtain ⟨c, h1, h2, h3, h4⟩ := h
  obtain ⟨a1, a2, a3⟩ : VcAt W c A n la ∧ AllIn gs la ∧ ∀ vals, valE vals gs la = Fa vals := h3 _ ha
  obtain ⟨b1, b2, b3⟩ : VcAt W c D m lb ∧ AllIn gs lb ∧ ∀ vals, valE vals gs lb = Fb vals := h3 _ hb
  rw [← h1]
  exact (vless_any h2 a1 b1 a2 b2 hn hm hg).mono fun e w' q => by
    rw [h1]; exact St.edg h1 h3 h4 q fun vals => by rw [← a3 vals, ← b3 vals]
theorem St.equal (h : St B w0 bg W gs L E) (cn cm : Nat) (ha : ⟨A, n, la, Fa⟩ ∈ L) (hb : ⟨D, m, lb, Fb⟩ ∈ L) (hn : n ≤ 32) (hm : m ≤ 32) (hg : gs.length ≤ 60000) :
    Calls Try.prog 16 #[.pointer (some ⟨bg, 0, none⟩), .slice A n cn, .slice D m cm] W (Edg B w0 bg gs L E 160 (Cst la ∧ Cst lb) fun vals => decide (Fa vals = Fb vals)) := by
  obtain ⟨c, h1, h2, h3, h4⟩ := h
  obtain ⟨a1, a2, a3⟩ : VcAt W c A n la ∧ AllIn gs la ∧ ∀ vals, valE vals gs la = Fa vals := h3 _ ha
  obtain ⟨b1, b2, b3⟩ : VcAt W c D m lb ∧ AllIn gs lb ∧ ∀ vals, valE vals gs lb = Fb vals := h3 _ hb
  rw [← h1]
  exact (vequal_any h2 a1 b1 a2 b2 hn hm hg).mono fun e w' q => by
    rw [h1]; exact St.edg h1 h3 h4 q fun vals => by rw [← a3 vals, ← b3 vals]
theorem St.choose (h : St B w0 bg W gs L E) (cn cm : Nat) {p : Nat} {f : List Bool → Bool} (hp : (p, f) ∈ E) (ha : ⟨A, n, la, Fa⟩ ∈ L) (hb : ⟨D, m, lb, Fb⟩ ∈ L) (hn : n ≤ 32) (hm : m ≤ 32) (hg : gs.length ≤ 60000) :
    Calls Try.prog 26 #[.pointer (some ⟨bg, 0, none⟩), .int .u32 (p : Int), .slice A n cn, .slice D m cm] W (Num B w0 bg gs L E (max n m) 128 (p < 2 ∧ Cst la ∧ Cst lb) fun vals => if f vals then Fa vals else Fb vals) := by
  obtain ⟨c, h1, h2, h3, h4⟩ := h
  obtain ⟨a1, a2, a3⟩ : VcAt W c A n la ∧ AllIn gs la ∧ ∀ vals, valE vals gs la = Fa vals := h3 _ ha
  obtain ⟨b1, b2, b3⟩ : VcAt W c D m lb ∧ AllIn gs lb ∧ ∀ vals, valE vals gs lb = Fb vals := h3 _ hb
  obtain ⟨e1, e2⟩ : p / 2 < gs.length ∧ ∀ vals, sayE vals gs p = f vals := h4 _ hp
  rw [← h1]
  exact (vchose_any h2 p e1 a1 b1 a2 b2 hn hm hg).mono fun e w' q => by
    rw [h1]; exact St.num h1 h3 h4 q fun vals => by rw [← a3 vals, ← b3 vals, e2 vals]
theorem St.con (h : St B w0 bg W gs L E) (n : Int) (hn : I64 n) (m : Nat) (hm : m = widthZ n n) (h0 : 0 < m) : Calls Try.prog 11 #[.int .i64 n] W fun e w' => ∃ g, e = .returned (.tuple #[.slice (some ⟨g, 0, none⟩) m m, .int .i64 0]) ∧ Hid (St B w0 bg w' gs (⟨some ⟨g, 0, none⟩, m, conL n m, fun _ => n⟩ :: L) E) := by
  obtain ⟨c, h1, h2, h3, h4⟩ := h
  refine (vcon_yes h2 n hn m hm h0).mono fun e w' ⟨g, q1, q2, q3⟩ => ⟨g, q1, St.put h1 h3 h4 (.ofBelow h2 q2) (Ex.refl _) ⟨q3, conL_in h2.wf n m, fun vals => ?_⟩⟩
  rw [conL_val h2.wf vals n h0, (widthZ_self hn hm h0).2]
theorem St.number (h : St B w0 bg W gs L E) (cn cv : Nat) {V : Option Addr} {nv : Nat} {bs : List Bool} (ha : ⟨A, n, la, Fa⟩ ∈ L) (hv : RdO W W.heap.size V nv bs) (hn : n ≤ 32) (hg : gs.length ≤ 80000) :
    Calls Try.prog 20 #[.pointer (some ⟨bg, 0, none⟩), .slice V nv cv, .slice A n cn] W fun e w' => e = .returned (.tuple #[.int .i64 (Fa bs), .int .i64 0]) ∧ Below W.heap.size W w' := by
  obtain ⟨c, h1, h2, h3, h4⟩ := h
  obtain ⟨a1, a2, a3⟩ : VcAt W c A n la ∧ AllIn gs la ∧ ∀ vals, valE vals gs la = Fa vals := h3 _ ha
  rw [← h1, ← a3 bs]
  exact vNumber_any h2 a1 hv a2 hn hg
/-- What edges say, asked in a new list. -/
theorem St.eval (h : St B w0 bg W gs L E) (cv : Nat) {V : Option Addr} {nv : Nat} {bs : List Bool} (hv : RdO W W.heap.size V nv bs) (R : List (Nat × (List Bool → Bool))) (hR : ∀ x ∈ R, x ∈ E) (hl : R.length ≤ 100) (hg : gs.length ≤ 80000) :
    Calls Try.prog 27 #[.pointer (some ⟨bg, 0, none⟩), .slice V nv cv, .slice (some ⟨W.heap.size, 0, none⟩) R.length R.length] (W.alloc (.cells (R.map fun x => Value.int .u32 (x.1 : Int)).toArray 25)) fun e w' =>
      ∃ g, e = .returned (.tuple #[.slice (some ⟨g, 0, none⟩) R.length R.length, .int .i64 0]) ∧ Below W.heap.size W w' ∧ Hid (∀ j, j < R.length → w'.cell? ⟨g, j, none⟩ = some (.bool ((R.getD j (0, fun _ => false)).2 bs))) ∧ Hid (∀ W2, Below w'.heap.size w' W2 → ∀ j, j < R.length → W2.cell? ⟨g, j, none⟩ = w'.cell? ⟨g, j, none⟩) := by
  obtain ⟨c, h1, h2, h3, h4⟩ := h
  have hb : Below W.heap.size W (W.alloc (.cells (R.map fun x => Value.int .u32 (x.1 : Int)).toArray 25)) := (Below.refl _ _).alloc (Nat.le_refl _) _
  have hm : (R.map fun x => Value.int .u32 (x.1 : Int)) = (R.map (·.1)).map fun x : Nat => Value.int .u32 (x : Int) := by rw [List.map_map]; rfl
  have hrd := rdn_made .u32 W 25 (R.map (·.1))
  rw [← hm, List.length_map] at hrd
  have hin : AllIn gs (R.map (·.1)) := fun x hx => by
    obtain ⟨y, hy, rfl⟩ := List.mem_map.1 hx
    exact (h4 y (hR y hy)).1
  rw [← h1]
  refine ((h2.below hb).eval (by omega) V nv cv bs (hv.belo hb) (some ⟨W.heap.size, 0, none⟩) R.length R.length (R.map (·.1)) hrd hin (by omega)).mono ?_
  rintro e w' ⟨g, rfl, hr, hg2, hb2⟩
  rw [List.length_map] at hr ⊢
  refine ⟨g, rfl, hb.trans (hb2.mono hb.size), fun j hj => ?_, fun W2 hW2 j hj => hW2.cell (p := ⟨g, j, none⟩) hr.lt⟩
  rw [hr.cell (show j < R.length * 1 by omega)]
  congr 2
  rw [List.getD, List.getD, List.getElem?_map, List.getElem?_eq_getElem hj]
  exact (h4 _ (hR _ (List.getElem_mem hj))).2 bs

/-! ### INPUTS -/
theorem rep_ins : ∀ k, (insL (List.replicate (k + 1) (0, 0))).length = k
  | 0 => by decide
  | k + 1 => by
    rw [List.replicate_succ', insL_snoc, List.length_append, rep_ins k, List.length_replicate, if_pos ⟨by omega, rfl⟩]
    rfl
theorem say_rep (vals : List Bool) {N i : Nat} (hi : i < N) (h0 : i ≠ 0) : sayE vals (List.replicate N (0, 0)) (2 * i) = vals.getD (i - 1) false := by
  have e1 : 2 * i / 2 = i := by omega
  have e2 : odd (2 * i) = false := by unfold odd; rw [decide_eq_false]; omega
  have hg : getG (List.replicate N (0, 0)) i = (0, 0) := by unfold getG; rw [List.getD, List.getElem?_replicate, if_pos hi]; rfl
  unfold sayE
  rw [e1, e2, tru_in h0 hg]
  have hp : plcG (List.replicate N (0, 0)) i = i - 1 := by
    unfold plcG
    rw [List.take_replicate, Nat.min_eq_left (by omega), show i = (i - 1) + 1 by omega, rep_ins]
    omega
  unfold inV
  rw [hp]
  cases vals.getD (i - 1) false <;> rfl
theorem mor_rep (N m : Nat) : mor (List.replicate N (0, 0)) m = List.replicate (N + m) (0, 0) := by unfold mor; rw [List.replicate_append_replicate]
/-- What INPUTS say. -/
def inB (N : Nat) (vals : List Bool) (j : Nat) : Bool := vals.getD (N + j - 1) false
theorem in_val (vals : List Bool) {N m : Nat} (hN : 0 < N) (hm : 0 < m) : valE vals (List.replicate (N + m) (0, 0)) (inL N m) = nB (inB N vals) m := by
  have := valE_of (vals := vals) (gs := List.replicate (N + m) (0, 0)) (l := inL N m) (f := inB N vals) (by rw [inL_len]; exact hm) fun i hi => by
    rw [inL_len] at hi
    rw [inL_at N hi, say_rep vals (by omega) (by omega)]
    rfl
  rwa [inL_len] at this
theorem St.input {N : Nat} (h : St B w0 bg W (List.replicate N (0, 0)) L E) (m : Nat) (hm : fitN m) (hN : 0 < N) (hg : N ≤ 60000) : Calls Try.prog 13 #[.pointer (some ⟨bg, 0, none⟩), .int .i64 (m : Int)] W fun e w' => ∃ g, e = .returned (.tuple #[.slice (some ⟨g, 0, none⟩) m m, .int .i64 0]) ∧ Hid (St B w0 bg w' (List.replicate (N + m) (0, 0)) (⟨some ⟨g, 0, none⟩, m, inL N m, fun vals => nB (inB N vals) m⟩ :: L) E) := by
  obtain ⟨c, h1, h2, h3, h4⟩ := h
  rw [← h1]
  refine (vInput_any h2 m hm (by rw [List.length_replicate]; exact hg)).mono ?_
  rintro e w' ⟨g, c', rfl, hT, hv, _⟩
  have hin := inL_in (List.replicate N (0, 0)) m
  have hx := mor_ex (List.replicate N (0, 0)) m
  rw [mor_rep] at hT hin hx
  rw [List.length_replicate] at hv hin
  refine ⟨g, rfl, ?_⟩
  rw [h1]
  exact St.put h1 h3 h4 hT hx ⟨hv, hin, fun vals => in_val vals hN hm.1⟩
theorem St.inp {N : Nat} (h : St B w0 bg W (List.replicate N (0, 0)) L E) (hN : 0 < N) (hg : N ≤ 60000) : Calls Try.prog 21 #[.pointer (some ⟨bg, 0, none⟩)] W fun e w' => e = .returned (.tuple #[.int .u32 ((2 * N : Nat) : Int), .int .i64 0]) ∧ Hid (St B w0 bg w' (List.replicate (N + 1) (0, 0)) L ((2 * N, fun vals => vals.getD (N - 1) false) :: E)) := by
  obtain ⟨c, h1, h2, h3, h4⟩ := h
  rw [← h1]
  refine (h2.input (by rw [List.length_replicate]; omega)).mono ?_
  rintro e w' ⟨rfl, c', hT⟩
  have hx : Ex (List.replicate N (0, 0)) (List.replicate (N + 1) (0, 0)) := ⟨[(0, 0)], by rw [List.replicate_succ']⟩
  rw [List.length_replicate]
  refine ⟨by congr 4, ?_⟩
  rw [h1]
  rw [show List.replicate N ((0 : Nat), (0 : Nat)) ++ [(0, 0)] = List.replicate (N + 1) (0, 0) by rw [List.replicate_succ']] at hT
  exact St.putE h1 h3 h4 hT hx ⟨by rw [List.length_replicate]; show 2 * N / 2 < N + 1; omega, fun vals => say_rep vals (by omega) (by omega)⟩
end
/-- A number's bits as values. -/
def bitL (n : Int) (m : Nat) : List Bool := (List.range m).map (bitZ n)
theorem bitL_len (n : Int) (m : Nat) : (bitL n m).length = m := by simp [bitL]
theorem bitL_at (n : Int) {m j : Nat} (h : j < m) : (bitL n m).getD j false = bitZ n j := by
  unfold bitL
  rw [List.getD, List.getElem?_map, List.getElem?_range h]
  rfl
theorem BitsTo.rd {w : World} {n : Int} {m : Nat} {e : Ending} {w' : World} (h : BitsTo w n m e w') : ∃ g cp, e = .returned (.slice (some ⟨g, 0, none⟩) m cp) ∧ RowV 4 1 w' g m cp (fun j => .bool (bitZ n j)) ∧ RdO w' w'.heap.size (some ⟨g, 0, none⟩) m (bitL n m) ∧ Below w.heap.size w w' ∧ w.heap.size ≤ g := by
  obtain ⟨g, cp, h1, h2, h3, h4⟩ := h
  exact ⟨g, cp, h1, h2, ⟨bitL_len n m, fun _ => ⟨g, 0, rfl, h2.lt, fun j hj => by rw [Nat.zero_add, h2.cell (by omega), bitL_at n hj]⟩⟩, h3, h4⟩
/-- INPUTS that are given a number's bits. -/
theorem in_bits (n : Int) {m N : Nat} {vals : List Bool} (hm : 0 < m) (h : ∀ j, j < m → inB N vals j = bitZ n j) : nB (inB N vals) m = cutZ n m := by
  rw [nB_congr hm h]
  obtain ⟨k, rfl⟩ : ∃ k, m = k + 1 := ⟨m - 1, by omega⟩
  exact nB_cut n k
/-- Two numbers' bits, one behind the other. -/
theorem app_two (x y : Int) {n m j : Nat} (hj : j < n + m) : (Value.bool ((bitL x n ++ bitL y m).getD j false)) = appV (fun j => .bool (bitZ x j)) (n * 1) (cellsV (fun j => .bool (bitZ y j)) (m * 1)) j := by
  unfold appV
  by_cases h : j < n
  · rw [if_pos (by omega), List.getD, List.getElem?_append_left (by rw [bitL_len]; exact h)]
    have := bitL_at x h
    rw [List.getD] at this
    rw [this]
  · rw [if_neg (by omega), List.getD, List.getElem?_append_right (by rw [bitL_len]; omega), bitL_len, Nat.mul_one, Nat.mul_one, List.getD, cellsV_get _ (by omega)]
    have := bitL_at y (show j - n < m by omega)
    rw [List.getD] at this
    rw [this]
    rfl
/-- And a bool behind them. -/
theorem app_three (x y : Int) (b : Bool) {n m j : Nat} (hj : j < n + m + 1) : (Value.bool ((bitL x n ++ bitL y m ++ [b]).getD j false)) = appV (appV (fun j => .bool (bitZ x j)) (n * 1) (cellsV (fun j => .bool (bitZ y j)) (m * 1))) ((n + m) * 1) [.bool b] j := by
  have hl : (bitL x n ++ bitL y m).length = n + m := by rw [List.length_append, bitL_len, bitL_len]
  by_cases h : j < n + m
  · rw [show appV (appV (fun j => .bool (bitZ x j)) (n * 1) (cellsV (fun j => .bool (bitZ y j)) (m * 1))) ((n + m) * 1) [.bool b] j = appV (fun j => .bool (bitZ x j)) (n * 1) (cellsV (fun j => .bool (bitZ y j)) (m * 1)) j from by
      show (if j < (n + m) * 1 then _ else _) = _
      rw [if_pos (by omega)], ← app_two x y h, List.getD, List.getD, List.getElem?_append_left (by omega)]
  · have hj2 : j = n + m := by omega
    show _ = (if j < (n + m) * 1 then _ else _)
    rw [if_neg (by omega), List.getD, List.getElem?_append_right (by omega), hl, show j - (n + m) = 0 by omega, show j - (n + m) * 1 = 0 by omega]
    rfl
theorem one_news {w : World} {g : Nat} {v : Value} (h : w.cell? ⟨g, 0, none⟩ = some v) : ∀ j u, [v][j]? = some u → w.cell? ((⟨g, 0, none⟩ : Addr).add j) = some u := by
  intro j u hj
  have ha : ((⟨g, 0, none⟩ : Addr).add j) = ⟨g, j, none⟩ := by unfold Addr.add; split <;> simp_all
  match j, hj with
  | 0, hj =>
    simp at hj
    rw [ha, ← hj]; exact h
  | j + 1, hj => simp at hj
end Go.Proofs.Ytelpoocgmflofaa
