/- A law's maker while a law asks its circuit: And, Or, If, Same, Eval over edges in new memory; what the laws of gates say, in plain words; two numbers that came in. -/
import Derived.Test.YtkdjbjclijbojaaGrun
import Derived.Test.YtkdjbjclijbojaaGliv
namespace Go.Proofs.Ytkdjbjclijbojaa
open Go.ChangeShapes Go.WideShapes Go.ChangeAt Go.RowKit Go.Deep GatM

theorem both_one (gs : Gs) (a : Nat) : bothG gs 1 a = (a, gs) := by
  unfold bothG
  by_cases h : a = 0
  · subst h; rfl
  · rw [Nat.min_eq_left (by omega), Nat.max_eq_right (by omega), if_neg, if_pos (.inl rfl)]
    unfold turnE
    split <;> omega
theorem both_self (gs : Gs) (a : Nat) : bothG gs a a = (a, gs) := by
  unfold bothG
  rw [Nat.min_self, Nat.max_self]
  by_cases h : a = 0
  · subst h; rfl
  · rw [if_neg, if_pos (.inr rfl)]
    have := turn_ne a
    omega
theorem both_turn (gs : Gs) (a : Nat) : bothG gs a (turnE a) = (0, gs) := by
  unfold bothG
  rw [if_pos]
  right
  unfold turnE
  split
  · rw [Nat.min_eq_left (by omega), Nat.max_eq_right (by omega), if_neg (by omega)]; omega
  · rw [Nat.min_eq_right (by omega), Nat.max_eq_left (by omega), if_neg (by omega)]
theorem both_comm (gs : Gs) (a b : Nat) : bothG gs a b = bothG gs b a := by
  unfold bothG
  rw [Nat.min_comm a b, Nat.max_comm a b]
theorem and_two (gs : Gs) (a b : Nat) : andG gs [a, b] = bothG gs a b := by
  show bothG (bothG gs 1 a).2 (bothG gs 1 a).1 b = _
  rw [both_one]
theorem and_mid (gs : Gs) (a b : Nat) : andG gs [a, 1, b] = bothG gs a b := by
  show bothG (bothG (bothG gs 1 a).2 (bothG gs 1 a).1 1).2 (bothG (bothG gs 1 a).2 (bothG gs 1 a).1 1).1 b = _
  rw [both_one, both_comm gs a 1, both_one]
structure LawsP (gs : Gs) (a b r f s : Nat) (gs1 gs2 gs3 : Gs) : Prop where
  e1 : andG gs [a, a] = (a, gs)
  e2 : andG gs [a, turnE a] = (0, gs)
  e3 : orG gs [a, turnE a] = (1, gs)
  e4 : andG gs [a, 1, b] = (r, gs1)
  e5 : andG gs1 [b, a] = (r, gs1)
  e6 : orG gs1 [turnE a, turnE b] = (turnE r, gs1)
  e7 : ifG gs1 a b b = (f, gs2)
  e9 : sameG gs2 a a = (s, gs3)
  i0 : a / 2 < gs.length ∧ b / 2 < gs.length
  i1 : a / 2 < gs1.length ∧ b / 2 < gs1.length ∧ r / 2 < gs1.length
  i2 : AllIn gs2 [f, b, turnE r, r] ∧ a / 2 < gs2.length
  i3 : AllIn gs3 [s]
  pos : Wf gs
  l1 : gs1.length ≤ gs.length + 10
  l2 : gs2.length ≤ gs.length + 20
  l3 : gs3.length ≤ gs.length + 30
  s7 : ∀ v, sayE v gs2 f = sayE v gs2 b
  s6 : ∀ v, sayE v gs2 (turnE r) = !sayE v gs2 r
  s9 : ∀ v, sayE v gs3 s = true
theorem laws_pure {gs : Gs} {a b : Nat} (hw : Wf gs) (ha : a / 2 < gs.length) (hb : b / 2 < gs.length) : ∃ r f s gs1 gs2 gs3, LawsP gs a b r f s gs1 gs2 gs3 := by
  have m1 := both_made hw ha hb
  have again := both_again (Ex.refl (bothG gs a b).2) m1.wf
  obtain ⟨r, gs1, h1⟩ : ∃ r gs1, bothG gs a b = (r, gs1) := ⟨_, _, rfl⟩
  rw [h1] at m1 again
  have a1 := Nat.lt_of_lt_of_le ha m1.ex.len
  have b1 := Nat.lt_of_lt_of_le hb m1.ex.len
  have m2 := if_made m1.wf a1 b1 b1
  have s2 := if_says m1.wf a1 b1 b1
  obtain ⟨f, gs2, h2⟩ : ∃ r g, ifG gs1 a b b = (r, g) := ⟨_, _, rfl⟩
  rw [h2] at m2 s2
  have a2 := Nat.lt_of_lt_of_le a1 m2.ex.len
  have b2 := Nat.lt_of_lt_of_le b1 m2.ex.len
  have t2 : turnE a / 2 < gs2.length := by rw [turn_div]; exact a2
  have m3 := if_made m2.wf a2 a2 t2
  have s3 := if_says m2.wf a2 a2 t2
  obtain ⟨s, gs3, h3⟩ : ∃ r g, ifG gs2 a a (turnE a) = (r, g) := ⟨_, _, rfl⟩
  rw [h3] at m3 s3
  have l1 : gs1.length ≤ gs.length + 1 := m1.len
  have l2 := m2.len
  have l3 := m3.len
  have r1 : r / 2 < gs1.length := m1.lt
  have r2 := Nat.lt_of_lt_of_le r1 m2.ex.len
  have f2 : f / 2 < gs2.length := m2.lt
  have l2' : gs2.length ≤ gs1.length + 4 := l2
  have l3' : gs3.length ≤ gs2.length + 4 := l3
  have again' : bothG gs1 a b = (r, gs1) := again
  refine ⟨r, f, s, gs1, gs2, gs3, ⟨?_, ?_, ?_, ?_, ?_, ?_, h2, h3, ⟨ha, hb⟩, ⟨a1, b1, r1⟩, ⟨?_, a2⟩, ?_, hw, by omega, by omega, by omega, fun v => ?_, fun v => say_turn _ _ _, fun v => ?_⟩⟩
  · rw [and_two, both_self]
  · rw [and_two, both_turn]
  · show (turnE (andG gs [turnE a, turnE (turnE a)]).1, (andG gs [turnE a, turnE (turnE a)]).2) = _
    rw [and_two, both_turn]; rfl
  · rw [and_mid, h1]
  · rw [and_two, both_comm, again']
  · show (turnE (andG gs1 [turnE (turnE a), turnE (turnE b)]).1, (andG gs1 [turnE (turnE a), turnE (turnE b)]).2) = _
    rw [turn_turn, turn_turn, and_two, again']
  · intro x hx
    simp only [List.mem_cons, List.not_mem_nil, or_false] at hx
    rcases hx with rfl | rfl | rfl | rfl
    · exact f2
    · exact b2
    · rw [turn_div]; exact r2
    · exact r2
  · intro x hx
    obtain rfl := List.mem_singleton.1 hx
    exact m3.lt
  · have e2 := s2 v
    have e3 : sayE v gs2 b = sayE v gs1 b := say_ex m2.ex b1
    rw [e3]
    refine e2.trans ?_
    split <;> rfl
  · have e2 := s3 v
    refine e2.trans ?_
    rw [say_turn]
    cases sayE v gs2 a <;> rfl

/-- A maker that keeps its edges and tables while its circuit grows. -/
def MS (B : Nat) (w0 : World) (k : MkrC) (bg : Nat) (E T : List Nat) (gs : Gs) (W : World) : Prop := ∃ c, c.bg = bg ∧ Mkr B w0 W k c gs E T
/-- The same beside a block of someone else's. -/
def MSg (B : Nat) (w0 : World) (k : MkrC) (bg : Nat) (E T : List Nat) (g : Nat) (gs : Gs) (W : World) : Prop := ∃ c, c.bg = bg ∧ Mkr B w0 W k c gs E T ∧ ¬ c.own g ∧ ¬ k.own g ∧ g < W.heap.size
section
variable {B bg : Nat} {w0 W w' : World} {k : MkrC} {E T : List Nat} {gs : Gs}
theorem MS.below (h : MS B w0 k bg E T gs W) (hb : Below W.heap.size W w') : MS B w0 k bg E T gs w' := by
  obtain ⟨c, a, b⟩ := h
  exact ⟨c, a, b.below hb⟩
theorem MS.c0 (h : MS B w0 k bg E T gs W) : W.cell? ⟨k.bk, 0, none⟩ = some (.pointer (some ⟨bg, 0, none⟩)) := by
  obtain ⟨c, rfl, b⟩ := h
  exact b.mk'.cells.1
theorem MS.be (h : MS B w0 k bg E T gs W) : Below B w0 W := by
  obtain ⟨c, a, b⟩ := h
  exact b.lv.be
theorem MSg.ms {g : Nat} (h : MSg B w0 k bg E T g gs W) : MS B w0 k bg E T gs W := by
  obtain ⟨c, a, b, _⟩ := h
  exact ⟨c, a, b⟩
theorem MS.step {c : GrC} (hb : c.bg = bg) (hm : Mkr B w0 W k c gs E T) {c' : GrC} {gs' : Gs} (hT : LvTo B w0 W w' c c' gs') : MS B w0 k bg E T gs' w' :=
  ⟨c', hT.bg.trans hb, (hm.graph hT).at_⟩
theorem MS.and (h : MS B w0 k bg E T gs W) (l : List Nat) (hin : AllIn gs l) (hn : gs.length + l.length ≤ 80000) {r : Nat} {gs' : Gs} (he : andG gs l = (r, gs')) :
    Calls Try.prog 9 #[.pointer (some ⟨bg, 0, none⟩), .slice (some ⟨W.heap.size, 0, none⟩) l.length l.length] (W.alloc (.cells (l.map fun x : Nat => Value.int .u32 (x : Int)).toArray 25)) fun e w' => e = .returned (.tuple #[.int .u32 (r : Int), .int .i64 0]) ∧ Hid (MS B w0 k bg E T gs' w') := by
  obtain ⟨c, rfl, hm⟩ := h
  have hb : Below W.heap.size W (W.alloc (.cells (l.map fun x : Nat => Value.int .u32 (x : Int)).toArray 25)) := (Below.refl _ _).alloc (Nat.le_refl _) _
  have hm2 := hm.below hb
  refine (hm2.lv.and _ _ _ l (rdn_made .u32 W 25 l) (fun j hj ho => ?_) hin hn).mono ?_
  · rw [onB_some] at hj
    have hj : j = W.heap.size := hj
    have := hm.lv.at_.lt ho
    omega
  · rintro e w' ⟨rfl, c', hT⟩
    rw [he] at hT ⊢
    exact ⟨rfl, MS.step rfl hm2 hT⟩
theorem MS.or (h : MS B w0 k bg E T gs W) (l : List Nat) (hin : AllIn gs l) (hn : gs.length + l.length ≤ 80000) {r : Nat} {gs' : Gs} (he : orG gs l = (r, gs')) :
    Calls Try.prog 15 #[.pointer (some ⟨bg, 0, none⟩), .slice (some ⟨W.heap.size, 0, none⟩) l.length l.length] (W.alloc (.cells (l.map fun x : Nat => Value.int .u32 (x : Int)).toArray 25)) fun e w' => e = .returned (.tuple #[.int .u32 (r : Int), .int .i64 0]) ∧ Hid (MS B w0 k bg E T gs' w') := by
  obtain ⟨c, rfl, hm⟩ := h
  have hb : Below W.heap.size W (W.alloc (.cells (l.map fun x : Nat => Value.int .u32 (x : Int)).toArray 25)) := (Below.refl _ _).alloc (Nat.le_refl _) _
  have hm2 := hm.below hb
  refine (hm2.lv.or _ _ _ l (rdn_made .u32 W 25 l) hin hn).mono ?_
  rintro e w' ⟨rfl, c', hT⟩
  rw [he] at hT ⊢
  exact ⟨rfl, MS.step rfl hm2 hT⟩
theorem MS.if_ (h : MS B w0 k bg E T gs W) (p a b : Nat) (hp : p / 2 < gs.length) (ha : a / 2 < gs.length) (hb : b / 2 < gs.length) (hn : gs.length ≤ 80000) {r : Nat} {gs' : Gs} (he : ifG gs p a b = (r, gs')) :
    Calls Try.prog 14 #[.pointer (some ⟨bg, 0, none⟩), .int .u32 (p : Int), .int .u32 (a : Int), .int .u32 (b : Int)] W fun e w' => e = .returned (.tuple #[.int .u32 (r : Int), .int .i64 0]) ∧ Hid (MS B w0 k bg E T gs' w') := by
  obtain ⟨c, rfl, hm⟩ := h
  refine (hm.lv.if_ p a b hp ha hb hn).mono ?_
  rintro e w' ⟨rfl, c', hT⟩
  rw [he] at hT ⊢
  exact ⟨rfl, MS.step rfl hm hT⟩
theorem MSg.same_ {g : Nat} (h : MSg B w0 k bg E T g gs W) (a b : Nat) (ha : a / 2 < gs.length) (hb : b / 2 < gs.length) (hn : gs.length ≤ 80000) {r : Nat} {gs' : Gs} (he : sameG gs a b = (r, gs')) :
    Calls Try.prog 13 #[.pointer (some ⟨bg, 0, none⟩), .int .u32 (a : Int), .int .u32 (b : Int)] W fun e w' => e = .returned (.tuple #[.int .u32 (r : Int), .int .i64 0]) ∧ Hid (MS B w0 k bg E T gs' w') ∧ Hid (w'.heap[g]? = W.heap[g]?) ∧ Hid (W.heap.size ≤ w'.heap.size) := by
  obtain ⟨c, rfl, hm, h1, h2, h3⟩ := h
  refine (hm.lv.same_ a b ha hb hn).mono ?_
  rintro e w' ⟨rfl, c', hT⟩
  rw [he] at hT ⊢
  exact ⟨rfl, MS.step rfl hm hT, (hT.gst g h3 h1).1, hT.size⟩
/-- Eval over edges in new memory. -/
theorem MS.eval (h : MS B w0 k bg E T gs W) (V : Option Addr) (nv cv : Nat) (bs : List Bool) (hv : RdO W W.heap.size V nv bs) (l : List Nat) (hin : AllIn gs l) (hn : gs.length ≤ 80000) (hl : l.length ≤ 80000) :
    Calls Try.prog 11 #[.pointer (some ⟨bg, 0, none⟩), .slice V nv cv, .slice (some ⟨W.heap.size, 0, none⟩) l.length l.length] (W.alloc (.cells (l.map fun x : Nat => Value.int .u32 (x : Int)).toArray 25)) fun e w' => ∃ g, e = .returned (.tuple #[.slice (some ⟨g, 0, none⟩) l.length l.length, .int .i64 0]) ∧ Hid (∀ j, j < l.length → w'.cell? ⟨g, j, none⟩ = some (.bool (sayE bs gs (l.getD j 0)))) ∧ Hid (MSg B w0 k bg E T g gs w') ∧ Hid (Below W.heap.size W w') := by
  obtain ⟨c, rfl, hm⟩ := h
  have hb : Below W.heap.size W (W.alloc (.cells (l.map fun x : Nat => Value.int .u32 (x : Int)).toArray 25)) := (Below.refl _ _).alloc (Nat.le_refl _) _
  have hm2 := hm.below hb
  refine (hm2.lv.eval (by omega) V nv cv bs (hv.belo hb) _ _ _ l (rdn_made .u32 W 25 l) hin (by omega)).mono ?_
  rintro e w' ⟨g, rfl, hr, hg, hb2⟩
  have hs := hb.size
  refine ⟨g, rfl, fun j hj => hr.cell (by omega), ⟨c, rfl, hm2.below hb2, fun ho => ?_, fun ho => ?_, ?_⟩, hb.trans (hb2.mono hs)⟩
  · have := hm.lv.at_.lt ho; omega
  · have := hm.mk'.lt ho; omega
  · obtain ⟨cur, h3, _⟩ := hr
    exact lt_of_heap h3
end
theorem cells_pair : Try.prog.cellsOf 54 = 2 := by kernel_rfl
set_option maxRecDepth 100000 in
/-- Two numbers that came in. -/
theorem open_pair {H : Type} {enc : TypeId × Value → H} {W : World} {base : Nat} {v : Value} {d : DataW H} {p : List MemPlace} (hok : Value.okWide Try.prog W .any base 54 v)
    (h : DataW.Trod enc Try.prog W 0 (fun _ => true) true 54 v d p) : ∃ x y, v = .agg #[.int .i64 x, .int .i64 y] := by
  simp only [Value.okWide, Try.underlying54] at hok
  obtain ⟨cs, rfl, hsz, _⟩ := hok
  rw [cells_pair] at hsz
  obtain ⟨fuel, hf⟩ := h
  obtain ⟨xs, m, _, _, _, hl, hel⟩ := DataW.trod_array Try.underlying54 hf
  have e0 := hel 0 (by omega)
  have e1 := hel 1 (by omega)
  rw [cells_int] at e0 e1
  match xs, hl with
  | [x0, x1], _ =>
    have hcs : ∃ c0 c1, cs = #[c0, c1] := by
      rcases cs with ⟨l⟩
      match l, hsz with
      | [c0, c1], _ => exact ⟨c0, c1, rfl⟩
    obtain ⟨c0, c1, rfl⟩ := hcs
    simp [Value.cells] at e0 e1
    obtain ⟨x, h0, _, wx⟩ := DataW.trod_int Try.underlying3 e0
    obtain ⟨y, h1, _, wy⟩ := DataW.trod_int Try.underlying3 e1
    simp at h0 h1
    subst h0 h1
    exact ⟨x, y, rfl⟩
end Go.Proofs.Ytkdjbjclijbojaa
