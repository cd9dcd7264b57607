/- One circuit of a law's own; gateAlive is true. -/
import Derived.Test.YtmiifhclcknhdaaGevl
namespace Go.Proofs.Ytmiifhclcknhdaa
open Go.RowKit GatM

theorem both_ins (gs : Gs) (a b : Nat) : insL (bothG gs a b).2 = insL gs := by
  unfold bothG
  split
  · rfl
  · rename_i h1
    split
    · rfl
    · split
      · rfl
      · show insL (gs ++ [_]) = _
        rw [insL_snoc, if_neg, List.append_nil]
        rintro ⟨_, e⟩
        exact h1 (.inl (congrArg Prod.fst e))
theorem andF_ins : ∀ (l : List Nat) (s : Nat × Gs), insL (andF s l).2 = insL s.2
  | [], _ => rfl
  | x :: l, s => by
    have : andF s (x :: l) = andF (bothG s.2 s.1 x) l := rfl
    rw [this, andF_ins l, both_ins]
theorem and_ins (gs : Gs) (l : List Nat) : insL (andG gs l).2 = insL gs := andF_ins l _
theorem or_ins (gs : Gs) (l : List Nat) : insL (orG gs l).2 = insL gs := and_ins gs _
theorem if_ins (gs : Gs) (c a b : Nat) : insL (ifG gs c a b).2 = insL gs := by
  unfold ifG
  rw [or_ins, both_ins, both_ins]
/-- A circuit of a law's own. -/
structure LvG (B : Nat) (w0 w : World) (c : GrC) (gs : Gs) : Prop where
  at_ : GrAt w c gs (insL gs) gs
  wf : Wf gs
  be : Below B w0 w
  lo : ∀ k, c.own k → B ≤ k
  hB : B ≤ w.heap.size
section
variable {B : Nat} {w0 w w' : World} {c c' : GrC} {gs gs' : Gs} {e : Ending}
theorem LvG.new {w1 : World} (h : NewTo w1 e w) (hb : Below B w0 w1) (hB : B ≤ w1.heap.size) : ∃ c, e = .returned (.pointer (some ⟨c.bg, 0, none⟩)) ∧ LvG B w0 w c [(0, 0)] := by
  obtain ⟨c, h1, h2, h3, h4⟩ := h
  exact ⟨c, h1, h2, wf_new, hb.trans (h3.mono hB), fun k hk => Nat.le_trans hB (h4 k hk), Nat.le_trans hB h3.size⟩
theorem LvG.below (h : LvG B w0 w c gs) (hb : Below w.heap.size w w') : LvG B w0 w' c gs := ⟨h.at_.below hb, h.wf, h.be.trans (hb.mono h.hB), h.lo, Nat.le_trans h.hB hb.size⟩
theorem LvG.to (h : LvG B w0 w c gs) (hT : GrTo w w' c c' gs' (insL gs) gs') (hw : Wf gs') (hi : insL gs' = insL gs) : LvG B w0 w' c' gs' ∧ c'.bg = c.bg :=
  ⟨⟨by rw [hi]; exact hT.at_, hw, h.be.trans (hT.kf.below h.hB fun x hx => h.lo x hx), fun k hk => by
    rcases hT.new k hk with y | y
    · exact h.lo k y
    · exact Nat.le_trans h.hB y, Nat.le_trans h.hB hT.kf.size⟩, hT.bg⟩
theorem LvG.inp (h : LvG B w0 w c gs) (hT : GrTo w w' c c' (gs ++ [(0, 0)]) (insL gs ++ [2 * gs.length]) (gs ++ [(0, 0)])) : LvG B w0 w' c' (gs ++ [(0, 0)]) ∧ c'.bg = c.bg := by
  have e : insL (gs ++ [(0, 0)]) = insL gs ++ [2 * gs.length] := by rw [insL_snoc, if_pos ⟨Nat.ne_of_gt h.wf.pos, rfl⟩]
  refine ⟨⟨by rw [e]; exact hT.at_, h.wf.input, h.be.trans (hT.kf.below h.hB fun x hx => h.lo x hx), fun k hk => ?_, Nat.le_trans h.hB hT.kf.size⟩, hT.bg⟩
  rcases hT.new k hk with y | y
  · exact h.lo k y
  · exact Nat.le_trans h.hB y
/-- A new list's block isn't the circuit's. -/
theorem LvG.fresh (h : LvG B w0 w c gs) : ∀ k, onB (some ⟨w.heap.size, 0, none⟩) k → ¬ c.own k := fun k hk ho => by
  rw [onB_some] at hk
  have hk : k = w.heap.size := hk
  have := h.at_.lt ho
  omega
end
/-- What an operation leaves: the circuit, and other blocks as they were. -/
structure LvTo (B : Nat) (w0 w w' : World) (c c' : GrC) (gs' : Gs) : Prop where
  lv : LvG B w0 w' c' gs'
  bg : c'.bg = c.bg
  gst : ∀ k, k < w.heap.size → ¬ c.own k → w'.heap[k]? = w.heap[k]? ∧ ¬ c'.own k
  size : w.heap.size ≤ w'.heap.size
section
variable {B : Nat} {w0 w w' w2 : World} {c c' c2 : GrC} {gs gs' : Gs}
theorem LvTo.of (h : LvG B w0 w c gs) (hT : GrTo w w' c c' gs' (insL gs) gs') (hw : Wf gs') (hi : insL gs' = insL gs) : LvTo B w0 w w' c c' gs' :=
  ⟨(h.to hT hw hi).1, hT.bg, fun _ hk hn => hT.guest hk hn, hT.kf.size⟩
theorem LvTo.ofBelow (h : LvG B w0 w c gs) (hb : Below w.heap.size w w') : LvTo B w0 w w' c c gs := ⟨h.below hb, rfl, fun k hk hn => ⟨hb.block k hk, hn⟩, hb.size⟩
theorem LvTo.pre (hb : Below w.heap.size w w') (h : LvTo B w0 w' w2 c c' gs') : LvTo B w0 w w2 c c' gs' :=
  ⟨h.lv, h.bg, fun k hk hn => by
    obtain ⟨a, b⟩ := h.gst k (Nat.lt_of_lt_of_le hk hb.size) hn
    exact ⟨a.trans (hb.block k hk), b⟩, Nat.le_trans hb.size h.size⟩
theorem LvTo.dN (h : LvTo B w0 w w' c c' gs') (q : Nat) : LvTo B w0 w (w'.drewN q) c c' gs' :=
  ⟨h.lv.below (below_drewN (Below.refl _ _) q), h.bg, h.gst, h.size⟩
theorem LvTo.trans {gs2 : Gs} (h : LvTo B w0 w w' c c' gs') (k : LvTo B w0 w' w2 c' c2 gs2) : LvTo B w0 w w2 c c2 gs2 :=
  ⟨k.lv, k.bg.trans h.bg, fun x hx hn => by
    obtain ⟨a, b⟩ := h.gst x hx hn
    obtain ⟨a2, b2⟩ := k.gst x (Nat.lt_of_lt_of_le hx h.size) b
    exact ⟨a2.trans a, b2⟩, Nat.le_trans h.size k.size⟩
theorem LvG.len_ (h : LvG B w0 w c gs) : Calls Try.prog 15 #[.pointer (some ⟨c.bg, 0, none⟩)] w fun e w' => e = .returned (.int .i64 (gs.length : Int)) ∧ w = w' := glen_any h.at_
theorem LvG.input (h : LvG B w0 w c gs) (hn : gs.length ≤ 90000) : Calls Try.prog 7 #[.pointer (some ⟨c.bg, 0, none⟩)] w fun e w' => e = .returned (.tuple #[.int .u32 (2 * (gs.length : Int)), .int .i64 0]) ∧ ∃ c', LvTo B w0 w w' c c' (gs ++ [(0, 0)]) := by
  refine (ginput_any h.at_ hn (Nat.le_trans (insL_len gs) hn)).mono ?_
  rintro e w' ⟨rfl, c', hT⟩
  exact ⟨rfl, c', (h.inp hT).1, hT.bg, fun _ hk hn => hT.guest hk hn, hT.kf.size⟩
theorem LvG.and (h : LvG B w0 w c gs) (A : Option Addr) (n cn : Nat) (l : List Nat) (hl : RdN .u32 w w.heap.size A n l) (hA : ∀ k, onB A k → ¬ c.own k) (hin : AllIn gs l) (hn : gs.length + n ≤ 80000) :
    Calls Try.prog 22 #[.pointer (some ⟨c.bg, 0, none⟩), .slice A n cn] w fun e w' => e = .returned (.tuple #[.int .u32 (((andG gs l).1 : Nat) : Int), .int .i64 0]) ∧ ∃ c', LvTo B w0 w w' c c' (andG gs l).2 := by
  refine (gand_any h.at_ h.wf A n cn l hl hA (AllIn.sml hin (by omega)) hin (by omega)).mono ?_
  rintro e w' ⟨rfl, c', hT⟩
  exact ⟨rfl, c', .of h hT (and_made h.wf hin).wf (and_ins _ _)⟩
theorem LvG.or (h : LvG B w0 w c gs) (A : Option Addr) (n cn : Nat) (l : List Nat) (hl : RdN .u32 w w.heap.size A n l) (hin : AllIn gs l) (hn : gs.length + n ≤ 80000) :
    Calls Try.prog 28 #[.pointer (some ⟨c.bg, 0, none⟩), .slice A n cn] w fun e w' => e = .returned (.tuple #[.int .u32 (((orG gs l).1 : Nat) : Int), .int .i64 0]) ∧ ∃ c', LvTo B w0 w w' c c' (orG gs l).2 := by
  refine (gor_any h.at_ h.wf A n cn l hl (AllIn.sml hin (by omega)) hin (by omega)).mono ?_
  rintro e w' ⟨rfl, c', hT⟩
  exact ⟨rfl, c', .of h hT (or_made h.wf hin).wf (or_ins _ _)⟩
theorem LvG.if_ (h : LvG B w0 w c gs) (p a b : Nat) (hp : p / 2 < gs.length) (ha : a / 2 < gs.length) (hb : b / 2 < gs.length) (hn : gs.length ≤ 80000) :
    Calls Try.prog 42 #[.pointer (some ⟨c.bg, 0, none⟩), .int .u32 (p : Int), .int .u32 (a : Int), .int .u32 (b : Int)] w fun e w' => e = .returned (.tuple #[.int .u32 (((ifG gs p a b).1 : Nat) : Int), .int .i64 0]) ∧ ∃ c', LvTo B w0 w w' c c' (ifG gs p a b).2 := by
  refine (gif_any h.at_ h.wf p a b hp ha hb hn).mono ?_
  rintro e w' ⟨rfl, c', hT⟩
  exact ⟨rfl, c', .of h hT (if_made h.wf hp ha hb).wf (if_ins _ _ _ _)⟩
theorem LvG.same_ (h : LvG B w0 w c gs) (a b : Nat) (ha : a / 2 < gs.length) (hb : b / 2 < gs.length) (hn : gs.length ≤ 80000) :
    Calls Try.prog 29 #[.pointer (some ⟨c.bg, 0, none⟩), .int .u32 (a : Int), .int .u32 (b : Int)] w fun e w' => e = .returned (.tuple #[.int .u32 (((sameG gs a b).1 : Nat) : Int), .int .i64 0]) ∧ ∃ c', LvTo B w0 w w' c c' (sameG gs a b).2 := by
  refine (gsame_any h.at_ h.wf a b ha hb hn).mono ?_
  rintro e w' ⟨rfl, c', hT⟩
  exact ⟨rfl, c', .of h hT (if_made h.wf ha hb (by rw [turn_div]; exact hb)).wf (if_ins _ _ _ _)⟩
theorem LvG.eval (h : LvG B w0 w c gs) (hn : gs.length ≤ 90000) (V : Option Addr) (nv cv : Nat) (bs : List Bool) (hv : RdO w w.heap.size V nv bs) (A : Option Addr) (n cn : Nat) (l : List Nat) (hl : RdN .u32 w w.heap.size A n l) (hin : AllIn gs l) (hnn : n ≤ 90000) :
    Calls Try.prog 17 #[.pointer (some ⟨c.bg, 0, none⟩), .slice V nv cv, .slice A n cn] w (EvalTo bs gs l w) := geval_any h.at_ h.wf hn V nv cv bs hv A n cn l hl hin hnn
end
/-- Truth values in new memory. -/
theorem rdo_made (w : World) (T : TypeId) (l : List Bool) : RdO (w.alloc (.cells (l.map Value.bool).toArray T)) (w.alloc (.cells (l.map Value.bool).toArray T)).heap.size (some ⟨w.heap.size, 0, none⟩) l.length l :=
  ⟨rfl, fun _ => ⟨w.heap.size, 0, rfl, by simp, fun j hj => by
    rw [Nat.zero_add, Lib.cell_of_heap (blk_new w _)]
    simp [List.getElem?_eq_getElem hj]⟩⟩
/-- What the example's edges say. -/
theorem alive_says : sayE [true, true] [(0, 0), (0, 0), (0, 0), (2, 4)] 6 = true ∧ sayE [true, true] [(0, 0), (0, 0), (0, 0), (2, 4)] 3 = false := by
  decide +kernel
end Go.Proofs.Ytmiifhclcknhdaa
