/- The memory of a trail: the block that names its three rows, and these; what stays, what turns. -/
import Derived.Test.YtjhopjokllkipaaRowV
import Derived.Test.YtjhopjokllkipaaTrailM
import Derived.Test.YtjhopjokllkipaaVar
namespace Go.Proofs.Ytjhopjokllkipaa
open Go.RowKit LitM TrailM

/-- What the rows of a trail read. -/
def mkC (L : List Ent) (j : Nat) : Value := if j % 3 = 0 then .int .i32 (mkH L (j / 3)) else if j % 3 = 1 then .int .i64 (mkV L (j / 3)) else .int .i64 (mkR L (j / 3))
def litE (L : List Ent) (j : Nat) : Int := (L.map Ent.l).getD j 0
def orC (L : List Ent) (j : Nat) : Value := .int .i32 (litE L j)
def stC (L : List Ent) (j : Nat) : Value := .int .i64 (upTo L j)
theorem mkC0 (L : List Ent) (v : Nat) : mkC L (v * 3) = .int .i32 (mkH L v) := by
  unfold mkC; rw [if_pos (by omega), show v * 3 / 3 = v from by omega]
theorem mkC1 (L : List Ent) (v : Nat) : mkC L (v * 3 + 1) = .int .i64 (mkV L v) := by
  unfold mkC; rw [if_neg (by omega), if_pos (by omega), show (v * 3 + 1) / 3 = v from by omega]
theorem mkC2 (L : List Ent) (v : Nat) : mkC L (v * 3 + 2) = .int .i64 (mkR L v) := by
  unfold mkC; rw [if_neg (by omega), if_neg (by omega), show (v * 3 + 2) / 3 = v from by omega]
/-- A mark set anew. -/
def mk3 (f : Nat → Value) (v : Nat) (h lv r : Int) : Nat → Value := updV (updV (updV f (v * 3) (.int .i32 h)) (v * 3 + 1) (.int .i64 lv)) (v * 3 + 2) (.int .i64 r)
theorem mkC_snoc {L : List Ent} {x : Ent} (h : findE L (varZ x.l) = none) {v : Nat} (hv : (v : Int) = varZ x.l) (j : Nat) : mkC (L ++ [x]) j = mk3 (mkC L) v x.l x.lv x.rs j := by
  unfold mk3
  obtain ⟨m0, m1, m2⟩ := mk_snoc L x h (j / 3)
  by_cases e : j / 3 = v
  · rw [if_pos (by rw [e]; exact hv)] at m0 m1 m2
    rcases (show j = v * 3 ∨ j = v * 3 + 1 ∨ j = v * 3 + 2 by omega) with q | q | q
    · rw [updV_ne _ _ (by omega), updV_ne _ _ (by omega), ← q, updV_at]
      unfold mkC; rw [if_pos (by omega), m0]
    · rw [updV_ne _ _ (by omega), ← q, updV_at]
      unfold mkC; rw [if_neg (by omega), if_pos (by omega), m1]
    · rw [← q, updV_at]
      unfold mkC; rw [if_neg (by omega), if_neg (by omega), m2]
  · rw [updV_ne _ _ (by omega), updV_ne _ _ (by omega), updV_ne _ _ (by omega)]
    rw [if_neg (by omega)] at m0 m1 m2
    unfold mkC; rw [m0, m1, m2]
theorem mkC_undo {L : List Ent} {x : Ent} (h : findE L (varZ x.l) = none) {v : Nat} (hv : (v : Int) = varZ x.l) (j : Nat) : mkC L j = mk3 (mkC (L ++ [x])) v 0 0 0 j := by
  unfold mk3
  obtain ⟨m0, m1, m2⟩ := mk_snoc L x h (j / 3)
  by_cases e : j / 3 = v
  · have hn : findE L ((j / 3 : Nat) : Int) = none := by rw [e, hv]; exact h
    obtain ⟨z0, z1, z2⟩ := mk_none hn
    rcases (show j = v * 3 ∨ j = v * 3 + 1 ∨ j = v * 3 + 2 by omega) with q | q | q
    · rw [updV_ne _ _ (by omega), updV_ne _ _ (by omega), ← q, updV_at]
      unfold mkC; rw [if_pos (by omega), z0]
    · rw [updV_ne _ _ (by omega), ← q, updV_at]
      unfold mkC; rw [if_neg (by omega), if_pos (by omega), z1]
    · rw [← q, updV_at]
      unfold mkC; rw [if_neg (by omega), if_neg (by omega), z2]
  · rw [updV_ne _ _ (by omega), updV_ne _ _ (by omega), updV_ne _ _ (by omega)]
    rw [if_neg (by omega)] at m0 m1 m2
    unfold mkC; rw [m0, m1, m2]
theorem litE_at (L : List Ent) {j : Nat} (h : j < L.length) : litE L j = L[j].l := by simp [litE, List.getD, h]
theorem orC_snoc (L : List Ent) (x : Ent) (j : Nat) (hj : j < L.length + 1) : orC (L ++ [x]) j = appV (orC L) L.length [.int .i32 x.l] j := by
  unfold appV orC
  by_cases e : j < L.length
  · rw [if_pos (by omega), litE_at _ e, litE_at _ (by simp; omega), List.getElem_append_left e]
  · have : j = L.length := by omega
    subst this
    rw [if_neg (by omega), litE_at _ (by simp)]; simp
theorem orC_take (L : List Ent) (s j : Nat) (hj : j < s) : orC (L.take s) j = orC L j := by
  unfold orC litE
  rw [List.map_take, List.getD, List.getD, List.getElem?_take_of_lt hj]

/-- A trail at block b, over three rows. -/
structure T3 (w : World) (b gm cm n : Nat) (ao : Option Addr) (no co : Nat) (az : Option Addr) (ns cs : Nat) (fm fo fs : Nat → Value) : Prop where
  head : w.heap[b]? = some (.cells #[.slice (some ⟨gm, 0, none⟩) (n + 1) cm, .slice ao no co, .slice az ns cs] 79 (0, 0))
  mks : RowV 76 3 w gm (n + 1) cm fm
  ord : SlV 27 1 w ao no co fo
  sts : SlV 3 1 w az ns cs fs
  ne : b ≠ gm ∧ ¬ onB ao b ∧ ¬ onB az b ∧ ¬ onB ao gm ∧ ¬ onB az gm ∧ ∀ k, onB ao k → ¬ onB az k
/-- Its blocks. -/
def FootT (b gm : Nat) (ao az : Option Addr) : Nat → Prop := fun k => k = b ∨ k = gm ∨ onB ao k ∨ onB az k
section
variable {w w' : World} {b gm cm n no co ns cs : Nat} {ao az : Option Addr} {fm fo fs : Nat → Value}
theorem T3.h0 (h : T3 w b gm cm n ao no co az ns cs fm fo fs) : w.cell? ⟨b, 0, none⟩ = some (.slice (some ⟨gm, 0, none⟩) (n + 1) cm) := by rw [Lib.cell_of_heap h.head]; rfl
theorem T3.h1 (h : T3 w b gm cm n ao no co az ns cs fm fo fs) : w.cell? ⟨b, 1, none⟩ = some (.slice ao no co) := by rw [Lib.cell_of_heap h.head]; rfl
theorem T3.h2 (h : T3 w b gm cm n ao no co az ns cs fm fo fs) : w.cell? ⟨b, 2, none⟩ = some (.slice az ns cs) := by rw [Lib.cell_of_heap h.head]; rfl
theorem T3.free (h : T3 w b gm cm n ao no co az ns cs fm fo fs) (j : Nat) : w.frozen? ⟨b, j, none⟩ = false := Lib.frozen_of_heap h.head j
theorem T3.lt (h : T3 w b gm cm n ao no co az ns cs fm fo fs) : b < w.heap.size := lt_of_heap h.head
theorem T3.foot (h : T3 w b gm cm n ao no co az ns cs fm fo fs) : ∀ k, FootT b gm ao az k → k < w.heap.size := by
  rintro k (rfl | rfl | e | e)
  · exact h.lt
  · exact h.mks.lt
  · exact h.ord.lt k e
  · exact h.sts.lt k e
theorem T3.same (h : T3 w b gm cm n ao no co az ns cs fm fo fs) (hb : ∀ k, FootT b gm ao az k → w'.heap[k]? = w.heap[k]?) : T3 w' b gm cm n ao no co az ns cs fm fo fs :=
  ⟨by rw [hb b (.inl rfl)]; exact h.head, h.mks.same (hb _ (.inr (.inl rfl))), h.ord.same fun j hj => hb _ (.inr (.inr (.inl hj))), h.sts.same fun j hj => hb _ (.inr (.inr (.inr hj))), h.ne⟩
theorem T3.drewN (h : T3 w b gm cm n ao no co az ns cs fm fo fs) (q : Nat) : T3 (w.drewN q) b gm cm n ao no co az ns cs fm fo fs := h.same fun _ _ => rfl
theorem T3.alloc (h : T3 w b gm cm n ao no co az ns cs fm fo fs) (o : Obj) : T3 (w.alloc o) b gm cm n ao no co az ns cs fm fo fs := h.same fun k hk => Below.heap_alloc _ _ _ (h.foot k hk)
theorem T3.kept {F : Nat → Prop} (h : T3 w b gm cm n ao no co az ns cs fm fo fs) (hk : Kf F w w') (hF : ∀ k, FootT b gm ao az k → ¬ F k) : T3 w' b gm cm n ao no co az ns cs fm fo fs :=
  h.same fun k hf => hk.block k (h.foot k hf) (hF k hf)
theorem T3.congr {fm' fo' fs' : Nat → Value} (h : T3 w b gm cm n ao no co az ns cs fm fo fs) (e1 : ∀ j, j < (n + 1) * 3 → fm' j = fm j) (e2 : ∀ j, j < no → fo' j = fo j) (e3 : ∀ j, j < ns → fs' j = fs j) : T3 w b gm cm n ao no co az ns cs fm' fo' fs' :=
  ⟨h.head, h.mks.congr e1, h.ord.congr fun j hj => e2 j (by omega), h.sts.congr fun j hj => e3 j (by omega), h.ne⟩
theorem T3.setM (h : T3 w b gm cm n ao no co az ns cs fm fo fs) {j : Nat} (hj : j < (n + 1) * 3) (x : Value) : T3 (w.setCell ⟨gm, j, none⟩ x) b gm cm n ao no co az ns cs (updV fm j x) fo fs := by
  obtain ⟨n1, n2, n3, n4, n5, n6⟩ := h.ne
  exact ⟨by rw [Below.heap_setCell _ _ _ _ n1]; exact h.head, h.mks.set hj x, h.ord.other n4 _, h.sts.other n5 _, h.ne⟩
theorem T3.mark (h : T3 w b gm cm n ao no co az ns cs fm fo fs) {v : Nat} (hv : v ≤ n) (x y z : Int) :
    T3 (((w.setCell ⟨gm, v * 3, none⟩ (.int .i32 x)).setCell ⟨gm, v * 3 + 1, none⟩ (.int .i64 y)).setCell ⟨gm, v * 3 + 2, none⟩ (.int .i64 z)) b gm cm n ao no co az ns cs (mk3 fm v x y z) fo fs :=
  ((h.setM (show v * 3 < (n + 1) * 3 by omega) _).setM (show v * 3 + 1 < (n + 1) * 3 by omega) _).setM (show v * 3 + 2 < (n + 1) * 3 by omega) _
/-- Shorter rows. -/
theorem T3.cutO {s : Nat} (h : T3 w b gm cm n ao no co az ns cs fm fo fs) (hs : s ≤ no) (h0 : 0 < no) : T3 (w.setCell ⟨b, 1, none⟩ (.slice ao s co)) b gm cm n ao s co az ns cs fm fo fs := by
  obtain ⟨n1, n2, n3, n4, n5, n6⟩ := h.ne
  refine ⟨by rw [Lib.heap_setCell_same h.head]; rfl, h.mks.other n1 _, ?_, h.sts.other n3 _, h.ne⟩
  obtain ⟨g, rfl, hr⟩ := h.ord.row h0
  exact SlV.other (.inr ⟨g, rfl, hr.less hs⟩) n2 _
theorem T3.cutS {s : Nat} (h : T3 w b gm cm n ao no co az ns cs fm fo fs) (hs : s ≤ ns) (h0 : 0 < ns) : T3 (w.setCell ⟨b, 2, none⟩ (.slice az s cs)) b gm cm n ao no co az s cs fm fo fs := by
  obtain ⟨n1, n2, n3, n4, n5, n6⟩ := h.ne
  refine ⟨by rw [Lib.heap_setCell_same h.head]; rfl, h.mks.other n1 _, h.ord.other n2 _, ?_, h.ne⟩
  obtain ⟨g, rfl, hr⟩ := h.sts.row h0
  exact SlV.other (.inr ⟨g, rfl, hr.less hs⟩) n3 _
/-- A row has grown (behind an append). -/
theorem T3.pushO {g' c' : Nat} {fo' : Nat → Value} (h : T3 w b gm cm n ao no co az ns cs fm fo fs) {o : Obj} (hr : RowV 27 1 w' g' (no + 1) c' fo') (hg : onB ao g' ∨ (w.alloc o).heap.size ≤ g') (hk : Kf (fun k => onB ao k) (w.alloc o) w') :
    T3 (w'.setCell ⟨b, 1, none⟩ (.slice (some ⟨g', 0, none⟩) (no + 1) c')) b gm cm n (some ⟨g', 0, none⟩) (no + 1) c' az ns cs fm fo' fs := by
  have hf := h.foot
  have old : ∀ k, k < w.heap.size → ¬ onB ao k → w'.heap[k]? = w.heap[k]? := fun k hl ho => (hk.block k (by simp; omega) ho).trans (Below.heap_alloc _ _ _ hl)
  obtain ⟨n1, n2, n3, n4, n5, n6⟩ := h.ne
  have fb := hf b (.inl rfl)
  have fg := hf gm (.inr (.inl rfl))
  have fs' : ∀ k, onB az k → k < w.heap.size := fun k hk => hf k (.inr (.inr (.inr hk)))
  have fresh : ∀ k, k < w.heap.size → ¬ onB ao k → k ≠ g' := fun k hl ho e => by
    rcases hg with x | x
    · exact ho (e ▸ x)
    · simp at x; omega
  refine ⟨by rw [Lib.heap_setCell_same ((old b fb n2).trans h.head)]; rfl, (h.mks.same (old gm fg n4)).other n1 _, .inr ⟨g', rfl, hr.other (fresh b fb n2) _⟩,
    (h.sts.same fun k hk => old k (fs' k hk) (fun x => n6 k x hk)).other n3 _, n1, ?_, n3, ?_, n5, ?_⟩
  · rw [onB_some]; exact fresh b fb n2
  · rw [onB_some]; exact fresh gm fg n4
  · intro k hk
    rw [onB_some] at hk
    intro hs
    exact fresh k (fs' k hs) (fun x => n6 k x hs) hk
theorem T3.pushS {g' c' : Nat} {fs' : Nat → Value} (h : T3 w b gm cm n ao no co az ns cs fm fo fs) {o : Obj} (hr : RowV 3 1 w' g' (ns + 1) c' fs') (hg : onB az g' ∨ (w.alloc o).heap.size ≤ g') (hk : Kf (fun k => onB az k) (w.alloc o) w') :
    T3 (w'.setCell ⟨b, 2, none⟩ (.slice (some ⟨g', 0, none⟩) (ns + 1) c')) b gm cm n ao no co (some ⟨g', 0, none⟩) (ns + 1) c' fm fo fs' := by
  have hf := h.foot
  have old : ∀ k, k < w.heap.size → ¬ onB az k → w'.heap[k]? = w.heap[k]? := fun k hl ho => (hk.block k (by simp; omega) ho).trans (Below.heap_alloc _ _ _ hl)
  obtain ⟨n1, n2, n3, n4, n5, n6⟩ := h.ne
  have fb := hf b (.inl rfl)
  have fg := hf gm (.inr (.inl rfl))
  have fo' : ∀ k, onB ao k → k < w.heap.size := fun k hk => hf k (.inr (.inr (.inl hk)))
  have fresh : ∀ k, k < w.heap.size → ¬ onB az k → k ≠ g' := fun k hl ho e => by
    rcases hg with x | x
    · exact ho (e ▸ x)
    · simp at x; omega
  refine ⟨by rw [Lib.heap_setCell_same ((old b fb n3).trans h.head)]; rfl, (h.mks.same (old gm fg n5)).other n1 _,
    (h.ord.same fun k hk => old k (fo' k hk) (n6 k hk)).other n2 _, .inr ⟨g', rfl, hr.other (fresh b fb n3) _⟩, n1, n2, ?_, n4, ?_, ?_⟩
  · rw [onB_some]; exact fresh b fb n3
  · rw [onB_some]; exact fresh gm fg n5
  · intro k hk hs
    rw [onB_some] at hs
    exact fresh k (fo' k hk) (n6 k hk) hs
theorem T3.pushM {g' c' : Nat} {fm' : Nat → Value} (h : T3 w b gm cm n ao no co az ns cs fm fo fs) {o : Obj} (hr : RowV 76 3 w' g' (n + 1 + 1) c' fm') (hg : onB (some ⟨gm, 0, none⟩) g' ∨ (w.alloc o).heap.size ≤ g') (hk : Kf (fun k => k = gm) (w.alloc o) w') :
    T3 (w'.setCell ⟨b, 0, none⟩ (.slice (some ⟨g', 0, none⟩) (n + 1 + 1) c')) b g' c' (n + 1) ao no co az ns cs fm' fo fs := by
  have hf := h.foot
  have old : ∀ k, k < w.heap.size → k ≠ gm → w'.heap[k]? = w.heap[k]? := fun k hl ho => (hk.block k (by simp; omega) ho).trans (Below.heap_alloc _ _ _ hl)
  obtain ⟨n1, n2, n3, n4, n5, n6⟩ := h.ne
  have fb := hf b (.inl rfl)
  have fo' : ∀ k, onB ao k → k < w.heap.size := fun k hk => hf k (.inr (.inr (.inl hk)))
  have fs' : ∀ k, onB az k → k < w.heap.size := fun k hk => hf k (.inr (.inr (.inr hk)))
  have fresh : ∀ k, k < w.heap.size → k ≠ gm → k ≠ g' := fun k hl ho e => by
    rcases hg with x | x
    · rw [onB_some] at x; exact ho (e.trans x)
    · simp at x; omega
  have nao : ∀ k, onB ao k → k ≠ gm := fun k hk e => n4 (e ▸ hk)
  have nas : ∀ k, onB az k → k ≠ gm := fun k hk e => n5 (e ▸ hk)
  exact ⟨by rw [Lib.heap_setCell_same ((old b fb n1).trans h.head)]; rfl, hr.other (fresh b fb n1) _,
    (h.ord.same fun k hk => old k (fo' k hk) (nao k hk)).other n2 _, (h.sts.same fun k hk => old k (fs' k hk) (nas k hk)).other n3 _, fresh b fb n1, n2, n3,
    fun hk => fresh g' (fo' g' hk) (nao g' hk) rfl, fun hk => fresh g' (fs' g' hk) (nas g' hk) rfl, n6⟩
end
/-- A trail of n variables, d levels deep, in which L is true, in order. -/
abbrev TQ (w : World) (b gm cm : Nat) (ao : Option Addr) (co : Nat) (az : Option Addr) (cs n d : Nat) (L : List Ent) : Prop := T3 w b gm cm n ao L.length co az d cs (mkC L) (orC L) (stC L)
end Go.Proofs.Ytjhopjokllkipaa
