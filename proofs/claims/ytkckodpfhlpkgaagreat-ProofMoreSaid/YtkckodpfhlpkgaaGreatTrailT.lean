/- The memory of a trail: the block that names its three rows, and these; what stays, what turns. The contracts of a trail's asking methods, at its rows. The contracts of a trail's free, put, Set, Decide, Grow, New. A trail as its callers see it; Set, Decide. The contracts of a trail's New and Grow. The contract of a trail's Back. -/
import Derived.Test.YtkckodpfhlpkgaaGreatRowV
import Derived.Test.YtkckodpfhlpkgaaGreatTrailM
import Derived.Test.YtkckodpfhlpkgaaGreatVar
import Derived.Deep.RegionWith
import Derived.Deep.DeepCutAuto
import Derived.Test.YtkckodpfhlpkgaaGreatRevC
namespace Go.Proofs.YtkckodpfhlpkgaaGreat
open Go.RowKit LitM TrailM

/-- What the rows of a trail read. -/
def mkC (L : List Ent) (j : Nat) : Value := if j % 3 = 0 then .int .i32 (mkH L (j / 3)) else if j % 3 = 1 then .int .i64 (mkV L (j / 3)) else .int .i64 (mkR L (j / 3))
def litE (L : List Ent) (j : Nat) : Int := (L.map Ent.l).getD j 0
def orC (L : List Ent) (j : Nat) : Value := .int .i32 (litE L j)
def stC (L : List Ent) (j : Nat) : Value := .int .i64 (upTo L j)
theorem mkC0 (L : List Ent) (v : Nat) : mkC L (v * 3) = .int .i32 (mkH L v) := by
  unfold mkC; rw [if_pos (by omega), show v * 3 / 3 = v from by omega]
theorem mkC1 (L : List Ent) (v : Nat) : mkC L (v * 3 + 1) = .int .i64 (mkV L v) := by
  unfold mkC; rw [if_neg (by omega), if_pos (by omega), show (v * 3 + 1) / 3 = v from by omega]
theorem mkC2 (L : List Ent) (v : Nat) : mkC L (v * 3 + 2) = .int .i64 (mkR L v) := by
  unfold mkC; rw [if_neg (by omega), if_neg (by omega), show (v * 3 + 2) / 3 = v from by omega]
/-- A mark set anew. -/
def mk3 (f : Nat → Value) (v : Nat) (h lv r : Int) : Nat → Value := updV (updV (updV f (v * 3) (.int .i32 h)) (v * 3 + 1) (.int .i64 lv)) (v * 3 + 2) (.int .i64 r)
theorem mkC_snoc {L : List Ent} {x : Ent} (h : findE L (varZ x.l) = none) {v : Nat} (hv : (v : Int) = varZ x.l) (j : Nat) : mkC (L ++ [x]) j = mk3 (mkC L) v x.l x.lv x.rs j := by
  unfold mk3
  obtain ⟨m0, m1, m2⟩ := mk_snoc L x h (j / 3)
  by_cases e : j / 3 = v
  · rw [if_pos (by rw [e]; exact hv)] at m0 m1 m2
    rcases (show j = v * 3 ∨ j = v * 3 + 1 ∨ j = v * 3 + 2 by omega) with q | q | q
    · rw [updV_ne _ _ (by omega), updV_ne _ _ (by omega), ← q, updV_at]
      unfold mkC; rw [if_pos (by omega), m0]
    · rw [updV_ne _ _ (by omega), ← q, updV_at]
      unfold mkC; rw [if_neg (by omega), if_pos (by omega), m1]
    · rw [← q, updV_at]
      unfold mkC; rw [if_neg (by omega), if_neg (by omega), m2]
  · rw [updV_ne _ _ (by omega), updV_ne _ _ (by omega), updV_ne _ _ (by omega)]
    rw [if_neg (by omega)] at m0 m1 m2
    unfold mkC; rw [m0, m1, m2]
theorem mkC_undo {L : List Ent} {x : Ent} (h : findE L (varZ x.l) = none) {v : Nat} (hv : (v : Int) = varZ x.l) (j : Nat) : mkC L j = mk3 (mkC (L ++ [x])) v 0 0 0 j := by
  unfold mk3
  obtain ⟨m0, m1, m2⟩ := mk_snoc L x h (j / 3)
  by_cases e : j / 3 = v
  · have hn : findE L ((j / 3 : Nat) : Int) = none := by rw [e, hv]; exact h
    obtain ⟨z0, z1, z2⟩ := mk_none hn
    rcases (show j = v * 3 ∨ j = v * 3 + 1 ∨ j = v * 3 + 2 by omega) with q | q | q
    · rw [updV_ne _ _ (by omega), updV_ne _ _ (by omega), ← q, updV_at]
      unfold mkC; rw [if_pos (by omega), z0]
    · rw [updV_ne _ _ (by omega), ← q, updV_at]
      unfold mkC; rw [if_neg (by omega), if_pos (by omega), z1]
    · rw [← q, updV_at]
      unfold mkC; rw [if_neg (by omega), if_neg (by omega), z2]
  · rw [updV_ne _ _ (by omega), updV_ne _ _ (by omega), updV_ne _ _ (by omega)]
    rw [if_neg (by omega)] at m0 m1 m2
    unfold mkC; rw [m0, m1, m2]
theorem litE_at (L : List Ent) {j : Nat} (h : j < L.length) : litE L j = L[j].l := by simp [litE, List.getD, h]
theorem orC_snoc (L : List Ent) (x : Ent) (j : Nat) (hj : j < L.length + 1) : orC (L ++ [x]) j = appV (orC L) L.length [.int .i32 x.l] j := by
  unfold appV orC
  by_cases e : j < L.length
  · rw [if_pos (by omega), litE_at _ e, litE_at _ (by simp; omega), List.getElem_append_left e]
  · have : j = L.length := by omega
    subst this
    rw [if_neg (by omega), litE_at _ (by simp)]; simp
theorem orC_take (L : List Ent) (s j : Nat) (hj : j < s) : orC (L.take s) j = orC L j := by
  unfold orC litE
  rw [List.map_take, List.getD, List.getD, List.getElem?_take_of_lt hj]

/-- A trail at block b, over three rows. -/
structure T3 (w : World) (b gm cm n : Nat) (ao : Option Addr) (no co : Nat) (az : Option Addr) (ns cs : Nat) (fm fo fs : Nat → Value) : Prop where
  head : w.heap[b]? = some (.cells #[.slice (some ⟨gm, 0, none⟩) (n + 1) cm, .slice ao no co, .slice az ns cs] 99 (0, 0))
  mks : RowV 102 3 w gm (n + 1) cm fm
  ord : SlV 34 1 w ao no co fo
  sts : SlV 3 1 w az ns cs fs
  ne : b ≠ gm ∧ ¬ onB ao b ∧ ¬ onB az b ∧ ¬ onB ao gm ∧ ¬ onB az gm ∧ ∀ k, onB ao k → ¬ onB az k
/-- Its blocks. -/
def FootT (b gm : Nat) (ao az : Option Addr) : Nat → Prop := fun k => k = b ∨ k = gm ∨ onB ao k ∨ onB az k
section
variable {w w' : World} {b gm cm n no co ns cs : Nat} {ao az : Option Addr} {fm fo fs : Nat → Value}
theorem T3.h0 (h : T3 w b gm cm n ao no co az ns cs fm fo fs) : w.cell? ⟨b, 0, none⟩ = some (.slice (some ⟨gm, 0, none⟩) (n + 1) cm) := by rw [Lib.cell_of_heap h.head]; rfl
theorem T3.h1 (h : T3 w b gm cm n ao no co az ns cs fm fo fs) : w.cell? ⟨b, 1, none⟩ = some (.slice ao no co) := by rw [Lib.cell_of_heap h.head]; rfl
theorem T3.h2 (h : T3 w b gm cm n ao no co az ns cs fm fo fs) : w.cell? ⟨b, 2, none⟩ = some (.slice az ns cs) := by rw [Lib.cell_of_heap h.head]; rfl
theorem T3.free (h : T3 w b gm cm n ao no co az ns cs fm fo fs) (j : Nat) : w.frozen? ⟨b, j, none⟩ = false := Lib.frozen_of_heap h.head j
theorem T3.lt (h : T3 w b gm cm n ao no co az ns cs fm fo fs) : b < w.heap.size := lt_of_heap h.head
theorem T3.foot (h : T3 w b gm cm n ao no co az ns cs fm fo fs) : ∀ k, FootT b gm ao az k → k < w.heap.size := by
  rintro k (rfl | rfl | e | e)
  · exact h.lt
  · exact h.mks.lt
  · exact h.ord.lt k e
  · exact h.sts.lt k e
theorem T3.same (h : T3 w b gm cm n ao no co az ns cs fm fo fs) (hb : ∀ k, FootT b gm ao az k → w'.heap[k]? = w.heap[k]?) : T3 w' b gm cm n ao no co az ns cs fm fo fs :=
  ⟨by rw [hb b (.inl rfl)]; exact h.head, h.mks.same (hb _ (.inr (.inl rfl))), h.ord.same fun j hj => hb _ (.inr (.inr (.inl hj))), h.sts.same fun j hj => hb _ (.inr (.inr (.inr hj))), h.ne⟩
theorem T3.drewN (h : T3 w b gm cm n ao no co az ns cs fm fo fs) (q : Nat) : T3 (w.drewN q) b gm cm n ao no co az ns cs fm fo fs := h.same fun _ _ => rfl
theorem T3.alloc (h : T3 w b gm cm n ao no co az ns cs fm fo fs) (o : Obj) : T3 (w.alloc o) b gm cm n ao no co az ns cs fm fo fs := h.same fun k hk => Below.heap_alloc _ _ _ (h.foot k hk)
theorem T3.kept {F : Nat → Prop} (h : T3 w b gm cm n ao no co az ns cs fm fo fs) (hk : Kf F w w') (hF : ∀ k, FootT b gm ao az k → ¬ F k) : T3 w' b gm cm n ao no co az ns cs fm fo fs :=
  h.same fun k hf => hk.block k (h.foot k hf) (hF k hf)
theorem T3.congr {fm' fo' fs' : Nat → Value} (h : T3 w b gm cm n ao no co az ns cs fm fo fs) (e1 : ∀ j, j < (n + 1) * 3 → fm' j = fm j) (e2 : ∀ j, j < no → fo' j = fo j) (e3 : ∀ j, j < ns → fs' j = fs j) : T3 w b gm cm n ao no co az ns cs fm' fo' fs' :=
  ⟨h.head, h.mks.congr e1, h.ord.congr fun j hj => e2 j (by omega), h.sts.congr fun j hj => e3 j (by omega), h.ne⟩
theorem T3.setM (h : T3 w b gm cm n ao no co az ns cs fm fo fs) {j : Nat} (hj : j < (n + 1) * 3) (x : Value) : T3 (w.setCell ⟨gm, j, none⟩ x) b gm cm n ao no co az ns cs (updV fm j x) fo fs := by
  obtain ⟨n1, n2, n3, n4, n5, n6⟩ := h.ne
  exact ⟨by rw [Below.heap_setCell _ _ _ _ n1]; exact h.head, h.mks.set hj x, h.ord.other n4 _, h.sts.other n5 _, h.ne⟩
theorem T3.mark (h : T3 w b gm cm n ao no co az ns cs fm fo fs) {v : Nat} (hv : v ≤ n) (x y z : Int) :
    T3 (((w.setCell ⟨gm, v * 3, none⟩ (.int .i32 x)).setCell ⟨gm, v * 3 + 1, none⟩ (.int .i64 y)).setCell ⟨gm, v * 3 + 2, none⟩ (.int .i64 z)) b gm cm n ao no co az ns cs (mk3 fm v x y z) fo fs :=
  ((h.setM (show v * 3 < (n + 1) * 3 by omega) _).setM (show v * 3 + 1 < (n + 1) * 3 by omega) _).setM (show v * 3 + 2 < (n + 1) * 3 by omega) _
/-- Shorter rows. -/
theorem T3.cutO {s : Nat} (h : T3 w b gm cm n ao no co az ns cs fm fo fs) (hs : s ≤ no) (h0 : 0 < no) : T3 (w.setCell ⟨b, 1, none⟩ (.slice ao s co)) b gm cm n ao s co az ns cs fm fo fs := by
  obtain ⟨n1, n2, n3, n4, n5, n6⟩ := h.ne
  refine ⟨by rw [Lib.heap_setCell_same h.head]; rfl, h.mks.other n1 _, ?_, h.sts.other n3 _, h.ne⟩
  obtain ⟨g, rfl, hr⟩ := h.ord.row h0
  exact SlV.other (.inr ⟨g, rfl, hr.less hs⟩) n2 _
theorem T3.cutS {s : Nat} (h : T3 w b gm cm n ao no co az ns cs fm fo fs) (hs : s ≤ ns) (h0 : 0 < ns) : T3 (w.setCell ⟨b, 2, none⟩ (.slice az s cs)) b gm cm n ao no co az s cs fm fo fs := by
  obtain ⟨n1, n2, n3, n4, n5, n6⟩ := h.ne
  refine ⟨by rw [Lib.heap_setCell_same h.head]; rfl, h.mks.other n1 _, h.ord.other n2 _, ?_, h.ne⟩
  obtain ⟨g, rfl, hr⟩ := h.sts.row h0
  exact SlV.other (.inr ⟨g, rfl, hr.less hs⟩) n3 _
/-- A row has grown (behind an append). -/
theorem T3.pushO {g' c' : Nat} {fo' : Nat → Value} (h : T3 w b gm cm n ao no co az ns cs fm fo fs) {o : Obj} (hr : RowV 34 1 w' g' (no + 1) c' fo') (hg : onB ao g' ∨ (w.alloc o).heap.size ≤ g') (hk : Kf (fun k => onB ao k) (w.alloc o) w') :
    T3 (w'.setCell ⟨b, 1, none⟩ (.slice (some ⟨g', 0, none⟩) (no + 1) c')) b gm cm n (some ⟨g', 0, none⟩) (no + 1) c' az ns cs fm fo' fs := by
  have hf := h.foot
  have old : ∀ k, k < w.heap.size → ¬ onB ao k → w'.heap[k]? = w.heap[k]? := fun k hl ho => (hk.block k (by simp; omega) ho).trans (Below.heap_alloc _ _ _ hl)
  obtain ⟨n1, n2, n3, n4, n5, n6⟩ := h.ne
  have fb := hf b (.inl rfl)
  have fg := hf gm (.inr (.inl rfl))
  have fs' : ∀ k, onB az k → k < w.heap.size := fun k hk => hf k (.inr (.inr (.inr hk)))
  have fresh : ∀ k, k < w.heap.size → ¬ onB ao k → k ≠ g' := fun k hl ho e => by
    rcases hg with x | x
    · exact ho (e ▸ x)
    · simp at x; omega
  refine ⟨by rw [Lib.heap_setCell_same ((old b fb n2).trans h.head)]; rfl, (h.mks.same (old gm fg n4)).other n1 _, .inr ⟨g', rfl, hr.other (fresh b fb n2) _⟩,
    (h.sts.same fun k hk => old k (fs' k hk) (fun x => n6 k x hk)).other n3 _, n1, ?_, n3, ?_, n5, ?_⟩
  · rw [onB_some]; exact fresh b fb n2
  · rw [onB_some]; exact fresh gm fg n4
  · intro k hk
    rw [onB_some] at hk
    intro hs
    exact fresh k (fs' k hs) (fun x => n6 k x hs) hk
theorem T3.pushS {g' c' : Nat} {fs' : Nat → Value} (h : T3 w b gm cm n ao no co az ns cs fm fo fs) {o : Obj} (hr : RowV 3 1 w' g' (ns + 1) c' fs') (hg : onB az g' ∨ (w.alloc o).heap.size ≤ g') (hk : Kf (fun k => onB az k) (w.alloc o) w') :
    T3 (w'.setCell ⟨b, 2, none⟩ (.slice (some ⟨g', 0, none⟩) (ns + 1) c')) b gm cm n ao no co (some ⟨g', 0, none⟩) (ns + 1) c' fm fo fs' := by
  have hf := h.foot
  have old : ∀ k, k < w.heap.size → ¬ onB az k → w'.heap[k]? = w.heap[k]? := fun k hl ho => (hk.block k (by simp; omega) ho).trans (Below.heap_alloc _ _ _ hl)
  obtain ⟨n1, n2, n3, n4, n5, n6⟩ := h.ne
  have fb := hf b (.inl rfl)
  have fg := hf gm (.inr (.inl rfl))
  have fo' : ∀ k, onB ao k → k < w.heap.size := fun k hk => hf k (.inr (.inr (.inl hk)))
  have fresh : ∀ k, k < w.heap.size → ¬ onB az k → k ≠ g' := fun k hl ho e => by
    rcases hg with x | x
    · exact ho (e ▸ x)
    · simp at x; omega
  refine ⟨by rw [Lib.heap_setCell_same ((old b fb n3).trans h.head)]; rfl, (h.mks.same (old gm fg n5)).other n1 _,
    (h.ord.same fun k hk => old k (fo' k hk) (n6 k hk)).other n2 _, .inr ⟨g', rfl, hr.other (fresh b fb n3) _⟩, n1, n2, ?_, n4, ?_, ?_⟩
  · rw [onB_some]; exact fresh b fb n3
  · rw [onB_some]; exact fresh gm fg n5
  · intro k hk hs
    rw [onB_some] at hs
    exact fresh k (fo' k hk) (n6 k hk) hs
theorem T3.pushM {g' c' : Nat} {fm' : Nat → Value} (h : T3 w b gm cm n ao no co az ns cs fm fo fs) {o : Obj} (hr : RowV 102 3 w' g' (n + 1 + 1) c' fm') (hg : onB (some ⟨gm, 0, none⟩) g' ∨ (w.alloc o).heap.size ≤ g') (hk : Kf (fun k => k = gm) (w.alloc o) w') :
    T3 (w'.setCell ⟨b, 0, none⟩ (.slice (some ⟨g', 0, none⟩) (n + 1 + 1) c')) b g' c' (n + 1) ao no co az ns cs fm' fo fs := by
  have hf := h.foot
  have old : ∀ k, k < w.heap.size → k ≠ gm → w'.heap[k]? = w.heap[k]? := fun k hl ho => (hk.block k (by simp; omega) ho).trans (Below.heap_alloc _ _ _ hl)
  obtain ⟨n1, n2, n3, n4, n5, n6⟩ := h.ne
  have fb := hf b (.inl rfl)
  have fo' : ∀ k, onB ao k → k < w.heap.size := fun k hk => hf k (.inr (.inr (.inl hk)))
  have fs' : ∀ k, onB az k → k < w.heap.size := fun k hk => hf k (.inr (.inr (.inr hk)))
  have fresh : ∀ k, k < w.heap.size → k ≠ gm → k ≠ g' := fun k hl ho e => by
    rcases hg with x | x
    · rw [onB_some] at x; exact ho (e.trans x)
    · simp at x; omega
  have nao : ∀ k, onB ao k → k ≠ gm := fun k hk e => n4 (e ▸ hk)
  have nas : ∀ k, onB az k → k ≠ gm := fun k hk e => n5 (e ▸ hk)
  exact ⟨by rw [Lib.heap_setCell_same ((old b fb n1).trans h.head)]; rfl, hr.other (fresh b fb n1) _,
    (h.ord.same fun k hk => old k (fo' k hk) (nao k hk)).other n2 _, (h.sts.same fun k hk => old k (fs' k hk) (nas k hk)).other n3 _, fresh b fb n1, n2, n3,
    fun hk => fresh g' (fo' g' hk) (nao g' hk) rfl, fun hk => fresh g' (fs' g' hk) (nas g' hk) rfl, n6⟩
end
/-- A trail of n variables, d levels deep, in which L is true, in order. -/
abbrev TQ (w : World) (b gm cm : Nat) (ao : Option Addr) (co : Nat) (az : Option Addr) (cs n d : Nat) (L : List Ent) : Prop := T3 w b gm cm n ao L.length co az d cs (mkC L) (orC L) (stC L)
end Go.Proofs.YtkckodpfhlpkgaaGreat
namespace Go.Proofs.YtkckodpfhlpkgaaGreat
open Go.RowKit LitM TrailM

section
variable {b gm cm co cs n d : Nat} {ao az : Option Addr} {L : List Ent}

set_option maxHeartbeats 1600000 in
theorem tvars_nat (w : World) (h : TQ w b gm cm ao co az cs n d L) (hn : n ≤ 300000) :
    Calls Tryz.prog 71 #[.pointer (some ⟨b, 0, none⟩)] w fun e w' => e = .returned (.int .i64 n) ∧ w = w' := by
  have c0 := h.h0
  clear h
  go_enter Tryz.func71, Tryz.ntmps71
  go_wp2
  go_ret
  exact ⟨ret_int (by omega), rfl⟩
set_option maxHeartbeats 1600000 in
theorem tdepth_nat (w : World) (h : TQ w b gm cm ao co az cs n d L) :
    Calls Tryz.prog 34 #[.pointer (some ⟨b, 0, none⟩)] w fun e w' => e = .returned (.int .i64 d) ∧ w = w' := by
  have c2 := h.h2
  clear h
  go_enter Tryz.func34, Tryz.ntmps34
  go_wp2
  go_ret
  exact ⟨rfl, rfl⟩
set_option maxHeartbeats 1600000 in
theorem tlen_nat (w : World) (h : TQ w b gm cm ao co az cs n d L) :
    Calls Tryz.prog 57 #[.pointer (some ⟨b, 0, none⟩)] w fun e w' => e = .returned (.int .i64 L.length) ∧ w = w' := by
  have c1 := h.h1
  clear h
  go_enter Tryz.func57, Tryz.ntmps57
  go_wp2
  go_ret
  exact ⟨rfl, rfl⟩

set_option maxHeartbeats 1600000 in
theorem tknown_nat (w : World) (h : TQ w b gm cm ao co az cs n d L) (hO : Pre n d L) (hn : n ≤ 300000) (v : Int) :
    Calls Tryz.prog 53 #[.pointer (some ⟨b, 0, none⟩), .int .i64 v] w fun e w' => e = .returned (.bool (findE L v).isSome) ∧ w = w' := by
  have HV := Lib.hid (tvars_nat w h hn)
  by_cases h1 : 1 ≤ v
  · by_cases h2 : v ≤ n
    · obtain ⟨q, rfl⟩ := Int.eq_ofNat_of_zero_le (show 0 ≤ v by omega)
      have c0 := h.h0
      have cq := h.mks.cell (show q * 3 < (n + 1) * 3 by omega)
      rw [mkC0] at cq
      have hk := hO.known q
      have t1 : decide (1 ≤ (q : Int)) = true := decide_eq_true h1
      have t2 : decide ((q : Int) ≤ (n : Int)) = true := decide_eq_true h2
      have hcm := h.mks.bd
      obtain ⟨hcm1, hcm2⟩ := hcm
      clear h
      generalize mkH L q = y at *
      generalize hz : (findE L (q : Int)).isSome = z at *
      clear hz
      go_enter Tryz.func53, Tryz.ntmps53
      go_wp2_with fail
      refine HV.out.mono ?_
      rintro e w' ⟨rfl, rfl⟩
      go_wp2_with fail
      go_ret
      exact ⟨rfl, rfl⟩
    · have hf := hO.out (v := v) (.inr (by omega))
      rw [hf]
      have t1 : decide (1 ≤ v) = true := decide_eq_true h1
      have t2 : decide (v ≤ (n : Int)) = false := decide_eq_false h2
      clear h hf
      go_enter Tryz.func53, Tryz.ntmps53
      go_wp2_with fail
      refine HV.out.mono ?_
      rintro e w' ⟨rfl, rfl⟩
      go_wp2_with fail
      go_ret
      exact ⟨rfl, rfl⟩
  · have hf := hO.out (v := v) (.inl (by omega))
    rw [hf]
    have t1 : decide (1 ≤ v) = false := decide_eq_false h1
    clear h hf
    go_enter Tryz.func53, Tryz.ntmps53
    go_wp2_with fail
    go_ret
    exact ⟨rfl, rfl⟩

set_option maxHeartbeats 1600000 in
theorem tlevel_nat (w : World) (h : TQ w b gm cm ao co az cs n d L) (hO : Pre n d L) (hn : n ≤ 300000) (v : Int) :
    Calls Tryz.prog 89 #[.pointer (some ⟨b, 0, none⟩), .int .i64 v] w fun e w' => e = .returned (.int .i64 (levZ L v)) ∧ w = w' := by
  have HV := Lib.hid (tknown_nat w h hO hn v)
  cases hf : findE L v with
  | none =>
    rw [hf] at HV
    have hz : levZ L v = -1 := by unfold levZ; rw [hf]
    rw [hz]
    clear h hf hz
    go_enter Tryz.func89, Tryz.ntmps89
    go_wp2_with fail
    refine HV.out.mono ?_
    rintro e w' ⟨rfl, rfl⟩
    go_wp2_with fail
    go_ret
    exact ⟨rfl, rfl⟩
  | some x =>
    rw [hf] at HV
    obtain ⟨_, _, v1, v2, _⟩ := hO.at_ hf
    obtain ⟨q, rfl⟩ := Int.eq_ofNat_of_zero_le (show 0 ≤ v by omega)
    have hz : levZ L (q : Int) = mkV L q := by unfold levZ mkV; rw [hf]
    rw [hz]
    have c0 := h.h0
    have cq := h.mks.cell (show q * 3 + 1 < (n + 1) * 3 by omega)
    rw [mkC1] at cq
    have hcm := h.mks.bd
    obtain ⟨hcm1, hcm2⟩ := hcm
    clear h hf hz
    generalize mkV L q = y at *
    go_enter Tryz.func89, Tryz.ntmps89
    go_wp2_with fail
    refine HV.out.mono ?_
    rintro e w' ⟨rfl, rfl⟩
    go_wp2_with fail
    go_ret
    exact ⟨rfl, rfl⟩
set_option maxHeartbeats 1600000 in
theorem treason_nat (w : World) (h : TQ w b gm cm ao co az cs n d L) (hO : Pre n d L) (hn : n ≤ 300000) (v : Int) :
    Calls Tryz.prog 72 #[.pointer (some ⟨b, 0, none⟩), .int .i64 v] w fun e w' => e = .returned (.int .i64 (reaZ L v)) ∧ w = w' := by
  have HV := Lib.hid (tknown_nat w h hO hn v)
  cases hf : findE L v with
  | none =>
    rw [hf] at HV
    have hz : reaZ L v = -1 := by unfold reaZ; rw [hf]
    rw [hz]
    clear h hf hz
    go_enter Tryz.func72, Tryz.ntmps72
    go_wp2_with fail
    refine HV.out.mono ?_
    rintro e w' ⟨rfl, rfl⟩
    go_wp2_with fail
    go_ret
    exact ⟨rfl, rfl⟩
  | some x =>
    rw [hf] at HV
    obtain ⟨_, _, v1, v2, _⟩ := hO.at_ hf
    obtain ⟨q, rfl⟩ := Int.eq_ofNat_of_zero_le (show 0 ≤ v by omega)
    have hz : reaZ L (q : Int) = mkR L q := by unfold reaZ mkR; rw [hf]
    rw [hz]
    have c0 := h.h0
    have cq := h.mks.cell (show q * 3 + 2 < (n + 1) * 3 by omega)
    rw [mkC2] at cq
    have hcm := h.mks.bd
    obtain ⟨hcm1, hcm2⟩ := hcm
    clear h hf hz
    generalize mkR L q = y at *
    go_enter Tryz.func72, Tryz.ntmps72
    go_wp2_with fail
    refine HV.out.mono ?_
    rintro e w' ⟨rfl, rfl⟩
    go_wp2_with fail
    go_ret
    exact ⟨rfl, rfl⟩
set_option maxHeartbeats 1600000 in
theorem tvalue_nat (w : World) (h : TQ w b gm cm ao co az cs n d L) (hO : Pre n d L) (hn : n ≤ 300000) (l : Int) (l0 : -2147483648 ≤ l) (l1 : l ≤ 2147483647) :
    Calls Tryz.prog 36 #[.pointer (some ⟨b, 0, none⟩), .int .i32 l] w fun e w' => e = .returned (.int .i64 (valZ L l)) ∧ w = w' := by
  have HL := Lib.hid (var_any l w l0 l1)
  have HV := Lib.hid (tknown_nat w h hO hn (varZ l))
  cases hf : findE L (varZ l) with
  | none =>
    rw [hf] at HV
    have hz : valZ L l = 0 := by unfold valZ; rw [hf]
    rw [hz]
    clear h hf hz
    generalize varZ l = v at *
    go_enter Tryz.func36, Tryz.ntmps36
    go_wp2_with fail
    refine HL.out.mono ?_
    rintro e w' ⟨rfl, rfl⟩
    go_wp2_with fail
    refine HV.out.mono ?_
    rintro e w' ⟨rfl, rfl⟩
    go_wp2_with fail
    go_ret
    exact ⟨rfl, rfl⟩
  | some x =>
    rw [hf] at HV
    obtain ⟨_, _, v1, v2, _⟩ := hO.at_ hf
    have hz : valZ L l = if x.l = l then 1 else -1 := by unfold valZ; rw [hf]
    rw [hz]
    generalize varZ l = v at *
    obtain ⟨q, rfl⟩ := Int.eq_ofNat_of_zero_le (show 0 ≤ v by omega)
    have c0 := h.h0
    have cq := h.mks.cell (show q * 3 < (n + 1) * 3 by omega)
    rw [mkC0, (mk_some hf).1] at cq
    have hcm := h.mks.bd
    obtain ⟨hcm1, hcm2⟩ := hcm
    clear h hf hz
    generalize x.l = y at *
    by_cases e : y = l
    · subst e
      rw [if_pos rfl]
      have ty : (y == y) = true := by simp
      go_enter Tryz.func36, Tryz.ntmps36
      go_wp2_with fail
      refine HL.out.mono ?_
      rintro e w' ⟨rfl, rfl⟩
      go_wp2_with fail
      refine HV.out.mono ?_
      rintro e w' ⟨rfl, rfl⟩
      go_wp2_with fail
      go_ret
      exact ⟨rfl, rfl⟩
    · rw [if_neg e]
      have ty : (y == l) = false := by rw [beq_eq_false_iff_ne]; exact e
      go_enter Tryz.func36, Tryz.ntmps36
      go_wp2_with fail
      refine HL.out.mono ?_
      rintro e w' ⟨rfl, rfl⟩
      go_wp2_with fail
      refine HV.out.mono ?_
      rintro e w' ⟨rfl, rfl⟩
      go_wp2_with fail
      go_ret
      exact ⟨rfl, rfl⟩
/-- The i-th true one. -/
def atZ' (L : List Ent) (i : Int) : Int := if 0 ≤ i ∧ i < L.length then litE L i.toNat else 0
set_option maxHeartbeats 1600000 in
theorem tat_nat (w : World) (h : TQ w b gm cm ao co az cs n d L) (i : Int) :
    Calls Tryz.prog 59 #[.pointer (some ⟨b, 0, none⟩), .int .i64 i] w fun e w' => e = .returned (.int .i32 (atZ' L i)) ∧ w = w' := by
  have HV := Lib.hid (tlen_nat w h)
  by_cases h1 : i < 0
  · have hz : atZ' L i = 0 := by unfold atZ'; rw [if_neg (by omega)]
    rw [hz]
    have t1 : decide (i < 0) = true := decide_eq_true h1
    clear h hz
    go_enter Tryz.func59, Tryz.ntmps59
    go_wp2_with fail
    go_ret
    exact ⟨rfl, rfl⟩
  · have t1 : decide (i < 0) = false := decide_eq_false h1
    by_cases h2 : (L.length : Int) ≤ i
    · have hz : atZ' L i = 0 := by unfold atZ'; rw [if_neg (by omega)]
      rw [hz]
      have t2 : decide ((L.length : Int) ≤ i) = true := decide_eq_true h2
      clear h hz
      go_enter Tryz.func59, Tryz.ntmps59
      go_wp2_with fail
      refine HV.out.mono ?_
      rintro e w' ⟨rfl, rfl⟩
      go_wp2_with fail
      go_ret
      exact ⟨rfl, rfl⟩
    · have t2 : decide ((L.length : Int) ≤ i) = false := decide_eq_false h2
      obtain ⟨q, rfl⟩ := Int.eq_ofNat_of_zero_le (show 0 ≤ i by omega)
      have hz : atZ' L (q : Int) = litE L q := by unfold atZ'; rw [if_pos (by omega)]; rfl
      rw [hz]
      obtain ⟨g, rfl, hr⟩ := h.ord.row (by omega)
      have c1 := h.h1
      have cq : w.cell? ⟨g, q, none⟩ = some (.int .i32 (litE L q)) := hr.cell (show q < L.length * 1 by omega)
      have hcm := hr.bd
      obtain ⟨hcm1, hcm2⟩ := hcm
      clear h hz hr
      generalize litE L q = y at *
      go_enter Tryz.func59, Tryz.ntmps59
      go_wp2_with fail
      refine HV.out.mono ?_
      rintro e w' ⟨rfl, rfl⟩
      go_wp2_with fail
      go_ret
      exact ⟨rfl, rfl⟩
end
end Go.Proofs.YtkckodpfhlpkgaaGreat
namespace Go.Proofs.YtkckodpfhlpkgaaGreat
open Go.RowKit LitM TrailM

theorem info_tlit : (Tryz.prog.info? 34).map (fun i => (i.zero, i.size, i.bytes)) = some (some (.int .i32 0), 1, 4) := by kernel_rfl
theorem info_tint : (Tryz.prog.info? 3).map (fun i => (i.zero, i.size, i.bytes)) = some (some (.int .i64 0), 1, 8) := by kernel_rfl
theorem info_mark : (Tryz.prog.info? 102).map (fun i => (i.zero, i.size, i.bytes)) = some (some (.agg #[.int .i32 0, .int .i64 0, .int .i64 0]), 3, 24) := by kernel_rfl

section
variable {b gm cm co cs n d : Nat} {ao az : Option Addr} {L : List Ent}

set_option maxHeartbeats 1600000 in
theorem free_bad (w : World) (h : TQ w b gm cm ao co az cs n d L) (hn : n ≤ 300000) (l : Int) (l0 : -2147483648 ≤ l) (l1 : l ≤ 2147483647) (hb : one l = false ∨ (n : Int) < varZ l) :
    Calls Tryz.prog 69 #[.pointer (some ⟨b, 0, none⟩), .int .i32 l] w fun e w' => e = .returned (.tuple #[.pointer none, .int .i64 41]) ∧ w = w' := by
  have HL := Lib.hid (var_any l w l0 l1)
  have HV := Lib.hid (tvars_nat w h hn)
  rw [← varZ_zero] at hb
  clear h
  have hbd := varZ_bd l
  obtain ⟨hbd1, hbd2⟩ := hbd
  generalize varZ l = v at *
  by_cases h0 : v = 0
  · subst h0
    clear hb
    go_enter Tryz.func69, Tryz.ntmps69
    go_wp2_with fail
    refine HL.out.mono ?_
    rintro e w' ⟨rfl, rfl⟩
    go_wp2_with fail
    go_ret2
    exact ⟨rfl, rfl⟩
  · have t0 : (v == 0) = false := by rw [beq_eq_false_iff_ne]; exact h0
    have t1 : decide ((n : Int) < v) = true := decide_eq_true (by omega)
    clear hb
    go_enter Tryz.func69, Tryz.ntmps69
    go_wp2_with fail
    refine HL.out.mono ?_
    rintro e w' ⟨rfl, rfl⟩
    go_wp2_with fail
    refine HV.out.mono ?_
    rintro e w' ⟨rfl, rfl⟩
    go_wp2_with fail
    go_ret2
    exact ⟨rfl, rfl⟩
set_option maxHeartbeats 1600000 in
theorem free_set (w : World) (h : TQ w b gm cm ao co az cs n d L) (hO : Pre n d L) (hn : n ≤ 300000) (l : Int) (l0 : -2147483648 ≤ l) (l1 : l ≤ 2147483647) (hs : (findE L (varZ l)).isSome = true) :
    Calls Tryz.prog 69 #[.pointer (some ⟨b, 0, none⟩), .int .i32 l] w fun e w' => e = .returned (.tuple #[.pointer none, .int .i64 42]) ∧ w = w' := by
  have HL := Lib.hid (var_any l w l0 l1)
  have HV := Lib.hid (tvars_nat w h hn)
  have HK := Lib.hid (tknown_nat w h hO hn (varZ l))
  rw [hs] at HK
  obtain ⟨x, hx⟩ := Option.isSome_iff_exists.1 hs
  obtain ⟨_, _, v1, v2, _⟩ := hO.at_ hx
  clear h hs hx
  generalize varZ l = v at *
  have t0 : (v == 0) = false := by rw [beq_eq_false_iff_ne]; omega
  have t1 : decide ((n : Int) < v) = false := decide_eq_false (by omega)
  go_enter Tryz.func69, Tryz.ntmps69
  go_wp2_with fail
  refine HL.out.mono ?_
  rintro e w' ⟨rfl, rfl⟩
  go_wp2_with fail
  refine HV.out.mono ?_
  rintro e w' ⟨rfl, rfl⟩
  go_wp2_with fail
  refine HK.out.mono ?_
  rintro e w' ⟨rfl, rfl⟩
  go_wp2_with fail
  go_ret2
  exact ⟨rfl, rfl⟩
set_option maxHeartbeats 1600000 in
theorem free_yes (w : World) (h : TQ w b gm cm ao co az cs n d L) (hO : Pre n d L) (hn : n ≤ 300000) (l : Int) (l0 : -2147483648 ≤ l) (l1 : l ≤ 2147483647) (q : Nat) (hq : varZ l = (q : Int)) (q1 : 1 ≤ q) (q2 : q ≤ n) (hs : findE L (varZ l) = none) :
    Calls Tryz.prog 69 #[.pointer (some ⟨b, 0, none⟩), .int .i32 l] w fun e w' => e = .returned (.tuple #[.pointer (some ⟨gm, q * 3, none⟩), .int .i64 0]) ∧ w = w' := by
  have HL := Lib.hid (var_any l w l0 l1)
  have HV := Lib.hid (tvars_nat w h hn)
  have HK := Lib.hid (tknown_nat w h hO hn (varZ l))
  rw [hs, show (none : Option Ent).isSome = false from rfl] at HK
  have c0 := h.h0
  have hcm := h.mks.bd
  obtain ⟨hcm1, hcm2⟩ := hcm
  rw [hq] at HL HK
  clear h hs hq
  have t0 : ((q : Int) == 0) = false := by rw [beq_eq_false_iff_ne]; omega
  have t1 : decide ((n : Int) < (q : Int)) = false := decide_eq_false (by omega)
  go_enter Tryz.func69, Tryz.ntmps69
  go_wp2_with fail
  refine HL.out.mono ?_
  rintro e w' ⟨rfl, rfl⟩
  go_wp2_with fail
  refine HV.out.mono ?_
  rintro e w' ⟨rfl, rfl⟩
  go_wp2_with fail
  refine HK.out.mono ?_
  rintro e w' ⟨rfl, rfl⟩
  go_wp2_with fail
  go_ret2
  exact ⟨rfl, rfl⟩

/-- What put leaves. -/
def PutTo (b gm cm n : Nat) (ao az : Option Addr) (d cs : Nat) (fs : Nat → Value) (L : List Ent) (w : World) (e : Ending) (w' : World) : Prop :=
  ∃ g' c', e = .returned (.tuple #[]) ∧ T3 w' b gm cm n (some ⟨g', 0, none⟩) L.length c' az d cs (mkC L) (orC L) fs ∧ (onB ao g' ∨ w.heap.size ≤ g') ∧ Kf (FootT b gm ao az) w w'

set_option maxHeartbeats 6400000 in
set_option maxRecDepth 100000 in
theorem put_nat {fs : Nat → Value} (w : World) (h : T3 w b gm cm n ao L.length co az d cs (mkC L) (orC L) fs) (hl : L.length ≤ 100000) (l r : Int) (q : Nat) (hq : varZ l = (q : Int)) (q2 : q ≤ n) (hs : findE L (varZ l) = none) :
    Calls Tryz.prog 70 #[.pointer (some ⟨b, 0, none⟩), .pointer (some ⟨gm, q * 3, none⟩), .int .i32 l, .int .i64 r] w (PutTo b gm cm n ao az d cs fs (L ++ [⟨l, d, r⟩]) w) := by
  have c2 := h.h2
  have HD : Hid (Calls Tryz.prog 34 #[.pointer (some ⟨b, 0, none⟩)] w fun e w' => e = .returned (.int .i64 d) ∧ w = w') := by
    unfold Hid
    go_enter Tryz.func34, Tryz.ntmps34
    go_wp2
    go_ret
    exact ⟨rfl, rfl⟩
  have f0 := h.mks.free (q * 3)
  have f1 := h.mks.free (q * 3 + 1)
  have f2 := h.mks.free (q * 3 + 2)
  have k0 := h.mks.cell (show q * 3 < (n + 1) * 3 by omega)
  have k1 := h.mks.cell (show q * 3 + 1 < (n + 1) * 3 by omega)
  have k2 := h.mks.cell (show q * 3 + 2 < (n + 1) * 3 by omega)
  rw [mkC0] at k0
  rw [mkC1] at k1
  rw [mkC2] at k2
  have hm := h.mark q2 l (d : Int) r
  have hfm : ∀ j, j < (n + 1) * 3 → mkC (L ++ [⟨l, d, r⟩]) j = mk3 (mkC L) q l (d : Int) r j := fun j _ => mkC_snoc (x := ⟨l, d, r⟩) hs hq.symm j
  have HQ : Hid (T3 (((w.setCell ⟨gm, q * 3, none⟩ (.int .i32 l)).setCell ⟨gm, q * 3 + 1, none⟩ (.int .i64 (d : Int))).setCell ⟨gm, q * 3 + 2, none⟩ (.int .i64 r)) b gm cm n ao L.length co az d cs (mkC (L ++ [⟨l, d, r⟩])) (orC L) fs) :=
    hm.congr hfm (fun _ _ => rfl) (fun _ _ => rfl)
  have HK : Hid (Kf (FootT b gm ao az) w (((w.setCell ⟨gm, q * 3, none⟩ (.int .i32 l)).setCell ⟨gm, q * 3 + 1, none⟩ (.int .i64 (d : Int))).setCell ⟨gm, q * 3 + 2, none⟩ (.int .i64 r))) :=
    (((Kf.refl _ _).set (.inl (.inr (.inl rfl))) _).set (.inl (.inr (.inl rfl))) _).set (.inl (.inr (.inl rfl))) _
  clear h hm hfm hs hq c2
  generalize mkH L q = y0 at *
  generalize mkV L q = y1 at *
  generalize mkR L q = y2 at *
  go_enter Tryz.func70, Tryz.ntmps70
  go_wp2_with fail
  refine HD.out.mono ?_
  rintro e w' ⟨rfl, rfl⟩
  obtain ⟨W1, hW1⟩ : ∃ W1, W1 = ((w.setCell ⟨gm, q * 3, none⟩ (.int .i32 l)).setCell ⟨gm, q * 3 + 1, none⟩ (.int .i64 (d : Int))).setCell ⟨gm, q * 3 + 2, none⟩ (.int .i64 r) := ⟨_, rfl⟩
  have HW1 := Lib.hid hW1
  have c1 := HQ.out.h1
  have HO : Hid (SlV 34 1 (W1.alloc (.cells #[.int .i32 l] 34)) ao L.length co (orC L)) := by rw [hW1]; exact HQ.out.ord.alloc _
  have hsz : W1.heap.size = w.heap.size := by rw [hW1]; simp [World.setCell]
  have HY := Lib.hid (box_news W1 34 [.int .i32 l])
  have HS := Lib.hid hsz
  rw [hsz] at HY
  rw [← hW1] at HQ HK
  rw [hW1] at HO HY
  clear hW1 hsz
  go_wp2_with (at_builtin; refine wpList_append_sl _ rfl _ _ 36 34 rfl Tryz.underlying36 info_tlit rfl (by decide) (by decide) ao L.length co _ rfl HO.out hl ⟨w.heap.size, 0, none⟩ 1 1 [.int .i32 l] rfl rfl HY.out (by intro u hu; simp at hu; subst hu; rfl) (by decide) (by decide) ?_)
  rw [← HW1.out] at HO HY ⊢
  rw [← HW1.out] at c1
  clear HD f0 f1 f2 k0 k1 k2 HY
  have hb := HQ.out.lt
  intro g' co' w2 hr hg' hgr
  have hr' : RowV 34 1 w2 g' (L.length + 1) co' (orC (L ++ [⟨l, d, r⟩])) := hr.congr fun j hj => orC_snoc L ⟨l, d, r⟩ j (by omega)
  have hk2 := hgr _ (fun j hj => hj)
  have hg2 : onB ao g' ∨ (W1.alloc (.cells #[.int .i32 l] 34)).heap.size ≤ g' := by simpa [HS.out] using hg'
  have HR := Lib.hid (HQ.out.pushO hr' hg2 hk2)
  have HG : Hid (onB ao g' ∨ w.heap.size ≤ g') := by
    rcases hg' with e | e
    · exact .inl e
    · exact .inr (by omega)
  have HK2 : Hid (Kf (FootT b gm ao az) w (w2.setCell ⟨b, 1, none⟩ (.slice (some ⟨g', 0, none⟩) (L.length + 1) co'))) :=
    (((HK.out.alloc _).trans hk2 (fun k hk => .inl (.inr (.inr (.inl hk)))))).set (.inl (.inl rfl)) _
  have hbn : ¬ onB ao b := HQ.out.ne.2.1
  have hbk : w2.heap[b]? = W1.heap[b]? := (hk2.block b (by simp; omega) hbn).trans (Below.heap_alloc _ _ _ hb)
  have d1 : w2.cell? ⟨b, 1, none⟩ = some (.slice ao L.length co) := by rw [World.cell?_of_block (w := W1) (a := ⟨b, 1, none⟩) hbk]; exact c1
  have f1 : w2.frozen? ⟨b, 1, none⟩ = false := by rw [World.frozen?_of_block (w := W1) (a := ⟨b, 1, none⟩) hbk]; exact HQ.out.free 1
  clear hr hr' hg' hg2 hgr hk2 hbk c1 HO HK hbn hb
  go_wp2_with fail
  go_end0
  refine ⟨g', co', rfl, ?_, HG.out, HK2.out⟩
  rw [show (L ++ [(⟨l, d, r⟩ : Ent)]).length = L.length + 1 from by simp]
  exact HR.out
end
end Go.Proofs.YtkckodpfhlpkgaaGreat
namespace Go.Proofs.YtkckodpfhlpkgaaGreat
open Go.RowKit LitM TrailM

/-- A trail of n variables at block b, d levels deep, in which L is true, in order; F: its blocks. -/
def TrailAt (w : World) (b : Nat) (F : Nat → Prop) (n d : Nat) (L : List Ent) : Prop :=
  ∃ gm cm ao co az cs, TQ w b gm cm ao co az cs n d L ∧ Ok n d L ∧ F = FootT b gm ao az
/-- What a call leaves that has such a trail in hand. -/
def TrailTo (F : Nat → Prop) (w w' : World) (b n d : Nat) (L : List Ent) : Prop :=
  ∃ F', TrailAt w' b F' n d L ∧ (∀ k, F' k → F k ∨ w.heap.size ≤ k) ∧ Kf F w w'
section
variable {b n d : Nat} {F : Nat → Prop} {L : List Ent}
theorem TrailAt.foot {w : World} (h : TrailAt w b F n d L) : ∀ k, F k → k < w.heap.size := by
  obtain ⟨gm, cm, ao, co, az, cs, hQ, hO, rfl⟩ := h
  exact hQ.foot
theorem TrailAt.kept {w w' : World} {G : Nat → Prop} (h : TrailAt w b F n d L) (hk : Kf G w w') (hd : ∀ k, F k → ¬ G k) : TrailAt w' b F n d L := by
  obtain ⟨gm, cm, ao, co, az, cs, hQ, hO, rfl⟩ := h
  exact ⟨gm, cm, ao, co, az, cs, hQ.kept hk hd, hO, rfl⟩
theorem TrailAt.below {w w' : World} (h : TrailAt w b F n d L) (hk : Below w.heap.size w w') : TrailAt w' b F n d L :=
  h.kept (G := fun _ => False) (Kf.of_below hk) (fun _ _ h => h)
theorem TrailAt.ok {w : World} (h : TrailAt w b F n d L) : Ok n d L := by
  obtain ⟨gm, cm, ao, co, az, cs, hQ, hO, rfl⟩ := h
  exact hO
theorem TrailTo.here {w : World} (h : TrailAt w b F n d L) : TrailTo F w w b n d L := ⟨F, h, fun _ h => .inl h, Kf.refl _ _⟩

/-- The error of a Set or a Decide. -/
def errZ (n : Nat) (L : List Ent) (l : Int) : Int := if one l = false ∨ (n : Int) < varZ l then 41 else if (findE L (varZ l)).isSome = true then 42 else 0
theorem errZ_cases (n : Nat) (L : List Ent) (l : Int) : ((one l = false ∨ (n : Int) < varZ l) ∧ errZ n L l = 41) ∨ ((findE L (varZ l)).isSome = true ∧ errZ n L l = 42) ∨
    (one l = true ∧ ∃ q : Nat, varZ l = (q : Int) ∧ 1 ≤ q ∧ q ≤ n ∧ findE L (varZ l) = none ∧ errZ n L l = 0) := by
  unfold errZ
  by_cases h : one l = false ∨ (n : Int) < varZ l
  · rw [if_pos h]; exact .inl ⟨h, rfl⟩
  · rw [if_neg h]
    by_cases h2 : (findE L (varZ l)).isSome = true
    · rw [if_pos h2]; exact .inr (.inl ⟨h2, rfl⟩)
    · rw [if_neg h2]
      have h1 : one l = true := by cases ho : one l with | true => rfl | false => exact absurd (.inl ho) h
      have hv := varZ_ge h1
      refine .inr (.inr ⟨h1, (varZ l).toNat, by omega, by omega, by omega, ?_, rfl⟩)
      cases hf : findE L (varZ l) with
      | none => rfl
      | some x => rw [hf] at h2; exact absurd rfl h2

set_option maxHeartbeats 1600000 in
theorem set_no (w : World) (h : TrailAt w b F n d L) (hn : n ≤ 300000) (l r : Int) (l0 : -2147483648 ≤ l) (l1 : l ≤ 2147483647) (he : errZ n L l ≠ 0) :
    Calls Tryz.prog 88 #[.pointer (some ⟨b, 0, none⟩), .int .i32 l, .int .i64 r] w fun e w' => e = .returned (.int .i64 (errZ n L l)) ∧ w = w' := by
  obtain ⟨gm, cm, ao, co, az, cs, hQ, hO, rfl⟩ := h
  rcases errZ_cases n L l with ⟨hb, he⟩ | ⟨hs, he⟩ | ⟨_, q, hq, q1, q2, hs, he'⟩
  · have HF := Lib.hid (free_bad w hQ hn l l0 l1 hb)
    rw [he]
    clear hQ hO hb he
    go_enter Tryz.func88, Tryz.ntmps88
    go_wp2_with fail
    refine HF.out.mono ?_
    rintro e w' ⟨rfl, rfl⟩
    go_wp2_with fail
    go_ret
    exact ⟨rfl, rfl⟩
  · have HF := Lib.hid (free_set w hQ hO.pre hn l l0 l1 hs)
    rw [he]
    clear hQ hO hs he
    go_enter Tryz.func88, Tryz.ntmps88
    go_wp2_with fail
    refine HF.out.mono ?_
    rintro e w' ⟨rfl, rfl⟩
    go_wp2_with fail
    go_ret
    exact ⟨rfl, rfl⟩
  · exact absurd he' he
theorem stC_snoc (L : List Ent) (x : Ent) {j : Nat} (h : j < x.lv) : stC (L ++ [x]) j = stC L j := by
  unfold stC; rw [upTo_snoc L x j h]
set_option maxHeartbeats 1600000 in
theorem set_yes (w : World) (h : TrailAt w b F n d L) (hn : n ≤ 100000) (l r : Int) (l0 : -2147483648 ≤ l) (l1 : l ≤ 2147483647) (he : errZ n L l = 0) :
    Calls Tryz.prog 88 #[.pointer (some ⟨b, 0, none⟩), .int .i32 l, .int .i64 r] w fun e w' => e = .returned (.int .i64 0) ∧ TrailTo F w w' b n d (L ++ [⟨l, d, r⟩]) := by
  obtain ⟨gm, cm, ao, co, az, cs, hQ, hO, rfl⟩ := h
  rcases errZ_cases n L l with ⟨_, he'⟩ | ⟨_, he'⟩ | ⟨ho, q, hq, q1, q2, hs, _⟩
  · omega
  · omega
  · have HF := Lib.hid (free_yes w hQ hO.pre (by omega) l l0 l1 q hq q1 q2 hs)
    have hl := hO.len
    have HP := Lib.hid (put_nat w hQ (by omega) l r q hq q2 hs)
    have HO := Lib.hid (hO.set (r := r) ho (by omega) hs)
    clear hQ hO hs he hq ho
    go_enter Tryz.func88, Tryz.ntmps88
    go_wp2_with fail
    refine HF.out.mono ?_
    rintro e w' ⟨rfl, rfl⟩
    go_wp2_with fail
    refine HP.out.mono ?_
    rintro e w' ⟨g', c', rfl, hT, hg, hk⟩
    have HE : Hid (TrailTo (FootT b gm ao az) w w' b n d (L ++ [⟨l, d, r⟩])) := by
      refine ⟨FootT b gm (some ⟨g', 0, none⟩) az, ⟨gm, cm, some ⟨g', 0, none⟩, c', az, cs, hT.congr (fun _ _ => rfl) (fun _ _ => rfl) (fun j hj => stC_snoc L _ hj), HO.out, rfl⟩, ?_, hk⟩
      rintro k (e | e | e | e)
      · exact .inl (.inl e)
      · exact .inl (.inr (.inl e))
      · rw [onB_some] at e
        subst e
        rcases hg with x | x
        · exact .inl (.inr (.inr (.inl x)))
        · exact .inr x
      · exact .inl (.inr (.inr (.inr e)))
    clear hT hg hk HO HP HF
    go_wp2_with fail
    go_ret
    exact ⟨rfl, HE.out⟩
set_option maxHeartbeats 1600000 in
theorem decide_no (w : World) (h : TrailAt w b F n d L) (hn : n ≤ 300000) (l : Int) (l0 : -2147483648 ≤ l) (l1 : l ≤ 2147483647) (he : errZ n L l ≠ 0) :
    Calls Tryz.prog 52 #[.pointer (some ⟨b, 0, none⟩), .int .i32 l] w fun e w' => e = .returned (.int .i64 (errZ n L l)) ∧ w = w' := by
  obtain ⟨gm, cm, ao, co, az, cs, hQ, hO, rfl⟩ := h
  rcases errZ_cases n L l with ⟨hb, he⟩ | ⟨hs, he⟩ | ⟨_, q, hq, q1, q2, hs, he'⟩
  · have HF := Lib.hid (free_bad w hQ hn l l0 l1 hb)
    rw [he]
    clear hQ hO hb he
    go_enter Tryz.func52, Tryz.ntmps52
    go_wp2_with fail
    refine HF.out.mono ?_
    rintro e w' ⟨rfl, rfl⟩
    go_wp2_with fail
    go_ret
    exact ⟨rfl, rfl⟩
  · have HF := Lib.hid (free_set w hQ hO.pre hn l l0 l1 hs)
    rw [he]
    clear hQ hO hs he
    go_enter Tryz.func52, Tryz.ntmps52
    go_wp2_with fail
    refine HF.out.mono ?_
    rintro e w' ⟨rfl, rfl⟩
    go_wp2_with fail
    go_ret
    exact ⟨rfl, rfl⟩
  · exact absurd he' he

/-- Behind the level's begin. -/
def Deep (w : World) (b gm cm n : Nat) (ao : Option Addr) (co : Nat) (az : Option Addr) (d : Nat) (L : List Ent) (wx : World) : Prop :=
  ∃ g' c', T3 wx b gm cm n ao L.length co (some ⟨g', 0, none⟩) (d + 1) c' (mkC L) (orC L) (stC L) ∧ (onB az g' ∨ w.heap.size ≤ g') ∧ Kf (FootT b gm ao az) w wx
theorem stC_deep {n : Nat} (hO : Pre n d L) (j : Nat) (hj : j < d + 1) : stC L j = appV (stC L) d [.int .i64 (L.length : Int)] j := by
  unfold appV
  by_cases e : j < d
  · rw [if_pos e]
  · have : j = d := by omega
    subst this
    rw [if_neg e]
    unfold stC; rw [upTo_all hO]; simp
theorem deep_of {gm cm co cs : Nat} {ao az : Option Addr} {w W1 w2 : World} {g' c' : Nat} (hO : Pre n d L) (hQ : TQ W1 b gm cm ao co az cs n d L) (hK : Kf (FootT b gm ao az) w W1) {o : Obj} (hr : RowV 3 1 w2 g' (d + 1) c' (appV (stC L) d [.int .i64 (L.length : Int)]))
    (hg : onB az g' ∨ (W1.alloc o).heap.size ≤ g') (hk : Kf (fun k => onB az k) (W1.alloc o) w2) : Deep w b gm cm n ao co az d L (w2.setCell ⟨b, 2, none⟩ (.slice (some ⟨g', 0, none⟩) (d + 1) c')) := by
  refine ⟨g', c', hQ.pushS (hr.congr fun j hj => stC_deep hO j (by omega)) hg hk, ?_, ((hK.alloc _).trans hk (fun k hk => .inl (.inr (.inr (.inr hk))))).set (.inl (.inl rfl)) _⟩
  rcases hg with e | e
  · exact .inl e
  · exact .inr (by have := hK.size; simp at e; omega)
set_option maxHeartbeats 6400000 in
set_option maxRecDepth 100000 in
theorem decide_yes (w : World) (h : TrailAt w b F n d L) (hn : n ≤ 100000) (l : Int) (l0 : -2147483648 ≤ l) (l1 : l ≤ 2147483647) (he : errZ n L l = 0) :
    Calls Tryz.prog 52 #[.pointer (some ⟨b, 0, none⟩), .int .i32 l] w fun e w' => e = .returned (.int .i64 0) ∧ TrailTo F w w' b n (d + 1) (L ++ [⟨l, d + 1, -1⟩]) := by
  obtain ⟨gm, cm, ao, co, az, cs, hQ, hO, rfl⟩ := h
  rcases errZ_cases n L l with ⟨_, he'⟩ | ⟨_, he'⟩ | ⟨ho, q, hq, q1, q2, hs, _⟩
  · omega
  · omega
  · have HF := Lib.hid (free_yes w hQ hO.pre (by omega) l l0 l1 q hq q1 q2 hs)
    have hl := hO.len
    have hd := hO.dle
    have HP : Hid (∀ W g' c', T3 W b gm cm n ao L.length co (some ⟨g', 0, none⟩) (d + 1) c' (mkC L) (orC L) (stC L) → Calls Tryz.prog 70 #[.pointer (some ⟨b, 0, none⟩), .pointer (some ⟨gm, q * 3, none⟩), .int .i32 l, .int .i64 (-1)] W (PutTo b gm cm n ao (some ⟨g', 0, none⟩) (d + 1) c' (stC L) (L ++ [⟨l, d + 1, -1⟩]) W)) :=
      fun W g' c' hT => put_nat W hT (by omega) l (-1) q hq q2 hs
    have HO := Lib.hid (hO.decide (r := -1) ho (by omega) hs)
    have HP0 := Lib.hid hO.pre
    have HQ := Lib.hid hQ
    have HL : Hid (Calls Tryz.prog 57 #[.pointer (some ⟨b, 0, none⟩)] w.drew fun e w' => e = .returned (.int .i64 L.length) ∧ w.drew = w') := tlen_nat w.drew (hQ.drewN 1)
    have c2 := hQ.h2
    have fz := hQ.free 2
    have hb := hQ.lt
    have hbz := hQ.ne.2.2.1
    have HKT : Hid (∀ Wa Wb, Kf (FootT b gm ao az) w Wa → Kf (fun j => onB az j) Wa Wb → Kf (FootT b gm ao az) w Wb) := fun Wa Wb h1 h2 => h1.trans h2 (fun k hk => .inl (.inr (.inr (.inr hk))))
    clear hO hs he hq ho hQ
    go_enter Tryz.func52, Tryz.ntmps52
    go_wp2_with fail
    refine HF.out.mono ?_
    rintro e w' ⟨rfl, rfl⟩
    clear HF
    go_wp2_with fail
    go_cut [] (fun wx => Hid (Deep w b gm cm n ao co az d L wx))
    case first =>
      refine wp_region_any (by kernel_rfl) ?_
      change wpAny _ _ _ _ _ _ _ (World.drew _)
      refine wpAny_take (i := 0) (v := ?_) rfl (by kernel_rfl) (by kernel_rfl) (by kernel_rfl) (fun _ _ _ h => h) (Or.inl ⟨by rfl, ?_⟩) ?_
      rotate_left 1
      · (intro w; go_simp <;> with_reducible rfl)
      refine wpAny_take (i := 1) (v := ?_) rfl (by kernel_rfl) (by kernel_rfl) (by kernel_rfl) (fun _ _ _ h => h) (Or.inl ⟨by rfl, ?_⟩) ?_
      rotate_left 1
      · (intro w; go_simp <;> with_reducible rfl)
      refine wpAny_take (i := 2) (v := ?_) rfl (by kernel_rfl) (by kernel_rfl) (by kernel_rfl) (fun _ _ _ h => h) (Or.inl ⟨by rfl, ?_⟩) ?_
      rotate_left 1
      · (intro w; go_simp <;> with_reducible rfl)
      refine wpAny_take (i := 3) (v := ?_) rfl (by kernel_rfl) (by kernel_rfl) (by kernel_rfl) (fun _ _ _ h => h) (Or.inl ⟨by rfl, ?_⟩) ?_
      rotate_left 1
      · (intro w; go_simp <;> with_reducible rfl)
      refine wpAny_take (i := 5) (v := ?_) rfl (by kernel_rfl) (by kernel_rfl) (by kernel_rfl) (fun _ _ _ h => h) (Or.inl ⟨by rfl, ?_⟩) ?_
      rotate_left 1
      · (intro w; go_simp <;> with_reducible rfl)
      refine wpAny_ready (rs := [4, 6]) (by kernel_rfl) (by simp) ?_
      refine AllReady.cons rfl (fun K hK => ?_) ?_
      ·
        go_simp
        refine hK _ _ ?_; clear hK K
        refine wpAny_ready (rs := [6]) (by kernel_rfl) (by simp) ?_
        refine AllReady.cons rfl (fun K hK => ?_) ?_
        ·
          go_simp
          go_wp2_with ((go_at_call 57; refine HL.out.mono ?_; rintro e w' ⟨rfl, rfl⟩))
          first | (refine hK _ _ ?_; clear hK K) | skip
          refine wpAny_ready (rs := [7]) (by kernel_rfl) (by simp) ?_
          refine AllReady.cons rfl (fun K hK => ?_) ?_
          ·
            go_simp
            refine hK _ _ ?_; clear hK K
            refine wpAny_ready (rs := [8]) (by kernel_rfl) (by simp) ?_
            refine AllReady.cons rfl (fun K hK => ?_) ?_
            ·
              refine step_append_sl _ rfl _ _ 37 3 rfl Tryz.underlying37 info_tint rfl (by decide) (by decide) az d cs (stC L) rfl (SlV.alloc (HQ.out.drewN 1).sts _) (by omega) ⟨w.heap.size, 0, none⟩ 1 1 [.int .i64 (L.length : Int)] rfl rfl (box_news w.drew 3 [.int .i64 (L.length : Int)]) (by intro u hu; simp at hu; subst hu; rfl) (by decide) (by decide) ?_
              intro g' c' w2 hr hg hk
              have hbk : w2.heap[b]? = w.heap[b]? := ((hk _ (fun j hj => hj)).block b (by simp; omega) hbz).trans (Below.heap_alloc _ _ _ hb)
              have d2 : w2.cell? ⟨b, 2, none⟩ = some (.slice az d cs) := by rw [World.cell?_of_block (w := w) (a := ⟨b, 2, none⟩) hbk]; exact c2
              have f2 : w2.frozen? ⟨b, 2, none⟩ = false := by rw [World.frozen?_of_block (w := w) (a := ⟨b, 2, none⟩) hbk]; exact fz
              refine hK _ _ ?_; clear hK K
              refine wpAny_take (i := 9) (v := ?_) rfl (by kernel_rfl) (by kernel_rfl) (by kernel_rfl) (fun _ _ _ h => h) (Or.inl ⟨by rfl, ?_⟩) ?_
              rotate_left 1
              · (intro w; go_simp <;> with_reducible rfl)
              refine wpAny_take (i := 10) (v := ?_) rfl (by kernel_rfl) (by kernel_rfl) (by kernel_rfl) (fun _ _ _ h => h) (Or.inl ⟨by rfl, ?_⟩) ?_
              rotate_left 1
              · (intro w; go_simp <;> with_reducible rfl)
              refine wpAny_ready (rs := [11]) (by kernel_rfl) (by simp) ?_
              refine AllReady.cons rfl (fun K hK => ?_) ?_
              ·
                go_simp
                refine hK _ _ ?_; clear hK K
                refine wpAny_done (by kernel_rfl) ?_ _
                go_wp2_with fail; go_meet; exact deep_of HP0.out (HQ.out.drewN 1) ((Kf.refl (FootT b gm ao az) w).drewN 1) (by simpa using hr) hg (hk _ (fun j hj => hj))
              exact AllReady.nil
            exact AllReady.nil
          exact AllReady.nil
        exact AllReady.nil
      refine AllReady.cons rfl (fun K hK => ?_) ?_
      ·
        go_simp
        go_wp2_with ((go_at_call 57; refine HL.out.mono ?_; rintro e w' ⟨rfl, rfl⟩))
        first | (refine hK _ _ ?_; clear hK K) | skip
        refine wpAny_ready (rs := [4, 7]) (by kernel_rfl) (by simp) ?_
        refine AllReady.cons rfl (fun K hK => ?_) ?_
        ·
          go_simp
          refine hK _ _ ?_; clear hK K
          refine wpAny_ready (rs := [7]) (by kernel_rfl) (by simp) ?_
          refine AllReady.cons rfl (fun K hK => ?_) ?_
          ·
            go_simp
            refine hK _ _ ?_; clear hK K
            refine wpAny_ready (rs := [8]) (by kernel_rfl) (by simp) ?_
            refine AllReady.cons rfl (fun K hK => ?_) ?_
            ·
              refine step_append_sl _ rfl _ _ 37 3 rfl Tryz.underlying37 info_tint rfl (by decide) (by decide) az d cs (stC L) rfl (SlV.alloc (HQ.out.drewN 1).sts _) (by omega) ⟨w.heap.size, 0, none⟩ 1 1 [.int .i64 (L.length : Int)] rfl rfl (box_news w.drew 3 [.int .i64 (L.length : Int)]) (by intro u hu; simp at hu; subst hu; rfl) (by decide) (by decide) ?_
              intro g' c' w2 hr hg hk
              have hbk : w2.heap[b]? = w.heap[b]? := ((hk _ (fun j hj => hj)).block b (by simp; omega) hbz).trans (Below.heap_alloc _ _ _ hb)
              have d2 : w2.cell? ⟨b, 2, none⟩ = some (.slice az d cs) := by rw [World.cell?_of_block (w := w) (a := ⟨b, 2, none⟩) hbk]; exact c2
              have f2 : w2.frozen? ⟨b, 2, none⟩ = false := by rw [World.frozen?_of_block (w := w) (a := ⟨b, 2, none⟩) hbk]; exact fz
              refine hK _ _ ?_; clear hK K
              refine wpAny_take (i := 9) (v := ?_) rfl (by kernel_rfl) (by kernel_rfl) (by kernel_rfl) (fun _ _ _ h => h) (Or.inl ⟨by rfl, ?_⟩) ?_
              rotate_left 1
              · (intro w; go_simp <;> with_reducible rfl)
              refine wpAny_take (i := 10) (v := ?_) rfl (by kernel_rfl) (by kernel_rfl) (by kernel_rfl) (fun _ _ _ h => h) (Or.inl ⟨by rfl, ?_⟩) ?_
              rotate_left 1
              · (intro w; go_simp <;> with_reducible rfl)
              refine wpAny_ready (rs := [11]) (by kernel_rfl) (by simp) ?_
              refine AllReady.cons rfl (fun K hK => ?_) ?_
              ·
                go_simp
                refine hK _ _ ?_; clear hK K
                refine wpAny_done (by kernel_rfl) ?_ _
                go_wp2_with fail; go_meet; exact deep_of HP0.out (HQ.out.drewN 1) ((Kf.refl (FootT b gm ao az) w).drewN 1) (by simpa using hr) hg (hk _ (fun j hj => hj))
              exact AllReady.nil
            exact AllReady.nil
          exact AllReady.nil
        refine AllReady.cons rfl (fun K hK => ?_) ?_
        ·
          go_simp
          refine hK _ _ ?_; clear hK K
          refine wpAny_ready (rs := [4]) (by kernel_rfl) (by simp) ?_
          refine AllReady.cons rfl (fun K hK => ?_) ?_
          ·
            go_simp
            refine hK _ _ ?_; clear hK K
            refine wpAny_ready (rs := [8]) (by kernel_rfl) (by simp) ?_
            refine AllReady.cons rfl (fun K hK => ?_) ?_
            ·
              refine step_append_sl _ rfl _ _ 37 3 rfl Tryz.underlying37 info_tint rfl (by decide) (by decide) az d cs (stC L) rfl (SlV.alloc (HQ.out.drewN 1).sts _) (by omega) ⟨w.heap.size, 0, none⟩ 1 1 [.int .i64 (L.length : Int)] rfl rfl (box_news w.drew 3 [.int .i64 (L.length : Int)]) (by intro u hu; simp at hu; subst hu; rfl) (by decide) (by decide) ?_
              intro g' c' w2 hr hg hk
              have hbk : w2.heap[b]? = w.heap[b]? := ((hk _ (fun j hj => hj)).block b (by simp; omega) hbz).trans (Below.heap_alloc _ _ _ hb)
              have d2 : w2.cell? ⟨b, 2, none⟩ = some (.slice az d cs) := by rw [World.cell?_of_block (w := w) (a := ⟨b, 2, none⟩) hbk]; exact c2
              have f2 : w2.frozen? ⟨b, 2, none⟩ = false := by rw [World.frozen?_of_block (w := w) (a := ⟨b, 2, none⟩) hbk]; exact fz
              refine hK _ _ ?_; clear hK K
              refine wpAny_take (i := 9) (v := ?_) rfl (by kernel_rfl) (by kernel_rfl) (by kernel_rfl) (fun _ _ _ h => h) (Or.inl ⟨by rfl, ?_⟩) ?_
              rotate_left 1
              · (intro w; go_simp <;> with_reducible rfl)
              refine wpAny_take (i := 10) (v := ?_) rfl (by kernel_rfl) (by kernel_rfl) (by kernel_rfl) (fun _ _ _ h => h) (Or.inl ⟨by rfl, ?_⟩) ?_
              rotate_left 1
              · (intro w; go_simp <;> with_reducible rfl)
              refine wpAny_ready (rs := [11]) (by kernel_rfl) (by simp) ?_
              refine AllReady.cons rfl (fun K hK => ?_) ?_
              ·
                go_simp
                refine hK _ _ ?_; clear hK K
                refine wpAny_done (by kernel_rfl) ?_ _
                go_wp2_with fail; go_meet; exact deep_of HP0.out (HQ.out.drewN 1) ((Kf.refl (FootT b gm ao az) w).drewN 1) (by simpa using hr) hg (hk _ (fun j hj => hj))
              exact AllReady.nil
            exact AllReady.nil
          exact AllReady.nil
        exact AllReady.nil
      exact AllReady.nil
    case rest =>
      obtain ⟨g2, c3, hT, hg, hk⟩ := hcut.out
      have HPP := Lib.hid (HP.out _ _ _ hT)
      have HG := Lib.hid hg
      have HK := Lib.hid hk
      clear hcut HP HL c2 fz hT hg hk
      go_wp2_with fail
      refine HPP.out.mono ?_
      rintro e w3 ⟨g4, c4, rfl, hT4, hg4, hk4⟩
      have HE : Hid (TrailTo (FootT b gm ao az) w w3 b n (d + 1) (L ++ [⟨l, d + 1, -1⟩])) := by
        have hsz := HK.out.size
        have hG := HG.out
        refine ⟨FootT b gm (some ⟨g4, 0, none⟩) (some ⟨g2, 0, none⟩), ⟨gm, cm, some ⟨g4, 0, none⟩, c4, some ⟨g2, 0, none⟩, c3, hT4.congr (fun _ _ => rfl) (fun _ _ => rfl) (fun j hj => stC_snoc L _ hj), HO.out, rfl⟩, ?_, HK.out.trans hk4 ?_⟩
        · rintro k (e | e | e | e)
          · exact .inl (.inl e)
          · exact .inl (.inr (.inl e))
          · rw [onB_some] at e
            subst e
            rcases hg4 with x | x
            · exact .inl (.inr (.inr (.inl x)))
            · exact .inr (by omega)
          · rw [onB_some] at e
            subst e
            rcases hG with x | x
            · exact .inl (.inr (.inr (.inr x)))
            · exact .inr x
        · rintro k (e | e | e | e)
          · exact .inl (.inl e)
          · exact .inl (.inr (.inl e))
          · exact .inl (.inr (.inr (.inl e)))
          · rw [onB_some] at e
            subst e
            rcases hG with x | x
            · exact .inl (.inr (.inr (.inr x)))
            · exact .inr x
      clear hT4 hg4 hk4 HO HPP
      go_wp2_with fail
      go_ret
      exact ⟨rfl, HE.out⟩
end
end Go.Proofs.YtkckodpfhlpkgaaGreat
namespace Go.Proofs.YtkckodpfhlpkgaaGreat
open Go.RowKit LitM TrailM

/-- What New leaves. -/
def NewTPost (n : Nat) (w : World) (e : Ending) (w' : World) : Prop := ∃ b F, e = .returned (.pointer (some ⟨b, 0, none⟩)) ∧ TrailAt w' b F n 0 [] ∧ (∀ k, F k → w.heap.size ≤ k) ∧ Below w.heap.size w w'
theorem mkC_nil (j : Nat) : mkC [] j = (#[Value.int .i32 0, .int .i64 0, .int .i64 0] : Array Value)[j % 3]! := by
  have h : ∀ v, mkH [] v = 0 ∧ mkV [] v = 0 ∧ mkR [] v = 0 := fun v => mk_none rfl
  unfold mkC
  rw [(h _).1, (h _).2.1, (h _).2.2]
  rcases (show j % 3 = 0 ∨ j % 3 = 1 ∨ j % 3 = 2 by omega) with e | e | e <;> rw [e] <;> rfl
theorem new_of {n : Nat} (hn : n ≤ 100000) {C : Array Value} (w : World) (h : C.size = (n + 1) * 3) (hf : ∀ j, j < (n + 1) * 3 → C[j]? = some ((Value.agg #[.int .i32 0, .int .i64 0, .int .i64 0]).cells[j % 3]!)) :
    NewTPost n w (.returned (.pointer (some ⟨w.heap.size + 1, 0, none⟩))) ((w.alloc (.cells C 102)).alloc (.cells #[.slice (some ⟨w.heap.size, 0, none⟩) (n + 1) (n + 1), .slice none 0 0, .slice none 0 0] 99)) := by
  have hr : RowV 102 3 (w.alloc (.cells C 102)) w.heap.size (n + 1) (n + 1) (mkC []) :=
    RowV.made (by omega) h fun j hj => by rw [hf j hj, mkC_nil]; rfl
  have hsz : (w.alloc (.cells C 102)).heap.size = w.heap.size + 1 := by simp
  refine ⟨w.heap.size + 1, FootT (w.heap.size + 1) w.heap.size none none, rfl, ⟨w.heap.size, n + 1, none, 0, none, 0, ⟨?_, hr.alloc _, SlV.nil _ _ _ _, SlV.nil _ _ _ _, by omega, onB_none _, onB_none _, onB_none _, onB_none _, fun k hk => absurd hk (onB_none k)⟩, Ok.nil n, rfl⟩, ?_, ((Below.refl _ _).alloc (Nat.le_refl _) _).alloc (by simp) _⟩
  · rw [← hsz]; exact blk_new _ _
  · rintro k (e | e | e | e)
    · omega
    · omega
    · exact absurd e (onB_none k)
    · exact absurd e (onB_none k)
set_option maxHeartbeats 1600000 in
set_option maxRecDepth 100000 in
theorem tnew_pos (n : Nat) (w : World) (h1 : 1 ≤ n) (hn : n ≤ 100000) : Calls Tryz.prog 78 #[.int .i64 (n : Int)] w (NewTPost n w) := by
  obtain ⟨C, c1, c2, hm⟩ := make_sl (P := Tryz.prog) 97 102 Tryz.underlying97 info_mark rfl (by decide) (by decide) (n + 1) (by omega)
  rw [show ((n + 1 : Nat) : Int) = 1 + (n : Int) from by omega] at hm
  have HE := Lib.hid (new_of hn w c1 c2)
  have m1 : max (n : Int) 0 = n := by omega
  have m2 : min (n : Int) 262144 = n := by omega
  clear c1 c2
  go_enter Tryz.func78, Tryz.ntmps78
  go_wp2
  go_ret
  exact HE.out
set_option maxHeartbeats 1600000 in
set_option maxRecDepth 100000 in
theorem tnew_zero (v : Int) (w : World) (hv : v ≤ 0) : Calls Tryz.prog 78 #[.int .i64 v] w (NewTPost 0 w) := by
  obtain ⟨C, c1, c2, hm⟩ := make_sl (P := Tryz.prog) 97 102 Tryz.underlying97 info_mark rfl (by decide) (by decide) 1 (by omega)
  rw [show ((1 : Nat) : Int) = 1 from rfl] at hm
  have HE := Lib.hid (new_of (n := 0) (by omega) w c1 c2)
  clear c1 c2
  by_cases h0 : v = 0
  · subst h0
    go_enter Tryz.func78, Tryz.ntmps78
    go_wp2
    go_ret
    exact HE.out
  · have h1 : v < 0 := by omega
    clear h0 hv
    go_enter Tryz.func78, Tryz.ntmps78
    go_wp2
    go_ret
    exact HE.out
theorem tnew_any (v : Int) (w : World) (hv : v ≤ 100000) : Calls Tryz.prog 78 #[.int .i64 v] w (NewTPost v.toNat w) := by
  by_cases h : v ≤ 0
  · rw [show v.toNat = 0 from by omega]; exact tnew_zero v w h
  · obtain ⟨n, rfl⟩ := Int.eq_ofNat_of_zero_le (show 0 ≤ v by omega)
    exact tnew_pos n w (by omega) (by omega)

theorem mkC_grow {n d : Nat} {L : List Ent} (hO : Pre n d L) (j : Nat) (hj : j < (n + 1 + 1) * 3) : mkC L j = appV (mkC L) ((n + 1) * 3) [.int .i32 0, .int .i64 0, .int .i64 0] j := by
  unfold appV
  by_cases e : j < (n + 1) * 3
  · rw [if_pos e]
  · rw [if_neg e]
    have hq : j / 3 = n + 1 := by omega
    have hf : findE L ((j / 3 : Nat) : Int) = none := hO.out (.inr (by omega))
    obtain ⟨z0, z1, z2⟩ := mk_none hf
    unfold mkC
    rw [z0, z1, z2]
    rcases (show j = (n + 1) * 3 ∨ j = (n + 1) * 3 + 1 ∨ j = (n + 1) * 3 + 2 by omega) with q | q | q <;> subst q
    · rw [if_pos (by omega), Nat.sub_self]; rfl
    · rw [if_neg (by omega), if_pos (by omega), show (n + 1) * 3 + 1 - (n + 1) * 3 = 1 from by omega]; rfl
    · rw [if_neg (by omega), if_neg (by omega), show (n + 1) * 3 + 2 - (n + 1) * 3 = 2 from by omega]; rfl
end Go.Proofs.YtkckodpfhlpkgaaGreat
namespace Go.Proofs.YtkckodpfhlpkgaaGreat
open Go.RowKit LitM TrailM

/-- What Back to level k takes away: the last one first. -/
def gone (L : List Ent) (k : Nat) : List Int := ((L.drop (upTo L k)).map Ent.l).reverse
theorem gone_len (L : List Ent) (k : Nat) : (gone L k).length = L.length - upTo L k := by simp [gone]
theorem rev_getD (xs : List Int) {m : Nat} (h : m < xs.length) : xs.reverse.getD m 0 = xs.getD (xs.length - 1 - m) 0 := by
  simp only [List.getD]
  rw [List.getElem?_reverse h]
theorem gone_at (L : List Ent) (k m : Nat) (h : m < L.length - upTo L k) : (gone L k).getD m 0 = litE L (L.length - 1 - m) := by
  unfold gone litE
  rw [List.getD, List.getElem?_reverse (by simp; omega), List.getD]
  simp only [List.length_map, List.length_drop, List.getElem?_map, List.getElem?_drop]
  rw [show upTo L k + (L.length - upTo L k - 1 - m) = L.length - 1 - m from by omega]

section
variable {b n d : Nat} {F : Nat → Prop} {L : List Ent}
set_option maxHeartbeats 1600000 in
theorem back_no (w : World) (h : TrailAt w b F n d L) (v : Int) (hv : v < 0 ∨ (d : Int) < v) :
    Calls Tryz.prog 43 #[.pointer (some ⟨b, 0, none⟩), .int .i64 v] w fun e w' => e = .returned (.tuple #[.slice none 0 0, .int .i64 41]) ∧ w = w' := by
  obtain ⟨gm, cm, ao, co, az, cs, hQ, hO, rfl⟩ := h
  have HD := Lib.hid (tdepth_nat w hQ)
  clear hQ hO
  by_cases h0 : v < 0
  · have t0 : decide (v < 0) = true := decide_eq_true h0
    clear hv
    go_enter Tryz.func43, Tryz.ntmps43
    go_wp2_with fail
    go_ret2
    exact ⟨rfl, rfl⟩
  · have t0 : decide (v < 0) = false := decide_eq_false h0
    have t1 : decide ((d : Int) < v) = true := decide_eq_true (by omega)
    clear hv
    go_enter Tryz.func43, Tryz.ntmps43
    go_wp2_with fail
    refine HD.out.mono ?_
    rintro e w' ⟨rfl, rfl⟩
    go_wp2_with fail
    go_ret2
    exact ⟨rfl, rfl⟩
set_option maxHeartbeats 1600000 in
theorem back_same (w : World) (h : TrailAt w b F n d L) :
    Calls Tryz.prog 43 #[.pointer (some ⟨b, 0, none⟩), .int .i64 (d : Int)] w fun e w' => e = .returned (.tuple #[.slice none 0 0, .int .i64 0]) ∧ w = w' := by
  obtain ⟨gm, cm, ao, co, az, cs, hQ, hO, rfl⟩ := h
  have HD := Lib.hid (tdepth_nat w hQ)
  clear hQ hO
  have t0 : decide ((d : Int) < 0) = false := decide_eq_false (by omega)
  have t1 : decide ((d : Int) < (d : Int)) = false := decide_eq_false (by omega)
  have t2 : ((d : Int) == (d : Int)) = true := by simp
  go_enter Tryz.func43, Tryz.ntmps43
  go_wp2_with fail
  refine HD.out.mono ?_
  rintro e w' ⟨rfl, rfl⟩
  go_wp2_with fail
  refine HD.out.mono ?_
  rintro e w' ⟨rfl, rfl⟩
  go_wp2_with fail
  go_ret2
  exact ⟨rfl, rfl⟩

/-- The loop's relation: m marks are undone. -/
def Undo (w : World) (b gm cm n : Nat) (ao : Option Addr) (co : Nat) (az : Option Addr) (cs d : Nat) (L : List Ent) (k g c : Nat) (v : Value) (wr : World) : Prop :=
  ∃ m : Nat, v = .int .i64 (m : Int) ∧ m ≤ L.length - upTo L k ∧ T3 wr b gm cm n ao L.length co az d cs (mkC (L.take (L.length - m))) (orC L) (stC L) ∧
    RowV 34 1 wr g (L.length - upTo L k) c (litC fun j => (gone L k).getD j 0) ∧ ¬ FootT b gm ao az g ∧ w.heap.size ≤ g ∧ Kf (FootT b gm ao az) w wr
/-- What Back leaves that takes something away. -/
def BackPost (F : Nat → Prop) (b n k : Nat) (L : List Ent) (w : World) (e : Ending) (w' : World) : Prop :=
  ∃ g c, e = .returned (.tuple #[.slice (some ⟨g, 0, none⟩) (L.length - upTo L k) c, .int .i64 0]) ∧ RowV 34 1 w' g (L.length - upTo L k) c (litC fun j => (gone L k).getD j 0) ∧ w.heap.size ≤ g ∧
    TrailAt w' b F n k (L.take (upTo L k)) ∧ Kf F w w'
theorem undo_step {m : Nat} (hm : m < L.length) {n d : Nat} (hO : Pre n d L) : ∃ (q : Nat) (x : Ent), 1 ≤ q ∧ q ≤ n ∧ x.l = litE L (L.length - 1 - m) ∧ -2147483648 ≤ x.l ∧ x.l ≤ 2147483647 ∧ varZ x.l = (q : Int) ∧ findE (L.take (L.length - (m + 1))) (varZ x.l) = none ∧ L.take (L.length - m) = L.take (L.length - (m + 1)) ++ [x] := by
  have hi : L.length - (m + 1) < L.length := by omega
  have ht : L.take (L.length - m) = L.take (L.length - (m + 1)) ++ [L[L.length - (m + 1)]] := by
    rw [← List.take_succ_eq_append_getElem hi]; congr 1; omega
  have hp := hO.take (L.length - m)
  rw [ht] at hp
  have hx := hO.one L[L.length - (m + 1)] (List.getElem_mem hi)
  have h1 := varZ_ge hx.1
  have h2 := (one_iff _).1 hx.1
  refine ⟨(varZ L[L.length - (m + 1)].l).toNat, L[L.length - (m + 1)], by omega, by omega, ?_, by omega, by omega, by omega, hp.last, ht⟩
  rw [litE_at _ (by omega)]
  congr 2
  omega

set_option maxHeartbeats 6400000 in
set_option maxRecDepth 100000 in
theorem back_yes (w : World) (h : TrailAt w b F n d L) (hn : n ≤ 100000) (k : Nat) (hk : k < d) :
    Calls Tryz.prog 43 #[.pointer (some ⟨b, 0, none⟩), .int .i64 (k : Int)] w (BackPost F b n k L w) := by
  obtain ⟨gm, cm, ao, co, az, cs, hQ, hO, rfl⟩ := h
  have HD := Lib.hid (tdepth_nat w hQ)
  have hup := hO.upTo_lt hk
  have hl := hO.len
  obtain ⟨gs, rfl, hrs⟩ := hQ.sts.row (by omega)
  obtain ⟨go, rfl, hro⟩ := hQ.ord.row (by omega)
  have t0 : decide ((k : Int) < 0) = false := decide_eq_false (by omega)
  have t1 : decide ((d : Int) < (k : Int)) = false := decide_eq_false (by omega)
  have t2 : ((k : Int) == (d : Int)) = false := by rw [beq_eq_false_iff_ne]; omega
  have t3 : (k == d) = false := by rw [beq_eq_false_iff_ne]; omega
  have c1 := hQ.h1
  have c2 := hQ.h2
  have ck : w.cell? ⟨gs, k, none⟩ = some (.int .i64 (upTo L k)) := hrs.cell (show k < d * 1 by omega)
  have hcs := hrs.bd
  obtain ⟨hcs1, hcs2⟩ := hcs
  have hco := hro.bd
  obtain ⟨hco1, hco2⟩ := hco
  have hrd : Rd .i32 w w.heap.size (some ⟨go, upTo L k, none⟩) (L.length - upTo L k) ((L.drop (upTo L k)).map Ent.l) := by
    refine ⟨by simp, fun _ => ⟨go, upTo L k, rfl, hro.lt, fun j hj => ?_⟩⟩
    have := hro.cell (show upTo L k + j < L.length * 1 by omega)
    rw [this]
    unfold orC litE
    rw [List.getD, List.getD, List.getElem?_map, List.getElem?_map, List.getElem?_drop]
  have HC := Lib.hid (clone_lit w go (upTo L k) (L.length - upTo L k) (co - upTo L k) w.heap.size _ hrd (Nat.le_refl _) (by omega) (by omega))
  have HQ := Lib.hid hQ
  have HO := Lib.hid hO
  clear hQ hO hrd hrs hro
  go_enter Tryz.func43, Tryz.ntmps43
  go_wp2_with fail
  refine HD.out.mono ?_
  rintro e w' ⟨rfl, rfl⟩
  go_wp2_with fail
  refine HD.out.mono ?_
  rintro e w' ⟨rfl, rfl⟩
  go_wp2_with fail
  refine HC.out.mono ?_
  rintro e w1 ⟨g, c, rfl, hr, hg, hb⟩
  have hq1 := HQ.out.kept (F := fun _ => False) (Kf.of_below hb) (fun _ _ h => h)
  have HQ1 := Lib.hid hq1
  have HK1 : Hid (Kf (FootT b gm (some ⟨go, 0, none⟩) (some ⟨gs, 0, none⟩)) w w1) := Kf.of_below hb
  have HG := Lib.hid hg
  have hcg := hr.bd
  obtain ⟨hcg1, hcg2⟩ := hcg
  have HRV := Lib.hid (reverse_lit w1 g (L.length - upTo L k) c (fun j => ((L.drop (upTo L k)).map Ent.l).getD j 0) hr (by omega))
  clear hr hg hb hq1 HC HD c1 c2 ck
  go_wp2_with fail
  refine HRV.out.mono ?_
  rintro e w2 ⟨rfl, hr, hk2⟩
  have hrg : RowV 34 1 w2 g (L.length - upTo L k) c (litC fun j => (gone L k).getD j 0) := hr.congr fun j hj => by
    show Value.int .i32 ((gone L k).getD j 0) = Value.int .i32 (((L.drop (upTo L k)).map Ent.l).getD (L.length - upTo L k - 1 - j) 0)
    unfold gone
    rw [rev_getD _ (by simp; omega)]
    simp
  have hgf : ¬ FootT b gm (some ⟨go, 0, none⟩) (some ⟨gs, 0, none⟩) g := fun hf => by
    have := HQ.out.foot g hf
    have := HG.out
    omega
  have hq2 := HQ1.out.kept hk2 (fun x hx e => hgf (e ▸ hx))
  have HU : Hid (Undo w b gm cm n (some ⟨go, 0, none⟩) co (some ⟨gs, 0, none⟩) cs d L k g c (.int .i64 0) w2) := by
    refine ⟨0, rfl, by omega, hq2.congr (fun j _ => ?_) (fun _ _ => rfl) (fun _ _ => rfl), hrg, hgf, HG.out, HK1.out.trans hk2 (fun x e => .inr ?_)⟩
    · rw [Nat.sub_zero, List.take_length]
    · subst e; exact HG.out
  clear hr hk2 hrg hgf hq2 HQ1 HK1 HRV
  go_wp2_with fail
  obtain ⟨wo, rfl⟩ : ∃ wo : World, wo = w := ⟨_, rfl⟩
  go_loopw [41] (fun v wr => Undo wo b gm cm n (some ⟨go, 0, none⟩) co (some ⟨gs, 0, none⟩) cs d L k g c v wr) (fun v _ => (L.length - upTo L k) - (intOf v).toNat)
  case atStart => exact HU.out
  case round =>
    obtain ⟨m, rfl, hm, hT, hr, hgf, hg, hK⟩ := hrel
    by_cases hlt : m < L.length - upTo L k
    · obtain ⟨q, x, q1, q2, hxl, x0, x1, hxv, hfx, htk⟩ := undo_step (show m < L.length by omega) HO.out.pre
      have tm : decide (m < L.length - upTo L k) = true := decide_eq_true hlt
      have cm0 : wr.cell? ⟨g, m, none⟩ = some (.int .i32 x.l) := by
        have := hr.cell (show m < (L.length - upTo L k) * 1 by omega)
        rw [this]
        show some (Value.int .i32 ((gone L k).getD m 0)) = _
        rw [gone_at _ _ _ hlt, hxl]
      have c0 := hT.h0
      have hbm := hT.mks.bd
      obtain ⟨hbm1, hbm2⟩ := hbm
      have ck := hT.mks.cell (show q * 3 < (n + 1) * 3 by omega)
      have f0 := hT.mks.free (q * 3)
      have f1 := hT.mks.free (q * 3 + 1)
      have f2 := hT.mks.free (q * 3 + 2)
      have ck1 := hT.mks.cell (show q * 3 + 1 < (n + 1) * 3 by omega)
      have ck2 := hT.mks.cell (show q * 3 + 2 < (n + 1) * 3 by omega)
      have HV : Hid (∀ e, Calls Tryz.prog 28 #[.int .i32 x.l] (wr.drewN e) fun e' w' => e' = .returned (.int .i64 q) ∧ w' = wr.drewN e) := fun e => (var_any x.l (wr.drewN e) x0 x1).mono fun e' w' ⟨a, b⟩ => ⟨by rw [a, hxv], b.symm⟩
      have HE : Hid (∀ e, Undo wo b gm cm n (some ⟨go, 0, none⟩) co (some ⟨gs, 0, none⟩) cs d L k g c (.int .i64 ((m : Int) + 1)) ((((wr.drewN e).setCell ⟨gm, q * 3, none⟩ (.int .i32 0)).setCell ⟨gm, q * 3 + 1, none⟩ (.int .i64 0)).setCell ⟨gm, q * 3 + 2, none⟩ (.int .i64 0))) := fun e => by
        have hng : g ≠ gm := fun e => hgf (.inr (.inl e))
        refine ⟨m + 1, by go_num, by omega, ((hT.drewN e).mark q2 0 0 0).congr (fun j _ => ?_) (fun _ _ => rfl) (fun _ _ => rfl), ?_, hgf, hg, ?_⟩
        · rw [htk]; exact mkC_undo hfx hxv.symm j
        · exact RowV.other (RowV.other (RowV.other (RowV.same hr rfl) (fun e => hng e.symm) _) (fun e => hng e.symm) _) (fun e => hng e.symm) _
        · exact (((hK.drewN e).set (.inl (.inr (.inl rfl))) _).set (.inl (.inr (.inl rfl))) _).set (.inl (.inr (.inl rfl))) _
      clear hT hr hgf hg hK hxl hfx htk
      generalize x.l = xl at *
      go_wp2_with fail
      go_quiet ((go_at_call 28; exact Calls.quiet_of_same (HV.out _)))
      go_wp2_with fail
      go_roundw
      case rel => exact HE.out _
      case measure => simp [intOf]; omega
    · have tm : decide (m < L.length - upTo L k) = false := decide_eq_false hlt
      obtain rfl : m = L.length - upTo L k := by omega
      rw [show L.length - (L.length - upTo L k) = upTo L k from by omega] at hT
      have c1 := hT.h1
      have c2 := hT.h2
      have f1 := hT.free 1
      have f2 := hT.free 2
      have hT2 := (hT.cutO (s := upTo L k) (by omega) (by omega)).cutS (s := k) (by omega) (by omega)
      have HE : Hid (BackPost (FootT b gm (some ⟨go, 0, none⟩) (some ⟨gs, 0, none⟩)) b n k L wo (.returned (.tuple #[.slice (some ⟨g, 0, none⟩) (L.length - upTo L k) c, .int .i64 0])) ((wr.setCell ⟨b, 1, none⟩ (.slice (some ⟨go, 0, none⟩) (upTo L k) co)).setCell ⟨b, 2, none⟩ (.slice (some ⟨gs, 0, none⟩) k cs))) := by
        have hnb : g ≠ b := fun e => hgf (.inl e)
        have hlen : (L.take (upTo L k)).length = upTo L k := by rw [List.length_take]; omega
        refine ⟨g, c, rfl, (hr.other (fun e => hnb e.symm) _).other (fun e => hnb e.symm) _, hg, ⟨gm, cm, some ⟨go, 0, none⟩, co, some ⟨gs, 0, none⟩, cs, ?_, HO.out.back (by omega), rfl⟩, (hK.set (.inl (.inl rfl)) _).set (.inl (.inl rfl)) _⟩
        show T3 _ b gm cm n _ (L.take (upTo L k)).length co _ k cs _ _ _
        rw [hlen]
        exact hT2.congr (fun _ _ => rfl) (fun j hj => orC_take L _ j hj) (fun j hj => by unfold stC; rw [upTo_back HO.out.pre (show j ≤ k by omega)])
      clear hT hT2 hr hgf hg hK
      go_wp2_with fail
      go_ret2
      exact HE.out
end
end Go.Proofs.YtkckodpfhlpkgaaGreat
