/- The plain answer's trail: the contract of Back. -/
import Derived.Test.YtcgihbffdejnbaaFDec
import Derived.Deep.CutBlock
namespace Go.Proofs.Ytcgihbffdejnbaa
open Go.RowKit LitM TrailM

/-- What stays at a level, and what goes (the last one first). -/
def keepL (L : List Ent) (v : Int) : List Ent := L.filter fun x => decide ((x.lv : Int) ≤ v)
def goL (L : List Ent) (v : Int) : List Int := ((L.filter fun x => !decide ((x.lv : Int) ≤ v)).map Ent.l).reverse
theorem keepL_snoc {L : List Ent} {k : Nat} (hk : k < L.length) (v : Int) : keepL (L.take (k + 1)) v = if (L[k].lv : Int) ≤ v then keepL (L.take k) v ++ [L[k]] else keepL (L.take k) v := by
  unfold keepL
  rw [List.take_succ_eq_append_getElem hk, List.filter_append]
  by_cases e : (L[k].lv : Int) ≤ v
  · rw [if_pos e]; simp [e]
  · rw [if_neg e]; simp [e]
theorem goL_snoc {L : List Ent} {k : Nat} (hk : k < L.length) (v : Int) : goL (L.take (k + 1)) v = if (L[k].lv : Int) ≤ v then goL (L.take k) v else L[k].l :: goL (L.take k) v := by
  unfold goL
  rw [List.take_succ_eq_append_getElem hk, List.filter_append]
  by_cases e : (L[k].lv : Int) ≤ v
  · rw [if_pos e]; simp [e]
  · rw [if_neg e]; simp [e]
theorem keepL_len (L : List Ent) (k : Nat) (v : Int) : (keepL (L.take k) v).length ≤ k := by
  unfold keepL
  have := List.length_filter_le (fun x : Ent => decide ((x.lv : Int) ≤ v)) (L.take k)
  have := List.length_take_le k L
  omega
theorem goL_len (L : List Ent) (k : Nat) (v : Int) : (goL (L.take k) v).length ≤ k := by
  unfold goL
  rw [List.length_reverse, List.length_map]
  have := List.length_filter_le (fun x : Ent => !decide ((x.lv : Int) ≤ v)) (L.take k)
  have := List.length_take_le k L
  omega
theorem keepL_back {n d : Nat} {L : List Ent} (hO : Pre n d L) {v : Int} (h0 : 0 ≤ v) (h1 : v ≤ d) : keepL L v = backL d L v ∧ goL L v = goneL d L v ∧ backD d v = v.toNat ∧ errB d v = 0 := by
  obtain ⟨k, rfl⟩ := Int.eq_ofNat_of_zero_le h0
  obtain ⟨t1, t2⟩ := take_upTo hO.inc k
  unfold backL goneL backD errB keepL goL gone
  rw [if_pos ⟨h0, h1⟩, if_pos ⟨h0, h1⟩, if_pos ⟨h0, h1⟩, if_pos ⟨h0, h1⟩, Int.toNat_natCast, t1, t2]
  refine ⟨?_, ?_, rfl, rfl⟩
  · congr 1; funext x; simp
  · congr 2
    apply List.filter_congr
    intro x _
    by_cases e : x.lv ≤ k
    · have : ¬ k < x.lv := by omega
      simp [e, this]
    · have : k < x.lv := by omega
      simp [e, this]

/-- append(x, y...) of a slice that may be nil to a row of the call's own. -/
theorem wpList_append_src {P : Program} {ops : Array Oper} {rest : List Oper} {o : Oper} {a : Act} {Q : Exit → Act → World → Prop} (w : World) (hgd : o.guard = none) (s x : Operand) (t e : TypeId)
    (ho : o.op = .call { callee := .builtin .append, args := #[s, x], argTypes := #[t, t] }) (ht : P.underlying t = some (.slice e)) {z : Value} {size bytes : Nat}
    (hinfo : (P.info? e).map (fun i => (i.zero, i.size, i.bytes)) = some (some z, size, bytes)) (hzs : z.cells.size = size) (hsz : 0 < size) (hby : bytes ≤ 1000)
    (g n c : Nat) (f : Nat → Value) (hs : a.eval s = .slice (some ⟨g, 0, none⟩) n c) (hrow : RowV e size w g n c f) (hn : n ≤ 100000)
    (A : Option Addr) (m c' : Nat) (f2 : Nat → Value) (hx : a.eval x = .slice A m c') (hsrc : SlV e size w A m c' f2) (h1 : ∀ j, j < m * size → (f2 j).oneCell' = true) (hm : m ≤ 100000)
    (h : ∀ g' c' w', RowV e size w' g' (n + m) c' (appV f (n * size) (cellsV f2 (m * size))) → (g' = g ∨ w.heap.size ≤ g') → Kf (fun k => k = g) w w' → wpList P ops Q rest (a.put o.dst (.slice (some ⟨g', 0, none⟩) (n + m) c')) w') :
    wpList P ops Q (o :: rest) a w :=
  wpList_plain hgd fun K hK => by
    have h2 := step_append_src (ops := ops) (K := K) (Q := Q) (E := False) w hgd s x t e ho ht hinfo hzs hsz hby g n c f hs hrow hn A m c' f2 hx hsrc h1 hm (fun g' c' w' p1 p2 p3 => hK _ _ (h g' c' w' p1 p2 p3))
    have hw : Region.wanted o (yielded ops a.tmps) = true := by simp [Region.wanted, hgd]
    rw [if_pos hw] at h2
    exact h2

theorem getD_cellsV (f : Nat → Value) {p j : Nat} (x : Value) (h : j < p) : (cellsV f p).getD j x = f j := by
  rw [List.getD, cellsV_get _ h]; rfl
/-- The loop's relation. -/
def BRel (s : Nat) (W4 : World) (n : Nat) (v : Int) (L : List Ent) (gv iv : Value) (wr : World) : Prop :=
  ∃ (k : Nat) (Ao : Option Addr) (co : Nat) (Ag : Option Addr) (cg : Nat), iv = .int .i64 (k : Int) ∧ k ≤ L.length ∧ gv = .slice Ag (goL (L.take k) v).length cg ∧
    wr.heap[s + 2]? = some (.cells #[.int .i64 (n : Int), .int .i64 v, .slice Ao (keepL (L.take k) v).length co] 36 (0, 0)) ∧ EnAt wr Ao co (keepL (L.take k) v) ∧
    SlV 26 1 wr Ag (goL (L.take k) v).length cg (litC fun j => (goL (L.take k) v).getD j 0) ∧ (∀ j, onB Ao j → s + 3 ≤ j) ∧ (∀ j, onB Ag j → s + 3 ≤ j ∧ ¬ onB Ao j) ∧ Below (s + 2) W4 wr ∧ s + 4 ≤ wr.heap.size
/-- What Back leaves. -/
def FBackTo (A0 : Option Addr) (n d : Nat) (L : List Ent) (v : Int) (w : World) (e : Ending) (w' : World) : Prop :=
  ∃ A c Ag mg cg, e = .returned (.tuple #[trV n (backD d v) A (backL d L v).length c, .slice Ag mg cg, .int .i64 (errB d v)]) ∧ EnAt w' A c (backL d L v) ∧ (∀ j, onB A j → onB A0 j ∨ w.heap.size ≤ j) ∧ Rd .i32 w' w'.heap.size Ag mg (goneL d L v) ∧ mg ≤ 1000000 ∧ Below w.heap.size w w'

set_option maxHeartbeats 6400000 in
set_option maxRecDepth 100000 in
theorem rback_yes {n d : Nat} {L : List Ent} (A : Option Addr) (c : Nat) (v : Int) (w : World) (h : EnAt w A c L) (hO : Pre n d L) (hn : n ≤ 90000) (h0 : 0 ≤ v) (h1 : v ≤ d) :
    Calls Try.prog 15 #[trV n d A L.length c, .int .i64 v] w (FBackTo A n d L v w) := by
  have hll := hO.len
  obtain ⟨e1, e2, e3, e4⟩ := keepL_back hO h0 h1
  have E1 := Lib.hid e1
  have E2 := Lib.hid e2
  have E3 := Lib.hid e3
  have E4 := Lib.hid e4
  have hcm := h.bd
  obtain ⟨hcm1, hcm2⟩ := hcm
  have HEn := Lib.hid h
  have t0 : decide (v < 0) = false := decide_eq_false (by omega)
  have t1 : decide ((d : Int) < v) = false := decide_eq_false (by omega)
  clear e1 e2 e3 e4 h hO
  obtain ⟨W4, hW4⟩ : ∃ W4, W4 = ((((w.alloc (.cells #[.int .i64 (n : Int), .int .i64 (d : Int), .slice A L.length c] 36)).alloc (.cells #[.int .i64 0, .int .i64 0, .slice none 0 0] 36)).alloc (.cells #[.int .i64 (n : Int), .int .i64 v, .slice none 0 0] 36)).alloc (.cells #[] 26)) := ⟨_, rfl⟩
  have HB4 : Hid (Below w.heap.size w W4) := by unfold Hid; rw [hW4]; exact ((((Below.refl _ _).alloc (Nat.le_refl _) _).alloc (by simp) _).alloc (by simp; omega) _).alloc (by simp; omega) _
  have HZ4 : Hid (W4.heap.size = w.heap.size + 4) := by unfold Hid; rw [hW4]; simp
  have HH1 : Hid (W4.heap[w.heap.size + 1]? = some (.cells #[.int .i64 0, .int .i64 0, .slice none 0 0] 36 (0, 0))) := by
    unfold Hid
    rw [hW4, Below.heap_alloc _ _ _ (by simp), Below.heap_alloc _ _ _ (by simp)]
    have := blk_new (w.alloc (.cells #[.int .i64 (n : Int), .int .i64 (d : Int), .slice A L.length c] 36)) (.cells #[.int .i64 0, .int .i64 0, .slice none 0 0] 36)
    simpa using this
  have HH2 : Hid (W4.heap[w.heap.size + 2]? = some (.cells #[.int .i64 (n : Int), .int .i64 v, .slice none 0 0] 36 (0, 0))) := by
    unfold Hid
    rw [hW4, Below.heap_alloc _ _ _ (by simp)]
    have := blk_new ((w.alloc (.cells #[.int .i64 (n : Int), .int .i64 (d : Int), .slice A L.length c] 36)).alloc (.cells #[.int .i64 0, .int .i64 0, .slice none 0 0] 36)) (.cells #[.int .i64 (n : Int), .int .i64 v, .slice none 0 0] 36)
    simpa using this
  have HH3 : Hid (W4.heap[w.heap.size + 3]? = some (.cells #[] 26 (0, 0))) := by
    unfold Hid
    rw [hW4]
    have := blk_new (((w.alloc (.cells #[.int .i64 (n : Int), .int .i64 (d : Int), .slice A L.length c] 36)).alloc (.cells #[.int .i64 0, .int .i64 0, .slice none 0 0] 36)).alloc (.cells #[.int .i64 (n : Int), .int .i64 v, .slice none 0 0] 36)) (.cells #[] 26)
    simpa using this
  have HW4 := Lib.hid hW4
  clear hW4
  go_enter Try.func15, Try.ntmps15
  go_wp2_with fail
  rw [← HW4.out]
  obtain ⟨wo, rfl⟩ : ∃ wo : World, wo = w := ⟨_, rfl⟩
  go_loopw [8, 28] (fun gv iv wr => BRel wo.heap.size W4 n v L gv iv wr) (fun _ iv _ => L.length - (intOf iv).toNat)
  case atStart =>
    refine ⟨0, none, 0, some ⟨wo.heap.size + 3, 0, none⟩, 0, rfl, by omega, rfl, HH2.out, SlV.nil _ _ _ _, .inr ⟨wo.heap.size + 3, rfl, ⟨#[], HH3.out, by simp [goL], by unfold maxLen; omega, rfl, fun j hj => by simp [goL] at hj⟩⟩, fun j hj => absurd hj (onB_none j), fun j hj => ?_, Below.refl _ _, by have := HZ4.out; omega⟩
    rw [onB_some] at hj
    exact ⟨Nat.le_of_eq hj.symm, onB_none j⟩
  case round =>
    obtain ⟨k, Ao, co, Ag, cg, rfl, hk, rfl, hh2, hEn, hG, hAo, hAg, hB, hsz⟩ := hrel
    have hpl := keepL_len L k v
    have hgl := goL_len L k v
    have hHB : Below wo.heap.size wo wr := HB4.out.trans (hB.mono (by omega))
    have hob := hEn.bd
    obtain ⟨hob1, hob2⟩ := hob
    have hgb := hG.bd
    obtain ⟨hgb1, hgb2⟩ := hgb
    by_cases hlt : k < L.length
    · have tk : decide (k < L.length) = true := decide_eq_true hlt
      obtain ⟨g, rfl, hg, x0, x1, x2⟩ := EnAt.at_ (SlV.below HEn.out hHB) hlt
      have hks := keepL_snoc hlt v
      have hgs := goL_snoc hlt v
      by_cases hle : (L[k].lv : Int) ≤ v
      · rw [if_pos hle] at hks hgs
        have tl : decide ((L[k].lv : Int) ≤ v) = true := decide_eq_true hle
        have HKS := Lib.hid hks
        have HGS := Lib.hid hgs
        clear hle hks hgs
        have hx : L[k] = ⟨L[k].l, L[k].lv, L[k].rs⟩ := rfl
        rw [hx] at HKS
        clear hx
        generalize L[k].l = xl at *
        generalize L[k].lv = xv at *
        generalize L[k].rs = xr at *
        obtain ⟨y0, y1, y2⟩ := cells3 hh2
        have yf := Lib.frozen_of_heap hh2
        have hh2a : (wr.alloc (.cells #[.int .i32 xl, .int .i64 (xv : Int), .int .i64 xr] 46)).heap[wo.heap.size + 2]? = some (.cells #[.int .i64 (n : Int), .int .i64 v, .slice Ao (keepL (L.take k) v).length co] 36 (0, 0)) := (Below.heap_alloc _ _ _ (by omega)).trans hh2
        have HH2a := Lib.hid hh2a
        obtain ⟨z0, z1, z2⟩ := cells3 hh2a
        have hEn2 : EnAt ((wr.alloc (.cells #[.int .i32 xl, .int .i64 (xv : Int), .int .i64 xr] 46)).alloc (.cells #[.int .i32 xl, .int .i64 (xv : Int), .int .i64 xr] 46)) Ao co (keepL (L.take k) v) := SlV.alloc (SlV.alloc hEn _) _
        have hnw : ∀ j u, [Value.int .i32 xl, .int .i64 (xv : Int), .int .i64 xr][j]? = some u → ((wr.alloc (.cells #[.int .i32 xl, .int .i64 (xv : Int), .int .i64 xr] 46)).alloc (.cells #[.int .i32 xl, .int .i64 (xv : Int), .int .i64 xr] 46)).cell? ((⟨wr.heap.size + 1, 0, none⟩ : Addr).add j) = some u := by
          have := blk_new (wr.alloc (.cells #[.int .i32 xl, .int .i64 (xv : Int), .int .i64 xr] 46)) (.cells #[.int .i32 xl, .int .i64 (xv : Int), .int .i64 xr] 46)
          exact box_in (by simpa using this)
        have HEn2 := Lib.hid hEn2
        have HNW := Lib.hid hnw
        have HG := Lib.hid hG
        have HAo := Lib.hid hAo
        have HAg := Lib.hid hAg
        have HBr := Lib.hid hB
        have HEo := Lib.hid hEn
        have HH2 := Lib.hid hh2
        clear hh2a hEn2 hnw hG hAo hAg hB hEn hh2 hHB
        go_wp2_with (at_builtin; refine wpList_append_sl _ rfl _ _ 34 46 rfl Try.underlying34 info_fent rfl (by decide) (by decide) Ao (keepL (L.take k) v).length co (enC (keepL (L.take k) v)) rfl HEn2.out (by omega) ⟨wr.heap.size + 1, 0, none⟩ 1 1 [.int .i32 xl, .int .i64 (xv : Int), .int .i64 xr] rfl rfl HNW.out (by intro u hu; simp at hu; rcases hu with rfl | rfl | rfl <;> rfl) (by decide) (by decide) ?_)
        intro g' c' w6 hr6 hg6 hk6
        have hkk := hk6 (fun j => onB Ao j) (fun j hj => hj)
        have hns : ¬ onB Ao (wo.heap.size + 2) := fun e => by have := HAo.out _ e; omega
        have hb6 : w6.heap[wo.heap.size + 2]? = some (.cells #[.int .i64 (n : Int), .int .i64 v, .slice Ao (keepL (L.take k) v).length co] 36 (0, 0)) :=
          (hkk.block _ (by simp <;> omega) hns).trans ((Below.heap_alloc _ _ _ (by simp <;> omega)).trans HH2a.out)
        obtain ⟨u0, u1, u2⟩ := cells3 hb6
        have uf := Lib.frozen_of_heap hb6
        have hgz : onB Ao g' ∨ wr.heap.size ≤ g' := by
          rcases hg6 with e | e
          · exact .inl e
          · exact .inr (by omega)
        have hg3 : wo.heap.size + 3 ≤ g' := by
          rcases hgz with e | e
          · exact HAo.out _ e
          · omega
        have HE : Hid (BRel wo.heap.size W4 n v L (.slice Ag (goL (L.take k) v).length cg) (.int .i64 ((k : Int) + 1)) (w6.setCell ⟨wo.heap.size + 2, 2, none⟩ (.slice (some ⟨g', 0, none⟩) ((keepL (L.take k) v).length + 1) c'))) := by
          have hl : (keepL (L.take (k + 1)) v).length = (keepL (L.take k) v).length + 1 := by rw [HKS.out]; simp
          have hgl2 : (goL (L.take (k + 1)) v) = goL (L.take k) v := HGS.out
          refine ⟨k + 1, some ⟨g', 0, none⟩, c', Ag, cg, by go_num, by omega, by rw [hgl2], ?_, ?_, ?_, ?_, ?_, ?_, ?_⟩
          · rw [Lib.heap_setCell_same hb6, hl]; rfl
          · show SlV _ 3 _ _ (keepL (L.take (k + 1)) v).length c' _
            rw [hl, HKS.out]
            refine .inr ⟨g', rfl, RowV.other (RowV.congr hr6 fun j hj => enC_snoc _ _ j hj) (by show wo.heap.size + 2 ≠ g'; omega) _⟩
          · rw [hgl2]
            refine SlV.other (SlV.same HG.out fun j hj => ?_) (fun e => by have h7 : wo.heap.size + 3 ≤ wo.heap.size + 2 := (HAg.out _ e).1; omega) _
            have hj2 := HG.out.lt j hj
            exact (hkk.block j (by simp <;> omega) (HAg.out j hj).2).trans ((Below.heap_alloc _ _ _ (by simp <;> omega)).trans (Below.heap_alloc _ _ _ hj2))
          · intro j hj
            rw [onB_some] at hj
            subst hj; exact hg3
          · intro j hj
            refine ⟨(HAg.out j hj).1, fun e => ?_⟩
            rw [onB_some] at e
            subst e
            have hj2 := HG.out.lt _ hj
            rcases hgz with x | x
            · exact (HAg.out _ hj).2 x
            · exact absurd hj2 (by omega)
          · exact (((HBr.out.alloc (by omega) _).alloc (by simp <;> omega) _).trans (hkk.below (by simp <;> omega) (fun x hx => by have := HAo.out x hx; omega))).setCell (p := ⟨wo.heap.size + 2, 2, none⟩) (Nat.le_refl _) _
          · have := hkk.size
            simp [World.setCell] at this ⊢
            omega
        clear hr6 hg6 hk6 hkk hb6 hgz hg3 hns
        go_wp2_with fail
        go_roundw
        case rel => exact HE.out
        case measure => simp [intOf]; omega
      · rw [if_neg hle] at hks hgs
        have tl : decide ((L[k].lv : Int) ≤ v) = false := decide_eq_false hle
        have HKS := Lib.hid hks
        have HGS := Lib.hid hgs
        clear hle hks hgs
        generalize L[k].l = xl at *
        generalize L[k].lv = xv at *
        generalize L[k].rs = xr at *
        have hrow : RowV 26 1 ((wr.alloc (.cells #[.int .i32 xl, .int .i64 (xv : Int), .int .i64 xr] 46)).alloc (.cells #[.int .i32 xl] 26)) (wr.heap.size + 1) 1 1 (fun _ => .int .i32 xl) := by
          have : RowV 26 1 ((wr.alloc (.cells #[.int .i32 xl, .int .i64 (xv : Int), .int .i64 xr] 46)).alloc (.cells #[.int .i32 xl] 26)) (wr.alloc (.cells #[.int .i32 xl, .int .i64 (xv : Int), .int .i64 xr] 46)).heap.size 1 1 (fun _ => .int .i32 xl) :=
            RowV.made (by omega) rfl (fun j hj => by obtain rfl : j = 0 := by omega
                                                     rfl)
          simpa using this
        have HRW := Lib.hid hrow
        have HG := Lib.hid hG
        have HGa : Hid (SlV 26 1 ((wr.alloc (.cells #[.int .i32 xl, .int .i64 (xv : Int), .int .i64 xr] 46)).alloc (.cells #[.int .i32 xl] 26)) Ag (goL (L.take k) v).length cg (litC fun j => (goL (L.take k) v).getD j 0)) := SlV.alloc (SlV.alloc hG _) _
        have HAo := Lib.hid hAo
        have HBr := Lib.hid hB
        have HEo := Lib.hid hEn
        have HH2 := Lib.hid hh2
        clear hG hAo hAg hB hEn hh2 hHB hrow
        go_wp2_with (at_builtin; refine wpList_append_src _ rfl _ _ 28 26 rfl Try.underlying28 info_tlit rfl (by decide) (by decide) (wr.heap.size + 1) 1 1 (fun _ => .int .i32 xl) rfl HRW.out (by omega) Ag (goL (L.take k) v).length cg _ rfl HGa.out (fun j _ => rfl) (by omega) ?_)
        intro g' c' w6 hr6 hg6 hk6
        have hg3 : wr.heap.size + 1 ≤ g' := by
          rcases hg6 with e | e
          · omega
          · omega
        have HE : Hid (BRel wo.heap.size W4 n v L (.slice (some ⟨g', 0, none⟩) (1 + (goL (L.take k) v).length) c') (.int .i64 ((k : Int) + 1)) w6) := by
          have hgl2 : (goL (L.take (k + 1)) v).length = 1 + (goL (L.take k) v).length := by rw [HGS.out]; simp; omega
          have hold : ∀ j, j < wr.heap.size → w6.heap[j]? = wr.heap[j]? := fun j hj =>
            (hk6.block j (by simp <;> omega) (by omega)).trans ((Below.heap_alloc _ _ _ (by simp <;> omega)).trans (Below.heap_alloc _ _ _ hj))
          refine ⟨k + 1, Ao, co, some ⟨g', 0, none⟩, c', by go_num, by omega, by rw [hgl2], ?_, ?_, ?_, HAo.out, ?_, ?_, ?_⟩
          · rw [HKS.out, hold _ (by omega)]; exact HH2.out
          · rw [HKS.out]
            exact SlV.same HEo.out fun j hj => hold j (HEo.out.lt j hj)
          · rw [hgl2]
            refine .inr ⟨g', rfl, RowV.congr hr6 fun j hj => ?_⟩
            show Value.int .i32 ((goL (L.take (k + 1)) v).getD j 0) = _
            rw [HGS.out]
            unfold appV
            cases j with
            | zero => simp
            | succ j =>
              rw [if_neg (by omega)]
              simp only [Nat.add_sub_cancel, List.getD_cons_succ]
              refine Eq.trans ?_ (getD_cellsV _ _ (by omega)).symm
              rfl
          · intro j hj
            rw [onB_some] at hj
            subst hj
            refine ⟨by omega, fun e => ?_⟩
            have := HEo.out.lt _ e
            omega
          · exact (((HBr.out.alloc (by omega) _).alloc (by simp <;> omega) _).trans (hk6.below (by simp <;> omega) (fun x hx => by omega)))
          · have := hk6.size
            simp at this
            omega
        clear hr6 hg6 hk6 hg3
        go_wp2_with fail
        go_roundw
        case rel => exact HE.out
        case measure => simp [intOf]; omega
    · have tk : decide (k < L.length) = false := decide_eq_false hlt
      obtain rfl : k = L.length := by omega
      have hh1 := (hB.block (wo.heap.size + 1) (by omega)).trans HH1.out
      rw [List.take_length] at hh2 hEn hG hpl hgl hob1 hgb1 ⊢
      have hgn : ¬ onB Ao (wo.heap.size + 1) := fun e => by have := hAo _ e; omega
      have hgn2 : ¬ onB Ag (wo.heap.size + 1) := fun e => by have := (hAg _ e).1; omega
      obtain ⟨y0, y1, y2⟩ := cells3 hh2
      obtain ⟨u0, u1, u2⟩ := cells3 hh1
      have uf := Lib.frozen_of_heap hh1
      have hq3 := three_set hh1 (.int .i64 (n : Int)) (.int .i64 v) (.slice Ao (keepL L v).length co)
      obtain ⟨p0, p1, p2⟩ := cells3 hq3
      have hB6 := (((hHB.setCell (p := ⟨wo.heap.size + 1, 0, none⟩) (by simp) (.int .i64 (n : Int))).setCell (p := ⟨wo.heap.size + 1, 1, none⟩) (by simp) (.int .i64 v)).setCell (p := ⟨wo.heap.size + 1, 2, none⟩) (by simp) (.slice Ao (keepL L v).length co))
      have hG6 := SlV.other (SlV.other (SlV.other hG (a := ⟨wo.heap.size + 1, 0, none⟩) hgn2 (.int .i64 (n : Int))) (a := ⟨wo.heap.size + 1, 1, none⟩) hgn2 (.int .i64 v)) (a := ⟨wo.heap.size + 1, 2, none⟩) hgn2 (.slice Ao (keepL L v).length co)
      have HE : Hid (FBackTo A n d L v wo (.returned (.tuple #[trV n v Ao (keepL L v).length co, .slice Ag (goL L v).length cg, .int .i64 0])) (((wr.setCell ⟨wo.heap.size + 1, 0, none⟩ (.int .i64 (n : Int))).setCell ⟨wo.heap.size + 1, 1, none⟩ (.int .i64 v)).setCell ⟨wo.heap.size + 1, 2, none⟩ (.slice Ao (keepL L v).length co))) := by
        refine ⟨Ao, co, Ag, (goL L v).length, cg, ?_, ?_, fun j hj => .inr (by have := hAo j hj; omega), ?_, by omega, hB6⟩
        · rw [E3.out, E4.out, ← E1.out, show ((v.toNat : Nat) : Int) = v from by omega]
        · rw [← E1.out]
          exact SlV.other (SlV.other (SlV.other hEn hgn _) hgn _) hgn _
        · rw [← E2.out]
          rcases hG6 with ⟨a1, a2, a3⟩ | ⟨g, a1, a2⟩
          · rw [a1, a2, List.length_eq_zero_iff.1 a2]; exact Rd.nil
          · rw [a1]; exact RowV.rd a2 rfl
      clear hh1 hh2 hEn hG hAo hAg hB hHB hgn hgn2 hq3 hB6 hG6
      generalize (keepL L v).length = m1 at *
      generalize (goL L v).length = m2 at *
      go_wp2_with fail
      refine bodyPost_ret (v := .tuple #[trV n v Ao m1 co, .slice Ag m2 cg, .int .i64 0]) (by simp [results, Try.results15, go_sem, p0, p1, p2]) rfl ?_
      exact HE.out

set_option maxHeartbeats 6400000 in
set_option maxRecDepth 100000 in
theorem rback_any {n d : Nat} {L : List Ent} (A : Option Addr) (c : Nat) (v : Int) (w : World) (h : EnAt w A c L) (hO : Pre n d L) (hn : n ≤ 90000) :
    Calls Try.prog 15 #[trV n d A L.length c, .int .i64 v] w (FBackTo A n d L v w) := by
  by_cases hv : 0 ≤ v ∧ v ≤ d
  · exact rback_yes A c v w h hO hn hv.1 hv.2
  · have E1 : Hid (backL d L v = L) := by unfold Hid backL; rw [if_neg hv]
    have E2 : Hid (goneL d L v = []) := by unfold Hid goneL; rw [if_neg hv]
    have E3 : Hid (backD d v = d) := by unfold Hid backD; rw [if_neg hv]
    have E4 : Hid (errB d v = 41) := by unfold Hid errB; rw [if_neg hv]
    have hh1 : ((w.alloc (.cells #[.int .i64 (n : Int), .int .i64 (d : Int), .slice A L.length c] 36)).alloc (.cells #[.int .i64 0, .int .i64 0, .slice none 0 0] 36)).heap[w.heap.size + 1]? = some (.cells #[.int .i64 0, .int .i64 0, .slice none 0 0] 36 (0, 0)) := by
      have := blk_new (w.alloc (.cells #[.int .i64 (n : Int), .int .i64 (d : Int), .slice A L.length c] 36)) (.cells #[.int .i64 0, .int .i64 0, .slice none 0 0] 36)
      simpa using this
    have hB : Below w.heap.size w ((w.alloc (.cells #[.int .i64 (n : Int), .int .i64 (d : Int), .slice A L.length c] 36)).alloc (.cells #[.int .i64 0, .int .i64 0, .slice none 0 0] 36)) := ((Below.refl _ _).alloc (Nat.le_refl _) _).alloc (by simp) _
    obtain ⟨W2, hW2⟩ : ∃ W2, W2 = ((w.alloc (.cells #[.int .i64 (n : Int), .int .i64 (d : Int), .slice A L.length c] 36)).alloc (.cells #[.int .i64 0, .int .i64 0, .slice none 0 0] 36)) := ⟨_, rfl⟩
    have hh0 : W2.heap[w.heap.size]? = some (.cells #[.int .i64 (n : Int), .int .i64 (d : Int), .slice A L.length c] 36 (0, 0)) := by
      rw [hW2, Below.heap_alloc _ _ _ (by simp)]; exact blk_new _ _
    rw [← hW2] at hh1 hB
    obtain ⟨y0, y1, y2⟩ := cells3 hh0
    obtain ⟨u0, u1, u2⟩ := cells3 hh1
    have uf := Lib.frozen_of_heap hh1
    have hq3 := three_set hh1 (.int .i64 (n : Int)) (.int .i64 (d : Int)) (.slice A L.length c)
    obtain ⟨p0, p1, p2⟩ := cells3 hq3
    have hB6 := (((hB.setCell (p := ⟨w.heap.size + 1, 0, none⟩) (by simp) (.int .i64 (n : Int))).setCell (p := ⟨w.heap.size + 1, 1, none⟩) (by simp) (.int .i64 (d : Int))).setCell (p := ⟨w.heap.size + 1, 2, none⟩) (by simp) (.slice A L.length c))
    have HE : Hid (FBackTo A n d L v w (.returned (.tuple #[trV n d A L.length c, .slice none 0 0, .int .i64 41])) (((W2.setCell ⟨w.heap.size + 1, 0, none⟩ (.int .i64 (n : Int))).setCell ⟨w.heap.size + 1, 1, none⟩ (.int .i64 (d : Int))).setCell ⟨w.heap.size + 1, 2, none⟩ (.slice A L.length c))) := by
      refine ⟨A, c, none, 0, 0, ?_, ?_, fun j hj => .inl hj, ?_, by omega, hB6⟩
      · rw [E1.out, E3.out, E4.out]
      · rw [E1.out]; exact SlV.below h hB6
      · rw [E2.out]; exact Rd.nil
    have HW2 := Lib.hid hW2
    clear hW2 hh0 hh1 hB hq3 hB6 h hO
    by_cases h0 : v < 0
    · have t0 : decide (v < 0) = true := decide_eq_true h0
      go_enter Try.func15, Try.ntmps15
      go_upto_region 1 with (fail)
      rw [← HW2.out]
      go_wp2_with fail
      refine bodyPost_ret (v := .tuple #[trV n d A L.length c, .slice none 0 0, .int .i64 41]) (by simp [results, Try.results15, go_sem, p0, p1, p2]) rfl ?_
      exact HE.out
    · have t0 : decide (v < 0) = false := decide_eq_false h0
      have t1 : decide ((d : Int) < v) = true := decide_eq_true (by omega)
      go_enter Try.func15, Try.ntmps15
      go_upto_region 1 with (fail)
      rw [← HW2.out]
      go_wp2_with fail
      refine bodyPost_ret (v := .tuple #[trV n d A L.length c, .slice none 0 0, .int .i64 41]) (by simp [results, Try.results15, go_sem, p0, p1, p2]) rfl ?_
      exact HE.out
end Go.Proofs.Ytcgihbffdejnbaa
