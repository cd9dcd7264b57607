/- The contracts of newQueue and New. -/
import Derived.Test.YtffpggdbmfidcaaRankR
import Derived.Laws.MakeOwn
import Derived.Deep.DeepCutAuto
import Derived.Deep.RegionHeld3
namespace Go.Proofs.Ytffpggdbmfidcaa
open Go.RowKit HeapM

/-- Three fresh rows and the block that names them. -/
def NewQ (w0 : World) (n : Nat) (p a b c : Value) (wx : World) : Prop :=
  ∃ qb gs gp go, p = .pointer (some ⟨qb, 0, none⟩) ∧ a = .slice (some ⟨gs, 0, none⟩) (n + 1) (n + 1) ∧ b = .slice (some ⟨gp, 0, none⟩) (n + 1) (n + 1) ∧ c = .slice (some ⟨go, 0, none⟩) n n ∧
    QAt wx qb gs (n + 1) gp (n + 1) go n n n (fun _ => 0) (fun _ => 0) (fun _ => 0) ∧ (∀ k, Foot qb gs gp go k → w0.heap.size < k) ∧ Below w0.heap.size w0 wx ∧ ∃ cs, wx.heap[w0.heap.size]? = some (.cells cs 53 (0, 0)) ∧ cs.size = 3

/-- What newQueue answers: three rows. -/
def MadeQ (w : World) (n : Nat) (e : Ending) (w' : World) : Prop :=
  ∃ gs gp go, e = .returned (.agg #[.slice (some ⟨gs, 0, none⟩) (n + 1) (n + 1), .slice (some ⟨gp, 0, none⟩) (n + 1) (n + 1), .slice (some ⟨go, 0, none⟩) n n]) ∧
    Row 2 w' gs (n + 1) (n + 1) (fun _ => 0) ∧ Row 3 w' gp (n + 1) (n + 1) (fun v => (v : Int) - 1) ∧ Row 3 w' go n n (fun i => ((i + 1 : Nat) : Int)) ∧ (gs ≠ gp ∧ gs ≠ go ∧ gp ≠ go) ∧ (w.heap.size ≤ gs ∧ w.heap.size ≤ gp ∧ w.heap.size ≤ go) ∧ Below w.heap.size w w'
/-- The loop's relation. -/
def NewRel (w : World) (n qb gs gp go : Nat) (v : Value) (wr : World) : Prop :=
  ∃ k : Nat, v = .int .i64 (k : Int) ∧ k ≤ n ∧ QAt wr qb gs (n + 1) gp (n + 1) go n n n (fun _ => 0) (fun v => if v ≤ k then (v : Int) - 1 else 0) (fun i => if i < k then i + 1 else 0) ∧
    (∀ k, Foot qb gs gp go k → w.heap.size < k) ∧ Below w.heap.size w wr ∧ ∃ cs, wr.heap[w.heap.size]? = some (.cells cs 53 (0, 0)) ∧ cs.size = 3

theorem make_any (t e : TypeId) (ht : Try.prog.underlying t = some (.slice e)) (hinfo : (Try.prog.info? e).map (fun i => (i.zero, i.size, i.bytes)) = some (some (.int .i64 0), 1, 8)) (n : Nat) (hn : n ≤ 2000) :
    ∃ C : Array Value, C.size = n ∧ (∀ j, j < n → C[j]? = some (.int .i64 0)) ∧ ∀ w : World, (Instr.makeSlice t (.int .i64 (n : Int)) (.int .i64 (n : Int))).run Try.prog w = .ok (.slice (some ⟨w.heap.size, 0, none⟩) n n) (w.alloc (.cells C e)) := by
  obtain ⟨i0, hi, hz0, hz1, hz2⟩ := info_parts hinfo
  refine ⟨madeCells (Value.int .i64 0).cells (n * i0.size), ?_, ?_, fun w => ?_⟩
  · rw [size_madeCells, hz1, Nat.mul_one]
  · intro j hj
    rw [← Array.getElem?_toList, show (Value.int .i64 0).cells = #[Value.int .i64 0] from rfl, toList_madeCells_one, hz1, Nat.mul_one, List.getElem?_replicate, if_pos hj]
  · have := run_makeSlice (P := Try.prog) (w := w) t e i0 (.int .i64 0) ht hi hz0 .i64 .i64 (n : Int) (n : Int) (by omega) (by omega) (by rw [hz1]; simp; omega) (by rw [hz2]; simp; omega) (by omega)
    simpa using this


theorem Q3.congr {w : World} {b gs cs gp cp go co ns np m : Nat} {sc pl sc' pl' : Nat → Int} {od od' : Nat → Nat} (h : Q3 w b gs cs gp cp go co ns np m sc pl od) (e1 : ∀ j, j < ns → sc' j = sc j) (e2 : ∀ j, j < np → pl' j = pl j) (e3 : ∀ j, j < m → od' j = od j) :
    Q3 w b gs cs gp cp go co ns np m sc' pl' od' :=
  ⟨h.head, h.scs.congr e1, h.pls.congr e2, h.ods.congr (fun j hj => by simp only [e3 j hj]), h.ne⟩
section
variable (w : World) (a0 a1 a2 a3 a4 : Obj)
theorem blk_old {k : Nat} (o : Obj) (h : k < w.heap.size) : (w.alloc o).heap[k]? = w.heap[k]? := Below.heap_alloc _ _ _ h
theorem blk_new (o : Obj) : (w.alloc o).heap[w.heap.size]? = some o := by show (w.heap.push o)[w.heap.size]? = _; simp
theorem five1 : (((((w.alloc a0).alloc a1).alloc a2).alloc a3).alloc a4).drew.heap[w.heap.size + 1]? = some a1 := by
  show (((((w.alloc a0).alloc a1).alloc a2).alloc a3).alloc a4).heap[_]? = _
  rw [blk_old _ _ (by simp <;> omega), blk_old _ _ (by simp <;> omega), blk_old _ _ (by simp <;> omega)]
  have := blk_new (w.alloc a0) a1
  simpa using this
theorem five2 : (((((w.alloc a0).alloc a1).alloc a2).alloc a3).alloc a4).drew.heap[w.heap.size + 1 + 1]? = some a2 := by
  show (((((w.alloc a0).alloc a1).alloc a2).alloc a3).alloc a4).heap[_]? = _
  rw [blk_old _ _ (by simp <;> omega), blk_old _ _ (by simp <;> omega)]
  have := blk_new ((w.alloc a0).alloc a1) a2
  simpa using this
theorem five3 : (((((w.alloc a0).alloc a1).alloc a2).alloc a3).alloc a4).drew.heap[w.heap.size + 1 + 1 + 1]? = some a3 := by
  show (((((w.alloc a0).alloc a1).alloc a2).alloc a3).alloc a4).heap[_]? = _
  rw [blk_old _ _ (by simp)]
  have := blk_new (((w.alloc a0).alloc a1).alloc a2) a3
  simpa using this
theorem five4 : (((((w.alloc a0).alloc a1).alloc a2).alloc a3).alloc a4).drew.heap[w.heap.size + 1 + 1 + 1 + 1]? = some a4 := by
  show (((((w.alloc a0).alloc a1).alloc a2).alloc a3).alloc a4).heap[_]? = _
  have := blk_new ((((w.alloc a0).alloc a1).alloc a2).alloc a3) a4
  simpa using this
theorem five_below : Below w.heap.size w (((((w.alloc a0).alloc a1).alloc a2).alloc a3).alloc a4).drew :=
  (((((((Below.refl _ _).alloc (Nat.le_refl _) _).alloc (by simp) _).alloc (by simp; omega) _).alloc (by simp; omega) _).alloc (by simp; omega) _)).drew
theorem five_zero : (((((w.alloc a0).alloc a1).alloc a2).alloc a3).alloc a4).drew.heap[w.heap.size]? = some a0 := by
  show (((((w.alloc a0).alloc a1).alloc a2).alloc a3).alloc a4).heap[_]? = _
  rw [blk_old _ _ (by simp; omega), blk_old _ _ (by simp; omega), blk_old _ _ (by simp; omega), blk_old _ _ (by simp)]
  exact blk_new _ _
end

theorem step_pl (k j : Nat) : (if j ≤ k + 1 then (j : Int) - 1 else 0) = upd (fun v : Nat => if v ≤ k then (v : Int) - 1 else 0) (k + 1) (k : Int) j := by
  simp only [upd]
  by_cases e : j = k + 1
  · rw [if_pos e, if_pos (by omega)]; omega
  · rw [if_neg e]
    by_cases e' : j ≤ k
    · rw [if_pos e', if_pos (by omega)]
    · rw [if_neg e', if_neg (by omega)]
theorem step_od (k j : Nat) : (if j < k + 1 then j + 1 else 0) = upd (fun i : Nat => if i < k then i + 1 else 0) k (k + 1) j := by
  simp only [upd]
  by_cases e : j = k
  · rw [if_pos e, if_pos (by omega)]; omega
  · rw [if_neg e]
    by_cases e' : j < k
    · rw [if_pos e', if_pos (by omega)]
    · rw [if_neg e', if_neg (by omega)]
theorem newq_mk {w wx : World} {n qb gs gp go : Nat} {C1 C2 C3 : Array Value} (z1 : C1.size = n + 1) (z2 : C2.size = n + 1) (z3 : C3.size = n) (hn : n ≤ 1000) (c1 : ∀ j, j < n + 1 → C1[j]? = some (.int .i64 0)) (c2 : ∀ j, j < n + 1 → C2[j]? = some (.int .i64 0)) (c3 : ∀ j, j < n → C3[j]? = some (.int .i64 0))
    (hb : wx.heap[qb]? = some (.cells #[.slice (some ⟨gs, 0, none⟩) (n + 1) (n + 1), .slice (some ⟨gp, 0, none⟩) (n + 1) (n + 1), .slice (some ⟨go, 0, none⟩) n n] 53 (0, 0)))
    (h1 : wx.heap[gs]? = some (.cells C1 2 (0, 0))) (h2 : wx.heap[gp]? = some (.cells C2 3 (0, 0))) (h3 : wx.heap[go]? = some (.cells C3 3 (0, 0)))
    (hne : qb ≠ gs ∧ qb ≠ gp ∧ qb ≠ go ∧ gs ≠ gp ∧ gs ≠ go ∧ gp ≠ go) (hf : w.heap.size < qb ∧ w.heap.size < gs ∧ w.heap.size < gp ∧ w.heap.size < go) (hB : Below w.heap.size w wx)
    (hR : ∃ cs, wx.heap[w.heap.size]? = some (.cells cs 53 (0, 0)) ∧ cs.size = 3) :
    NewQ w n (.pointer (some ⟨qb, 0, none⟩)) (.slice (some ⟨gs, 0, none⟩) (n + 1) (n + 1)) (.slice (some ⟨gp, 0, none⟩) (n + 1) (n + 1)) (.slice (some ⟨go, 0, none⟩) n n) wx :=
  ⟨qb, gs, gp, go, rfl, rfl, rfl, rfl, ⟨⟨_, hb⟩, ⟨C1, h1, Nat.le_refl _, by unfold maxLen; omega, z1, c1⟩, ⟨C2, h2, Nat.le_refl _, by unfold maxLen; omega, z2, c2⟩, ⟨C3, h3, Nat.le_refl _, by unfold maxLen; omega, z3, c3⟩, hne⟩,
    by rintro k (rfl | rfl | rfl | rfl) <;> omega, hB, hR⟩

set_option maxHeartbeats 6400000 in
set_option maxRecDepth 100000 in
theorem newQueue_nat (n : Nat) (w : World) (hn : n ≤ 1000) :
    Calls Try.prog 26 #[.int .i64 n] w (MadeQ w n) := by
  obtain ⟨C1, z1, c1, m1⟩ := make_any 49 2 Try.underlying49 info_int64 (n + 1) (by omega)
  obtain ⟨C2, z2, c2, m2⟩ := make_any 51 3 Try.underlying51 info_int (n + 1) (by omega)
  obtain ⟨C3, z3, c3, m3⟩ := make_any 51 3 Try.underlying51 info_int n (by omega)
  rw [show ((n + 1 : Nat) : Int) = (n : Int) + 1 from by omega] at m1 m2
  have Z1 := Lib.hid z1
  have Z2 := Lib.hid z2
  have Z3 := Lib.hid z3
  have HC1 := Lib.hid c1
  have HC2 := Lib.hid c2
  have HC3 := Lib.hid c3
  clear z1 z2 z3 c1 c2 c3
  go_enter Try.func26, Try.ntmps26
  go_wp2_with fail
  go_cut [3, 7, 10, 12] (fun p a b c wx => Hid (NewQ w n p a b c wx))
  case first =>
    go_region
    all_goals
      go_wp2_with fail
      go_meet
      exact newq_mk Z1.out Z2.out Z3.out hn HC1.out HC2.out HC3.out (by first | exact five1 _ _ _ _ _ _ | exact five2 _ _ _ _ _ _ | exact five3 _ _ _ _ _ _ | exact five4 _ _ _ _ _ _) (by first | exact five1 _ _ _ _ _ _ | exact five2 _ _ _ _ _ _ | exact five3 _ _ _ _ _ _ | exact five4 _ _ _ _ _ _) (by first | exact five1 _ _ _ _ _ _ | exact five2 _ _ _ _ _ _ | exact five3 _ _ _ _ _ _ | exact five4 _ _ _ _ _ _) (by first | exact five1 _ _ _ _ _ _ | exact five2 _ _ _ _ _ _ | exact five3 _ _ _ _ _ _ | exact five4 _ _ _ _ _ _) (by omega) (by omega) (five_below _ _ _ _ _ _) ⟨_, five_zero _ _ _ _ _ _, rfl⟩
  case rest =>
    obtain ⟨qb, gs, gp, go, rfl, rfl, rfl, rfl, hq, hf, hB, cr, hcr, hcz⟩ := hcut.out
    have hn1 := hq.ne
    obtain ⟨ne1, ne2, ne3, ne4, ne5, ne6⟩ := hn1
    have c1 := hq.h1
    have cz := hq.pls.cell (show 0 < n + 1 by omega)
    have fz := hq.pls.free 0
    have HQ1 := Lib.hid (hq.setP (show 0 < n + 1 by omega) (-1))
    have c2 := HQ1.out.h2
    have HS : Hid (NewRel w n qb gs gp go (.int .i64 0) (wc.setCell ⟨gp, 0, none⟩ (.int .i64 (-1)))) := by
      refine ⟨0, rfl, Nat.zero_le _, HQ1.out.congr (fun j _ => rfl) (fun j _ => ?_) (fun j _ => ?_), hf, hB.setCell (p := ⟨gp, 0, none⟩) (Nat.le_of_lt (hf _ (.inr (.inr (.inl rfl))))) _, cr, ?_, hcz⟩
      · unfold upd; by_cases e : j = 0
        · subst e; simp
        · rw [if_neg (by omega), if_neg e]
      · rw [if_neg (by omega)]
      · rw [Below.heap_setCell _ _ _ _ (by have := hf gp (.inr (.inr (.inl rfl))); show w.heap.size ≠ gp; omega)]; exact hcr
    clear hq hf hB hcr hcz hcut
    go_wp2_with fail
    go_loopw [20] (fun v wr => NewRel w n qb gs gp go v wr) (fun v _ => n - (intOf v).toNat)
    case atStart => exact HS.out
    case round =>
      clear HS c1 c2 cz fz HQ1
      obtain ⟨k, rfl, hk, hq, hf, hB, cr, hcr, hcz⟩ := hrel
      have hm0 := hf qb (.inl rfl)
      have hms := hf gs (.inr (.inl rfl))
      have hmp := hf gp (.inr (.inr (.inl rfl)))
      have hmo := hf go (.inr (.inr (.inr rfl)))
      by_cases hlt : k < n
      · have c2 := hq.h2
        have co := hq.ods.cell hlt
        have fo := hq.ods.free k
        have hq1 := hq.setO hlt (k + 1)
        rw [show ((k + 1 : Nat) : Int) = (k : Int) + 1 from by omega] at hq1
        have c1 := hq1.h1
        have cp := hq1.pls.cell (show k + 1 < n + 1 by omega)
        have fp := hq1.pls.free (k + 1)
        have hq2 := hq1.setP (show k + 1 < n + 1 by omega) (k : Int)
        have HR : Hid (NewRel w n qb gs gp go (.int .i64 ((k + 1 : Nat) : Int)) ((wr.setCell ⟨go, k, none⟩ (.int .i64 ((k : Int) + 1))).setCell ⟨gp, k + 1, none⟩ (.int .i64 (k : Int)))) := by
          refine ⟨k + 1, rfl, hlt, hq2.congr (fun j _ => rfl) (fun j _ => ?_) (fun j _ => ?_), hf, (hB.setCell (p := ⟨go, k, none⟩) (Nat.le_of_lt hmo) _).setCell (p := ⟨gp, k + 1, none⟩) (Nat.le_of_lt hmp) _, cr, ?_, hcz⟩
          · exact step_pl k j
          · exact step_od k j
          · rw [Below.heap_setCell _ _ _ _ (by show w.heap.size ≠ gp; omega), Below.heap_setCell _ _ _ _ (by show w.heap.size ≠ go; omega)]; exact hcr
        rw [show ((k + 1 : Nat) : Int) = (k : Int) + 1 from by omega] at HR
        clear hq hq1 hq2 hf hB hcr hcz hm0 hms hmp hmo
        go_wp2_with fail
        go_roundw
        case rel => exact HR.out
        case measure => simp [intOf]; omega
      · have hkn : k = n := by omega
        subst hkn
        have c0 := hq.h0
        have c1 := hq.h1
        have c2 := hq.h2
        have r0 : ∃ x, wr.cell? ⟨w.heap.size, 0, none⟩ = some x := by rw [Lib.cell_of_heap hcr]; exact ⟨_, Array.getElem?_eq_getElem (by omega)⟩
        have r1 : ∃ x, wr.cell? ⟨w.heap.size, 1, none⟩ = some x := by rw [Lib.cell_of_heap hcr]; exact ⟨_, Array.getElem?_eq_getElem (by omega)⟩
        have r2 : ∃ x, wr.cell? ⟨w.heap.size, 2, none⟩ = some x := by rw [Lib.cell_of_heap hcr]; exact ⟨_, Array.getElem?_eq_getElem (by omega)⟩
        have fr := Lib.frozen_of_heap hcr
        obtain ⟨x0, r0⟩ := r0
        obtain ⟨x1, r1⟩ := r1
        obtain ⟨x2, r2⟩ := r2
        have HE : Hid (MadeQ w k (.returned (.agg #[.slice (some ⟨gs, 0, none⟩) (k + 1) (k + 1), .slice (some ⟨gp, 0, none⟩) (k + 1) (k + 1), .slice (some ⟨go, 0, none⟩) k k])) (((wr.setCell ⟨w.heap.size, 0, none⟩ (.slice (some ⟨gs, 0, none⟩) (k + 1) (k + 1))).setCell ⟨w.heap.size, 1, none⟩ (.slice (some ⟨gp, 0, none⟩) (k + 1) (k + 1))).setCell ⟨w.heap.size, 2, none⟩ (.slice (some ⟨go, 0, none⟩) k k))) := by
          have e1 : w.heap.size ≠ gs := by omega
          have e2 : w.heap.size ≠ gp := by omega
          have e3 : w.heap.size ≠ go := by omega
          refine ⟨gs, gp, go, rfl, ((hq.scs.other e1 _).other e1 _).other e1 _, (((hq.pls.other e2 _).other e2 _).other e2 _).congr fun j hj => ?_, (((hq.ods.other e3 _).other e3 _).other e3 _).congr fun j hj => ?_, ⟨ne4, ne5, ne6⟩, ⟨by omega, by omega, by omega⟩, ((hB.setCell (p := ⟨w.heap.size, 0, none⟩) (Nat.le_refl _) _).setCell (p := ⟨w.heap.size, 1, none⟩) (Nat.le_refl _) _).setCell (p := ⟨w.heap.size, 2, none⟩) (Nat.le_refl _) _⟩
          · rw [if_pos (by omega)]
          · rw [if_pos hj]
        clear hq hf hB hcr hcz
        go_wp2_with fail
        refine bodyPost_ret (v := .agg #[.slice (some ⟨gs, 0, none⟩) (k + 1) (k + 1), .slice (some ⟨gp, 0, none⟩) (k + 1) (k + 1), .slice (some ⟨go, 0, none⟩) k k]) (by simp [results, Try.results26, go_sem, r0, r1, r2]) rfl ?_
        exact HE.out
end Go.Proofs.Ytffpggdbmfidcaa
