/- The contracts of a Rank's asking methods, at the queue's level. The contracts of newQueue and New. A Rank; the contract of New. The contracts of a Rank's Bump and Halve. The contracts of a Rank's Halve, Push, Pop. The contracts of the queue's add and a Rank's Grow. A Rank as its callers see it: the contracts of all its methods. -/
import Derived.Test.YtfllhfhcmoemeaaGreatHeapD
import Derived.Laws.MakeOwn
import Derived.Deep.DeepCutAuto
import Derived.Deep.RegionHeld3
import Derived.Deep.RegionWith
namespace Go.Proofs.YtfllhfhcmoemeaaGreat
open Go.RowKit HeapM

/-- Is it one of so many? -/
def inB (n : Nat) (v : Int) : Bool := decide (1 ≤ v ∧ v ≤ n)
theorem inB_iff (n : Nat) (v : Int) : inB n v = true ↔ 1 ≤ v ∧ v ≤ n := by simp [inB]
theorem inB_no (n : Nat) (v : Int) : inB n v = false ↔ ¬ (1 ≤ v ∧ v ≤ n) := by rw [← inB_iff]; simp

section
variable {b gs cs gp cp go co n m : Nat} {sc pl : Nat → Int} {od : Nat → Nat}

set_option maxHeartbeats 1600000 in
theorem qvars_any {np : Nat} (w : World) (h : Q3 w b gs cs gp cp go co (n + 1) np m sc pl od) (hn : n ≤ 1000) :
    Calls Tryz.prog 92 #[.pointer (some ⟨b, 0, none⟩)] w fun e w' => e = .returned (.int .i64 n) ∧ w = w' := by
  have c0 := h.h0
  clear h
  go_enter Tryz.func92, Tryz.ntmps92
  go_wp2
  go_ret
  exact ⟨rret_int (by omega), rfl⟩
set_option maxHeartbeats 1600000 in
theorem vars_nat (w : World) (h : QAt w b gs cs gp cp go co n m sc pl od) (hn : n ≤ 1000) :
    Calls Tryz.prog 60 #[.pointer (some ⟨b, 0, none⟩)] w fun e w' => e = .returned (.int .i64 n) ∧ w = w' := by
  have H := Lib.hid (qvars_any w h hn)
  clear h
  go_enter Tryz.func60, Tryz.ntmps60
  go_wp2_with fail
  refine H.out.mono ?_
  rintro e w' ⟨rfl, rfl⟩
  go_wp2_with fail
  go_ret
  exact ⟨rfl, rfl⟩
set_option maxHeartbeats 1600000 in
theorem len_nat (w : World) (h : QAt w b gs cs gp cp go co n m sc pl od) :
    Calls Tryz.prog 116 #[.pointer (some ⟨b, 0, none⟩)] w fun e w' => e = .returned (.int .i64 m) ∧ w = w' := by
  have H := Lib.hid (qlen_any w h)
  clear h
  go_enter Tryz.func116, Tryz.ntmps116
  go_wp2_with fail
  refine H.out.mono ?_
  rintro e w' ⟨rfl, rfl⟩
  go_wp2_with fail
  go_ret
  exact ⟨rfl, rfl⟩
set_option maxHeartbeats 1600000 in
theorem has_nat (w : World) (h : QAt w b gs cs gp cp go co n m sc pl od) (hn : n ≤ 1000) (v : Int) :
    Calls Tryz.prog 88 #[.pointer (some ⟨b, 0, none⟩), .int .i64 v] w fun e w' => e = .returned (.bool (inB n v)) ∧ w = w' := by
  have H := Lib.hid (vars_nat w h hn)
  clear h
  by_cases h1 : v < 1
  · have HE := Lib.hid ((inB_no n v).2 (by omega))
    go_enter Tryz.func88, Tryz.ntmps88
    go_wp2_with fail
    go_ret
    exact ⟨rret_bool (by rw [HE.out]), rfl⟩
  · have h1' : 1 ≤ v := by omega
    have t1 : decide (1 ≤ v) = true := decide_eq_true h1'
    by_cases h2 : v ≤ n
    · have HE := Lib.hid ((inB_iff n v).2 ⟨h1', h2⟩)
      clear h1
      go_enter Tryz.func88, Tryz.ntmps88
      go_wp2_with fail
      refine H.out.mono ?_
      rintro e w' ⟨rfl, rfl⟩
      go_wp2_with fail
      go_ret
      exact ⟨rret_bool (by rw [HE.out]), rfl⟩
    · have HE := Lib.hid ((inB_no n v).2 (by omega))
      clear h1
      go_enter Tryz.func88, Tryz.ntmps88
      go_wp2_with fail
      refine H.out.mono ?_
      rintro e w' ⟨rfl, rfl⟩
      go_wp2_with fail
      go_ret
      exact ⟨rret_bool (by rw [HE.out]; simp; omega), rfl⟩

set_option maxHeartbeats 1600000 in
set_option maxRecDepth 100000 in
theorem waits_nat (w : World) (h : QAt w b gs cs gp cp go co n m sc pl od) (hn : n ≤ 1000) (v : Int) :
    Calls Tryz.prog 89 #[.pointer (some ⟨b, 0, none⟩), .int .i64 v] w fun e w' => e = .returned (.bool (inB n v && (pl v.toNat != -1))) ∧ w = w' := by
  have H := Lib.hid (has_nat w h hn v)
  rcases hb : inB n v
  · rw [hb] at H
    clear h hb
    go_enter Tryz.func89, Tryz.ntmps89
    go_wp2_with fail
    refine H.out.mono ?_
    rintro e w' ⟨rfl, rfl⟩
    go_wp2_with fail
    go_ret
    exact ⟨rfl, rfl⟩
  · rw [hb] at H
    obtain ⟨h1, h2⟩ := (inB_iff n v).1 hb
    have h0 : 0 ≤ v := by omega
    have c1 := h.h1
    have hc := h.pls.cell (show v.toNat < n + 1 by omega)
    clear h hb
    obtain ⟨v, rfl⟩ := Int.eq_ofNat_of_zero_le h0
    rw [show ((v : Int).toNat) = v from by omega] at hc ⊢
    generalize pl v = x at *
    go_enter Tryz.func89, Tryz.ntmps89
    go_wp2_with fail
    refine H.out.mono ?_
    rintro e w' ⟨rfl, rfl⟩
    go_wp2_with fail
    go_ret
    exact ⟨rret_bool (by simp), rfl⟩

end
end Go.Proofs.YtfllhfhcmoemeaaGreat
namespace Go.Proofs.YtfllhfhcmoemeaaGreat
open Go.RowKit HeapM

/-- Three fresh rows and the block that names them. -/
def NewQ (w0 : World) (n : Nat) (p a b c : Value) (wx : World) : Prop :=
  ∃ qb gs gp go, p = .pointer (some ⟨qb, 0, none⟩) ∧ a = .slice (some ⟨gs, 0, none⟩) (n + 1) (n + 1) ∧ b = .slice (some ⟨gp, 0, none⟩) (n + 1) (n + 1) ∧ c = .slice (some ⟨go, 0, none⟩) n n ∧
    QAt wx qb gs (n + 1) gp (n + 1) go n n n (fun _ => 0) (fun _ => 0) (fun _ => 0) ∧ (∀ k, Foot qb gs gp go k → w0.heap.size < k) ∧ Below w0.heap.size w0 wx ∧ ∃ cs, wx.heap[w0.heap.size]? = some (.cells cs 88 (0, 0)) ∧ cs.size = 3

/-- What newQueue answers: three rows. -/
def MadeQ (w : World) (n : Nat) (e : Ending) (w' : World) : Prop :=
  ∃ gs gp go, e = .returned (.agg #[.slice (some ⟨gs, 0, none⟩) (n + 1) (n + 1), .slice (some ⟨gp, 0, none⟩) (n + 1) (n + 1), .slice (some ⟨go, 0, none⟩) n n]) ∧
    Row 2 w' gs (n + 1) (n + 1) (fun _ => 0) ∧ Row 3 w' gp (n + 1) (n + 1) (fun v => (v : Int) - 1) ∧ Row 3 w' go n n (fun i => ((i + 1 : Nat) : Int)) ∧ (gs ≠ gp ∧ gs ≠ go ∧ gp ≠ go) ∧ (w.heap.size ≤ gs ∧ w.heap.size ≤ gp ∧ w.heap.size ≤ go) ∧ Below w.heap.size w w'
/-- The loop's relation. -/
def NewRel (w : World) (n qb gs gp go : Nat) (v : Value) (wr : World) : Prop :=
  ∃ k : Nat, v = .int .i64 (k : Int) ∧ k ≤ n ∧ QAt wr qb gs (n + 1) gp (n + 1) go n n n (fun _ => 0) (fun v => if v ≤ k then (v : Int) - 1 else 0) (fun i => if i < k then i + 1 else 0) ∧
    (∀ k, Foot qb gs gp go k → w.heap.size < k) ∧ Below w.heap.size w wr ∧ ∃ cs, wr.heap[w.heap.size]? = some (.cells cs 88 (0, 0)) ∧ cs.size = 3

theorem make_any (t e : TypeId) (ht : Tryz.prog.underlying t = some (.slice e)) (hinfo : (Tryz.prog.info? e).map (fun i => (i.zero, i.size, i.bytes)) = some (some (.int .i64 0), 1, 8)) (n : Nat) (hn : n ≤ 2000) :
    ∃ C : Array Value, C.size = n ∧ (∀ j, j < n → C[j]? = some (.int .i64 0)) ∧ ∀ w : World, (Instr.makeSlice t (.int .i64 (n : Int)) (.int .i64 (n : Int))).run Tryz.prog w = .ok (.slice (some ⟨w.heap.size, 0, none⟩) n n) (w.alloc (.cells C e)) := by
  obtain ⟨i0, hi, hz0, hz1, hz2⟩ := info_parts hinfo
  refine ⟨madeCells (Value.int .i64 0).cells (n * i0.size), ?_, ?_, fun w => ?_⟩
  · rw [size_madeCells, hz1, Nat.mul_one]
  · intro j hj
    rw [← Array.getElem?_toList, show (Value.int .i64 0).cells = #[Value.int .i64 0] from rfl, toList_madeCells_one, hz1, Nat.mul_one, List.getElem?_replicate, if_pos hj]
  · have := run_makeSlice (P := Tryz.prog) (w := w) t e i0 (.int .i64 0) ht hi hz0 .i64 .i64 (n : Int) (n : Int) (by omega) (by omega) (by rw [hz1]; simp; omega) (by rw [hz2]; simp; omega) (by omega)
    simpa using this


theorem Q3.congr {w : World} {b gs cs gp cp go co ns np m : Nat} {sc pl sc' pl' : Nat → Int} {od od' : Nat → Nat} (h : Q3 w b gs cs gp cp go co ns np m sc pl od) (e1 : ∀ j, j < ns → sc' j = sc j) (e2 : ∀ j, j < np → pl' j = pl j) (e3 : ∀ j, j < m → od' j = od j) :
    Q3 w b gs cs gp cp go co ns np m sc' pl' od' :=
  ⟨h.head, h.scs.congr e1, h.pls.congr e2, h.ods.congr (fun j hj => by simp only [e3 j hj]), h.ne⟩
section
variable (w : World) (a0 a1 a2 a3 a4 : Obj)
theorem blk_old {k : Nat} (o : Obj) (h : k < w.heap.size) : (w.alloc o).heap[k]? = w.heap[k]? := Below.heap_alloc _ _ _ h
theorem rblk_new (o : Obj) : (w.alloc o).heap[w.heap.size]? = some o := by show (w.heap.push o)[w.heap.size]? = _; simp
theorem five1 : (((((w.alloc a0).alloc a1).alloc a2).alloc a3).alloc a4).drew.heap[w.heap.size + 1]? = some a1 := by
  show (((((w.alloc a0).alloc a1).alloc a2).alloc a3).alloc a4).heap[_]? = _
  rw [blk_old _ _ (by simp <;> omega), blk_old _ _ (by simp <;> omega), blk_old _ _ (by simp <;> omega)]
  have := rblk_new (w.alloc a0) a1
  simpa using this
theorem five2 : (((((w.alloc a0).alloc a1).alloc a2).alloc a3).alloc a4).drew.heap[w.heap.size + 1 + 1]? = some a2 := by
  show (((((w.alloc a0).alloc a1).alloc a2).alloc a3).alloc a4).heap[_]? = _
  rw [blk_old _ _ (by simp <;> omega), blk_old _ _ (by simp <;> omega)]
  have := rblk_new ((w.alloc a0).alloc a1) a2
  simpa using this
theorem five3 : (((((w.alloc a0).alloc a1).alloc a2).alloc a3).alloc a4).drew.heap[w.heap.size + 1 + 1 + 1]? = some a3 := by
  show (((((w.alloc a0).alloc a1).alloc a2).alloc a3).alloc a4).heap[_]? = _
  rw [blk_old _ _ (by simp)]
  have := rblk_new (((w.alloc a0).alloc a1).alloc a2) a3
  simpa using this
theorem five4 : (((((w.alloc a0).alloc a1).alloc a2).alloc a3).alloc a4).drew.heap[w.heap.size + 1 + 1 + 1 + 1]? = some a4 := by
  show (((((w.alloc a0).alloc a1).alloc a2).alloc a3).alloc a4).heap[_]? = _
  have := rblk_new ((((w.alloc a0).alloc a1).alloc a2).alloc a3) a4
  simpa using this
theorem five_below : Below w.heap.size w (((((w.alloc a0).alloc a1).alloc a2).alloc a3).alloc a4).drew :=
  (((((((Below.refl _ _).alloc (Nat.le_refl _) _).alloc (by simp) _).alloc (by simp; omega) _).alloc (by simp; omega) _).alloc (by simp; omega) _)).drew
theorem five_zero : (((((w.alloc a0).alloc a1).alloc a2).alloc a3).alloc a4).drew.heap[w.heap.size]? = some a0 := by
  show (((((w.alloc a0).alloc a1).alloc a2).alloc a3).alloc a4).heap[_]? = _
  rw [blk_old _ _ (by simp; omega), blk_old _ _ (by simp; omega), blk_old _ _ (by simp; omega), blk_old _ _ (by simp)]
  exact rblk_new _ _
end

theorem step_pl (k j : Nat) : (if j ≤ k + 1 then (j : Int) - 1 else 0) = upd (fun v : Nat => if v ≤ k then (v : Int) - 1 else 0) (k + 1) (k : Int) j := by
  simp only [upd]
  by_cases e : j = k + 1
  · rw [if_pos e, if_pos (by omega)]; omega
  · rw [if_neg e]
    by_cases e' : j ≤ k
    · rw [if_pos e', if_pos (by omega)]
    · rw [if_neg e', if_neg (by omega)]
theorem step_od (k j : Nat) : (if j < k + 1 then j + 1 else 0) = upd (fun i : Nat => if i < k then i + 1 else 0) k (k + 1) j := by
  simp only [upd]
  by_cases e : j = k
  · rw [if_pos e, if_pos (by omega)]; omega
  · rw [if_neg e]
    by_cases e' : j < k
    · rw [if_pos e', if_pos (by omega)]
    · rw [if_neg e', if_neg (by omega)]
theorem newq_mk {w wx : World} {n qb gs gp go : Nat} {C1 C2 C3 : Array Value} (z1 : C1.size = n + 1) (z2 : C2.size = n + 1) (z3 : C3.size = n) (hn : n ≤ 1000) (c1 : ∀ j, j < n + 1 → C1[j]? = some (.int .i64 0)) (c2 : ∀ j, j < n + 1 → C2[j]? = some (.int .i64 0)) (c3 : ∀ j, j < n → C3[j]? = some (.int .i64 0))
    (hb : wx.heap[qb]? = some (.cells #[.slice (some ⟨gs, 0, none⟩) (n + 1) (n + 1), .slice (some ⟨gp, 0, none⟩) (n + 1) (n + 1), .slice (some ⟨go, 0, none⟩) n n] 88 (0, 0)))
    (h1 : wx.heap[gs]? = some (.cells C1 2 (0, 0))) (h2 : wx.heap[gp]? = some (.cells C2 3 (0, 0))) (h3 : wx.heap[go]? = some (.cells C3 3 (0, 0)))
    (hne : qb ≠ gs ∧ qb ≠ gp ∧ qb ≠ go ∧ gs ≠ gp ∧ gs ≠ go ∧ gp ≠ go) (hf : w.heap.size < qb ∧ w.heap.size < gs ∧ w.heap.size < gp ∧ w.heap.size < go) (hB : Below w.heap.size w wx)
    (hR : ∃ cs, wx.heap[w.heap.size]? = some (.cells cs 88 (0, 0)) ∧ cs.size = 3) :
    NewQ w n (.pointer (some ⟨qb, 0, none⟩)) (.slice (some ⟨gs, 0, none⟩) (n + 1) (n + 1)) (.slice (some ⟨gp, 0, none⟩) (n + 1) (n + 1)) (.slice (some ⟨go, 0, none⟩) n n) wx :=
  ⟨qb, gs, gp, go, rfl, rfl, rfl, rfl, ⟨⟨_, hb⟩, ⟨C1, h1, Nat.le_refl _, by unfold maxLen; omega, z1, c1⟩, ⟨C2, h2, Nat.le_refl _, by unfold maxLen; omega, z2, c2⟩, ⟨C3, h3, Nat.le_refl _, by unfold maxLen; omega, z3, c3⟩, hne⟩,
    by rintro k (rfl | rfl | rfl | rfl) <;> omega, hB, hR⟩

set_option maxHeartbeats 6400000 in
set_option maxRecDepth 100000 in
theorem newQueue_nat (n : Nat) (w : World) (hn : n ≤ 1000) :
    Calls Tryz.prog 40 #[.int .i64 n] w (MadeQ w n) := by
  obtain ⟨C1, z1, c1, m1⟩ := make_any 86 2 Tryz.underlying86 info_int64 (n + 1) (by omega)
  obtain ⟨C2, z2, c2, m2⟩ := make_any 76 3 Tryz.underlying76 info_int (n + 1) (by omega)
  obtain ⟨C3, z3, c3, m3⟩ := make_any 76 3 Tryz.underlying76 info_int n (by omega)
  rw [show ((n + 1 : Nat) : Int) = (n : Int) + 1 from by omega] at m1 m2
  have Z1 := Lib.hid z1
  have Z2 := Lib.hid z2
  have Z3 := Lib.hid z3
  have HC1 := Lib.hid c1
  have HC2 := Lib.hid c2
  have HC3 := Lib.hid c3
  clear z1 z2 z3 c1 c2 c3
  go_enter Tryz.func40, Tryz.ntmps40
  go_wp2_with fail
  go_cut [3, 7, 10, 12] (fun p a b c wx => Hid (NewQ w n p a b c wx))
  case first =>
    go_region
    all_goals
      go_wp2_with fail
      go_meet
      exact newq_mk Z1.out Z2.out Z3.out hn HC1.out HC2.out HC3.out (by first | exact five1 _ _ _ _ _ _ | exact five2 _ _ _ _ _ _ | exact five3 _ _ _ _ _ _ | exact five4 _ _ _ _ _ _) (by first | exact five1 _ _ _ _ _ _ | exact five2 _ _ _ _ _ _ | exact five3 _ _ _ _ _ _ | exact five4 _ _ _ _ _ _) (by first | exact five1 _ _ _ _ _ _ | exact five2 _ _ _ _ _ _ | exact five3 _ _ _ _ _ _ | exact five4 _ _ _ _ _ _) (by first | exact five1 _ _ _ _ _ _ | exact five2 _ _ _ _ _ _ | exact five3 _ _ _ _ _ _ | exact five4 _ _ _ _ _ _) (by omega) (by omega) (five_below _ _ _ _ _ _) ⟨_, five_zero _ _ _ _ _ _, rfl⟩
  case rest =>
    obtain ⟨qb, gs, gp, go, rfl, rfl, rfl, rfl, hq, hf, hB, cr, hcr, hcz⟩ := hcut.out
    have hn1 := hq.ne
    obtain ⟨ne1, ne2, ne3, ne4, ne5, ne6⟩ := hn1
    have c1 := hq.h1
    have cz := hq.pls.cell (show 0 < n + 1 by omega)
    have fz := hq.pls.free 0
    have HQ1 := Lib.hid (hq.setP (show 0 < n + 1 by omega) (-1))
    have c2 := HQ1.out.h2
    have HS : Hid (NewRel w n qb gs gp go (.int .i64 0) (wc.setCell ⟨gp, 0, none⟩ (.int .i64 (-1)))) := by
      refine ⟨0, rfl, Nat.zero_le _, HQ1.out.congr (fun j _ => rfl) (fun j _ => ?_) (fun j _ => ?_), hf, hB.setCell (p := ⟨gp, 0, none⟩) (Nat.le_of_lt (hf _ (.inr (.inr (.inl rfl))))) _, cr, ?_, hcz⟩
      · unfold upd; by_cases e : j = 0
        · subst e; simp
        · rw [if_neg (by omega), if_neg e]
      · rw [if_neg (by omega)]
      · rw [Below.heap_setCell _ _ _ _ (by have := hf gp (.inr (.inr (.inl rfl))); show w.heap.size ≠ gp; omega)]; exact hcr
    clear hq hf hB hcr hcz hcut
    go_wp2_with fail
    go_loopw [20] (fun v wr => NewRel w n qb gs gp go v wr) (fun v _ => n - (intOf v).toNat)
    case atStart => exact HS.out
    case round =>
      clear HS c1 c2 cz fz HQ1
      obtain ⟨k, rfl, hk, hq, hf, hB, cr, hcr, hcz⟩ := hrel
      have hm0 := hf qb (.inl rfl)
      have hms := hf gs (.inr (.inl rfl))
      have hmp := hf gp (.inr (.inr (.inl rfl)))
      have hmo := hf go (.inr (.inr (.inr rfl)))
      by_cases hlt : k < n
      · have c2 := hq.h2
        have co := hq.ods.cell hlt
        have fo := hq.ods.free k
        have hq1 := hq.setO hlt (k + 1)
        rw [show ((k + 1 : Nat) : Int) = (k : Int) + 1 from by omega] at hq1
        have c1 := hq1.h1
        have cp := hq1.pls.cell (show k + 1 < n + 1 by omega)
        have fp := hq1.pls.free (k + 1)
        have hq2 := hq1.setP (show k + 1 < n + 1 by omega) (k : Int)
        have HR : Hid (NewRel w n qb gs gp go (.int .i64 ((k + 1 : Nat) : Int)) ((wr.setCell ⟨go, k, none⟩ (.int .i64 ((k : Int) + 1))).setCell ⟨gp, k + 1, none⟩ (.int .i64 (k : Int)))) := by
          refine ⟨k + 1, rfl, hlt, hq2.congr (fun j _ => rfl) (fun j _ => ?_) (fun j _ => ?_), hf, (hB.setCell (p := ⟨go, k, none⟩) (Nat.le_of_lt hmo) _).setCell (p := ⟨gp, k + 1, none⟩) (Nat.le_of_lt hmp) _, cr, ?_, hcz⟩
          · exact step_pl k j
          · exact step_od k j
          · rw [Below.heap_setCell _ _ _ _ (by show w.heap.size ≠ gp; omega), Below.heap_setCell _ _ _ _ (by show w.heap.size ≠ go; omega)]; exact hcr
        rw [show ((k + 1 : Nat) : Int) = (k : Int) + 1 from by omega] at HR
        clear hq hq1 hq2 hf hB hcr hcz hm0 hms hmp hmo
        go_wp2_with fail
        go_roundw
        case rel => exact HR.out
        case measure => simp [intOf]; omega
      · have hkn : k = n := by omega
        subst hkn
        have c0 := hq.h0
        have c1 := hq.h1
        have c2 := hq.h2
        have r0 : ∃ x, wr.cell? ⟨w.heap.size, 0, none⟩ = some x := by rw [Lib.cell_of_heap hcr]; exact ⟨_, Array.getElem?_eq_getElem (by omega)⟩
        have r1 : ∃ x, wr.cell? ⟨w.heap.size, 1, none⟩ = some x := by rw [Lib.cell_of_heap hcr]; exact ⟨_, Array.getElem?_eq_getElem (by omega)⟩
        have r2 : ∃ x, wr.cell? ⟨w.heap.size, 2, none⟩ = some x := by rw [Lib.cell_of_heap hcr]; exact ⟨_, Array.getElem?_eq_getElem (by omega)⟩
        have fr := Lib.frozen_of_heap hcr
        obtain ⟨x0, r0⟩ := r0
        obtain ⟨x1, r1⟩ := r1
        obtain ⟨x2, r2⟩ := r2
        have HE : Hid (MadeQ w k (.returned (.agg #[.slice (some ⟨gs, 0, none⟩) (k + 1) (k + 1), .slice (some ⟨gp, 0, none⟩) (k + 1) (k + 1), .slice (some ⟨go, 0, none⟩) k k])) (((wr.setCell ⟨w.heap.size, 0, none⟩ (.slice (some ⟨gs, 0, none⟩) (k + 1) (k + 1))).setCell ⟨w.heap.size, 1, none⟩ (.slice (some ⟨gp, 0, none⟩) (k + 1) (k + 1))).setCell ⟨w.heap.size, 2, none⟩ (.slice (some ⟨go, 0, none⟩) k k))) := by
          have e1 : w.heap.size ≠ gs := by omega
          have e2 : w.heap.size ≠ gp := by omega
          have e3 : w.heap.size ≠ go := by omega
          refine ⟨gs, gp, go, rfl, ((hq.scs.other e1 _).other e1 _).other e1 _, (((hq.pls.other e2 _).other e2 _).other e2 _).congr fun j hj => ?_, (((hq.ods.other e3 _).other e3 _).other e3 _).congr fun j hj => ?_, ⟨ne4, ne5, ne6⟩, ⟨by omega, by omega, by omega⟩, ((hB.setCell (p := ⟨w.heap.size, 0, none⟩) (Nat.le_refl _) _).setCell (p := ⟨w.heap.size, 1, none⟩) (Nat.le_refl _) _).setCell (p := ⟨w.heap.size, 2, none⟩) (Nat.le_refl _) _⟩
          · rw [if_pos (by omega)]
          · rw [if_pos hj]
        clear hq hf hB hcr hcz
        go_wp2_with fail
        refine bodyPost_ret (v := .agg #[.slice (some ⟨gs, 0, none⟩) (k + 1) (k + 1), .slice (some ⟨gp, 0, none⟩) (k + 1) (k + 1), .slice (some ⟨go, 0, none⟩) k k]) (by simp [results, Tryz.results40, go_sem, r0, r1, r2]) rfl ?_
        exact HE.out
end Go.Proofs.YtfllhfhcmoemeaaGreat
namespace Go.Proofs.YtfllhfhcmoemeaaGreat
open Go.RowKit HeapM

/-- A Rank at block b: so many variables, their scores, who waits; F: its blocks. -/
def RankAt (w : World) (b : Nat) (F : Nat → Prop) (n : Nat) (sc : Nat → Int) (wt : Nat → Bool) : Prop :=
  ∃ (gs cs gp cp go co m : Nat) (pl : Nat → Int) (od : Nat → Nat), QAt w b gs cs gp cp go co n m sc pl od ∧ Inv n m pl od ∧ Hp sc od 0 m ∧ (∀ v, 1 ≤ v → v ≤ n → (wt v = true ↔ pl v ≠ -1)) ∧ (∀ v, 0 ≤ sc v ∧ sc v ≤ 1152921504606846976) ∧ F = Foot b gs gp go
/-- What a call leaves that may turn the Rank: its blocks are old ones of its own, or new. -/
def RankTo (F : Nat → Prop) (w w' : World) (b n : Nat) (sc : Nat → Int) (wt : Nat → Bool) : Prop :=
  ∃ F', RankAt w' b F' n sc wt ∧ (∀ k, F' k → F k ∨ w.heap.size ≤ k) ∧ Kf F w w'

theorem boxed {w w1 : World} {n : Nat} {e : Ending} (h : MadeQ w n e w1) : ∃ gs gp go, e = .returned (.agg #[.slice (some ⟨gs, 0, none⟩) (n + 1) (n + 1), .slice (some ⟨gp, 0, none⟩) (n + 1) (n + 1), .slice (some ⟨go, 0, none⟩) n n]) ∧
    ∃ F, RankAt (w1.alloc (.cells #[.slice (some ⟨gs, 0, none⟩) (n + 1) (n + 1), .slice (some ⟨gp, 0, none⟩) (n + 1) (n + 1), .slice (some ⟨go, 0, none⟩) n n] 91)) w1.heap.size F n (fun _ => 0) (fun _ => true) ∧ (∀ k, F k → w.heap.size ≤ k) ∧
      Below w.heap.size w (w1.alloc (.cells #[.slice (some ⟨gs, 0, none⟩) (n + 1) (n + 1), .slice (some ⟨gp, 0, none⟩) (n + 1) (n + 1), .slice (some ⟨go, 0, none⟩) n n] 91)) := by
  obtain ⟨gs, gp, go, rfl, r1, r2, r3, ⟨n1, n2, n3⟩, ⟨g1, g2, g3⟩, hB⟩ := h
  have l1 := r1.lt
  have l2 := r2.lt
  have l3 := r3.lt
  have hs := hB.size
  refine ⟨gs, gp, go, rfl, Foot w1.heap.size gs gp go, ⟨gs, _, gp, _, go, _, n, _, _, ⟨⟨_, rblk_new _ _⟩, r1.alloc _, r2.alloc _, r3.alloc _, by omega, by omega, by omega, n1, n2, n3⟩, new_inv n, fun c c1 c2 c3 => ?_, fun v h1 h2 => ?_, fun v => ⟨by show (0 : Int) ≤ 0; omega, by show (0 : Int) ≤ 1152921504606846976; omega⟩, rfl⟩, ?_, hB.alloc hs _⟩
  · unfold le; right; exact ⟨rfl, by show (c - 1) / 2 + 1 ≤ c + 1; omega⟩
  · constructor
    · intro _; show (v : Int) - 1 ≠ -1; omega
    · intro _; rfl
  · rintro k (rfl | rfl | rfl | rfl) <;> omega

/-- What New leaves. -/
def NewPost (n : Nat) (w : World) (e : Ending) (w' : World) : Prop := ∃ b F, e = .returned (.pointer (some ⟨b, 0, none⟩)) ∧ RankAt w' b F n (fun _ => 0) (fun _ => true) ∧ (∀ k, F k → w.heap.size ≤ k) ∧ Below w.heap.size w w'

set_option maxHeartbeats 1600000 in
set_option maxRecDepth 100000 in
theorem new_pos (n : Nat) (w : World) (h1 : 1 ≤ n) (hn : n ≤ 60) : Calls Tryz.prog 21 #[.int .i64 (n : Int)] w (NewPost n w) := by
  have HN := Lib.hid (newQueue_nat n w (by omega))
  have t1 : 1 ≤ (n : Int) := by omega
  go_enter Tryz.func21, Tryz.ntmps21
  go_wp2_with fail
  refine HN.out.mono ?_
  intro e w1 hm
  obtain ⟨gs, gp, go, rfl, F, hR, hF, hB⟩ := boxed hm
  have HE := Lib.hid (And.intro hR (And.intro hF hB))
  clear hm hR hF hB HN
  go_wp2_with fail
  go_ret
  exact ⟨_, F, rfl, HE.out⟩
set_option maxHeartbeats 1600000 in
set_option maxRecDepth 100000 in
theorem new_zero (v : Int) (w : World) (hv : v ≤ 0) : Calls Tryz.prog 21 #[.int .i64 v] w (NewPost 0 w) := by
  have HN := Lib.hid (newQueue_nat 0 w (by omega))
  rw [show ((0 : Nat) : Int) = 0 from rfl] at HN
  by_cases h0 : v = 0
  · subst h0
    go_enter Tryz.func21, Tryz.ntmps21
    go_wp2_with fail
    refine HN.out.mono ?_
    intro e w1 hm
    obtain ⟨gs, gp, go, rfl, F, hR, hF, hB⟩ := boxed hm
    have HE := Lib.hid (And.intro hR (And.intro hF hB))
    clear hm hR hF hB HN
    go_wp2_with fail
    go_ret
    exact ⟨_, F, rfl, HE.out⟩
  · have h1 : v < 0 := by omega
    clear h0 hv
    go_enter Tryz.func21, Tryz.ntmps21
    go_wp2_with fail
    refine HN.out.mono ?_
    intro e w1 hm
    obtain ⟨gs, gp, go, rfl, F, hR, hF, hB⟩ := boxed hm
    have HE := Lib.hid (And.intro hR (And.intro hF hB))
    clear hm hR hF hB HN
    go_wp2_with fail
    go_ret
    exact ⟨_, F, rfl, HE.out⟩
theorem rknew_any (v : Int) (w : World) (hv : v ≤ 60) : Calls Tryz.prog 21 #[.int .i64 v] w (NewPost v.toNat w) := by
  by_cases h : v ≤ 0
  · rw [show v.toNat = 0 from by omega]; exact new_zero v w h
  · obtain ⟨n, rfl⟩ := Int.eq_ofNat_of_zero_le (show 0 ≤ v by omega)
    exact new_pos n w (by omega) (by omega)
end Go.Proofs.YtfllhfhcmoemeaaGreat
namespace Go.Proofs.YtfllhfhcmoemeaaGreat
open Go.RowKit HeapM

section
variable {b gs cs gp cp go co n m : Nat} {sc pl : Nat → Int} {od : Nat → Nat}

/-- A score that is by more. -/
def moreS (x y : Int) : Int := min (x + y) 1152921504606846976
theorem moreS_bd {x y : Int} (h0 : 0 ≤ x) (hy : 0 ≤ y) (h1 : x ≤ 1152921504606846976) : x ≤ moreS x y ∧ moreS x y ≤ 1152921504606846976 := by unfold moreS; omega

theorem like_of {wt : Nat → Bool} {pl' : Nat → Int} (h : ∀ v, 1 ≤ v → v ≤ n → (wt v = true ↔ pl v ≠ -1)) (hs : SameW n pl pl') : ∀ v, 1 ≤ v → v ≤ n → (wt v = true ↔ pl' v ≠ -1) := fun v h1 h2 => by
  rw [h v h1 h2, Ne, Ne, hs v h1 h2]

set_option maxHeartbeats 6400000 in
set_option maxRecDepth 100000 in
theorem bump_wait (w : World) (h : QAt w b gs cs gp cp go co n m sc pl od) (hI : Inv n m pl od) (hH : Hp sc od 0 m) (hn : n ≤ 1000) (v : Nat) (y : Int) (h1 : 1 ≤ v) (h2 : v ≤ n) (hy0 : 0 ≤ y) (hy1 : y ≤ 1152921504606846976) (hx0 : 0 ≤ sc v) (hx1 : sc v ≤ 1152921504606846976) (hp : pl v ≠ -1) :
    Calls Tryz.prog 111 #[.pointer (some ⟨b, 0, none⟩), .int .i64 v, .int .i64 y] w fun e w' => e = .returned (.int .i64 0) ∧ UpPost b gs cs gp cp go co n m (upd sc v (moreS (sc v) y)) pl w (.returned (.tuple #[])) w' := by
  have HB := Lib.hid (moreS_bd hx0 hy0 hx1)
  have c0 := h.h0
  have cv := h.scs.cell (show v < n + 1 by omega)
  have fv := h.scs.free v
  have HH := Lib.hid (has_nat w h hn (v : Int))
  rw [(inB_iff n (v : Int)).2 ⟨by omega, by omega⟩] at HH
  have hq1 := h.setS (show v < n + 1 by omega) (moreS (sc v) y)
  have HQ1 : Hid (QAt (w.setCell ⟨gs, v, none⟩ (.int .i64 (moreS (sc v) y))).drew b gs cs gp cp go co n m (upd sc v (moreS (sc v) y)) pl od) := hq1.drewN 1
  have HK1 : Hid (Kf (Foot b gs gp go) w (w.setCell ⟨gs, v, none⟩ (.int .i64 (moreS (sc v) y))).drew) := ((Kf.refl _ _).set (.inl (.inr (.inl rfl))) _).drew
  obtain ⟨i, him, hpi, hoi⟩ := (hI.bwd v h1 h2).resolve_left hp
  have hub := Up.bump hI hH him (x := moreS (sc v) y) (by rw [hoi]; exact HB.out.1)
  rw [hoi] at hub
  have HI := Lib.hid hI
  have HU := Lib.hid hub
  have HP := Lib.hid hpi
  have ta : (y < 0) = False := by simp; omega
  have tb : decide (1152921504606846976 < y) = false := decide_eq_false (by omega)
  clear h hI hH hq1 hub hoi hpi hp
  generalize hs1 : upd sc v (moreS (sc v) y) = sc1 at *
  generalize hxv : sc v = x at *
  by_cases hle : x + y ≤ 1152921504606846976
  · have hm : moreS x y = x + y := by unfold moreS; omega
    rw [hm] at HQ1 HK1
    clear hm
    go_enter Tryz.func111, Tryz.ntmps111
    go_wp2_with fail
    refine HH.out.mono ?_
    rintro e w' ⟨rfl, rfl⟩
    go_wp2_with fail
    go_region
    generalize (w.setCell ⟨gs, v, none⟩ (.int .i64 (x + y))).drew = W1 at HQ1 HK1 ⊢
    clear c0 cv fv HH hle hx0 hx1
    have HW := Lib.hid (waits_nat W1 HQ1.out hn (v : Int))
    rw [(inB_iff n (v : Int)).2 ⟨by omega, by omega⟩, show ((v : Int).toNat) = v from by omega, HP.out, show (((i : Nat) : Int) != -1) = true from by rw [bne_iff_ne]; omega] at HW
    go_wp2_with fail
    refine HW.out.mono ?_
    rintro e w' ⟨rfl, rfl⟩
    clear HW
    have c1 := HQ1.out.h1
    have cv := HQ1.out.pls.cell (show v < n + 1 by omega)
    rw [HP.out] at cv
    have HF : Hid (∀ q, Calls Tryz.prog 131 #[.iface 106 (.pointer (some ⟨b, 0, none⟩)), .int .i64 i] (W1.drewN q) (UpPost b gs cs gp cp go co n m sc1 pl w)) := fun q => by
      refine (fix_any (W1.drewN q) (HQ1.out.drewN q) HI.out hn (i : Int) (by omega) (by omega) HU.out.1 HU.out.2).mono ?_
      rintro e w2 ⟨pl2, od2, he, hq2, hk2, r⟩
      exact ⟨pl2, od2, he, hq2, (HK1.out.drewN q).trans hk2 (fun _ h => .inl h), r⟩
    go_wp2_with fail
    go_region_with ((go_at_call 131; refine (HF.out 1).mono ?_; rintro e w2 ⟨pl2, od2, rfl, r⟩; have HE := Lib.hid r; clear r))
    go_wp2_with fail
    go_ret
    exact ⟨rfl, pl2, od2, rfl, HE.out⟩
  · have hm : moreS x y = 1152921504606846976 := by unfold moreS; omega
    rw [hm] at HQ1 HK1
    clear hm
    go_enter Tryz.func111, Tryz.ntmps111
    go_wp2_with fail
    refine HH.out.mono ?_
    rintro e w' ⟨rfl, rfl⟩
    go_wp2_with fail
    go_region
    generalize (w.setCell ⟨gs, v, none⟩ (.int .i64 (1152921504606846976))).drew = W1 at HQ1 HK1 ⊢
    clear c0 cv fv HH hle hx0 hx1
    have HW := Lib.hid (waits_nat W1 HQ1.out hn (v : Int))
    rw [(inB_iff n (v : Int)).2 ⟨by omega, by omega⟩, show ((v : Int).toNat) = v from by omega, HP.out, show (((i : Nat) : Int) != -1) = true from by rw [bne_iff_ne]; omega] at HW
    go_wp2_with fail
    refine HW.out.mono ?_
    rintro e w' ⟨rfl, rfl⟩
    clear HW
    have c1 := HQ1.out.h1
    have cv := HQ1.out.pls.cell (show v < n + 1 by omega)
    rw [HP.out] at cv
    have HF : Hid (∀ q, Calls Tryz.prog 131 #[.iface 106 (.pointer (some ⟨b, 0, none⟩)), .int .i64 i] (W1.drewN q) (UpPost b gs cs gp cp go co n m sc1 pl w)) := fun q => by
      refine (fix_any (W1.drewN q) (HQ1.out.drewN q) HI.out hn (i : Int) (by omega) (by omega) HU.out.1 HU.out.2).mono ?_
      rintro e w2 ⟨pl2, od2, he, hq2, hk2, r⟩
      exact ⟨pl2, od2, he, hq2, (HK1.out.drewN q).trans hk2 (fun _ h => .inl h), r⟩
    go_wp2_with fail
    go_region_with ((go_at_call 131; refine (HF.out 1).mono ?_; rintro e w2 ⟨pl2, od2, rfl, r⟩; have HE := Lib.hid r; clear r))
    go_wp2_with fail
    go_ret
    exact ⟨rfl, pl2, od2, rfl, HE.out⟩

set_option maxHeartbeats 6400000 in
set_option maxRecDepth 100000 in
theorem bump_away (w : World) (h : QAt w b gs cs gp cp go co n m sc pl od) (hI : Inv n m pl od) (hH : Hp sc od 0 m) (hn : n ≤ 1000) (v : Nat) (y : Int) (h1 : 1 ≤ v) (h2 : v ≤ n) (hy0 : 0 ≤ y) (hy1 : y ≤ 1152921504606846976) (hx0 : 0 ≤ sc v) (hx1 : sc v ≤ 1152921504606846976) (hp : pl v = -1) :
    Calls Tryz.prog 111 #[.pointer (some ⟨b, 0, none⟩), .int .i64 v, .int .i64 y] w fun e w' => e = .returned (.int .i64 0) ∧ UpPost b gs cs gp cp go co n m (upd sc v (moreS (sc v) y)) pl w (.returned (.tuple #[])) w' := by
  have HB := Lib.hid (moreS_bd hx0 hy0 hx1)
  have c0 := h.h0
  have cv := h.scs.cell (show v < n + 1 by omega)
  have fv := h.scs.free v
  have HH := Lib.hid (has_nat w h hn (v : Int))
  rw [(inB_iff n (v : Int)).2 ⟨by omega, by omega⟩] at HH
  have hq1 := h.setS (show v < n + 1 by omega) (moreS (sc v) y)
  have HQ1 : Hid (QAt (w.setCell ⟨gs, v, none⟩ (.int .i64 (moreS (sc v) y))).drew b gs cs gp cp go co n m (upd sc v (moreS (sc v) y)) pl od) := hq1.drewN 1
  have HK1 : Hid (Kf (Foot b gs gp go) w (w.setCell ⟨gs, v, none⟩ (.int .i64 (moreS (sc v) y))).drew) := ((Kf.refl _ _).set (.inl (.inr (.inl rfl))) _).drew
  have HHp : Hid (Hp (upd sc v (moreS (sc v) y)) od 0 m) := fun c c1 c2 c3 => by
    have a := hI.fwd c c2
    have a' := hI.fwd ((c - 1) / 2) (by omega)
    have := hH c c1 c2 c3
    unfold le at this ⊢
    rw [upd_ne _ _ (fun e => by rw [e] at a; omega), upd_ne _ _ (fun e => by rw [e] at a'; omega)]
    exact this
  have HI := Lib.hid hI
  have HP := Lib.hid hp
  have ta : (y < 0) = False := by simp; omega
  have tb : decide (1152921504606846976 < y) = false := decide_eq_false (by omega)
  clear h hI hH hq1 hp
  generalize hs1 : upd sc v (moreS (sc v) y) = sc1 at *
  generalize hxv : sc v = x at *
  by_cases hle : x + y ≤ 1152921504606846976
  · have hm : moreS x y = x + y := by unfold moreS; omega
    rw [hm] at HQ1 HK1
    clear hm
    go_enter Tryz.func111, Tryz.ntmps111
    go_wp2_with fail
    refine HH.out.mono ?_
    rintro e w' ⟨rfl, rfl⟩
    go_wp2_with fail
    go_region
    generalize (w.setCell ⟨gs, v, none⟩ (.int .i64 (x + y))).drew = W1 at HQ1 HK1 ⊢
    clear c0 cv fv HH hle hx0 hx1
    have HW := Lib.hid (waits_nat W1 HQ1.out hn (v : Int))
    rw [(inB_iff n (v : Int)).2 ⟨by omega, by omega⟩, show ((v : Int).toNat) = v from by omega, HP.out, show ((-1 : Int) != -1) = false from rfl] at HW
    go_wp2_with fail
    refine HW.out.mono ?_
    rintro e w' ⟨rfl, rfl⟩
    clear HW
    go_wp2_with fail
    go_ret
    exact ⟨rfl, pl, od, rfl, HQ1.out, HK1.out, HI.out, SameW.refl _ _, HHp.out⟩
  · have hm : moreS x y = 1152921504606846976 := by unfold moreS; omega
    rw [hm] at HQ1 HK1
    clear hm
    go_enter Tryz.func111, Tryz.ntmps111
    go_wp2_with fail
    refine HH.out.mono ?_
    rintro e w' ⟨rfl, rfl⟩
    go_wp2_with fail
    go_region
    generalize (w.setCell ⟨gs, v, none⟩ (.int .i64 (1152921504606846976))).drew = W1 at HQ1 HK1 ⊢
    clear c0 cv fv HH hle hx0 hx1
    have HW := Lib.hid (waits_nat W1 HQ1.out hn (v : Int))
    rw [(inB_iff n (v : Int)).2 ⟨by omega, by omega⟩, show ((v : Int).toNat) = v from by omega, HP.out, show ((-1 : Int) != -1) = false from rfl] at HW
    go_wp2_with fail
    refine HW.out.mono ?_
    rintro e w' ⟨rfl, rfl⟩
    clear HW
    go_wp2_with fail
    go_ret
    exact ⟨rfl, pl, od, rfl, HQ1.out, HK1.out, HI.out, SameW.refl _ _, HHp.out⟩

set_option maxHeartbeats 3200000 in
set_option maxRecDepth 100000 in
theorem bump_bad (w : World) (h : QAt w b gs cs gp cp go co n m sc pl od) (hn : n ≤ 1000) (v y : Int) (hb : ¬ (inB n v = true ∧ 0 ≤ y ∧ y ≤ 1152921504606846976)) :
    Calls Tryz.prog 111 #[.pointer (some ⟨b, 0, none⟩), .int .i64 v, .int .i64 y] w fun e w' => e = .returned (.int .i64 31) ∧ w = w' := by
  have HH := Lib.hid (has_nat w h hn v)
  clear h
  rcases hv : inB n v
  · rw [hv] at HH
    clear hb hv
    go_enter Tryz.func111, Tryz.ntmps111
    go_wp2_with fail
    refine HH.out.mono ?_
    rintro e w' ⟨rfl, rfl⟩
    go_wp2_with fail
    go_ret
    exact ⟨rfl, rfl⟩
  · rw [hv] at HH hb
    by_cases hy : y < 0
    · clear hb hv
      go_enter Tryz.func111, Tryz.ntmps111
      go_wp2_with fail
      refine HH.out.mono ?_
      rintro e w' ⟨rfl, rfl⟩
      go_wp2_with fail
      go_ret
      exact ⟨rfl, rfl⟩
    · have ta : (y < 0) = False := by simp; omega
      have tb : decide (1152921504606846976 < y) = true := decide_eq_true (by simp at hb; omega)
      clear hb hv hy
      go_enter Tryz.func111, Tryz.ntmps111
      go_wp2_with fail
      refine HH.out.mono ?_
      rintro e w' ⟨rfl, rfl⟩
      go_wp2_with fail
      go_ret
      exact ⟨rfl, rfl⟩
end

/-- Bump at what there is. -/
theorem bump_yes {b n : Nat} {F : Nat → Prop} {sc : Nat → Int} {wt : Nat → Bool} (w : World) (h : RankAt w b F n sc wt) (hn : n ≤ 1000) (v : Nat) (y : Int) (h1 : 1 ≤ v) (h2 : v ≤ n) (hy0 : 0 ≤ y) (hy1 : y ≤ 1152921504606846976) :
    Calls Tryz.prog 111 #[.pointer (some ⟨b, 0, none⟩), .int .i64 v, .int .i64 y] w fun e w' => e = .returned (.int .i64 0) ∧ RankTo F w w' b n (upd sc v (moreS (sc v) y)) wt := by
  obtain ⟨gs, cs, gp, cp, go, co, m, pl, od, hQ, hI, hH, hW, hS, rfl⟩ := h
  have key : ∀ (e : Ending) (w' : World), (e = .returned (.int .i64 0) ∧ UpPost b gs cs gp cp go co n m (upd sc v (moreS (sc v) y)) pl w (.returned (.tuple #[])) w') → (e = .returned (.int .i64 0) ∧ RankTo (Foot b gs gp go) w w' b n (upd sc v (moreS (sc v) y)) wt) := by
    rintro e w' ⟨rfl, pl2, od2, _, hq, hk, hi, hs, hh⟩
    refine ⟨rfl, Foot b gs gp go, ⟨gs, cs, gp, cp, go, co, m, pl2, od2, hq, hi, hh, like_of hW hs, fun u => ?_, rfl⟩, fun k hk => .inl hk, hk⟩
    have a := hS v
    have b := moreS_bd a.1 hy0 a.2
    unfold upd
    split
    · omega
    · exact hS u
  by_cases hp : pl v = -1
  · exact (bump_away w hQ hI hH hn v y h1 h2 hy0 hy1 (hS v).1 (hS v).2 hp).mono key
  · exact (bump_wait w hQ hI hH hn v y h1 h2 hy0 hy1 (hS v).1 (hS v).2 hp).mono key
end Go.Proofs.YtfllhfhcmoemeaaGreat
namespace Go.Proofs.YtfllhfhcmoemeaaGreat
open Go.RowKit HeapM

section
variable {b gs cs gp cp go co n m : Nat} {sc pl : Nat → Int} {od : Nat → Nat}

/-- The loop's relation: the first k are halved. -/
def HalfRel (b gs cs gp cp go co n m : Nat) (sc pl : Nat → Int) (od : Nat → Nat) (w : World) (v : Value) (wr : World) : Prop :=
  ∃ k : Nat, v = .int .i64 (k : Int) ∧ k ≤ n + 1 ∧ QAt wr b gs cs gp cp go co n m (fun v => if v < k then sc v / 2 else sc v) pl od ∧ Kf (Foot b gs gp go) w wr
theorem step_half (sc : Nat → Int) (k j : Nat) : (if j < k + 1 then sc j / 2 else sc j) = upd (fun v : Nat => if v < k then sc v / 2 else sc v) k (sc k / 2) j := by
  simp only [upd]
  by_cases e : j = k
  · rw [if_pos e, if_pos (by omega), e]
  · rw [if_neg e]
    by_cases e' : j < k
    · rw [if_pos e', if_pos (by omega)]
    · rw [if_neg e', if_neg (by omega)]

set_option maxHeartbeats 6400000 in
set_option maxRecDepth 100000 in
theorem halve_nat (w : World) (h : QAt w b gs cs gp cp go co n m sc pl od) (hI : Inv n m pl od) (hn : n ≤ 1000) (hS : ∀ v, 0 ≤ sc v ∧ sc v ≤ 1152921504606846976) :
    Calls Tryz.prog 113 #[.pointer (some ⟨b, 0, none⟩)] w (UpPost b gs cs gp cp go co n m (fun v => sc v / 2) pl w) := by
  have HS : Hid (HalfRel b gs cs gp cp go co n m sc pl od w (.int .i64 0) w) := ⟨0, rfl, by omega, h.congr (fun j _ => if_neg (by omega)) (fun _ _ => rfl) (fun _ _ => rfl), Kf.refl _ _⟩
  have HI := Lib.hid hI
  have HSC := Lib.hid hS
  have c0 := h.h0
  clear h hI hS
  go_enter Tryz.func113, Tryz.ntmps113
  go_wp2_with fail
  go_loopw [9] (fun v wr => HalfRel b gs cs gp cp go co n m sc pl od w v wr) (fun v _ => n + 1 - (intOf v).toNat)
  case atStart => exact HS.out
  case round =>
    clear HS c0
    obtain ⟨k, rfl, hk, hq, hK⟩ := hrel
    by_cases hlt : k < n + 1
    · have c0 := hq.h0
      have cv := hq.scs.cell hlt
      have fv := hq.scs.free k
      rw [if_neg (by omega)] at cv
      have hx0 := (HSC.out k).1
      have hx1 := (HSC.out k).2
      have hq1 := hq.setS hlt (sc k / 2)
      have HR : Hid (HalfRel b gs cs gp cp go co n m sc pl od w (.int .i64 ((k + 1 : Nat) : Int)) (wr.setCell ⟨gs, k, none⟩ (.int .i64 (sc k / 2)))) :=
        ⟨k + 1, rfl, by omega, hq1.congr (fun j _ => step_half sc k j) (fun _ _ => rfl) (fun _ _ => rfl), hK.set (.inl (.inr (.inl rfl))) _⟩
      rw [show ((k + 1 : Nat) : Int) = (k : Int) + 1 from by omega] at HR
      clear hq hq1 hK
      generalize sc k = x at *
      go_wp2_with fail
      go_roundw
      case rel => exact HR.out
      case measure => simp [intOf]; omega
    · have hkn : k = n + 1 := by omega
      subst hkn
      have HIN := Lib.hid (init_any wr (hq.congr (sc' := fun v => sc v / 2) (fun j hj => by rw [if_pos hj]) (fun _ _ => rfl) (fun _ _ => rfl)) HI.out hn)
      have HK := Lib.hid hK
      clear hq hK
      go_wp2_with fail
      refine HIN.out.mono ?_
      rintro e w2 ⟨pl2, od2, rfl, hq2, hk2, r⟩
      have HE : Hid (UpPost b gs cs gp cp go co n m (fun v => sc v / 2) pl w (.returned (.tuple #[])) w2) := ⟨pl2, od2, rfl, hq2, HK.out.trans hk2 (fun _ h => .inl h), r⟩
      clear hq2 hk2 r HIN
      go_wp2_with fail
      go_end0
      exact HE.out

set_option maxHeartbeats 6400000 in
set_option maxRecDepth 100000 in
theorem push_new (w : World) (h : QAt w b gs cs gp cp go co n m sc pl od) (hI : Inv n m pl od) (hH : Hp sc od 0 m) (hn : n ≤ 1000) (v : Nat) (h1 : 1 ≤ v) (h2 : v ≤ n) (hp : pl v = -1) :
    Calls Tryz.prog 57 #[.pointer (some ⟨b, 0, none⟩), .int .i64 v] w fun e w' => e = .returned (.int .i64 0) ∧ PushedPost b gs cs gp cp go n m v sc pl w (.returned (.tuple #[])) w' := by
  have HH := Lib.hid (has_nat w h hn (v : Int))
  have HW := Lib.hid (waits_nat w h hn (v : Int))
  have HP := Lib.hid (pushed_any w h hI hn hH h1 h2 hp)
  rw [(inB_iff n (v : Int)).2 ⟨by omega, by omega⟩] at HH HW
  rw [show ((v : Int).toNat) = v from by omega, hp, show ((-1 : Int) != -1) = false from rfl] at HW
  clear h hI hH hp
  go_enter Tryz.func57, Tryz.ntmps57
  go_wp2_with fail
  refine HH.out.mono ?_
  rintro e w' ⟨rfl, rfl⟩
  go_wp2_with fail
  refine HW.out.mono ?_
  rintro e w' ⟨rfl, rfl⟩
  go_wp2_with fail
  refine HP.out.mono ?_
  rintro e w2 ⟨g2, c2, pl2, od2, rfl, r⟩
  have HE : Hid (PushedPost b gs cs gp cp go n m v sc pl w (.returned (.tuple #[])) w2) := ⟨g2, c2, pl2, od2, rfl, r⟩
  clear r HP HW HH
  go_wp2_with fail
  go_ret
  exact ⟨rfl, HE.out⟩
set_option maxHeartbeats 3200000 in
set_option maxRecDepth 100000 in
theorem push_old (w : World) (h : QAt w b gs cs gp cp go co n m sc pl od) (hn : n ≤ 1000) (v : Nat) (h1 : 1 ≤ v) (h2 : v ≤ n) (hp : pl v ≠ -1) :
    Calls Tryz.prog 57 #[.pointer (some ⟨b, 0, none⟩), .int .i64 v] w fun e w' => e = .returned (.int .i64 0) ∧ w = w' := by
  have HH := Lib.hid (has_nat w h hn (v : Int))
  have HW := Lib.hid (waits_nat w h hn (v : Int))
  rw [(inB_iff n (v : Int)).2 ⟨by omega, by omega⟩] at HH HW
  rw [show ((v : Int).toNat) = v from by omega, show (pl v != -1) = true from by rw [bne_iff_ne]; exact hp] at HW
  clear h hp
  go_enter Tryz.func57, Tryz.ntmps57
  go_wp2_with fail
  refine HH.out.mono ?_
  rintro e w' ⟨rfl, rfl⟩
  go_wp2_with fail
  refine HW.out.mono ?_
  rintro e w' ⟨rfl, rfl⟩
  go_wp2_with fail
  go_ret
  exact ⟨rfl, rfl⟩
set_option maxHeartbeats 3200000 in
set_option maxRecDepth 100000 in
theorem push_bad (w : World) (h : QAt w b gs cs gp cp go co n m sc pl od) (hn : n ≤ 1000) (v : Int) (hb : inB n v = false) :
    Calls Tryz.prog 57 #[.pointer (some ⟨b, 0, none⟩), .int .i64 v] w fun e w' => e = .returned (.int .i64 31) ∧ w = w' := by
  have HH := Lib.hid (has_nat w h hn v)
  rw [hb] at HH
  clear h hb
  go_enter Tryz.func57, Tryz.ntmps57
  go_wp2_with fail
  refine HH.out.mono ?_
  rintro e w' ⟨rfl, rfl⟩
  go_wp2_with fail
  go_ret
  exact ⟨rfl, rfl⟩

set_option maxHeartbeats 3200000 in
set_option maxRecDepth 100000 in
theorem pop_none (w : World) (h : QAt w b gs cs gp cp go co n 0 sc pl od) :
    Calls Tryz.prog 83 #[.pointer (some ⟨b, 0, none⟩)] w fun e w' => e = .returned (.tuple #[.int .i64 0, .bool false]) ∧ w = w' := by
  have HL := Lib.hid (len_nat w h)
  rw [show ((0 : Nat) : Int) = 0 from rfl] at HL
  clear h
  go_enter Tryz.func83, Tryz.ntmps83
  go_wp2_with fail
  refine HL.out.mono ?_
  rintro e w' ⟨rfl, rfl⟩
  go_wp2_with fail
  go_ret2
  exact ⟨rfl, rfl⟩
set_option maxHeartbeats 3200000 in
set_option maxRecDepth 100000 in
theorem pop_some (w : World) (h : QAt w b gs cs gp cp go co n (m + 1) sc pl od) (hI : Inv n (m + 1) pl od) (hH : Hp sc od 0 (m + 1)) (hn : n ≤ 1000) :
    Calls Tryz.prog 83 #[.pointer (some ⟨b, 0, none⟩)] w fun e w' => e = .returned (.tuple #[.int .i64 (od 0 : Int), .bool true]) ∧ TookPost b gs cs gp cp go co n m sc pl od w (.returned (.iface 3 (.int .i64 (od 0 : Int)))) w' := by
  have HL := Lib.hid (len_nat w h)
  have HT := Lib.hid (take_any w h hI hn hH)
  have ta := int_of_any
  have hz : (((m + 1 : Nat) : Int) == 0) = false := by rw [beq_eq_false_iff_ne]; omega
  clear h hI hH
  generalize ((m + 1 : Nat) : Int) = mm at *
  go_enter Tryz.func83, Tryz.ntmps83
  go_wp2_with fail
  refine HL.out.mono ?_
  rintro e w' ⟨rfl, rfl⟩
  go_wp2_with fail
  refine HT.out.mono ?_
  rintro e w2 ⟨pl2, od2, rfl, r⟩
  have HE : Hid (TookPost b gs cs gp cp go co n m sc pl od w (.returned (.iface 3 (.int .i64 (od 0 : Int)))) w2) := ⟨pl2, od2, rfl, r⟩
  clear r HT HL
  go_wp2_with fail
  go_ret2
  exact ⟨rfl, HE.out⟩
end
end Go.Proofs.YtfllhfhcmoemeaaGreat
namespace Go.Proofs.YtfllhfhcmoemeaaGreat
open Go.RowKit HeapM

section
variable {b gs cs gp cp go co n m : Nat} {sc pl : Nat → Int} {od : Nat → Nat}

theorem Q3.pushS {w w' : World} {ns np : Nat} {o : Obj} {g' c' : Nat} {x : Int} (h : Q3 w b gs cs gp cp go co ns np m sc pl od) (hr : Row 2 w' g' (ns + 1) c' (upd sc ns x)) (hg' : g' = gs ∨ w.heap.size + 1 ≤ g')
    (hg : (w.alloc o).grownBy w' (some gs)) : Q3 (w'.setCell ⟨b, 0, none⟩ (.slice (some ⟨g', 0, none⟩) (ns + 1) c')) b g' c' gp cp go co (ns + 1) np m (upd sc ns x) pl od := by
  have hf := h.foot
  have hsz : (w.alloc o).heap.size = w.heap.size + 1 := by simp
  have old : ∀ k, k < w.heap.size → k ≠ gs → w'.heap[k]? = w.heap[k]? := fun k hk hkg => (hg.block k (by omega) (fun e => hkg (Option.some.inj e))).trans (Below.heap_alloc _ _ _ hk)
  obtain ⟨T, hh⟩ := h.head
  obtain ⟨n1, n2, n3, n4, n5, n6⟩ := h.ne
  have fb := hf b (.inl rfl)
  have fp := hf gp (.inr (.inr (.inl rfl)))
  have fo := hf go (.inr (.inr (.inr rfl)))
  have hb' : w'.heap[b]? = w.heap[b]? := old b fb n1
  have hne : b ≠ g' ∧ g' ≠ gp ∧ g' ≠ go := by rcases hg' with e | e; (subst e; exact ⟨n1, n4, n5⟩); (exact ⟨by omega, by omega, by omega⟩)
  exact ⟨⟨T, by rw [Lib.heap_setCell_same (hb'.trans hh)]; rfl⟩, hr.other (fun e => hne.1 e) _, (h.pls.same (old gp fp (fun e => n4 e.symm))).other (fun e => n2 e) _, (h.ods.same (old go fo (fun e => n5 e.symm))).other (fun e => n3 e) _, hne.1, n2, n3, hne.2.1, hne.2.2, n6⟩
theorem Q3.pushP {w w' : World} {ns np : Nat} {o : Obj} {g' c' : Nat} {x : Int} (h : Q3 w b gs cs gp cp go co ns np m sc pl od) (hr : Row 3 w' g' (np + 1) c' (upd pl np x)) (hg' : g' = gp ∨ w.heap.size + 1 ≤ g')
    (hg : (w.alloc o).grownBy w' (some gp)) : Q3 (w'.setCell ⟨b, 1, none⟩ (.slice (some ⟨g', 0, none⟩) (np + 1) c')) b gs cs g' c' go co ns (np + 1) m sc (upd pl np x) od := by
  have hf := h.foot
  have hsz : (w.alloc o).heap.size = w.heap.size + 1 := by simp
  have old : ∀ k, k < w.heap.size → k ≠ gp → w'.heap[k]? = w.heap[k]? := fun k hk hkg => (hg.block k (by omega) (fun e => hkg (Option.some.inj e))).trans (Below.heap_alloc _ _ _ hk)
  obtain ⟨T, hh⟩ := h.head
  obtain ⟨n1, n2, n3, n4, n5, n6⟩ := h.ne
  have fb := hf b (.inl rfl)
  have fs := hf gs (.inr (.inl rfl))
  have fo := hf go (.inr (.inr (.inr rfl)))
  have hb' : w'.heap[b]? = w.heap[b]? := old b fb n2
  have hne : b ≠ g' ∧ gs ≠ g' ∧ g' ≠ go := by rcases hg' with e | e; (subst e; exact ⟨n2, n4, n6⟩); (exact ⟨by omega, by omega, by omega⟩)
  exact ⟨⟨T, by rw [Lib.heap_setCell_same (hb'.trans hh)]; rfl⟩, (h.scs.same (old gs fs n4)).other (fun e => n1 e) _, hr.other (fun e => hne.1 e) _, (h.ods.same (old go fo (fun e => n6 e.symm))).other (fun e => n3 e) _, n1, hne.1, n3, hne.2.1, n5, hne.2.2⟩

/-- What add leaves. -/
def AddPost (b gs gp go co n m : Nat) (sc pl : Nat → Int) (od : Nat → Nat) (w : World) (e : Ending) (w' : World) : Prop :=
  ∃ g1 c1 g2 c2, e = .returned (.int .i64 ((n : Int) + 1)) ∧ QAt w' b g1 c1 g2 c2 go co (n + 1) m (upd sc (n + 1) 0) (upd pl (n + 1) (-1)) od ∧ (g1 = gs ∨ w.heap.size ≤ g1) ∧ (g2 = gp ∨ w.heap.size ≤ g2) ∧ Kf (Foot b gs gp go) w w'

set_option maxHeartbeats 6400000 in
set_option maxRecDepth 100000 in
theorem radd_any (w : World) (h : QAt w b gs cs gp cp go co n m sc pl od) (hn : n + 1 ≤ 1000) :
    Calls Tryz.prog 61 #[.pointer (some ⟨b, 0, none⟩)] w (AddPost b gs gp go co n m sc pl od w) := by
  have c0 := h.h0
  have hb := h.lt
  have HQ := Lib.hid h
  have HO : Hid (Row 2 (w.alloc (.cells #[.int .i64 0] 2)) gs (n + 1) cs sc) := h.scs.alloc _
  clear h
  go_enter Tryz.func61, Tryz.ntmps61
  go_wp2_with (at_builtin; refine wpList_append_row _ rfl _ _ 86 2 rfl Tryz.underlying86 info_int64 gs (n + 1) cs _ rfl HO.out (by omega) w.heap.size 1 0 rfl (by simp) ?_)
  intro g1 k1 w1 hr hg' hgr
  have hgq : g1 = gs ∨ w.heap.size + 1 ≤ g1 := by simpa using hg'
  have HQ1 := Lib.hid (HQ.out.pushS hr hgq hgr)
  have HG1 : Hid (g1 = gs ∨ w.heap.size ≤ g1) := by
    rcases hgq with e | e
    · exact .inl e
    · exact .inr (by omega)
  have HK1 : Hid (Kf (Foot b gs gp go) w (w1.setCell ⟨b, 0, none⟩ (.slice (some ⟨g1, 0, none⟩) (n + 1 + 1) k1))) :=
    (((Kf.refl _ _).alloc _).grown hgr (fun k hk => .inl (by injection hk with e; subst e; exact .inr (.inl rfl)))).set (.inl (.inl rfl)) _
  have hbn : b ≠ gs := HQ.out.ne.1
  have hbk : w1.heap[b]? = w.heap[b]? := (hgr.block b (by simp; omega) (fun e => hbn (Option.some.inj e))).trans (Below.heap_alloc _ _ _ hb)
  have d0 : w1.cell? ⟨b, 0, none⟩ = some (.slice (some ⟨gs, 0, none⟩) (n + 1) cs) := by rw [World.cell?_of_block (w := w) (a := ⟨b, 0, none⟩) hbk]; exact c0
  have f0 : w1.frozen? ⟨b, 0, none⟩ = false := by rw [World.frozen?_of_block (w := w) (a := ⟨b, 0, none⟩) hbk]; exact HQ.out.free 0
  have HZ : Hid (w.heap.size ≤ (w1.setCell ⟨b, 0, none⟩ (.slice (some ⟨g1, 0, none⟩) (n + 1 + 1) k1)).heap.size) := HK1.out.size
  clear hr hg' hgr hgq hbk hbn c0 HO hb
  have hW : (w1.setCell ⟨b, 0, none⟩ (.slice (some ⟨g1, 0, none⟩) (n + 1 + 1) k1)).heap.size = w1.heap.size := by simp [World.setCell]
  have c1 := HQ1.out.h1
  have hb : b < w1.heap.size := by rw [← hW]; exact HQ1.out.lt
  have HO : Hid (Row 3 ((w1.setCell ⟨b, 0, none⟩ (.slice (some ⟨g1, 0, none⟩) (n + 1 + 1) k1)).alloc (.cells #[.int .i64 (-1)] 3)) gp (n + 1) cp pl) := HQ1.out.pls.alloc _
  have HY : Hid (((w1.setCell ⟨b, 0, none⟩ (.slice (some ⟨g1, 0, none⟩) (n + 1 + 1) k1)).alloc (.cells #[.int .i64 (-1)] 3)).cell? ⟨w1.heap.size, 0, none⟩ = some (.int .i64 (-1))) := by
    show World.cell? _ _ = _
    rw [← hW, Lib.cell_of_heap (rblk_new _ _)]; rfl
  have HW := Lib.hid hW
  clear hW
  go_wp2_with (at_builtin; refine wpList_append_row _ rfl _ _ 76 3 rfl Tryz.underlying76 info_int gp (n + 1) cp _ rfl HO.out (by omega) w1.heap.size 1 (-1) rfl HY.out ?_)
  intro g2 k2 w3 hr hg' hgr
  have hgq : g2 = gp ∨ w1.heap.size + 1 ≤ g2 := by simpa using hg'
  have HQ2 := Lib.hid (HQ1.out.pushP hr (by rw [HW.out]; exact hgq) hgr)
  have HG2 : Hid (g2 = gp ∨ w.heap.size ≤ g2) := by
    have := HZ.out
    rw [HW.out] at this
    rcases hgq with e | e
    · exact .inl e
    · exact .inr (by omega)
  have HK2 : Hid (Kf (Foot b gs gp go) w (w3.setCell ⟨b, 1, none⟩ (.slice (some ⟨g2, 0, none⟩) (n + 1 + 1) k2))) :=
    ((HK1.out.alloc _).grown hgr (fun k hk => .inl (by injection hk with e; subst e; exact .inr (.inr (.inl rfl))))).set (.inl (.inl rfl)) _
  have hbn : b ≠ gp := HQ1.out.ne.2.1
  have hbk : w3.heap[b]? = (w1.setCell ⟨b, 0, none⟩ (.slice (some ⟨g1, 0, none⟩) (n + 1 + 1) k1)).heap[b]? := (hgr.block b (by simp; omega) (fun e => hbn (Option.some.inj e))).trans (Below.heap_alloc _ _ _ (by rw [HW.out]; exact hb))
  have d0 : w3.cell? ⟨b, 1, none⟩ = some (.slice (some ⟨gp, 0, none⟩) (n + 1) cp) := by rw [World.cell?_of_block (w := (w1.setCell ⟨b, 0, none⟩ (.slice (some ⟨g1, 0, none⟩) (n + 1 + 1) k1))) (a := ⟨b, 1, none⟩) hbk]; exact c1
  have f0 : w3.frozen? ⟨b, 1, none⟩ = false := by rw [World.frozen?_of_block (w := (w1.setCell ⟨b, 0, none⟩ (.slice (some ⟨g1, 0, none⟩) (n + 1 + 1) k1))) (a := ⟨b, 1, none⟩) hbk]; exact HQ1.out.free 1
  have HV := Lib.hid (qvars_any (n := n + 1) _ HQ2.out hn)
  clear hr hg' hgr hgq hbk hbn c1 HO hb
  go_wp2_with fail
  refine HV.out.mono ?_
  rintro e w' ⟨rfl, rfl⟩
  go_wp2_with fail
  go_ret
  exact ⟨g1, k1, g2, k2, rret_int (by omega), HQ2.out, HG1.out, HG2.out, HK2.out⟩
end
end Go.Proofs.YtfllhfhcmoemeaaGreat
namespace Go.Proofs.YtfllhfhcmoemeaaGreat
open Go.RowKit HeapM

/-- How many of 1 .. n wait. -/
def cntB (wt : Nat → Bool) : Nat → Nat
  | 0 => 0
  | n + 1 => cntB wt n + (if wt (n + 1) = true then 1 else 0)
theorem cntB_of {wt : Nat → Bool} {pl : Nat → Int} {n : Nat} (h : ∀ v, 1 ≤ v → v ≤ n → (wt v = true ↔ pl v ≠ -1)) : cnt pl n = cntB wt n := by
  induction n with
  | zero => rfl
  | succ n ih =>
    unfold cnt cntB
    rw [ih fun v h1 h2 => h v h1 (by omega)]
    by_cases e : pl (n + 1) = -1
    · rw [if_pos e, if_neg (fun k => (h (n + 1) (by omega) (by omega)).1 k e)]
    · rw [if_neg e, if_pos ((h (n + 1) (by omega) (by omega)).2 e)]
theorem cntB_le (wt : Nat → Bool) (n : Nat) : cntB wt n ≤ n := by
  induction n with
  | zero => simp [cntB]
  | succ n ih => unfold cntB; split <;> omega

section
variable {b n : Nat} {F : Nat → Prop} {sc : Nat → Int} {wt : Nat → Bool}

theorem RankAt.foot {w : World} (h : RankAt w b F n sc wt) : ∀ k, F k → k < w.heap.size := by
  obtain ⟨gs, cs, gp, cp, go, co, m, pl, od, hQ, hI, hH, hW, hS, rfl⟩ := h
  exact hQ.foot
theorem RankAt.kept {w w' : World} {G : Nat → Prop} (h : RankAt w b F n sc wt) (hk : Kf G w w') (hd : ∀ k, F k → ¬ G k) : RankAt w' b F n sc wt := by
  obtain ⟨gs, cs, gp, cp, go, co, m, pl, od, hQ, r1, r2, r3, r4, rfl⟩ := h
  exact ⟨gs, cs, gp, cp, go, co, m, pl, od, hQ.kept hk hd, r1, r2, r3, r4, rfl⟩
theorem RankAt.below {w w' : World} (h : RankAt w b F n sc wt) (hk : Below w.heap.size w w') : RankAt w' b F n sc wt :=
  h.kept (G := fun _ => False) (Kf.of_below hk) (fun _ _ h => h)
theorem RankAt.bd {w : World} (h : RankAt w b F n sc wt) : ∀ v, 0 ≤ sc v ∧ sc v ≤ 1152921504606846976 := by
  obtain ⟨gs, cs, gp, cp, go, co, m, pl, od, hQ, r1, r2, r3, r4, rfl⟩ := h
  exact r4
theorem RankTo.here {w : World} (h : RankAt w b F n sc wt) : RankTo F w w b n sc wt := ⟨F, h, fun _ h => .inl h, Kf.refl _ _⟩

theorem vars_any (w : World) (h : RankAt w b F n sc wt) (hn : n ≤ 1000) :
    Calls Tryz.prog 60 #[.pointer (some ⟨b, 0, none⟩)] w fun e w' => e = .returned (.int .i64 n) ∧ w = w' := by
  obtain ⟨gs, cs, gp, cp, go, co, m, pl, od, hQ, hI, hH, hW, hS, rfl⟩ := h
  exact vars_nat w hQ hn
theorem size_any (w : World) (h : RankAt w b F n sc wt) :
    Calls Tryz.prog 116 #[.pointer (some ⟨b, 0, none⟩)] w fun e w' => e = .returned (.int .i64 (cntB wt n)) ∧ w = w' := by
  obtain ⟨gs, cs, gp, cp, go, co, m, pl, od, hQ, hI, hH, hW, hS, rfl⟩ := h
  rw [← cntB_of hW, hI.many]
  exact len_nat w hQ
theorem waits_any (w : World) (h : RankAt w b F n sc wt) (hn : n ≤ 1000) (v : Int) :
    Calls Tryz.prog 89 #[.pointer (some ⟨b, 0, none⟩), .int .i64 v] w fun e w' => e = .returned (.bool (inB n v && wt v.toNat)) ∧ w = w' := by
  obtain ⟨gs, cs, gp, cp, go, co, m, pl, od, hQ, hI, hH, hW, hS, rfl⟩ := h
  have e : (inB n v && wt v.toNat) = (inB n v && (pl v.toNat != -1)) := by
    rcases hv : inB n v
    · rfl
    · obtain ⟨h1, h2⟩ := (inB_iff n v).1 hv
      have := hW v.toNat (by omega) (by omega)
      rw [Bool.true_and, Bool.true_and, Bool.eq_iff_iff, this, bne_iff_ne]
  rw [e]
  exact waits_nat w hQ hn v
theorem bump_no (w : World) (h : RankAt w b F n sc wt) (hn : n ≤ 1000) (v y : Int) (hb : ¬ (inB n v = true ∧ 0 ≤ y ∧ y ≤ 1152921504606846976)) :
    Calls Tryz.prog 111 #[.pointer (some ⟨b, 0, none⟩), .int .i64 v, .int .i64 y] w fun e w' => e = .returned (.int .i64 31) ∧ w = w' := by
  obtain ⟨gs, cs, gp, cp, go, co, m, pl, od, hQ, hI, hH, hW, hS, rfl⟩ := h
  exact bump_bad w hQ hn v y hb
theorem halve_any (w : World) (h : RankAt w b F n sc wt) (hn : n ≤ 1000) :
    Calls Tryz.prog 113 #[.pointer (some ⟨b, 0, none⟩)] w fun e w' => e = .returned (.tuple #[]) ∧ RankTo F w w' b n (fun v => sc v / 2) wt := by
  obtain ⟨gs, cs, gp, cp, go, co, m, pl, od, hQ, hI, hH, hW, hS, rfl⟩ := h
  refine (halve_nat w hQ hI hn hS).mono ?_
  rintro e w' ⟨pl2, od2, rfl, hq, hk, hi, hs, hh⟩
  refine ⟨rfl, _, ⟨gs, cs, gp, cp, go, co, m, pl2, od2, hq, hi, hh, like_of hW hs, fun u => ?_, rfl⟩, fun k hk => .inl hk, hk⟩
  have := hS u
  show 0 ≤ sc u / 2 ∧ sc u / 2 ≤ 1152921504606846976
  omega
theorem push_yes (w : World) (h : RankAt w b F n sc wt) (hn : n ≤ 1000) (v : Nat) (h1 : 1 ≤ v) (h2 : v ≤ n) :
    Calls Tryz.prog 57 #[.pointer (some ⟨b, 0, none⟩), .int .i64 v] w fun e w' => e = .returned (.int .i64 0) ∧ RankTo F w w' b n sc (upd wt v true) := by
  obtain ⟨gs, cs, gp, cp, go, co, m, pl, od, hQ, hI, hH, hW, hS, rfl⟩ := h
  by_cases hp : pl v = -1
  · refine (push_new w hQ hI hH hn v h1 h2 hp).mono ?_
    rintro e w' ⟨rfl, g2, c2, pl2, od2, _, hq, hg, hk, hi, hh, hl⟩
    refine ⟨rfl, _, ⟨gs, cs, gp, cp, g2, c2, m + 1, pl2, od2, hq, hi, hh, fun u u1 u2 => ?_, hS, rfl⟩, fun k hk' => ?_, hk⟩
    · rw [Ne, hl u u1 u2]
      by_cases e : u = v
      · subst e; rw [upd_at]; simp
      · rw [upd_ne _ _ e, hW u u1 u2]; simp [e]
    · rcases hk' with e | e | e | e
      · exact .inl (.inl e)
      · exact .inl (.inr (.inl e))
      · exact .inl (.inr (.inr (.inl e)))
      · rcases hg with e' | e'
        · exact .inl (.inr (.inr (.inr (e.trans e'))))
        · exact .inr (by omega)
  · refine (push_old w hQ hn v h1 h2 hp).mono ?_
    rintro e w' ⟨rfl, rfl⟩
    refine ⟨rfl, RankTo.here ⟨gs, cs, gp, cp, go, co, m, pl, od, hQ, hI, hH, fun u u1 u2 => ?_, hS, rfl⟩⟩
    by_cases e : u = v
    · subst e; rw [upd_at]; simp [hp]
    · rw [upd_ne _ _ e]; exact hW u u1 u2
theorem push_no (w : World) (h : RankAt w b F n sc wt) (hn : n ≤ 1000) (v : Int) (hb : inB n v = false) :
    Calls Tryz.prog 57 #[.pointer (some ⟨b, 0, none⟩), .int .i64 v] w fun e w' => e = .returned (.int .i64 31) ∧ w = w' := by
  obtain ⟨gs, cs, gp, cp, go, co, m, pl, od, hQ, hI, hH, hW, hS, rfl⟩ := h
  exact push_bad w hQ hn v hb
theorem none_pops (w : World) (h : RankAt w b F n sc wt) (hc : cntB wt n = 0) :
    Calls Tryz.prog 83 #[.pointer (some ⟨b, 0, none⟩)] w fun e w' => e = .returned (.tuple #[.int .i64 0, .bool false]) ∧ w = w' := by
  obtain ⟨gs, cs, gp, cp, go, co, m, pl, od, hQ, hI, hH, hW, hS, rfl⟩ := h
  have hm := hI.many
  rw [cntB_of hW, hc] at hm
  subst hm
  exact pop_none w hQ
/-- What Pop answers where one waits: the first of them. -/
def FirstOf (n : Nat) (sc : Nat → Int) (wt : Nat → Bool) (v : Nat) : Prop := 1 ≤ v ∧ v ≤ n ∧ wt v = true ∧ ∀ u, 1 ≤ u → u ≤ n → wt u = true → le sc v u
def PopPost (b n : Nat) (F : Nat → Prop) (sc : Nat → Int) (wt : Nat → Bool) (w : World) (e : Ending) (w' : World) : Prop :=
  ∃ v : Nat, FirstOf n sc wt v ∧ e = .returned (.tuple #[.int .i64 (v : Int), .bool true]) ∧ RankTo F w w' b n sc (upd wt v false)
theorem one_pops (w : World) (h : RankAt w b F n sc wt) (hn : n ≤ 1000) (hc : 0 < cntB wt n) :
    Calls Tryz.prog 83 #[.pointer (some ⟨b, 0, none⟩)] w (PopPost b n F sc wt w) := by
  obtain ⟨gs, cs, gp, cp, go, co, m, pl, od, hQ, hI, hH, hW, hS, rfl⟩ := h
  have hm := hI.many
  rw [cntB_of hW] at hm
  obtain ⟨m, rfl⟩ : ∃ k, m = k + 1 := ⟨m - 1, by omega⟩
  refine (pop_some w hQ hI hH hn).mono ?_
  rintro e w' ⟨rfl, pl2, od2, _, hq, hk, hi, hh, hl⟩
  have hf := hI.fwd 0 (by omega)
  refine ⟨od 0, ⟨hf.1, hf.2.1, (hW _ hf.1 hf.2.1).2 (by omega), fun u u1 u2 hu => ?_⟩, rfl, _, ⟨gs, cs, gp, cp, go, co, m, pl2, od2, hq, hi, hh, fun u u1 u2 => ?_, hS, rfl⟩, fun k hk => .inl hk, hk⟩
  · obtain ⟨i, him, _, rfl⟩ := (hI.bwd u u1 u2).resolve_left ((hW u u1 u2).1 hu)
    exact hH.first i him
  · rw [Ne, hl u u1 u2]
    by_cases e : u = od 0
    · rw [e, upd_at]; simp
    · rw [upd_ne _ _ e, hW u u1 u2]; simp [e]
end

section
variable {b gs cs gp cp go co n m : Nat} {sc pl : Nat → Int} {od : Nat → Nat}
set_option maxHeartbeats 6400000 in
set_option maxRecDepth 100000 in
theorem grow_nat (w : World) (h : QAt w b gs cs gp cp go co n m sc pl od) (hI : Inv n m pl od) (hH : Hp sc od 0 m) (hn : n + 1 ≤ 1000) :
    Calls Tryz.prog 36 #[.pointer (some ⟨b, 0, none⟩)] w fun e w' => e = .returned (.int .i64 ((n : Int) + 1)) ∧
      ∃ g1 c1 g2 c2 g3 c3 pl2 od2, QAt w' b g1 c1 g2 c2 g3 c3 (n + 1) (m + 1) (upd sc (n + 1) 0) pl2 od2 ∧ Inv (n + 1) (m + 1) pl2 od2 ∧ Hp (upd sc (n + 1) 0) od2 0 (m + 1) ∧ (g1 = gs ∨ w.heap.size ≤ g1) ∧ (g2 = gp ∨ w.heap.size ≤ g2) ∧ (g3 = go ∨ w.heap.size ≤ g3) ∧ Kf (Foot b gs gp go) w w' ∧
        (∀ u, 1 ≤ u → u ≤ n + 1 → (pl2 u = -1 ↔ u ≠ n + 1 ∧ pl u = -1)) := by
  have HV := Lib.hid (vars_nat w h (by omega))
  have HA := Lib.hid (radd_any w h hn)
  have HH' : Hid (Hp (upd sc (n + 1) 0) od 0 m) := fun c c1 c2 c3 => by
    have a := hI.fwd c c2
    have a' := hI.fwd ((c - 1) / 2) (by omega)
    have := hH c c1 c2 c3
    unfold le at this ⊢
    rw [upd_ne _ _ (by omega), upd_ne _ _ (by omega)]
    exact this
  have HI := Lib.hid (add_inv hI)
  have hne : ((n : Int) == 262144) = false := by rw [beq_eq_false_iff_ne]; omega
  clear h hI hH
  go_enter Tryz.func36, Tryz.ntmps36
  go_wp2_with fail
  refine HV.out.mono ?_
  rintro e w' ⟨rfl, rfl⟩
  clear HV
  go_wp2_with fail
  refine HA.out.mono ?_
  rintro e w1 ⟨g1, c1, g2, c2, rfl, hq1, hg1, hg2, hk1⟩
  have hp := pushed_any w1 hq1 HI.out hn HH'.out (v := n + 1) (by omega) (by omega) (by rw [upd_at])
  rw [show ((n + 1 : Nat) : Int) = (n : Int) + 1 from by omega] at hp
  have HP := Lib.hid hp
  have HK1 := Lib.hid hk1
  have HG := Lib.hid (And.intro hg1 hg2)
  clear hp hq1 hk1 hg1 hg2 HA HH' HI
  go_wp2_with fail
  refine HP.out.mono ?_
  rintro e w2 ⟨g3, c3, pl2, od2, rfl, hq2, hg3, hk2, hi2, hh2, hl2⟩
  have HE : Hid (∃ g1 c1 g2 c2 g3 c3 pl2 od2, QAt w2 b g1 c1 g2 c2 g3 c3 (n + 1) (m + 1) (upd sc (n + 1) 0) pl2 od2 ∧ Inv (n + 1) (m + 1) pl2 od2 ∧ Hp (upd sc (n + 1) 0) od2 0 (m + 1) ∧ (g1 = gs ∨ w.heap.size ≤ g1) ∧ (g2 = gp ∨ w.heap.size ≤ g2) ∧ (g3 = go ∨ w.heap.size ≤ g3) ∧ Kf (Foot b gs gp go) w w2 ∧
        (∀ u, 1 ≤ u → u ≤ n + 1 → (pl2 u = -1 ↔ u ≠ n + 1 ∧ pl u = -1))) := by
    have hs := HK1.out.size
    obtain ⟨hg1, hg2⟩ := HG.out
    refine ⟨g1, c1, g2, c2, g3, c3, pl2, od2, hq2, hi2, hh2, hg1, hg2, ?_, HK1.out.trans hk2 (fun x hx => ?_), fun u u1 u2 => ?_⟩
    · rcases hg3 with e | e
      · exact .inl e
      · exact .inr (by omega)
    · rcases hx with e | e | e | e
      · exact .inl (.inl e)
      · rcases hg1 with e' | e'
        · exact .inl (.inr (.inl (e.trans e')))
        · exact .inr (by omega)
      · rcases hg2 with e' | e'
        · exact .inl (.inr (.inr (.inl (e.trans e'))))
        · exact .inr (by omega)
      · exact .inl (.inr (.inr (.inr e)))
    · rw [hl2 u u1 u2]
      by_cases e : u = n + 1
      · subst e; rw [upd_at]; simp
      · rw [upd_ne _ _ e]; simp [e]
  clear hq2 hg3 hk2 hi2 hh2 hl2 HP HK1 HG
  go_wp2_with fail
  go_ret
  exact ⟨rfl, HE.out⟩
end
theorem grow_any {b n : Nat} {F : Nat → Prop} {sc : Nat → Int} {wt : Nat → Bool} (w : World) (h : RankAt w b F n sc wt) (hn : n + 1 ≤ 1000) :
    Calls Tryz.prog 36 #[.pointer (some ⟨b, 0, none⟩)] w fun e w' => e = .returned (.int .i64 ((n : Int) + 1)) ∧ RankTo F w w' b (n + 1) (upd sc (n + 1) 0) (upd wt (n + 1) true) := by
  obtain ⟨gs, cs, gp, cp, go, co, m, pl, od, hQ, hI, hH, hW, hS, rfl⟩ := h
  refine (grow_nat w hQ hI hH hn).mono ?_
  rintro e w' ⟨rfl, g1, c1, g2, c2, g3, c3, pl2, od2, hq, hi, hh, hg1, hg2, hg3, hk, hl⟩
  refine ⟨rfl, _, ⟨g1, c1, g2, c2, g3, c3, m + 1, pl2, od2, hq, hi, hh, fun u u1 u2 => ?_, fun u => ?_, rfl⟩, fun k hk' => ?_, hk⟩
  · rw [Ne, hl u u1 u2]
    by_cases e : u = n + 1
    · subst e; rw [upd_at]; simp
    · rw [upd_ne _ _ e, hW u u1 (by omega)]; simp [e]
  · unfold upd; split
    · omega
    · exact hS u
  · rcases hk' with e | e | e | e
    · exact .inl (.inl e)
    · rcases hg1 with e' | e'
      · exact .inl (.inr (.inl (e.trans e')))
      · exact .inr (by omega)
    · rcases hg2 with e' | e'
      · exact .inl (.inr (.inr (.inl (e.trans e'))))
      · exact .inr (by omega)
    · rcases hg3 with e' | e'
      · exact .inl (.inr (.inr (.inr (e.trans e'))))
      · exact .inr (by omega)
end Go.Proofs.YtfllhfhcmoemeaaGreat
