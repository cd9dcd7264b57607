/- Package parse: Source's answer at such a text. -/
import Derived.Test.YtmkhfcdjgdofnaaDoorParU
namespace Go.Proofs.YtmkhfcdjgdofnaaDoor
open Go.RowKit TreM WrdM ParM

set_option maxHeartbeats 1600000 in
set_option maxRecDepth 100000 in
theorem pcaughtS (q : Nat) (l c : Int) (older : List PanicEntry) (w : World) (a b d : Value) (hq : w.heap[q]? = some (.cells #[a, b, d] 27 (0, 0))) :
    CallsD Tryd.prog 28 #[.pointer (some ⟨q, 0, none⟩)] (.panicking ({ v := .iface 27 (.agg #[.int .i64 151, .int .i64 l, .int .i64 c]), recovered := false } :: older)) w fun e u' w' =>
      e = .returned (.tuple #[]) ∧ u' = .panicking ({ v := .iface 27 (.agg #[.int .i64 151, .int .i64 l, .int .i64 c]), recovered := true } :: older) ∧ w'.heap[q]? = some (.cells #[.int .i64 151, .int .i64 l, .int .i64 c] 27 (0, 0)) ∧ Kg q w w' := by
  have hlt := lt_of_heap hq
  obtain ⟨s0, s1, s2⟩ := wcel3 hq
  have uf := Lib.frozen_of_heap hq
  have hta := fault_of_any (.agg #[.int .i64 151, .int .i64 l, .int .i64 c])
  have HQ := Lib.hid hq
  clear hq
  refine callsD_of_wpS Tryd.func28 rfl fun c₀ cs hu => ?_
  apply wpS_seq
  apply wpS_region
  simp [wpOpsS, go_sem, recoverD, hu, Tryd.ntmps28, Exit.thenS]
  refine wpS_of_wp ?_
  go_wp2
  obtain ⟨w8, hw8⟩ : ∃ w8, w8 = (((w.setCell ⟨q, 0, none⟩ (.int .i64 151)).setCell ⟨q, 1, none⟩ (.int .i64 l)).setCell ⟨q, 2, none⟩ (.int .i64 c)) := ⟨_, rfl⟩
  rw [← hw8]
  have hn8 : w8.heap[q]? = some (.cells #[.int .i64 151, .int .i64 l, .int .i64 c] 27 (0, 0)) := by rw [hw8]; exact three_set HQ.out _ _ _
  have hk8 : Kg q w w8 := by rw [hw8]; exact (kg_two 0 1 _ _).trans' (kg_one 2 _)
  obtain ⟨w9, hw9⟩ : ∃ w9, w9 = w8.alloc (.cells #[.int .i64 151, .int .i64 l, .int .i64 c] 27) := ⟨_, rfl⟩
  rw [← hw9]
  have hb9 : Below w8.heap.size w8 w9 := by rw [hw9]; exact below_alloc _ _
  have h1 : w9.heap[q]? = some (.cells #[.int .i64 151, .int .i64 l, .int .i64 c] 27 (0, 0)) := (hb9.block q (lt_of_heap hn8)).trans hn8
  have h2 : Kg q w w9 := hk8.trans' (Kg.of_below hb9)
  simp [bodyPostS, results, Tryd.results28]
  exact ⟨h1, h2⟩

set_option maxHeartbeats 3200000 in
set_option maxRecDepth 100000 in
theorem readS_bad (s : List UInt8) (hs : s.length ≤ 9223372036854775807) (ts : List Tok) (l c : Int) (hcl : cutL s = .ok ts) (hdb : DclBad ts l c) (w : World) (hG : PrG w) :
    Calls Tryd.prog 14 #[.string ⟨s.toArray⟩, .func (.func 15) #[] #[]] w fun e w' => e = .returned (.tuple #[.agg #[.slice none 0 0, .slice none 0 0, .slice none 0 0], .agg #[.int .i64 151, .int .i64 l, .int .i64 c]]) ∧ Below w.heap.size w w' := by
  have hmf : ∀ (fn : Fn) (first cap : Array Value) (w : World), (Instr.makeFunc fn first cap).run Tryd.prog w = .ok (.func fn first cap) w := fun _ _ _ _ => rfl
  obtain ⟨wa, hwa⟩ : ∃ wa, wa = (w.alloc (.cells z3 34)).alloc (.cells #[.int .i64 0, .int .i64 0, .int .i64 0] 27) := ⟨_, rfl⟩
  have hba : Below w.heap.size w wa := by rw [hwa]; exact (below_alloc w _).alloc (by simp) _
  have hza : wa.heap.size = w.heap.size + 2 := by rw [hwa]; simp
  have hne : wa.heap[w.heap.size]? = some (.cells z3 34 (0, 0)) := by rw [hwa, Lib.alloc_old _ _ _ (by simp)]; exact blk_new w _
  have hnf : wa.heap[w.heap.size + 1]? = some (.cells #[.int .i64 0, .int .i64 0, .int .i64 0] 27 (0, 0)) := by
    rw [hwa]
    have := blk_new (w.alloc (.cells z3 34)) (.cells #[.int .i64 0, .int .i64 0, .int .i64 0] 27)
    rwa [show (w.alloc (.cells z3 34)).heap.size = w.heap.size + 1 by simp] at this
  have hwn := hG.n
  have hGa : PrG wa := hG.below hba hwn
  have HCT := Lib.hid (cut_any s wa hGa.wd (show 1 < wa.heap.size by omega) hs)
  have HNE := Lib.hid hne
  have HNF := Lib.hid hnf
  have HBA := Lib.hid hba
  have HWA := Lib.hid hwa
  have HGA := Lib.hid hGa
  have HZA := Lib.hid hza
  rw [hcl] at HCT
  have hends := ends_cut hcl
  clear hwa hne hnf hba hGa hza hcl
  generalize (⟨s.toArray⟩ : ByteArray) = sb at *
  go_enter_defers Tryd.func14, Tryd.ntmps14
  go_upto_region 1 with (fail)
  have hwa := HWA.out
  unfold z3 at hwa
  rw [← hwa]
  clear hwa HWA
  go_wp2_with fail
  refine HCT.out.mono ?_
  intro e w1 hp
  clear HCT
  unfold CutTo at hp
  obtain ⟨A, cp, rfl, hrow, hlo, hb1⟩ := hp
  have hz := HZA.out
  have hf1 := (hb1.block (w.heap.size + 1) (by omega)).trans HNF.out
  have he1 := (hb1.block w.heap.size (by omega)).trans HNE.out
  have uf := Lib.frozen_of_heap hf1
  obtain ⟨s0, s1, s2⟩ := wcel3 hf1
  have hq := three_set hf1 (.int .i64 0) (.int .i64 0) (.int .i64 0)
  obtain ⟨w2, hw2⟩ : ∃ w2, w2 = (((w1.setCell ⟨w.heap.size + 1, 0, none⟩ (.int .i64 0)).setCell ⟨w.heap.size + 1, 1, none⟩ (.int .i64 0)).setCell ⟨w.heap.size + 1, 2, none⟩ (.int .i64 0)) := ⟨_, rfl⟩
  have hk2 : Kg (w.heap.size + 1) w1 w2 := by rw [hw2]; exact (kg_two 0 1 _ _).trans' (kg_one 2 _)
  have he2 := (hk2.block w.heap.size (by have := hb1.size; omega) (by omega)).trans he1
  rw [← hw2] at hq
  obtain ⟨q0, q1, q2⟩ := wcel3 hq
  have hB2 : Below w.heap.size w w2 := (HBA.out.trans (hb1.mono HBA.out.size)).trans (hk2.low (by have := hb1.size; omega) |>.mono (by omega))
  have hrow2 : SlV 71 5 w2 A ts.length cp (tkF ts) := hrow.same fun j hj => hk2.block j (hrow.lt j hj) (by have := hlo j hj; omega)
  obtain ⟨wR, hwR⟩ : ∃ wR, wR = w2.alloc (.cells #[.slice A ts.length cp, .int .i64 0] 69) := ⟨_, rfl⟩
  have hbR : Below w2.heap.size w2 wR := by rw [hwR]; exact below_alloc _ _
  have hnR : wR.heap[w2.heap.size]? = some (.cells #[.slice A ts.length cp, .int .i64 0] 69 (0, 0)) := by rw [hwR]; exact blk_new _ _
  have hzR : wR.heap.size = w2.heap.size + 1 := by rw [hwR]; simp
  have hgl : w.heap.size + 1 < w2.heap.size := lt_of_heap hq
  have hrd : Rdr wR w2.heap.size ts 0 := rdr_new hends hrow2 hbR hnR
  have HBR : Hid (Below w.heap.size w wR) := hB2.trans (hbR.mono hB2.size)
  have HFR : Hid (wR.heap[w.heap.size + 1]? = some (.cells #[.int .i64 0, .int .i64 0, .int .i64 0] 27 (0, 0))) := (hbR.block _ (by omega)).trans hq
  have HER : Hid (wR.heap[w.heap.size]? = some (.cells z3 34 (0, 0))) := (hbR.block _ (by omega)).trans he2
  have HWH := Lib.hid (source_bad w2.heap.size ts l c wR (by omega) hrd hdb)
  have HW2 := Lib.hid hw2
  have HWR := Lib.hid hwR
  have hgw : w2.heap.size < wR.heap.size := by omega
  obtain ⟨g, hgg⟩ : ∃ g, g = w2.heap.size := ⟨_, rfl⟩
  have HGG := Lib.hid hgg
  rw [← hgg] at HWH hgl hgw
  have HGR := Lib.hid hgw
  clear hgw
  clear hq he2 hw2 hf1 he1 hb1 hz hk2 hrow hrow2 hlo hB2 hbR hnR hzR hwR hrd hgg hends
  go_upto_region 2 with (fail)
  have hw2 := HW2.out
  rw [← hw2]
  clear hw2 HW2 s0 s1 s2 uf
  go_upto_region 6 with (fail)
  have hwR := HWR.out
  rw [← hwR]
  have hgg := HGG.out
  rw [← hgg]
  clear hwR HWR hgg
  go_wp2_with fail
  refine HWH.out.mono ?_
  intro e w3 hp
  clear HWH q0 q1 q2
  obtain ⟨rfl, hbq⟩ := hp
  have hfq := (hbq.block (w.heap.size + 1) (by omega)).trans HFR.out
  have heq := (hbq.block w.heap.size (by omega)).trans HER.out
  refine leaves_cons (f := 28) (args := #[.pointer (some ⟨w.heap.size + 1, 0, none⟩)]) (by simp) (by simp [go_sem]) ?_
  refine (pcaughtS (w.heap.size + 1) l c [] _ _ _ _ hfq).mono ?_
  rintro e u' wz ⟨rfl, rfl, hfz, hkz⟩
  have hez := (hkz.block w.heap.size (by have := lt_of_heap heq; omega) (by omega)).trans heq
  have hbz : Below w.heap.size w wz := HBR.out.trans ((hbq.mono (by omega)).trans ((hkz.low (lt_of_heap hfq)).mono (by omega)))
  obtain ⟨p0, p1, p2⟩ := wcel3 hez
  obtain ⟨f0, f1, f2⟩ := wcel3 hfz
  refine ⟨.tuple #[.agg #[.slice none 0 0, .slice none 0 0, .slice none 0 0], .agg #[.int .i64 151, .int .i64 l, .int .i64 c]], ?_, ?_⟩
  · clear hfq heq hfz hkz hez hbz hmf HNE HNF
    simp [results, Tryd.results14, go_sem, p0, p1, p2, f0, f1, f2]
  · exact ⟨rfl, hbz⟩

set_option maxHeartbeats 3200000 in
set_option maxRecDepth 100000 in
theorem sourceA_bad (s : List UInt8) (hs : s.length ≤ 9223372036854775807) (ts : List Tok) (l c : Int) (hcl : cutL s = .ok ts) (hdb : DclBad ts l c) (w : World) (hG : PrG w) :
    Calls Tryd.prog 7 #[.string ⟨s.toArray⟩] w fun e w' => e = .returned (.tuple #[.agg #[.slice none 0 0, .slice none 0 0, .slice none 0 0], .agg #[.int .i64 151, .int .i64 l, .int .i64 c]]) ∧ Below w.heap.size w w' := by
  obtain ⟨wa, hwa⟩ : ∃ wa, wa = (w.alloc (.cells z3 34)).alloc (.cells #[.int .i64 0, .int .i64 0, .int .i64 0] 27) := ⟨_, rfl⟩
  have hba : Below w.heap.size w wa := by rw [hwa]; exact (below_alloc w _).alloc (by simp) _
  have hza : wa.heap.size = w.heap.size + 2 := by rw [hwa]; simp
  have hne : wa.heap[w.heap.size]? = some (.cells z3 34 (0, 0)) := by rw [hwa, Lib.alloc_old _ _ _ (by simp)]; exact blk_new w _
  have hnf : wa.heap[w.heap.size + 1]? = some (.cells #[.int .i64 0, .int .i64 0, .int .i64 0] 27 (0, 0)) := by
    rw [hwa]
    have := blk_new (w.alloc (.cells z3 34)) (.cells #[.int .i64 0, .int .i64 0, .int .i64 0] 27)
    rwa [show (w.alloc (.cells z3 34)).heap.size = w.heap.size + 1 by simp] at this
  have HRD := Lib.hid (readS_bad s hs ts l c hcl hdb wa (hG.below hba hG.n))
  have HNE := Lib.hid hne
  have HNF := Lib.hid hnf
  have HBA := Lib.hid hba
  have HWA := Lib.hid hwa
  have HZA := Lib.hid hza
  clear hwa hne hnf hba hza hG hcl hdb
  generalize (⟨s.toArray⟩ : ByteArray) = sb at *
  go_enter Tryd.func7, Tryd.ntmps7
  go_upto_region 1 with (fail)
  have hwa := HWA.out
  unfold z3 at hwa
  rw [← hwa]
  clear hwa HWA
  go_wp2_with fail
  refine HRD.out.mono ?_
  rintro e w1 ⟨rfl, hb1⟩
  clear HRD
  have hz := HZA.out
  have he1 := (hb1.block w.heap.size (by omega)).trans HNE.out
  have hf1 := (hb1.block (w.heap.size + 1) (by omega)).trans HNF.out
  obtain ⟨x0, x1, x2⟩ := wcel3 he1
  obtain ⟨s0, s1, s2⟩ := wcel3 hf1
  have ue := Lib.frozen_of_heap he1
  have uf := Lib.frozen_of_heap hf1
  have HE1 := Lib.hid he1
  have HF1 := Lib.hid hf1
  have HB1 := Lib.hid hb1
  have hlt1 : w.heap.size + 1 < w1.heap.size := lt_of_heap hf1
  clear he1 hf1 hz hb1
  go_wp2_with fail
  obtain ⟨wA, hwA⟩ : ∃ wA, wA = (((w1.setCell ⟨w.heap.size, 0, none⟩ (.slice none 0 0)).setCell ⟨w.heap.size, 1, none⟩ (.slice none 0 0)).setCell ⟨w.heap.size, 2, none⟩ (.slice none 0 0)) := ⟨_, rfl⟩
  have hkA : Kg w.heap.size w1 wA := by rw [hwA]; exact (kg_two 0 1 _ _).trans' (kg_one 2 _)
  have hnA : wA.heap[w.heap.size]? = some (.cells #[.slice none 0 0, .slice none 0 0, .slice none 0 0] 34 (0, 0)) := by rw [hwA]; exact three_set HE1.out _ _ _
  rw [← hwA]
  have hfA := (hkA.block (w.heap.size + 1) hlt1 (by omega)).trans HF1.out
  obtain ⟨wB, hwB⟩ : ∃ wB, wB = (((wA.setCell ⟨w.heap.size + 1, 0, none⟩ (.int .i64 151)).setCell ⟨w.heap.size + 1, 1, none⟩ (.int .i64 l)).setCell ⟨w.heap.size + 1, 2, none⟩ (.int .i64 c)) := ⟨_, rfl⟩
  have hkB : Kg (w.heap.size + 1) wA wB := by rw [hwB]; exact (kg_two 0 1 _ _).trans' (kg_one 2 _)
  have hnB : wB.heap[w.heap.size + 1]? = some (.cells #[.int .i64 151, .int .i64 l, .int .i64 c] 27 (0, 0)) := by rw [hwB]; exact three_set hfA _ _ _
  rw [← hwB]
  have hszA := hkA.size
  have heB := (hkB.block w.heap.size (by omega) (by omega)).trans hnA
  have hza := HZA.out
  have hbB : Below w.heap.size w wB := (HBA.out.trans (HB1.out.mono (by omega))).trans (((hkA.low (by omega)).mono (Nat.le_refl _)).trans ((hkB.low (by omega)).mono (by omega)))
  have HBB := Lib.hid hbB
  obtain ⟨p0, p1, p2⟩ := wcel3 heB
  obtain ⟨f0, f1, f2⟩ := wcel3 hnB
  clear hwA hkA hnA hfA hwB hkB hnB hszA heB hbB hza x0 x1 x2 s0 s1 s2 ue uf
  refine bodyPost_ret (v := .tuple #[.agg #[.slice none 0 0, .slice none 0 0, .slice none 0 0], .agg #[.int .i64 151, .int .i64 l, .int .i64 c]]) (by simp [results, Tryd.results7, go_sem, p0, p1, p2, f0, f1, f2]) rfl ?_
  exact ⟨rfl, HBB.out⟩
end Go.Proofs.YtmkhfcdjgdofnaaDoor
