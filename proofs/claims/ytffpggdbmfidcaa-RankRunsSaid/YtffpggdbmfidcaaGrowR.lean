/- The contracts of the queue's add and a Rank's Grow. -/
import Derived.Test.YtffpggdbmfidcaaNewR
namespace Go.Proofs.Ytffpggdbmfidcaa
open Go.RowKit HeapM

section
variable {b gs cs gp cp go co n m : Nat} {sc pl : Nat → Int} {od : Nat → Nat}

theorem Q3.pushS {w w' : World} {ns np : Nat} {o : Obj} {g' c' : Nat} {x : Int} (h : Q3 w b gs cs gp cp go co ns np m sc pl od) (hr : Row 2 w' g' (ns + 1) c' (upd sc ns x)) (hg' : g' = gs ∨ w.heap.size + 1 ≤ g')
    (hg : (w.alloc o).grownBy w' (some gs)) : Q3 (w'.setCell ⟨b, 0, none⟩ (.slice (some ⟨g', 0, none⟩) (ns + 1) c')) b g' c' gp cp go co (ns + 1) np m (upd sc ns x) pl od := by
  have hf := h.foot
  have hsz : (w.alloc o).heap.size = w.heap.size + 1 := by simp
  have old : ∀ k, k < w.heap.size → k ≠ gs → w'.heap[k]? = w.heap[k]? := fun k hk hkg => (hg.block k (by omega) (fun e => hkg (Option.some.inj e))).trans (Below.heap_alloc _ _ _ hk)
  obtain ⟨T, hh⟩ := h.head
  obtain ⟨n1, n2, n3, n4, n5, n6⟩ := h.ne
  have fb := hf b (.inl rfl)
  have fp := hf gp (.inr (.inr (.inl rfl)))
  have fo := hf go (.inr (.inr (.inr rfl)))
  have hb' : w'.heap[b]? = w.heap[b]? := old b fb n1
  have hne : b ≠ g' ∧ g' ≠ gp ∧ g' ≠ go := by rcases hg' with e | e; (subst e; exact ⟨n1, n4, n5⟩); (exact ⟨by omega, by omega, by omega⟩)
  exact ⟨⟨T, by rw [Lib.heap_setCell_same (hb'.trans hh)]; rfl⟩, hr.other (fun e => hne.1 e) _, (h.pls.same (old gp fp (fun e => n4 e.symm))).other (fun e => n2 e) _, (h.ods.same (old go fo (fun e => n5 e.symm))).other (fun e => n3 e) _, hne.1, n2, n3, hne.2.1, hne.2.2, n6⟩
theorem Q3.pushP {w w' : World} {ns np : Nat} {o : Obj} {g' c' : Nat} {x : Int} (h : Q3 w b gs cs gp cp go co ns np m sc pl od) (hr : Row 3 w' g' (np + 1) c' (upd pl np x)) (hg' : g' = gp ∨ w.heap.size + 1 ≤ g')
    (hg : (w.alloc o).grownBy w' (some gp)) : Q3 (w'.setCell ⟨b, 1, none⟩ (.slice (some ⟨g', 0, none⟩) (np + 1) c')) b gs cs g' c' go co ns (np + 1) m sc (upd pl np x) od := by
  have hf := h.foot
  have hsz : (w.alloc o).heap.size = w.heap.size + 1 := by simp
  have old : ∀ k, k < w.heap.size → k ≠ gp → w'.heap[k]? = w.heap[k]? := fun k hk hkg => (hg.block k (by omega) (fun e => hkg (Option.some.inj e))).trans (Below.heap_alloc _ _ _ hk)
  obtain ⟨T, hh⟩ := h.head
  obtain ⟨n1, n2, n3, n4, n5, n6⟩ := h.ne
  have fb := hf b (.inl rfl)
  have fs := hf gs (.inr (.inl rfl))
  have fo := hf go (.inr (.inr (.inr rfl)))
  have hb' : w'.heap[b]? = w.heap[b]? := old b fb n2
  have hne : b ≠ g' ∧ gs ≠ g' ∧ g' ≠ go := by rcases hg' with e | e; (subst e; exact ⟨n2, n4, n6⟩); (exact ⟨by omega, by omega, by omega⟩)
  exact ⟨⟨T, by rw [Lib.heap_setCell_same (hb'.trans hh)]; rfl⟩, (h.scs.same (old gs fs n4)).other (fun e => n1 e) _, hr.other (fun e => hne.1 e) _, (h.ods.same (old go fo (fun e => n6 e.symm))).other (fun e => n3 e) _, n1, hne.1, n3, hne.2.1, n5, hne.2.2⟩

/-- What add leaves. -/
def AddPost (b gs gp go co n m : Nat) (sc pl : Nat → Int) (od : Nat → Nat) (w : World) (e : Ending) (w' : World) : Prop :=
  ∃ g1 c1 g2 c2, e = .returned (.int .i64 ((n : Int) + 1)) ∧ QAt w' b g1 c1 g2 c2 go co (n + 1) m (upd sc (n + 1) 0) (upd pl (n + 1) (-1)) od ∧ (g1 = gs ∨ w.heap.size ≤ g1) ∧ (g2 = gp ∨ w.heap.size ≤ g2) ∧ Kf (Foot b gs gp go) w w'

set_option maxHeartbeats 6400000 in
set_option maxRecDepth 100000 in
theorem add_any (w : World) (h : QAt w b gs cs gp cp go co n m sc pl od) (hn : n + 1 ≤ 1000) :
    Calls Try.prog 34 #[.pointer (some ⟨b, 0, none⟩)] w (AddPost b gs gp go co n m sc pl od w) := by
  have c0 := h.h0
  have hb := h.lt
  have HQ := Lib.hid h
  have HO : Hid (Row 2 (w.alloc (.cells #[.int .i64 0] 2)) gs (n + 1) cs sc) := h.scs.alloc _
  clear h
  go_enter Try.func34, Try.ntmps34
  go_wp2_with (at_builtin; refine wpList_append_row _ rfl _ _ 49 2 rfl Try.underlying49 info_int64 gs (n + 1) cs _ rfl HO.out (by omega) w.heap.size 1 0 rfl (by simp) ?_)
  intro g1 k1 w1 hr hg' hgr
  have hgq : g1 = gs ∨ w.heap.size + 1 ≤ g1 := by simpa using hg'
  have HQ1 := Lib.hid (HQ.out.pushS hr hgq hgr)
  have HG1 : Hid (g1 = gs ∨ w.heap.size ≤ g1) := by
    rcases hgq with e | e
    · exact .inl e
    · exact .inr (by omega)
  have HK1 : Hid (Kf (Foot b gs gp go) w (w1.setCell ⟨b, 0, none⟩ (.slice (some ⟨g1, 0, none⟩) (n + 1 + 1) k1))) :=
    (((Kf.refl _ _).alloc _).grown hgr (fun k hk => .inl (by injection hk with e; subst e; exact .inr (.inl rfl)))).set (.inl (.inl rfl)) _
  have hbn : b ≠ gs := HQ.out.ne.1
  have hbk : w1.heap[b]? = w.heap[b]? := (hgr.block b (by simp; omega) (fun e => hbn (Option.some.inj e))).trans (Below.heap_alloc _ _ _ hb)
  have d0 : w1.cell? ⟨b, 0, none⟩ = some (.slice (some ⟨gs, 0, none⟩) (n + 1) cs) := by rw [World.cell?_of_block (w := w) (a := ⟨b, 0, none⟩) hbk]; exact c0
  have f0 : w1.frozen? ⟨b, 0, none⟩ = false := by rw [World.frozen?_of_block (w := w) (a := ⟨b, 0, none⟩) hbk]; exact HQ.out.free 0
  have HZ : Hid (w.heap.size ≤ (w1.setCell ⟨b, 0, none⟩ (.slice (some ⟨g1, 0, none⟩) (n + 1 + 1) k1)).heap.size) := HK1.out.size
  clear hr hg' hgr hgq hbk hbn c0 HO hb
  have hW : (w1.setCell ⟨b, 0, none⟩ (.slice (some ⟨g1, 0, none⟩) (n + 1 + 1) k1)).heap.size = w1.heap.size := by simp [World.setCell]
  have c1 := HQ1.out.h1
  have hb : b < w1.heap.size := by rw [← hW]; exact HQ1.out.lt
  have HO : Hid (Row 3 ((w1.setCell ⟨b, 0, none⟩ (.slice (some ⟨g1, 0, none⟩) (n + 1 + 1) k1)).alloc (.cells #[.int .i64 (-1)] 3)) gp (n + 1) cp pl) := HQ1.out.pls.alloc _
  have HY : Hid (((w1.setCell ⟨b, 0, none⟩ (.slice (some ⟨g1, 0, none⟩) (n + 1 + 1) k1)).alloc (.cells #[.int .i64 (-1)] 3)).cell? ⟨w1.heap.size, 0, none⟩ = some (.int .i64 (-1))) := by
    show World.cell? _ _ = _
    rw [← hW, Lib.cell_of_heap (blk_new _ _)]; rfl
  have HW := Lib.hid hW
  clear hW
  go_wp2_with (at_builtin; refine wpList_append_row _ rfl _ _ 51 3 rfl Try.underlying51 info_int gp (n + 1) cp _ rfl HO.out (by omega) w1.heap.size 1 (-1) rfl HY.out ?_)
  intro g2 k2 w3 hr hg' hgr
  have hgq : g2 = gp ∨ w1.heap.size + 1 ≤ g2 := by simpa using hg'
  have HQ2 := Lib.hid (HQ1.out.pushP hr (by rw [HW.out]; exact hgq) hgr)
  have HG2 : Hid (g2 = gp ∨ w.heap.size ≤ g2) := by
    have := HZ.out
    rw [HW.out] at this
    rcases hgq with e | e
    · exact .inl e
    · exact .inr (by omega)
  have HK2 : Hid (Kf (Foot b gs gp go) w (w3.setCell ⟨b, 1, none⟩ (.slice (some ⟨g2, 0, none⟩) (n + 1 + 1) k2))) :=
    ((HK1.out.alloc _).grown hgr (fun k hk => .inl (by injection hk with e; subst e; exact .inr (.inr (.inl rfl))))).set (.inl (.inl rfl)) _
  have hbn : b ≠ gp := HQ1.out.ne.2.1
  have hbk : w3.heap[b]? = (w1.setCell ⟨b, 0, none⟩ (.slice (some ⟨g1, 0, none⟩) (n + 1 + 1) k1)).heap[b]? := (hgr.block b (by simp; omega) (fun e => hbn (Option.some.inj e))).trans (Below.heap_alloc _ _ _ (by rw [HW.out]; exact hb))
  have d0 : w3.cell? ⟨b, 1, none⟩ = some (.slice (some ⟨gp, 0, none⟩) (n + 1) cp) := by rw [World.cell?_of_block (w := (w1.setCell ⟨b, 0, none⟩ (.slice (some ⟨g1, 0, none⟩) (n + 1 + 1) k1))) (a := ⟨b, 1, none⟩) hbk]; exact c1
  have f0 : w3.frozen? ⟨b, 1, none⟩ = false := by rw [World.frozen?_of_block (w := (w1.setCell ⟨b, 0, none⟩ (.slice (some ⟨g1, 0, none⟩) (n + 1 + 1) k1))) (a := ⟨b, 1, none⟩) hbk]; exact HQ1.out.free 1
  have HV := Lib.hid (qvars_any (n := n + 1) _ HQ2.out hn)
  clear hr hg' hgr hgq hbk hbn c1 HO hb
  go_wp2_with fail
  refine HV.out.mono ?_
  rintro e w' ⟨rfl, rfl⟩
  go_wp2_with fail
  go_ret
  exact ⟨g1, k1, g2, k2, ret_int (by omega), HQ2.out, HG1.out, HG2.out, HK2.out⟩
end
end Go.Proofs.Ytffpggdbmfidcaa
