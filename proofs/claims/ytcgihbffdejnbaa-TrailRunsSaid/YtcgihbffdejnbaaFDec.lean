/- The plain answer's trail: the contract of Decide. -/
import Derived.Test.YtcgihbffdejnbaaFSet
namespace Go.Proofs.Ytcgihbffdejnbaa
open Go.RowKit LitM TrailM

set_option maxHeartbeats 6400000 in
set_option maxRecDepth 100000 in
theorem rdecide_any {n d : Nat} {L : List Ent} (A : Option Addr) (c : Nat) (l : Int) (w : World) (h : EnAt w A c L) (hO : Pre n d L) (hn : n ≤ 90000) (hd : d ≤ 90000) (l0 : -2147483648 ≤ l) (l1 : l ≤ 2147483647) :
    Calls Try.prog 14 #[trV n d A L.length c, .int .i32 l] w (FTo A n (decD n d L l) (decL n d L l) (errZ n L l) w) := by
  have HS : Hid (∀ W, EnAt W A c L → Calls Try.prog 13 #[trV n ((d : Int) + 1) A L.length c, .int .i32 l, .int .i64 (-1)] W (FTo A n (d + 1) (decL n d L l) (errZ n L l) W)) := fun W hW => rset_any A c l (-1) W hW hO.deep hn l0 l1
  have HEn := Lib.hid h
  clear h hO
  obtain ⟨W3, hW3⟩ : ∃ W3, W3 = (((w.alloc (.cells #[.int .i64 (n : Int), .int .i64 (d : Int), .slice A L.length c] 36)).alloc (.cells #[.int .i64 0, .int .i64 0, .slice none 0 0] 36)).alloc (.cells #[.int .i64 (n : Int), .int .i64 ((d : Int) + 1), .slice A L.length c] 36)) := ⟨_, rfl⟩
  have HB3 : Hid (Below w.heap.size w W3) := by unfold Hid; rw [hW3]; exact (((Below.refl _ _).alloc (Nat.le_refl _) _).alloc (by simp) _).alloc (by simp; omega) _
  have HZ3 : Hid (W3.heap.size = w.heap.size + 3) := by unfold Hid; rw [hW3]; simp
  have hh0 : W3.heap[w.heap.size]? = some (.cells #[.int .i64 (n : Int), .int .i64 (d : Int), .slice A L.length c] 36 (0, 0)) := by
    rw [hW3, Below.heap_alloc _ _ _ (by simp; omega), Below.heap_alloc _ _ _ (by simp)]; exact blk_new _ _
  have hh1 : W3.heap[w.heap.size + 1]? = some (.cells #[.int .i64 0, .int .i64 0, .slice none 0 0] 36 (0, 0)) := by
    rw [hW3, Below.heap_alloc _ _ _ (by simp)]
    have := blk_new (w.alloc (.cells #[.int .i64 (n : Int), .int .i64 (d : Int), .slice A L.length c] 36)) (.cells #[.int .i64 0, .int .i64 0, .slice none 0 0] 36)
    simpa using this
  have HH0 := Lib.hid hh0
  have HH1 := Lib.hid hh1
  have HC := Lib.hid (HS.out W3 (SlV.below HEn.out HB3.out))
  have HW3 := Lib.hid hW3
  clear hh0 hh1 HS
  rw [hW3] at HC
  clear hW3
  go_enter Try.func14, Try.ntmps14
  go_wp2_with fail
  refine HC.out.mono ?_
  rw [← HW3.out]
  rintro e w4 ⟨A2, c2, rfl, hEn2, hA2, hB4⟩
  have hz4 := hB4.size
  rw [HZ3.out] at hz4
  have hB5 : Below (w.heap.size + 3) W3 (w4.alloc (.cells #[.int .i64 (n : Int), .int .i64 ((d + 1 : Nat) : Int), .slice A2 (decL n d L l).length c2] 36)) := (hB4.mono (by have := HZ3.out; omega)).alloc (by omega) _
  have hg0 := (hB5.block w.heap.size (by omega)).trans HH0.out
  have hg1 := (hB5.block (w.heap.size + 1) (by omega)).trans HH1.out
  have hEn5 : EnAt (w4.alloc (.cells #[.int .i64 (n : Int), .int .i64 ((d + 1 : Nat) : Int), .slice A2 (decL n d L l).length c2] 36)) A2 c2 (decL n d L l) := SlV.alloc hEn2 _
  have hgn : ¬ onB A2 (w.heap.size + 1) := fun e => by
    rcases hEn2 with ⟨hA, _⟩ | ⟨g, hA, hr⟩
    · rw [hA] at e; exact onB_none _ e
    · rw [hA, onB_some] at e
      obtain ⟨cur, hh, _⟩ := hr
      have := (hB4.block (w.heap.size + 1) (by have := HZ3.out; omega)).trans HH1.out
      rw [show g = w.heap.size + 1 from e.symm, this] at hh
      injection hh with hh
      injection hh with _ hh
      exact absurd hh (by decide)
  obtain ⟨s0, s1, s2⟩ := cells3 hg0
  obtain ⟨u0, u1, u2⟩ := cells3 hg1
  have uf := Lib.frozen_of_heap hg1
  have hd1 : ((d + 1 : Nat) : Int) = (d : Int) + 1 := by omega
  by_cases he : errZ n L l = 0
  · have e1 : decD n d L l = d + 1 := by unfold decD; rw [if_pos he]
    have E1 := Lib.hid e1
    have E2 := Lib.hid he
    rw [he]
    have hnew := blk_new w4 (.cells #[.int .i64 (n : Int), .int .i64 ((d + 1 : Nat) : Int), .slice A2 (decL n d L l).length c2] 36)
    obtain ⟨x0, x1, x2⟩ := cells3 hnew
    have hq3 := three_set hg1 (.int .i64 (n : Int)) (.int .i64 ((d + 1 : Nat) : Int)) (.slice A2 (decL n d L l).length c2)
    obtain ⟨p0, p1, p2⟩ := cells3 hq3
    have hB6 := ((((HB3.out.trans (hB5.mono (by omega))).setCell (p := ⟨w.heap.size + 1, 0, none⟩) (by simp) (.int .i64 (n : Int))).setCell (p := ⟨w.heap.size + 1, 1, none⟩) (by simp) (.int .i64 ((d + 1 : Nat) : Int))).setCell (p := ⟨w.heap.size + 1, 2, none⟩) (by simp) (.slice A2 (decL n d L l).length c2))
    have HE := Lib.hid (show FTo A n (d + 1) (decL n d L l) 0 w (.returned (.tuple #[trV n ((d + 1 : Nat) : Int) A2 (decL n d L l).length c2, .int .i64 0])) _ from ⟨A2, c2, rfl, SlV.other (SlV.other (SlV.other hEn5 hgn _) hgn _) hgn _, fun j hj => (hA2 j hj).imp id (fun h => by have := HZ3.out; omega), hB6⟩)
    clear hA2 hq3 hnew hg0 hg1 hB5 hB4 hEn2 hEn5 hgn hB6 HC he e1
    generalize (decL n d L l).length = m2 at *
    rw [hd1] at s0 s1 s2 u0 u1 u2 uf x0 x1 x2 p0 p1 p2 HE ⊢
    go_wp2_with fail
    refine bodyPost_ret (v := .tuple #[trV n ((d : Int) + 1) A2 m2 c2, .int .i64 0]) (by simp [results, Try.results14, go_sem, p0, p1, p2]) rfl ?_
    rw [E1.out, E2.out]
    exact HE.out
  · have e1 : decD n d L l = d := by unfold decD; rw [if_neg he]
    have e2 : decL n d L l = L := by unfold decL; rw [if_neg he]
    have E1 := Lib.hid e1
    have E2 := Lib.hid e2
    rw [e2] at s0 s1 s2 u0 u1 u2 uf hg1 hB5 ⊢
    have te : (errZ n L l != 0) = true := by rw [bne_iff_ne]; exact he
    have hq3 := three_set hg1 (.int .i64 (n : Int)) (.int .i64 (d : Int)) (.slice A L.length c)
    obtain ⟨p0, p1, p2⟩ := cells3 hq3
    have hB6 := ((((HB3.out.trans (hB5.mono (by omega))).setCell (p := ⟨w.heap.size + 1, 0, none⟩) (by simp) (.int .i64 (n : Int))).setCell (p := ⟨w.heap.size + 1, 1, none⟩) (by simp) (.int .i64 (d : Int))).setCell (p := ⟨w.heap.size + 1, 2, none⟩) (by simp) (.slice A L.length c))
    have HE := Lib.hid (show FTo A n d L (errZ n L l) w (.returned (.tuple #[trV n d A L.length c, .int .i64 (errZ n L l)])) _ from ⟨A, c, rfl, SlV.below HEn.out hB6, fun j hj => .inl hj, hB6⟩)
    clear hA2 hq3 hg0 hg1 hB5 hB4 hEn2 hEn5 hgn hB6 HC he e1 e2
    generalize errZ n L l = er at *
    rw [hd1] at s0 s1 s2 u0 u1 u2 uf p0 p1 p2 HE ⊢
    go_wp2_with fail
    refine bodyPost_ret (v := .tuple #[trV n d A L.length c, .int .i64 er]) (by simp [results, Try.results14, go_sem, p0, p1, p2]) rfl ?_
    rw [E1.out, E2.out]
    exact HE.out
end Go.Proofs.Ytcgihbffdejnbaa
