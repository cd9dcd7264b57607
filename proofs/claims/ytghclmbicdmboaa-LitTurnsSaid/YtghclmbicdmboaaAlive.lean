/- The chapter's examples come out as they stand there: litAlive is true. -/
import Derived.Test.YtghclmbicdmboaaLitE
namespace Go.Proofs.Ytghclmbicdmboaa
open Go.RowKit LitM

theorem Rd.new (k : IntKind) (w : World) (T : TypeId) (cs : Array Value) (n : Nat) (xs : List Int) (hn : xs.length = n) (hc : cs = (xs.map (Value.int k)).toArray) :
    Rd k (w.alloc (.cells cs T)) (w.alloc (.cells cs T)).heap.size (some ⟨w.heap.size, 0, none⟩) n xs := by
  refine ⟨hn, fun _ => ⟨w.heap.size, 0, rfl, by simp, fun j hj => ?_⟩⟩
  rw [World.cell?_alloc_at _ _ _ _ rfl, hc]
  simp only [Nat.zero_add]
  rw [List.getElem?_toArray, List.getElem?_map, List.getElem?_eq_getElem (by omega), getD_lt (by omega)]
  rfl
theorem below_alloc (w : World) (o : Obj) : Below w.heap.size w (w.alloc o) := (Below.refl _ _).alloc (Nat.le_refl _) _

theorem ex_clean {ys : List Int} (h : IsClean [3, -1, 3] ys) : ys = [-1, 3] := h.unique ⟨by decide, fun x => by simp; omega⟩
theorem ex_resolve {ys : List Int} (h : IsClean (restL [1, 2] [-1, 3] 1) ys) : ys = [2, 3] := h.unique ⟨by decide, fun x => by
  have : restL [1, 2] [-1, 3] 1 = [2, 3] := by decide
  rw [this]⟩

theorem rdA (W : World) : Rd .i32 ((W.alloc (.cells #[.int .i32 1, .int .i32 2] 29)).alloc (.cells #[.int .i32 (-1), .int .i32 3] 29)) ((W.alloc (.cells #[.int .i32 1, .int .i32 2] 29)).alloc (.cells #[.int .i32 (-1), .int .i32 3] 29)).heap.size (some ⟨W.heap.size, 0, none⟩) 2 [1, 2] :=
  ((Rd.new .i32 W 29 #[.int .i32 1, .int .i32 2] 2 [1, 2] rfl rfl).alloc (Nat.le_refl _) _).more (by simp)
theorem rdB (W : World) : Rd .i32 ((W.alloc (.cells #[.int .i32 1, .int .i32 2] 29)).alloc (.cells #[.int .i32 (-1), .int .i32 3] 29)) ((W.alloc (.cells #[.int .i32 1, .int .i32 2] 29)).alloc (.cells #[.int .i32 (-1), .int .i32 3] 29)).heap.size (some ⟨W.heap.size + 1, 0, none⟩) 2 [-1, 3] := by
  have h := Rd.new .i32 (W.alloc (.cells #[.int .i32 1, .int .i32 2] 29)) 29 #[.int .i32 (-1), .int .i32 3] 2 [-1, 3] rfl rfl
  have e : (W.alloc (.cells #[.int .i32 1, .int .i32 2] 29)).heap.size = W.heap.size + 1 := by simp
  rw [e] at h
  exact h

set_option maxHeartbeats 1600000 in
theorem alive_any (w : World) : Calls Try.prog 5 #[] w fun e w' => e = .returned (.bool true) ∧ Below w.heap.size w w' := by
  have hRA : ∀ W : World, Rd .i32 (W.alloc (.cells #[.int .i32 3, .int .i32 (-1), .int .i32 3] 29)) (W.alloc (.cells #[.int .i32 3, .int .i32 (-1), .int .i32 3] 29)).heap.size (some ⟨W.heap.size, 0, none⟩) 3 [3, -1, 3] := fun W => Rd.new _ _ _ _ _ _ rfl rfl
  have HRA := Lib.hid hRA; clear hRA
  go_enter Try.func5, Try.ntmps5
  go_wp2_with fail
  refine (clean_yes _ 3 3 [3, -1, 3] _ (HRA.out w) (by omega) (by decide)).mono ?_
  rintro e w1 ⟨A1, m1, c1, ys, rfl, hR1, hC1, hB1⟩
  obtain rfl := ex_clean hC1
  have hm1 := hR1.len
  obtain rfl : 2 = m1 := hm1
  have HR1 := Lib.hid hR1
  have HB1 := Lib.hid ((below_alloc w _).trans (hB1.mono (by simp)))
  clear hR1 hC1 hB1
  go_wp2_with fail
  refine (resolve_yes _ _ 2 2 2 2 [1, 2] [-1, 3] 1 _ (rdA w1) (rdB w1) (by omega) (by omega) (by decide) (by decide) (by omega) (by omega) (by decide) (by decide)).mono ?_
  rintro e w2 ⟨A2, m2, c2, zs, rfl, hR2, hC2, hB2⟩
  obtain rfl := ex_resolve hC2
  have hm2 := hR2.len
  obtain rfl : 2 = m2 := hm2
  have HR2 := Lib.hid hR2
  have hB2' : Below w1.heap.size w1 w2 := (((below_alloc w1 _).alloc (by simp) _).trans (hB2.mono (by simp; omega)))
  have HB2 := Lib.hid (HB1.out.trans (hB2'.mono HB1.out.size))
  have HR1' := Lib.hid (HR1.out.below hB2')
  have HB2' := Lib.hid hB2'
  clear hR2 hC2 hB2 hB2'
  go_wp2_with fail
  have hx1 : Rd .i32 (w2.alloc (.cells #[.int .i32 (-1), .int .i32 3] 29)) (w2.alloc (.cells #[.int .i32 (-1), .int .i32 3] 29)).heap.size A1 2 [-1, 3] := ((HR1'.out.more (by have := HB2'.out.size; omega)).alloc (Nat.le_refl _) _).more (by simp)
  have hx2 := Rd.new .i32 w2 29 #[.int .i32 (-1), .int .i32 3] 2 [-1, 3] rfl rfl
  refine (same_any A1 _ 2 c1 2 2 [-1, 3] [-1, 3] _ _ hx1 hx2 (by omega) (by omega)).mono ?_
  rintro e w3 ⟨rfl, q, rfl⟩
  rw [show sameB [-1, 3] [-1, 3] = true from by decide]
  clear hx1 hx2
  have hx3 : ∀ W : World, Below w2.heap.size w2 W → Rd .i32 (W.alloc (.cells #[.int .i32 2, .int .i32 3] 29)) (W.alloc (.cells #[.int .i32 2, .int .i32 3] 29)).heap.size A2 2 [2, 3] := fun W hW =>
    (((HR2.out.below hW).more hW.size).alloc (Nat.le_refl _) _).more (by simp)
  have HX3 := Lib.hid hx3
  have HX4 := Lib.hid fun W : World => Rd.new .i32 W 29 #[.int .i32 2, .int .i32 3] 2 [2, 3] rfl rfl
  have HXB := Lib.hid (below_drewN (below_alloc w2 (.cells #[.int .i32 (-1), .int .i32 3] 29)) q)
  clear hx3
  generalize (w2.alloc (.cells #[.int .i32 (-1), .int .i32 3] 29)).drewN q = w3 at *
  go_wp2_with fail
  refine (same_any A2 _ 2 c2 2 2 [2, 3] [2, 3] _ _ (HX3.out w3 HXB.out) (HX4.out w3) (by omega) (by omega)).mono ?_
  rintro e w4 ⟨rfl, q4, rfl⟩
  rw [show sameB [2, 3] [2, 3] = true from by decide]
  go_wp2_with fail
  go_ret
  exact ⟨rfl, HB2.out.trans ((HXB.out.trans ((below_drewN (below_alloc w3 _) q4).mono HXB.out.size)).mono HB2.out.size)⟩
end Go.Proofs.Ytghclmbicdmboaa
