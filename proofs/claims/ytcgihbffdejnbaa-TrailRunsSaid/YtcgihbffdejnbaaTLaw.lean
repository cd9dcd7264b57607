/- What the laws of layer 4 share: the last step of a row; the slices that came in. -/
import Derived.Test.YtcgihbffdejnbaaTLive
import Derived.ProofKit
import Derived.OpenShut
import Derived.SizedLaws
import Derived.Deep.DeepCutAuto
import Derived.Deep.Slices
import Derived.Deep.Fields
import Derived.ChangeSame
namespace Go.Proofs.Ytcgihbffdejnbaa
open Go.ChangeShapes Go.WideShapes Go.ChangeAt Go.RowKit LitM TrailM

theorem own_knob : ownKnob Try.prog.godebug = none := by kernel_rfl
theorem laid_out : laidOutB Try.prog = true := by kernel_rfl
theorem cells_lit : Try.prog.cellsOf 26 = 1 := by kernel_rfl
theorem bytes_lit : Try.prog.bytesOf 26 = 4 := by kernel_rfl
theorem i32_of {n : Int} (h : (Lit.int .i32 n).wf = true) : -2147483648 ≤ n ∧ n ≤ 2147483647 := by
  simpa [Lit.wf, IntKind.min, IntKind.max, IntKind.bits, IntKind.signed] using h
theorem i64_of {n : Int} (h : (Lit.int .i64 n).wf = true) : -9223372036854775808 ≤ n ∧ n ≤ 9223372036854775807 := by
  simpa [Lit.wf, IntKind.min, IntKind.max, IntKind.bits, IntKind.signed] using h
/-- A slice of literals that came in. -/
theorem open_lits {H : Type} {enc : TypeId × Value → H} {W : World} {base : Nat} {v : Value} {d : DataW H} {p : List MemPlace} (hok : Value.okWide Try.prog W .any base 28 v)
    (h : DataW.Trod enc Try.prog W 0 (fun _ => true) true 28 v d p) :
    ∃ A n c xs, v = .slice A n c ∧ Rd .i32 W W.heap.size A n xs ∧ In32 xs ∧ n ≤ 9223372036854775807 ∧ (A = none → n = 0 ∧ c = 0) := by
  obtain ⟨a0, len, cap, rfl⟩ := okWide_slice Try.underlying28 hok
  obtain ⟨fuel, hf⟩ := h
  rcases open_ints Try.underlying28 Try.underlying26 cells_lit hf with ⟨hcs, _⟩ | ⟨a, len', cap', zs, hcs, _, hl, hmx, hz, _, hcell, hwz⟩
  · simp [Value.cells] at hcs
    obtain ⟨rfl, rfl, rfl⟩ := hcs
    exact ⟨none, 0, 0, [], rfl, Rd.nil, In32.of (by simp), by omega, fun _ => ⟨rfl, rfl⟩⟩
  · simp [Value.cells] at hcs
    obtain ⟨rfl, rfl, rfl⟩ := hcs
    simp only [if_true] at hz
    have hm : len ≤ 9223372036854775807 := by unfold maxLen at hmx; omega
    refine ⟨some a, len, cap, zs.take len, rfl, ⟨by simp; omega, fun hn => ?_⟩, In32.of fun x hx => ?_, hm, fun e => by cases e⟩
    · obtain ⟨b, off, spot⟩ := a
      have hspot : spot = none := by simpa [Addr.add] using World.cell?_spot (hcell 0 (by omega))
      subst hspot
      have hcell' : ∀ j, j < zs.length → W.cell? ⟨b, off + j, none⟩ = some (.int .i32 (zs.getD j 0)) := fun j hj => by rw [← add_plain]; exact hcell j hj
      refine ⟨b, off, rfl, World.block_lt_of_cell? _ _ (hcell' 0 (by omega)), fun j hj => ?_⟩
      rw [hcell' j (by omega), getD_lt (show j < zs.length by omega), getD_lt (show j < (zs.take len).length by simp; omega)]
      simp
    · exact i32_of (hwz x (List.mem_of_mem_take hx))
/-- The things done, as they came in: a kind, a literal and a number each. -/
def Acts (w : World) (B : Nat) (A : Option Addr) (n : Nat) : Prop :=
  ∀ j, j < n → ∃ (b o : Nat) (k l y : Int), A = some ⟨b, o, none⟩ ∧ b < B ∧ (-2147483648 ≤ l ∧ l ≤ 2147483647) ∧ w.cell? ⟨b, o + j * 3, none⟩ = some (.int .i64 k) ∧ w.cell? ⟨b, o + j * 3 + 1, none⟩ = some (.int .i32 l) ∧ w.cell? ⟨b, o + j * 3 + 2, none⟩ = some (.int .i64 y)
theorem Acts.below {w w' : World} {B n : Nat} {A : Option Addr} (h : Acts w B A n) (hb : Below B w w') : Acts w' B A n := fun j hj => by
  obtain ⟨b, o, k, l, y, e, hlt, hl, c0, c1, c2⟩ := h j hj
  exact ⟨b, o, k, l, y, e, hlt, hl, (hb.cell (p := ⟨b, o + j * 3, none⟩) hlt).trans c0, (hb.cell (p := ⟨b, o + j * 3 + 1, none⟩) hlt).trans c1, (hb.cell (p := ⟨b, o + j * 3 + 2, none⟩) hlt).trans c2⟩
theorem cells_act : Try.prog.cellsOf 38 = 3 := by kernel_rfl
theorem one_of {cs : List Value} {i : Nat} {u : Value} (h : (cs.drop i).take 1 = [u]) : cs[i]? = some u := by
  have := congrArg (fun l => l[0]?) h
  simpa [List.getElem?_take, List.getElem?_drop] using this
/-- The things done that came in. -/
theorem open_acts {H : Type} {enc : TypeId × Value → H} {W : World} {base : Nat} {v : Value} {d : DataW H} {p : List MemPlace} (hok : Value.okWide Try.prog W .any base 33 v)
    (h : DataW.Trod enc Try.prog W 0 (fun _ => true) true 33 v d p) :
    ∃ A n c, v = .slice A n c ∧ Acts W W.heap.size A n ∧ n ≤ 9223372036854775807 := by
  obtain ⟨a0, len, cap, rfl⟩ := okWide_slice Try.underlying33 hok
  obtain ⟨fuel, hf⟩ := h
  rcases Go.Deep.open_slice Try.underlying33 hf with ⟨hcs, _⟩ | ⟨a, len', cap', m, n0, D, Pl, hcs, _, hl, hmx, hm, _, hi⟩
  · simp [Value.cells] at hcs
    obtain ⟨rfl, rfl, rfl⟩ := hcs
    exact ⟨none, 0, 0, rfl, fun j hj => by omega, by omega⟩
  · simp [Value.cells] at hcs
    obtain ⟨rfl, rfl, rfl⟩ := hcs
    simp only [if_true] at hm
    have hmax : len ≤ 9223372036854775807 := by unfold maxLen at hmx; omega
    have elem : ∀ j, j < len → ∃ k0 k1 k2 : Int, W.cell? (a.add (j * 3)) = some (.int .i64 k0) ∧ (-2147483648 ≤ k1 ∧ k1 ≤ 2147483647) ∧ W.cell? (a.add (j * 3 + 1)) = some (.int .i32 k1) ∧ W.cell? (a.add (j * 3 + 2)) = some (.int .i64 k2) := by
     intro j hj
     obtain ⟨cs, hc, ht⟩ := hi j (by omega)
     rw [cells_act] at hc
     obtain ⟨xs, n1, _, _, _, hxl, hfld⟩ := DataW.trod_struct Try.underlying38 ht
     obtain ⟨_, hcl, hat⟩ := World.cells?_some hc
     have hxs : ∀ i, i < 3 → xs[i]? = some (xs.getD i (.nil, [])) := fun i hi3 => by
       have hlt : i < xs.length := by rw [hxl]; exact hi3
       simp [List.getD, List.getElem?_eq_getElem hlt]
     have field : ∀ (q : IntKind) (i : Nat) (T : TypeId), Try.prog.underlying T = some (.int q) → Try.prog.cellsOf T = 1 → i < 3 → DataW.trod enc Try.prog W 0 (fun _ => true) true n1 T ((cs.drop i).take (Try.prog.cellsOf T)) = xs[i]? → ∃ k : Int, (Lit.int q k).wf = true ∧ W.cell? (a.add (j * 3 + i)) = some (.int q k) := by
       intro q i T hu h1 hi3 hx
       rw [h1] at hx
       obtain ⟨k, hk, hw⟩ := DataW.trod_int hu (hx.trans (hxs i hi3))
       have e := one_of hk
       exact ⟨k, hw.2, by rw [← Go.Deep.add_add, hat i hi3]; exact e⟩
     obtain ⟨k0, _, h0⟩ := field .i64 0 3 Try.underlying3 (by kernel_rfl) (by omega) (hfld 0 _ rfl)
     obtain ⟨k1, w1, h1⟩ := field .i32 1 26 Try.underlying26 (by kernel_rfl) (by omega) (hfld 1 _ rfl)
     obtain ⟨k2, _, h2⟩ := field .i64 2 3 Try.underlying3 (by kernel_rfl) (by omega) (hfld 2 _ rfl)
     exact ⟨k0, k1, k2, h0, i32_of w1, h1, h2⟩
    obtain ⟨b, off, spot⟩ := a
    refine ⟨some ⟨b, off, spot⟩, len, cap, rfl, fun j hj => ?_, hmax⟩
    obtain ⟨k0, k1, k2, h0, w1, h1, h2⟩ := elem j hj
    obtain ⟨_, _, _, z0, _, _, _⟩ := elem 0 (by omega)
    have hspot : spot = none := by simpa [Addr.add] using World.cell?_spot z0
    subst hspot
    rw [add_plain] at h0 h1 h2
    exact ⟨b, off, k0, k1, k2, rfl, World.block_lt_of_cell? _ _ h0, w1, h0, h1, h2⟩

end Go.Proofs.Ytcgihbffdejnbaa
