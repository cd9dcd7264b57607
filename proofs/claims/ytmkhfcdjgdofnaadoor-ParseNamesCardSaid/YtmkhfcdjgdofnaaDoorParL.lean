/- What the rows of layer 15 share: what the listed variables give, the wrap that hands them over, the witness. -/
import Derived.Test.YtmkhfcdjgdofnaaDoorParG
import Derived.Test.YtmkhfcdjgdofnaaDoorCards
import Derived.Test.YtmkhfcdjgdofnaaDoorTie
import Derived.ProofKit
import Derived.OpenShut
import Derived.SizedLaws
import Derived.LaidMore
import Derived.Lay
import Derived.SevenTiedAt
import Derived.Stop.Joined
import Derived.Shelf.Vars
import Derived.Lib.LaidTab
namespace Go.Proofs.YtmkhfcdjgdofnaaDoor
open Go.ChangeShapes Go.WideShapes Go.ChangeAt Go.RowKit WrdM ParM

theorem own_knob : ownKnob Tryd.prog.godebug = none := by kernel_rfl

/-- The wrap: a row that lists variables; the contract is handed what they read as, and the world's shape. -/
theorem returns_laid {H : Type} {enc : TypeId × Value → H} {a : Assume} {C : Checked} {os : Os} {f : FuncId} {fn : Func} {s : ChangeSpec} {conds : List PathCond} {apart fresh handsOn again : Bool} {X : World → Array Value → Prop}
    (hX : ∀ (w w' : World) (args : Array Value), w.heap = w'.heap → X w args → X w' args)
    (own : ownKnob C.prog.godebug = none) (started : os.Started) (noInit : C.prog.inits.idxOf? f = none) (hfn : C.prog.funcs[f]? = some fn)
    (witness : ∃ (w : World) (tape : Tape) (i : Input), w.os = os ∧ (w.forCall tape i).Shaped C.prog ∧ i.vars = [] ∧ Input.okWide C.prog (w.forCall tape i) .any w.heap.size f i ∧
      ((s.pre enc C.prog fn conds apart (w.forCall tape i).memory i.args ∧ X (w.forCall tape i).memory i.args) ∧ sizedMet enc C.prog fn (OpenSpec.ofChange s) apart (w.forCall tape i).memory i.args) ∧ a.holds C.prog (lone (Frame.enter C.prog f i.args .normal) [] (w.forCall tape i)))
    (contract : ∀ (W : World) (base : Nat) (args : Array Value) (ds gs : List (DataW H)) (before : List MemPlace),
      (∀ (j : Nat) t v, fn.params[j]? = some t → args[j]? = some v → Value.okWide C.prog W .any base t v) →
      DataW.Whole enc C.prog fn.params.toList s.vars apart W args.toList ds gs before → X W args → W.ShapedOpen C.prog →
      Calls C.prog f args W fun e W' => ∃ v, e = .returned v ∧ s.post enc C.prog fn apart fresh handsOn again W args v W') :
    ReturnsInHanded a C os f .any (fun w args => (s.pre enc C.prog fn conds apart w args ∧ X w args) ∧ sizedMet enc C.prog fn (OpenSpec.ofChange s) apart w args) (s.post enc C.prog fn apart fresh handsOn again) := by
  refine returnsInHanded_of_calls own started noInit witness ?_
  intro w tape i _ hsh _ hok hpre _
  obtain ⟨_, _, _, fn', hfn', _, _, _, _, hval⟩ := hok
  obtain rfl : fn' = fn := Option.some.inj (hfn'.symm.trans hfn)
  obtain ⟨⟨⟨ds, gs, before, hw, _⟩, hx⟩, _⟩ := hpre
  refine (contract (w.forCall tape i) w.heap.size i.args ds gs before hval (DataW.Whole.of_heap (w' := w.forCall tape i) (by rfl) hw) (hX _ _ _ (by rfl) hx) hsh).mono fun e W' ⟨v, he, hp⟩ => ?_
  subst he
  exact ChangeSpec.post_blind hp

abbrev laidL : List (String × DataW Unit) := [("lariat/word.signs", Rows.laid_lariat_word_signs), ("lariat/tree.signs", Rows.laid_lariat_tree_signs), ("lariat/parse.bindings", Rows.laid_lariat_parse_bindings)]
def bdL : List Int := [0, 0, 0, 0, 0, 0, 0, 0, 0, 0, 0, 0, 0, 0, 7, 6, 6, 5, 5, 5, 5, 5, 5, 4, 4, 4, 4, 3, 2, 1, 0]
theorem bdL_eq (j : Nat) (h1 : 14 ≤ j) (h2 : j < 31) : bdL.getD j 0 = bnd (j : Int) := by
  have : ∀ j : Nat, j < 31 → 14 ≤ j → bdL.getD j 0 = bnd (j : Int) := by decide
  exact this j h2 h1
set_option maxRecDepth 100000 in
/-- What the listed variables hold when the call begins. -/
theorem prg_of_laid {W : World} (h : laidMetH Tryd.prog laidL W) : PrG W := by
  rw [MakeChecks.laidMetH_plain _ _ _ (by kernel_rfl)] at h
  obtain ⟨_, hv, _⟩ := h
  obtain ⟨g1, t1, cs1, fuel1, p1, _, hg1, ht1, hvar1, hd1, hv, _⟩ := hv
  obtain ⟨g2, t2, cs2, fuel2, p2, _, hg2, ht2, hvar2, hd2, hv, _⟩ := hv
  obtain ⟨g3, t3, cs3, fuel3, p3, _, hg3, ht3, hvar3, hd3, _, _⟩ := hv
  have key1 : ∀ j, j < signL.length → W.cell? ⟨1, j, none⟩ = some (.string ⟨(signL.getD j []).toArray⟩) := by
    obtain rfl := Option.some.inj ((show Tryd.prog.globalNamed "lariat/word.signs" = some 1 by kernel_rfl).symm.trans hg1)
    obtain rfl := Option.some.inj ((show (Tryd.prog.globals[1]?).map (·.type) = some 113 by kernel_rfl).symm.trans ht1)
    obtain ⟨xs, m, _, hx, _, hn, hel⟩ := DataW.trod_array Tryd.underlying113 hd1
    have hxs : xs.map (·.1) = (signL.map fun x => (DataW.lit (.string x) : DataW Unit)) := by
      have := congrArg Prod.fst hx
      simp only at this
      have h2 : (Rows.laid_lariat_word_signs : DataW Unit) = .agg (signL.map fun x => (DataW.lit (.string x) : DataW Unit)) := rfl
      rw [h2] at this
      injection this with this
      exact this.symm
    have hxl : xs.length = signL.length := by
      have := congrArg List.length hxs
      simpa using this
    intro j hj
    have he := hel j (by have := hxl; have : signL.length = 23 := rfl; omega)
    rw [show Tryd.prog.cellsOf 9 = 1 from by kernel_rfl, Nat.mul_one, List.getElem?_eq_getElem (show j < xs.length by omega)] at he
    obtain ⟨s, hc, hs, _⟩ := DataW.trod_string Tryd.underlying9 he
    have h1 : (xs.map (·.1))[j]? = some (DataW.lit (.string s.data.toList) : DataW Unit) := by
      rw [List.getElem?_map, List.getElem?_eq_getElem (show j < xs.length by omega), hs]; rfl
    rw [hxs, List.getElem?_map, List.getElem?_eq_getElem hj] at h1
    simp only [Option.map_some, Option.some.injEq, DataW.lit.injEq, Lit.string.injEq] at h1
    have h2 : cs1.toList[j]? = some (.string s) := by
      have := congrArg (·[0]?) hc
      simpa [List.getElem?_take, List.getElem?_drop] using this
    rw [Array.getElem?_toList] at h2
    rw [World.var?_cell hg1 hvar1 j, h2, List.getD_eq_getElem?_getD, List.getElem?_eq_getElem hj, Option.getD_some, h1]
  have key2 : ∀ j, j < sgL.length → W.cell? ⟨2, j, none⟩ = some (.string ⟨(sgL.getD j []).toArray⟩) := by
    obtain rfl := Option.some.inj ((show Tryd.prog.globalNamed "lariat/tree.signs" = some 2 by kernel_rfl).symm.trans hg2)
    obtain rfl := Option.some.inj ((show (Tryd.prog.globals[2]?).map (·.type) = some 114 by kernel_rfl).symm.trans ht2)
    obtain ⟨xs, m, _, hx, _, hn, hel⟩ := DataW.trod_array Tryd.underlying114 hd2
    have hxs : xs.map (·.1) = (sgL.map fun x => (DataW.lit (.string x) : DataW Unit)) := by
      have := congrArg Prod.fst hx
      simp only at this
      have h2 : (Rows.laid_lariat_tree_signs : DataW Unit) = .agg (sgL.map fun x => (DataW.lit (.string x) : DataW Unit)) := rfl
      rw [h2] at this
      injection this with this
      exact this.symm
    have hxl : xs.length = sgL.length := by
      have := congrArg List.length hxs
      simpa using this
    intro j hj
    have he := hel j (by have := hxl; have : sgL.length = 31 := rfl; omega)
    rw [show Tryd.prog.cellsOf 9 = 1 from by kernel_rfl, Nat.mul_one, List.getElem?_eq_getElem (show j < xs.length by omega)] at he
    obtain ⟨s, hc, hs, _⟩ := DataW.trod_string Tryd.underlying9 he
    have h1 : (xs.map (·.1))[j]? = some (DataW.lit (.string s.data.toList) : DataW Unit) := by
      rw [List.getElem?_map, List.getElem?_eq_getElem (show j < xs.length by omega), hs]; rfl
    rw [hxs, List.getElem?_map, List.getElem?_eq_getElem hj] at h1
    simp only [Option.map_some, Option.some.injEq, DataW.lit.injEq, Lit.string.injEq] at h1
    have h2 : cs2.toList[j]? = some (.string s) := by
      have := congrArg (·[0]?) hc
      simpa [List.getElem?_take, List.getElem?_drop] using this
    rw [Array.getElem?_toList] at h2
    rw [World.var?_cell hg2 hvar2 j, h2, List.getD_eq_getElem?_getD, List.getElem?_eq_getElem hj, Option.getD_some, h1]
  have key3 : ∀ j, j < bdL.length → W.cell? ⟨0, j, none⟩ = some (.int .i64 (bdL.getD j 0)) := by
    obtain rfl := Option.some.inj ((show Tryd.prog.globalNamed "lariat/parse.bindings" = some 0 by kernel_rfl).symm.trans hg3)
    obtain rfl := Option.some.inj ((show (Tryd.prog.globals[0]?).map (·.type) = some 91 by kernel_rfl).symm.trans ht3)
    obtain ⟨xs, m, _, hx, _, hn, hel⟩ := DataW.trod_array Tryd.underlying91 hd3
    have hxs : xs.map (·.1) = (bdL.map fun x => (DataW.lit (.int .i64 x) : DataW Unit)) := by
      have := congrArg Prod.fst hx
      simp only at this
      have h2 : (Rows.laid_lariat_parse_bindings : DataW Unit) = .agg (bdL.map fun x => (DataW.lit (.int .i64 x) : DataW Unit)) := rfl
      rw [h2] at this
      injection this with this
      exact this.symm
    have hxl : xs.length = bdL.length := by
      have := congrArg List.length hxs
      simpa using this
    intro j hj
    have he := hel j (by have := hxl; have : bdL.length = 31 := rfl; omega)
    rw [show Tryd.prog.cellsOf 3 = 1 from by kernel_rfl, Nat.mul_one, List.getElem?_eq_getElem (show j < xs.length by omega)] at he
    obtain ⟨z, hc, hs, _⟩ := DataW.trod_int Tryd.underlying3 he
    have h1 : (xs.map (·.1))[j]? = some (DataW.lit (.int .i64 z) : DataW Unit) := by
      rw [List.getElem?_map, List.getElem?_eq_getElem (show j < xs.length by omega), hs]; rfl
    rw [hxs, List.getElem?_map, List.getElem?_eq_getElem hj] at h1
    simp only [Option.map_some, Option.some.injEq, DataW.lit.injEq, Lit.int.injEq, true_and] at h1
    have h2 : cs3.toList[j]? = some (.int .i64 z) := by
      have := congrArg (·[0]?) hc
      simpa [List.getElem?_take, List.getElem?_drop] using this
    rw [Array.getElem?_toList] at h2
    rw [World.var?_cell hg3 hvar3 j, h2, List.getD_eq_getElem?_getD, List.getElem?_eq_getElem hj, Option.getD_some, h1]
  have hlt : ∀ (g : Nat) (v : Value), W.cell? ⟨g, 0, none⟩ = some v → g < W.heap.size := fun g v h => World.block_lt_of_cell? _ _ h
  refine ⟨fun j hj => key1 j hj, fun j hj => key2 j hj, fun j h1 h2 => by rw [key3 j h2, bdL_eq j h1 h2], ?_⟩
  have h0 := key1 0 (by decide)
  have h1 := key2 0 (by decide)
  have h2 := key3 0 (by decide)
  have := hlt _ _ h0
  have := hlt _ _ h1
  have := hlt _ _ h2
  have e : 1 + 2 + 0 = 3 := rfl
  omega
/-- The start that fits: the listed variables laid. -/
theorem laid_shaped (os : Os) (args : Array Value) : ((World.laidAll Tryd.prog os laidL).forCall (fun _ _ => 0) ⟨#[], args, []⟩).Shaped Tryd.prog :=
  World.shaped_of_ZipB (by kernel_rfl) (by kernel_rfl)
theorem laid_met (os : Os) (args : Array Value) : laidMetH Tryd.prog laidL ((World.laidAll Tryd.prog os laidL).forCall (fun _ _ => 0) ⟨#[], args, []⟩).memory := by
  rw [MakeChecks.laidMetH_plain _ _ _ (by kernel_rfl)]
  exact laidMet_laidAll _ (by kernel_rfl) (by kernel_rfl)
end Go.Proofs.YtmkhfcdjgdofnaaDoor
