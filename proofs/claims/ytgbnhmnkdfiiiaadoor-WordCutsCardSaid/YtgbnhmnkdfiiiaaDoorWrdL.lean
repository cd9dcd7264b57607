/- What the rows of layer 13 share: what the listed variable gives (the signs), the wrap that hands it over, the witness. -/
import Derived.Test.YtgbnhmnkdfiiiaaDoorWrdH
import Derived.Test.YtgbnhmnkdfiiiaaDoorCards
import Derived.Test.YtgbnhmnkdfiiiaaDoorTie
import Derived.ProofKit
import Derived.OpenShut
import Derived.SizedLaws
import Derived.LaidMore
import Derived.Lay
import Derived.SevenTiedAt
import Derived.Stop.Joined
import Derived.Shelf.Vars
import Derived.Lib.LaidTab
namespace Go.Proofs.YtgbnhmnkdfiiiaaDoor
open Go.ChangeShapes Go.WideShapes Go.ChangeAt Go.RowKit WrdM

theorem own_knob : ownKnob Tryd.prog.godebug = none := by kernel_rfl

/-- The wrap: a row that lists variables; the contract is handed what they read as, and the world's shape. -/
theorem returns_laid {H : Type} {enc : TypeId × Value → H} {a : Assume} {C : Checked} {os : Os} {f : FuncId} {fn : Func} {s : ChangeSpec} {conds : List PathCond} {apart fresh handsOn again : Bool} {X : World → Array Value → Prop}
    (hX : ∀ (w w' : World) (args : Array Value), w.heap = w'.heap → X w args → X w' args)
    (own : ownKnob C.prog.godebug = none) (started : os.Started) (noInit : C.prog.inits.idxOf? f = none) (hfn : C.prog.funcs[f]? = some fn)
    (witness : ∃ (w : World) (tape : Tape) (i : Input), w.os = os ∧ (w.forCall tape i).Shaped C.prog ∧ i.vars = [] ∧ Input.okWide C.prog (w.forCall tape i) .any w.heap.size f i ∧
      ((s.pre enc C.prog fn conds apart (w.forCall tape i).memory i.args ∧ X (w.forCall tape i).memory i.args) ∧ sizedMet enc C.prog fn (OpenSpec.ofChange s) apart (w.forCall tape i).memory i.args) ∧ a.holds C.prog (lone (Frame.enter C.prog f i.args .normal) [] (w.forCall tape i)))
    (contract : ∀ (W : World) (base : Nat) (args : Array Value) (ds gs : List (DataW H)) (before : List MemPlace),
      (∀ (j : Nat) t v, fn.params[j]? = some t → args[j]? = some v → Value.okWide C.prog W .any base t v) →
      DataW.Whole enc C.prog fn.params.toList s.vars apart W args.toList ds gs before → X W args → W.ShapedOpen C.prog →
      Calls C.prog f args W fun e W' => ∃ v, e = .returned v ∧ s.post enc C.prog fn apart fresh handsOn again W args v W') :
    ReturnsInHanded a C os f .any (fun w args => (s.pre enc C.prog fn conds apart w args ∧ X w args) ∧ sizedMet enc C.prog fn (OpenSpec.ofChange s) apart w args) (s.post enc C.prog fn apart fresh handsOn again) := by
  refine returnsInHanded_of_calls own started noInit witness ?_
  intro w tape i _ hsh _ hok hpre _
  obtain ⟨_, _, _, fn', hfn', _, _, _, _, hval⟩ := hok
  obtain rfl : fn' = fn := Option.some.inj (hfn'.symm.trans hfn)
  obtain ⟨⟨⟨ds, gs, before, hw, _⟩, hx⟩, _⟩ := hpre
  refine (contract (w.forCall tape i) w.heap.size i.args ds gs before hval (DataW.Whole.of_heap (w' := w.forCall tape i) (by rfl) hw) (hX _ _ _ (by rfl) hx) hsh).mono fun e W' ⟨v, he, hp⟩ => ?_
  subst he
  exact ChangeSpec.post_blind hp

abbrev laidL : List (String × DataW Unit) := [("lariat/word.signs", Rows.laid_lariat_word_signs)]
/-- The listed variable: the signs' bytes. -/
theorem sgn_of_laid {W : World} (h : laidMetH Tryd.prog laidL W) : SgnAt W ∧ 0 < W.heap.size := by
  rw [MakeChecks.laidMetH_plain _ _ _ (by kernel_rfl)] at h
  obtain ⟨_, hv, _⟩ := h
  obtain ⟨g, t, cs, fuel, p, _, hg, ht, hvar, hd, _, _⟩ := hv
  obtain rfl := Option.some.inj ((show Tryd.prog.globalNamed "lariat/word.signs" = some 0 by kernel_rfl).symm.trans hg)
  obtain rfl := Option.some.inj ((show (Tryd.prog.globals[0]?).map (·.type) = some 54 by kernel_rfl).symm.trans ht)
  obtain ⟨xs, m, _, hx, _, hn, hel⟩ := DataW.trod_array Tryd.underlying54 hd
  have hxs : xs.map (·.1) = (signL.map fun x => (DataW.lit (.string x) : DataW Unit)) := by
    have := congrArg Prod.fst hx
    simp only at this
    have h2 : (Rows.laid_lariat_word_signs : DataW Unit) = .agg (signL.map fun x => (DataW.lit (.string x) : DataW Unit)) := rfl
    rw [h2] at this
    injection this with this
    exact this.symm
  have key : ∀ j, j < 23 → cs[j]? = some (.string ⟨(signL.getD j []).toArray⟩) := by
    intro j hj
    have he := hel j hj
    rw [show Tryd.prog.cellsOf 9 = 1 from by kernel_rfl, Nat.mul_one, List.getElem?_eq_getElem (show j < xs.length by omega)] at he
    obtain ⟨s, hc, hs, _⟩ := DataW.trod_string Tryd.underlying9 he
    have h1 : (xs.map (·.1))[j]? = some (DataW.lit (.string s.data.toList) : DataW Unit) := by
      rw [List.getElem?_map, List.getElem?_eq_getElem (show j < xs.length by omega), hs]; rfl
    rw [hxs, List.getElem?_map, List.getElem?_eq_getElem (show j < signL.length from hj)] at h1
    simp only [Option.map_some, Option.some.injEq, DataW.lit.injEq, Lit.string.injEq] at h1
    have h2 : cs.toList[j]? = some (.string s) := by
      have := congrArg (·[0]?) hc
      simpa [List.getElem?_take, List.getElem?_drop] using this
    rw [Array.getElem?_toList] at h2
    rw [h2, List.getD_eq_getElem?_getD, List.getElem?_eq_getElem (show j < signL.length from hj), Option.getD_some, h1]
  have hcell : ∀ j, j < 23 → W.cell? ⟨0, j, none⟩ = some (.string ⟨(signL.getD j []).toArray⟩) := fun j hj => by
    rw [World.var?_cell hg hvar j]; exact key j hj
  refine ⟨hcell, ?_⟩
  rcases Nat.lt_or_ge 0 W.heap.size with h1 | h1
  · exact h1
  · have := hcell 0 (by decide)
    simp [World.cell?, Array.getElem?_eq_none h1] at this

/-- The start that fits: the listed variables laid. -/
theorem laid_shaped (os : Os) (args : Array Value) : ((World.laidAll Tryd.prog os laidL).forCall (fun _ _ => 0) ⟨#[], args, []⟩).Shaped Tryd.prog :=
  World.shaped_of_ZipB (by kernel_rfl) (by kernel_rfl)
theorem laid_met (os : Os) (args : Array Value) : laidMetH Tryd.prog laidL ((World.laidAll Tryd.prog os laidL).forCall (fun _ _ => 0) ⟨#[], args, []⟩).memory := by
  rw [MakeChecks.laidMetH_plain _ _ _ (by kernel_rfl)]
  exact laidMet_laidAll _ (by kernel_rfl) (by kernel_rfl)
end Go.Proofs.YtgbnhmnkdfiiiaaDoor
