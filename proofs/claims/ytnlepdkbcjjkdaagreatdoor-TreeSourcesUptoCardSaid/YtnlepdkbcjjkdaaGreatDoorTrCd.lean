/- What the rows of layer 14 share: what the listed variables give, the witness's start, an expression that came in. -/
import Derived.Test.YtnlepdkbcjjkdaaGreatDoorTreL
import Derived.Test.YtnlepdkbcjjkdaaGreatDoorCards
import Derived.Test.YtnlepdkbcjjkdaaGreatDoorTie
import Derived.ProofKit
import Derived.OpenShut
import Derived.SizedLaws
import Derived.LaidMore
import Derived.Lay
import Derived.SevenTiedAt
import Derived.Stop.Joined
import Derived.Shelf.Vars
import Derived.Lib.LaidTab
import Derived.Deep.DeepHandedRow
namespace Go.Proofs.YtnlepdkbcjjkdaaGreatDoor
open Go.ChangeShapes Go.WideShapes Go.ChangeAt Go.RowKit TreM

theorem own_knob : ownKnob Tryz.prog.godebug = none := by kernel_rfl
theorem laid_out : laidOutB Tryz.prog = true := by kernel_rfl
abbrev laidL : List (String × DataW Unit) := [("math/bits.deBruijn32tab", Rows.laid_math_bits_deBruijn32tab), ("math/bits.deBruijn64tab", Rows.laid_math_bits_deBruijn64tab), ("internal/strconv.uint64pow10", Rows.laid_internal_strconv_uint64pow10), ("lariat/tree.signs", Rows.laid_lariat_tree_signs)]
theorem pow_data : (Rows.laid_internal_strconv_uint64pow10 : DataW Unit) = Lib.tabData .u64 Lib.pow10Tab := by rfl
/-- What the listed variables hold when the call begins. -/
theorem trg_of_laid {W : World} (h : laidMetH Tryz.prog laidL W) : TrG W := by
  rw [MakeChecks.laidMetH_plain _ _ _ (by kernel_rfl)] at h
  obtain ⟨_, hv, _⟩ := h
  obtain ⟨_, _, _, _, _, _, _, _, _, _, hv, _⟩ := hv
  obtain ⟨g1, t1, cs1, _, _, _, hg1, _, hvar1, _, hv, _⟩ := hv
  obtain ⟨g, t, cs, fuel, p, _, hg, ht, hvar, hd, hv, _⟩ := hv
  obtain ⟨g2, t2, cs2, fuel2, p2, _, hg2, ht2, hvar2, hd2, _, _⟩ := hv
  refine ⟨?_, ?_, ?_⟩
  · obtain rfl := Option.some.inj ((show Tryz.prog.globalNamed "lariat/tree.signs" = some 0 by kernel_rfl).symm.trans hg2)
    obtain rfl := Option.some.inj ((show (Tryz.prog.globals[0]?).map (·.type) = some 91 by kernel_rfl).symm.trans ht2)
    obtain ⟨xs, m, _, hx, _, hn, hel⟩ := DataW.trod_array Tryz.underlying91 hd2
    have hxs : xs.map (·.1) = (sgL.map fun x => (DataW.lit (.string x) : DataW Unit)) := by
      have := congrArg Prod.fst hx
      simp only at this
      have h2 : (Rows.laid_lariat_tree_signs : DataW Unit) = .agg (sgL.map fun x => (DataW.lit (.string x) : DataW Unit)) := rfl
      rw [h2] at this
      injection this with this
      exact this.symm
    intro j hj
    have he := hel j hj
    rw [show Tryz.prog.cellsOf 9 = 1 from by kernel_rfl, Nat.mul_one, List.getElem?_eq_getElem (show j < xs.length by omega)] at he
    obtain ⟨s, hc, hs, _⟩ := DataW.trod_string Tryz.underlying9 he
    have h1 : (xs.map (·.1))[j]? = some (DataW.lit (.string s.data.toList) : DataW Unit) := by
      rw [List.getElem?_map, List.getElem?_eq_getElem (show j < xs.length by omega), hs]; rfl
    rw [hxs, List.getElem?_map, List.getElem?_eq_getElem (show j < sgL.length from hj)] at h1
    simp only [Option.map_some, Option.some.injEq, DataW.lit.injEq, Lit.string.injEq] at h1
    have h2 : cs2.toList[j]? = some (.string s) := by
      have := congrArg (·[0]?) hc
      simpa [List.getElem?_take, List.getElem?_drop] using this
    rw [Array.getElem?_toList] at h2
    rw [World.var?_cell hg2 hvar2 j, h2, List.getD_eq_getElem?_getD, List.getElem?_eq_getElem (show j < sgL.length from hj), Option.getD_some, h1]
  · obtain rfl := Option.some.inj ((show Tryz.prog.globalNamed "internal/strconv.uint64pow10" = some 2 by kernel_rfl).symm.trans hg)
    obtain rfl := Option.some.inj ((show (Tryz.prog.globals[2]?).map (·.type) = some 142 by kernel_rfl).symm.trans ht)
    have hd' : DataW.trod (fun _ => ()) Tryz.prog W 0 (fun _ => true) false fuel 142 cs.toList = some (Lib.tabData .u64 Lib.pow10Tab, p) := pow_data ▸ hd
    unfold Lib.TabIs
    rw [hvar, ← Lib.cells_of_tab Tryz.underlying142 Tryz.underlying134 (by kernel_rfl) (by kernel_rfl) hd']
  · obtain rfl := Option.some.inj ((show Tryz.prog.globalNamed "math/bits.deBruijn64tab" = some 4 by kernel_rfl).symm.trans hg1)
    unfold World.var? at hvar1
    rw [hg1, Option.bind_some] at hvar1
    rcases Nat.lt_or_ge 4 W.heap.size with h1 | h1
    · exact h1
    · rw [Array.getElem?_eq_none h1] at hvar1
      cases hvar1
/-- The start that fits: the listed variables laid. -/
theorem laid_met (os : Os) (args : Array Value) : laidMetH Tryz.prog laidL ((World.laidAll Tryz.prog os laidL).forCall (fun _ _ => 0) ⟨#[], args, []⟩).memory := by
  rw [MakeChecks.laidMetH_plain _ _ _ (by kernel_rfl)]
  exact laidMet_laidAll _ (by kernel_rfl) (by kernel_rfl)
/-- An expression that came in. -/
theorem open_exv {H : Type} {enc : TypeId × Value → H} {W : World} {base : Nat} {sp : Nat → Bool} {held : Bool} {fuel : Nat} {cs : List Value} {x : DataW H × List MemPlace} (h : DataW.trod enc Tryz.prog W base sp held fuel 40 cs = some x) : ∃ X : Ex, ExC W X cs ∧ wt X ≤ Rows.uptoBulk x.1 :=
  open_exw (fs := (match Tryz.prog.underlying 40 with | some (.struct fs) => fs | _ => #[])) (by kernel_rfl) (by kernel_rfl) Tryz.underlying3 Tryz.underlying2 Tryz.underlying9 Tryz.underlying38 (by kernel_rfl) (by kernel_rfl) (by kernel_rfl) (by kernel_rfl) (by kernel_rfl) fuel cs x h
set_option maxRecDepth 100000 in
theorem open_exarg {H : Type} {enc : TypeId × Value → H} {W : World} {base base2 : Nat} {sp : Nat → Bool} {held : Bool} {v : Value} {d : DataW H} {p : List MemPlace} (hok : Value.okWide Tryz.prog W .any base2 40 v)
    (h : DataW.Trod enc Tryz.prog W base sp held 40 v d p) : ∃ X : Ex, ExV W X v ∧ wt X ≤ Rows.uptoBulk d := by
  simp only [Value.okWide, Tryz.underlying40] at hok
  obtain ⟨cs, rfl, _, _⟩ := hok
  obtain ⟨fuel, h⟩ := h
  obtain ⟨X, hx, hw⟩ := open_exv h
  exact ⟨X, ⟨cs.toList, by simp, hx⟩, hw⟩
end Go.Proofs.YtnlepdkbcjjkdaaGreatDoor
