/-
  No cell of these rows narrows 'for every input' (looked for: loops, veiled, ifaces, maps, wideKeys, modest, calm, conditions, laid).
  DERIVED. THE GIVEN ROWS OF THIS SEAT. 7 by the template 'for every input the law returns true; each argument reads behind the call as it read before'; 0 by the template 'total and deterministic' (their statements: YtelpoocgmflofaaTotals.lean).
  GIVEN WITH THE SEED: the statements are not yours to turn. If you find one false, say at which input.
  Laid BY PROGRAM, IN A SANDBOX (cutbox-rows.mjs): the forced cells as the released guide's own fill.sh prints them over the translation 68c536a8ada78b92… (all of the seat's roots in one cut). By AI agents, Wed Nov 11 2026. No macro, syntax, notation, axiom, sorry.
-/
import Derived.Test.YtelpoocgmflofaaChecked
import GoSem.Claim
import GoSem.ClaimJoined
import GoSem.ClaimMapViews
import Derived.JoinedTies
import Derived.KernelRfl
namespace Go.Proofs.Ytelpoocgmflofaa
/- THE CELL 'sum', in the pinned program and in every row, IS THE sha256 OF THE DUMP (.gsa) THAT YtelpoocgmflofaaProg.lean LOADS. Nothing in Lean hashes anything: it is a label: what it is worth is what the hold of that sum in a sandbox is worth. -/
noncomputable def Try.pinned : Pinned := { name := "ytelpoocgmflofaa", sum := "68c536a8ada78b92155e56e26004c212eb45c4f8b4b790c145df165e1953aadf", checked := Try.checked }
namespace Rows
def none {H : Type} : Left H := { results := [], args := [] }

/-- 'lariatlaw11.VecNames': WHATEVER THE INPUT: true; the input reads as it did. -/
def vecNamesSpec : ChangeSpec := { name := "vecNames", fn := fun _ => fun
  | [] => { results := [.lit (.bool true)], args := [] }
  | _ => none }
def vecNamesRow : OpenClaim := { program := "ytelpoocgmflofaa", sum := "68c536a8ada78b92155e56e26004c212eb45c4f8b4b790c145df165e1953aadf", func := "lariat/lariatlaw11.VecNames", spec := "vecNames", unfollowed := true, recurses := true, plainKeys := false, apart := false }
def VecNamesSaid : Prop := vecNamesRow.holds Try.pinned (OpenSpec.ofChange vecNamesSpec)

/-- ITS FALSE NEIGHBOUR: 'it returns false'. Refute it at one input. -/
def vecNamesWrong : ChangeSpec := { name := "vecNames", fn := fun _ => fun
  | [] => { results := [.lit (.bool false)], args := [] }
  | _ => none }
def VecNamesWrongFalsely : Prop := vecNamesRow.holds Try.pinned (OpenSpec.ofChange vecNamesWrong)

/-- 'lariatlaw11.VecConsts': WHATEVER THE INPUT: true; the input reads as it did. -/
def vecConstsSpec : ChangeSpec := { name := "vecConsts", fn := fun _ => fun
  | [d1, d2, d3] => { results := [.lit (.bool true)], args := [d1, d2, d3] }
  | _ => none }
def vecConstsRow : OpenClaim := { program := "ytelpoocgmflofaa", sum := "68c536a8ada78b92155e56e26004c212eb45c4f8b4b790c145df165e1953aadf", func := "lariat/lariatlaw11.VecConsts", spec := "vecConsts", unfollowed := true, recurses := true, plainKeys := false, apart := false }
def VecConstsSaid : Prop := vecConstsRow.holds Try.pinned (OpenSpec.ofChange vecConstsSpec)

/-- ITS FALSE NEIGHBOUR: 'it returns false'. Refute it at one input. -/
def vecConstsWrong : ChangeSpec := { name := "vecConsts", fn := fun _ => fun
  | [d1, d2, d3] => { results := [.lit (.bool false)], args := [d1, d2, d3] }
  | _ => none }
def VecConstsWrongFalsely : Prop := vecConstsRow.holds Try.pinned (OpenSpec.ofChange vecConstsWrong)

/-- 'lariatlaw11.VecRuns': WHATEVER THE INPUT: true; the input reads as it did. -/
def vecRunsSpec : ChangeSpec := { name := "vecRuns", fn := fun _ => fun
  | [d1, d2, d3] => { results := [.lit (.bool true)], args := [d1, d2, d3] }
  | _ => none }
def vecRunsRow : OpenClaim := { program := "ytelpoocgmflofaa", sum := "68c536a8ada78b92155e56e26004c212eb45c4f8b4b790c145df165e1953aadf", func := "lariat/lariatlaw11.VecRuns", spec := "vecRuns", unfollowed := true, recurses := true, plainKeys := false, apart := false }
def VecRunsSaid : Prop := vecRunsRow.holds Try.pinned (OpenSpec.ofChange vecRunsSpec)

/-- ITS FALSE NEIGHBOUR: 'it returns false'. Refute it at one input. -/
def vecRunsWrong : ChangeSpec := { name := "vecRuns", fn := fun _ => fun
  | [d1, d2, d3] => { results := [.lit (.bool false)], args := [d1, d2, d3] }
  | _ => none }
def VecRunsWrongFalsely : Prop := vecRunsRow.holds Try.pinned (OpenSpec.ofChange vecRunsWrong)

/-- 'lariatlaw11.VecFolds': WHATEVER THE INPUT: true; the input reads as it did. -/
def vecFoldsSpec : ChangeSpec := { name := "vecFolds", fn := fun _ => fun
  | [d1, d2, d3] => { results := [.lit (.bool true)], args := [d1, d2, d3] }
  | _ => none }
def vecFoldsRow : OpenClaim := { program := "ytelpoocgmflofaa", sum := "68c536a8ada78b92155e56e26004c212eb45c4f8b4b790c145df165e1953aadf", func := "lariat/lariatlaw11.VecFolds", spec := "vecFolds", unfollowed := true, recurses := true, plainKeys := false, apart := false }
def VecFoldsSaid : Prop := vecFoldsRow.holds Try.pinned (OpenSpec.ofChange vecFoldsSpec)

/-- ITS FALSE NEIGHBOUR: 'it returns false'. Refute it at one input. -/
def vecFoldsWrong : ChangeSpec := { name := "vecFolds", fn := fun _ => fun
  | [d1, d2, d3] => { results := [.lit (.bool false)], args := [d1, d2, d3] }
  | _ => none }
def VecFoldsWrongFalsely : Prop := vecFoldsRow.holds Try.pinned (OpenSpec.ofChange vecFoldsWrong)

/-- 'lariatlaw11.VecOrders': WHATEVER THE INPUT: true; the input reads as it did. -/
def vecOrdersSpec : ChangeSpec := { name := "vecOrders", fn := fun _ => fun
  | [d1, d2] => { results := [.lit (.bool true)], args := [d1, d2] }
  | _ => none }
def vecOrdersRow : OpenClaim := { program := "ytelpoocgmflofaa", sum := "68c536a8ada78b92155e56e26004c212eb45c4f8b4b790c145df165e1953aadf", func := "lariat/lariatlaw11.VecOrders", spec := "vecOrders", unfollowed := true, recurses := true, plainKeys := false, apart := false }
def VecOrdersSaid : Prop := vecOrdersRow.holds Try.pinned (OpenSpec.ofChange vecOrdersSpec)

/-- ITS FALSE NEIGHBOUR: 'it returns false'. Refute it at one input. -/
def vecOrdersWrong : ChangeSpec := { name := "vecOrders", fn := fun _ => fun
  | [d1, d2] => { results := [.lit (.bool false)], args := [d1, d2] }
  | _ => none }
def VecOrdersWrongFalsely : Prop := vecOrdersRow.holds Try.pinned (OpenSpec.ofChange vecOrdersWrong)

/-- 'lariatlaw11.VecRing': WHATEVER THE INPUT: true; the input reads as it did. -/
def vecRingSpec : ChangeSpec := { name := "vecRing", fn := fun _ => fun
  | [d1, d2] => { results := [.lit (.bool true)], args := [d1, d2] }
  | _ => none }
def vecRingRow : OpenClaim := { program := "ytelpoocgmflofaa", sum := "68c536a8ada78b92155e56e26004c212eb45c4f8b4b790c145df165e1953aadf", func := "lariat/lariatlaw11.VecRing", spec := "vecRing", unfollowed := true, recurses := true, plainKeys := false, apart := false }
def VecRingSaid : Prop := vecRingRow.holds Try.pinned (OpenSpec.ofChange vecRingSpec)

/-- ITS FALSE NEIGHBOUR: 'it returns false'. Refute it at one input. -/
def vecRingWrong : ChangeSpec := { name := "vecRing", fn := fun _ => fun
  | [d1, d2] => { results := [.lit (.bool false)], args := [d1, d2] }
  | _ => none }
def VecRingWrongFalsely : Prop := vecRingRow.holds Try.pinned (OpenSpec.ofChange vecRingWrong)

/-- 'lariatlaw10.GateOnce': WHATEVER THE INPUT: true; the input reads as it did. -/
def gateOnceSpec : ChangeSpec := { name := "gateOnce", fn := fun _ => fun
  | [d1, d2] => { results := [.lit (.bool true)], args := [d1, d2] }
  | _ => none }
def gateOnceRow : OpenClaim := { program := "ytelpoocgmflofaa", sum := "68c536a8ada78b92155e56e26004c212eb45c4f8b4b790c145df165e1953aadf", func := "lariat/lariatlaw10.GateOnce", spec := "gateOnce", unfollowed := true, recurses := true, plainKeys := false, apart := false }
def GateOnceSaid : Prop := gateOnceRow.holds Try.pinned (OpenSpec.ofChange gateOnceSpec)

/-- ITS FALSE NEIGHBOUR: 'it returns false'. Refute it at one input. -/
def gateOnceWrong : ChangeSpec := { name := "gateOnce", fn := fun _ => fun
  | [d1, d2] => { results := [.lit (.bool false)], args := [d1, d2] }
  | _ => none }
def GateOnceWrongFalsely : Prop := gateOnceRow.holds Try.pinned (OpenSpec.ofChange gateOnceWrong)

/- THE SECOND FORM. 'bulk': how many values and letters a reading holds, each counted each time it is reached (what is shared counts as often as it is met; a slice's spare places count too). A statement '..UptoSaid' is the law's where the arguments, and the package variables that the reading takes, are together of bulk at most 1048576: NARROWER than '..Said'. Prove '..Said' where nothing that the law and all that it calls make is longer than what came in: it says more and counts as full. Else prove '..UptoSaid'. A law counts once. -/
mutual
def uptoBulk {H : Type} : DataW H → Nat
  | .lit (.string bytes) => bytes.length + 1
  | .lit _ => 1
  | .nil => 1
  | .ptr d => uptoBulk d + 1
  | .slice elems spare => uptoBulkAll elems + uptoBulkAll spare + 1
  | .agg parts => uptoBulkAll parts + 1
  | .iface _ d => uptoBulk d + 1
  | .map entries => uptoBulkEntries entries + 1
  | .held _ => 1
def uptoBulkAll {H : Type} : List (DataW H) → Nat
  | [] => 0
  | d :: r => uptoBulk d + uptoBulkAll r
def uptoBulkEntries {H : Type} : List (Lit × DataW H) → Nat
  | [] => 0
  | x :: r => uptoBulkEntry x + uptoBulkEntries r
def uptoBulkEntry {H : Type} : Lit × DataW H → Nat
  | (.string bytes, d) => bytes.length + uptoBulk d + 1
  | (_, d) => uptoBulk d + 1
 end
def uptoSmall : (H : Type) → List (DataW H) → Bool := fun _ ds => decide (uptoBulkAll ds ≤ 1048576)
def OpenSpec.upto (s : _root_.Go.ChangeSpec) : _root_.Go.OpenSpec := { _root_.Go.OpenSpec.ofChange s with cond := some uptoSmall }

/-- 'lariatlaw11.VecNames', WHERE WHAT IT READS IS OF BULK AT MOST 1048576: true; the input reads as it did. -/
def vecNamesUptoRow : OpenClaim := { program := "ytelpoocgmflofaa", sum := "68c536a8ada78b92155e56e26004c212eb45c4f8b4b790c145df165e1953aadf", func := "lariat/lariatlaw11.VecNames", spec := "vecNames", unfollowed := true, recurses := true, plainKeys := false, apart := false, narrowed := true }
def VecNamesUptoSaid : Prop := vecNamesUptoRow.holds Try.pinned (OpenSpec.upto vecNamesSpec)

/-- 'lariatlaw11.VecConsts', WHERE WHAT IT READS IS OF BULK AT MOST 1048576: true; the input reads as it did. -/
def vecConstsUptoRow : OpenClaim := { program := "ytelpoocgmflofaa", sum := "68c536a8ada78b92155e56e26004c212eb45c4f8b4b790c145df165e1953aadf", func := "lariat/lariatlaw11.VecConsts", spec := "vecConsts", unfollowed := true, recurses := true, plainKeys := false, apart := false, narrowed := true }
def VecConstsUptoSaid : Prop := vecConstsUptoRow.holds Try.pinned (OpenSpec.upto vecConstsSpec)

/-- 'lariatlaw11.VecRuns', WHERE WHAT IT READS IS OF BULK AT MOST 1048576: true; the input reads as it did. -/
def vecRunsUptoRow : OpenClaim := { program := "ytelpoocgmflofaa", sum := "68c536a8ada78b92155e56e26004c212eb45c4f8b4b790c145df165e1953aadf", func := "lariat/lariatlaw11.VecRuns", spec := "vecRuns", unfollowed := true, recurses := true, plainKeys := false, apart := false, narrowed := true }
def VecRunsUptoSaid : Prop := vecRunsUptoRow.holds Try.pinned (OpenSpec.upto vecRunsSpec)

/-- 'lariatlaw11.VecFolds', WHERE WHAT IT READS IS OF BULK AT MOST 1048576: true; the input reads as it did. -/
def vecFoldsUptoRow : OpenClaim := { program := "ytelpoocgmflofaa", sum := "68c536a8ada78b92155e56e26004c212eb45c4f8b4b790c145df165e1953aadf", func := "lariat/lariatlaw11.VecFolds", spec := "vecFolds", unfollowed := true, recurses := true, plainKeys := false, apart := false, narrowed := true }
def VecFoldsUptoSaid : Prop := vecFoldsUptoRow.holds Try.pinned (OpenSpec.upto vecFoldsSpec)

/-- 'lariatlaw11.VecOrders', WHERE WHAT IT READS IS OF BULK AT MOST 1048576: true; the input reads as it did. -/
def vecOrdersUptoRow : OpenClaim := { program := "ytelpoocgmflofaa", sum := "68c536a8ada78b92155e56e26004c212eb45c4f8b4b790c145df165e1953aadf", func := "lariat/lariatlaw11.VecOrders", spec := "vecOrders", unfollowed := true, recurses := true, plainKeys := false, apart := false, narrowed := true }
def VecOrdersUptoSaid : Prop := vecOrdersUptoRow.holds Try.pinned (OpenSpec.upto vecOrdersSpec)

/-- 'lariatlaw11.VecRing', WHERE WHAT IT READS IS OF BULK AT MOST 1048576: true; the input reads as it did. -/
def vecRingUptoRow : OpenClaim := { program := "ytelpoocgmflofaa", sum := "68c536a8ada78b92155e56e26004c212eb45c4f8b4b790c145df165e1953aadf", func := "lariat/lariatlaw11.VecRing", spec := "vecRing", unfollowed := true, recurses := true, plainKeys := false, apart := false, narrowed := true }
def VecRingUptoSaid : Prop := vecRingUptoRow.holds Try.pinned (OpenSpec.upto vecRingSpec)

/-- 'lariatlaw10.GateOnce', WHERE WHAT IT READS IS OF BULK AT MOST 1048576: true; the input reads as it did. -/
def gateOnceUptoRow : OpenClaim := { program := "ytelpoocgmflofaa", sum := "68c536a8ada78b92155e56e26004c212eb45c4f8b4b790c145df165e1953aadf", func := "lariat/lariatlaw10.GateOnce", spec := "gateOnce", unfollowed := true, recurses := true, plainKeys := false, apart := false, narrowed := true }
def GateOnceUptoSaid : Prop := gateOnceUptoRow.holds Try.pinned (OpenSpec.upto gateOnceSpec)

end Rows
end Go.Proofs.Ytelpoocgmflofaa
