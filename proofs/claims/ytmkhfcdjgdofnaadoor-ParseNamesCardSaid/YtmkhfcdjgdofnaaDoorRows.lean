/-
  NARROWER THAN 'FOR EVERY INPUT', by the rows' own cells (each row's printed sentence says how): ParseNames: laid · ParseFaults: laid · ParseJoins: laid.
  DERIVED. THE GIVEN ROWS OF THIS SEAT. 3 by the template 'for every input the law returns true; each argument reads behind the call as it read before'; 0 by the template 'total and deterministic' (their statements: YtmkhfcdjgdofnaaDoorTotals.lean).
  GIVEN WITH THE SEED: the statements are not yours to turn. If you find one false, say at which input.
  Laid BY PROGRAM, IN A SANDBOX (cutbox-rows.mjs): the forced cells as the released guide's own fill.sh prints them over the translation 8d1857fc0ab61be8… (all of the seat's roots in one cut). By AI agents, Wed Nov 11 2026. No macro, syntax, notation, axiom, sorry.
-/
import Derived.Test.YtmkhfcdjgdofnaaDoorChecked
import GoSem.Claim
import GoSem.ClaimJoined
import GoSem.ClaimMapViews
import Derived.JoinedTies
import Derived.KernelRfl
namespace Go.Proofs.YtmkhfcdjgdofnaaDoor
/- THE CELL 'sum', in the pinned program and in every row, IS THE sha256 OF THE DUMP (.gsa) THAT YtmkhfcdjgdofnaaDoorProg.lean LOADS. Nothing in Lean hashes anything: it is a label: what it is worth is what the hold of that sum in a sandbox is worth. -/
noncomputable def Tryd.pinned : Pinned := { name := "ytmkhfcdjgdofnaadoor", sum := "8d1857fc0ab61be8d7c7db2a28e5717a39f495c53a38a6a673f669aa63bc47b6", checked := Tryd.checked }
namespace Rows
def none {H : Type} : Left H := { results := [], args := [] }

/- WHAT THE LISTED PACKAGE-LEVEL VARIABLES READ AS WHEN THE CALL BEGINS. Each datum BY PROGRAM (the guide's laid-datum.mjs) off the statement by which the dump's own 'gosem.cut.vars' lays the variable. In a bare row this is a premise. The card (YtmkhfcdjgdofnaaDoorCards.lean) ties it to the program's text. -/
def laid_lariat_word_signs {H : Type} : DataW H := .agg [.lit (.string [60, 45, 62]), .lit (.string [46, 46]), .lit (.string [58, 61]), .lit (.string [33, 61]), .lit (.string [60, 61]), .lit (.string [62, 61]), .lit (.string [45, 62]), .lit (.string [123]), .lit (.string [125]), .lit (.string [40]), .lit (.string [41]), .lit (.string [58]), .lit (.string [44]), .lit (.string [59]), .lit (.string [61]), .lit (.string [60]), .lit (.string [62]), .lit (.string [43]), .lit (.string [45]), .lit (.string [42]), .lit (.string [33]), .lit (.string [38]), .lit (.string [124])]
def laid_lariat_tree_signs {H : Type} : DataW H := .agg [.lit (.string []), .lit (.string []), .lit (.string []), .lit (.string []), .lit (.string []), .lit (.string [45]), .lit (.string [33]), .lit (.string [88]), .lit (.string [70]), .lit (.string [71]), .lit (.string [89]), .lit (.string [90]), .lit (.string [79]), .lit (.string [72]), .lit (.string [42]), .lit (.string [43]), .lit (.string [45]), .lit (.string [61]), .lit (.string [33, 61]), .lit (.string [60]), .lit (.string [60, 61]), .lit (.string [62]), .lit (.string [62, 61]), .lit (.string [85]), .lit (.string [82]), .lit (.string [83]), .lit (.string [84]), .lit (.string [38]), .lit (.string [124]), .lit (.string [45, 62]), .lit (.string [60, 45, 62])]
def laid_lariat_parse_bindings {H : Type} : DataW H := .agg [.lit (.int .i64 0), .lit (.int .i64 0), .lit (.int .i64 0), .lit (.int .i64 0), .lit (.int .i64 0), .lit (.int .i64 0), .lit (.int .i64 0), .lit (.int .i64 0), .lit (.int .i64 0), .lit (.int .i64 0), .lit (.int .i64 0), .lit (.int .i64 0), .lit (.int .i64 0), .lit (.int .i64 0), .lit (.int .i64 7), .lit (.int .i64 6), .lit (.int .i64 6), .lit (.int .i64 5), .lit (.int .i64 5), .lit (.int .i64 5), .lit (.int .i64 5), .lit (.int .i64 5), .lit (.int .i64 5), .lit (.int .i64 4), .lit (.int .i64 4), .lit (.int .i64 4), .lit (.int .i64 4), .lit (.int .i64 3), .lit (.int .i64 2), .lit (.int .i64 1), .lit (.int .i64 0)]

/-- 'lariatlaw15.ParseNames': WHATEVER THE INPUT: true; the input reads as it did. -/
def parseNamesSpec : ChangeSpec := { name := "parseNames", fn := fun _ => fun
  | [] => { results := [.lit (.bool true)], args := [] }
  | _ => none }
def parseNamesRow : OpenClaim := { program := "ytmkhfcdjgdofnaadoor", sum := "8d1857fc0ab61be8d7c7db2a28e5717a39f495c53a38a6a673f669aa63bc47b6", func := "lariat/lariatlaw15.ParseNames", spec := "parseNames", inPlace := ["internal/bytealg.IndexByteString", "internal/bytealg.CountString", "internal/bytealg.IndexString"], unfollowed := true, recurses := true, named := ["internal/bytealg.MaxLen", "lariat/word.signs", "lariat/parse.bindings", "lariat/tree.signs"], apart := false, laid := [("lariat/word.signs", laid_lariat_word_signs), ("lariat/tree.signs", laid_lariat_tree_signs), ("lariat/parse.bindings", laid_lariat_parse_bindings)] }
def ParseNamesSaid : Prop := parseNamesRow.holds Tryd.pinned (OpenSpec.ofChange parseNamesSpec)

/-- ITS FALSE NEIGHBOUR: 'it returns false'. Refute it at one input. -/
def parseNamesWrong : ChangeSpec := { name := "parseNames", fn := fun _ => fun
  | [] => { results := [.lit (.bool false)], args := [] }
  | _ => none }
def ParseNamesWrongFalsely : Prop := parseNamesRow.holds Tryd.pinned (OpenSpec.ofChange parseNamesWrong)

/-- 'lariatlaw15.ParseFaults': WHATEVER THE INPUT: true; the input reads as it did. -/
def parseFaultsSpec : ChangeSpec := { name := "parseFaults", fn := fun _ => fun
  | [d] => { results := [.lit (.bool true)], args := [d] }
  | _ => none }
def parseFaultsRow : OpenClaim := { program := "ytmkhfcdjgdofnaadoor", sum := "8d1857fc0ab61be8d7c7db2a28e5717a39f495c53a38a6a673f669aa63bc47b6", func := "lariat/lariatlaw15.ParseFaults", spec := "parseFaults", inPlace := ["internal/bytealg.IndexByteString", "internal/bytealg.CountString", "internal/bytealg.IndexString"], unfollowed := true, recurses := true, named := ["internal/bytealg.MaxLen", "lariat/word.signs", "lariat/parse.bindings", "lariat/tree.signs"], apart := false, laid := [("lariat/word.signs", laid_lariat_word_signs), ("lariat/tree.signs", laid_lariat_tree_signs), ("lariat/parse.bindings", laid_lariat_parse_bindings)] }
def ParseFaultsSaid : Prop := parseFaultsRow.holds Tryd.pinned (OpenSpec.ofChange parseFaultsSpec)

/-- ITS FALSE NEIGHBOUR: 'it returns false'. Refute it at one input. -/
def parseFaultsWrong : ChangeSpec := { name := "parseFaults", fn := fun _ => fun
  | [d] => { results := [.lit (.bool false)], args := [d] }
  | _ => none }
def ParseFaultsWrongFalsely : Prop := parseFaultsRow.holds Tryd.pinned (OpenSpec.ofChange parseFaultsWrong)

/-- 'lariatlaw15.ParseJoins': WHATEVER THE INPUT: true; the input reads as it did. -/
def parseJoinsSpec : ChangeSpec := { name := "parseJoins", fn := fun _ => fun
  | [d1, d2] => { results := [.lit (.bool true)], args := [d1, d2] }
  | _ => none }
def parseJoinsRow : OpenClaim := { program := "ytmkhfcdjgdofnaadoor", sum := "8d1857fc0ab61be8d7c7db2a28e5717a39f495c53a38a6a673f669aa63bc47b6", func := "lariat/lariatlaw15.ParseJoins", spec := "parseJoins", inPlace := ["internal/bytealg.IndexByteString", "internal/bytealg.CountString", "internal/bytealg.IndexString"], unfollowed := true, recurses := true, named := ["internal/bytealg.MaxLen", "lariat/word.signs", "lariat/parse.bindings", "lariat/tree.signs"], apart := false, laid := [("lariat/word.signs", laid_lariat_word_signs), ("lariat/tree.signs", laid_lariat_tree_signs), ("lariat/parse.bindings", laid_lariat_parse_bindings)] }
def ParseJoinsSaid : Prop := parseJoinsRow.holds Tryd.pinned (OpenSpec.ofChange parseJoinsSpec)

/-- ITS FALSE NEIGHBOUR: 'it returns false'. Refute it at one input. -/
def parseJoinsWrong : ChangeSpec := { name := "parseJoins", fn := fun _ => fun
  | [d1, d2] => { results := [.lit (.bool false)], args := [d1, d2] }
  | _ => none }
def ParseJoinsWrongFalsely : Prop := parseJoinsRow.holds Tryd.pinned (OpenSpec.ofChange parseJoinsWrong)

/- THE SECOND FORM. 'bulk': how many values and letters a reading holds, each counted each time it is reached (what is shared counts as often as it is met; a slice's spare places count too). A statement '..UptoSaid' is the law's where the arguments, and the package variables that the reading takes, are together of bulk at most 1048576: NARROWER than '..Said'. Prove '..Said' where nothing that the law and all that it calls make is longer than what came in: it says more and counts as full. Else prove '..UptoSaid'. A law counts once. -/
mutual
def uptoBulk {H : Type} : DataW H → Nat
  | .lit (.string bytes) => bytes.length + 1
  | .lit _ => 1
  | .nil => 1
  | .ptr d => uptoBulk d + 1
  | .slice elems spare => uptoBulkAll elems + uptoBulkAll spare + 1
  | .agg parts => uptoBulkAll parts + 1
  | .iface _ d => uptoBulk d + 1
  | .map entries => uptoBulkEntries entries + 1
  | .held _ => 1
def uptoBulkAll {H : Type} : List (DataW H) → Nat
  | [] => 0
  | d :: r => uptoBulk d + uptoBulkAll r
def uptoBulkEntries {H : Type} : List (Lit × DataW H) → Nat
  | [] => 0
  | x :: r => uptoBulkEntry x + uptoBulkEntries r
def uptoBulkEntry {H : Type} : Lit × DataW H → Nat
  | (.string bytes, d) => bytes.length + uptoBulk d + 1
  | (_, d) => uptoBulk d + 1
 end
def uptoSmall : (H : Type) → List (DataW H) → Bool := fun _ ds => decide (uptoBulkAll ds ≤ 1048576)
def OpenSpec.upto (s : _root_.Go.ChangeSpec) : _root_.Go.OpenSpec := { _root_.Go.OpenSpec.ofChange s with cond := some uptoSmall }

/-- 'lariatlaw15.ParseNames', WHERE WHAT IT READS IS OF BULK AT MOST 1048576: true; the input reads as it did. -/
def parseNamesUptoRow : OpenClaim := { program := "ytmkhfcdjgdofnaadoor", sum := "8d1857fc0ab61be8d7c7db2a28e5717a39f495c53a38a6a673f669aa63bc47b6", func := "lariat/lariatlaw15.ParseNames", spec := "parseNames", inPlace := ["internal/bytealg.IndexByteString", "internal/bytealg.CountString", "internal/bytealg.IndexString"], unfollowed := true, recurses := true, named := ["internal/bytealg.MaxLen", "lariat/word.signs", "lariat/parse.bindings", "lariat/tree.signs"], apart := false, laid := [("lariat/word.signs", laid_lariat_word_signs), ("lariat/tree.signs", laid_lariat_tree_signs), ("lariat/parse.bindings", laid_lariat_parse_bindings)], narrowed := true }
def ParseNamesUptoSaid : Prop := parseNamesUptoRow.holds Tryd.pinned (OpenSpec.upto parseNamesSpec)

/-- 'lariatlaw15.ParseFaults', WHERE WHAT IT READS IS OF BULK AT MOST 1048576: true; the input reads as it did. -/
def parseFaultsUptoRow : OpenClaim := { program := "ytmkhfcdjgdofnaadoor", sum := "8d1857fc0ab61be8d7c7db2a28e5717a39f495c53a38a6a673f669aa63bc47b6", func := "lariat/lariatlaw15.ParseFaults", spec := "parseFaults", inPlace := ["internal/bytealg.IndexByteString", "internal/bytealg.CountString", "internal/bytealg.IndexString"], unfollowed := true, recurses := true, named := ["internal/bytealg.MaxLen", "lariat/word.signs", "lariat/parse.bindings", "lariat/tree.signs"], apart := false, laid := [("lariat/word.signs", laid_lariat_word_signs), ("lariat/tree.signs", laid_lariat_tree_signs), ("lariat/parse.bindings", laid_lariat_parse_bindings)], narrowed := true }
def ParseFaultsUptoSaid : Prop := parseFaultsUptoRow.holds Tryd.pinned (OpenSpec.upto parseFaultsSpec)

/-- 'lariatlaw15.ParseJoins', WHERE WHAT IT READS IS OF BULK AT MOST 1048576: true; the input reads as it did. -/
def parseJoinsUptoRow : OpenClaim := { program := "ytmkhfcdjgdofnaadoor", sum := "8d1857fc0ab61be8d7c7db2a28e5717a39f495c53a38a6a673f669aa63bc47b6", func := "lariat/lariatlaw15.ParseJoins", spec := "parseJoins", inPlace := ["internal/bytealg.IndexByteString", "internal/bytealg.CountString", "internal/bytealg.IndexString"], unfollowed := true, recurses := true, named := ["internal/bytealg.MaxLen", "lariat/word.signs", "lariat/parse.bindings", "lariat/tree.signs"], apart := false, laid := [("lariat/word.signs", laid_lariat_word_signs), ("lariat/tree.signs", laid_lariat_tree_signs), ("lariat/parse.bindings", laid_lariat_parse_bindings)], narrowed := true }
def ParseJoinsUptoSaid : Prop := parseJoinsUptoRow.holds Tryd.pinned (OpenSpec.upto parseJoinsSpec)

end Rows
end Go.Proofs.YtmkhfcdjgdofnaaDoor
