/-
  NARROWER THAN 'FOR EVERY INPUT', by the rows' own cells (each row's printed sentence says how): FeedReads: laid · FeedCodes: laid · FeedOrder: laid · FeedShort: laid.
  DERIVED. THE GIVEN ROWS OF THIS SEAT. 4 by the template 'for every input the law returns true; each argument reads behind the call as it read before'; 0 by the template 'total and deterministic' (their statements: YtkgjbamkinfmeaaGreatDoorTotals.lean).
  GIVEN WITH THE SEED: the statements are not yours to turn. If you find one false, say at which input.
  Laid BY PROGRAM, IN A SANDBOX (cutbox-rows.mjs): the forced cells as the released guide's own fill.sh prints them over the translation 74df28f94fad438e… (all of the seat's roots in one cut). By AI agents, Wed Nov 11 2026. No macro, syntax, notation, axiom, sorry.
-/
import Derived.Test.YtkgjbamkinfmeaaGreatDoorChecked
import GoSem.Claim
import GoSem.ClaimJoined
import GoSem.ClaimMapViews
import Derived.JoinedTies
import Derived.KernelRfl
namespace Go.Proofs.YtkgjbamkinfmeaaGreatDoor
/- THE CELL 'sum', in the pinned program and in every row, IS THE sha256 OF THE DUMP (.gsa) THAT YtkgjbamkinfmeaaGreatDoorProg.lean LOADS. Nothing in Lean hashes anything: it is a label: what it is worth is what the hold of that sum in a sandbox is worth. -/
noncomputable def Tryz.pinned : Pinned := { name := "ytkgjbamkinfmeaagreatdoor", sum := "74df28f94fad438e00137e43d61dee2faa0f293958795fa8261adcb1931dd011", checked := Tryz.checked }
namespace Rows
def none {H : Type} : Left H := { results := [], args := [] }

/- WHAT THE LISTED PACKAGE-LEVEL VARIABLES READ AS WHEN THE CALL BEGINS. Each datum BY PROGRAM (the guide's laid-datum.mjs) off the statement by which the dump's own 'gosem.cut.vars' lays the variable. In a bare row this is a premise. The card (YtkgjbamkinfmeaaGreatDoorCards.lean) ties it to the program's text. -/
def laid_errors_errorType {H : Type} : DataW H := .iface "internal/reflectlite.rtype" (.agg [.ptr (.lit (.string [101, 114, 114, 111, 114]))])
def laid_newsreel_tree_errOpen {H : Type} : DataW H := .iface "*errors.errorString" (.ptr (.agg [.lit (.string [111, 112, 101, 110])]))
def laid_newsreel_date_weekdays {H : Type} : DataW H := .agg [.lit (.string [77, 111, 110]), .lit (.string [84, 117, 101]), .lit (.string [87, 101, 100]), .lit (.string [84, 104, 117]), .lit (.string [70, 114, 105]), .lit (.string [83, 97, 116]), .lit (.string [83, 117, 110])]
def laid_newsreel_date_months {H : Type} : DataW H := .agg [.lit (.string [74, 97, 110]), .lit (.string [70, 101, 98]), .lit (.string [77, 97, 114]), .lit (.string [65, 112, 114]), .lit (.string [77, 97, 121]), .lit (.string [74, 117, 110]), .lit (.string [74, 117, 108]), .lit (.string [65, 117, 103]), .lit (.string [83, 101, 112]), .lit (.string [79, 99, 116]), .lit (.string [78, 111, 118]), .lit (.string [68, 101, 99])]
def laid_newsreel_lex_errEnd {H : Type} : DataW H := .iface "*errors.errorString" (.ptr (.agg [.lit (.string [101, 110, 100])]))

/-- 'newsreellaw16.FeedReads': WHATEVER THE INPUT: true; the input reads as it did. -/
def feedReadsSpec : ChangeSpec := { name := "feedReads", fn := fun _ => fun
  | [d1, d2] => { results := [.lit (.bool true)], args := [d1, d2] }
  | _ => none }
def feedReadsRow : OpenClaim := { program := "ytkgjbamkinfmeaagreatdoor", sum := "74df28f94fad438e00137e43d61dee2faa0f293958795fa8261adcb1931dd011", func := "newsreel/newsreellaw16.FeedReads", spec := "feedReads", inPlace := ["internal/bytealg.IndexByteString", "internal/bytealg.IndexString", "internal/reflectlite.TypeOf", "internal/reflectlite.ValueOf", "(internal/reflectlite.Value).Type", "(internal/reflectlite.Value).IsNil", "(internal/reflectlite.Value).Elem", "(internal/reflectlite.Value).Set"], unfollowed := true, recurses := true, named := ["newsreel/lex.errEnd", "internal/bytealg.MaxLen", "errors.errorType", "newsreel/tree.errOpen", "newsreel/date.weekdays", "newsreel/date.months"], apart := false, laid := [("errors.errorType", laid_errors_errorType), ("newsreel/tree.errOpen", laid_newsreel_tree_errOpen), ("newsreel/date.weekdays", laid_newsreel_date_weekdays), ("newsreel/date.months", laid_newsreel_date_months), ("newsreel/lex.errEnd", laid_newsreel_lex_errEnd)] }
def FeedReadsSaid : Prop := feedReadsRow.holds Tryz.pinned (OpenSpec.ofChange feedReadsSpec)

/-- ITS FALSE NEIGHBOUR: 'it returns false'. Refute it at one input. -/
def feedReadsWrong : ChangeSpec := { name := "feedReads", fn := fun _ => fun
  | [d1, d2] => { results := [.lit (.bool false)], args := [d1, d2] }
  | _ => none }
def FeedReadsWrongFalsely : Prop := feedReadsRow.holds Tryz.pinned (OpenSpec.ofChange feedReadsWrong)

/-- 'newsreellaw16.FeedCodes': WHATEVER THE INPUT: true; the input reads as it did. -/
def feedCodesSpec : ChangeSpec := { name := "feedCodes", fn := fun _ => fun
  | [d1, d2, d3] => { results := [.lit (.bool true)], args := [d1, d2, d3] }
  | _ => none }
def feedCodesRow : OpenClaim := { program := "ytkgjbamkinfmeaagreatdoor", sum := "74df28f94fad438e00137e43d61dee2faa0f293958795fa8261adcb1931dd011", func := "newsreel/newsreellaw16.FeedCodes", spec := "feedCodes", inPlace := ["internal/bytealg.IndexByteString", "internal/bytealg.IndexString", "internal/reflectlite.TypeOf", "internal/reflectlite.ValueOf", "(internal/reflectlite.Value).Type", "(internal/reflectlite.Value).IsNil", "(internal/reflectlite.Value).Elem", "(internal/reflectlite.Value).Set"], unfollowed := true, recurses := true, named := ["newsreel/lex.errEnd", "internal/bytealg.MaxLen", "errors.errorType", "newsreel/tree.errOpen", "newsreel/date.weekdays", "newsreel/date.months"], apart := false, laid := [("errors.errorType", laid_errors_errorType), ("newsreel/tree.errOpen", laid_newsreel_tree_errOpen), ("newsreel/date.weekdays", laid_newsreel_date_weekdays), ("newsreel/date.months", laid_newsreel_date_months), ("newsreel/lex.errEnd", laid_newsreel_lex_errEnd)] }
def FeedCodesSaid : Prop := feedCodesRow.holds Tryz.pinned (OpenSpec.ofChange feedCodesSpec)

/-- ITS FALSE NEIGHBOUR: 'it returns false'. Refute it at one input. -/
def feedCodesWrong : ChangeSpec := { name := "feedCodes", fn := fun _ => fun
  | [d1, d2, d3] => { results := [.lit (.bool false)], args := [d1, d2, d3] }
  | _ => none }
def FeedCodesWrongFalsely : Prop := feedCodesRow.holds Tryz.pinned (OpenSpec.ofChange feedCodesWrong)

/-- 'newsreellaw16.FeedOrder': WHATEVER THE INPUT: true; the input reads as it did. -/
def feedOrderSpec : ChangeSpec := { name := "feedOrder", fn := fun _ => fun
  | [d1, d2] => { results := [.lit (.bool true)], args := [d1, d2] }
  | _ => none }
def feedOrderRow : OpenClaim := { program := "ytkgjbamkinfmeaagreatdoor", sum := "74df28f94fad438e00137e43d61dee2faa0f293958795fa8261adcb1931dd011", func := "newsreel/newsreellaw16.FeedOrder", spec := "feedOrder", inPlace := ["internal/bytealg.IndexByteString", "internal/bytealg.IndexString", "internal/reflectlite.TypeOf", "internal/reflectlite.ValueOf", "(internal/reflectlite.Value).Type", "(internal/reflectlite.Value).IsNil", "(internal/reflectlite.Value).Elem", "(internal/reflectlite.Value).Set"], unfollowed := true, recurses := true, named := ["newsreel/lex.errEnd", "internal/bytealg.MaxLen", "errors.errorType", "newsreel/tree.errOpen", "newsreel/date.weekdays", "newsreel/date.months"], apart := false, laid := [("errors.errorType", laid_errors_errorType), ("newsreel/tree.errOpen", laid_newsreel_tree_errOpen), ("newsreel/date.weekdays", laid_newsreel_date_weekdays), ("newsreel/date.months", laid_newsreel_date_months), ("newsreel/lex.errEnd", laid_newsreel_lex_errEnd)] }
def FeedOrderSaid : Prop := feedOrderRow.holds Tryz.pinned (OpenSpec.ofChange feedOrderSpec)

/-- ITS FALSE NEIGHBOUR: 'it returns false'. Refute it at one input. -/
def feedOrderWrong : ChangeSpec := { name := "feedOrder", fn := fun _ => fun
  | [d1, d2] => { results := [.lit (.bool false)], args := [d1, d2] }
  | _ => none }
def FeedOrderWrongFalsely : Prop := feedOrderRow.holds Tryz.pinned (OpenSpec.ofChange feedOrderWrong)

/-- 'newsreellaw16.FeedShort': WHATEVER THE INPUT: true; the input reads as it did. -/
def feedShortSpec : ChangeSpec := { name := "feedShort", fn := fun _ => fun
  | [d1, d2] => { results := [.lit (.bool true)], args := [d1, d2] }
  | _ => none }
def feedShortRow : OpenClaim := { program := "ytkgjbamkinfmeaagreatdoor", sum := "74df28f94fad438e00137e43d61dee2faa0f293958795fa8261adcb1931dd011", func := "newsreel/newsreellaw16.FeedShort", spec := "feedShort", inPlace := ["internal/bytealg.IndexByteString", "internal/bytealg.IndexString", "internal/reflectlite.TypeOf", "internal/reflectlite.ValueOf", "(internal/reflectlite.Value).Type", "(internal/reflectlite.Value).IsNil", "(internal/reflectlite.Value).Elem", "(internal/reflectlite.Value).Set"], unfollowed := true, recurses := true, named := ["newsreel/lex.errEnd", "internal/bytealg.MaxLen", "errors.errorType", "newsreel/tree.errOpen", "newsreel/date.weekdays", "newsreel/date.months"], apart := false, laid := [("errors.errorType", laid_errors_errorType), ("newsreel/tree.errOpen", laid_newsreel_tree_errOpen), ("newsreel/date.weekdays", laid_newsreel_date_weekdays), ("newsreel/date.months", laid_newsreel_date_months), ("newsreel/lex.errEnd", laid_newsreel_lex_errEnd)] }
def FeedShortSaid : Prop := feedShortRow.holds Tryz.pinned (OpenSpec.ofChange feedShortSpec)

/-- ITS FALSE NEIGHBOUR: 'it returns false'. Refute it at one input. -/
def feedShortWrong : ChangeSpec := { name := "feedShort", fn := fun _ => fun
  | [d1, d2] => { results := [.lit (.bool false)], args := [d1, d2] }
  | _ => none }
def FeedShortWrongFalsely : Prop := feedShortRow.holds Tryz.pinned (OpenSpec.ofChange feedShortWrong)

/- THE SECOND FORM. 'bulk': how many values and letters a reading holds, each counted each time it is reached (what is shared counts as often as it is met; a slice's spare places count too). A statement '..UptoSaid' is the law's where the arguments, and the package variables that the reading takes, are together of bulk at most 1048576: NARROWER than '..Said'. Prove '..Said' where nothing that the law and all that it calls make is longer than what came in: it says more and counts as full. Else prove '..UptoSaid'. A law counts once. -/
mutual
def uptoBulk {H : Type} : DataW H → Nat
  | .lit (.string bytes) => bytes.length + 1
  | .lit _ => 1
  | .nil => 1
  | .ptr d => uptoBulk d + 1
  | .slice elems spare => uptoBulkAll elems + uptoBulkAll spare + 1
  | .agg parts => uptoBulkAll parts + 1
  | .iface _ d => uptoBulk d + 1
  | .map entries => uptoBulkEntries entries + 1
  | .held _ => 1
def uptoBulkAll {H : Type} : List (DataW H) → Nat
  | [] => 0
  | d :: r => uptoBulk d + uptoBulkAll r
def uptoBulkEntries {H : Type} : List (Lit × DataW H) → Nat
  | [] => 0
  | x :: r => uptoBulkEntry x + uptoBulkEntries r
def uptoBulkEntry {H : Type} : Lit × DataW H → Nat
  | (.string bytes, d) => bytes.length + uptoBulk d + 1
  | (_, d) => uptoBulk d + 1
 end
def uptoSmall : (H : Type) → List (DataW H) → Bool := fun _ ds => decide (uptoBulkAll ds ≤ 1048576)
def OpenSpec.upto (s : _root_.Go.ChangeSpec) : _root_.Go.OpenSpec := { _root_.Go.OpenSpec.ofChange s with cond := some uptoSmall }

/-- 'newsreellaw16.FeedReads', WHERE WHAT IT READS IS OF BULK AT MOST 1048576: true; the input reads as it did. -/
def feedReadsUptoRow : OpenClaim := { program := "ytkgjbamkinfmeaagreatdoor", sum := "74df28f94fad438e00137e43d61dee2faa0f293958795fa8261adcb1931dd011", func := "newsreel/newsreellaw16.FeedReads", spec := "feedReads", inPlace := ["internal/bytealg.IndexByteString", "internal/bytealg.IndexString", "internal/reflectlite.TypeOf", "internal/reflectlite.ValueOf", "(internal/reflectlite.Value).Type", "(internal/reflectlite.Value).IsNil", "(internal/reflectlite.Value).Elem", "(internal/reflectlite.Value).Set"], unfollowed := true, recurses := true, named := ["newsreel/lex.errEnd", "internal/bytealg.MaxLen", "errors.errorType", "newsreel/tree.errOpen", "newsreel/date.weekdays", "newsreel/date.months"], apart := false, laid := [("errors.errorType", laid_errors_errorType), ("newsreel/tree.errOpen", laid_newsreel_tree_errOpen), ("newsreel/date.weekdays", laid_newsreel_date_weekdays), ("newsreel/date.months", laid_newsreel_date_months), ("newsreel/lex.errEnd", laid_newsreel_lex_errEnd)], narrowed := true }
def FeedReadsUptoSaid : Prop := feedReadsUptoRow.holds Tryz.pinned (OpenSpec.upto feedReadsSpec)

/-- 'newsreellaw16.FeedCodes', WHERE WHAT IT READS IS OF BULK AT MOST 1048576: true; the input reads as it did. -/
def feedCodesUptoRow : OpenClaim := { program := "ytkgjbamkinfmeaagreatdoor", sum := "74df28f94fad438e00137e43d61dee2faa0f293958795fa8261adcb1931dd011", func := "newsreel/newsreellaw16.FeedCodes", spec := "feedCodes", inPlace := ["internal/bytealg.IndexByteString", "internal/bytealg.IndexString", "internal/reflectlite.TypeOf", "internal/reflectlite.ValueOf", "(internal/reflectlite.Value).Type", "(internal/reflectlite.Value).IsNil", "(internal/reflectlite.Value).Elem", "(internal/reflectlite.Value).Set"], unfollowed := true, recurses := true, named := ["newsreel/lex.errEnd", "internal/bytealg.MaxLen", "errors.errorType", "newsreel/tree.errOpen", "newsreel/date.weekdays", "newsreel/date.months"], apart := false, laid := [("errors.errorType", laid_errors_errorType), ("newsreel/tree.errOpen", laid_newsreel_tree_errOpen), ("newsreel/date.weekdays", laid_newsreel_date_weekdays), ("newsreel/date.months", laid_newsreel_date_months), ("newsreel/lex.errEnd", laid_newsreel_lex_errEnd)], narrowed := true }
def FeedCodesUptoSaid : Prop := feedCodesUptoRow.holds Tryz.pinned (OpenSpec.upto feedCodesSpec)

/-- 'newsreellaw16.FeedOrder', WHERE WHAT IT READS IS OF BULK AT MOST 1048576: true; the input reads as it did. -/
def feedOrderUptoRow : OpenClaim := { program := "ytkgjbamkinfmeaagreatdoor", sum := "74df28f94fad438e00137e43d61dee2faa0f293958795fa8261adcb1931dd011", func := "newsreel/newsreellaw16.FeedOrder", spec := "feedOrder", inPlace := ["internal/bytealg.IndexByteString", "internal/bytealg.IndexString", "internal/reflectlite.TypeOf", "internal/reflectlite.ValueOf", "(internal/reflectlite.Value).Type", "(internal/reflectlite.Value).IsNil", "(internal/reflectlite.Value).Elem", "(internal/reflectlite.Value).Set"], unfollowed := true, recurses := true, named := ["newsreel/lex.errEnd", "internal/bytealg.MaxLen", "errors.errorType", "newsreel/tree.errOpen", "newsreel/date.weekdays", "newsreel/date.months"], apart := false, laid := [("errors.errorType", laid_errors_errorType), ("newsreel/tree.errOpen", laid_newsreel_tree_errOpen), ("newsreel/date.weekdays", laid_newsreel_date_weekdays), ("newsreel/date.months", laid_newsreel_date_months), ("newsreel/lex.errEnd", laid_newsreel_lex_errEnd)], narrowed := true }
def FeedOrderUptoSaid : Prop := feedOrderUptoRow.holds Tryz.pinned (OpenSpec.upto feedOrderSpec)

/-- 'newsreellaw16.FeedShort', WHERE WHAT IT READS IS OF BULK AT MOST 1048576: true; the input reads as it did. -/
def feedShortUptoRow : OpenClaim := { program := "ytkgjbamkinfmeaagreatdoor", sum := "74df28f94fad438e00137e43d61dee2faa0f293958795fa8261adcb1931dd011", func := "newsreel/newsreellaw16.FeedShort", spec := "feedShort", inPlace := ["internal/bytealg.IndexByteString", "internal/bytealg.IndexString", "internal/reflectlite.TypeOf", "internal/reflectlite.ValueOf", "(internal/reflectlite.Value).Type", "(internal/reflectlite.Value).IsNil", "(internal/reflectlite.Value).Elem", "(internal/reflectlite.Value).Set"], unfollowed := true, recurses := true, named := ["newsreel/lex.errEnd", "internal/bytealg.MaxLen", "errors.errorType", "newsreel/tree.errOpen", "newsreel/date.weekdays", "newsreel/date.months"], apart := false, laid := [("errors.errorType", laid_errors_errorType), ("newsreel/tree.errOpen", laid_newsreel_tree_errOpen), ("newsreel/date.weekdays", laid_newsreel_date_weekdays), ("newsreel/date.months", laid_newsreel_date_months), ("newsreel/lex.errEnd", laid_newsreel_lex_errEnd)], narrowed := true }
def FeedShortUptoSaid : Prop := feedShortUptoRow.holds Tryz.pinned (OpenSpec.upto feedShortSpec)

end Rows
end Go.Proofs.YtkgjbamkinfmeaaGreatDoor
