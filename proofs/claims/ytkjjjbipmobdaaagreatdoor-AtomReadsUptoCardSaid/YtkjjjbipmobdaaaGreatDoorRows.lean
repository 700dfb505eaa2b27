/-
  NARROWER THAN 'FOR EVERY INPUT', by the rows' own cells (each row's printed sentence says how): AtomReads: laid · AtomTexts: laid · AtomDates: laid · RssReads: laid · RssTexts: laid · RssFields: laid · RssLimits: laid.
  DERIVED. THE GIVEN ROWS OF THIS SEAT. 7 by the template 'for every input the law returns true; each argument reads behind the call as it read before'; 0 by the template 'total and deterministic' (their statements: YtkjjjbipmobdaaaGreatDoorTotals.lean).
  GIVEN WITH THE SEED: the statements are not yours to turn. If you find one false, say at which input.
  Laid BY PROGRAM, IN A SANDBOX (cutbox-rows.mjs): the forced cells as the released guide's own fill.sh prints them over the translation 5b2d72d950e1acff… (all of the seat's roots in one cut). By AI agents, Wed Nov 11 2026. No macro, syntax, notation, axiom, sorry.
-/
import Derived.Test.YtkjjjbipmobdaaaGreatDoorChecked
import GoSem.Claim
import GoSem.ClaimJoined
import GoSem.ClaimMapViews
import Derived.JoinedTies
import Derived.KernelRfl
namespace Go.Proofs.YtkjjjbipmobdaaaGreatDoor
/- THE CELL 'sum', in the pinned program and in every row, IS THE sha256 OF THE DUMP (.gsa) THAT YtkjjjbipmobdaaaGreatDoorProg.lean LOADS. Nothing in Lean hashes anything: it is a label: what it is worth is what the hold of that sum in a sandbox is worth. -/
noncomputable def Tryz.pinned : Pinned := { name := "ytkjjjbipmobdaaagreatdoor", sum := "5b2d72d950e1acffd35f9418885a9b285729fd898c7c7b831a880f342c28941c", checked := Tryz.checked }
namespace Rows
def none {H : Type} : Left H := { results := [], args := [] }

/- WHAT THE LISTED PACKAGE-LEVEL VARIABLES READ AS WHEN THE CALL BEGINS. Each datum BY PROGRAM (the guide's laid-datum.mjs) off the statement by which the dump's own 'gosem.cut.vars' lays the variable. In a bare row this is a premise. The card (YtkjjjbipmobdaaaGreatDoorCards.lean) ties it to the program's text. -/
def laid_errors_errorType {H : Type} : DataW H := .iface "internal/reflectlite.rtype" (.agg [.ptr (.lit (.string [101, 114, 114, 111, 114]))])
def laid_newsreel_date_weekdays {H : Type} : DataW H := .agg [.lit (.string [77, 111, 110]), .lit (.string [84, 117, 101]), .lit (.string [87, 101, 100]), .lit (.string [84, 104, 117]), .lit (.string [70, 114, 105]), .lit (.string [83, 97, 116]), .lit (.string [83, 117, 110])]
def laid_newsreel_date_months {H : Type} : DataW H := .agg [.lit (.string [74, 97, 110]), .lit (.string [70, 101, 98]), .lit (.string [77, 97, 114]), .lit (.string [65, 112, 114]), .lit (.string [77, 97, 121]), .lit (.string [74, 117, 110]), .lit (.string [74, 117, 108]), .lit (.string [65, 117, 103]), .lit (.string [83, 101, 112]), .lit (.string [79, 99, 116]), .lit (.string [78, 111, 118]), .lit (.string [68, 101, 99])]

/-- 'newsreellaw15.AtomReads': WHATEVER THE INPUT: true; the input reads as it did. -/
def atomReadsSpec : ChangeSpec := { name := "atomReads", fn := fun _ => fun
  | [d1, d2, d3] => { results := [.lit (.bool true)], args := [d1, d2, d3] }
  | _ => none }
def atomReadsRow : OpenClaim := { program := "ytkjjjbipmobdaaagreatdoor", sum := "5b2d72d950e1acffd35f9418885a9b285729fd898c7c7b831a880f342c28941c", func := "newsreel/newsreellaw15.AtomReads", spec := "atomReads", inPlace := ["internal/bytealg.IndexByteString", "internal/reflectlite.TypeOf", "internal/reflectlite.ValueOf", "(internal/reflectlite.Value).Type", "(internal/reflectlite.Value).IsNil", "(internal/reflectlite.Value).Elem", "(internal/reflectlite.Value).Set"], unfollowed := true, recurses := true, named := ["errors.errorType"], apart := false, laid := [("errors.errorType", laid_errors_errorType)] }
def AtomReadsSaid : Prop := atomReadsRow.holds Tryz.pinned (OpenSpec.ofChange atomReadsSpec)

/-- ITS FALSE NEIGHBOUR: 'it returns false'. Refute it at one input. -/
def atomReadsWrong : ChangeSpec := { name := "atomReads", fn := fun _ => fun
  | [d1, d2, d3] => { results := [.lit (.bool false)], args := [d1, d2, d3] }
  | _ => none }
def AtomReadsWrongFalsely : Prop := atomReadsRow.holds Tryz.pinned (OpenSpec.ofChange atomReadsWrong)

/-- 'newsreellaw15.AtomTexts': WHATEVER THE INPUT: true; the input reads as it did. -/
def atomTextsSpec : ChangeSpec := { name := "atomTexts", fn := fun _ => fun
  | [d1, d2, d3] => { results := [.lit (.bool true)], args := [d1, d2, d3] }
  | _ => none }
def atomTextsRow : OpenClaim := { program := "ytkjjjbipmobdaaagreatdoor", sum := "5b2d72d950e1acffd35f9418885a9b285729fd898c7c7b831a880f342c28941c", func := "newsreel/newsreellaw15.AtomTexts", spec := "atomTexts", inPlace := ["internal/bytealg.IndexByteString", "internal/reflectlite.TypeOf", "internal/reflectlite.ValueOf", "(internal/reflectlite.Value).Type", "(internal/reflectlite.Value).IsNil", "(internal/reflectlite.Value).Elem", "(internal/reflectlite.Value).Set"], unfollowed := true, recurses := true, named := ["errors.errorType"], apart := false, laid := [("errors.errorType", laid_errors_errorType)] }
def AtomTextsSaid : Prop := atomTextsRow.holds Tryz.pinned (OpenSpec.ofChange atomTextsSpec)

/-- ITS FALSE NEIGHBOUR: 'it returns false'. Refute it at one input. -/
def atomTextsWrong : ChangeSpec := { name := "atomTexts", fn := fun _ => fun
  | [d1, d2, d3] => { results := [.lit (.bool false)], args := [d1, d2, d3] }
  | _ => none }
def AtomTextsWrongFalsely : Prop := atomTextsRow.holds Tryz.pinned (OpenSpec.ofChange atomTextsWrong)

/-- 'newsreellaw15.AtomDates': WHATEVER THE INPUT: true; the input reads as it did. -/
def atomDatesSpec : ChangeSpec := { name := "atomDates", fn := fun _ => fun
  | [d1, d2, d3] => { results := [.lit (.bool true)], args := [d1, d2, d3] }
  | _ => none }
def atomDatesRow : OpenClaim := { program := "ytkjjjbipmobdaaagreatdoor", sum := "5b2d72d950e1acffd35f9418885a9b285729fd898c7c7b831a880f342c28941c", func := "newsreel/newsreellaw15.AtomDates", spec := "atomDates", inPlace := ["internal/bytealg.IndexByteString", "internal/reflectlite.TypeOf", "internal/reflectlite.ValueOf", "(internal/reflectlite.Value).Type", "(internal/reflectlite.Value).IsNil", "(internal/reflectlite.Value).Elem", "(internal/reflectlite.Value).Set"], unfollowed := true, recurses := true, named := ["errors.errorType"], apart := false, laid := [("errors.errorType", laid_errors_errorType)] }
def AtomDatesSaid : Prop := atomDatesRow.holds Tryz.pinned (OpenSpec.ofChange atomDatesSpec)

/-- ITS FALSE NEIGHBOUR: 'it returns false'. Refute it at one input. -/
def atomDatesWrong : ChangeSpec := { name := "atomDates", fn := fun _ => fun
  | [d1, d2, d3] => { results := [.lit (.bool false)], args := [d1, d2, d3] }
  | _ => none }
def AtomDatesWrongFalsely : Prop := atomDatesRow.holds Tryz.pinned (OpenSpec.ofChange atomDatesWrong)

/-- 'newsreellaw14.RssReads': WHATEVER THE INPUT: true; the input reads as it did. -/
def rssReadsSpec : ChangeSpec := { name := "rssReads", fn := fun _ => fun
  | [d1, d2, d3] => { results := [.lit (.bool true)], args := [d1, d2, d3] }
  | _ => none }
def rssReadsRow : OpenClaim := { program := "ytkjjjbipmobdaaagreatdoor", sum := "5b2d72d950e1acffd35f9418885a9b285729fd898c7c7b831a880f342c28941c", func := "newsreel/newsreellaw14.RssReads", spec := "rssReads", inPlace := ["internal/bytealg.IndexByteString", "internal/reflectlite.TypeOf", "internal/reflectlite.ValueOf", "(internal/reflectlite.Value).Type", "(internal/reflectlite.Value).IsNil", "(internal/reflectlite.Value).Elem", "(internal/reflectlite.Value).Set"], unfollowed := true, recurses := true, named := ["newsreel/date.weekdays", "newsreel/date.months", "errors.errorType"], apart := false, laid := [("errors.errorType", laid_errors_errorType), ("newsreel/date.weekdays", laid_newsreel_date_weekdays), ("newsreel/date.months", laid_newsreel_date_months)] }
def RssReadsSaid : Prop := rssReadsRow.holds Tryz.pinned (OpenSpec.ofChange rssReadsSpec)

/-- ITS FALSE NEIGHBOUR: 'it returns false'. Refute it at one input. -/
def rssReadsWrong : ChangeSpec := { name := "rssReads", fn := fun _ => fun
  | [d1, d2, d3] => { results := [.lit (.bool false)], args := [d1, d2, d3] }
  | _ => none }
def RssReadsWrongFalsely : Prop := rssReadsRow.holds Tryz.pinned (OpenSpec.ofChange rssReadsWrong)

/-- 'newsreellaw14.RssTexts': WHATEVER THE INPUT: true; the input reads as it did. -/
def rssTextsSpec : ChangeSpec := { name := "rssTexts", fn := fun _ => fun
  | [d1, d2, d3] => { results := [.lit (.bool true)], args := [d1, d2, d3] }
  | _ => none }
def rssTextsRow : OpenClaim := { program := "ytkjjjbipmobdaaagreatdoor", sum := "5b2d72d950e1acffd35f9418885a9b285729fd898c7c7b831a880f342c28941c", func := "newsreel/newsreellaw14.RssTexts", spec := "rssTexts", inPlace := ["internal/bytealg.IndexByteString", "internal/reflectlite.TypeOf", "internal/reflectlite.ValueOf", "(internal/reflectlite.Value).Type", "(internal/reflectlite.Value).IsNil", "(internal/reflectlite.Value).Elem", "(internal/reflectlite.Value).Set"], unfollowed := true, recurses := true, named := ["newsreel/date.weekdays", "newsreel/date.months", "errors.errorType"], apart := false, laid := [("errors.errorType", laid_errors_errorType), ("newsreel/date.weekdays", laid_newsreel_date_weekdays), ("newsreel/date.months", laid_newsreel_date_months)] }
def RssTextsSaid : Prop := rssTextsRow.holds Tryz.pinned (OpenSpec.ofChange rssTextsSpec)

/-- ITS FALSE NEIGHBOUR: 'it returns false'. Refute it at one input. -/
def rssTextsWrong : ChangeSpec := { name := "rssTexts", fn := fun _ => fun
  | [d1, d2, d3] => { results := [.lit (.bool false)], args := [d1, d2, d3] }
  | _ => none }
def RssTextsWrongFalsely : Prop := rssTextsRow.holds Tryz.pinned (OpenSpec.ofChange rssTextsWrong)

/-- 'newsreellaw14.RssFields': WHATEVER THE INPUT: true; the input reads as it did. -/
def rssFieldsSpec : ChangeSpec := { name := "rssFields", fn := fun _ => fun
  | [d1, d2, d3] => { results := [.lit (.bool true)], args := [d1, d2, d3] }
  | _ => none }
def rssFieldsRow : OpenClaim := { program := "ytkjjjbipmobdaaagreatdoor", sum := "5b2d72d950e1acffd35f9418885a9b285729fd898c7c7b831a880f342c28941c", func := "newsreel/newsreellaw14.RssFields", spec := "rssFields", inPlace := ["internal/bytealg.IndexByteString", "internal/reflectlite.TypeOf", "internal/reflectlite.ValueOf", "(internal/reflectlite.Value).Type", "(internal/reflectlite.Value).IsNil", "(internal/reflectlite.Value).Elem", "(internal/reflectlite.Value).Set"], unfollowed := true, recurses := true, named := ["newsreel/date.weekdays", "newsreel/date.months", "errors.errorType"], apart := false, laid := [("errors.errorType", laid_errors_errorType), ("newsreel/date.weekdays", laid_newsreel_date_weekdays), ("newsreel/date.months", laid_newsreel_date_months)] }
def RssFieldsSaid : Prop := rssFieldsRow.holds Tryz.pinned (OpenSpec.ofChange rssFieldsSpec)

/-- ITS FALSE NEIGHBOUR: 'it returns false'. Refute it at one input. -/
def rssFieldsWrong : ChangeSpec := { name := "rssFields", fn := fun _ => fun
  | [d1, d2, d3] => { results := [.lit (.bool false)], args := [d1, d2, d3] }
  | _ => none }
def RssFieldsWrongFalsely : Prop := rssFieldsRow.holds Tryz.pinned (OpenSpec.ofChange rssFieldsWrong)

/-- 'newsreellaw14.RssLimits': WHATEVER THE INPUT: true; the input reads as it did. -/
def rssLimitsSpec : ChangeSpec := { name := "rssLimits", fn := fun _ => fun
  | [d1, d2] => { results := [.lit (.bool true)], args := [d1, d2] }
  | _ => none }
def rssLimitsRow : OpenClaim := { program := "ytkjjjbipmobdaaagreatdoor", sum := "5b2d72d950e1acffd35f9418885a9b285729fd898c7c7b831a880f342c28941c", func := "newsreel/newsreellaw14.RssLimits", spec := "rssLimits", inPlace := ["internal/bytealg.IndexByteString", "internal/reflectlite.TypeOf", "internal/reflectlite.ValueOf", "(internal/reflectlite.Value).Type", "(internal/reflectlite.Value).IsNil", "(internal/reflectlite.Value).Elem", "(internal/reflectlite.Value).Set"], unfollowed := true, recurses := true, named := ["newsreel/date.weekdays", "newsreel/date.months", "errors.errorType"], apart := false, laid := [("errors.errorType", laid_errors_errorType), ("newsreel/date.weekdays", laid_newsreel_date_weekdays), ("newsreel/date.months", laid_newsreel_date_months)] }
def RssLimitsSaid : Prop := rssLimitsRow.holds Tryz.pinned (OpenSpec.ofChange rssLimitsSpec)

/-- ITS FALSE NEIGHBOUR: 'it returns false'. Refute it at one input. -/
def rssLimitsWrong : ChangeSpec := { name := "rssLimits", fn := fun _ => fun
  | [d1, d2] => { results := [.lit (.bool false)], args := [d1, d2] }
  | _ => none }
def RssLimitsWrongFalsely : Prop := rssLimitsRow.holds Tryz.pinned (OpenSpec.ofChange rssLimitsWrong)

/- THE SECOND FORM. 'bulk': how many values and letters a reading holds, each counted each time it is reached (what is shared counts as often as it is met; a slice's spare places count too). A statement '..UptoSaid' is the law's where the arguments, and the package variables that the reading takes, are together of bulk at most 1048576: NARROWER than '..Said'. Prove '..Said' where nothing that the law and all that it calls make is longer than what came in: it says more and counts as full. Else prove '..UptoSaid'. A law counts once. -/
mutual
def uptoBulk {H : Type} : DataW H → Nat
  | .lit (.string bytes) => bytes.length + 1
  | .lit _ => 1
  | .nil => 1
  | .ptr d => uptoBulk d + 1
  | .slice elems spare => uptoBulkAll elems + uptoBulkAll spare + 1
  | .agg parts => uptoBulkAll parts + 1
  | .iface _ d => uptoBulk d + 1
  | .map entries => uptoBulkEntries entries + 1
  | .held _ => 1
def uptoBulkAll {H : Type} : List (DataW H) → Nat
  | [] => 0
  | d :: r => uptoBulk d + uptoBulkAll r
def uptoBulkEntries {H : Type} : List (Lit × DataW H) → Nat
  | [] => 0
  | x :: r => uptoBulkEntry x + uptoBulkEntries r
def uptoBulkEntry {H : Type} : Lit × DataW H → Nat
  | (.string bytes, d) => bytes.length + uptoBulk d + 1
  | (_, d) => uptoBulk d + 1
 end
def uptoSmall : (H : Type) → List (DataW H) → Bool := fun _ ds => decide (uptoBulkAll ds ≤ 1048576)
def OpenSpec.upto (s : _root_.Go.ChangeSpec) : _root_.Go.OpenSpec := { _root_.Go.OpenSpec.ofChange s with cond := some uptoSmall }

/-- 'newsreellaw15.AtomReads', WHERE WHAT IT READS IS OF BULK AT MOST 1048576: true; the input reads as it did. -/
def atomReadsUptoRow : OpenClaim := { program := "ytkjjjbipmobdaaagreatdoor", sum := "5b2d72d950e1acffd35f9418885a9b285729fd898c7c7b831a880f342c28941c", func := "newsreel/newsreellaw15.AtomReads", spec := "atomReads", inPlace := ["internal/bytealg.IndexByteString", "internal/reflectlite.TypeOf", "internal/reflectlite.ValueOf", "(internal/reflectlite.Value).Type", "(internal/reflectlite.Value).IsNil", "(internal/reflectlite.Value).Elem", "(internal/reflectlite.Value).Set"], unfollowed := true, recurses := true, named := ["errors.errorType"], apart := false, laid := [("errors.errorType", laid_errors_errorType)], narrowed := true }
def AtomReadsUptoSaid : Prop := atomReadsUptoRow.holds Tryz.pinned (OpenSpec.upto atomReadsSpec)

/-- 'newsreellaw15.AtomTexts', WHERE WHAT IT READS IS OF BULK AT MOST 1048576: true; the input reads as it did. -/
def atomTextsUptoRow : OpenClaim := { program := "ytkjjjbipmobdaaagreatdoor", sum := "5b2d72d950e1acffd35f9418885a9b285729fd898c7c7b831a880f342c28941c", func := "newsreel/newsreellaw15.AtomTexts", spec := "atomTexts", inPlace := ["internal/bytealg.IndexByteString", "internal/reflectlite.TypeOf", "internal/reflectlite.ValueOf", "(internal/reflectlite.Value).Type", "(internal/reflectlite.Value).IsNil", "(internal/reflectlite.Value).Elem", "(internal/reflectlite.Value).Set"], unfollowed := true, recurses := true, named := ["errors.errorType"], apart := false, laid := [("errors.errorType", laid_errors_errorType)], narrowed := true }
def AtomTextsUptoSaid : Prop := atomTextsUptoRow.holds Tryz.pinned (OpenSpec.upto atomTextsSpec)

/-- 'newsreellaw15.AtomDates', WHERE WHAT IT READS IS OF BULK AT MOST 1048576: true; the input reads as it did. -/
def atomDatesUptoRow : OpenClaim := { program := "ytkjjjbipmobdaaagreatdoor", sum := "5b2d72d950e1acffd35f9418885a9b285729fd898c7c7b831a880f342c28941c", func := "newsreel/newsreellaw15.AtomDates", spec := "atomDates", inPlace := ["internal/bytealg.IndexByteString", "internal/reflectlite.TypeOf", "internal/reflectlite.ValueOf", "(internal/reflectlite.Value).Type", "(internal/reflectlite.Value).IsNil", "(internal/reflectlite.Value).Elem", "(internal/reflectlite.Value).Set"], unfollowed := true, recurses := true, named := ["errors.errorType"], apart := false, laid := [("errors.errorType", laid_errors_errorType)], narrowed := true }
def AtomDatesUptoSaid : Prop := atomDatesUptoRow.holds Tryz.pinned (OpenSpec.upto atomDatesSpec)

/-- 'newsreellaw14.RssReads', WHERE WHAT IT READS IS OF BULK AT MOST 1048576: true; the input reads as it did. -/
def rssReadsUptoRow : OpenClaim := { program := "ytkjjjbipmobdaaagreatdoor", sum := "5b2d72d950e1acffd35f9418885a9b285729fd898c7c7b831a880f342c28941c", func := "newsreel/newsreellaw14.RssReads", spec := "rssReads", inPlace := ["internal/bytealg.IndexByteString", "internal/reflectlite.TypeOf", "internal/reflectlite.ValueOf", "(internal/reflectlite.Value).Type", "(internal/reflectlite.Value).IsNil", "(internal/reflectlite.Value).Elem", "(internal/reflectlite.Value).Set"], unfollowed := true, recurses := true, named := ["newsreel/date.weekdays", "newsreel/date.months", "errors.errorType"], apart := false, laid := [("errors.errorType", laid_errors_errorType), ("newsreel/date.weekdays", laid_newsreel_date_weekdays), ("newsreel/date.months", laid_newsreel_date_months)], narrowed := true }
def RssReadsUptoSaid : Prop := rssReadsUptoRow.holds Tryz.pinned (OpenSpec.upto rssReadsSpec)

/-- 'newsreellaw14.RssTexts', WHERE WHAT IT READS IS OF BULK AT MOST 1048576: true; the input reads as it did. -/
def rssTextsUptoRow : OpenClaim := { program := "ytkjjjbipmobdaaagreatdoor", sum := "5b2d72d950e1acffd35f9418885a9b285729fd898c7c7b831a880f342c28941c", func := "newsreel/newsreellaw14.RssTexts", spec := "rssTexts", inPlace := ["internal/bytealg.IndexByteString", "internal/reflectlite.TypeOf", "internal/reflectlite.ValueOf", "(internal/reflectlite.Value).Type", "(internal/reflectlite.Value).IsNil", "(internal/reflectlite.Value).Elem", "(internal/reflectlite.Value).Set"], unfollowed := true, recurses := true, named := ["newsreel/date.weekdays", "newsreel/date.months", "errors.errorType"], apart := false, laid := [("errors.errorType", laid_errors_errorType), ("newsreel/date.weekdays", laid_newsreel_date_weekdays), ("newsreel/date.months", laid_newsreel_date_months)], narrowed := true }
def RssTextsUptoSaid : Prop := rssTextsUptoRow.holds Tryz.pinned (OpenSpec.upto rssTextsSpec)

/-- 'newsreellaw14.RssFields', WHERE WHAT IT READS IS OF BULK AT MOST 1048576: true; the input reads as it did. -/
def rssFieldsUptoRow : OpenClaim := { program := "ytkjjjbipmobdaaagreatdoor", sum := "5b2d72d950e1acffd35f9418885a9b285729fd898c7c7b831a880f342c28941c", func := "newsreel/newsreellaw14.RssFields", spec := "rssFields", inPlace := ["internal/bytealg.IndexByteString", "internal/reflectlite.TypeOf", "internal/reflectlite.ValueOf", "(internal/reflectlite.Value).Type", "(internal/reflectlite.Value).IsNil", "(internal/reflectlite.Value).Elem", "(internal/reflectlite.Value).Set"], unfollowed := true, recurses := true, named := ["newsreel/date.weekdays", "newsreel/date.months", "errors.errorType"], apart := false, laid := [("errors.errorType", laid_errors_errorType), ("newsreel/date.weekdays", laid_newsreel_date_weekdays), ("newsreel/date.months", laid_newsreel_date_months)], narrowed := true }
def RssFieldsUptoSaid : Prop := rssFieldsUptoRow.holds Tryz.pinned (OpenSpec.upto rssFieldsSpec)

/-- 'newsreellaw14.RssLimits', WHERE WHAT IT READS IS OF BULK AT MOST 1048576: true; the input reads as it did. -/
def rssLimitsUptoRow : OpenClaim := { program := "ytkjjjbipmobdaaagreatdoor", sum := "5b2d72d950e1acffd35f9418885a9b285729fd898c7c7b831a880f342c28941c", func := "newsreel/newsreellaw14.RssLimits", spec := "rssLimits", inPlace := ["internal/bytealg.IndexByteString", "internal/reflectlite.TypeOf", "internal/reflectlite.ValueOf", "(internal/reflectlite.Value).Type", "(internal/reflectlite.Value).IsNil", "(internal/reflectlite.Value).Elem", "(internal/reflectlite.Value).Set"], unfollowed := true, recurses := true, named := ["newsreel/date.weekdays", "newsreel/date.months", "errors.errorType"], apart := false, laid := [("errors.errorType", laid_errors_errorType), ("newsreel/date.weekdays", laid_newsreel_date_weekdays), ("newsreel/date.months", laid_newsreel_date_months)], narrowed := true }
def RssLimitsUptoSaid : Prop := rssLimitsUptoRow.holds Tryz.pinned (OpenSpec.upto rssLimitsSpec)

end Rows
end Go.Proofs.YtkjjjbipmobdaaaGreatDoor
