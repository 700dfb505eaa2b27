/-
  NARROWER THAN 'FOR EVERY INPUT', by the rows' own cells (each row's printed sentence says how): WordTells: laid · WordJoins: laid · WordAgain: laid · WordParts: laid · WordBlanks: laid · WordCase: laid.
  DERIVED. THE GIVEN ROWS OF THIS SEAT. 6 by the template 'for every input the law returns true; each argument reads behind the call as it read before'; 0 by the template 'total and deterministic' (their statements: YtlinmokkbikjfaaDoorTotals.lean).
  GIVEN WITH THE SEED: the statements are not yours to turn. If you find one false, say at which input.
  Laid BY PROGRAM, IN A SANDBOX (cutbox-rows.mjs): the forced cells as the released guide's own fill.sh prints them over the translation dc2e76748dcc8354… (all of the seat's roots in one cut). By AI agents, Wed Nov 11 2026. No macro, syntax, notation, axiom, sorry.
-/
import Derived.Test.YtlinmokkbikjfaaDoorChecked
import GoSem.Claim
import GoSem.ClaimJoined
import GoSem.ClaimMapViews
import Derived.JoinedTies
import Derived.KernelRfl
namespace Go.Proofs.YtlinmokkbikjfaaDoor
/- THE CELL 'sum', in the pinned program and in every row, IS THE sha256 OF THE DUMP (.gsa) THAT YtlinmokkbikjfaaDoorProg.lean LOADS. Nothing in Lean hashes anything: it is a label: what it is worth is what the hold of that sum in a sandbox is worth. -/
noncomputable def Tryd.pinned : Pinned := { name := "ytlinmokkbikjfaadoor", sum := "dc2e76748dcc8354dc6393c49d2b8b1da33ec43e41242fa5cbd359e7a0f5f5fd", checked := Tryd.checked }
namespace Rows
def none {H : Type} : Left H := { results := [], args := [] }

/- WHAT THE LISTED PACKAGE-LEVEL VARIABLES READ AS WHEN THE CALL BEGINS. Each datum BY PROGRAM (the guide's laid-datum.mjs) off the statement by which the dump's own 'gosem.cut.vars' lays the variable. In a bare row this is a premise. The card (YtlinmokkbikjfaaDoorCards.lean) ties it to the program's text. -/
def laid_newsreel_fold_digits {H : Type} : DataW H := .slice [.agg [.lit (.int .i32 48), .lit (.int .i32 57), .lit (.int .i32 0), .lit (.bool false)], .agg [.lit (.int .i32 1632), .lit (.int .i32 1641), .lit (.int .i32 0), .lit (.bool false)], .agg [.lit (.int .i32 2406), .lit (.int .i32 2415), .lit (.int .i32 0), .lit (.bool false)], .agg [.lit (.int .i32 65296), .lit (.int .i32 65305), .lit (.int .i32 0), .lit (.bool false)]] []
def laid_newsreel_fold_letters {H : Type} : DataW H := .slice [.agg [.lit (.int .i32 65), .lit (.int .i32 90), .lit (.int .i32 32), .lit (.bool false)], .agg [.lit (.int .i32 97), .lit (.int .i32 122), .lit (.int .i32 0), .lit (.bool false)], .agg [.lit (.int .i32 170), .lit (.int .i32 170), .lit (.int .i32 0), .lit (.bool false)], .agg [.lit (.int .i32 181), .lit (.int .i32 181), .lit (.int .i32 0), .lit (.bool false)], .agg [.lit (.int .i32 186), .lit (.int .i32 186), .lit (.int .i32 0), .lit (.bool false)], .agg [.lit (.int .i32 192), .lit (.int .i32 214), .lit (.int .i32 32), .lit (.bool false)], .agg [.lit (.int .i32 216), .lit (.int .i32 222), .lit (.int .i32 32), .lit (.bool false)], .agg [.lit (.int .i32 223), .lit (.int .i32 246), .lit (.int .i32 0), .lit (.bool false)], .agg [.lit (.int .i32 248), .lit (.int .i32 255), .lit (.int .i32 0), .lit (.bool false)], .agg [.lit (.int .i32 256), .lit (.int .i32 303), .lit (.int .i32 0), .lit (.bool true)], .agg [.lit (.int .i32 306), .lit (.int .i32 311), .lit (.int .i32 0), .lit (.bool true)], .agg [.lit (.int .i32 312), .lit (.int .i32 312), .lit (.int .i32 0), .lit (.bool false)], .agg [.lit (.int .i32 313), .lit (.int .i32 328), .lit (.int .i32 0), .lit (.bool true)], .agg [.lit (.int .i32 329), .lit (.int .i32 329), .lit (.int .i32 0), .lit (.bool false)], .agg [.lit (.int .i32 330), .lit (.int .i32 375), .lit (.int .i32 0), .lit (.bool true)], .agg [.lit (.int .i32 376), .lit (.int .i32 376), .lit (.int .i32 (-121)), .lit (.bool false)], .agg [.lit (.int .i32 377), .lit (.int .i32 382), .lit (.int .i32 0), .lit (.bool true)], .agg [.lit (.int .i32 383), .lit (.int .i32 383), .lit (.int .i32 0), .lit (.bool false)], .agg [.lit (.int .i32 902), .lit (.int .i32 902), .lit (.int .i32 38), .lit (.bool false)], .agg [.lit (.int .i32 904), .lit (.int .i32 906), .lit (.int .i32 37), .lit (.bool false)], .agg [.lit (.int .i32 908), .lit (.int .i32 908), .lit (.int .i32 64), .lit (.bool false)], .agg [.lit (.int .i32 910), .lit (.int .i32 911), .lit (.int .i32 63), .lit (.bool false)], .agg [.lit (.int .i32 912), .lit (.int .i32 912), .lit (.int .i32 0), .lit (.bool false)], .agg [.lit (.int .i32 913), .lit (.int .i32 929), .lit (.int .i32 32), .lit (.bool false)], .agg [.lit (.int .i32 931), .lit (.int .i32 939), .lit (.int .i32 32), .lit (.bool false)], .agg [.lit (.int .i32 940), .lit (.int .i32 974), .lit (.int .i32 0), .lit (.bool false)], .agg [.lit (.int .i32 1024), .lit (.int .i32 1039), .lit (.int .i32 80), .lit (.bool false)], .agg [.lit (.int .i32 1040), .lit (.int .i32 1071), .lit (.int .i32 32), .lit (.bool false)], .agg [.lit (.int .i32 1072), .lit (.int .i32 1119), .lit (.int .i32 0), .lit (.bool false)], .agg [.lit (.int .i32 1120), .lit (.int .i32 1153), .lit (.int .i32 0), .lit (.bool true)], .agg [.lit (.int .i32 1162), .lit (.int .i32 1215), .lit (.int .i32 0), .lit (.bool true)], .agg [.lit (.int .i32 1232), .lit (.int .i32 1327), .lit (.int .i32 0), .lit (.bool true)], .agg [.lit (.int .i32 1329), .lit (.int .i32 1366), .lit (.int .i32 48), .lit (.bool false)], .agg [.lit (.int .i32 1377), .lit (.int .i32 1414), .lit (.int .i32 0), .lit (.bool false)], .agg [.lit (.int .i32 1488), .lit (.int .i32 1514), .lit (.int .i32 0), .lit (.bool false)], .agg [.lit (.int .i32 1569), .lit (.int .i32 1594), .lit (.int .i32 0), .lit (.bool false)], .agg [.lit (.int .i32 1601), .lit (.int .i32 1610), .lit (.int .i32 0), .lit (.bool false)], .agg [.lit (.int .i32 2308), .lit (.int .i32 2361), .lit (.int .i32 0), .lit (.bool false)], .agg [.lit (.int .i32 7680), .lit (.int .i32 7829), .lit (.int .i32 0), .lit (.bool true)], .agg [.lit (.int .i32 7840), .lit (.int .i32 7935), .lit (.int .i32 0), .lit (.bool true)], .agg [.lit (.int .i32 12353), .lit (.int .i32 12438), .lit (.int .i32 0), .lit (.bool false)], .agg [.lit (.int .i32 12449), .lit (.int .i32 12538), .lit (.int .i32 0), .lit (.bool false)], .agg [.lit (.int .i32 19968), .lit (.int .i32 40959), .lit (.int .i32 0), .lit (.bool false)], .agg [.lit (.int .i32 44032), .lit (.int .i32 55203), .lit (.int .i32 0), .lit (.bool false)], .agg [.lit (.int .i32 65313), .lit (.int .i32 65338), .lit (.int .i32 32), .lit (.bool false)], .agg [.lit (.int .i32 65345), .lit (.int .i32 65370), .lit (.int .i32 0), .lit (.bool false)]] []

/-- 'newsreellaw03.WordTells': WHATEVER THE INPUT: true; the input reads as it did. -/
def wordTellsSpec : ChangeSpec := { name := "wordTells", fn := fun _ => fun
  | [d1, d2] => { results := [.lit (.bool true)], args := [d1, d2] }
  | _ => none }
def wordTellsRow : OpenClaim := { program := "ytlinmokkbikjfaadoor", sum := "dc2e76748dcc8354dc6393c49d2b8b1da33ec43e41242fa5cbd359e7a0f5f5fd", func := "newsreel/newsreellaw03.WordTells", spec := "wordTells", inPlace := ["internal/abi.NoEscape", "internal/bytealg.MakeNoZero"], named := ["newsreel/fold.letters", "newsreel/fold.digits"], apart := false, laid := [("newsreel/fold.digits", laid_newsreel_fold_digits), ("newsreel/fold.letters", laid_newsreel_fold_letters)] }
def WordTellsSaid : Prop := wordTellsRow.holds Tryd.pinned (OpenSpec.ofChange wordTellsSpec)

/-- ITS FALSE NEIGHBOUR: 'it returns false'. Refute it at one input. -/
def wordTellsWrong : ChangeSpec := { name := "wordTells", fn := fun _ => fun
  | [d1, d2] => { results := [.lit (.bool false)], args := [d1, d2] }
  | _ => none }
def WordTellsWrongFalsely : Prop := wordTellsRow.holds Tryd.pinned (OpenSpec.ofChange wordTellsWrong)

/-- 'newsreellaw03.WordJoins': WHATEVER THE INPUT: true; the input reads as it did. -/
def wordJoinsSpec : ChangeSpec := { name := "wordJoins", fn := fun _ => fun
  | [d] => { results := [.lit (.bool true)], args := [d] }
  | _ => none }
def wordJoinsRow : OpenClaim := { program := "ytlinmokkbikjfaadoor", sum := "dc2e76748dcc8354dc6393c49d2b8b1da33ec43e41242fa5cbd359e7a0f5f5fd", func := "newsreel/newsreellaw03.WordJoins", spec := "wordJoins", inPlace := ["internal/abi.NoEscape", "internal/bytealg.MakeNoZero"], named := ["newsreel/fold.letters", "newsreel/fold.digits"], apart := false, laid := [("newsreel/fold.digits", laid_newsreel_fold_digits), ("newsreel/fold.letters", laid_newsreel_fold_letters)] }
def WordJoinsSaid : Prop := wordJoinsRow.holds Tryd.pinned (OpenSpec.ofChange wordJoinsSpec)

/-- ITS FALSE NEIGHBOUR: 'it returns false'. Refute it at one input. -/
def wordJoinsWrong : ChangeSpec := { name := "wordJoins", fn := fun _ => fun
  | [d] => { results := [.lit (.bool false)], args := [d] }
  | _ => none }
def WordJoinsWrongFalsely : Prop := wordJoinsRow.holds Tryd.pinned (OpenSpec.ofChange wordJoinsWrong)

/-- 'newsreellaw03.WordAgain': WHATEVER THE INPUT: true; the input reads as it did. -/
def wordAgainSpec : ChangeSpec := { name := "wordAgain", fn := fun _ => fun
  | [d] => { results := [.lit (.bool true)], args := [d] }
  | _ => none }
def wordAgainRow : OpenClaim := { program := "ytlinmokkbikjfaadoor", sum := "dc2e76748dcc8354dc6393c49d2b8b1da33ec43e41242fa5cbd359e7a0f5f5fd", func := "newsreel/newsreellaw03.WordAgain", spec := "wordAgain", inPlace := ["internal/abi.NoEscape", "internal/bytealg.MakeNoZero"], named := ["newsreel/fold.letters", "newsreel/fold.digits"], apart := false, laid := [("newsreel/fold.digits", laid_newsreel_fold_digits), ("newsreel/fold.letters", laid_newsreel_fold_letters)] }
def WordAgainSaid : Prop := wordAgainRow.holds Tryd.pinned (OpenSpec.ofChange wordAgainSpec)

/-- ITS FALSE NEIGHBOUR: 'it returns false'. Refute it at one input. -/
def wordAgainWrong : ChangeSpec := { name := "wordAgain", fn := fun _ => fun
  | [d] => { results := [.lit (.bool false)], args := [d] }
  | _ => none }
def WordAgainWrongFalsely : Prop := wordAgainRow.holds Tryd.pinned (OpenSpec.ofChange wordAgainWrong)

/-- 'newsreellaw03.WordParts': WHATEVER THE INPUT: true; the input reads as it did. -/
def wordPartsSpec : ChangeSpec := { name := "wordParts", fn := fun _ => fun
  | [d1, d2] => { results := [.lit (.bool true)], args := [d1, d2] }
  | _ => none }
def wordPartsRow : OpenClaim := { program := "ytlinmokkbikjfaadoor", sum := "dc2e76748dcc8354dc6393c49d2b8b1da33ec43e41242fa5cbd359e7a0f5f5fd", func := "newsreel/newsreellaw03.WordParts", spec := "wordParts", inPlace := ["internal/abi.NoEscape", "internal/bytealg.MakeNoZero"], named := ["newsreel/fold.letters", "newsreel/fold.digits"], apart := false, laid := [("newsreel/fold.digits", laid_newsreel_fold_digits), ("newsreel/fold.letters", laid_newsreel_fold_letters)] }
def WordPartsSaid : Prop := wordPartsRow.holds Tryd.pinned (OpenSpec.ofChange wordPartsSpec)

/-- ITS FALSE NEIGHBOUR: 'it returns false'. Refute it at one input. -/
def wordPartsWrong : ChangeSpec := { name := "wordParts", fn := fun _ => fun
  | [d1, d2] => { results := [.lit (.bool false)], args := [d1, d2] }
  | _ => none }
def WordPartsWrongFalsely : Prop := wordPartsRow.holds Tryd.pinned (OpenSpec.ofChange wordPartsWrong)

/-- 'newsreellaw03.WordBlanks': WHATEVER THE INPUT: true; the input reads as it did. -/
def wordBlanksSpec : ChangeSpec := { name := "wordBlanks", fn := fun _ => fun
  | [d1, d2] => { results := [.lit (.bool true)], args := [d1, d2] }
  | _ => none }
def wordBlanksRow : OpenClaim := { program := "ytlinmokkbikjfaadoor", sum := "dc2e76748dcc8354dc6393c49d2b8b1da33ec43e41242fa5cbd359e7a0f5f5fd", func := "newsreel/newsreellaw03.WordBlanks", spec := "wordBlanks", inPlace := ["internal/abi.NoEscape", "internal/bytealg.MakeNoZero"], named := ["newsreel/fold.letters", "newsreel/fold.digits"], apart := false, laid := [("newsreel/fold.digits", laid_newsreel_fold_digits), ("newsreel/fold.letters", laid_newsreel_fold_letters)] }
def WordBlanksSaid : Prop := wordBlanksRow.holds Tryd.pinned (OpenSpec.ofChange wordBlanksSpec)

/-- ITS FALSE NEIGHBOUR: 'it returns false'. Refute it at one input. -/
def wordBlanksWrong : ChangeSpec := { name := "wordBlanks", fn := fun _ => fun
  | [d1, d2] => { results := [.lit (.bool false)], args := [d1, d2] }
  | _ => none }
def WordBlanksWrongFalsely : Prop := wordBlanksRow.holds Tryd.pinned (OpenSpec.ofChange wordBlanksWrong)

/-- 'newsreellaw03.WordCase': WHATEVER THE INPUT: true; the input reads as it did. -/
def wordCaseSpec : ChangeSpec := { name := "wordCase", fn := fun _ => fun
  | [d] => { results := [.lit (.bool true)], args := [d] }
  | _ => none }
def wordCaseRow : OpenClaim := { program := "ytlinmokkbikjfaadoor", sum := "dc2e76748dcc8354dc6393c49d2b8b1da33ec43e41242fa5cbd359e7a0f5f5fd", func := "newsreel/newsreellaw03.WordCase", spec := "wordCase", inPlace := ["internal/abi.NoEscape", "internal/bytealg.MakeNoZero"], named := ["newsreel/fold.letters", "newsreel/fold.digits"], apart := false, laid := [("newsreel/fold.digits", laid_newsreel_fold_digits), ("newsreel/fold.letters", laid_newsreel_fold_letters)] }
def WordCaseSaid : Prop := wordCaseRow.holds Tryd.pinned (OpenSpec.ofChange wordCaseSpec)

/-- ITS FALSE NEIGHBOUR: 'it returns false'. Refute it at one input. -/
def wordCaseWrong : ChangeSpec := { name := "wordCase", fn := fun _ => fun
  | [d] => { results := [.lit (.bool false)], args := [d] }
  | _ => none }
def WordCaseWrongFalsely : Prop := wordCaseRow.holds Tryd.pinned (OpenSpec.ofChange wordCaseWrong)

/- THE SECOND FORM. 'bulk': how many values and letters a reading holds, each counted each time it is reached (what is shared counts as often as it is met; a slice's spare places count too). A statement '..UptoSaid' is the law's where the arguments, and the package variables that the reading takes, are together of bulk at most 1048576: NARROWER than '..Said'. Prove '..Said' where nothing that the law and all that it calls make is longer than what came in: it says more and counts as full. Else prove '..UptoSaid'. A law counts once. -/
mutual
def uptoBulk {H : Type} : DataW H → Nat
  | .lit (.string bytes) => bytes.length + 1
  | .lit _ => 1
  | .nil => 1
  | .ptr d => uptoBulk d + 1
  | .slice elems spare => uptoBulkAll elems + uptoBulkAll spare + 1
  | .agg parts => uptoBulkAll parts + 1
  | .iface _ d => uptoBulk d + 1
  | .map entries => uptoBulkEntries entries + 1
  | .held _ => 1
def uptoBulkAll {H : Type} : List (DataW H) → Nat
  | [] => 0
  | d :: r => uptoBulk d + uptoBulkAll r
def uptoBulkEntries {H : Type} : List (Lit × DataW H) → Nat
  | [] => 0
  | x :: r => uptoBulkEntry x + uptoBulkEntries r
def uptoBulkEntry {H : Type} : Lit × DataW H → Nat
  | (.string bytes, d) => bytes.length + uptoBulk d + 1
  | (_, d) => uptoBulk d + 1
 end
def uptoSmall : (H : Type) → List (DataW H) → Bool := fun _ ds => decide (uptoBulkAll ds ≤ 1048576)
def OpenSpec.upto (s : _root_.Go.ChangeSpec) : _root_.Go.OpenSpec := { _root_.Go.OpenSpec.ofChange s with cond := some uptoSmall }

/-- 'newsreellaw03.WordTells', WHERE WHAT IT READS IS OF BULK AT MOST 1048576: true; the input reads as it did. -/
def wordTellsUptoRow : OpenClaim := { program := "ytlinmokkbikjfaadoor", sum := "dc2e76748dcc8354dc6393c49d2b8b1da33ec43e41242fa5cbd359e7a0f5f5fd", func := "newsreel/newsreellaw03.WordTells", spec := "wordTells", inPlace := ["internal/abi.NoEscape", "internal/bytealg.MakeNoZero"], named := ["newsreel/fold.letters", "newsreel/fold.digits"], apart := false, laid := [("newsreel/fold.digits", laid_newsreel_fold_digits), ("newsreel/fold.letters", laid_newsreel_fold_letters)], narrowed := true }
def WordTellsUptoSaid : Prop := wordTellsUptoRow.holds Tryd.pinned (OpenSpec.upto wordTellsSpec)

/-- 'newsreellaw03.WordJoins', WHERE WHAT IT READS IS OF BULK AT MOST 1048576: true; the input reads as it did. -/
def wordJoinsUptoRow : OpenClaim := { program := "ytlinmokkbikjfaadoor", sum := "dc2e76748dcc8354dc6393c49d2b8b1da33ec43e41242fa5cbd359e7a0f5f5fd", func := "newsreel/newsreellaw03.WordJoins", spec := "wordJoins", inPlace := ["internal/abi.NoEscape", "internal/bytealg.MakeNoZero"], named := ["newsreel/fold.letters", "newsreel/fold.digits"], apart := false, laid := [("newsreel/fold.digits", laid_newsreel_fold_digits), ("newsreel/fold.letters", laid_newsreel_fold_letters)], narrowed := true }
def WordJoinsUptoSaid : Prop := wordJoinsUptoRow.holds Tryd.pinned (OpenSpec.upto wordJoinsSpec)

/-- 'newsreellaw03.WordAgain', WHERE WHAT IT READS IS OF BULK AT MOST 1048576: true; the input reads as it did. -/
def wordAgainUptoRow : OpenClaim := { program := "ytlinmokkbikjfaadoor", sum := "dc2e76748dcc8354dc6393c49d2b8b1da33ec43e41242fa5cbd359e7a0f5f5fd", func := "newsreel/newsreellaw03.WordAgain", spec := "wordAgain", inPlace := ["internal/abi.NoEscape", "internal/bytealg.MakeNoZero"], named := ["newsreel/fold.letters", "newsreel/fold.digits"], apart := false, laid := [("newsreel/fold.digits", laid_newsreel_fold_digits), ("newsreel/fold.letters", laid_newsreel_fold_letters)], narrowed := true }
def WordAgainUptoSaid : Prop := wordAgainUptoRow.holds Tryd.pinned (OpenSpec.upto wordAgainSpec)

/-- 'newsreellaw03.WordParts', WHERE WHAT IT READS IS OF BULK AT MOST 1048576: true; the input reads as it did. -/
def wordPartsUptoRow : OpenClaim := { program := "ytlinmokkbikjfaadoor", sum := "dc2e76748dcc8354dc6393c49d2b8b1da33ec43e41242fa5cbd359e7a0f5f5fd", func := "newsreel/newsreellaw03.WordParts", spec := "wordParts", inPlace := ["internal/abi.NoEscape", "internal/bytealg.MakeNoZero"], named := ["newsreel/fold.letters", "newsreel/fold.digits"], apart := false, laid := [("newsreel/fold.digits", laid_newsreel_fold_digits), ("newsreel/fold.letters", laid_newsreel_fold_letters)], narrowed := true }
def WordPartsUptoSaid : Prop := wordPartsUptoRow.holds Tryd.pinned (OpenSpec.upto wordPartsSpec)

/-- 'newsreellaw03.WordBlanks', WHERE WHAT IT READS IS OF BULK AT MOST 1048576: true; the input reads as it did. -/
def wordBlanksUptoRow : OpenClaim := { program := "ytlinmokkbikjfaadoor", sum := "dc2e76748dcc8354dc6393c49d2b8b1da33ec43e41242fa5cbd359e7a0f5f5fd", func := "newsreel/newsreellaw03.WordBlanks", spec := "wordBlanks", inPlace := ["internal/abi.NoEscape", "internal/bytealg.MakeNoZero"], named := ["newsreel/fold.letters", "newsreel/fold.digits"], apart := false, laid := [("newsreel/fold.digits", laid_newsreel_fold_digits), ("newsreel/fold.letters", laid_newsreel_fold_letters)], narrowed := true }
def WordBlanksUptoSaid : Prop := wordBlanksUptoRow.holds Tryd.pinned (OpenSpec.upto wordBlanksSpec)

/-- 'newsreellaw03.WordCase', WHERE WHAT IT READS IS OF BULK AT MOST 1048576: true; the input reads as it did. -/
def wordCaseUptoRow : OpenClaim := { program := "ytlinmokkbikjfaadoor", sum := "dc2e76748dcc8354dc6393c49d2b8b1da33ec43e41242fa5cbd359e7a0f5f5fd", func := "newsreel/newsreellaw03.WordCase", spec := "wordCase", inPlace := ["internal/abi.NoEscape", "internal/bytealg.MakeNoZero"], named := ["newsreel/fold.letters", "newsreel/fold.digits"], apart := false, laid := [("newsreel/fold.digits", laid_newsreel_fold_digits), ("newsreel/fold.letters", laid_newsreel_fold_letters)], narrowed := true }
def WordCaseUptoSaid : Prop := wordCaseUptoRow.holds Tryd.pinned (OpenSpec.upto wordCaseSpec)

end Rows
end Go.Proofs.YtlinmokkbikjfaaDoor
