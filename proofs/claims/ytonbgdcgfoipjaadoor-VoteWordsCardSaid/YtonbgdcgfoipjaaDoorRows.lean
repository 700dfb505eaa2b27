/-
  NARROWER THAN 'FOR EVERY INPUT', by the rows' own cells (each row's printed sentence says how): VoteTells: laid · VoteTexts: laid · VoteOrder: laid · VoteEven: laid · VoteWords: laid.
  DERIVED. THE GIVEN ROWS OF THIS SEAT. 5 by the template 'for every input the law returns true; each argument reads behind the call as it read before'; 0 by the template 'total and deterministic' (their statements: YtonbgdcgfoipjaaDoorTotals.lean).
  GIVEN WITH THE SEED: the statements are not yours to turn. If you find one false, say at which input.
  Laid BY PROGRAM, IN A SANDBOX (cutbox-rows.mjs): the forced cells as the released guide's own fill.sh prints them over the translation cce37df2639d1091… (all of the seat's roots in one cut). By AI agents, Wed Nov 11 2026. No macro, syntax, notation, axiom, sorry.
-/
import Derived.Test.YtonbgdcgfoipjaaDoorChecked
import GoSem.Claim
import GoSem.ClaimJoined
import GoSem.ClaimMapViews
import Derived.JoinedTies
import Derived.KernelRfl
namespace Go.Proofs.YtonbgdcgfoipjaaDoor
/- THE CELL 'sum', in the pinned program and in every row, IS THE sha256 OF THE DUMP (.gsa) THAT YtonbgdcgfoipjaaDoorProg.lean LOADS. Nothing in Lean hashes anything: it is a label: what it is worth is what the hold of that sum in a sandbox is worth. -/
noncomputable def Tryd.pinned : Pinned := { name := "ytonbgdcgfoipjaadoor", sum := "cce37df2639d1091244bac95da8cee189c772ee185099d3839576e858d45f3d9", checked := Tryd.checked }
namespace Rows
def none {H : Type} : Left H := { results := [], args := [] }

/- WHAT THE LISTED PACKAGE-LEVEL VARIABLES READ AS WHEN THE CALL BEGINS. Each datum BY PROGRAM (the guide's laid-datum.mjs) off the statement by which the dump's own 'gosem.cut.vars' lays the variable. In a bare row this is a premise. The card (YtonbgdcgfoipjaaDoorCards.lean) ties it to the program's text. -/
def laid_newsreel_fold_digits {H : Type} : DataW H := .slice [.agg [.lit (.int .i32 48), .lit (.int .i32 57), .lit (.int .i32 0), .lit (.bool false)], .agg [.lit (.int .i32 1632), .lit (.int .i32 1641), .lit (.int .i32 0), .lit (.bool false)], .agg [.lit (.int .i32 2406), .lit (.int .i32 2415), .lit (.int .i32 0), .lit (.bool false)], .agg [.lit (.int .i32 65296), .lit (.int .i32 65305), .lit (.int .i32 0), .lit (.bool false)]] []
def laid_newsreel_fold_letters {H : Type} : DataW H := .slice [.agg [.lit (.int .i32 65), .lit (.int .i32 90), .lit (.int .i32 32), .lit (.bool false)], .agg [.lit (.int .i32 97), .lit (.int .i32 122), .lit (.int .i32 0), .lit (.bool false)], .agg [.lit (.int .i32 170), .lit (.int .i32 170), .lit (.int .i32 0), .lit (.bool false)], .agg [.lit (.int .i32 181), .lit (.int .i32 181), .lit (.int .i32 0), .lit (.bool false)], .agg [.lit (.int .i32 186), .lit (.int .i32 186), .lit (.int .i32 0), .lit (.bool false)], .agg [.lit (.int .i32 192), .lit (.int .i32 214), .lit (.int .i32 32), .lit (.bool false)], .agg [.lit (.int .i32 216), .lit (.int .i32 222), .lit (.int .i32 32), .lit (.bool false)], .agg [.lit (.int .i32 223), .lit (.int .i32 246), .lit (.int .i32 0), .lit (.bool false)], .agg [.lit (.int .i32 248), .lit (.int .i32 255), .lit (.int .i32 0), .lit (.bool false)], .agg [.lit (.int .i32 256), .lit (.int .i32 303), .lit (.int .i32 0), .lit (.bool true)], .agg [.lit (.int .i32 306), .lit (.int .i32 311), .lit (.int .i32 0), .lit (.bool true)], .agg [.lit (.int .i32 312), .lit (.int .i32 312), .lit (.int .i32 0), .lit (.bool false)], .agg [.lit (.int .i32 313), .lit (.int .i32 328), .lit (.int .i32 0), .lit (.bool true)], .agg [.lit (.int .i32 329), .lit (.int .i32 329), .lit (.int .i32 0), .lit (.bool false)], .agg [.lit (.int .i32 330), .lit (.int .i32 375), .lit (.int .i32 0), .lit (.bool true)], .agg [.lit (.int .i32 376), .lit (.int .i32 376), .lit (.int .i32 (-121)), .lit (.bool false)], .agg [.lit (.int .i32 377), .lit (.int .i32 382), .lit (.int .i32 0), .lit (.bool true)], .agg [.lit (.int .i32 383), .lit (.int .i32 383), .lit (.int .i32 0), .lit (.bool false)], .agg [.lit (.int .i32 902), .lit (.int .i32 902), .lit (.int .i32 38), .lit (.bool false)], .agg [.lit (.int .i32 904), .lit (.int .i32 906), .lit (.int .i32 37), .lit (.bool false)], .agg [.lit (.int .i32 908), .lit (.int .i32 908), .lit (.int .i32 64), .lit (.bool false)], .agg [.lit (.int .i32 910), .lit (.int .i32 911), .lit (.int .i32 63), .lit (.bool false)], .agg [.lit (.int .i32 912), .lit (.int .i32 912), .lit (.int .i32 0), .lit (.bool false)], .agg [.lit (.int .i32 913), .lit (.int .i32 929), .lit (.int .i32 32), .lit (.bool false)], .agg [.lit (.int .i32 931), .lit (.int .i32 939), .lit (.int .i32 32), .lit (.bool false)], .agg [.lit (.int .i32 940), .lit (.int .i32 974), .lit (.int .i32 0), .lit (.bool false)], .agg [.lit (.int .i32 1024), .lit (.int .i32 1039), .lit (.int .i32 80), .lit (.bool false)], .agg [.lit (.int .i32 1040), .lit (.int .i32 1071), .lit (.int .i32 32), .lit (.bool false)], .agg [.lit (.int .i32 1072), .lit (.int .i32 1119), .lit (.int .i32 0), .lit (.bool false)], .agg [.lit (.int .i32 1120), .lit (.int .i32 1153), .lit (.int .i32 0), .lit (.bool true)], .agg [.lit (.int .i32 1162), .lit (.int .i32 1215), .lit (.int .i32 0), .lit (.bool true)], .agg [.lit (.int .i32 1232), .lit (.int .i32 1327), .lit (.int .i32 0), .lit (.bool true)], .agg [.lit (.int .i32 1329), .lit (.int .i32 1366), .lit (.int .i32 48), .lit (.bool false)], .agg [.lit (.int .i32 1377), .lit (.int .i32 1414), .lit (.int .i32 0), .lit (.bool false)], .agg [.lit (.int .i32 1488), .lit (.int .i32 1514), .lit (.int .i32 0), .lit (.bool false)], .agg [.lit (.int .i32 1569), .lit (.int .i32 1594), .lit (.int .i32 0), .lit (.bool false)], .agg [.lit (.int .i32 1601), .lit (.int .i32 1610), .lit (.int .i32 0), .lit (.bool false)], .agg [.lit (.int .i32 2308), .lit (.int .i32 2361), .lit (.int .i32 0), .lit (.bool false)], .agg [.lit (.int .i32 7680), .lit (.int .i32 7829), .lit (.int .i32 0), .lit (.bool true)], .agg [.lit (.int .i32 7840), .lit (.int .i32 7935), .lit (.int .i32 0), .lit (.bool true)], .agg [.lit (.int .i32 12353), .lit (.int .i32 12438), .lit (.int .i32 0), .lit (.bool false)], .agg [.lit (.int .i32 12449), .lit (.int .i32 12538), .lit (.int .i32 0), .lit (.bool false)], .agg [.lit (.int .i32 19968), .lit (.int .i32 40959), .lit (.int .i32 0), .lit (.bool false)], .agg [.lit (.int .i32 44032), .lit (.int .i32 55203), .lit (.int .i32 0), .lit (.bool false)], .agg [.lit (.int .i32 65313), .lit (.int .i32 65338), .lit (.int .i32 32), .lit (.bool false)], .agg [.lit (.int .i32 65345), .lit (.int .i32 65370), .lit (.int .i32 0), .lit (.bool false)]] []

/-- 'newsreellaw05.VoteTells': WHATEVER THE INPUT: true; the input reads as it did. -/
def voteTellsSpec : ChangeSpec := { name := "voteTells", fn := fun _ => fun
  | [d] => { results := [.lit (.bool true)], args := [d] }
  | _ => none }
def voteTellsRow : OpenClaim := { program := "ytonbgdcgfoipjaadoor", sum := "cce37df2639d1091244bac95da8cee189c772ee185099d3839576e858d45f3d9", func := "newsreel/newsreellaw05.VoteTells", spec := "voteTells", inPlace := ["internal/abi.NoEscape", "internal/bytealg.MakeNoZero"], named := ["newsreel/fold.letters", "newsreel/fold.digits"], apart := false, laid := [("newsreel/fold.digits", laid_newsreel_fold_digits), ("newsreel/fold.letters", laid_newsreel_fold_letters)] }
def VoteTellsSaid : Prop := voteTellsRow.holds Tryd.pinned (OpenSpec.ofChange voteTellsSpec)

/-- ITS FALSE NEIGHBOUR: 'it returns false'. Refute it at one input. -/
def voteTellsWrong : ChangeSpec := { name := "voteTells", fn := fun _ => fun
  | [d] => { results := [.lit (.bool false)], args := [d] }
  | _ => none }
def VoteTellsWrongFalsely : Prop := voteTellsRow.holds Tryd.pinned (OpenSpec.ofChange voteTellsWrong)

/-- 'newsreellaw05.VoteTexts': WHATEVER THE INPUT: true; the input reads as it did. -/
def voteTextsSpec : ChangeSpec := { name := "voteTexts", fn := fun _ => fun
  | [d1, d2] => { results := [.lit (.bool true)], args := [d1, d2] }
  | _ => none }
def voteTextsRow : OpenClaim := { program := "ytonbgdcgfoipjaadoor", sum := "cce37df2639d1091244bac95da8cee189c772ee185099d3839576e858d45f3d9", func := "newsreel/newsreellaw05.VoteTexts", spec := "voteTexts", inPlace := ["internal/abi.NoEscape", "internal/bytealg.MakeNoZero"], named := ["newsreel/fold.letters", "newsreel/fold.digits"], apart := false, laid := [("newsreel/fold.digits", laid_newsreel_fold_digits), ("newsreel/fold.letters", laid_newsreel_fold_letters)] }
def VoteTextsSaid : Prop := voteTextsRow.holds Tryd.pinned (OpenSpec.ofChange voteTextsSpec)

/-- ITS FALSE NEIGHBOUR: 'it returns false'. Refute it at one input. -/
def voteTextsWrong : ChangeSpec := { name := "voteTexts", fn := fun _ => fun
  | [d1, d2] => { results := [.lit (.bool false)], args := [d1, d2] }
  | _ => none }
def VoteTextsWrongFalsely : Prop := voteTextsRow.holds Tryd.pinned (OpenSpec.ofChange voteTextsWrong)

/-- 'newsreellaw05.VoteOrder': WHATEVER THE INPUT: true; the input reads as it did. -/
def voteOrderSpec : ChangeSpec := { name := "voteOrder", fn := fun _ => fun
  | [d1, d2, d3] => { results := [.lit (.bool true)], args := [d1, d2, d3] }
  | _ => none }
def voteOrderRow : OpenClaim := { program := "ytonbgdcgfoipjaadoor", sum := "cce37df2639d1091244bac95da8cee189c772ee185099d3839576e858d45f3d9", func := "newsreel/newsreellaw05.VoteOrder", spec := "voteOrder", inPlace := ["internal/abi.NoEscape", "internal/bytealg.MakeNoZero"], named := ["newsreel/fold.letters", "newsreel/fold.digits"], apart := false, laid := [("newsreel/fold.digits", laid_newsreel_fold_digits), ("newsreel/fold.letters", laid_newsreel_fold_letters)] }
def VoteOrderSaid : Prop := voteOrderRow.holds Tryd.pinned (OpenSpec.ofChange voteOrderSpec)

/-- ITS FALSE NEIGHBOUR: 'it returns false'. Refute it at one input. -/
def voteOrderWrong : ChangeSpec := { name := "voteOrder", fn := fun _ => fun
  | [d1, d2, d3] => { results := [.lit (.bool false)], args := [d1, d2, d3] }
  | _ => none }
def VoteOrderWrongFalsely : Prop := voteOrderRow.holds Tryd.pinned (OpenSpec.ofChange voteOrderWrong)

/-- 'newsreellaw05.VoteEven': WHATEVER THE INPUT: true; the input reads as it did. -/
def voteEvenSpec : ChangeSpec := { name := "voteEven", fn := fun _ => fun
  | [d1, d2] => { results := [.lit (.bool true)], args := [d1, d2] }
  | _ => none }
def voteEvenRow : OpenClaim := { program := "ytonbgdcgfoipjaadoor", sum := "cce37df2639d1091244bac95da8cee189c772ee185099d3839576e858d45f3d9", func := "newsreel/newsreellaw05.VoteEven", spec := "voteEven", inPlace := ["internal/abi.NoEscape", "internal/bytealg.MakeNoZero"], named := ["newsreel/fold.letters", "newsreel/fold.digits"], apart := false, laid := [("newsreel/fold.digits", laid_newsreel_fold_digits), ("newsreel/fold.letters", laid_newsreel_fold_letters)] }
def VoteEvenSaid : Prop := voteEvenRow.holds Tryd.pinned (OpenSpec.ofChange voteEvenSpec)

/-- ITS FALSE NEIGHBOUR: 'it returns false'. Refute it at one input. -/
def voteEvenWrong : ChangeSpec := { name := "voteEven", fn := fun _ => fun
  | [d1, d2] => { results := [.lit (.bool false)], args := [d1, d2] }
  | _ => none }
def VoteEvenWrongFalsely : Prop := voteEvenRow.holds Tryd.pinned (OpenSpec.ofChange voteEvenWrong)

/-- 'newsreellaw05.VoteWords': WHATEVER THE INPUT: true; the input reads as it did. -/
def voteWordsSpec : ChangeSpec := { name := "voteWords", fn := fun _ => fun
  | [d1, d2] => { results := [.lit (.bool true)], args := [d1, d2] }
  | _ => none }
def voteWordsRow : OpenClaim := { program := "ytonbgdcgfoipjaadoor", sum := "cce37df2639d1091244bac95da8cee189c772ee185099d3839576e858d45f3d9", func := "newsreel/newsreellaw05.VoteWords", spec := "voteWords", inPlace := ["internal/abi.NoEscape", "internal/bytealg.MakeNoZero"], named := ["newsreel/fold.letters", "newsreel/fold.digits"], apart := false, laid := [("newsreel/fold.digits", laid_newsreel_fold_digits), ("newsreel/fold.letters", laid_newsreel_fold_letters)] }
def VoteWordsSaid : Prop := voteWordsRow.holds Tryd.pinned (OpenSpec.ofChange voteWordsSpec)

/-- ITS FALSE NEIGHBOUR: 'it returns false'. Refute it at one input. -/
def voteWordsWrong : ChangeSpec := { name := "voteWords", fn := fun _ => fun
  | [d1, d2] => { results := [.lit (.bool false)], args := [d1, d2] }
  | _ => none }
def VoteWordsWrongFalsely : Prop := voteWordsRow.holds Tryd.pinned (OpenSpec.ofChange voteWordsWrong)

/- THE SECOND FORM. 'bulk': how many values and letters a reading holds, each counted each time it is reached (what is shared counts as often as it is met; a slice's spare places count too). A statement '..UptoSaid' is the law's where the arguments, and the package variables that the reading takes, are together of bulk at most 1048576: NARROWER than '..Said'. Prove '..Said' where nothing that the law and all that it calls make is longer than what came in: it says more and counts as full. Else prove '..UptoSaid'. A law counts once. -/
mutual
def uptoBulk {H : Type} : DataW H → Nat
  | .lit (.string bytes) => bytes.length + 1
  | .lit _ => 1
  | .nil => 1
  | .ptr d => uptoBulk d + 1
  | .slice elems spare => uptoBulkAll elems + uptoBulkAll spare + 1
  | .agg parts => uptoBulkAll parts + 1
  | .iface _ d => uptoBulk d + 1
  | .map entries => uptoBulkEntries entries + 1
  | .held _ => 1
def uptoBulkAll {H : Type} : List (DataW H) → Nat
  | [] => 0
  | d :: r => uptoBulk d + uptoBulkAll r
def uptoBulkEntries {H : Type} : List (Lit × DataW H) → Nat
  | [] => 0
  | x :: r => uptoBulkEntry x + uptoBulkEntries r
def uptoBulkEntry {H : Type} : Lit × DataW H → Nat
  | (.string bytes, d) => bytes.length + uptoBulk d + 1
  | (_, d) => uptoBulk d + 1
 end
def uptoSmall : (H : Type) → List (DataW H) → Bool := fun _ ds => decide (uptoBulkAll ds ≤ 1048576)
def OpenSpec.upto (s : _root_.Go.ChangeSpec) : _root_.Go.OpenSpec := { _root_.Go.OpenSpec.ofChange s with cond := some uptoSmall }

/-- 'newsreellaw05.VoteTells', WHERE WHAT IT READS IS OF BULK AT MOST 1048576: true; the input reads as it did. -/
def voteTellsUptoRow : OpenClaim := { program := "ytonbgdcgfoipjaadoor", sum := "cce37df2639d1091244bac95da8cee189c772ee185099d3839576e858d45f3d9", func := "newsreel/newsreellaw05.VoteTells", spec := "voteTells", inPlace := ["internal/abi.NoEscape", "internal/bytealg.MakeNoZero"], named := ["newsreel/fold.letters", "newsreel/fold.digits"], apart := false, laid := [("newsreel/fold.digits", laid_newsreel_fold_digits), ("newsreel/fold.letters", laid_newsreel_fold_letters)], narrowed := true }
def VoteTellsUptoSaid : Prop := voteTellsUptoRow.holds Tryd.pinned (OpenSpec.upto voteTellsSpec)

/-- 'newsreellaw05.VoteTexts', WHERE WHAT IT READS IS OF BULK AT MOST 1048576: true; the input reads as it did. -/
def voteTextsUptoRow : OpenClaim := { program := "ytonbgdcgfoipjaadoor", sum := "cce37df2639d1091244bac95da8cee189c772ee185099d3839576e858d45f3d9", func := "newsreel/newsreellaw05.VoteTexts", spec := "voteTexts", inPlace := ["internal/abi.NoEscape", "internal/bytealg.MakeNoZero"], named := ["newsreel/fold.letters", "newsreel/fold.digits"], apart := false, laid := [("newsreel/fold.digits", laid_newsreel_fold_digits), ("newsreel/fold.letters", laid_newsreel_fold_letters)], narrowed := true }
def VoteTextsUptoSaid : Prop := voteTextsUptoRow.holds Tryd.pinned (OpenSpec.upto voteTextsSpec)

/-- 'newsreellaw05.VoteOrder', WHERE WHAT IT READS IS OF BULK AT MOST 1048576: true; the input reads as it did. -/
def voteOrderUptoRow : OpenClaim := { program := "ytonbgdcgfoipjaadoor", sum := "cce37df2639d1091244bac95da8cee189c772ee185099d3839576e858d45f3d9", func := "newsreel/newsreellaw05.VoteOrder", spec := "voteOrder", inPlace := ["internal/abi.NoEscape", "internal/bytealg.MakeNoZero"], named := ["newsreel/fold.letters", "newsreel/fold.digits"], apart := false, laid := [("newsreel/fold.digits", laid_newsreel_fold_digits), ("newsreel/fold.letters", laid_newsreel_fold_letters)], narrowed := true }
def VoteOrderUptoSaid : Prop := voteOrderUptoRow.holds Tryd.pinned (OpenSpec.upto voteOrderSpec)

/-- 'newsreellaw05.VoteEven', WHERE WHAT IT READS IS OF BULK AT MOST 1048576: true; the input reads as it did. -/
def voteEvenUptoRow : OpenClaim := { program := "ytonbgdcgfoipjaadoor", sum := "cce37df2639d1091244bac95da8cee189c772ee185099d3839576e858d45f3d9", func := "newsreel/newsreellaw05.VoteEven", spec := "voteEven", inPlace := ["internal/abi.NoEscape", "internal/bytealg.MakeNoZero"], named := ["newsreel/fold.letters", "newsreel/fold.digits"], apart := false, laid := [("newsreel/fold.digits", laid_newsreel_fold_digits), ("newsreel/fold.letters", laid_newsreel_fold_letters)], narrowed := true }
def VoteEvenUptoSaid : Prop := voteEvenUptoRow.holds Tryd.pinned (OpenSpec.upto voteEvenSpec)

/-- 'newsreellaw05.VoteWords', WHERE WHAT IT READS IS OF BULK AT MOST 1048576: true; the input reads as it did. -/
def voteWordsUptoRow : OpenClaim := { program := "ytonbgdcgfoipjaadoor", sum := "cce37df2639d1091244bac95da8cee189c772ee185099d3839576e858d45f3d9", func := "newsreel/newsreellaw05.VoteWords", spec := "voteWords", inPlace := ["internal/abi.NoEscape", "internal/bytealg.MakeNoZero"], named := ["newsreel/fold.letters", "newsreel/fold.digits"], apart := false, laid := [("newsreel/fold.digits", laid_newsreel_fold_digits), ("newsreel/fold.letters", laid_newsreel_fold_letters)], narrowed := true }
def VoteWordsUptoSaid : Prop := voteWordsUptoRow.holds Tryd.pinned (OpenSpec.upto voteWordsSpec)

end Rows
end Go.Proofs.YtonbgdcgfoipjaaDoor
