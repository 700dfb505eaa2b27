/-
  NARROWER THAN 'FOR EVERY INPUT', by the rows' own cells (each row's printed sentence says how): FoldTells: laid · FoldTables: laid · FoldOnce: laid · FoldPairs: laid.
  DERIVED. THE GIVEN ROWS OF THIS SEAT. 4 by the template 'for every input the law returns true; each argument reads behind the call as it read before'; 0 by the template 'total and deterministic' (their statements: YtmeadegacgogoaaDoorTotals.lean).
  GIVEN WITH THE SEED: the statements are not yours to turn. If you find one false, say at which input.
  Laid BY PROGRAM, IN A SANDBOX (cutbox-rows.mjs): the forced cells as the released guide's own fill.sh prints them over the translation bd38c85525752a30… (all of the seat's roots in one cut). By AI agents, Wed Nov 11 2026. No macro, syntax, notation, axiom, sorry.
-/
import Derived.Test.YtmeadegacgogoaaDoorChecked
import GoSem.Claim
import GoSem.ClaimJoined
import GoSem.ClaimMapViews
import Derived.JoinedTies
import Derived.KernelRfl
namespace Go.Proofs.YtmeadegacgogoaaDoor
/- THE CELL 'sum', in the pinned program and in every row, IS THE sha256 OF THE DUMP (.gsa) THAT YtmeadegacgogoaaDoorProg.lean LOADS. Nothing in Lean hashes anything: it is a label: what it is worth is what the hold of that sum in a sandbox is worth. -/
noncomputable def Tryd.pinned : Pinned := { name := "ytmeadegacgogoaadoor", sum := "bd38c85525752a308840d56f3bd93c503bd4cc2ca86e5aaffc043582e3e321be", checked := Tryd.checked }
namespace Rows
def none {H : Type} : Left H := { results := [], args := [] }

/- WHAT THE LISTED PACKAGE-LEVEL VARIABLES READ AS WHEN THE CALL BEGINS. Each datum BY PROGRAM (the guide's laid-datum.mjs) off the statement by which the dump's own 'gosem.cut.vars' lays the variable. In a bare row this is a premise. The card (YtmeadegacgogoaaDoorCards.lean) ties it to the program's text. -/
def laid_newsreel_fold_digits {H : Type} : DataW H := .slice [.agg [.lit (.int .i32 48), .lit (.int .i32 57), .lit (.int .i32 0), .lit (.bool false)], .agg [.lit (.int .i32 1632), .lit (.int .i32 1641), .lit (.int .i32 0), .lit (.bool false)], .agg [.lit (.int .i32 2406), .lit (.int .i32 2415), .lit (.int .i32 0), .lit (.bool false)], .agg [.lit (.int .i32 65296), .lit (.int .i32 65305), .lit (.int .i32 0), .lit (.bool false)]] []
def laid_newsreel_fold_letters {H : Type} : DataW H := .slice [.agg [.lit (.int .i32 65), .lit (.int .i32 90), .lit (.int .i32 32), .lit (.bool false)], .agg [.lit (.int .i32 97), .lit (.int .i32 122), .lit (.int .i32 0), .lit (.bool false)], .agg [.lit (.int .i32 170), .lit (.int .i32 170), .lit (.int .i32 0), .lit (.bool false)], .agg [.lit (.int .i32 181), .lit (.int .i32 181), .lit (.int .i32 0), .lit (.bool false)], .agg [.lit (.int .i32 186), .lit (.int .i32 186), .lit (.int .i32 0), .lit (.bool false)], .agg [.lit (.int .i32 192), .lit (.int .i32 214), .lit (.int .i32 32), .lit (.bool false)], .agg [.lit (.int .i32 216), .lit (.int .i32 222), .lit (.int .i32 32), .lit (.bool false)], .agg [.lit (.int .i32 223), .lit (.int .i32 246), .lit (.int .i32 0), .lit (.bool false)], .agg [.lit (.int .i32 248), .lit (.int .i32 255), .lit (.int .i32 0), .lit (.bool false)], .agg [.lit (.int .i32 256), .lit (.int .i32 303), .lit (.int .i32 0), .lit (.bool true)], .agg [.lit (.int .i32 306), .lit (.int .i32 311), .lit (.int .i32 0), .lit (.bool true)], .agg [.lit (.int .i32 312), .lit (.int .i32 312), .lit (.int .i32 0), .lit (.bool false)], .agg [.lit (.int .i32 313), .lit (.int .i32 328), .lit (.int .i32 0), .lit (.bool true)], .agg [.lit (.int .i32 329), .lit (.int .i32 329), .lit (.int .i32 0), .lit (.bool false)], .agg [.lit (.int .i32 330), .lit (.int .i32 375), .lit (.int .i32 0), .lit (.bool true)], .agg [.lit (.int .i32 376), .lit (.int .i32 376), .lit (.int .i32 (-121)), .lit (.bool false)], .agg [.lit (.int .i32 377), .lit (.int .i32 382), .lit (.int .i32 0), .lit (.bool true)], .agg [.lit (.int .i32 383), .lit (.int .i32 383), .lit (.int .i32 0), .lit (.bool false)], .agg [.lit (.int .i32 902), .lit (.int .i32 902), .lit (.int .i32 38), .lit (.bool false)], .agg [.lit (.int .i32 904), .lit (.int .i32 906), .lit (.int .i32 37), .lit (.bool false)], .agg [.lit (.int .i32 908), .lit (.int .i32 908), .lit (.int .i32 64), .lit (.bool false)], .agg [.lit (.int .i32 910), .lit (.int .i32 911), .lit (.int .i32 63), .lit (.bool false)], .agg [.lit (.int .i32 912), .lit (.int .i32 912), .lit (.int .i32 0), .lit (.bool false)], .agg [.lit (.int .i32 913), .lit (.int .i32 929), .lit (.int .i32 32), .lit (.bool false)], .agg [.lit (.int .i32 931), .lit (.int .i32 939), .lit (.int .i32 32), .lit (.bool false)], .agg [.lit (.int .i32 940), .lit (.int .i32 974), .lit (.int .i32 0), .lit (.bool false)], .agg [.lit (.int .i32 1024), .lit (.int .i32 1039), .lit (.int .i32 80), .lit (.bool false)], .agg [.lit (.int .i32 1040), .lit (.int .i32 1071), .lit (.int .i32 32), .lit (.bool false)], .agg [.lit (.int .i32 1072), .lit (.int .i32 1119), .lit (.int .i32 0), .lit (.bool false)], .agg [.lit (.int .i32 1120), .lit (.int .i32 1153), .lit (.int .i32 0), .lit (.bool true)], .agg [.lit (.int .i32 1162), .lit (.int .i32 1215), .lit (.int .i32 0), .lit (.bool true)], .agg [.lit (.int .i32 1232), .lit (.int .i32 1327), .lit (.int .i32 0), .lit (.bool true)], .agg [.lit (.int .i32 1329), .lit (.int .i32 1366), .lit (.int .i32 48), .lit (.bool false)], .agg [.lit (.int .i32 1377), .lit (.int .i32 1414), .lit (.int .i32 0), .lit (.bool false)], .agg [.lit (.int .i32 1488), .lit (.int .i32 1514), .lit (.int .i32 0), .lit (.bool false)], .agg [.lit (.int .i32 1569), .lit (.int .i32 1594), .lit (.int .i32 0), .lit (.bool false)], .agg [.lit (.int .i32 1601), .lit (.int .i32 1610), .lit (.int .i32 0), .lit (.bool false)], .agg [.lit (.int .i32 2308), .lit (.int .i32 2361), .lit (.int .i32 0), .lit (.bool false)], .agg [.lit (.int .i32 7680), .lit (.int .i32 7829), .lit (.int .i32 0), .lit (.bool true)], .agg [.lit (.int .i32 7840), .lit (.int .i32 7935), .lit (.int .i32 0), .lit (.bool true)], .agg [.lit (.int .i32 12353), .lit (.int .i32 12438), .lit (.int .i32 0), .lit (.bool false)], .agg [.lit (.int .i32 12449), .lit (.int .i32 12538), .lit (.int .i32 0), .lit (.bool false)], .agg [.lit (.int .i32 19968), .lit (.int .i32 40959), .lit (.int .i32 0), .lit (.bool false)], .agg [.lit (.int .i32 44032), .lit (.int .i32 55203), .lit (.int .i32 0), .lit (.bool false)], .agg [.lit (.int .i32 65313), .lit (.int .i32 65338), .lit (.int .i32 32), .lit (.bool false)], .agg [.lit (.int .i32 65345), .lit (.int .i32 65370), .lit (.int .i32 0), .lit (.bool false)]] []

/-- 'newsreellaw02.FoldTells': WHATEVER THE INPUT: true; the input reads as it did. -/
def foldTellsSpec : ChangeSpec := { name := "foldTells", fn := fun _ => fun
  | [d] => { results := [.lit (.bool true)], args := [d] }
  | _ => none }
def foldTellsRow : OpenClaim := { program := "ytmeadegacgogoaadoor", sum := "bd38c85525752a308840d56f3bd93c503bd4cc2ca86e5aaffc043582e3e321be", func := "newsreel/newsreellaw02.FoldTells", spec := "foldTells", named := ["newsreel/fold.letters", "newsreel/fold.digits"], apart := false, laid := [("newsreel/fold.digits", laid_newsreel_fold_digits), ("newsreel/fold.letters", laid_newsreel_fold_letters)] }
def FoldTellsSaid : Prop := foldTellsRow.holds Tryd.pinned (OpenSpec.ofChange foldTellsSpec)

/-- ITS FALSE NEIGHBOUR: 'it returns false'. Refute it at one input. -/
def foldTellsWrong : ChangeSpec := { name := "foldTells", fn := fun _ => fun
  | [d] => { results := [.lit (.bool false)], args := [d] }
  | _ => none }
def FoldTellsWrongFalsely : Prop := foldTellsRow.holds Tryd.pinned (OpenSpec.ofChange foldTellsWrong)

/-- 'newsreellaw02.FoldTables': WHATEVER THE INPUT: true; the input reads as it did. -/
def foldTablesSpec : ChangeSpec := { name := "foldTables", fn := fun _ => fun
  | [d] => { results := [.lit (.bool true)], args := [d] }
  | _ => none }
def foldTablesRow : OpenClaim := { program := "ytmeadegacgogoaadoor", sum := "bd38c85525752a308840d56f3bd93c503bd4cc2ca86e5aaffc043582e3e321be", func := "newsreel/newsreellaw02.FoldTables", spec := "foldTables", named := ["newsreel/fold.letters", "newsreel/fold.digits"], apart := false, laid := [("newsreel/fold.digits", laid_newsreel_fold_digits), ("newsreel/fold.letters", laid_newsreel_fold_letters)] }
def FoldTablesSaid : Prop := foldTablesRow.holds Tryd.pinned (OpenSpec.ofChange foldTablesSpec)

/-- ITS FALSE NEIGHBOUR: 'it returns false'. Refute it at one input. -/
def foldTablesWrong : ChangeSpec := { name := "foldTables", fn := fun _ => fun
  | [d] => { results := [.lit (.bool false)], args := [d] }
  | _ => none }
def FoldTablesWrongFalsely : Prop := foldTablesRow.holds Tryd.pinned (OpenSpec.ofChange foldTablesWrong)

/-- 'newsreellaw02.FoldOnce': WHATEVER THE INPUT: true; the input reads as it did. -/
def foldOnceSpec : ChangeSpec := { name := "foldOnce", fn := fun _ => fun
  | [d] => { results := [.lit (.bool true)], args := [d] }
  | _ => none }
def foldOnceRow : OpenClaim := { program := "ytmeadegacgogoaadoor", sum := "bd38c85525752a308840d56f3bd93c503bd4cc2ca86e5aaffc043582e3e321be", func := "newsreel/newsreellaw02.FoldOnce", spec := "foldOnce", named := ["newsreel/fold.letters", "newsreel/fold.digits"], apart := false, laid := [("newsreel/fold.digits", laid_newsreel_fold_digits), ("newsreel/fold.letters", laid_newsreel_fold_letters)] }
def FoldOnceSaid : Prop := foldOnceRow.holds Tryd.pinned (OpenSpec.ofChange foldOnceSpec)

/-- ITS FALSE NEIGHBOUR: 'it returns false'. Refute it at one input. -/
def foldOnceWrong : ChangeSpec := { name := "foldOnce", fn := fun _ => fun
  | [d] => { results := [.lit (.bool false)], args := [d] }
  | _ => none }
def FoldOnceWrongFalsely : Prop := foldOnceRow.holds Tryd.pinned (OpenSpec.ofChange foldOnceWrong)

/-- 'newsreellaw02.FoldPairs': WHATEVER THE INPUT: true; the input reads as it did. -/
def foldPairsSpec : ChangeSpec := { name := "foldPairs", fn := fun _ => fun
  | [d] => { results := [.lit (.bool true)], args := [d] }
  | _ => none }
def foldPairsRow : OpenClaim := { program := "ytmeadegacgogoaadoor", sum := "bd38c85525752a308840d56f3bd93c503bd4cc2ca86e5aaffc043582e3e321be", func := "newsreel/newsreellaw02.FoldPairs", spec := "foldPairs", named := ["newsreel/fold.letters", "newsreel/fold.digits"], apart := false, laid := [("newsreel/fold.digits", laid_newsreel_fold_digits), ("newsreel/fold.letters", laid_newsreel_fold_letters)] }
def FoldPairsSaid : Prop := foldPairsRow.holds Tryd.pinned (OpenSpec.ofChange foldPairsSpec)

/-- ITS FALSE NEIGHBOUR: 'it returns false'. Refute it at one input. -/
def foldPairsWrong : ChangeSpec := { name := "foldPairs", fn := fun _ => fun
  | [d] => { results := [.lit (.bool false)], args := [d] }
  | _ => none }
def FoldPairsWrongFalsely : Prop := foldPairsRow.holds Tryd.pinned (OpenSpec.ofChange foldPairsWrong)

/- THE SECOND FORM. 'bulk': how many values and letters a reading holds, each counted each time it is reached (what is shared counts as often as it is met; a slice's spare places count too). A statement '..UptoSaid' is the law's where the arguments, and the package variables that the reading takes, are together of bulk at most 1048576: NARROWER than '..Said'. Prove '..Said' where nothing that the law and all that it calls make is longer than what came in: it says more and counts as full. Else prove '..UptoSaid'. A law counts once. -/
mutual
def uptoBulk {H : Type} : DataW H → Nat
  | .lit (.string bytes) => bytes.length + 1
  | .lit _ => 1
  | .nil => 1
  | .ptr d => uptoBulk d + 1
  | .slice elems spare => uptoBulkAll elems + uptoBulkAll spare + 1
  | .agg parts => uptoBulkAll parts + 1
  | .iface _ d => uptoBulk d + 1
  | .map entries => uptoBulkEntries entries + 1
  | .held _ => 1
def uptoBulkAll {H : Type} : List (DataW H) → Nat
  | [] => 0
  | d :: r => uptoBulk d + uptoBulkAll r
def uptoBulkEntries {H : Type} : List (Lit × DataW H) → Nat
  | [] => 0
  | x :: r => uptoBulkEntry x + uptoBulkEntries r
def uptoBulkEntry {H : Type} : Lit × DataW H → Nat
  | (.string bytes, d) => bytes.length + uptoBulk d + 1
  | (_, d) => uptoBulk d + 1
 end
def uptoSmall : (H : Type) → List (DataW H) → Bool := fun _ ds => decide (uptoBulkAll ds ≤ 1048576)
def OpenSpec.upto (s : _root_.Go.ChangeSpec) : _root_.Go.OpenSpec := { _root_.Go.OpenSpec.ofChange s with cond := some uptoSmall }

/-- 'newsreellaw02.FoldTells', WHERE WHAT IT READS IS OF BULK AT MOST 1048576: true; the input reads as it did. -/
def foldTellsUptoRow : OpenClaim := { program := "ytmeadegacgogoaadoor", sum := "bd38c85525752a308840d56f3bd93c503bd4cc2ca86e5aaffc043582e3e321be", func := "newsreel/newsreellaw02.FoldTells", spec := "foldTells", named := ["newsreel/fold.letters", "newsreel/fold.digits"], apart := false, laid := [("newsreel/fold.digits", laid_newsreel_fold_digits), ("newsreel/fold.letters", laid_newsreel_fold_letters)], narrowed := true }
def FoldTellsUptoSaid : Prop := foldTellsUptoRow.holds Tryd.pinned (OpenSpec.upto foldTellsSpec)

/-- 'newsreellaw02.FoldTables', WHERE WHAT IT READS IS OF BULK AT MOST 1048576: true; the input reads as it did. -/
def foldTablesUptoRow : OpenClaim := { program := "ytmeadegacgogoaadoor", sum := "bd38c85525752a308840d56f3bd93c503bd4cc2ca86e5aaffc043582e3e321be", func := "newsreel/newsreellaw02.FoldTables", spec := "foldTables", named := ["newsreel/fold.letters", "newsreel/fold.digits"], apart := false, laid := [("newsreel/fold.digits", laid_newsreel_fold_digits), ("newsreel/fold.letters", laid_newsreel_fold_letters)], narrowed := true }
def FoldTablesUptoSaid : Prop := foldTablesUptoRow.holds Tryd.pinned (OpenSpec.upto foldTablesSpec)

/-- 'newsreellaw02.FoldOnce', WHERE WHAT IT READS IS OF BULK AT MOST 1048576: true; the input reads as it did. -/
def foldOnceUptoRow : OpenClaim := { program := "ytmeadegacgogoaadoor", sum := "bd38c85525752a308840d56f3bd93c503bd4cc2ca86e5aaffc043582e3e321be", func := "newsreel/newsreellaw02.FoldOnce", spec := "foldOnce", named := ["newsreel/fold.letters", "newsreel/fold.digits"], apart := false, laid := [("newsreel/fold.digits", laid_newsreel_fold_digits), ("newsreel/fold.letters", laid_newsreel_fold_letters)], narrowed := true }
def FoldOnceUptoSaid : Prop := foldOnceUptoRow.holds Tryd.pinned (OpenSpec.upto foldOnceSpec)

/-- 'newsreellaw02.FoldPairs', WHERE WHAT IT READS IS OF BULK AT MOST 1048576: true; the input reads as it did. -/
def foldPairsUptoRow : OpenClaim := { program := "ytmeadegacgogoaadoor", sum := "bd38c85525752a308840d56f3bd93c503bd4cc2ca86e5aaffc043582e3e321be", func := "newsreel/newsreellaw02.FoldPairs", spec := "foldPairs", named := ["newsreel/fold.letters", "newsreel/fold.digits"], apart := false, laid := [("newsreel/fold.digits", laid_newsreel_fold_digits), ("newsreel/fold.letters", laid_newsreel_fold_letters)], narrowed := true }
def FoldPairsUptoSaid : Prop := foldPairsUptoRow.holds Tryd.pinned (OpenSpec.upto foldPairsSpec)

end Rows
end Go.Proofs.YtmeadegacgogoaaDoor
