/-
  No cell of these rows narrows 'for every input' (looked for: loops, veiled, ifaces, maps, wideKeys, modest, calm, conditions, laid).
  DERIVED. THE GIVEN ROWS OF THIS SEAT. 4 by the template 'for every input the law returns true; each argument reads behind the call as it read before'; 0 by the template 'total and deterministic' (their statements: YtmallpkbjpfajaaTotals.lean).
  GIVEN WITH THE SEED: the statements are not yours to turn. If you find one false, say at which input.
  Laid BY PROGRAM, IN A SANDBOX (cutbox-rows.mjs): the forced cells as the released guide's own fill.sh prints them over the translation 9d003f6435367231… (all of the seat's roots in one cut). By AI agents, Wed Nov 11 2026. No macro, syntax, notation, axiom, sorry.
-/
import Derived.Test.YtmallpkbjpfajaaChecked
import GoSem.Claim
import GoSem.ClaimJoined
import GoSem.ClaimMapViews
import Derived.JoinedTies
import Derived.KernelRfl
namespace Go.Proofs.Ytmallpkbjpfajaa
/- THE CELL 'sum', in the pinned program and in every row, IS THE sha256 OF THE DUMP (.gsa) THAT YtmallpkbjpfajaaProg.lean LOADS. Nothing in Lean hashes anything: it is a label: what it is worth is what the hold of that sum in a sandbox is worth. -/
noncomputable def Try.pinned : Pinned := { name := "ytmallpkbjpfajaa", sum := "9d003f64353672315802f76822cbe4f73df162154af75e8f9bda154961a8cb12", checked := Try.checked }
namespace Rows
def none {H : Type} : Left H := { results := [], args := [] }

/-- 'newsreellaw04.ShingleTells': WHATEVER THE INPUT: true; the input reads as it did. -/
def shingleTellsSpec : ChangeSpec := { name := "shingleTells", fn := fun _ => fun
  | [d1, d2] => { results := [.lit (.bool true)], args := [d1, d2] }
  | _ => none }
def shingleTellsRow : OpenClaim := { program := "ytmallpkbjpfajaa", sum := "9d003f64353672315802f76822cbe4f73df162154af75e8f9bda154961a8cb12", func := "newsreel/newsreellaw04.ShingleTells", spec := "shingleTells", inPlace := ["internal/abi.NoEscape", "internal/bytealg.MakeNoZero"], apart := false }
def ShingleTellsSaid : Prop := shingleTellsRow.holds Try.pinned (OpenSpec.ofChange shingleTellsSpec)

/-- ITS FALSE NEIGHBOUR: 'it returns false'. Refute it at one input. -/
def shingleTellsWrong : ChangeSpec := { name := "shingleTells", fn := fun _ => fun
  | [d1, d2] => { results := [.lit (.bool false)], args := [d1, d2] }
  | _ => none }
def ShingleTellsWrongFalsely : Prop := shingleTellsRow.holds Try.pinned (OpenSpec.ofChange shingleTellsWrong)

/-- 'newsreellaw04.ShingleHashes': WHATEVER THE INPUT: true; the input reads as it did. -/
def shingleHashesSpec : ChangeSpec := { name := "shingleHashes", fn := fun _ => fun
  | [d1, d2] => { results := [.lit (.bool true)], args := [d1, d2] }
  | _ => none }
def shingleHashesRow : OpenClaim := { program := "ytmallpkbjpfajaa", sum := "9d003f64353672315802f76822cbe4f73df162154af75e8f9bda154961a8cb12", func := "newsreel/newsreellaw04.ShingleHashes", spec := "shingleHashes", inPlace := ["internal/abi.NoEscape", "internal/bytealg.MakeNoZero"], apart := false }
def ShingleHashesSaid : Prop := shingleHashesRow.holds Try.pinned (OpenSpec.ofChange shingleHashesSpec)

/-- ITS FALSE NEIGHBOUR: 'it returns false'. Refute it at one input. -/
def shingleHashesWrong : ChangeSpec := { name := "shingleHashes", fn := fun _ => fun
  | [d1, d2] => { results := [.lit (.bool false)], args := [d1, d2] }
  | _ => none }
def ShingleHashesWrongFalsely : Prop := shingleHashesRow.holds Try.pinned (OpenSpec.ofChange shingleHashesWrong)

/-- 'newsreellaw04.ShingleCounts': WHATEVER THE INPUT: true; the input reads as it did. -/
def shingleCountsSpec : ChangeSpec := { name := "shingleCounts", fn := fun _ => fun
  | [d1, d2] => { results := [.lit (.bool true)], args := [d1, d2] }
  | _ => none }
def shingleCountsRow : OpenClaim := { program := "ytmallpkbjpfajaa", sum := "9d003f64353672315802f76822cbe4f73df162154af75e8f9bda154961a8cb12", func := "newsreel/newsreellaw04.ShingleCounts", spec := "shingleCounts", inPlace := ["internal/abi.NoEscape", "internal/bytealg.MakeNoZero"], apart := false }
def ShingleCountsSaid : Prop := shingleCountsRow.holds Try.pinned (OpenSpec.ofChange shingleCountsSpec)

/-- ITS FALSE NEIGHBOUR: 'it returns false'. Refute it at one input. -/
def shingleCountsWrong : ChangeSpec := { name := "shingleCounts", fn := fun _ => fun
  | [d1, d2] => { results := [.lit (.bool false)], args := [d1, d2] }
  | _ => none }
def ShingleCountsWrongFalsely : Prop := shingleCountsRow.holds Try.pinned (OpenSpec.ofChange shingleCountsWrong)

/-- 'newsreellaw04.ShingleMoves': WHATEVER THE INPUT: true; the input reads as it did. -/
def shingleMovesSpec : ChangeSpec := { name := "shingleMoves", fn := fun _ => fun
  | [d1, d2] => { results := [.lit (.bool true)], args := [d1, d2] }
  | _ => none }
def shingleMovesRow : OpenClaim := { program := "ytmallpkbjpfajaa", sum := "9d003f64353672315802f76822cbe4f73df162154af75e8f9bda154961a8cb12", func := "newsreel/newsreellaw04.ShingleMoves", spec := "shingleMoves", inPlace := ["internal/abi.NoEscape", "internal/bytealg.MakeNoZero"], apart := false }
def ShingleMovesSaid : Prop := shingleMovesRow.holds Try.pinned (OpenSpec.ofChange shingleMovesSpec)

/-- ITS FALSE NEIGHBOUR: 'it returns false'. Refute it at one input. -/
def shingleMovesWrong : ChangeSpec := { name := "shingleMoves", fn := fun _ => fun
  | [d1, d2] => { results := [.lit (.bool false)], args := [d1, d2] }
  | _ => none }
def ShingleMovesWrongFalsely : Prop := shingleMovesRow.holds Try.pinned (OpenSpec.ofChange shingleMovesWrong)

/- THE SECOND FORM. 'bulk': how many values and letters a reading holds, each counted each time it is reached (what is shared counts as often as it is met; a slice's spare places count too). A statement '..UptoSaid' is the law's where the arguments, and the package variables that the reading takes, are together of bulk at most 1048576: NARROWER than '..Said'. Prove '..Said' where nothing that the law and all that it calls make is longer than what came in: it says more and counts as full. Else prove '..UptoSaid'. A law counts once. -/
mutual
def uptoBulk {H : Type} : DataW H → Nat
  | .lit (.string bytes) => bytes.length + 1
  | .lit _ => 1
  | .nil => 1
  | .ptr d => uptoBulk d + 1
  | .slice elems spare => uptoBulkAll elems + uptoBulkAll spare + 1
  | .agg parts => uptoBulkAll parts + 1
  | .iface _ d => uptoBulk d + 1
  | .map entries => uptoBulkEntries entries + 1
  | .held _ => 1
def uptoBulkAll {H : Type} : List (DataW H) → Nat
  | [] => 0
  | d :: r => uptoBulk d + uptoBulkAll r
def uptoBulkEntries {H : Type} : List (Lit × DataW H) → Nat
  | [] => 0
  | x :: r => uptoBulkEntry x + uptoBulkEntries r
def uptoBulkEntry {H : Type} : Lit × DataW H → Nat
  | (.string bytes, d) => bytes.length + uptoBulk d + 1
  | (_, d) => uptoBulk d + 1
 end
def uptoSmall : (H : Type) → List (DataW H) → Bool := fun _ ds => decide (uptoBulkAll ds ≤ 1048576)
def OpenSpec.upto (s : _root_.Go.ChangeSpec) : _root_.Go.OpenSpec := { _root_.Go.OpenSpec.ofChange s with cond := some uptoSmall }

/-- 'newsreellaw04.ShingleTells', WHERE WHAT IT READS IS OF BULK AT MOST 1048576: true; the input reads as it did. -/
def shingleTellsUptoRow : OpenClaim := { program := "ytmallpkbjpfajaa", sum := "9d003f64353672315802f76822cbe4f73df162154af75e8f9bda154961a8cb12", func := "newsreel/newsreellaw04.ShingleTells", spec := "shingleTells", inPlace := ["internal/abi.NoEscape", "internal/bytealg.MakeNoZero"], apart := false, narrowed := true }
def ShingleTellsUptoSaid : Prop := shingleTellsUptoRow.holds Try.pinned (OpenSpec.upto shingleTellsSpec)

/-- 'newsreellaw04.ShingleHashes', WHERE WHAT IT READS IS OF BULK AT MOST 1048576: true; the input reads as it did. -/
def shingleHashesUptoRow : OpenClaim := { program := "ytmallpkbjpfajaa", sum := "9d003f64353672315802f76822cbe4f73df162154af75e8f9bda154961a8cb12", func := "newsreel/newsreellaw04.ShingleHashes", spec := "shingleHashes", inPlace := ["internal/abi.NoEscape", "internal/bytealg.MakeNoZero"], apart := false, narrowed := true }
def ShingleHashesUptoSaid : Prop := shingleHashesUptoRow.holds Try.pinned (OpenSpec.upto shingleHashesSpec)

/-- 'newsreellaw04.ShingleCounts', WHERE WHAT IT READS IS OF BULK AT MOST 1048576: true; the input reads as it did. -/
def shingleCountsUptoRow : OpenClaim := { program := "ytmallpkbjpfajaa", sum := "9d003f64353672315802f76822cbe4f73df162154af75e8f9bda154961a8cb12", func := "newsreel/newsreellaw04.ShingleCounts", spec := "shingleCounts", inPlace := ["internal/abi.NoEscape", "internal/bytealg.MakeNoZero"], apart := false, narrowed := true }
def ShingleCountsUptoSaid : Prop := shingleCountsUptoRow.holds Try.pinned (OpenSpec.upto shingleCountsSpec)

/-- 'newsreellaw04.ShingleMoves', WHERE WHAT IT READS IS OF BULK AT MOST 1048576: true; the input reads as it did. -/
def shingleMovesUptoRow : OpenClaim := { program := "ytmallpkbjpfajaa", sum := "9d003f64353672315802f76822cbe4f73df162154af75e8f9bda154961a8cb12", func := "newsreel/newsreellaw04.ShingleMoves", spec := "shingleMoves", inPlace := ["internal/abi.NoEscape", "internal/bytealg.MakeNoZero"], apart := false, narrowed := true }
def ShingleMovesUptoSaid : Prop := shingleMovesUptoRow.holds Try.pinned (OpenSpec.upto shingleMovesSpec)

end Rows
end Go.Proofs.Ytmallpkbjpfajaa
