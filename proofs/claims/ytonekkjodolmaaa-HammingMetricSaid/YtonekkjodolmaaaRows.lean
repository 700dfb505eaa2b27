/-
  No cell of these rows narrows 'for every input' (looked for: loops, veiled, ifaces, maps, wideKeys, modest, calm, conditions, laid).
  DERIVED. THE GIVEN ROWS OF THIS SEAT. 4 by the template 'for every input the law returns true; each argument reads behind the call as it read before'; 0 by the template 'total and deterministic' (their statements: YtonekkjodolmaaaTotals.lean).
  GIVEN WITH THE SEED: the statements are not yours to turn. If you find one false, say at which input.
  Laid BY PROGRAM, IN A SANDBOX (cutbox-rows.mjs): the forced cells as the released guide's own fill.sh prints them over the translation 89f256c8b32fe953… (all of the seat's roots in one cut). By AI agents, Wed Nov 11 2026. No macro, syntax, notation, axiom, sorry.
-/
import Derived.Test.YtonekkjodolmaaaChecked
import GoSem.Claim
import GoSem.ClaimJoined
import GoSem.ClaimMapViews
import Derived.JoinedTies
import Derived.KernelRfl
namespace Go.Proofs.Ytonekkjodolmaaa
/- THE CELL 'sum', in the pinned program and in every row, IS THE sha256 OF THE DUMP (.gsa) THAT YtonekkjodolmaaaProg.lean LOADS. Nothing in Lean hashes anything: it is a label: what it is worth is what the hold of that sum in a sandbox is worth. -/
noncomputable def Try.pinned : Pinned := { name := "ytonekkjodolmaaa", sum := "89f256c8b32fe9536cff09f4c07b8b9821eaf6df04ac16eb54ea18821d431edf", checked := Try.checked }
namespace Rows
def none {H : Type} : Left H := { results := [], args := [] }

/-- 'newsreellaw06.HammingTells': WHATEVER THE INPUT: true; the input reads as it did. -/
def hammingTellsSpec : ChangeSpec := { name := "hammingTells", fn := fun _ => fun
  | [d1, d2] => { results := [.lit (.bool true)], args := [d1, d2] }
  | _ => none }
def hammingTellsRow : OpenClaim := { program := "ytonekkjodolmaaa", sum := "89f256c8b32fe9536cff09f4c07b8b9821eaf6df04ac16eb54ea18821d431edf", func := "newsreel/newsreellaw06.HammingTells", spec := "hammingTells", apart := false }
def HammingTellsSaid : Prop := hammingTellsRow.holds Try.pinned (OpenSpec.ofChange hammingTellsSpec)

/-- ITS FALSE NEIGHBOUR: 'it returns false'. Refute it at one input. -/
def hammingTellsWrong : ChangeSpec := { name := "hammingTells", fn := fun _ => fun
  | [d1, d2] => { results := [.lit (.bool false)], args := [d1, d2] }
  | _ => none }
def HammingTellsWrongFalsely : Prop := hammingTellsRow.holds Try.pinned (OpenSpec.ofChange hammingTellsWrong)

/-- 'newsreellaw06.HammingNear': WHATEVER THE INPUT: true; the input reads as it did. -/
def hammingNearSpec : ChangeSpec := { name := "hammingNear", fn := fun _ => fun
  | [d1, d2, d3] => { results := [.lit (.bool true)], args := [d1, d2, d3] }
  | _ => none }
def hammingNearRow : OpenClaim := { program := "ytonekkjodolmaaa", sum := "89f256c8b32fe9536cff09f4c07b8b9821eaf6df04ac16eb54ea18821d431edf", func := "newsreel/newsreellaw06.HammingNear", spec := "hammingNear", apart := false }
def HammingNearSaid : Prop := hammingNearRow.holds Try.pinned (OpenSpec.ofChange hammingNearSpec)

/-- ITS FALSE NEIGHBOUR: 'it returns false'. Refute it at one input. -/
def hammingNearWrong : ChangeSpec := { name := "hammingNear", fn := fun _ => fun
  | [d1, d2, d3] => { results := [.lit (.bool false)], args := [d1, d2, d3] }
  | _ => none }
def HammingNearWrongFalsely : Prop := hammingNearRow.holds Try.pinned (OpenSpec.ofChange hammingNearWrong)

/-- 'newsreellaw06.HammingMetric': WHATEVER THE INPUT: true; the input reads as it did. -/
def hammingMetricSpec : ChangeSpec := { name := "hammingMetric", fn := fun _ => fun
  | [d1, d2, d3] => { results := [.lit (.bool true)], args := [d1, d2, d3] }
  | _ => none }
def hammingMetricRow : OpenClaim := { program := "ytonekkjodolmaaa", sum := "89f256c8b32fe9536cff09f4c07b8b9821eaf6df04ac16eb54ea18821d431edf", func := "newsreel/newsreellaw06.HammingMetric", spec := "hammingMetric", apart := false }
def HammingMetricSaid : Prop := hammingMetricRow.holds Try.pinned (OpenSpec.ofChange hammingMetricSpec)

/-- ITS FALSE NEIGHBOUR: 'it returns false'. Refute it at one input. -/
def hammingMetricWrong : ChangeSpec := { name := "hammingMetric", fn := fun _ => fun
  | [d1, d2, d3] => { results := [.lit (.bool false)], args := [d1, d2, d3] }
  | _ => none }
def HammingMetricWrongFalsely : Prop := hammingMetricRow.holds Try.pinned (OpenSpec.ofChange hammingMetricWrong)

/-- 'newsreellaw06.HammingTurned': WHATEVER THE INPUT: true; the input reads as it did. -/
def hammingTurnedSpec : ChangeSpec := { name := "hammingTurned", fn := fun _ => fun
  | [d1, d2] => { results := [.lit (.bool true)], args := [d1, d2] }
  | _ => none }
def hammingTurnedRow : OpenClaim := { program := "ytonekkjodolmaaa", sum := "89f256c8b32fe9536cff09f4c07b8b9821eaf6df04ac16eb54ea18821d431edf", func := "newsreel/newsreellaw06.HammingTurned", spec := "hammingTurned", apart := false }
def HammingTurnedSaid : Prop := hammingTurnedRow.holds Try.pinned (OpenSpec.ofChange hammingTurnedSpec)

/-- ITS FALSE NEIGHBOUR: 'it returns false'. Refute it at one input. -/
def hammingTurnedWrong : ChangeSpec := { name := "hammingTurned", fn := fun _ => fun
  | [d1, d2] => { results := [.lit (.bool false)], args := [d1, d2] }
  | _ => none }
def HammingTurnedWrongFalsely : Prop := hammingTurnedRow.holds Try.pinned (OpenSpec.ofChange hammingTurnedWrong)

/- THE SECOND FORM. 'bulk': how many values and letters a reading holds, each counted each time it is reached (what is shared counts as often as it is met; a slice's spare places count too). A statement '..UptoSaid' is the law's where the arguments, and the package variables that the reading takes, are together of bulk at most 1048576: NARROWER than '..Said'. Prove '..Said' where nothing that the law and all that it calls make is longer than what came in: it says more and counts as full. Else prove '..UptoSaid'. A law counts once. -/
mutual
def uptoBulk {H : Type} : DataW H → Nat
  | .lit (.string bytes) => bytes.length + 1
  | .lit _ => 1
  | .nil => 1
  | .ptr d => uptoBulk d + 1
  | .slice elems spare => uptoBulkAll elems + uptoBulkAll spare + 1
  | .agg parts => uptoBulkAll parts + 1
  | .iface _ d => uptoBulk d + 1
  | .map entries => uptoBulkEntries entries + 1
  | .held _ => 1
def uptoBulkAll {H : Type} : List (DataW H) → Nat
  | [] => 0
  | d :: r => uptoBulk d + uptoBulkAll r
def uptoBulkEntries {H : Type} : List (Lit × DataW H) → Nat
  | [] => 0
  | x :: r => uptoBulkEntry x + uptoBulkEntries r
def uptoBulkEntry {H : Type} : Lit × DataW H → Nat
  | (.string bytes, d) => bytes.length + uptoBulk d + 1
  | (_, d) => uptoBulk d + 1
 end
def uptoSmall : (H : Type) → List (DataW H) → Bool := fun _ ds => decide (uptoBulkAll ds ≤ 1048576)
def OpenSpec.upto (s : _root_.Go.ChangeSpec) : _root_.Go.OpenSpec := { _root_.Go.OpenSpec.ofChange s with cond := some uptoSmall }

/-- 'newsreellaw06.HammingTells', WHERE WHAT IT READS IS OF BULK AT MOST 1048576: true; the input reads as it did. -/
def hammingTellsUptoRow : OpenClaim := { program := "ytonekkjodolmaaa", sum := "89f256c8b32fe9536cff09f4c07b8b9821eaf6df04ac16eb54ea18821d431edf", func := "newsreel/newsreellaw06.HammingTells", spec := "hammingTells", apart := false, narrowed := true }
def HammingTellsUptoSaid : Prop := hammingTellsUptoRow.holds Try.pinned (OpenSpec.upto hammingTellsSpec)

/-- 'newsreellaw06.HammingNear', WHERE WHAT IT READS IS OF BULK AT MOST 1048576: true; the input reads as it did. -/
def hammingNearUptoRow : OpenClaim := { program := "ytonekkjodolmaaa", sum := "89f256c8b32fe9536cff09f4c07b8b9821eaf6df04ac16eb54ea18821d431edf", func := "newsreel/newsreellaw06.HammingNear", spec := "hammingNear", apart := false, narrowed := true }
def HammingNearUptoSaid : Prop := hammingNearUptoRow.holds Try.pinned (OpenSpec.upto hammingNearSpec)

/-- 'newsreellaw06.HammingMetric', WHERE WHAT IT READS IS OF BULK AT MOST 1048576: true; the input reads as it did. -/
def hammingMetricUptoRow : OpenClaim := { program := "ytonekkjodolmaaa", sum := "89f256c8b32fe9536cff09f4c07b8b9821eaf6df04ac16eb54ea18821d431edf", func := "newsreel/newsreellaw06.HammingMetric", spec := "hammingMetric", apart := false, narrowed := true }
def HammingMetricUptoSaid : Prop := hammingMetricUptoRow.holds Try.pinned (OpenSpec.upto hammingMetricSpec)

/-- 'newsreellaw06.HammingTurned', WHERE WHAT IT READS IS OF BULK AT MOST 1048576: true; the input reads as it did. -/
def hammingTurnedUptoRow : OpenClaim := { program := "ytonekkjodolmaaa", sum := "89f256c8b32fe9536cff09f4c07b8b9821eaf6df04ac16eb54ea18821d431edf", func := "newsreel/newsreellaw06.HammingTurned", spec := "hammingTurned", apart := false, narrowed := true }
def HammingTurnedUptoSaid : Prop := hammingTurnedUptoRow.holds Try.pinned (OpenSpec.upto hammingTurnedSpec)

end Rows
end Go.Proofs.Ytonekkjodolmaaa
