/-
  No cell of these rows narrows 'for every input' (looked for: loops, veiled, ifaces, maps, wideKeys, modest, calm, conditions, laid).
  DERIVED. THE GIVEN ROWS OF THIS SEAT. 4 by the template 'for every input the law returns true; each argument reads behind the call as it read before'; 0 by the template 'total and deterministic' (their statements: YtpejgfbpcnanjaaTotals.lean).
  GIVEN WITH THE SEED: the statements are not yours to turn. If you find one false, say at which input.
  Laid BY PROGRAM, IN A SANDBOX (cutbox-rows.mjs): the forced cells as the released guide's own fill.sh prints them over the translation 740ebc82399543de… (all of the seat's roots in one cut). By AI agents, Wed Nov 11 2026. No macro, syntax, notation, axiom, sorry.
-/
import Derived.Test.YtpejgfbpcnanjaaChecked
import GoSem.Claim
import GoSem.ClaimJoined
import GoSem.ClaimMapViews
import Derived.JoinedTies
import Derived.KernelRfl
namespace Go.Proofs.Ytpejgfbpcnanjaa
/- THE CELL 'sum', in the pinned program and in every row, IS THE sha256 OF THE DUMP (.gsa) THAT YtpejgfbpcnanjaaProg.lean LOADS. Nothing in Lean hashes anything: it is a label: what it is worth is what the hold of that sum in a sandbox is worth. -/
noncomputable def Try.pinned : Pinned := { name := "ytpejgfbpcnanjaa", sum := "740ebc82399543deeabdac1a5b49fcf4257307707be5674e4c00cd9caff500cd", checked := Try.checked }
namespace Rows
def none {H : Type} : Left H := { results := [], args := [] }

/-- 'newsreellaw07.BandCuts': WHATEVER THE INPUT: true; the input reads as it did. -/
def bandCutsSpec : ChangeSpec := { name := "bandCuts", fn := fun _ => fun
  | [d1, d2, d3] => { results := [.lit (.bool true)], args := [d1, d2, d3] }
  | _ => none }
def bandCutsRow : OpenClaim := { program := "ytpejgfbpcnanjaa", sum := "740ebc82399543deeabdac1a5b49fcf4257307707be5674e4c00cd9caff500cd", func := "newsreel/newsreellaw07.BandCuts", spec := "bandCuts", apart := false }
def BandCutsSaid : Prop := bandCutsRow.holds Try.pinned (OpenSpec.ofChange bandCutsSpec)

/-- ITS FALSE NEIGHBOUR: 'it returns false'. Refute it at one input. -/
def bandCutsWrong : ChangeSpec := { name := "bandCuts", fn := fun _ => fun
  | [d1, d2, d3] => { results := [.lit (.bool false)], args := [d1, d2, d3] }
  | _ => none }
def BandCutsWrongFalsely : Prop := bandCutsRow.holds Try.pinned (OpenSpec.ofChange bandCutsWrong)

/-- 'newsreellaw07.BandShares': WHATEVER THE INPUT: true; the input reads as it did. -/
def bandSharesSpec : ChangeSpec := { name := "bandShares", fn := fun _ => fun
  | [d1, d2, d3] => { results := [.lit (.bool true)], args := [d1, d2, d3] }
  | _ => none }
def bandSharesRow : OpenClaim := { program := "ytpejgfbpcnanjaa", sum := "740ebc82399543deeabdac1a5b49fcf4257307707be5674e4c00cd9caff500cd", func := "newsreel/newsreellaw07.BandShares", spec := "bandShares", apart := false }
def BandSharesSaid : Prop := bandSharesRow.holds Try.pinned (OpenSpec.ofChange bandSharesSpec)

/-- ITS FALSE NEIGHBOUR: 'it returns false'. Refute it at one input. -/
def bandSharesWrong : ChangeSpec := { name := "bandShares", fn := fun _ => fun
  | [d1, d2, d3] => { results := [.lit (.bool false)], args := [d1, d2, d3] }
  | _ => none }
def BandSharesWrongFalsely : Prop := bandSharesRow.holds Try.pinned (OpenSpec.ofChange bandSharesWrong)

/-- 'newsreellaw07.BandWhole': WHATEVER THE INPUT: true; the input reads as it did. -/
def bandWholeSpec : ChangeSpec := { name := "bandWhole", fn := fun _ => fun
  | [d1, d2] => { results := [.lit (.bool true)], args := [d1, d2] }
  | _ => none }
def bandWholeRow : OpenClaim := { program := "ytpejgfbpcnanjaa", sum := "740ebc82399543deeabdac1a5b49fcf4257307707be5674e4c00cd9caff500cd", func := "newsreel/newsreellaw07.BandWhole", spec := "bandWhole", apart := false }
def BandWholeSaid : Prop := bandWholeRow.holds Try.pinned (OpenSpec.ofChange bandWholeSpec)

/-- ITS FALSE NEIGHBOUR: 'it returns false'. Refute it at one input. -/
def bandWholeWrong : ChangeSpec := { name := "bandWhole", fn := fun _ => fun
  | [d1, d2] => { results := [.lit (.bool false)], args := [d1, d2] }
  | _ => none }
def BandWholeWrongFalsely : Prop := bandWholeRow.holds Try.pinned (OpenSpec.ofChange bandWholeWrong)

/-- 'newsreellaw07.BandApart': WHATEVER THE INPUT: true; the input reads as it did. -/
def bandApartSpec : ChangeSpec := { name := "bandApart", fn := fun _ => fun
  | [d1, d2] => { results := [.lit (.bool true)], args := [d1, d2] }
  | _ => none }
def bandApartRow : OpenClaim := { program := "ytpejgfbpcnanjaa", sum := "740ebc82399543deeabdac1a5b49fcf4257307707be5674e4c00cd9caff500cd", func := "newsreel/newsreellaw07.BandApart", spec := "bandApart", apart := false }
def BandApartSaid : Prop := bandApartRow.holds Try.pinned (OpenSpec.ofChange bandApartSpec)

/-- ITS FALSE NEIGHBOUR: 'it returns false'. Refute it at one input. -/
def bandApartWrong : ChangeSpec := { name := "bandApart", fn := fun _ => fun
  | [d1, d2] => { results := [.lit (.bool false)], args := [d1, d2] }
  | _ => none }
def BandApartWrongFalsely : Prop := bandApartRow.holds Try.pinned (OpenSpec.ofChange bandApartWrong)

/- THE SECOND FORM. 'bulk': how many values and letters a reading holds, each counted each time it is reached (what is shared counts as often as it is met; a slice's spare places count too). A statement '..UptoSaid' is the law's where the arguments, and the package variables that the reading takes, are together of bulk at most 1048576: NARROWER than '..Said'. Prove '..Said' where nothing that the law and all that it calls make is longer than what came in: it says more and counts as full. Else prove '..UptoSaid'. A law counts once. -/
mutual
def uptoBulk {H : Type} : DataW H → Nat
  | .lit (.string bytes) => bytes.length + 1
  | .lit _ => 1
  | .nil => 1
  | .ptr d => uptoBulk d + 1
  | .slice elems spare => uptoBulkAll elems + uptoBulkAll spare + 1
  | .agg parts => uptoBulkAll parts + 1
  | .iface _ d => uptoBulk d + 1
  | .map entries => uptoBulkEntries entries + 1
  | .held _ => 1
def uptoBulkAll {H : Type} : List (DataW H) → Nat
  | [] => 0
  | d :: r => uptoBulk d + uptoBulkAll r
def uptoBulkEntries {H : Type} : List (Lit × DataW H) → Nat
  | [] => 0
  | x :: r => uptoBulkEntry x + uptoBulkEntries r
def uptoBulkEntry {H : Type} : Lit × DataW H → Nat
  | (.string bytes, d) => bytes.length + uptoBulk d + 1
  | (_, d) => uptoBulk d + 1
 end
def uptoSmall : (H : Type) → List (DataW H) → Bool := fun _ ds => decide (uptoBulkAll ds ≤ 1048576)
def OpenSpec.upto (s : _root_.Go.ChangeSpec) : _root_.Go.OpenSpec := { _root_.Go.OpenSpec.ofChange s with cond := some uptoSmall }

/-- 'newsreellaw07.BandCuts', WHERE WHAT IT READS IS OF BULK AT MOST 1048576: true; the input reads as it did. -/
def bandCutsUptoRow : OpenClaim := { program := "ytpejgfbpcnanjaa", sum := "740ebc82399543deeabdac1a5b49fcf4257307707be5674e4c00cd9caff500cd", func := "newsreel/newsreellaw07.BandCuts", spec := "bandCuts", apart := false, narrowed := true }
def BandCutsUptoSaid : Prop := bandCutsUptoRow.holds Try.pinned (OpenSpec.upto bandCutsSpec)

/-- 'newsreellaw07.BandShares', WHERE WHAT IT READS IS OF BULK AT MOST 1048576: true; the input reads as it did. -/
def bandSharesUptoRow : OpenClaim := { program := "ytpejgfbpcnanjaa", sum := "740ebc82399543deeabdac1a5b49fcf4257307707be5674e4c00cd9caff500cd", func := "newsreel/newsreellaw07.BandShares", spec := "bandShares", apart := false, narrowed := true }
def BandSharesUptoSaid : Prop := bandSharesUptoRow.holds Try.pinned (OpenSpec.upto bandSharesSpec)

/-- 'newsreellaw07.BandWhole', WHERE WHAT IT READS IS OF BULK AT MOST 1048576: true; the input reads as it did. -/
def bandWholeUptoRow : OpenClaim := { program := "ytpejgfbpcnanjaa", sum := "740ebc82399543deeabdac1a5b49fcf4257307707be5674e4c00cd9caff500cd", func := "newsreel/newsreellaw07.BandWhole", spec := "bandWhole", apart := false, narrowed := true }
def BandWholeUptoSaid : Prop := bandWholeUptoRow.holds Try.pinned (OpenSpec.upto bandWholeSpec)

/-- 'newsreellaw07.BandApart', WHERE WHAT IT READS IS OF BULK AT MOST 1048576: true; the input reads as it did. -/
def bandApartUptoRow : OpenClaim := { program := "ytpejgfbpcnanjaa", sum := "740ebc82399543deeabdac1a5b49fcf4257307707be5674e4c00cd9caff500cd", func := "newsreel/newsreellaw07.BandApart", spec := "bandApart", apart := false, narrowed := true }
def BandApartUptoSaid : Prop := bandApartUptoRow.holds Try.pinned (OpenSpec.upto bandApartSpec)

end Rows
end Go.Proofs.Ytpejgfbpcnanjaa
