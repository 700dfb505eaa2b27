/-
  No cell of these rows narrows 'for every input' (looked for: loops, veiled, ifaces, maps, wideKeys, modest, calm, conditions, laid).
  DERIVED. THE GIVEN ROWS OF THIS SEAT. 6 by the template 'for every input the law returns true; each argument reads behind the call as it read before'; 0 by the template 'total and deterministic' (their statements: YtahjopajnckbaaaTotals.lean).
  GIVEN WITH THE SEED: the statements are not yours to turn. If you find one false, say at which input.
  Laid BY PROGRAM, IN A SANDBOX (cutbox-rows.mjs): the forced cells as the released guide's own fill.sh prints them over the translation 28566239b33a0788… (all of the seat's roots in one cut). By AI agents, Wed Nov 11 2026. No macro, syntax, notation, axiom, sorry.
-/
import Derived.Test.YtahjopajnckbaaaChecked
import GoSem.Claim
import GoSem.ClaimJoined
import GoSem.ClaimMapViews
import Derived.JoinedTies
import Derived.KernelRfl
namespace Go.Proofs.Ytahjopajnckbaaa
/- THE CELL 'sum', in the pinned program and in every row, IS THE sha256 OF THE DUMP (.gsa) THAT YtahjopajnckbaaaProg.lean LOADS. Nothing in Lean hashes anything: it is a label: what it is worth is what the hold of that sum in a sandbox is worth. -/
noncomputable def Try.pinned : Pinned := { name := "ytahjopajnckbaaa", sum := "28566239b33a07887443bec1217b6e14580835a65df293178586a97eb91f412b", checked := Try.checked }
namespace Rows
def none {H : Type} : Left H := { results := [], args := [] }

/-- 'newsreellaw10.CleanTells': WHATEVER THE INPUT: true; the input reads as it did. -/
def cleanTellsSpec : ChangeSpec := { name := "cleanTells", fn := fun _ => fun
  | [d] => { results := [.lit (.bool true)], args := [d] }
  | _ => none }
def cleanTellsRow : OpenClaim := { program := "ytahjopajnckbaaa", sum := "28566239b33a07887443bec1217b6e14580835a65df293178586a97eb91f412b", func := "newsreel/newsreellaw10.CleanTells", spec := "cleanTells", inPlace := ["internal/bytealg.IndexByteString", "internal/bytealg.IndexString"], named := ["internal/bytealg.MaxLen"], apart := false }
def CleanTellsSaid : Prop := cleanTellsRow.holds Try.pinned (OpenSpec.ofChange cleanTellsSpec)

/-- ITS FALSE NEIGHBOUR: 'it returns false'. Refute it at one input. -/
def cleanTellsWrong : ChangeSpec := { name := "cleanTells", fn := fun _ => fun
  | [d] => { results := [.lit (.bool false)], args := [d] }
  | _ => none }
def CleanTellsWrongFalsely : Prop := cleanTellsRow.holds Try.pinned (OpenSpec.ofChange cleanTellsWrong)

/-- 'newsreellaw10.CleanNames': WHATEVER THE INPUT: true; the input reads as it did. -/
def cleanNamesSpec : ChangeSpec := { name := "cleanNames", fn := fun _ => fun
  | [d1, d2] => { results := [.lit (.bool true)], args := [d1, d2] }
  | _ => none }
def cleanNamesRow : OpenClaim := { program := "ytahjopajnckbaaa", sum := "28566239b33a07887443bec1217b6e14580835a65df293178586a97eb91f412b", func := "newsreel/newsreellaw10.CleanNames", spec := "cleanNames", inPlace := ["internal/bytealg.IndexByteString", "internal/bytealg.IndexString"], named := ["internal/bytealg.MaxLen"], apart := false }
def CleanNamesSaid : Prop := cleanNamesRow.holds Try.pinned (OpenSpec.ofChange cleanNamesSpec)

/-- ITS FALSE NEIGHBOUR: 'it returns false'. Refute it at one input. -/
def cleanNamesWrong : ChangeSpec := { name := "cleanNames", fn := fun _ => fun
  | [d1, d2] => { results := [.lit (.bool false)], args := [d1, d2] }
  | _ => none }
def CleanNamesWrongFalsely : Prop := cleanNamesRow.holds Try.pinned (OpenSpec.ofChange cleanNamesWrong)

/-- 'newsreellaw10.CleanPlain': WHATEVER THE INPUT: true; the input reads as it did. -/
def cleanPlainSpec : ChangeSpec := { name := "cleanPlain", fn := fun _ => fun
  | [d] => { results := [.lit (.bool true)], args := [d] }
  | _ => none }
def cleanPlainRow : OpenClaim := { program := "ytahjopajnckbaaa", sum := "28566239b33a07887443bec1217b6e14580835a65df293178586a97eb91f412b", func := "newsreel/newsreellaw10.CleanPlain", spec := "cleanPlain", inPlace := ["internal/bytealg.IndexByteString", "internal/bytealg.IndexString"], named := ["internal/bytealg.MaxLen"], apart := false }
def CleanPlainSaid : Prop := cleanPlainRow.holds Try.pinned (OpenSpec.ofChange cleanPlainSpec)

/-- ITS FALSE NEIGHBOUR: 'it returns false'. Refute it at one input. -/
def cleanPlainWrong : ChangeSpec := { name := "cleanPlain", fn := fun _ => fun
  | [d] => { results := [.lit (.bool false)], args := [d] }
  | _ => none }
def CleanPlainWrongFalsely : Prop := cleanPlainRow.holds Try.pinned (OpenSpec.ofChange cleanPlainWrong)

/-- 'newsreellaw10.CleanSpace': WHATEVER THE INPUT: true; the input reads as it did. -/
def cleanSpaceSpec : ChangeSpec := { name := "cleanSpace", fn := fun _ => fun
  | [d] => { results := [.lit (.bool true)], args := [d] }
  | _ => none }
def cleanSpaceRow : OpenClaim := { program := "ytahjopajnckbaaa", sum := "28566239b33a07887443bec1217b6e14580835a65df293178586a97eb91f412b", func := "newsreel/newsreellaw10.CleanSpace", spec := "cleanSpace", inPlace := ["internal/bytealg.IndexByteString", "internal/bytealg.IndexString"], named := ["internal/bytealg.MaxLen"], apart := false }
def CleanSpaceSaid : Prop := cleanSpaceRow.holds Try.pinned (OpenSpec.ofChange cleanSpaceSpec)

/-- ITS FALSE NEIGHBOUR: 'it returns false'. Refute it at one input. -/
def cleanSpaceWrong : ChangeSpec := { name := "cleanSpace", fn := fun _ => fun
  | [d] => { results := [.lit (.bool false)], args := [d] }
  | _ => none }
def CleanSpaceWrongFalsely : Prop := cleanSpaceRow.holds Try.pinned (OpenSpec.ofChange cleanSpaceWrong)

/-- 'newsreellaw10.CleanHides': WHATEVER THE INPUT: true; the input reads as it did. -/
def cleanHidesSpec : ChangeSpec := { name := "cleanHides", fn := fun _ => fun
  | [d] => { results := [.lit (.bool true)], args := [d] }
  | _ => none }
def cleanHidesRow : OpenClaim := { program := "ytahjopajnckbaaa", sum := "28566239b33a07887443bec1217b6e14580835a65df293178586a97eb91f412b", func := "newsreel/newsreellaw10.CleanHides", spec := "cleanHides", inPlace := ["internal/bytealg.IndexByteString", "internal/bytealg.IndexString"], named := ["internal/bytealg.MaxLen"], apart := false }
def CleanHidesSaid : Prop := cleanHidesRow.holds Try.pinned (OpenSpec.ofChange cleanHidesSpec)

/-- ITS FALSE NEIGHBOUR: 'it returns false'. Refute it at one input. -/
def cleanHidesWrong : ChangeSpec := { name := "cleanHides", fn := fun _ => fun
  | [d] => { results := [.lit (.bool false)], args := [d] }
  | _ => none }
def CleanHidesWrongFalsely : Prop := cleanHidesRow.holds Try.pinned (OpenSpec.ofChange cleanHidesWrong)

/-- 'newsreellaw10.CleanNumbers': WHATEVER THE INPUT: true; the input reads as it did. -/
def cleanNumbersSpec : ChangeSpec := { name := "cleanNumbers", fn := fun _ => fun
  | [d] => { results := [.lit (.bool true)], args := [d] }
  | _ => none }
def cleanNumbersRow : OpenClaim := { program := "ytahjopajnckbaaa", sum := "28566239b33a07887443bec1217b6e14580835a65df293178586a97eb91f412b", func := "newsreel/newsreellaw10.CleanNumbers", spec := "cleanNumbers", inPlace := ["internal/bytealg.IndexByteString", "internal/bytealg.IndexString"], named := ["internal/bytealg.MaxLen"], apart := false }
def CleanNumbersSaid : Prop := cleanNumbersRow.holds Try.pinned (OpenSpec.ofChange cleanNumbersSpec)

/-- ITS FALSE NEIGHBOUR: 'it returns false'. Refute it at one input. -/
def cleanNumbersWrong : ChangeSpec := { name := "cleanNumbers", fn := fun _ => fun
  | [d] => { results := [.lit (.bool false)], args := [d] }
  | _ => none }
def CleanNumbersWrongFalsely : Prop := cleanNumbersRow.holds Try.pinned (OpenSpec.ofChange cleanNumbersWrong)

/- THE SECOND FORM. 'bulk': how many values and letters a reading holds, each counted each time it is reached (what is shared counts as often as it is met; a slice's spare places count too). A statement '..UptoSaid' is the law's where the arguments, and the package variables that the reading takes, are together of bulk at most 1048576: NARROWER than '..Said'. Prove '..Said' where nothing that the law and all that it calls make is longer than what came in: it says more and counts as full. Else prove '..UptoSaid'. A law counts once. -/
mutual
def uptoBulk {H : Type} : DataW H → Nat
  | .lit (.string bytes) => bytes.length + 1
  | .lit _ => 1
  | .nil => 1
  | .ptr d => uptoBulk d + 1
  | .slice elems spare => uptoBulkAll elems + uptoBulkAll spare + 1
  | .agg parts => uptoBulkAll parts + 1
  | .iface _ d => uptoBulk d + 1
  | .map entries => uptoBulkEntries entries + 1
  | .held _ => 1
def uptoBulkAll {H : Type} : List (DataW H) → Nat
  | [] => 0
  | d :: r => uptoBulk d + uptoBulkAll r
def uptoBulkEntries {H : Type} : List (Lit × DataW H) → Nat
  | [] => 0
  | x :: r => uptoBulkEntry x + uptoBulkEntries r
def uptoBulkEntry {H : Type} : Lit × DataW H → Nat
  | (.string bytes, d) => bytes.length + uptoBulk d + 1
  | (_, d) => uptoBulk d + 1
 end
def uptoSmall : (H : Type) → List (DataW H) → Bool := fun _ ds => decide (uptoBulkAll ds ≤ 1048576)
def OpenSpec.upto (s : _root_.Go.ChangeSpec) : _root_.Go.OpenSpec := { _root_.Go.OpenSpec.ofChange s with cond := some uptoSmall }

/-- 'newsreellaw10.CleanTells', WHERE WHAT IT READS IS OF BULK AT MOST 1048576: true; the input reads as it did. -/
def cleanTellsUptoRow : OpenClaim := { program := "ytahjopajnckbaaa", sum := "28566239b33a07887443bec1217b6e14580835a65df293178586a97eb91f412b", func := "newsreel/newsreellaw10.CleanTells", spec := "cleanTells", inPlace := ["internal/bytealg.IndexByteString", "internal/bytealg.IndexString"], named := ["internal/bytealg.MaxLen"], apart := false, narrowed := true }
def CleanTellsUptoSaid : Prop := cleanTellsUptoRow.holds Try.pinned (OpenSpec.upto cleanTellsSpec)

/-- 'newsreellaw10.CleanNames', WHERE WHAT IT READS IS OF BULK AT MOST 1048576: true; the input reads as it did. -/
def cleanNamesUptoRow : OpenClaim := { program := "ytahjopajnckbaaa", sum := "28566239b33a07887443bec1217b6e14580835a65df293178586a97eb91f412b", func := "newsreel/newsreellaw10.CleanNames", spec := "cleanNames", inPlace := ["internal/bytealg.IndexByteString", "internal/bytealg.IndexString"], named := ["internal/bytealg.MaxLen"], apart := false, narrowed := true }
def CleanNamesUptoSaid : Prop := cleanNamesUptoRow.holds Try.pinned (OpenSpec.upto cleanNamesSpec)

/-- 'newsreellaw10.CleanPlain', WHERE WHAT IT READS IS OF BULK AT MOST 1048576: true; the input reads as it did. -/
def cleanPlainUptoRow : OpenClaim := { program := "ytahjopajnckbaaa", sum := "28566239b33a07887443bec1217b6e14580835a65df293178586a97eb91f412b", func := "newsreel/newsreellaw10.CleanPlain", spec := "cleanPlain", inPlace := ["internal/bytealg.IndexByteString", "internal/bytealg.IndexString"], named := ["internal/bytealg.MaxLen"], apart := false, narrowed := true }
def CleanPlainUptoSaid : Prop := cleanPlainUptoRow.holds Try.pinned (OpenSpec.upto cleanPlainSpec)

/-- 'newsreellaw10.CleanSpace', WHERE WHAT IT READS IS OF BULK AT MOST 1048576: true; the input reads as it did. -/
def cleanSpaceUptoRow : OpenClaim := { program := "ytahjopajnckbaaa", sum := "28566239b33a07887443bec1217b6e14580835a65df293178586a97eb91f412b", func := "newsreel/newsreellaw10.CleanSpace", spec := "cleanSpace", inPlace := ["internal/bytealg.IndexByteString", "internal/bytealg.IndexString"], named := ["internal/bytealg.MaxLen"], apart := false, narrowed := true }
def CleanSpaceUptoSaid : Prop := cleanSpaceUptoRow.holds Try.pinned (OpenSpec.upto cleanSpaceSpec)

/-- 'newsreellaw10.CleanHides', WHERE WHAT IT READS IS OF BULK AT MOST 1048576: true; the input reads as it did. -/
def cleanHidesUptoRow : OpenClaim := { program := "ytahjopajnckbaaa", sum := "28566239b33a07887443bec1217b6e14580835a65df293178586a97eb91f412b", func := "newsreel/newsreellaw10.CleanHides", spec := "cleanHides", inPlace := ["internal/bytealg.IndexByteString", "internal/bytealg.IndexString"], named := ["internal/bytealg.MaxLen"], apart := false, narrowed := true }
def CleanHidesUptoSaid : Prop := cleanHidesUptoRow.holds Try.pinned (OpenSpec.upto cleanHidesSpec)

/-- 'newsreellaw10.CleanNumbers', WHERE WHAT IT READS IS OF BULK AT MOST 1048576: true; the input reads as it did. -/
def cleanNumbersUptoRow : OpenClaim := { program := "ytahjopajnckbaaa", sum := "28566239b33a07887443bec1217b6e14580835a65df293178586a97eb91f412b", func := "newsreel/newsreellaw10.CleanNumbers", spec := "cleanNumbers", inPlace := ["internal/bytealg.IndexByteString", "internal/bytealg.IndexString"], named := ["internal/bytealg.MaxLen"], apart := false, narrowed := true }
def CleanNumbersUptoSaid : Prop := cleanNumbersUptoRow.holds Try.pinned (OpenSpec.upto cleanNumbersSpec)

end Rows
end Go.Proofs.Ytahjopajnckbaaa
