/-
  DERIVED. GIVEN WITH THE SEED: THE CARDS: each row of YtahohmdbiiknoaaDoorRows.lean that lists a variable, with what it lists TIED to the program's text (the seventh form; the later family's looks); each row that meets fmt, with fmt's text TOLD by the authors' own Lean function (tested against real Go, not proved from fmt's source: count such statements apart). THE CARD IS WHAT COUNTS. Prove the row's statement (the work); the ties are given (YtahohmdbiiknoaaDoorTie.lean); close each card by the builder's one call (the guide's Derived/Test/ToyasCard.lean, 'card_holds'). Laid BY PROGRAM, IN A SANDBOX (cutbox-door.mjs). By AI agents, Wed Nov 11 2026. No macro, syntax, notation, axiom, sorry.
-/
import Derived.Test.YtahohmdbiiknoaaDoorRows
import GoSem.ClaimSeven
namespace Go.Proofs.YtahohmdbiiknoaaDoor
namespace Rows

/-- THE TIED CARD OF 'newsreellaw17.PrintTells'. -/
def printTellsCard : Claim7 := { stood := { row := printTellsRow, standIns := [], harness := (true, "2a6e047b16b7cbfae6bdf54ed06b72996ec9253ce54b49f8121e41ebd8e5e574"), looks := false }, kinds := [], alts := [], laidByText := true, laidKinds := [.data, .data, .data, .data, .data], laidTests := true, laidLooks := .later }
def PrintTellsCardSaid : Prop := Claim7.holds Tryd.pinned (.plain (OpenSpec.ofChange printTellsSpec)) printTellsCard

/-- THE TIED CARD OF 'newsreellaw17.PrintEscape'. -/
def printEscapeCard : Claim7 := { stood := { row := printEscapeRow, standIns := [], harness := (true, "2a6e047b16b7cbfae6bdf54ed06b72996ec9253ce54b49f8121e41ebd8e5e574"), looks := false }, kinds := [], alts := [], laidByText := true, laidKinds := [.data, .data, .data, .data, .data], laidTests := true, laidLooks := .later }
def PrintEscapeCardSaid : Prop := Claim7.holds Tryd.pinned (.plain (OpenSpec.ofChange printEscapeSpec)) printEscapeCard

/-- THE SECOND FORM's CARD OF 'newsreellaw17.PrintTells'. -/
def printTellsUptoCard : Claim7 := { stood := { row := printTellsUptoRow, standIns := [], harness := (true, "2a6e047b16b7cbfae6bdf54ed06b72996ec9253ce54b49f8121e41ebd8e5e574"), looks := false }, kinds := [], alts := [], laidByText := true, laidKinds := [.data, .data, .data, .data, .data], laidTests := true, laidLooks := .later }
def PrintTellsUptoCardSaid : Prop := Claim7.holds Tryd.pinned (.plain (OpenSpec.upto printTellsSpec)) printTellsUptoCard

/-- THE SECOND FORM's CARD OF 'newsreellaw17.PrintEscape'. -/
def printEscapeUptoCard : Claim7 := { stood := { row := printEscapeUptoRow, standIns := [], harness := (true, "2a6e047b16b7cbfae6bdf54ed06b72996ec9253ce54b49f8121e41ebd8e5e574"), looks := false }, kinds := [], alts := [], laidByText := true, laidKinds := [.data, .data, .data, .data, .data], laidTests := true, laidLooks := .later }
def PrintEscapeUptoCardSaid : Prop := Claim7.holds Tryd.pinned (.plain (OpenSpec.upto printEscapeSpec)) printEscapeUptoCard
end Rows
end Go.Proofs.YtahohmdbiiknoaaDoor
