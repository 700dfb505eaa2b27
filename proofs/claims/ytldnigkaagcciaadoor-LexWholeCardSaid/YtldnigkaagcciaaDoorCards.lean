/-
  DERIVED. GIVEN WITH THE SEED: THE CARDS: each row of YtldnigkaagcciaaDoorRows.lean that lists a variable, with what it lists TIED to the program's text (the seventh form; the later family's looks); each row that meets fmt, with fmt's text TOLD by the authors' own Lean function (tested against real Go, not proved from fmt's source: count such statements apart). THE CARD IS WHAT COUNTS. Prove the row's statement (the work); the ties are given (YtldnigkaagcciaaDoorTie.lean); close each card by the builder's one call (the guide's Derived/Test/ToyasCard.lean, 'card_holds'). Laid BY PROGRAM, IN A SANDBOX (cutbox-door.mjs). By AI agents, Wed Nov 11 2026. No macro, syntax, notation, axiom, sorry.
-/
import Derived.Test.YtldnigkaagcciaaDoorRows
import GoSem.ClaimSeven
namespace Go.Proofs.YtldnigkaagcciaaDoor
namespace Rows

/-- THE TIED CARD OF 'newsreellaw11.LexNames'. -/
def lexNamesCard : Claim7 := { stood := { row := lexNamesRow, standIns := [], harness := (true, "41eab737c4a2e7469683536647b46298c7499ef6253f567d1a5085fb102b5319"), looks := true }, kinds := [], alts := [], laidByText := true, laidKinds := [.handle, .sentinel], laidTests := true, laidLooks := .later }
def LexNamesCardSaid : Prop := Claim7.holds Tryd.pinned (.plain (OpenSpec.ofChange lexNamesSpec)) lexNamesCard

/-- THE TIED CARD OF 'newsreellaw11.LexDepth'. -/
def lexDepthCard : Claim7 := { stood := { row := lexDepthRow, standIns := [], harness := (true, "41eab737c4a2e7469683536647b46298c7499ef6253f567d1a5085fb102b5319"), looks := true }, kinds := [], alts := [], laidByText := true, laidKinds := [.handle, .sentinel], laidTests := true, laidLooks := .later }
def LexDepthCardSaid : Prop := Claim7.holds Tryd.pinned (.plain (OpenSpec.ofChange lexDepthSpec)) lexDepthCard

/-- THE TIED CARD OF 'newsreellaw11.LexNested'. -/
def lexNestedCard : Claim7 := { stood := { row := lexNestedRow, standIns := [], harness := (true, "41eab737c4a2e7469683536647b46298c7499ef6253f567d1a5085fb102b5319"), looks := true }, kinds := [], alts := [], laidByText := true, laidKinds := [.handle, .sentinel], laidTests := true, laidLooks := .later }
def LexNestedCardSaid : Prop := Claim7.holds Tryd.pinned (.plain (OpenSpec.ofChange lexNestedSpec)) lexNestedCard

/-- THE TIED CARD OF 'newsreellaw11.LexBlanks'. -/
def lexBlanksCard : Claim7 := { stood := { row := lexBlanksRow, standIns := [], harness := (true, "41eab737c4a2e7469683536647b46298c7499ef6253f567d1a5085fb102b5319"), looks := true }, kinds := [], alts := [], laidByText := true, laidKinds := [.handle, .sentinel], laidTests := true, laidLooks := .later }
def LexBlanksCardSaid : Prop := Claim7.holds Tryd.pinned (.plain (OpenSpec.ofChange lexBlanksSpec)) lexBlanksCard

/-- THE TIED CARD OF 'newsreellaw11.LexWhole'. -/
def lexWholeCard : Claim7 := { stood := { row := lexWholeRow, standIns := [], harness := (true, "41eab737c4a2e7469683536647b46298c7499ef6253f567d1a5085fb102b5319"), looks := true }, kinds := [], alts := [], laidByText := true, laidKinds := [.handle, .sentinel], laidTests := true, laidLooks := .later }
def LexWholeCardSaid : Prop := Claim7.holds Tryd.pinned (.plain (OpenSpec.ofChange lexWholeSpec)) lexWholeCard

/-- THE SECOND FORM's CARD OF 'newsreellaw11.LexNames'. -/
def lexNamesUptoCard : Claim7 := { stood := { row := lexNamesUptoRow, standIns := [], harness := (true, "41eab737c4a2e7469683536647b46298c7499ef6253f567d1a5085fb102b5319"), looks := true }, kinds := [], alts := [], laidByText := true, laidKinds := [.handle, .sentinel], laidTests := true, laidLooks := .later }
def LexNamesUptoCardSaid : Prop := Claim7.holds Tryd.pinned (.plain (OpenSpec.upto lexNamesSpec)) lexNamesUptoCard

/-- THE SECOND FORM's CARD OF 'newsreellaw11.LexDepth'. -/
def lexDepthUptoCard : Claim7 := { stood := { row := lexDepthUptoRow, standIns := [], harness := (true, "41eab737c4a2e7469683536647b46298c7499ef6253f567d1a5085fb102b5319"), looks := true }, kinds := [], alts := [], laidByText := true, laidKinds := [.handle, .sentinel], laidTests := true, laidLooks := .later }
def LexDepthUptoCardSaid : Prop := Claim7.holds Tryd.pinned (.plain (OpenSpec.upto lexDepthSpec)) lexDepthUptoCard

/-- THE SECOND FORM's CARD OF 'newsreellaw11.LexNested'. -/
def lexNestedUptoCard : Claim7 := { stood := { row := lexNestedUptoRow, standIns := [], harness := (true, "41eab737c4a2e7469683536647b46298c7499ef6253f567d1a5085fb102b5319"), looks := true }, kinds := [], alts := [], laidByText := true, laidKinds := [.handle, .sentinel], laidTests := true, laidLooks := .later }
def LexNestedUptoCardSaid : Prop := Claim7.holds Tryd.pinned (.plain (OpenSpec.upto lexNestedSpec)) lexNestedUptoCard

/-- THE SECOND FORM's CARD OF 'newsreellaw11.LexBlanks'. -/
def lexBlanksUptoCard : Claim7 := { stood := { row := lexBlanksUptoRow, standIns := [], harness := (true, "41eab737c4a2e7469683536647b46298c7499ef6253f567d1a5085fb102b5319"), looks := true }, kinds := [], alts := [], laidByText := true, laidKinds := [.handle, .sentinel], laidTests := true, laidLooks := .later }
def LexBlanksUptoCardSaid : Prop := Claim7.holds Tryd.pinned (.plain (OpenSpec.upto lexBlanksSpec)) lexBlanksUptoCard

/-- THE SECOND FORM's CARD OF 'newsreellaw11.LexWhole'. -/
def lexWholeUptoCard : Claim7 := { stood := { row := lexWholeUptoRow, standIns := [], harness := (true, "41eab737c4a2e7469683536647b46298c7499ef6253f567d1a5085fb102b5319"), looks := true }, kinds := [], alts := [], laidByText := true, laidKinds := [.handle, .sentinel], laidTests := true, laidLooks := .later }
def LexWholeUptoCardSaid : Prop := Claim7.holds Tryd.pinned (.plain (OpenSpec.upto lexWholeSpec)) lexWholeUptoCard
end Rows
end Go.Proofs.YtldnigkaagcciaaDoor
