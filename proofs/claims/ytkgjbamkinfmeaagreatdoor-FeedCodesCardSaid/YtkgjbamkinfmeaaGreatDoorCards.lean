/-
  DERIVED. GIVEN WITH THE SEED: THE CARDS: each row of YtkgjbamkinfmeaaGreatDoorRows.lean that lists a variable, with what it lists TIED to the program's text (the seventh form; the later family's looks); each row that meets fmt, with fmt's text TOLD by the authors' own Lean function (tested against real Go, not proved from fmt's source: count such statements apart). THE CARD IS WHAT COUNTS. Prove the row's statement (the work); the ties are given (YtkgjbamkinfmeaaGreatDoorTie.lean); close each card by the builder's one call (the guide's Derived/Test/ToyasCard.lean, 'card_holds'). Laid BY PROGRAM, IN A SANDBOX (cutbox-door.mjs). By AI agents, Wed Nov 11 2026. No macro, syntax, notation, axiom, sorry.
-/
import Derived.Test.YtkgjbamkinfmeaaGreatDoorRows
import GoSem.ClaimSeven
namespace Go.Proofs.YtkgjbamkinfmeaaGreatDoor
namespace Rows

/-- THE TIED CARD OF 'newsreellaw16.FeedReads'. -/
def feedReadsCard : Claim7 := { stood := { row := feedReadsRow, standIns := [], harness := (true, "ab5d72b18d955a89d8d70ec10a4c8d9839858578b57340c198bdb78ba464538f"), looks := true }, kinds := [], alts := [], laidByText := true, laidKinds := [.handle, .sentinel, .data, .data, .sentinel], laidTests := true, laidLooks := .later }
def FeedReadsCardSaid : Prop := Claim7.holds Tryz.pinned (.plain (OpenSpec.ofChange feedReadsSpec)) feedReadsCard

/-- THE TIED CARD OF 'newsreellaw16.FeedCodes'. -/
def feedCodesCard : Claim7 := { stood := { row := feedCodesRow, standIns := [], harness := (true, "ab5d72b18d955a89d8d70ec10a4c8d9839858578b57340c198bdb78ba464538f"), looks := true }, kinds := [], alts := [], laidByText := true, laidKinds := [.handle, .sentinel, .data, .data, .sentinel], laidTests := true, laidLooks := .later }
def FeedCodesCardSaid : Prop := Claim7.holds Tryz.pinned (.plain (OpenSpec.ofChange feedCodesSpec)) feedCodesCard

/-- THE TIED CARD OF 'newsreellaw16.FeedOrder'. -/
def feedOrderCard : Claim7 := { stood := { row := feedOrderRow, standIns := [], harness := (true, "ab5d72b18d955a89d8d70ec10a4c8d9839858578b57340c198bdb78ba464538f"), looks := true }, kinds := [], alts := [], laidByText := true, laidKinds := [.handle, .sentinel, .data, .data, .sentinel], laidTests := true, laidLooks := .later }
def FeedOrderCardSaid : Prop := Claim7.holds Tryz.pinned (.plain (OpenSpec.ofChange feedOrderSpec)) feedOrderCard

/-- THE TIED CARD OF 'newsreellaw16.FeedShort'. -/
def feedShortCard : Claim7 := { stood := { row := feedShortRow, standIns := [], harness := (true, "ab5d72b18d955a89d8d70ec10a4c8d9839858578b57340c198bdb78ba464538f"), looks := true }, kinds := [], alts := [], laidByText := true, laidKinds := [.handle, .sentinel, .data, .data, .sentinel], laidTests := true, laidLooks := .later }
def FeedShortCardSaid : Prop := Claim7.holds Tryz.pinned (.plain (OpenSpec.ofChange feedShortSpec)) feedShortCard

/-- THE SECOND FORM's CARD OF 'newsreellaw16.FeedReads'. -/
def feedReadsUptoCard : Claim7 := { stood := { row := feedReadsUptoRow, standIns := [], harness := (true, "ab5d72b18d955a89d8d70ec10a4c8d9839858578b57340c198bdb78ba464538f"), looks := true }, kinds := [], alts := [], laidByText := true, laidKinds := [.handle, .sentinel, .data, .data, .sentinel], laidTests := true, laidLooks := .later }
def FeedReadsUptoCardSaid : Prop := Claim7.holds Tryz.pinned (.plain (OpenSpec.upto feedReadsSpec)) feedReadsUptoCard

/-- THE SECOND FORM's CARD OF 'newsreellaw16.FeedCodes'. -/
def feedCodesUptoCard : Claim7 := { stood := { row := feedCodesUptoRow, standIns := [], harness := (true, "ab5d72b18d955a89d8d70ec10a4c8d9839858578b57340c198bdb78ba464538f"), looks := true }, kinds := [], alts := [], laidByText := true, laidKinds := [.handle, .sentinel, .data, .data, .sentinel], laidTests := true, laidLooks := .later }
def FeedCodesUptoCardSaid : Prop := Claim7.holds Tryz.pinned (.plain (OpenSpec.upto feedCodesSpec)) feedCodesUptoCard

/-- THE SECOND FORM's CARD OF 'newsreellaw16.FeedOrder'. -/
def feedOrderUptoCard : Claim7 := { stood := { row := feedOrderUptoRow, standIns := [], harness := (true, "ab5d72b18d955a89d8d70ec10a4c8d9839858578b57340c198bdb78ba464538f"), looks := true }, kinds := [], alts := [], laidByText := true, laidKinds := [.handle, .sentinel, .data, .data, .sentinel], laidTests := true, laidLooks := .later }
def FeedOrderUptoCardSaid : Prop := Claim7.holds Tryz.pinned (.plain (OpenSpec.upto feedOrderSpec)) feedOrderUptoCard

/-- THE SECOND FORM's CARD OF 'newsreellaw16.FeedShort'. -/
def feedShortUptoCard : Claim7 := { stood := { row := feedShortUptoRow, standIns := [], harness := (true, "ab5d72b18d955a89d8d70ec10a4c8d9839858578b57340c198bdb78ba464538f"), looks := true }, kinds := [], alts := [], laidByText := true, laidKinds := [.handle, .sentinel, .data, .data, .sentinel], laidTests := true, laidLooks := .later }
def FeedShortUptoCardSaid : Prop := Claim7.holds Tryz.pinned (.plain (OpenSpec.upto feedShortSpec)) feedShortUptoCard
end Rows
end Go.Proofs.YtkgjbamkinfmeaaGreatDoor
