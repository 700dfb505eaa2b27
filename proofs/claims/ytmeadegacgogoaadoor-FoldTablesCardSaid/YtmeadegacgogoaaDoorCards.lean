/-
  DERIVED. GIVEN WITH THE SEED: THE CARDS: each row of YtmeadegacgogoaaDoorRows.lean that lists a variable, with what it lists TIED to the program's text (the seventh form; the later family's looks); each row that meets fmt, with fmt's text TOLD by the authors' own Lean function (tested against real Go, not proved from fmt's source: count such statements apart). THE CARD IS WHAT COUNTS. Prove the row's statement (the work); the ties are given (YtmeadegacgogoaaDoorTie.lean); close each card by the builder's one call (the guide's Derived/Test/ToyasCard.lean, 'card_holds'). Laid BY PROGRAM, IN A SANDBOX (cutbox-door.mjs). By AI agents, Wed Nov 11 2026. No macro, syntax, notation, axiom, sorry.
-/
import Derived.Test.YtmeadegacgogoaaDoorRows
import GoSem.ClaimSeven
namespace Go.Proofs.YtmeadegacgogoaaDoor
namespace Rows

/-- THE TIED CARD OF 'newsreellaw02.FoldTells'. -/
def foldTellsCard : Claim7 := { stood := { row := foldTellsRow, standIns := [], harness := (true, "12f5ea22f395d9e2bb00d0e878c71400affd0c5eb5bb4979af8f28abc37d5b26"), looks := false }, kinds := [], alts := [], laidByText := true, laidKinds := [.widerDeep, .widerDeep], laidTests := true, laidLooks := .later }
def FoldTellsCardSaid : Prop := Claim7.holds Tryd.pinned (.plain (OpenSpec.ofChange foldTellsSpec)) foldTellsCard

/-- THE TIED CARD OF 'newsreellaw02.FoldTables'. -/
def foldTablesCard : Claim7 := { stood := { row := foldTablesRow, standIns := [], harness := (true, "12f5ea22f395d9e2bb00d0e878c71400affd0c5eb5bb4979af8f28abc37d5b26"), looks := false }, kinds := [], alts := [], laidByText := true, laidKinds := [.widerDeep, .widerDeep], laidTests := true, laidLooks := .later }
def FoldTablesCardSaid : Prop := Claim7.holds Tryd.pinned (.plain (OpenSpec.ofChange foldTablesSpec)) foldTablesCard

/-- THE TIED CARD OF 'newsreellaw02.FoldOnce'. -/
def foldOnceCard : Claim7 := { stood := { row := foldOnceRow, standIns := [], harness := (true, "12f5ea22f395d9e2bb00d0e878c71400affd0c5eb5bb4979af8f28abc37d5b26"), looks := false }, kinds := [], alts := [], laidByText := true, laidKinds := [.widerDeep, .widerDeep], laidTests := true, laidLooks := .later }
def FoldOnceCardSaid : Prop := Claim7.holds Tryd.pinned (.plain (OpenSpec.ofChange foldOnceSpec)) foldOnceCard

/-- THE TIED CARD OF 'newsreellaw02.FoldPairs'. -/
def foldPairsCard : Claim7 := { stood := { row := foldPairsRow, standIns := [], harness := (true, "12f5ea22f395d9e2bb00d0e878c71400affd0c5eb5bb4979af8f28abc37d5b26"), looks := false }, kinds := [], alts := [], laidByText := true, laidKinds := [.widerDeep, .widerDeep], laidTests := true, laidLooks := .later }
def FoldPairsCardSaid : Prop := Claim7.holds Tryd.pinned (.plain (OpenSpec.ofChange foldPairsSpec)) foldPairsCard

/-- THE SECOND FORM's CARD OF 'newsreellaw02.FoldTells'. -/
def foldTellsUptoCard : Claim7 := { stood := { row := foldTellsUptoRow, standIns := [], harness := (true, "12f5ea22f395d9e2bb00d0e878c71400affd0c5eb5bb4979af8f28abc37d5b26"), looks := false }, kinds := [], alts := [], laidByText := true, laidKinds := [.widerDeep, .widerDeep], laidTests := true, laidLooks := .later }
def FoldTellsUptoCardSaid : Prop := Claim7.holds Tryd.pinned (.plain (OpenSpec.upto foldTellsSpec)) foldTellsUptoCard

/-- THE SECOND FORM's CARD OF 'newsreellaw02.FoldTables'. -/
def foldTablesUptoCard : Claim7 := { stood := { row := foldTablesUptoRow, standIns := [], harness := (true, "12f5ea22f395d9e2bb00d0e878c71400affd0c5eb5bb4979af8f28abc37d5b26"), looks := false }, kinds := [], alts := [], laidByText := true, laidKinds := [.widerDeep, .widerDeep], laidTests := true, laidLooks := .later }
def FoldTablesUptoCardSaid : Prop := Claim7.holds Tryd.pinned (.plain (OpenSpec.upto foldTablesSpec)) foldTablesUptoCard

/-- THE SECOND FORM's CARD OF 'newsreellaw02.FoldOnce'. -/
def foldOnceUptoCard : Claim7 := { stood := { row := foldOnceUptoRow, standIns := [], harness := (true, "12f5ea22f395d9e2bb00d0e878c71400affd0c5eb5bb4979af8f28abc37d5b26"), looks := false }, kinds := [], alts := [], laidByText := true, laidKinds := [.widerDeep, .widerDeep], laidTests := true, laidLooks := .later }
def FoldOnceUptoCardSaid : Prop := Claim7.holds Tryd.pinned (.plain (OpenSpec.upto foldOnceSpec)) foldOnceUptoCard

/-- THE SECOND FORM's CARD OF 'newsreellaw02.FoldPairs'. -/
def foldPairsUptoCard : Claim7 := { stood := { row := foldPairsUptoRow, standIns := [], harness := (true, "12f5ea22f395d9e2bb00d0e878c71400affd0c5eb5bb4979af8f28abc37d5b26"), looks := false }, kinds := [], alts := [], laidByText := true, laidKinds := [.widerDeep, .widerDeep], laidTests := true, laidLooks := .later }
def FoldPairsUptoCardSaid : Prop := Claim7.holds Tryd.pinned (.plain (OpenSpec.upto foldPairsSpec)) foldPairsUptoCard
end Rows
end Go.Proofs.YtmeadegacgogoaaDoor
