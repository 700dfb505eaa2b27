/-
  DERIVED. GIVEN WITH THE SEED: THE CARDS: each row of YtkjjjbipmobdaaaGreatDoorRows.lean that lists a variable, with what it lists TIED to the program's text (the seventh form; the later family's looks); each row that meets fmt, with fmt's text TOLD by the authors' own Lean function (tested against real Go, not proved from fmt's source: count such statements apart). THE CARD IS WHAT COUNTS. Prove the row's statement (the work); the ties are given (YtkjjjbipmobdaaaGreatDoorTie.lean); close each card by the builder's one call (the guide's Derived/Test/ToyasCard.lean, 'card_holds'). Laid BY PROGRAM, IN A SANDBOX (cutbox-door.mjs). By AI agents, Wed Nov 11 2026. No macro, syntax, notation, axiom, sorry.
-/
import Derived.Test.YtkjjjbipmobdaaaGreatDoorRows
import GoSem.ClaimSeven
namespace Go.Proofs.YtkjjjbipmobdaaaGreatDoor
namespace Rows

/-- THE TIED CARD OF 'newsreellaw15.AtomReads'. -/
def atomReadsCard : Claim7 := { stood := { row := atomReadsRow, standIns := [], harness := (true, "bf19825486d7cb023f7139949936d6582b2c0653e18d113c492d40dc2f746d70"), looks := true }, kinds := [], alts := [], laidByText := true, laidKinds := [.handle], laidTests := true, laidLooks := .later }
def AtomReadsCardSaid : Prop := Claim7.holds Tryz.pinned (.plain (OpenSpec.ofChange atomReadsSpec)) atomReadsCard

/-- THE TIED CARD OF 'newsreellaw15.AtomTexts'. -/
def atomTextsCard : Claim7 := { stood := { row := atomTextsRow, standIns := [], harness := (true, "bf19825486d7cb023f7139949936d6582b2c0653e18d113c492d40dc2f746d70"), looks := true }, kinds := [], alts := [], laidByText := true, laidKinds := [.handle], laidTests := true, laidLooks := .later }
def AtomTextsCardSaid : Prop := Claim7.holds Tryz.pinned (.plain (OpenSpec.ofChange atomTextsSpec)) atomTextsCard

/-- THE TIED CARD OF 'newsreellaw15.AtomDates'. -/
def atomDatesCard : Claim7 := { stood := { row := atomDatesRow, standIns := [], harness := (true, "bf19825486d7cb023f7139949936d6582b2c0653e18d113c492d40dc2f746d70"), looks := true }, kinds := [], alts := [], laidByText := true, laidKinds := [.handle], laidTests := true, laidLooks := .later }
def AtomDatesCardSaid : Prop := Claim7.holds Tryz.pinned (.plain (OpenSpec.ofChange atomDatesSpec)) atomDatesCard

/-- THE TIED CARD OF 'newsreellaw14.RssReads'. -/
def rssReadsCard : Claim7 := { stood := { row := rssReadsRow, standIns := [], harness := (true, "bf19825486d7cb023f7139949936d6582b2c0653e18d113c492d40dc2f746d70"), looks := true }, kinds := [], alts := [], laidByText := true, laidKinds := [.handle, .data, .data], laidTests := true, laidLooks := .later }
def RssReadsCardSaid : Prop := Claim7.holds Tryz.pinned (.plain (OpenSpec.ofChange rssReadsSpec)) rssReadsCard

/-- THE TIED CARD OF 'newsreellaw14.RssTexts'. -/
def rssTextsCard : Claim7 := { stood := { row := rssTextsRow, standIns := [], harness := (true, "bf19825486d7cb023f7139949936d6582b2c0653e18d113c492d40dc2f746d70"), looks := true }, kinds := [], alts := [], laidByText := true, laidKinds := [.handle, .data, .data], laidTests := true, laidLooks := .later }
def RssTextsCardSaid : Prop := Claim7.holds Tryz.pinned (.plain (OpenSpec.ofChange rssTextsSpec)) rssTextsCard

/-- THE TIED CARD OF 'newsreellaw14.RssFields'. -/
def rssFieldsCard : Claim7 := { stood := { row := rssFieldsRow, standIns := [], harness := (true, "bf19825486d7cb023f7139949936d6582b2c0653e18d113c492d40dc2f746d70"), looks := true }, kinds := [], alts := [], laidByText := true, laidKinds := [.handle, .data, .data], laidTests := true, laidLooks := .later }
def RssFieldsCardSaid : Prop := Claim7.holds Tryz.pinned (.plain (OpenSpec.ofChange rssFieldsSpec)) rssFieldsCard

/-- THE TIED CARD OF 'newsreellaw14.RssLimits'. -/
def rssLimitsCard : Claim7 := { stood := { row := rssLimitsRow, standIns := [], harness := (true, "bf19825486d7cb023f7139949936d6582b2c0653e18d113c492d40dc2f746d70"), looks := true }, kinds := [], alts := [], laidByText := true, laidKinds := [.handle, .data, .data], laidTests := true, laidLooks := .later }
def RssLimitsCardSaid : Prop := Claim7.holds Tryz.pinned (.plain (OpenSpec.ofChange rssLimitsSpec)) rssLimitsCard

/-- THE SECOND FORM's CARD OF 'newsreellaw15.AtomReads'. -/
def atomReadsUptoCard : Claim7 := { stood := { row := atomReadsUptoRow, standIns := [], harness := (true, "bf19825486d7cb023f7139949936d6582b2c0653e18d113c492d40dc2f746d70"), looks := true }, kinds := [], alts := [], laidByText := true, laidKinds := [.handle], laidTests := true, laidLooks := .later }
def AtomReadsUptoCardSaid : Prop := Claim7.holds Tryz.pinned (.plain (OpenSpec.upto atomReadsSpec)) atomReadsUptoCard

/-- THE SECOND FORM's CARD OF 'newsreellaw15.AtomTexts'. -/
def atomTextsUptoCard : Claim7 := { stood := { row := atomTextsUptoRow, standIns := [], harness := (true, "bf19825486d7cb023f7139949936d6582b2c0653e18d113c492d40dc2f746d70"), looks := true }, kinds := [], alts := [], laidByText := true, laidKinds := [.handle], laidTests := true, laidLooks := .later }
def AtomTextsUptoCardSaid : Prop := Claim7.holds Tryz.pinned (.plain (OpenSpec.upto atomTextsSpec)) atomTextsUptoCard

/-- THE SECOND FORM's CARD OF 'newsreellaw15.AtomDates'. -/
def atomDatesUptoCard : Claim7 := { stood := { row := atomDatesUptoRow, standIns := [], harness := (true, "bf19825486d7cb023f7139949936d6582b2c0653e18d113c492d40dc2f746d70"), looks := true }, kinds := [], alts := [], laidByText := true, laidKinds := [.handle], laidTests := true, laidLooks := .later }
def AtomDatesUptoCardSaid : Prop := Claim7.holds Tryz.pinned (.plain (OpenSpec.upto atomDatesSpec)) atomDatesUptoCard

/-- THE SECOND FORM's CARD OF 'newsreellaw14.RssReads'. -/
def rssReadsUptoCard : Claim7 := { stood := { row := rssReadsUptoRow, standIns := [], harness := (true, "bf19825486d7cb023f7139949936d6582b2c0653e18d113c492d40dc2f746d70"), looks := true }, kinds := [], alts := [], laidByText := true, laidKinds := [.handle, .data, .data], laidTests := true, laidLooks := .later }
def RssReadsUptoCardSaid : Prop := Claim7.holds Tryz.pinned (.plain (OpenSpec.upto rssReadsSpec)) rssReadsUptoCard

/-- THE SECOND FORM's CARD OF 'newsreellaw14.RssTexts'. -/
def rssTextsUptoCard : Claim7 := { stood := { row := rssTextsUptoRow, standIns := [], harness := (true, "bf19825486d7cb023f7139949936d6582b2c0653e18d113c492d40dc2f746d70"), looks := true }, kinds := [], alts := [], laidByText := true, laidKinds := [.handle, .data, .data], laidTests := true, laidLooks := .later }
def RssTextsUptoCardSaid : Prop := Claim7.holds Tryz.pinned (.plain (OpenSpec.upto rssTextsSpec)) rssTextsUptoCard

/-- THE SECOND FORM's CARD OF 'newsreellaw14.RssFields'. -/
def rssFieldsUptoCard : Claim7 := { stood := { row := rssFieldsUptoRow, standIns := [], harness := (true, "bf19825486d7cb023f7139949936d6582b2c0653e18d113c492d40dc2f746d70"), looks := true }, kinds := [], alts := [], laidByText := true, laidKinds := [.handle, .data, .data], laidTests := true, laidLooks := .later }
def RssFieldsUptoCardSaid : Prop := Claim7.holds Tryz.pinned (.plain (OpenSpec.upto rssFieldsSpec)) rssFieldsUptoCard

/-- THE SECOND FORM's CARD OF 'newsreellaw14.RssLimits'. -/
def rssLimitsUptoCard : Claim7 := { stood := { row := rssLimitsUptoRow, standIns := [], harness := (true, "bf19825486d7cb023f7139949936d6582b2c0653e18d113c492d40dc2f746d70"), looks := true }, kinds := [], alts := [], laidByText := true, laidKinds := [.handle, .data, .data], laidTests := true, laidLooks := .later }
def RssLimitsUptoCardSaid : Prop := Claim7.holds Tryz.pinned (.plain (OpenSpec.upto rssLimitsSpec)) rssLimitsUptoCard
end Rows
end Go.Proofs.YtkjjjbipmobdaaaGreatDoor
