/-
  DERIVED. GIVEN WITH THE SEED: THE CARDS: each row of YtonbgdcgfoipjaaDoorRows.lean that lists a variable, with what it lists TIED to the program's text (the seventh form; the later family's looks); each row that meets fmt, with fmt's text TOLD by the authors' own Lean function (tested against real Go, not proved from fmt's source: count such statements apart). THE CARD IS WHAT COUNTS. Prove the row's statement (the work); the ties are given (YtonbgdcgfoipjaaDoorTie.lean); close each card by the builder's one call (the guide's Derived/Test/ToyasCard.lean, 'card_holds'). Laid BY PROGRAM, IN A SANDBOX (cutbox-door.mjs). By AI agents, Wed Nov 11 2026. No macro, syntax, notation, axiom, sorry.
-/
import Derived.Test.YtonbgdcgfoipjaaDoorRows
import GoSem.ClaimSeven
namespace Go.Proofs.YtonbgdcgfoipjaaDoor
namespace Rows

/-- THE TIED CARD OF 'newsreellaw05.VoteTells'. -/
def voteTellsCard : Claim7 := { stood := { row := voteTellsRow, standIns := [], harness := (true, "c3beaba662b93c734c85633270591af63941dad8f706d40af7108a5a98199a44"), looks := false }, kinds := [], alts := [], laidByText := true, laidKinds := [.widerDeep, .widerDeep], laidTests := true, laidLooks := .later }
def VoteTellsCardSaid : Prop := Claim7.holds Tryd.pinned (.plain (OpenSpec.ofChange voteTellsSpec)) voteTellsCard

/-- THE TIED CARD OF 'newsreellaw05.VoteTexts'. -/
def voteTextsCard : Claim7 := { stood := { row := voteTextsRow, standIns := [], harness := (true, "c3beaba662b93c734c85633270591af63941dad8f706d40af7108a5a98199a44"), looks := false }, kinds := [], alts := [], laidByText := true, laidKinds := [.widerDeep, .widerDeep], laidTests := true, laidLooks := .later }
def VoteTextsCardSaid : Prop := Claim7.holds Tryd.pinned (.plain (OpenSpec.ofChange voteTextsSpec)) voteTextsCard

/-- THE TIED CARD OF 'newsreellaw05.VoteOrder'. -/
def voteOrderCard : Claim7 := { stood := { row := voteOrderRow, standIns := [], harness := (true, "c3beaba662b93c734c85633270591af63941dad8f706d40af7108a5a98199a44"), looks := false }, kinds := [], alts := [], laidByText := true, laidKinds := [.widerDeep, .widerDeep], laidTests := true, laidLooks := .later }
def VoteOrderCardSaid : Prop := Claim7.holds Tryd.pinned (.plain (OpenSpec.ofChange voteOrderSpec)) voteOrderCard

/-- THE TIED CARD OF 'newsreellaw05.VoteEven'. -/
def voteEvenCard : Claim7 := { stood := { row := voteEvenRow, standIns := [], harness := (true, "c3beaba662b93c734c85633270591af63941dad8f706d40af7108a5a98199a44"), looks := false }, kinds := [], alts := [], laidByText := true, laidKinds := [.widerDeep, .widerDeep], laidTests := true, laidLooks := .later }
def VoteEvenCardSaid : Prop := Claim7.holds Tryd.pinned (.plain (OpenSpec.ofChange voteEvenSpec)) voteEvenCard

/-- THE TIED CARD OF 'newsreellaw05.VoteWords'. -/
def voteWordsCard : Claim7 := { stood := { row := voteWordsRow, standIns := [], harness := (true, "c3beaba662b93c734c85633270591af63941dad8f706d40af7108a5a98199a44"), looks := false }, kinds := [], alts := [], laidByText := true, laidKinds := [.widerDeep, .widerDeep], laidTests := true, laidLooks := .later }
def VoteWordsCardSaid : Prop := Claim7.holds Tryd.pinned (.plain (OpenSpec.ofChange voteWordsSpec)) voteWordsCard

/-- THE SECOND FORM's CARD OF 'newsreellaw05.VoteTells'. -/
def voteTellsUptoCard : Claim7 := { stood := { row := voteTellsUptoRow, standIns := [], harness := (true, "c3beaba662b93c734c85633270591af63941dad8f706d40af7108a5a98199a44"), looks := false }, kinds := [], alts := [], laidByText := true, laidKinds := [.widerDeep, .widerDeep], laidTests := true, laidLooks := .later }
def VoteTellsUptoCardSaid : Prop := Claim7.holds Tryd.pinned (.plain (OpenSpec.upto voteTellsSpec)) voteTellsUptoCard

/-- THE SECOND FORM's CARD OF 'newsreellaw05.VoteTexts'. -/
def voteTextsUptoCard : Claim7 := { stood := { row := voteTextsUptoRow, standIns := [], harness := (true, "c3beaba662b93c734c85633270591af63941dad8f706d40af7108a5a98199a44"), looks := false }, kinds := [], alts := [], laidByText := true, laidKinds := [.widerDeep, .widerDeep], laidTests := true, laidLooks := .later }
def VoteTextsUptoCardSaid : Prop := Claim7.holds Tryd.pinned (.plain (OpenSpec.upto voteTextsSpec)) voteTextsUptoCard

/-- THE SECOND FORM's CARD OF 'newsreellaw05.VoteOrder'. -/
def voteOrderUptoCard : Claim7 := { stood := { row := voteOrderUptoRow, standIns := [], harness := (true, "c3beaba662b93c734c85633270591af63941dad8f706d40af7108a5a98199a44"), looks := false }, kinds := [], alts := [], laidByText := true, laidKinds := [.widerDeep, .widerDeep], laidTests := true, laidLooks := .later }
def VoteOrderUptoCardSaid : Prop := Claim7.holds Tryd.pinned (.plain (OpenSpec.upto voteOrderSpec)) voteOrderUptoCard

/-- THE SECOND FORM's CARD OF 'newsreellaw05.VoteEven'. -/
def voteEvenUptoCard : Claim7 := { stood := { row := voteEvenUptoRow, standIns := [], harness := (true, "c3beaba662b93c734c85633270591af63941dad8f706d40af7108a5a98199a44"), looks := false }, kinds := [], alts := [], laidByText := true, laidKinds := [.widerDeep, .widerDeep], laidTests := true, laidLooks := .later }
def VoteEvenUptoCardSaid : Prop := Claim7.holds Tryd.pinned (.plain (OpenSpec.upto voteEvenSpec)) voteEvenUptoCard

/-- THE SECOND FORM's CARD OF 'newsreellaw05.VoteWords'. -/
def voteWordsUptoCard : Claim7 := { stood := { row := voteWordsUptoRow, standIns := [], harness := (true, "c3beaba662b93c734c85633270591af63941dad8f706d40af7108a5a98199a44"), looks := false }, kinds := [], alts := [], laidByText := true, laidKinds := [.widerDeep, .widerDeep], laidTests := true, laidLooks := .later }
def VoteWordsUptoCardSaid : Prop := Claim7.holds Tryd.pinned (.plain (OpenSpec.upto voteWordsSpec)) voteWordsUptoCard
end Rows
end Go.Proofs.YtonbgdcgfoipjaaDoor
