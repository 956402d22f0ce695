/-
  DERIVED. GIVEN WITH THE SEED: THE CARDS: each row of YtabkihellcflhaaDoorRows.lean that lists a variable, with what it lists TIED to the program's text (the seventh form; the later family's looks); each row that meets fmt, with fmt's text TOLD by the authors' own Lean function (tested against real Go, not proved from fmt's source: count such statements apart). THE CARD IS WHAT COUNTS. Prove the row's statement (the work); the ties are given (YtabkihellcflhaaDoorTie.lean); close each card by the builder's one call (the guide's Derived/Test/ToyasCard.lean, 'card_holds'). Laid BY PROGRAM, IN A SANDBOX (cutbox-door.mjs). By AI agents, Wed Nov 11 2026. No macro, syntax, notation, axiom, sorry.
-/
import Derived.Test.YtabkihellcflhaaDoorRows
import GoSem.ClaimSeven
namespace Go.Proofs.YtabkihellcflhaaDoor
namespace Rows

/-- THE TIED CARD OF 'assayerlaw1.RunsAgain'. -/
def runsAgainCard : Claim7 := { stood := { row := runsAgainRow, standIns := [], harness := (true, "c42805749beb352460d694ee247952549c02070c77c4fc14cdc9130297d4671a"), looks := true }, kinds := [], alts := [], laidByText := true, laidKinds := [.data], laidTests := true, laidLooks := .later }
def RunsAgainCardSaid : Prop := Claim7.holds Tryd.pinned (.plain (OpenSpec.ofChange runsAgainSpec)) runsAgainCard

/-- THE TIED CARD OF 'assayerlaw1.RunsFail'. -/
def runsFailCard : Claim7 := { stood := { row := runsFailRow, standIns := [], harness := (true, "c42805749beb352460d694ee247952549c02070c77c4fc14cdc9130297d4671a"), looks := true }, kinds := [], alts := [], laidByText := true, laidKinds := [.data], laidTests := true, laidLooks := .later }
def RunsFailCardSaid : Prop := Claim7.holds Tryd.pinned (.plain (OpenSpec.ofChange runsFailSpec)) runsFailCard

/-- THE SECOND FORM's CARD OF 'assayerlaw1.RunsAgain'. -/
def runsAgainUptoCard : Claim7 := { stood := { row := runsAgainUptoRow, standIns := [], harness := (true, "c42805749beb352460d694ee247952549c02070c77c4fc14cdc9130297d4671a"), looks := true }, kinds := [], alts := [], laidByText := true, laidKinds := [.data], laidTests := true, laidLooks := .later }
def RunsAgainUptoCardSaid : Prop := Claim7.holds Tryd.pinned (.plain (OpenSpec.upto runsAgainSpec)) runsAgainUptoCard

/-- THE SECOND FORM's CARD OF 'assayerlaw1.RunsFail'. -/
def runsFailUptoCard : Claim7 := { stood := { row := runsFailUptoRow, standIns := [], harness := (true, "c42805749beb352460d694ee247952549c02070c77c4fc14cdc9130297d4671a"), looks := true }, kinds := [], alts := [], laidByText := true, laidKinds := [.data], laidTests := true, laidLooks := .later }
def RunsFailUptoCardSaid : Prop := Claim7.holds Tryd.pinned (.plain (OpenSpec.upto runsFailSpec)) runsFailUptoCard
end Rows
end Go.Proofs.YtabkihellcflhaaDoor
