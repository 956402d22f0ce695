/-
  DERIVED. GIVEN WITH THE SEED: THE CARDS: each row of YtboecgbgcbkcjaaDoorRows.lean that lists a variable, with what it lists TIED to the program's text (the seventh form; the later family's looks); each row that meets fmt, with fmt's text TOLD by the authors' own Lean function (tested against real Go, not proved from fmt's source: count such statements apart). THE CARD IS WHAT COUNTS. Prove the row's statement (the work); the ties are given (YtboecgbgcbkcjaaDoorTie.lean); close each card by the builder's one call (the guide's Derived/Test/ToyasCard.lean, 'card_holds'). Laid BY PROGRAM, IN A SANDBOX (cutbox-door.mjs). By AI agents, Wed Nov 11 2026. No macro, syntax, notation, axiom, sorry.
-/
import Derived.Test.YtboecgbgcbkcjaaDoorRows
import GoSem.ClaimSeven
namespace Go.Proofs.YtboecgbgcbkcjaaDoor
namespace Rows

/-- THE TIED CARD OF 'assayerlaw1.GenTells'. -/
def genTellsCard : Claim7 := { stood := { row := genTellsRow, standIns := [], harness := (true, "a0b8181a02fcf8280bfb5761f7d539671a48cd7f49510b04e127fb66ab1e3b9f"), looks := true }, kinds := [], alts := [], laidByText := true, laidKinds := [.handle], laidTests := true, laidLooks := .later }
def GenTellsCardSaid : Prop := Claim7.holds Tryd.pinned (.plain (OpenSpec.ofChange genTellsSpec)) genTellsCard

/-- THE TIED CARD OF 'assayerlaw1.RankTells'. -/
def rankTellsCard : Claim7 := { stood := { row := rankTellsRow, standIns := [], harness := (true, "a0b8181a02fcf8280bfb5761f7d539671a48cd7f49510b04e127fb66ab1e3b9f"), looks := true }, kinds := [], alts := [], laidByText := true, laidKinds := [.handle], laidTests := true, laidLooks := .later }
def RankTellsCardSaid : Prop := Claim7.holds Tryd.pinned (.plain (OpenSpec.ofChange rankTellsSpec)) rankTellsCard

/-- THE TIED CARD OF 'assayerlaw5.GenOwn'. -/
def genOwnCard : Claim7 := { stood := { row := genOwnRow, standIns := [], harness := (true, "a0b8181a02fcf8280bfb5761f7d539671a48cd7f49510b04e127fb66ab1e3b9f"), looks := true }, kinds := [], alts := [], laidByText := true, laidKinds := [.data, .data, .data], laidTests := true, laidLooks := .later }
def GenOwnCardSaid : Prop := Claim7.holds Tryd.pinned (.plain (OpenSpec.ofChange genOwnSpec)) genOwnCard

/-- THE TIED CARD OF 'assayerlaw5.RankOwn'. -/
def rankOwnCard : Claim7 := { stood := { row := rankOwnRow, standIns := [], harness := (true, "a0b8181a02fcf8280bfb5761f7d539671a48cd7f49510b04e127fb66ab1e3b9f"), looks := true }, kinds := [], alts := [], laidByText := true, laidKinds := [.handle], laidTests := true, laidLooks := .later }
def RankOwnCardSaid : Prop := Claim7.holds Tryd.pinned (.plain (OpenSpec.ofChange rankOwnSpec)) rankOwnCard

/-- THE TIED CARD OF 'assayerlaw6.GenWraps'. -/
def genWrapsCard : Claim7 := { stood := { row := genWrapsRow, standIns := [], harness := (true, "a0b8181a02fcf8280bfb5761f7d539671a48cd7f49510b04e127fb66ab1e3b9f"), looks := true }, kinds := [], alts := [], laidByText := true, laidKinds := [.data, .data, .data, .handle], laidTests := true, laidLooks := .later }
def GenWrapsCardSaid : Prop := Claim7.holds Tryd.pinned (.plain (OpenSpec.ofChange genWrapsSpec)) genWrapsCard

/-- THE SECOND FORM's CARD OF 'assayerlaw1.GenTells'. -/
def genTellsUptoCard : Claim7 := { stood := { row := genTellsUptoRow, standIns := [], harness := (true, "a0b8181a02fcf8280bfb5761f7d539671a48cd7f49510b04e127fb66ab1e3b9f"), looks := true }, kinds := [], alts := [], laidByText := true, laidKinds := [.handle], laidTests := true, laidLooks := .later }
def GenTellsUptoCardSaid : Prop := Claim7.holds Tryd.pinned (.plain (OpenSpec.upto genTellsSpec)) genTellsUptoCard

/-- THE SECOND FORM's CARD OF 'assayerlaw1.RankTells'. -/
def rankTellsUptoCard : Claim7 := { stood := { row := rankTellsUptoRow, standIns := [], harness := (true, "a0b8181a02fcf8280bfb5761f7d539671a48cd7f49510b04e127fb66ab1e3b9f"), looks := true }, kinds := [], alts := [], laidByText := true, laidKinds := [.handle], laidTests := true, laidLooks := .later }
def RankTellsUptoCardSaid : Prop := Claim7.holds Tryd.pinned (.plain (OpenSpec.upto rankTellsSpec)) rankTellsUptoCard

/-- THE SECOND FORM's CARD OF 'assayerlaw5.GenOwn'. -/
def genOwnUptoCard : Claim7 := { stood := { row := genOwnUptoRow, standIns := [], harness := (true, "a0b8181a02fcf8280bfb5761f7d539671a48cd7f49510b04e127fb66ab1e3b9f"), looks := true }, kinds := [], alts := [], laidByText := true, laidKinds := [.data, .data, .data], laidTests := true, laidLooks := .later }
def GenOwnUptoCardSaid : Prop := Claim7.holds Tryd.pinned (.plain (OpenSpec.upto genOwnSpec)) genOwnUptoCard

/-- THE SECOND FORM's CARD OF 'assayerlaw5.RankOwn'. -/
def rankOwnUptoCard : Claim7 := { stood := { row := rankOwnUptoRow, standIns := [], harness := (true, "a0b8181a02fcf8280bfb5761f7d539671a48cd7f49510b04e127fb66ab1e3b9f"), looks := true }, kinds := [], alts := [], laidByText := true, laidKinds := [.handle], laidTests := true, laidLooks := .later }
def RankOwnUptoCardSaid : Prop := Claim7.holds Tryd.pinned (.plain (OpenSpec.upto rankOwnSpec)) rankOwnUptoCard

/-- THE SECOND FORM's CARD OF 'assayerlaw6.GenWraps'. -/
def genWrapsUptoCard : Claim7 := { stood := { row := genWrapsUptoRow, standIns := [], harness := (true, "a0b8181a02fcf8280bfb5761f7d539671a48cd7f49510b04e127fb66ab1e3b9f"), looks := true }, kinds := [], alts := [], laidByText := true, laidKinds := [.data, .data, .data, .handle], laidTests := true, laidLooks := .later }
def GenWrapsUptoCardSaid : Prop := Claim7.holds Tryd.pinned (.plain (OpenSpec.upto genWrapsSpec)) genWrapsUptoCard
end Rows
end Go.Proofs.YtboecgbgcbkcjaaDoor
