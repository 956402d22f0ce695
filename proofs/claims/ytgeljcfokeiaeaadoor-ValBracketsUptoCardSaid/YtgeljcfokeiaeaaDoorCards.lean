/-
  DERIVED. GIVEN WITH THE SEED: THE CARDS: each row of YtgeljcfokeiaeaaDoorRows.lean that lists a variable, with what it lists TIED to the program's text (the seventh form; the later family's looks); each row that meets fmt, with fmt's text TOLD by the authors' own Lean function (tested against real Go, not proved from fmt's source: count such statements apart). THE CARD IS WHAT COUNTS. Prove the row's statement (the work); the ties are given (YtgeljcfokeiaeaaDoorTie.lean); close each card by the builder's one call (the guide's Derived/Test/ToyasCard.lean, 'card_holds'). Laid BY PROGRAM, IN A SANDBOX (cutbox-door.mjs). By AI agents, Wed Nov 11 2026. No macro, syntax, notation, axiom, sorry.
-/
import Derived.Test.YtgeljcfokeiaeaaDoorRows
import GoSem.ClaimSeven
namespace Go.Proofs.YtgeljcfokeiaeaaDoor
namespace Rows

/-- THE TIED CARD OF 'assayerlaw1.ValTells'. -/
def valTellsCard : Claim7 := { stood := { row := valTellsRow, standIns := [], harness := (true, "9a12ee5118d7f4c41b58f6fd0b143b904871f6f3501d7b9132b14e186cbb7aab"), looks := true }, kinds := [], alts := [], laidByText := true, laidKinds := [.data, .data, .data, .handle, .sentinel, .sentinel], laidTests := true, laidLooks := .later }
def ValTellsCardSaid : Prop := Claim7.holds Tryd.pinned (.plain (OpenSpec.ofChange valTellsSpec)) valTellsCard

/-- THE TIED CARD OF 'assayerlaw1.ValBack'. -/
def valBackCard : Claim7 := { stood := { row := valBackRow, standIns := [], harness := (true, "9a12ee5118d7f4c41b58f6fd0b143b904871f6f3501d7b9132b14e186cbb7aab"), looks := true }, kinds := [], alts := [], laidByText := true, laidKinds := [.data, .data, .data, .sentinel, .sentinel], laidTests := true, laidLooks := .later }
def ValBackCardSaid : Prop := Claim7.holds Tryd.pinned (.plain (OpenSpec.ofChange valBackSpec)) valBackCard

/-- THE TIED CARD OF 'assayerlaw1.ValNests'. -/
def valNestsCard : Claim7 := { stood := { row := valNestsRow, standIns := [], harness := (true, "9a12ee5118d7f4c41b58f6fd0b143b904871f6f3501d7b9132b14e186cbb7aab"), looks := true }, kinds := [], alts := [], laidByText := true, laidKinds := [.data, .data, .data, .handle, .sentinel, .sentinel], laidTests := true, laidLooks := .later }
def ValNestsCardSaid : Prop := Claim7.holds Tryd.pinned (.plain (OpenSpec.ofChange valNestsSpec)) valNestsCard

/-- THE TIED CARD OF 'assayerlaw5.ValOwn'. -/
def valOwnCard : Claim7 := { stood := { row := valOwnRow, standIns := [], harness := (true, "9a12ee5118d7f4c41b58f6fd0b143b904871f6f3501d7b9132b14e186cbb7aab"), looks := true }, kinds := [], alts := [], laidByText := true, laidKinds := [.data, .data, .data, .handle, .sentinel, .sentinel], laidTests := true, laidLooks := .later }
def ValOwnCardSaid : Prop := Claim7.holds Tryd.pinned (.plain (OpenSpec.ofChange valOwnSpec)) valOwnCard

/-- THE TIED CARD OF 'assayerlaw6.ValBrackets'. -/
def valBracketsCard : Claim7 := { stood := { row := valBracketsRow, standIns := [], harness := (true, "9a12ee5118d7f4c41b58f6fd0b143b904871f6f3501d7b9132b14e186cbb7aab"), looks := true }, kinds := [], alts := [], laidByText := true, laidKinds := [.data, .data, .data, .sentinel, .sentinel], laidTests := true, laidLooks := .later }
def ValBracketsCardSaid : Prop := Claim7.holds Tryd.pinned (.plain (OpenSpec.ofChange valBracketsSpec)) valBracketsCard

/-- THE SECOND FORM's CARD OF 'assayerlaw1.ValTells'. -/
def valTellsUptoCard : Claim7 := { stood := { row := valTellsUptoRow, standIns := [], harness := (true, "9a12ee5118d7f4c41b58f6fd0b143b904871f6f3501d7b9132b14e186cbb7aab"), looks := true }, kinds := [], alts := [], laidByText := true, laidKinds := [.data, .data, .data, .handle, .sentinel, .sentinel], laidTests := true, laidLooks := .later }
def ValTellsUptoCardSaid : Prop := Claim7.holds Tryd.pinned (.plain (OpenSpec.upto valTellsSpec)) valTellsUptoCard

/-- THE SECOND FORM's CARD OF 'assayerlaw1.ValBack'. -/
def valBackUptoCard : Claim7 := { stood := { row := valBackUptoRow, standIns := [], harness := (true, "9a12ee5118d7f4c41b58f6fd0b143b904871f6f3501d7b9132b14e186cbb7aab"), looks := true }, kinds := [], alts := [], laidByText := true, laidKinds := [.data, .data, .data, .sentinel, .sentinel], laidTests := true, laidLooks := .later }
def ValBackUptoCardSaid : Prop := Claim7.holds Tryd.pinned (.plain (OpenSpec.upto valBackSpec)) valBackUptoCard

/-- THE SECOND FORM's CARD OF 'assayerlaw1.ValNests'. -/
def valNestsUptoCard : Claim7 := { stood := { row := valNestsUptoRow, standIns := [], harness := (true, "9a12ee5118d7f4c41b58f6fd0b143b904871f6f3501d7b9132b14e186cbb7aab"), looks := true }, kinds := [], alts := [], laidByText := true, laidKinds := [.data, .data, .data, .handle, .sentinel, .sentinel], laidTests := true, laidLooks := .later }
def ValNestsUptoCardSaid : Prop := Claim7.holds Tryd.pinned (.plain (OpenSpec.upto valNestsSpec)) valNestsUptoCard

/-- THE SECOND FORM's CARD OF 'assayerlaw5.ValOwn'. -/
def valOwnUptoCard : Claim7 := { stood := { row := valOwnUptoRow, standIns := [], harness := (true, "9a12ee5118d7f4c41b58f6fd0b143b904871f6f3501d7b9132b14e186cbb7aab"), looks := true }, kinds := [], alts := [], laidByText := true, laidKinds := [.data, .data, .data, .handle, .sentinel, .sentinel], laidTests := true, laidLooks := .later }
def ValOwnUptoCardSaid : Prop := Claim7.holds Tryd.pinned (.plain (OpenSpec.upto valOwnSpec)) valOwnUptoCard

/-- THE SECOND FORM's CARD OF 'assayerlaw6.ValBrackets'. -/
def valBracketsUptoCard : Claim7 := { stood := { row := valBracketsUptoRow, standIns := [], harness := (true, "9a12ee5118d7f4c41b58f6fd0b143b904871f6f3501d7b9132b14e186cbb7aab"), looks := true }, kinds := [], alts := [], laidByText := true, laidKinds := [.data, .data, .data, .sentinel, .sentinel], laidTests := true, laidLooks := .later }
def ValBracketsUptoCardSaid : Prop := Claim7.holds Tryd.pinned (.plain (OpenSpec.upto valBracketsSpec)) valBracketsUptoCard
end Rows
end Go.Proofs.YtgeljcfokeiaeaaDoor
