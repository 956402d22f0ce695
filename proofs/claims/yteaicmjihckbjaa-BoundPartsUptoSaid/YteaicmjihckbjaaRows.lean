/-
  No cell of these rows narrows 'for every input' (looked for: loops, veiled, ifaces, maps, wideKeys, modest, calm, conditions, laid).
  DERIVED. THE GIVEN ROWS OF THIS SEAT. 3 by the template 'for every input the law returns true; each argument reads behind the call as it read before'; 0 by the template 'total and deterministic' (their statements: YteaicmjihckbjaaTotals.lean).
  GIVEN WITH THE SEED: the statements are not yours to turn. If you find one false, say at which input.
  Laid BY PROGRAM, IN A SANDBOX (cutbox-rows.mjs): the forced cells as the released guide's own fill.sh prints them over the translation cfe8c188bcca3495… (all of the seat's roots in one cut). By AI agents, Wed Nov 11 2026. No macro, syntax, notation, axiom, sorry.
-/
import Derived.Test.YteaicmjihckbjaaChecked
import GoSem.Claim
import GoSem.ClaimJoined
import GoSem.ClaimMapViews
import Derived.JoinedTies
import Derived.KernelRfl
namespace Go.Proofs.Yteaicmjihckbjaa
/- THE CELL 'sum', in the pinned program and in every row, IS THE sha256 OF THE DUMP (.gsa) THAT YteaicmjihckbjaaProg.lean LOADS. Nothing in Lean hashes anything: it is a label: what it is worth is what the hold of that sum in a sandbox is worth. -/
noncomputable def Try.pinned : Pinned := { name := "yteaicmjihckbjaa", sum := "cfe8c188bcca349562ffb08a0ef2a3d9c788653facfed1ab89d9c3399026f3ee", checked := Try.checked }
namespace Rows
def none {H : Type} : Left H := { results := [], args := [] }

/-- 'assayerlaw2.BoundEdges': WHATEVER THE INPUT: true; the input reads as it did. -/
def boundEdgesSpec : ChangeSpec := { name := "boundEdges", fn := fun _ => fun
  | [d1, d2, d3] => { results := [.lit (.bool true)], args := [d1, d2, d3] }
  | _ => none }
def boundEdgesRow : OpenClaim := { program := "yteaicmjihckbjaa", sum := "cfe8c188bcca349562ffb08a0ef2a3d9c788653facfed1ab89d9c3399026f3ee", func := "assayer/assayerlaw2.BoundEdges", spec := "boundEdges", unfollowed := true, recurses := true, apart := false }
def BoundEdgesSaid : Prop := boundEdgesRow.holds Try.pinned (OpenSpec.ofChange boundEdgesSpec)

/-- ITS FALSE NEIGHBOUR: 'it returns false'. Refute it at one input. -/
def boundEdgesWrong : ChangeSpec := { name := "boundEdges", fn := fun _ => fun
  | [d1, d2, d3] => { results := [.lit (.bool false)], args := [d1, d2, d3] }
  | _ => none }
def BoundEdgesWrongFalsely : Prop := boundEdgesRow.holds Try.pinned (OpenSpec.ofChange boundEdgesWrong)

/-- 'assayerlaw2.BoundParts': WHATEVER THE INPUT: true; the input reads as it did. -/
def boundPartsSpec : ChangeSpec := { name := "boundParts", fn := fun _ => fun
  | [d1, d2, d3, d4] => { results := [.lit (.bool true)], args := [d1, d2, d3, d4] }
  | _ => none }
def boundPartsRow : OpenClaim := { program := "yteaicmjihckbjaa", sum := "cfe8c188bcca349562ffb08a0ef2a3d9c788653facfed1ab89d9c3399026f3ee", func := "assayer/assayerlaw2.BoundParts", spec := "boundParts", apart := false }
def BoundPartsSaid : Prop := boundPartsRow.holds Try.pinned (OpenSpec.ofChange boundPartsSpec)

/-- ITS FALSE NEIGHBOUR: 'it returns false'. Refute it at one input. -/
def boundPartsWrong : ChangeSpec := { name := "boundParts", fn := fun _ => fun
  | [d1, d2, d3, d4] => { results := [.lit (.bool false)], args := [d1, d2, d3, d4] }
  | _ => none }
def BoundPartsWrongFalsely : Prop := boundPartsRow.holds Try.pinned (OpenSpec.ofChange boundPartsWrong)

/-- 'assayerlaw6.BoundPieces': WHATEVER THE INPUT: true; the input reads as it did. -/
def boundPiecesSpec : ChangeSpec := { name := "boundPieces", fn := fun _ => fun
  | [d1, d2] => { results := [.lit (.bool true)], args := [d1, d2] }
  | _ => none }
def boundPiecesRow : OpenClaim := { program := "yteaicmjihckbjaa", sum := "cfe8c188bcca349562ffb08a0ef2a3d9c788653facfed1ab89d9c3399026f3ee", func := "assayer/assayerlaw6.BoundPieces", spec := "boundPieces", apart := false }
def BoundPiecesSaid : Prop := boundPiecesRow.holds Try.pinned (OpenSpec.ofChange boundPiecesSpec)

/-- ITS FALSE NEIGHBOUR: 'it returns false'. Refute it at one input. -/
def boundPiecesWrong : ChangeSpec := { name := "boundPieces", fn := fun _ => fun
  | [d1, d2] => { results := [.lit (.bool false)], args := [d1, d2] }
  | _ => none }
def BoundPiecesWrongFalsely : Prop := boundPiecesRow.holds Try.pinned (OpenSpec.ofChange boundPiecesWrong)

/- THE SECOND FORM. 'bulk': how many values and letters a reading holds, each counted each time it is reached (what is shared counts as often as it is met; a slice's spare places count too). A statement '..UptoSaid' is the law's where the arguments, and the package variables that the reading takes, are together of bulk at most 1048576: NARROWER than '..Said'. Prove '..Said' where nothing that the law and all that it calls make is longer than what came in: it says more and counts as full. Else prove '..UptoSaid'. A law counts once. -/
mutual
def uptoBulk {H : Type} : DataW H → Nat
  | .lit (.string bytes) => bytes.length + 1
  | .lit _ => 1
  | .nil => 1
  | .ptr d => uptoBulk d + 1
  | .slice elems spare => uptoBulkAll elems + uptoBulkAll spare + 1
  | .agg parts => uptoBulkAll parts + 1
  | .iface _ d => uptoBulk d + 1
  | .map entries => uptoBulkEntries entries + 1
  | .held _ => 1
def uptoBulkAll {H : Type} : List (DataW H) → Nat
  | [] => 0
  | d :: r => uptoBulk d + uptoBulkAll r
def uptoBulkEntries {H : Type} : List (Lit × DataW H) → Nat
  | [] => 0
  | x :: r => uptoBulkEntry x + uptoBulkEntries r
def uptoBulkEntry {H : Type} : Lit × DataW H → Nat
  | (.string bytes, d) => bytes.length + uptoBulk d + 1
  | (_, d) => uptoBulk d + 1
 end
def uptoSmall : (H : Type) → List (DataW H) → Bool := fun _ ds => decide (uptoBulkAll ds ≤ 1048576)
def OpenSpec.upto (s : _root_.Go.ChangeSpec) : _root_.Go.OpenSpec := { _root_.Go.OpenSpec.ofChange s with cond := some uptoSmall }

/-- 'assayerlaw2.BoundEdges', WHERE WHAT IT READS IS OF BULK AT MOST 1048576: true; the input reads as it did. -/
def boundEdgesUptoRow : OpenClaim := { program := "yteaicmjihckbjaa", sum := "cfe8c188bcca349562ffb08a0ef2a3d9c788653facfed1ab89d9c3399026f3ee", func := "assayer/assayerlaw2.BoundEdges", spec := "boundEdges", unfollowed := true, recurses := true, apart := false, narrowed := true }
def BoundEdgesUptoSaid : Prop := boundEdgesUptoRow.holds Try.pinned (OpenSpec.upto boundEdgesSpec)

/-- 'assayerlaw2.BoundParts', WHERE WHAT IT READS IS OF BULK AT MOST 1048576: true; the input reads as it did. -/
def boundPartsUptoRow : OpenClaim := { program := "yteaicmjihckbjaa", sum := "cfe8c188bcca349562ffb08a0ef2a3d9c788653facfed1ab89d9c3399026f3ee", func := "assayer/assayerlaw2.BoundParts", spec := "boundParts", apart := false, narrowed := true }
def BoundPartsUptoSaid : Prop := boundPartsUptoRow.holds Try.pinned (OpenSpec.upto boundPartsSpec)

/-- 'assayerlaw6.BoundPieces', WHERE WHAT IT READS IS OF BULK AT MOST 1048576: true; the input reads as it did. -/
def boundPiecesUptoRow : OpenClaim := { program := "yteaicmjihckbjaa", sum := "cfe8c188bcca349562ffb08a0ef2a3d9c788653facfed1ab89d9c3399026f3ee", func := "assayer/assayerlaw6.BoundPieces", spec := "boundPieces", apart := false, narrowed := true }
def BoundPiecesUptoSaid : Prop := boundPiecesUptoRow.holds Try.pinned (OpenSpec.upto boundPiecesSpec)

end Rows
end Go.Proofs.Yteaicmjihckbjaa
