/-
  NARROWER THAN 'FOR EVERY INPUT', by the rows' own cells (each row's printed sentence says how): GenDraws: loops · GenMends: loops · GenCounts: loops · GenNoughts: loops.
  DERIVED. THE GIVEN ROWS OF THIS SEAT. 4 by the template 'for every input the law returns true; each argument reads behind the call as it read before'; 0 by the template 'total and deterministic' (their statements: YtppahcjpffbkbaaTotals.lean).
  GIVEN WITH THE SEED: the statements are not yours to turn. If you find one false, say at which input.
  Laid BY PROGRAM, IN A SANDBOX (cutbox-rows.mjs): the forced cells as the released guide's own fill.sh prints them over the translation 08c544b9891781e1… (all of the seat's roots in one cut). By AI agents, Wed Nov 11 2026. No macro, syntax, notation, axiom, sorry.
-/
import Derived.Test.YtppahcjpffbkbaaChecked
import GoSem.Claim
import GoSem.ClaimJoined
import GoSem.ClaimMapViews
import Derived.JoinedTies
import Derived.KernelRfl
namespace Go.Proofs.Ytppahcjpffbkbaa
/- THE CELL 'sum', in the pinned program and in every row, IS THE sha256 OF THE DUMP (.gsa) THAT YtppahcjpffbkbaaProg.lean LOADS. Nothing in Lean hashes anything: it is a label: what it is worth is what the hold of that sum in a sandbox is worth. -/
noncomputable def Try.pinned : Pinned := { name := "ytppahcjpffbkbaa", sum := "08c544b9891781e125b69f23066c5023f79a90f73926aca392a7b2ae24a58a5d", checked := Try.checked }
namespace Rows
def none {H : Type} : Left H := { results := [], args := [] }

/-- 'assayerlaw1.GenDraws': WHATEVER THE INPUT: true; the input reads as it did. -/
def genDrawsSpec : ChangeSpec := { name := "genDraws", fn := fun _ => fun
  | [d1, d2] => { results := [.lit (.bool true)], args := [d1, d2] }
  | _ => none }
def genDrawsRow : OpenClaim := { program := "ytppahcjpffbkbaa", sum := "08c544b9891781e125b69f23066c5023f79a90f73926aca392a7b2ae24a58a5d", func := "assayer/assayerlaw1.GenDraws", spec := "genDraws", unfollowed := true, recurses := true, loops := true, apart := false }
def GenDrawsSaid : Prop := genDrawsRow.holds Try.pinned (OpenSpec.ofChange genDrawsSpec)

/-- ITS FALSE NEIGHBOUR: 'it returns false'. Refute it at one input. -/
def genDrawsWrong : ChangeSpec := { name := "genDraws", fn := fun _ => fun
  | [d1, d2] => { results := [.lit (.bool false)], args := [d1, d2] }
  | _ => none }
def GenDrawsWrongFalsely : Prop := genDrawsRow.holds Try.pinned (OpenSpec.ofChange genDrawsWrong)

/-- 'assayerlaw1.GenMends': WHATEVER THE INPUT: true; the input reads as it did. -/
def genMendsSpec : ChangeSpec := { name := "genMends", fn := fun _ => fun
  | [d1, d2, d3] => { results := [.lit (.bool true)], args := [d1, d2, d3] }
  | _ => none }
def genMendsRow : OpenClaim := { program := "ytppahcjpffbkbaa", sum := "08c544b9891781e125b69f23066c5023f79a90f73926aca392a7b2ae24a58a5d", func := "assayer/assayerlaw1.GenMends", spec := "genMends", unfollowed := true, recurses := true, loops := true, apart := false }
def GenMendsSaid : Prop := genMendsRow.holds Try.pinned (OpenSpec.ofChange genMendsSpec)

/-- ITS FALSE NEIGHBOUR: 'it returns false'. Refute it at one input. -/
def genMendsWrong : ChangeSpec := { name := "genMends", fn := fun _ => fun
  | [d1, d2, d3] => { results := [.lit (.bool false)], args := [d1, d2, d3] }
  | _ => none }
def GenMendsWrongFalsely : Prop := genMendsRow.holds Try.pinned (OpenSpec.ofChange genMendsWrong)

/-- 'assayerlaw1.GenCounts': WHATEVER THE INPUT: true; the input reads as it did. -/
def genCountsSpec : ChangeSpec := { name := "genCounts", fn := fun _ => fun
  | [d1, d2, d3] => { results := [.lit (.bool true)], args := [d1, d2, d3] }
  | _ => none }
def genCountsRow : OpenClaim := { program := "ytppahcjpffbkbaa", sum := "08c544b9891781e125b69f23066c5023f79a90f73926aca392a7b2ae24a58a5d", func := "assayer/assayerlaw1.GenCounts", spec := "genCounts", unfollowed := true, recurses := true, loops := true, apart := false }
def GenCountsSaid : Prop := genCountsRow.holds Try.pinned (OpenSpec.ofChange genCountsSpec)

/-- ITS FALSE NEIGHBOUR: 'it returns false'. Refute it at one input. -/
def genCountsWrong : ChangeSpec := { name := "genCounts", fn := fun _ => fun
  | [d1, d2, d3] => { results := [.lit (.bool false)], args := [d1, d2, d3] }
  | _ => none }
def GenCountsWrongFalsely : Prop := genCountsRow.holds Try.pinned (OpenSpec.ofChange genCountsWrong)

/-- 'assayerlaw6.GenNoughts': WHATEVER THE INPUT: true; the input reads as it did. -/
def genNoughtsSpec : ChangeSpec := { name := "genNoughts", fn := fun _ => fun
  | [d1, d2] => { results := [.lit (.bool true)], args := [d1, d2] }
  | _ => none }
def genNoughtsRow : OpenClaim := { program := "ytppahcjpffbkbaa", sum := "08c544b9891781e125b69f23066c5023f79a90f73926aca392a7b2ae24a58a5d", func := "assayer/assayerlaw6.GenNoughts", spec := "genNoughts", unfollowed := true, recurses := true, loops := true, apart := false }
def GenNoughtsSaid : Prop := genNoughtsRow.holds Try.pinned (OpenSpec.ofChange genNoughtsSpec)

/-- ITS FALSE NEIGHBOUR: 'it returns false'. Refute it at one input. -/
def genNoughtsWrong : ChangeSpec := { name := "genNoughts", fn := fun _ => fun
  | [d1, d2] => { results := [.lit (.bool false)], args := [d1, d2] }
  | _ => none }
def GenNoughtsWrongFalsely : Prop := genNoughtsRow.holds Try.pinned (OpenSpec.ofChange genNoughtsWrong)

/- THE SECOND FORM. 'bulk': how many values and letters a reading holds, each counted each time it is reached (what is shared counts as often as it is met; a slice's spare places count too). A statement '..UptoSaid' is the law's where the arguments, and the package variables that the reading takes, are together of bulk at most 1048576: NARROWER than '..Said'. Prove '..Said' where nothing that the law and all that it calls make is longer than what came in: it says more and counts as full. Else prove '..UptoSaid'. A law counts once. -/
mutual
def uptoBulk {H : Type} : DataW H → Nat
  | .lit (.string bytes) => bytes.length + 1
  | .lit _ => 1
  | .nil => 1
  | .ptr d => uptoBulk d + 1
  | .slice elems spare => uptoBulkAll elems + uptoBulkAll spare + 1
  | .agg parts => uptoBulkAll parts + 1
  | .iface _ d => uptoBulk d + 1
  | .map entries => uptoBulkEntries entries + 1
  | .held _ => 1
def uptoBulkAll {H : Type} : List (DataW H) → Nat
  | [] => 0
  | d :: r => uptoBulk d + uptoBulkAll r
def uptoBulkEntries {H : Type} : List (Lit × DataW H) → Nat
  | [] => 0
  | x :: r => uptoBulkEntry x + uptoBulkEntries r
def uptoBulkEntry {H : Type} : Lit × DataW H → Nat
  | (.string bytes, d) => bytes.length + uptoBulk d + 1
  | (_, d) => uptoBulk d + 1
 end
def uptoSmall : (H : Type) → List (DataW H) → Bool := fun _ ds => decide (uptoBulkAll ds ≤ 1048576)
def OpenSpec.upto (s : _root_.Go.ChangeSpec) : _root_.Go.OpenSpec := { _root_.Go.OpenSpec.ofChange s with cond := some uptoSmall }

/-- 'assayerlaw1.GenDraws', WHERE WHAT IT READS IS OF BULK AT MOST 1048576: true; the input reads as it did. -/
def genDrawsUptoRow : OpenClaim := { program := "ytppahcjpffbkbaa", sum := "08c544b9891781e125b69f23066c5023f79a90f73926aca392a7b2ae24a58a5d", func := "assayer/assayerlaw1.GenDraws", spec := "genDraws", unfollowed := true, recurses := true, loops := true, apart := false, narrowed := true }
def GenDrawsUptoSaid : Prop := genDrawsUptoRow.holds Try.pinned (OpenSpec.upto genDrawsSpec)

/-- 'assayerlaw1.GenMends', WHERE WHAT IT READS IS OF BULK AT MOST 1048576: true; the input reads as it did. -/
def genMendsUptoRow : OpenClaim := { program := "ytppahcjpffbkbaa", sum := "08c544b9891781e125b69f23066c5023f79a90f73926aca392a7b2ae24a58a5d", func := "assayer/assayerlaw1.GenMends", spec := "genMends", unfollowed := true, recurses := true, loops := true, apart := false, narrowed := true }
def GenMendsUptoSaid : Prop := genMendsUptoRow.holds Try.pinned (OpenSpec.upto genMendsSpec)

/-- 'assayerlaw1.GenCounts', WHERE WHAT IT READS IS OF BULK AT MOST 1048576: true; the input reads as it did. -/
def genCountsUptoRow : OpenClaim := { program := "ytppahcjpffbkbaa", sum := "08c544b9891781e125b69f23066c5023f79a90f73926aca392a7b2ae24a58a5d", func := "assayer/assayerlaw1.GenCounts", spec := "genCounts", unfollowed := true, recurses := true, loops := true, apart := false, narrowed := true }
def GenCountsUptoSaid : Prop := genCountsUptoRow.holds Try.pinned (OpenSpec.upto genCountsSpec)

/-- 'assayerlaw6.GenNoughts', WHERE WHAT IT READS IS OF BULK AT MOST 1048576: true; the input reads as it did. -/
def genNoughtsUptoRow : OpenClaim := { program := "ytppahcjpffbkbaa", sum := "08c544b9891781e125b69f23066c5023f79a90f73926aca392a7b2ae24a58a5d", func := "assayer/assayerlaw6.GenNoughts", spec := "genNoughts", unfollowed := true, recurses := true, loops := true, apart := false, narrowed := true }
def GenNoughtsUptoSaid : Prop := genNoughtsUptoRow.holds Try.pinned (OpenSpec.upto genNoughtsSpec)

end Rows
end Go.Proofs.Ytppahcjpffbkbaa
