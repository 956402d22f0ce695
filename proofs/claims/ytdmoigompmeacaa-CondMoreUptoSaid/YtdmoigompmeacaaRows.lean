/-
  No cell of these rows narrows 'for every input' (looked for: loops, veiled, ifaces, maps, wideKeys, modest, calm, conditions, laid).
  DERIVED. THE GIVEN ROWS OF THIS SEAT. 3 by the template 'for every input the law returns true; each argument reads behind the call as it read before'; 0 by the template 'total and deterministic' (their statements: YtdmoigompmeacaaTotals.lean).
  GIVEN WITH THE SEED: the statements are not yours to turn. If you find one false, say at which input.
  Laid BY PROGRAM, IN A SANDBOX (cutbox-rows.mjs): the forced cells as the released guide's own fill.sh prints them over the translation efea5262c171219e… (all of the seat's roots in one cut). By AI agents, Wed Nov 11 2026. No macro, syntax, notation, axiom, sorry.
-/
import Derived.Test.YtdmoigompmeacaaChecked
import GoSem.Claim
import GoSem.ClaimJoined
import GoSem.ClaimMapViews
import Derived.JoinedTies
import Derived.KernelRfl
namespace Go.Proofs.Ytdmoigompmeacaa
/- THE CELL 'sum', in the pinned program and in every row, IS THE sha256 OF THE DUMP (.gsa) THAT YtdmoigompmeacaaProg.lean LOADS. Nothing in Lean hashes anything: it is a label: what it is worth is what the hold of that sum in a sandbox is worth. -/
noncomputable def Try.pinned : Pinned := { name := "ytdmoigompmeacaa", sum := "efea5262c171219e5697f7970a4b2b81c6c1bb79074a77e6af6e911ea7488a9a", checked := Try.checked }
namespace Rows
def none {H : Type} : Left H := { results := [], args := [] }

/-- 'assayerlaw2.CondTests': WHATEVER THE INPUT: true; the input reads as it did. -/
def condTestsSpec : ChangeSpec := { name := "condTests", fn := fun _ => fun
  | [d1, d2] => { results := [.lit (.bool true)], args := [d1, d2] }
  | _ => none }
def condTestsRow : OpenClaim := { program := "ytdmoigompmeacaa", sum := "efea5262c171219e5697f7970a4b2b81c6c1bb79074a77e6af6e911ea7488a9a", func := "assayer/assayerlaw2.CondTests", spec := "condTests", unfollowed := true, recurses := true, apart := false }
def CondTestsSaid : Prop := condTestsRow.holds Try.pinned (OpenSpec.ofChange condTestsSpec)

/-- ITS FALSE NEIGHBOUR: 'it returns false'. Refute it at one input. -/
def condTestsWrong : ChangeSpec := { name := "condTests", fn := fun _ => fun
  | [d1, d2] => { results := [.lit (.bool false)], args := [d1, d2] }
  | _ => none }
def CondTestsWrongFalsely : Prop := condTestsRow.holds Try.pinned (OpenSpec.ofChange condTestsWrong)

/-- 'assayerlaw2.CondMore': WHATEVER THE INPUT: true; the input reads as it did. -/
def condMoreSpec : ChangeSpec := { name := "condMore", fn := fun _ => fun
  | [d1, d2, d3, d4] => { results := [.lit (.bool true)], args := [d1, d2, d3, d4] }
  | _ => none }
def condMoreRow : OpenClaim := { program := "ytdmoigompmeacaa", sum := "efea5262c171219e5697f7970a4b2b81c6c1bb79074a77e6af6e911ea7488a9a", func := "assayer/assayerlaw2.CondMore", spec := "condMore", unfollowed := true, recurses := true, apart := false }
def CondMoreSaid : Prop := condMoreRow.holds Try.pinned (OpenSpec.ofChange condMoreSpec)

/-- ITS FALSE NEIGHBOUR: 'it returns false'. Refute it at one input. -/
def condMoreWrong : ChangeSpec := { name := "condMore", fn := fun _ => fun
  | [d1, d2, d3, d4] => { results := [.lit (.bool false)], args := [d1, d2, d3, d4] }
  | _ => none }
def CondMoreWrongFalsely : Prop := condMoreRow.holds Try.pinned (OpenSpec.ofChange condMoreWrong)

/-- 'assayerlaw6.CondLeast': WHATEVER THE INPUT: true; the input reads as it did. -/
def condLeastSpec : ChangeSpec := { name := "condLeast", fn := fun _ => fun
  | [d1, d2, d3] => { results := [.lit (.bool true)], args := [d1, d2, d3] }
  | _ => none }
def condLeastRow : OpenClaim := { program := "ytdmoigompmeacaa", sum := "efea5262c171219e5697f7970a4b2b81c6c1bb79074a77e6af6e911ea7488a9a", func := "assayer/assayerlaw6.CondLeast", spec := "condLeast", unfollowed := true, recurses := true, apart := false }
def CondLeastSaid : Prop := condLeastRow.holds Try.pinned (OpenSpec.ofChange condLeastSpec)

/-- ITS FALSE NEIGHBOUR: 'it returns false'. Refute it at one input. -/
def condLeastWrong : ChangeSpec := { name := "condLeast", fn := fun _ => fun
  | [d1, d2, d3] => { results := [.lit (.bool false)], args := [d1, d2, d3] }
  | _ => none }
def CondLeastWrongFalsely : Prop := condLeastRow.holds Try.pinned (OpenSpec.ofChange condLeastWrong)

/- THE SECOND FORM. 'bulk': how many values and letters a reading holds, each counted each time it is reached (what is shared counts as often as it is met; a slice's spare places count too). A statement '..UptoSaid' is the law's where the arguments, and the package variables that the reading takes, are together of bulk at most 1048576: NARROWER than '..Said'. Prove '..Said' where nothing that the law and all that it calls make is longer than what came in: it says more and counts as full. Else prove '..UptoSaid'. A law counts once. -/
mutual
def uptoBulk {H : Type} : DataW H → Nat
  | .lit (.string bytes) => bytes.length + 1
  | .lit _ => 1
  | .nil => 1
  | .ptr d => uptoBulk d + 1
  | .slice elems spare => uptoBulkAll elems + uptoBulkAll spare + 1
  | .agg parts => uptoBulkAll parts + 1
  | .iface _ d => uptoBulk d + 1
  | .map entries => uptoBulkEntries entries + 1
  | .held _ => 1
def uptoBulkAll {H : Type} : List (DataW H) → Nat
  | [] => 0
  | d :: r => uptoBulk d + uptoBulkAll r
def uptoBulkEntries {H : Type} : List (Lit × DataW H) → Nat
  | [] => 0
  | x :: r => uptoBulkEntry x + uptoBulkEntries r
def uptoBulkEntry {H : Type} : Lit × DataW H → Nat
  | (.string bytes, d) => bytes.length + uptoBulk d + 1
  | (_, d) => uptoBulk d + 1
 end
def uptoSmall : (H : Type) → List (DataW H) → Bool := fun _ ds => decide (uptoBulkAll ds ≤ 1048576)
def OpenSpec.upto (s : _root_.Go.ChangeSpec) : _root_.Go.OpenSpec := { _root_.Go.OpenSpec.ofChange s with cond := some uptoSmall }

/-- 'assayerlaw2.CondTests', WHERE WHAT IT READS IS OF BULK AT MOST 1048576: true; the input reads as it did. -/
def condTestsUptoRow : OpenClaim := { program := "ytdmoigompmeacaa", sum := "efea5262c171219e5697f7970a4b2b81c6c1bb79074a77e6af6e911ea7488a9a", func := "assayer/assayerlaw2.CondTests", spec := "condTests", unfollowed := true, recurses := true, apart := false, narrowed := true }
def CondTestsUptoSaid : Prop := condTestsUptoRow.holds Try.pinned (OpenSpec.upto condTestsSpec)

/-- 'assayerlaw2.CondMore', WHERE WHAT IT READS IS OF BULK AT MOST 1048576: true; the input reads as it did. -/
def condMoreUptoRow : OpenClaim := { program := "ytdmoigompmeacaa", sum := "efea5262c171219e5697f7970a4b2b81c6c1bb79074a77e6af6e911ea7488a9a", func := "assayer/assayerlaw2.CondMore", spec := "condMore", unfollowed := true, recurses := true, apart := false, narrowed := true }
def CondMoreUptoSaid : Prop := condMoreUptoRow.holds Try.pinned (OpenSpec.upto condMoreSpec)

/-- 'assayerlaw6.CondLeast', WHERE WHAT IT READS IS OF BULK AT MOST 1048576: true; the input reads as it did. -/
def condLeastUptoRow : OpenClaim := { program := "ytdmoigompmeacaa", sum := "efea5262c171219e5697f7970a4b2b81c6c1bb79074a77e6af6e911ea7488a9a", func := "assayer/assayerlaw6.CondLeast", spec := "condLeast", unfollowed := true, recurses := true, apart := false, narrowed := true }
def CondLeastUptoSaid : Prop := condLeastUptoRow.holds Try.pinned (OpenSpec.upto condLeastSpec)

end Rows
end Go.Proofs.Ytdmoigompmeacaa
