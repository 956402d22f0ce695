/- Generators as trees. No program. -/
import Derived.Test.YtfpbegagblekiaaBase
namespace Go.Proofs.Ytfpbegagblekiaa.Gens
set_option linter.unusedVariables false

inductive Gn where
  | node (kind a b : Int) (subs : List Gn)
instance instGn : Inhabited Gn := ⟨.node 0 0 0 []⟩
def Gn.kind : Gn → Int | .node k _ _ _ => k
def Gn.a : Gn → Int | .node _ a _ _ => a
def Gn.b : Gn → Int | .node _ _ b _ => b
def Gn.subs : Gn → List Gn | .node _ _ _ s => s
mutual
def Gn.size : Gn → Nat
  | .node _ _ _ i => 1 + gsizes i
def gsizes : List Gn → Nat
  | [] => 0
  | t :: r => t.size + gsizes r
end
end Go.Proofs.Ytfpbegagblekiaa.Gens
