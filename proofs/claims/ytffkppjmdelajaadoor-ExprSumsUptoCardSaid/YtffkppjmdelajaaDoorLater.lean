/- A region that draws its order, whose operations read and whose callees may make memory of their own: one walk in the order of the text, over all worlds that are 'later' than the one in which it begins. -/
import Derived.Test.YtffkppjmdelajaaDoorProg
import Derived.WalkKit
import Derived.BigQuiet
import Derived.WalkSpells
namespace Go.Proofs.YtffkppjmdelajaaDoor.Rng
open Go.RowKit

/-- A world in which all that was there in W is as it was. -/
def Later (W : World) : Type := { w' : World // Below W.heap.size W w' }
def lat {W : World} (n : Later W) : World := n.val
theorem lat_below {W : World} (n : Later W) : Below W.heap.size W (lat n) := n.property
instance laterSome (W : World) : Nonempty (Later W) := ⟨⟨W, Below.refl _ _⟩⟩
theorem lat_cell {W : World} {a : Addr} {v : Value} (h : W.cell? a = some v) (n : Later W) : (lat n).cell? a = some v := cell_later (lat_below n) h

theorem wp_region_later {P : Program} {id : Nat} {Q : Exit → Act → World → Prop} {a : Act} {w : World} {l : List Oper} (hm : P.follows .mixedOrders = true) (hB : Region.lexB .any l.toArray = true)
    (h : wpQuiet P l.toArray (fun w' => ∃ n : Later w, w' = lat n) (fun a' => ∀ w', (∃ n : Later w, w' = lat n) → Q .normal a' w') l a) : (Code.region id l.toArray true).wp P Q a w :=
  wp_region_quiet (C := fun w' => ∃ n : Later w, w' = lat n) hm hB ⟨⟨_, (Below.refl _ _).drew⟩, rfl⟩ (by simpa using h)

theorem later_call {P : Program} {f : FuncId} {args : Array Value} {W : World} {n : Later W} {v : Value}
    (h : Calls P f args (lat n) fun e w' => e = .returned v ∧ Below (lat n).heap.size (lat n) w') : Calls P f args (lat n) fun e w'' => e = .returned v ∧ ∃ m : Later W, w'' = lat m :=
  h.mono fun _ w' ⟨he, hb⟩ => ⟨he, ⟨w', (lat_below n).trans (hb.mono (lat_below n).size)⟩, rfl⟩
theorem later_same {P : Program} {f : FuncId} {args : Array Value} {W : World} {n : Later W} {v : Value}
    (h : Calls P f args (lat n) fun e w' => e = .returned v ∧ lat n = w') : Calls P f args (lat n) fun e w'' => e = .returned v ∧ ∃ m : Later W, w'' = lat m :=
  h.mono fun _ _ ⟨he, hb⟩ => ⟨he, n, hb.symm⟩
end Go.Proofs.YtffkppjmdelajaaDoor.Rng
