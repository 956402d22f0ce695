/- Boundary values: what Edges and Parts tell. Contracts; no program. -/
import Derived.Test.YteaicmjihckbjaaBoundL
import Derived.Test.YteaicmjihckbjaaPartsL
import Derived.Test.YteaicmjihckbjaaArr
import Derived.Test.YteaicmjihckbjaaErr
namespace Go.Proofs.Yteaicmjihckbjaa.Bnd
open Go.RowKit Ints Vals Arr
set_option linter.unusedVariables false

def RightB (low high : Int) : Prop := low ≤ high ∧ -1073741824 ≤ low ∧ high ≤ 1073741824
instance (low high : Int) : Decidable (RightB low high) := by unfold RightB; exact inferInstance
def edE (low high : Int) : Int := if RightB low high then 0 else 1
def edV (low high : Int) : List Int := if RightB low high then edgesL low high else []
def PartB (low high n : Int) : Prop := RightB low high ∧ 1 ≤ n ∧ n ≤ high - low + 1 ∧ n ≤ 1000
instance (low high n : Int) : Decidable (PartB low high n) := by unfold PartB; exact inferInstance
def pcL (low : Int) (m n : Nat) : List (Int × Int) := (List.range n).map fun i => (fromI low m n i, toI low m n i)
def paE (low high n : Int) : Int := if PartB low high n then 0 else 1
def paV (low high n : Int) : List (Int × Int) := if PartB low high n then pcL low (high - low + 1).toNat n.toNat else []
theorem pc_len (low : Int) (m n : Nat) : (pcL low m n).length = n := by unfold pcL; simp
theorem pc_get (low : Int) (m n i : Nat) (h : i < (pcL low m n).length) : (pcL low m n)[i] = (fromI low m n i, toI low m n i) := by
  have e : (pcL low m n)[i]? = some (fromI low m n i, toI low m n i) := by
    rw [pc_len] at h
    unfold pcL
    rw [List.getElem?_map, List.getElem?_range h]
    rfl
  rw [List.getElem?_eq_getElem h] at e
  injection e
def two (p : Int × Int) : List Value := [.int .i64 p.1, .int .i64 p.2]
theorem even_two : Even 2 two := ⟨by omega, fun x => ⟨rfl, fun u hu => by
  unfold two at hu
  simp only [List.mem_cons, List.not_mem_nil, or_false] at hu
  rcases hu with rfl | rfl <;> rfl⟩⟩
/-- the cells of a piece -/
theorem two_cells {w : World} {S : Nat → Prop} {A : Option Addr} {zs : List (Int × Int)} (h : AtE 2 two w S A zs) (j : Nat) (hj : j < zs.length) : ∃ b off, A = some ⟨b, off, none⟩ ∧ w.cell? ⟨b, off + j * 2, none⟩ = some (.int .i64 zs[j].1) ∧ w.cell? ⟨b, off + j * 2 + 1, none⟩ = some (.int .i64 zs[j].2) := by
  obtain ⟨b, off, e, _, hc⟩ := h (by omega)
  exact ⟨b, off, e, hc j hj 0 (by omega), hc j hj 1 (by omega)⟩
/-- what Edges tells -/
def EdPost (z : List Int) (q : Int) (w : World) (e : Ending) (w' : World) : Prop :=
  ∃ (A : Option Addr) (c : Nat), e = .returned (.tuple #[.slice A z.length c, errOf q]) ∧ Own w' w.heap.size A c z ∧ Below w.heap.size w w'
/-- what Parts tells -/
def PaPost (z : List (Int × Int)) (q : Int) (w : World) (e : Ending) (w' : World) : Prop :=
  ∃ (A : Option Addr) (c : Nat), e = .returned (.tuple #[.slice A z.length c, errOf q]) ∧ AtE 2 two w' (fun b => w.heap.size ≤ b ∧ b < w'.heap.size) A z ∧ Below w.heap.size w w'
end Go.Proofs.Yteaicmjihckbjaa.Bnd
