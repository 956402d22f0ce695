/- Decisions: what Check, Matters, Pair, Covers and Tests tell. Contracts; no program. -/
import Derived.Test.YtdmoigompmeacaaDoorCondV
import Derived.Test.YtdmoigompmeacaaDoorBools
import Derived.Test.YtdmoigompmeacaaDoorErr
namespace Go.Proofs.YtdmoigompmeacaaDoor.Cnd
open Go.RowKit Ints Vals Bools
set_option linter.unusedVariables false

/-- the results, of any test -/
def fOf (l : List Bool) : Nat → Bool := fun t => l.getD t false
def condE (n : Int) (l : List Bool) : Int := if 1 ≤ n ∧ n ≤ 6 then (if l.length = 2 ^ n.toNat then 0 else 3) else 1
theorem cond_ok {n : Int} {l : List Bool} (h : condE n l = 0) : ∃ m : Nat, n = m ∧ 1 ≤ m ∧ m ≤ 6 ∧ l.length = 2 ^ m := by
  unfold condE at h
  by_cases h1 : 1 ≤ n ∧ n ≤ 6
  · rw [if_pos h1] at h
    by_cases h2 : l.length = 2 ^ n.toNat
    · exact ⟨n.toNat, by omega, by omega, by omega, h2⟩
    · rw [if_neg h2] at h; cases h
  · rw [if_neg h1] at h; cases h
theorem ok_cond {m : Nat} {l : List Bool} (h1 : 1 ≤ m) (h2 : m ≤ 6) (h3 : l.length = 2 ^ m) : condE m l = 0 := by
  unfold condE
  rw [if_pos (by omega), if_pos (by simpa using h3)]
theorem pow_small {m : Nat} (h1 : 1 ≤ m) (h2 : m ≤ 6) : 2 ≤ 2 ^ m ∧ 2 ^ m ≤ 64 := by
  obtain rfl | rfl | rfl | rfl | rfl | rfl : m = 1 ∨ m = 2 ∨ m = 3 ∨ m = 4 ∨ m = 5 ∨ m = 6 := by omega
  all_goals decide
def matE (n : Int) (l : List Bool) (i : Int) : Int := if condE n l = 0 then (if 0 ≤ i ∧ i < n then 0 else 1) else condE n l
/-- the smaller test of the first pair; -1: there is none, or no such condition -/
def parL (n : Int) (l : List Bool) (i : Int) : Int := if matE n l i = 0 then firstP l.length (fOf l) anyB i.toNat else -1
def matV (n : Int) (l : List Bool) (i : Int) : Bool := decide (parL n l i ≠ -1)
def paiE (n : Int) (l : List Bool) (i : Int) : Int := if matE n l i = 0 then (if parL n l i = -1 then 2 else 0) else matE n l i
def paiA (n : Int) (l : List Bool) (i : Int) : Int := if parL n l i = -1 then 0 else parL n l i
def paiB (n : Int) (l : List Bool) (i : Int) : Int := if parL n l i = -1 then 0 else parL n l i + 2 ^ i.toNat
def covE (n : Int) (l : List Bool) (ts : List Int) : Int := if condE n l = 0 then (if ∀ t ∈ ts, 0 ≤ t ∧ t < l.length then 0 else 1) else condE n l
/-- is a test among some? -/
def hasL (ts : List Int) : Nat → Bool := fun t => ts.contains (t : Int)
def covV (n : Int) (l : List Bool) (ts : List Int) : Bool := if covE n l ts = 0 then covB n.toNat (fOf l) (hasL ts) else false
def tesV (n : Int) (l : List Bool) : List Int := if condE n l = 0 then (testsL n.toNat (fOf l)).map Int.ofNat else []
/-- what Matters and Covers tell -/
def MaPost (b : Bool) (q : Int) (w : World) (e : Ending) (w' : World) : Prop := e = .returned (.tuple #[.bool b, errOf q]) ∧ Below w.heap.size w w'
/-- what Pair tells -/
def PrPost (a b q : Int) (w : World) (e : Ending) (w' : World) : Prop := e = .returned (.tuple #[.int .i64 a, .int .i64 b, errOf q]) ∧ Below w.heap.size w w'
/-- what Tests tells -/
def TePost (z : List Int) (q : Int) (w : World) (e : Ending) (w' : World) : Prop :=
  ∃ (A : Option Addr) (c : Nat), e = .returned (.tuple #[.slice A z.length c, errOf q]) ∧ Own w' w.heap.size A c z ∧ Below w.heap.size w w'

/-! tests as numbers -/
theorem nums_small {n : Nat} {T : List Nat} (h : ∀ t ∈ T, t < 2 ^ n) {l : List Bool} (hl : l.length = 2 ^ n) : ∀ t ∈ T.map Int.ofNat, 0 ≤ t ∧ t < l.length := fun t ht => by
  obtain ⟨u, hu, rfl⟩ := List.mem_map.1 ht
  have := h u hu
  exact ⟨Int.natCast_nonneg u, by rw [hl]; exact Int.ofNat_lt.2 this⟩
theorem has_nums {T : List Nat} (t : Nat) : hasL (T.map Int.ofNat) t = true ↔ t ∈ T := by
  unfold hasL
  rw [List.contains_iff_mem, List.mem_map]
  exact ⟨fun ⟨u, hu, e⟩ => by have : u = t := Int.ofNat.inj e; exact this ▸ hu, fun h => ⟨t, h, rfl⟩⟩
theorem covV_iff {m : Nat} {l : List Bool} (h : condE m l = 0) {T : List Nat} (hT : ∀ t ∈ T, t < 2 ^ m) : covE m l (T.map Int.ofNat) = 0 ∧ (covV m l (T.map Int.ofNat) = true ↔ Covers m (fOf l) T) := by
  obtain ⟨m', e, h1, h2, h3⟩ := cond_ok h
  obtain rfl : m' = m := by omega
  have hE : covE m' l (T.map Int.ofNat) = 0 := by unfold covE; rw [if_pos h, if_pos (nums_small hT h3)]
  refine ⟨hE, ?_⟩
  unfold covV
  rw [if_pos hE, covB_iff, Int.toNat_natCast]
  exact covP_covers (fun t _ => has_nums t) hT
end Go.Proofs.YtdmoigompmeacaaDoor.Cnd
