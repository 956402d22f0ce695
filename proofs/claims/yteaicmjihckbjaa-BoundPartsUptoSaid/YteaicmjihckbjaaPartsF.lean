/- What Parts tells, apart from a statement; its cells. No program. -/
import Derived.Test.YteaicmjihckbjaaBoundC
namespace Go.Proofs.Yteaicmjihckbjaa.Bnd
open Go.RowKit Ints Vals Arr
set_option linter.unusedVariables false

theorem pa_fact : paE 1 9 2 = 0 ∧ (paV 1 9 2).length = 2 := by decide
theorem pa_ok {low high n : Int} (h : paE low high n = 0) : ∃ m N : Nat, n = N ∧ (m : Int) = high - low + 1 ∧ 1 ≤ N ∧ N ≤ m ∧ N ≤ 1000 ∧ RightB low high ∧ paV low high n = pcL low m N := by
  unfold paE at h
  by_cases hr : PartB low high n
  · obtain ⟨h1, h2, h3, h4⟩ := hr
    have h5 := h1.1
    refine ⟨(high - low + 1).toNat, n.toNat, by omega, by omega, by omega, by omega, by omega, h1, ?_⟩
    unfold paV
    rw [if_pos ⟨h1, h2, h3, h4⟩]
  · rw [if_neg hr] at h; cases h
theorem pa_no {low high n : Int} (h : ¬ paE low high n = 0) : paV low high n = [] ∧ ¬ PartB low high n := by
  unfold paE at h
  unfold paV
  by_cases hr : PartB low high n
  · rw [if_pos hr] at h; exact absurd rfl h
  · rw [if_neg hr]; exact ⟨rfl, hr⟩
theorem pieces_cells {w : World} {S : Nat → Prop} {A : Option Addr} {low : Int} {m N : Nat} (h : AtE 2 two w S A (pcL low m N)) (hN : 0 < N) : ∃ b off, A = some ⟨b, off, none⟩ ∧ S b ∧ ∀ j, j < N → w.cell? ⟨b, off + j * 2, none⟩ = some (.int .i64 (fromI low m N j)) ∧ w.cell? ⟨b, off + j * 2 + 1, none⟩ = some (.int .i64 (toI low m N j)) := by
  obtain ⟨b, off, e, hS, hc⟩ := h (by rw [pc_len]; exact hN)
  refine ⟨b, off, e, hS, fun j hj => ?_⟩
  have hj' : j < (pcL low m N).length := by rw [pc_len]; exact hj
  have h0 := hc j hj' 0 (by omega)
  have h1 := hc j hj' 1 (by omega)
  rw [pc_get] at h0 h1
  exact ⟨h0, h1⟩
/-- what Parts tells, with cells that are known -/
def PcAt (low : Int) (m N : Nat) (A : Option Addr) (w : World) : Prop := ∃ b off, A = some ⟨b, off, none⟩ ∧ b < w.heap.size ∧ ∀ j, j < N → w.cell? ⟨b, off + j * 2, none⟩ = some (.int .i64 (fromI low m N j)) ∧ w.cell? ⟨b, off + j * 2 + 1, none⟩ = some (.int .i64 (toI low m N j))
theorem PcAt.below {low : Int} {m N : Nat} {A : Option Addr} {w w' : World} (h : PcAt low m N A w) (hb : Below w.heap.size w w') : PcAt low m N A w' := by
  obtain ⟨b, off, e, hlt, hc⟩ := h
  exact ⟨b, off, e, Nat.lt_of_lt_of_le hlt hb.size, fun j hj => ⟨(hb.cell (p := ⟨b, off + j * 2, none⟩) hlt).trans (hc j hj).1, (hb.cell (p := ⟨b, off + j * 2 + 1, none⟩) hlt).trans (hc j hj).2⟩⟩
end Go.Proofs.Yteaicmjihckbjaa.Bnd
