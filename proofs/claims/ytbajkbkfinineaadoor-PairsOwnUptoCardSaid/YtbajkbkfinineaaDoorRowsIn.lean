/- A list of lists of numbers that came in. Conditions: none. -/
import Derived.Test.YtbajkbkfinineaaDoorGrid
namespace Go.Proofs.YtbajkbkfinineaaDoor.Ints
open Go.RowKit Go.WideShapes Go.ChangeShapes
set_option linter.unusedVariables false

/-- how many parts they hold -/
def partsR (zs : List (List Int)) : Nat := (zs.map fun z => z.length + 1).sum
theorem parts_len (zs : List (List Int)) : zs.length ≤ partsR zs := by
  induction zs with
  | nil => simp [partsR]
  | cons z r ih => simp only [partsR, List.map_cons, List.sum_cons, List.length_cons] at ih ⊢; omega
theorem parts_each : ∀ {zs : List (List Int)} {z : List Int}, z ∈ zs → z.length + 1 ≤ partsR zs
  | y :: r, z, h => by
    simp only [partsR, List.map_cons, List.sum_cons]
    rcases List.mem_cons.1 h with rfl | h
    · omega
    · have := parts_each h
      simp only [partsR] at this
      omega
theorem parts_bulk {H : Type} (f : Nat → List Int) : ∀ (ds : List (DataW H)) (k : Nat), (∀ i (h : i < ds.length), (f (k + i)).length + 1 ≤ Rows.uptoBulk ds[i]) → partsR ((List.range' k ds.length).map f) ≤ Rows.uptoBulkAll ds
  | [], k, _ => by simp [partsR, Rows.uptoBulkAll]
  | d :: ds, k, h => by
    have h0 := h 0 (by simp)
    have ih := parts_bulk f ds (k + 1) (fun i hi => by
      have := h (i + 1) (by simpa using hi)
      simp only [List.getElem_cons_succ] at this
      rw [show k + 1 + i = k + (i + 1) by omega]
      exact this)
    simp only [Nat.add_zero, List.getElem_cons_zero] at h0
    simp only [List.length_cons, List.range'_succ, List.map_cons, partsR, List.sum_cons, Rows.uptoBulkAll] at ih ⊢
    omega
set_option maxRecDepth 100000 in
theorem cellsRow : Tryd.prog.cellsOf 22 = 1 := by kernel_rfl
set_option maxRecDepth 100000 in
theorem read_list {H : Type} {enc : TypeId × Value → H} {w : World} {base : Nat} {spare : Nat → Bool} {held : Bool} {fuel : Nat} {cs : List Value} {x : DataW H × List MemPlace} (hf : DataW.trod enc Tryd.prog w base spare held fuel 22 cs = some x) :
    ∃ (A : Option Addr) (l : List Int) (c : Nat), cs = [.slice A l.length c] ∧ At w w.heap.size A l ∧ l.length + 1 ≤ Rows.uptoBulk x.1 ∧ (∀ n ∈ l, (Lit.int .i64 n).wf = true) ∧ l.length ≤ c := by
  rcases open_ints Tryd.underlying22 Tryd.underlying3 cellsInt hf with ⟨hcs, hx⟩ | ⟨a, len', cap', zs, hcs, _, hl, hm, hz, hx, hcell, hwz⟩
  · subst hcs hx
    exact ⟨none, [], 0, rfl, At.nil, by simp [Rows.uptoBulk], by simp, Nat.le_refl _⟩
  · subst hcs hx
    have hlen : (zs.take len').length = len' := by
      rw [List.length_take]
      split at hz <;> omega
    refine ⟨some a, zs.take len', cap', by rw [hlen], fun hp => ?_, ?_, fun n hn => hwz n (List.mem_of_mem_take hn), by rw [hlen]; exact hl⟩
    · rw [hlen] at hp
      obtain ⟨b, off, rfl, hc⟩ := ints_at hcell (by split at hz <;> omega)
      have hc0 := hc 0 (by split at hz <;> omega)
      refine ⟨b, off, rfl, ?_, fun j hj => ?_⟩
      · rcases Nat.lt_or_ge b w.heap.size with h | h
        · exact h
        · simp [World.cell?, Array.getElem?_eq_none h] at hc0
      · rw [hlen] at hj
        rw [hc j (by split at hz <;> omega)]
        simp [List.getD, hj]
    · simp only [Rows.uptoBulk, bulk_lits, hlen]
      omega
set_option maxRecDepth 100000 in
theorem open_rows {H : Type} {enc : TypeId × Value → H} {w : World} {base : Nat} {r : Reach} {b0 : Nat} {spare : Nat → Bool} {held : Bool} {v : Value} {d : DataW H} {ps : List MemPlace}
    (hval : Value.okWide Tryd.prog w r b0 23 v) (hd : DataW.Trod enc Tryd.prog w base spare held 23 v d ps) :
    ∃ (A : Option Addr) (zs : List (List Int)) (c : Nat), v = .slice A zs.length c ∧ RowsAt w w.heap.size A zs ∧ partsR zs ≤ Rows.uptoBulk d ∧ zs.length ≤ c := by
  obtain ⟨a0, len0, cap0, rfl⟩ := okWide_slice Tryd.underlying23 hval
  obtain ⟨fuel, hf⟩ := hd
  rcases DataW.trod_slice Tryd.underlying23 hf with ⟨hcs, hx⟩ | ⟨a, len, cap, elems, rest, n', rfl, hcs, hx, _, hcap, _, hel, hat, _, _⟩
  · simp [Value.cells] at hcs
    obtain ⟨rfl, rfl, rfl⟩ := hcs
    exact ⟨none, [], 0, rfl, fun h => by simp at h, by simp [partsR], Nat.le_refl _⟩
  · simp [Value.cells] at hcs
    obtain ⟨rfl, rfl, rfl⟩ := hcs
    simp only [Prod.mk.injEq] at hx
    obtain ⟨rfl, rfl⟩ := hx
    have each : ∀ i, i < len0 → ∃ z : List Int, ∃ (D : Option Addr) (e : Nat), w.cells? base (a.add i) 1 = some [.slice D z.length e] ∧ At w w.heap.size D z ∧ z.length ≤ e ∧ ∀ (hi : i < elems.length), z.length + 1 ≤ Rows.uptoBulk (elems[i]'hi).1 := by
      intro i hi
      have h1 := hat i hi
      rw [cellsRow, Nat.mul_one] at h1
      have hi' : i < elems.length := by omega
      rw [List.getElem?_eq_getElem hi'] at h1
      obtain ⟨cs', hc, ht⟩ := Option.bind_eq_some_iff.1 h1
      obtain ⟨D, z, e, rfl, h2, h3, _, h4⟩ := read_list ht
      exact ⟨z, D, e, hc, h2, h4, fun _ => h3⟩
    obtain ⟨f, hfx⟩ := Go.Deep.choose_lt each
    refine ⟨some a, (List.range' 0 len0).map f, cap0, by simp, fun hp => ?_, ?_, by simpa using hcap⟩
    · have hp' : 0 < len0 := by simpa using hp
      obtain ⟨b, off, spot⟩ := a
      have hcell : ∀ i (hi : i < len0), ∃ D e, w.cell? ((⟨b, off, spot⟩ : Addr).add i) = some (.slice D (f i).length e) ∧ At w w.heap.size D (f i) ∧ (f i).length ≤ e := by
        intro i hi
        obtain ⟨D, e, hc, h2, h4, _⟩ := hfx i hi
        exact ⟨D, e, cell_of_cells?_one hc, h2, h4⟩
      have hspot : spot = none := by
        obtain ⟨D, e, hu, _⟩ := hcell 0 hp'
        simpa [Addr.add] using World.cell?_spot hu
      subst hspot
      refine ⟨b, off, rfl, ?_, fun j hj => ?_⟩
      · obtain ⟨D, e, hu, _⟩ := hcell 0 hp'
        exact World.block_lt_of_cell? _ _ (by simpa [Addr.add] using hu)
      · have hj' : j < len0 := by simpa using hj
        obtain ⟨D, e, hu, h2, h4⟩ := hcell j hj'
        rw [Go.WideShapes.add_plain] at hu
        have ee : ((List.range' 0 len0).map f)[j]'hj = f j := by simp
        rw [ee]
        exact ⟨D, e, hu, h4, h2⟩
    · simp only [Rows.uptoBulk]
      have := parts_bulk f (elems.map (·.1)) 0 (fun i hi => by
        have hi' : i < elems.length := by simpa using hi
        obtain ⟨_, _, _, _, _, hs⟩ := hfx i (by omega)
        have := hs hi'
        simpa using this)
      rw [List.length_map, hel] at this
      omega
end Go.Proofs.YtbajkbkfinineaaDoor.Ints
