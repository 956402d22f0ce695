/- The program's Tests and Covers (slices.DeleteFunc off the shelf). Conditions: none. -/
import Derived.Test.YtdmoigompmeacaaDoorCondN
import Derived.Test.YtdmoigompmeacaaDoorShelf
import Derived.Sort.OwnSortedInts
namespace Go.Proofs.YtdmoigompmeacaaDoor.Cnd
open Go.RowKit Go.Sort Go.Lib Ints Vals Bools
set_option linter.unusedVariables false

/-- the box p holds a list of marks that lies in another block -/
structure Mb (p g : Nat) (z : List Bool) (c : Nat) (w : World) : Prop where
  box : w.cell? ⟨p, 0, none⟩ = some (.slice (some ⟨g, 0, none⟩) z.length c)
  lie : Lie w g 0 z
theorem not_marked (p g c : Nat) (z : List Bool) (W : World) (h : Mb p g z c W) (hz : z.length ≤ 64) (t : Nat) (ht : t < z.length) :
    FnGives Tryd.prog 29 #[.pointer (some ⟨p, 0, none⟩)] #[.int .i64 t] (.bool (!fOf z t)) W := by
  show Calls Tryd.prog 29 #[.int .i64 t, .pointer (some ⟨p, 0, none⟩)] W _
  have c1 := h.box
  have c2 := h.lie t ht
  rw [Nat.zero_add] at c2
  generalize fOf z t = v at *
  clear h
  generalize z.length = m at *
  go_enter Tryd.func29, Tryd.ntmps29
  go_wp2_with fail
  go_ret
  exact ⟨rfl, 0, rfl⟩

/-! a row of at most N numbers -/
def RN (N : Nat) (w : World) (g : Nat) (zs : List Int) : Prop := zs.length ≤ N ∧ ∃ cur, w.heap[g]? = some (.cells cur 3 (0, 0)) ∧ cur.size = N ∧ cur.toList.take zs.length = zs.map (Value.int .i64)
theorem RN.lt {N : Nat} {w : World} {g : Nat} {zs : List Int} (h : RN N w g zs) : g < w.heap.size := by
  obtain ⟨_, cur, hb, _⟩ := h
  exact (Array.getElem?_eq_some_iff.1 hb).1
theorem RN.holds {N : Nat} {w : World} {g : Nat} {zs : List Int} (h : RN N w g zs) : Holds (Value.int .i64) w g 0 zs.toArray := by
  obtain ⟨_, cur, hb, _, ht⟩ := h
  exact holds_of_blockI hb ht
theorem RN.put {N : Nat} {w : World} {g n : Nat} {os : Array Obj} {zs d z2 : List Int} (h : RN N w g zs) (hd : d.length ≤ N) (hz : z2 = d.take z2.length) (hl : z2.length ≤ d.length) : RN N (grow (putRow (Value.int .i64) (Sort.ahead w n) g 0 d.toArray) os) g z2 := by
  obtain ⟨_, cur, hb, hs, _⟩ := h
  refine ⟨by omega, _, heap_sortedI d.toArray hb, by simp [putCells, hs], ?_⟩
  have e := take_putCellsI cur d (by omega)
  have e2 := congrArg (List.take z2.length) e
  rw [List.take_take, Nat.min_eq_left hl, ← List.map_take, ← hz] at e2
  exact e2
theorem RN.own {N : Nat} {w : World} {g base : Nat} {zs : List Int} (h : RN N w g zs) (hb : base ≤ g) (hN : N ≤ 64) : Own w base (some ⟨g, 0, none⟩) N zs := by
  obtain ⟨hl, cur, hh, hs, ht⟩ := h
  exact ⟨by simp, .inr ⟨g, N, cur, rfl, hb, hh, hl, by simp only [maxLen]; omega, by rw [hs, Nat.mul_one], by rw [Nat.mul_one]; exact ht⟩⟩
theorem RN.kept {N : Nat} {w w' : World} {g : Nat} {zs : List Int} {row : Option Nat} (h : RN N w g zs) (hg : w.grownBy w' row) (hne : some g ≠ row) : RN N w' g zs := by
  have hlt := h.lt
  obtain ⟨hl, cur, hh, r⟩ := h
  exact ⟨hl, cur, (hg.block g hlt hne).trans hh, r⟩

/-! numbers below N, told one by one -/
def encF (N : Nat) (x : Fin N) : Value := .int .i64 (x.val : Int)
theorem put_nums {N : Nat} [Inhabited (Fin N)] (off : Nat) (d : Array (Fin N)) (c : Array Value) : putCells (encF N) off d c = putCells (Value.int .i64) off (d.map fun x => (x.val : Int)) c := by
  unfold putCells
  apply Array.ext'
  simp only [Array.toList_mapIdx, Array.size_map]
  apply List.ext_getElem
  · simp
  · intro i h1 h2
    simp only [List.getElem_mapIdx]
    by_cases h : off ≤ i ∧ i < off + d.size
    · rw [if_pos h, if_pos h]
      have hk : i - off < d.size := by omega
      rw [getElem!_pos d _ hk, getElem!_pos _ _ (by simpa using hk)]
      simp [encF]
    · rw [if_neg h, if_neg h]
theorem put_row {N : Nat} [Inhabited (Fin N)] (w : World) (b off : Nat) (d : Array (Fin N)) : putRow (encF N) w b off d = putRow (Value.int .i64) w b off (d.map fun x => (x.val : Int)) := by
  unfold putRow
  congr 1
  funext c
  exact put_nums off d c
theorem fin_nums (N : Nat) : (List.finRange N).map (fun x => (x.val : Int)) = (List.range N).map Int.ofNat := by
  apply List.ext_getElem
  · simp
  · intro i h1 h2; simp
theorem fin_filter (N : Nat) (H : Nat → Bool) : ((List.finRange N).filter fun x => H x.val).map (fun x => (x.val : Int)) = ((List.range N).filter H).map Int.ofNat := by
  have h : (List.range N) = (List.finRange N).map (fun x => x.val) := by
    apply List.ext_getElem
    · simp
    · intro i h1 h2; simp
  rw [h, List.filter_map, List.map_map]
  rfl
theorem some_zero {N : Nat} (h : 0 < N) : ∃ _ : Inhabited (Fin N), True := ⟨⟨⟨0, h⟩⟩, trivial⟩

set_option maxHeartbeats 1000000 in
theorem delete_ok {N : Nat} (h0 : 0 < N) (h64 : N ≤ 64) (p g2 c : Nat) (z : List Bool) (hz : z.length = N) (g : Nat) (w : World) (hR : RN N w g ((List.range N).map Int.ofNat)) (h : Mb p g2 z c w) (lp : p < w.heap.size) (l2 : g2 < w.heap.size) (np : p ≠ g) (n2 : g2 ≠ g) :
    Calls Tryd.prog 28 #[.slice (some ⟨g, 0, none⟩) N N, .func (.func 29) #[] #[.pointer (some ⟨p, 0, none⟩)]] w fun e w' => e = .returned (.slice (some ⟨g, 0, none⟩) (((List.range N).filter (fOf z)).map Int.ofNat).length N) ∧ RN N w' g (((List.range N).filter (fOf z)).map Int.ofNat) ∧ w.grownBy w' (some g) := by
  have eg : ∀ args w, (callFunc 29 args).run Tryd.prog w = .ok (.enter 29 args) w := enters_of Tryd.func29 (by kernel_rfl) rfl
  obtain ⟨inst, _⟩ := some_zero h0
  have hsz : (List.finRange N).toArray.size = N := by simp
  have hp : PredAt Tryd.prog 29 #[.pointer (some ⟨p, 0, none⟩)] (encF N) (fun x => !fOf z x.val) w := fun W x hb =>
    not_marked p g2 c z W ⟨(hb.cell (p := ⟨p, 0, none⟩) lp).trans h.box, h.lie.below hb l2⟩ (by omega) x.val (by rw [hz]; exact x.isLt)
  have hpo : PredOver Tryd.prog 29 #[.pointer (some ⟨p, 0, none⟩)] (encF N) (fun x => !fOf z x.val) g 0 (List.finRange N).toArray.size w := fun n os dk x _ => by
    have hk : ∀ b o, b < w.heap.size → b ≠ g → (sortWorld (encF N) w g 0 n dk os).cell? ⟨b, o, none⟩ = w.cell? ⟨b, o, none⟩ := fun b o hb hne => by
      unfold sortWorld
      rw [cell?_grow _ _ _ (by show b < (putRow _ _ _ _ _).heap.size; rw [size_putRow]; exact hb), cell?_putRow_other _ _ g 0 _ _ (Or.inl hne)]
      rfl
    exact not_marked p g2 c z _ ⟨(hk p 0 lp np).trans h.box, fun j hj => (hk g2 _ l2 n2).trans (h.lie j hj)⟩ (by omega) x.val (by rw [hz]; exact x.isLt)
  have hH : Holds (encF N) w g 0 (List.finRange N).toArray := fun j hj => by
    have := hR.holds j (by simpa using hj)
    rw [hsz] at hj
    refine ⟨this.1.trans ?_, this.2⟩
    rw [getElem!_pos _ _ (by simpa using hj), getElem!_pos _ _ (by simpa using hj)]
    simp [encF]
  have hd := Tryd.slices_DeleteFunc (encF N) (fun _ => rfl) (fun x => !fOf z x.val) 29 #[.pointer (some ⟨p, 0, none⟩)] eg ⟨0, h0⟩ (fun _ => by kernel_rfl) g 0 N (List.finRange N).toArray w hp hpo hH (by omega) (by omega)
  rw [hsz] at hd
  have hf : ((List.finRange N).toArray.toList.filter fun x => !!fOf z x.val) = (List.finRange N).filter fun x => fOf z x.val := by
    show ((List.finRange N).filter fun x => !!fOf z x.val) = _
    congr 1
    funext x
    rw [Bool.not_not]
  simp only [hf] at hd
  have hm := fin_filter N (fOf z)
  have hfl : ((List.finRange N).filter fun x => fOf z x.val).length ≤ N := by
    have := List.length_filter_le (fun x : Fin N => fOf z x.val) (List.finRange N)
    rwa [List.length_finRange] at this
  generalize ((List.finRange N).filter fun x => fOf z x.val) = f at *
  rw [← hm, List.length_map]
  refine hd.mono ?_
  rintro e w' ⟨rfl, q, rfl⟩
  rw [put_row]
  have hd2 : ((f ++ List.replicate (N - f.length) (⟨0, h0⟩ : Fin N)).toArray.map fun x => (x.val : Int)) = (f.map (fun x => (x.val : Int)) ++ List.replicate (N - f.length) (0 : Int)).toArray := by
    simp
  rw [hd2]
  refine ⟨rfl, ?_, ?_⟩
  · have := hR.put (n := q) (os := #[]) (d := f.map (fun x => (x.val : Int)) ++ List.replicate (N - f.length) 0) (z2 := f.map fun x => (x.val : Int)) (by simp; omega) (by simp) (by simp)
    rwa [grow_empty] at this
  · have := grownBy_sortedI (w := w) (g := g) (n := q) (os := #[]) (f.map (fun x => (x.val : Int)) ++ List.replicate (N - f.length) (0 : Int)).toArray
    rwa [grow_empty] at this
end Go.Proofs.YtdmoigompmeacaaDoor.Cnd
