/- The program's isRange and Edges: five numbers, without those outside, sorted, each once (slices.DeleteFunc, Sort, Compact off the shelf). Conditions: none. -/
import Derived.Test.YteaicmjihckbjaaBoundC
import Derived.Test.YteaicmjihckbjaaBoundFive
import Derived.Test.YteaicmjihckbjaaShelf
import Derived.Sort.OwnSortedInts
namespace Go.Proofs.Yteaicmjihckbjaa.Bnd
open Go.RowKit Go.Sort Go.Lib Ints Vals Arr
set_option linter.unusedVariables false

theorem range_ok (low high : Int) (w : World) : Calls Try.prog 9 #[.int .i64 low, .int .i64 high] w fun e w' => e = .returned (.bool (decide (RightB low high))) ∧ w' = w := by
  obtain ⟨r, hr⟩ : ∃ r, r = decide (RightB low high) := ⟨_, rfl⟩
  rw [← hr]
  by_cases h1 : -1073741824 ≤ low
  · by_cases h2 : low ≤ high
    · by_cases h3 : high ≤ 1073741824
      · rw [decide_eq_true (show RightB low high from ⟨h2, h1, h3⟩)] at hr
        subst hr
        go_enter Try.func9, Try.ntmps9
        go_wp2_with fail
        go_ret
        exact ⟨rfl, rfl⟩
      · rw [decide_eq_false (show ¬ RightB low high from fun h => by unfold RightB at h; omega)] at hr
        subst hr
        go_enter Try.func9, Try.ntmps9
        go_wp2_with fail
        go_ret
        exact ⟨rfl, rfl⟩
    · rw [decide_eq_false (show ¬ RightB low high from fun h => by unfold RightB at h; omega)] at hr
      subst hr
      go_enter Try.func9, Try.ntmps9
      go_wp2_with fail
      go_ret
      exact ⟨rfl, rfl⟩
  · rw [decide_eq_false (show ¬ RightB low high from fun h => by unfold RightB at h; omega)] at hr
    subst hr
    go_enter Try.func9, Try.ntmps9
    go_wp2_with fail
    go_ret
    exact ⟨rfl, rfl⟩

/-! a row of at most five -/
theorem new5 (w : World) (o : Obj) : (w.alloc o).heap[w.heap.size]? = some o := by
  show (w.heap.push o)[w.heap.size]? = _
  simp
theorem cell5 {w : World} {b : Nat} {v : Value} (h : w.heap[b]? = some (.cells #[v] 3 (0, 0))) : w.cell? ⟨b, 0, none⟩ = some v := by rw [Lib.cell_of_heap h]; rfl
def R5 (w : World) (g : Nat) (zs : List Int) : Prop := zs.length ≤ 5 ∧ ∃ cur, w.heap[g]? = some (.cells cur 3 (0, 0)) ∧ cur.size = 5 ∧ cur.toList.take zs.length = zs.map (Value.int .i64)
theorem R5.lt {w : World} {g : Nat} {zs : List Int} (h : R5 w g zs) : g < w.heap.size := by
  obtain ⟨_, cur, hb, _⟩ := h
  exact (Array.getElem?_eq_some_iff.1 hb).1
theorem R5.holds {w : World} {g : Nat} {zs : List Int} (h : R5 w g zs) : Holds (Value.int .i64) w g 0 zs.toArray := by
  obtain ⟨_, cur, hb, _, ht⟩ := h
  exact holds_of_blockI hb ht
theorem R5.put {w : World} {g n : Nat} {os : Array Obj} {zs d z2 : List Int} (h : R5 w g zs) (hd : d.length ≤ 5) (hz : z2 = d.take z2.length) (hl : z2.length ≤ d.length) : R5 (grow (putRow (Value.int .i64) (Sort.ahead w n) g 0 d.toArray) os) g z2 := by
  obtain ⟨_, cur, hb, hs, _⟩ := h
  refine ⟨by omega, _, heap_sortedI d.toArray hb, by simp [putCells, hs], ?_⟩
  have e := take_putCellsI cur d (by omega)
  have e2 := congrArg (List.take z2.length) e
  rw [List.take_take, Nat.min_eq_left hl, ← List.map_take, ← hz] at e2
  exact e2
theorem R5.own {w : World} {g base : Nat} {zs : List Int} (h : R5 w g zs) (hb : base ≤ g) : Own w base (some ⟨g, 0, none⟩) 5 zs := by
  obtain ⟨hl, cur, hh, hs, ht⟩ := h
  exact ⟨by simp, .inr ⟨g, 5, cur, rfl, hb, hh, hl, by decide, by rw [hs], by rw [Nat.mul_one]; exact ht⟩⟩

/-! the library's three -/
theorem outside_ok (low high x : Int) (B1 B2 : Nat) (W : World) (h1 : W.cell? ⟨B1, 0, none⟩ = some (.int .i64 low)) (h2 : W.cell? ⟨B2, 0, none⟩ = some (.int .i64 high)) :
    FnGives Try.prog 11 #[.pointer (some ⟨B1, 0, none⟩), .pointer (some ⟨B2, 0, none⟩)] #[.int .i64 x] (.bool (outB low high x)) W := by
  show Calls Try.prog 11 #[.int .i64 x, .pointer (some ⟨B1, 0, none⟩), .pointer (some ⟨B2, 0, none⟩)] W _
  obtain ⟨r, hr⟩ : ∃ r, r = outB low high x := ⟨_, rfl⟩
  rw [← hr]
  unfold outB at hr
  by_cases c1 : x < low
  · rw [decide_eq_true c1, Bool.true_or] at hr
    subst hr
    go_enter Try.func11, Try.ntmps11
    go_wp2_with fail
    go_ret
    exact ⟨rfl, 0, rfl⟩
  · by_cases c2 : high < x
    · rw [decide_eq_true c2, Bool.or_true] at hr
      subst hr
      go_enter Try.func11, Try.ntmps11
      go_wp2_with fail
      go_ret
      exact ⟨rfl, 0, rfl⟩
    · rw [decide_eq_false c1, decide_eq_false c2] at hr
      subst hr
      go_enter Try.func11, Try.ntmps11
      go_wp2_with fail
      go_ret
      exact ⟨rfl, 0, rfl⟩
theorem del_ok (low high : Int) (B1 B2 g : Nat) (zs : List Int) (w : World) (hR : R5 w g zs) (hl : zs.length = 5) (h1 : w.cell? ⟨B1, 0, none⟩ = some (.int .i64 low)) (h2 : w.cell? ⟨B2, 0, none⟩ = some (.int .i64 high)) (l1 : B1 < w.heap.size) (l2 : B2 < w.heap.size) (n1 : B1 ≠ g) (n2 : B2 ≠ g) :
    Calls Try.prog 10 #[.slice (some ⟨g, 0, none⟩) 5 5, .func (.func 11) #[] #[.pointer (some ⟨B1, 0, none⟩), .pointer (some ⟨B2, 0, none⟩)]] w fun e w' => e = .returned (.slice (some ⟨g, 0, none⟩) (zs.filter fun x => !outB low high x).length 5) ∧ R5 w' g (zs.filter fun x => !outB low high x) ∧ w.grownBy w' (some g) := by
  have eg : ∀ args w, (callFunc 11 args).run Try.prog w = .ok (.enter 11 args) w := enters_of Try.func11 (by kernel_rfl) rfl
  have h := Try.slices_DeleteFunc (Value.int .i64) (fun _ => rfl) (outB low high) 11 #[.pointer (some ⟨B1, 0, none⟩), .pointer (some ⟨B2, 0, none⟩)] eg 0 (fun _ => by kernel_rfl) g 0 5 zs.toArray w
    (fun W x hb => outside_ok low high x B1 B2 W ((hb.cell (p := ⟨B1, 0, none⟩) l1).trans h1) ((hb.cell (p := ⟨B2, 0, none⟩) l2).trans h2))
    (fun n os dk x _ => outside_ok low high x B1 B2 _ (by
      unfold sortWorld
      rw [cell?_grow _ _ _ (by show B1 < (putRow _ _ _ _ _).heap.size; rw [size_putRow]; exact l1), cell?_putRow_other _ _ g 0 _ _ (Or.inl n1)]
      exact h1) (by
      unfold sortWorld
      rw [cell?_grow _ _ _ (by show B2 < (putRow _ _ _ _ _).heap.size; rw [size_putRow]; exact l2), cell?_putRow_other _ _ g 0 _ _ (Or.inl n2)]
      exact h2)) hR.holds (by simp; omega) (by simp; omega)
  rw [show zs.toArray.size = 5 by simpa using hl] at h
  simp only [] at h
  have hfl : (zs.filter fun x => !outB low high x).length ≤ 5 := by rw [← hl]; exact List.length_filter_le _ _
  generalize hf : (zs.filter fun x => !outB low high x) = f at h hfl ⊢
  refine h.mono ?_
  rintro e w' ⟨rfl, q, rfl⟩
  refine ⟨rfl, ?_, ?_⟩
  · have := hR.put (n := q) (os := #[]) (d := f ++ List.replicate (5 - f.length) 0) (z2 := f) (by simp; omega) (by simp) (by simp)
    rwa [grow_empty] at this
  · have := grownBy_sortedI (w := w) (g := g) (n := q) (os := #[]) (f ++ List.replicate (5 - f.length) (0 : Int)).toArray
    rwa [grow_empty] at this
theorem sort_ok (g : Nat) (zs : List Int) (w : World) (hR : R5 w g zs) :
    Calls Try.prog 12 #[.slice (some ⟨g, 0, none⟩) zs.length 5] w fun e w' => e = .returned (.tuple #[]) ∧ R5 w' g (sortL zs) ∧ w.grownBy w' (some g) := by
  refine (Try.slices_Sort_int g 0 5 zs w hR.holds hR.lt (by have := hR.1; omega)).mono ?_
  rintro e w' ⟨rfl, n, os, rfl⟩
  refine ⟨rfl, ?_, grownBy_sortedI _⟩
  have hl := sort_len zs
  have h5 := hR.1
  show R5 (grow (putRow _ _ _ _ (sortL zs).toArray) _) _ _
  generalize sortL zs = d at hl ⊢
  exact hR.put (d := d) (by omega) (by simp) (Nat.le_refl _)
theorem once_ok (g : Nat) (zs : List Int) (w : World) (hR : R5 w g zs) :
    Calls Try.prog 13 #[.slice (some ⟨g, 0, none⟩) zs.length 5] w fun e w' => e = .returned (.slice (some ⟨g, 0, none⟩) (onceL zs).length 5) ∧ R5 w' g (onceL zs) ∧ w.grownBy w' (some g) := by
  have h5 := hR.1
  have h := Try.slices_Compact (Value.int .i64) (fun _ => rfl) (EqlAt.intD _ _ _) (NeqAt.intD _ _ _) 0 (fun _ => by kernel_rfl) g 0 5 zs.toArray w hR.holds (by simp; omega) (by simp; omega)
  rw [show zs.toArray.size = zs.length by simp] at h
  rw [show Lib.compactUpTo zs.toArray zs.length = onceL zs from rfl] at h
  have hl := once_len zs
  generalize onceL zs = f at h hl ⊢
  refine h.mono ?_
  rintro e w' ⟨rfl, q, rfl⟩
  refine ⟨rfl, ?_, ?_⟩
  · have := hR.put (n := q) (os := #[]) (d := f ++ List.replicate (zs.length - f.length) 0) (z2 := f) (by simp; omega) (by simp) (by simp)
    rwa [grow_empty] at this
  · have := grownBy_sortedI (w := w) (g := g) (n := q) (os := #[]) (f ++ List.replicate (zs.length - f.length) (0 : Int)).toArray
    rwa [grow_empty] at this

set_option maxHeartbeats 4000000 in
set_option maxRecDepth 100000 in
theorem edges_prog (low high : Int) (w : World) : Calls Try.prog 6 #[.int .i64 low, .int .i64 high] w (EdPost (edV low high) (edE low high) w) := by
  have R := Lib.hid (range_ok low high)
  by_cases hr : RightB low high
  · have hr1 : -1073741824 ≤ low ∧ low ≤ high ∧ high ≤ 1073741824 := ⟨hr.2.1, hr.1, hr.2.2⟩
    have ez : onceL (sortL ((fiveL low high).filter fun x => !outB low high x)) = edV low high := by
      unfold edV
      rw [if_pos hr]
      exact five_edges hr.1
    have eq : edE low high = 0 := if_pos hr
    rw [decide_eq_true hr] at R
    rw [eq]
    have DL := Lib.hid (fun (W : World) h => del_ok low high w.heap.size (w.heap.size + 1) (w.heap.size + 1 + 1) (fiveL low high) W h rfl)
    have EZ := Lib.hid ez
    have RW := Lib.hid (fun (w0 : World) (h : w0.heap.size = w.heap.size + 1 + 1) => show R5 (w0.alloc (.cells #[.int .i64 low, .int .i64 (low + 1), .int .i64 (low + (high - low) / 2), .int .i64 (high - 1), .int .i64 high] 3)) (w.heap.size + 1 + 1) (fiveL low high) from ⟨Nat.le_refl 5, _, by rw [← h]; exact new5 w0 _, rfl, rfl⟩)
    have FV := Lib.hid (show fiveL low high = [low, low + 1, low + (high - low) / 2, high - 1, high] from rfl)
    have q1 : (high - low).tdiv 2 = (high - low) / 2 := Int.tdiv_eq_ediv_of_nonneg (by omega)
    have q2 : -1073741824 ≤ low + (high - low) / 2 ∧ low + (high - low) / 2 ≤ 1073741824 ∧ 0 ≤ (high - low) / 2 ∧ (high - low) / 2 ≤ 1073741824 := by omega
    clear hr ez eq
    go_enter Try.func6, Try.ntmps6
    go_wp2_with fail
    refine (R.out _).mono ?_
    rintro e w1 ⟨rfl, rfl⟩
    clear R
    go_wp2_with fail
    have b0 : Below w.heap.size w (((w.alloc (.cells #[.int .i64 low] 3)).alloc (.cells #[.int .i64 high] 3)).alloc (.cells #[.int .i64 low, .int .i64 (low + 1), .int .i64 (low + (high - low) / 2), .int .i64 (high - 1), .int .i64 high] 3)) :=
      (((Below.refl _ _).alloc (Nat.le_refl _) _).alloc (by simp) _).alloc (by simp; omega) _
    have h0 := RW.out ((w.alloc (.cells #[.int .i64 low] 3)).alloc (.cells #[.int .i64 high] 3)) (by simp)
    have k1 : (((w.alloc (.cells #[.int .i64 low] 3)).alloc (.cells #[.int .i64 high] 3)).alloc (.cells #[.int .i64 low, .int .i64 (low + 1), .int .i64 (low + (high - low) / 2), .int .i64 (high - 1), .int .i64 high] 3)).cell? ⟨w.heap.size, 0, none⟩ = some (.int .i64 low) := by
      rw [World.cell?_alloc_lt _ _ _ (by simp; omega), World.cell?_alloc_lt _ _ _ (by simp)]
      exact cell5 (new5 w _)
    have k2 : (((w.alloc (.cells #[.int .i64 low] 3)).alloc (.cells #[.int .i64 high] 3)).alloc (.cells #[.int .i64 low, .int .i64 (low + 1), .int .i64 (low + (high - low) / 2), .int .i64 (high - 1), .int .i64 high] 3)).cell? ⟨w.heap.size + 1, 0, none⟩ = some (.int .i64 high) := by
      rw [World.cell?_alloc_lt _ _ _ (by simp)]
      have := new5 (w.alloc (.cells #[.int .i64 low] 3)) (.cells #[.int .i64 high] 3)
      rw [World.size_alloc] at this
      exact cell5 this
    have d0 := DL.out (((w.alloc (.cells #[.int .i64 low] 3)).alloc (.cells #[.int .i64 high] 3)).alloc (.cells #[.int .i64 low, .int .i64 (low + 1), .int .i64 (low + (high - low) / 2), .int .i64 (high - 1), .int .i64 high] 3)) h0 k1 k2 (by simp; omega) (by simp) (by omega) (by omega)
    have s0 : w.heap.size + 1 + 1 < (((w.alloc (.cells #[.int .i64 low] 3)).alloc (.cells #[.int .i64 high] 3)).alloc (.cells #[.int .i64 low, .int .i64 (low + 1), .int .i64 (low + (high - low) / 2), .int .i64 (high - 1), .int .i64 high] 3)).heap.size := h0.lt
    have B0 := Lib.hid b0
    have D0 := Lib.hid d0
    have S0 := Lib.hid s0
    clear b0 h0 d0 s0 k1 k2 RW DL
    generalize (((w.alloc (.cells #[.int .i64 low] 3)).alloc (.cells #[.int .i64 high] 3)).alloc (.cells #[.int .i64 low, .int .i64 (low + 1), .int .i64 (low + (high - low) / 2), .int .i64 (high - 1), .int .i64 high] 3)) = W at *
    generalize ((fiveL low high).filter fun x => !outB low high x) = z1 at *
    refine D0.out.mono ?_
    rintro e w1 ⟨rfl, h1, g1⟩
    have B1 := Lib.hid (B0.out.grown g1 B0.out.size (fun k hk => by injection hk with hk; omega))
    have SO := Lib.hid (sort_ok _ z1 w1 h1)
    clear h1 g1 B0 D0
    have L2 := Lib.hid (sort_len z1)
    generalize hz2 : sortL z1 = z2 at *
    clear hz2
    go_wp2_with fail
    refine SO.out.mono ?_
    rintro e w2 ⟨rfl, h2, g2⟩
    have S1 := Lib.hid B1.out.size
    have B2 := Lib.hid (B1.out.grown g2 S1.out (fun k hk => by injection hk with hk; omega))
    have CO := once_ok _ z2 w2 h2
    rw [L2.out, EZ.out] at CO
    have CO := Lib.hid CO
    clear h2 g2 SO B1 EZ L2
    go_wp2_with fail
    refine CO.out.mono ?_
    rintro e w3 ⟨rfl, h3, g3⟩
    have B3 := Lib.hid (B2.out.grown g3 B2.out.size (fun k hk => by injection hk with hk; omega))
    have O3 := Lib.hid (h3.own (base := w.heap.size) (by omega))
    clear h3 g3 CO B2
    go_wp2_with fail
    go_ret2
    exact ⟨_, 5, rfl, O3.out, B3.out⟩
  · have ev : edV low high = [] := if_neg hr
    have eq : edE low high = 1 := if_neg hr
    rw [decide_eq_false hr] at R
    rw [ev, eq]
    clear hr ev eq
    go_enter Try.func6, Try.ntmps6
    go_wp2_with fail
    refine (R.out _).mono ?_
    rintro e w1 ⟨rfl, rfl⟩
    clear R
    go_wp2_with fail
    go_ret2
    exact ⟨none, 0, rfl, Own.none, (Below.refl _ _).alloc (Nat.le_refl _) _ |>.alloc (by simp) _⟩
end Go.Proofs.Yteaicmjihckbjaa.Bnd
