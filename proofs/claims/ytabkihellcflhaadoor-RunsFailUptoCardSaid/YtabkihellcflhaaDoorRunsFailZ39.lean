/- RunsFail, part 39 of the proof: The program's with and without (package rose). Conditions: the sizes. -/
import Derived.Test.YtabkihellcflhaaDoorRunsFailZ38
import Derived.Test.YtabkihellcflhaaDoorRunsFailZ23
import Derived.Deep.RegionHeld3
import Derived.IntWalk
/- The program's with and without (package rose). Conditions: the sizes. -/
namespace Go.Proofs.YtabkihellcflhaaDoor.Gens
open Go.RowKit Lists Ints Vals
set_option linter.unusedVariables false

theorem own_rowB {w : World} {base c : Nat} {A : Option Addr} {z : List Int} (h : Own w base A c z) : AtP w (fun b => base ≤ b ∧ b < w.heap.size) A z := fun hp => by
  obtain ⟨b, off, e, hb, hc⟩ := h.at_ hp
  exact ⟨b, off, e, ⟨h.ge b (by rw [e]; rfl), hb⟩, hc⟩
theorem own_stored {w : World} {base c : Nat} {A : Option Addr} {z : List Int} (h : Own w base A c z) (i : Nat) (hi : i < z.length) (x : Int) :
    ∃ g, A = some ⟨g, 0, none⟩ ∧ base ≤ g ∧ g < w.heap.size ∧ w.cell? ⟨g, i, none⟩ = some (.int .i64 (z.getD i 0)) ∧ w.frozen? ⟨g, i, none⟩ = false ∧ Own (w.setCell ⟨g, i, none⟩ (.int .i64 x)) base A c (z.set i x) ∧ w.grownBy (w.setCell ⟨g, i, none⟩ (.int .i64 x)) (some g) := by
  have h0 := h
  unfold Own at h
  rcases h.2 with ⟨he, hn⟩ | ⟨g, cap, cur, he, hb, hh, _⟩
  · omega
  · injection he with e1 e2 e3
    subst e1
    obtain ⟨s1, s2⟩ := h.stored i (.int .i64 x)
    refine ⟨g, rfl, hb, (Array.getElem?_eq_some_iff.1 hh).1, ?_, h.frozenAt i, ?_, s2⟩
    · rw [h.cellAt i (by omega), List.getElem?_map, List.getElem?_eq_getElem hi]
      simp [List.getD, List.getElem?_eq_getElem hi]
    · unfold Own
      rw [List.length_set, List.map_set]
      exact s1

set_option maxHeartbeats 2000000 in
set_option maxRecDepth 100000 in
theorem with_ok {L : Option Addr} {l : List Int} {lc N : Nat} (w : World) (hat : At w N L l) (hN : N ≤ w.heap.size) (hln : l.length ≤ 4294967296) (i : Nat) (hi : i < l.length) (x : Int) :
    Calls Tryd.prog 60 #[.slice L l.length lc, .int .i64 i, .int .i64 x] w (NewL (l.set i x) w) := by
  have C := Lib.hid (clone_ok (lc := lc) w hat hN hln)
  have HL := Lib.hid (show (l.set i x).length = l.length by simp)
  clear hat hN
  go_enter Tryd.func60, Tryd.ntmps60
  go_wp2_with fail
  ((with_reducible refine C.out.mono ?_))
  rintro e w1 ⟨A1, c1, rfl, own1, hb1⟩
  obtain ⟨g, rfl, hg, hlt, k0, k1, own2, g2⟩ := own_stored own1 i hi x
  have O2 := Lib.hid own2
  have B2 := Lib.hid (hb1.grown g2 hb1.size (by intro k hk; cases hk; exact hg))
  clear own1 own2 g2 hb1 C
  go_wp2_with fail
  go_ret
  exact ⟨some ⟨g, 0, none⟩, c1, (by rw [HL.out]; rfl), O2.out, B2.out⟩

theorem rows_two {w : World} {b N : Nat} {D E : Option Addr} {x y : List Int} {d e : Nat} {T : TypeId} (hN : b < N) (h : w.heap[b]? = some (.cells #[.slice D x.length d, .slice E y.length e] T (0, 0))) (hd : x.length ≤ d) (he : y.length ≤ e) (hx : At w N D x) (hy : At w N E y) : RowsAt w N (some ⟨b, 0, none⟩) [x, y] := fun _ =>
  ⟨b, 0, rfl, hN, fun j hj => by
    have hj : j < 2 := hj
    obtain rfl | rfl : j = 0 ∨ j = 1 := by omega
    · exact ⟨D, d, by rw [Lib.cell_of_heap h]; rfl, hd, hx⟩
    · exact ⟨E, e, by rw [Lib.cell_of_heap h]; rfl, he, hy⟩⟩
theorem rs_take {w : World} {N : Nat} {A : Option Addr} {l : List Int} (h : At w N A l) (k : Nat) : At w N A (l.take k) := fun hp => by
  rw [List.length_take] at hp
  obtain ⟨b, o, e, hb, hc⟩ := h (by omega)
  refine ⟨b, o, e, hb, fun j hj => ?_⟩
  rw [List.length_take] at hj
  rw [hc j (by omega)]
  simp [List.getD, show j < k by omega]
theorem rs_drop {w : World} {N b off : Nat} {l : List Int} (h : At w N (some ⟨b, off, none⟩) l) (k : Nat) : At w N (some ⟨b, off + k, none⟩) (l.drop k) := fun hp => by
  rw [List.length_drop] at hp
  obtain ⟨b', o', e, hb, hc⟩ := h (by omega)
  injection e with e
  injection e with e1 e2
  subst e1; subst e2
  refine ⟨b, off + k, rfl, hb, fun j hj => ?_⟩
  rw [List.length_drop] at hj
  have h1 := hc (k + j) (by omega)
  rw [show off + k + j = off + (k + j) by omega, h1]
  simp [List.getD, List.getElem?_drop]

theorem bel_new (w : World) (o : Obj) : Below w.heap.size w (w.alloc o).drew := ((Below.refl _ _).alloc (Nat.le_refl _) _).drew
theorem heap_new3 (w : World) (o : Obj) : (w.alloc o).drew.heap[w.heap.size]? = some o := heap_new2 w o
theorem lt_new (w : World) (o : Obj) : w.heap.size < (w.alloc o).drew.heap.size := by show w.heap.size < (w.alloc o).heap.size; simp
/-- the call in without -/
theorem lack_call (w w' : World) {b off N lc : Nat} {l : List Int} (i : Nat) (hi : i < l.length) (hcap : l.length ≤ lc) (hat : At w N (some ⟨b, off, none⟩) l) (hN : N ≤ w.heap.size) (hln : l.length ≤ 4294967296) (hb : Below w.heap.size w w') (E : Option Addr) (e : Nat) (T : TypeId) (g : Nat) (hg : w.heap.size ≤ g) (hg2 : g < w'.heap.size)
    (hE : E = if lc = i + 1 then some ⟨b, off, none⟩ else some ⟨b, off + (i + 1), none⟩) (he : e = lc - (i + 1)) (h : w'.heap[g]? = some (.cells #[.slice (some ⟨b, off, none⟩) i lc, .slice E (l.length - (i + 1)) e] T (0, 0))) :
    Calls Tryd.prog 71 #[.slice (some ⟨g, 0, none⟩) 2 2] w' fun e w2 => ∃ (A : Option Addr) (c : Nat), e = .returned (.slice A (lackL l i).length c) ∧ Own w2 w.heap.size A c (lackL l i) ∧ Below w.heap.size w w2 := by
  have h1 : (l.take i).length = i := by rw [List.length_take]; omega
  have h2 : (l.drop (i + 1)).length = l.length - (i + 1) := by rw [List.length_drop]
  have hf : [l.take i, l.drop (i + 1)].flatten = lackL l i := by simp [lackL]
  rw [← h2] at h
  have h := (show w'.heap[g]? = some (.cells #[.slice (some ⟨b, off, none⟩) (l.take i).length lc, .slice E (l.drop (i + 1)).length e] T (0, 0)) by rw [h1]; exact h)
  have hw : At w' w'.heap.size (some ⟨b, off, none⟩) l := (hat.below (hb.mono hN)).more (Nat.le_trans hN hb.size)
  have hE' : At w' w'.heap.size E (l.drop (i + 1)) := by
    subst hE
    by_cases hc : lc = i + 1
    · intro hp
      rw [h2] at hp
      omega
    · rw [if_neg hc]
      exact rs_drop hw (i + 1)
  have R := rows_two hg2 h (by omega) (by omega) (rs_take hw i) hE'
  have C := concat_ok [l.take i, l.drop (i + 1)] (some ⟨g, 0, none⟩) 2 w'.heap.size w' R (Nat.le_refl _) (by simp) (by rw [hf]; exact Nat.le_trans (lack_len l i) hln)
  rw [hf] at C
  refine C.mono ?_
  rintro e w2 ⟨A, c, rfl, ho, hb2⟩
  exact ⟨A, c, rfl, own_less ho hb.size, hb.trans (hb2.mono hb.size)⟩

set_option maxHeartbeats 4000000 in
set_option maxRecDepth 100000 in
theorem without_ok {L : Option Addr} {l : List Int} {lc N : Nat} (w : World) (hat : At w N L l) (hN : N ≤ w.heap.size) (hcap : l.length ≤ lc) (hln : l.length ≤ 4294967296) (i : Nat) (hi : i < l.length) :
    Calls Tryd.prog 61 #[.slice L l.length lc, .int .i64 i] w (NewL (lackL l i) w) := by
  obtain ⟨b, off, rfl, _, _⟩ := hat (by omega)
  have C := Lib.hid (fun w' hb E e T g => lack_call w w' i hi hcap hat hN hln hb E e T g)
  clear hat hN
  generalize lackL l i = z at *
  generalize l.length = m at *
  by_cases hc : lc = i + 1
  · subst hc
    obtain rfl : m = i + 1 := by omega
    have CC := Lib.hid (fun w' hb g T hg hg2 (h : w'.heap[g]? = some (.cells #[.slice (some ⟨b, off, none⟩) i (i + 1), .slice (some ⟨b, off, none⟩) 0 0] T (0, 0))) => C.out w' hb (some ⟨b, off, none⟩) (i + 1 - (i + 1)) T g hg hg2 (by rw [if_pos rfl]) rfl (by simpa using h))
    clear C
    have s0 : IntKind.i64.wrap ((i : Int) + 1) = (i : Int) + 1 := IntWalk.i64_in _ (by omega)
    have s1 : (0 : Int) ≤ (i : Int) + 1 := by omega
    have s2 : ((i : Int) + 1).toNat = i + 1 := by omega
    have s3 : (0 : Int) ≤ (i : Int) := by omega
    have s4 : (i : Int) ≤ ((i + 1 : Nat) : Int) := by omega
    have s6 : (i : Int) ≤ (i : Int) + 1 := by omega
    have s5 : (i : Int) + 1 ≤ ((i + 1 : Nat) : Int) := by omega
    clear hcap hi
    go_enter Tryd.func61, Tryd.ntmps61
    go_wp2_with fail
    go_region_held3 (fun w' => True) (trivial) (((with_reducible refine (CC.out _ (bel_new _ _) w.heap.size _ (Nat.le_refl _) (lt_new _ _) (heap_new3 _ _)).mono ?_); rintro e w2 ⟨A2, c2, rfl, ho, hb⟩))
    go_wp2_with fail
    go_ret
    exact ⟨A2, c2, rfl, ho, hb⟩
  · have CC := Lib.hid (fun w' hb g T hg hg2 h => C.out w' hb (some ⟨b, off + (i + 1), none⟩) (lc - (i + 1)) T g hg hg2 (by rw [if_neg hc]) rfl h)
    have hc2 : i + 1 < lc := by omega
    clear C
    have s0 : IntKind.i64.wrap ((i : Int) + 1) = (i : Int) + 1 := IntWalk.i64_in _ (by omega)
    have s1 : (0 : Int) ≤ (i : Int) + 1 := by omega
    have s2 : ((i : Int) + 1).toNat = i + 1 := by omega
    have s3 : (0 : Int) ≤ (i : Int) := by omega
    have s4 : (i : Int) ≤ (lc : Int) := by omega
    have s5 : (i : Int) + 1 ≤ (m : Int) := by omega
    have s6 : (m : Int) ≤ (lc : Int) := by omega
    have s7 : ¬ (i + 1 = lc) := by omega
    have s8 : ¬ (lc = i + 1) := by omega
    clear hc
    go_enter Tryd.func61, Tryd.ntmps61
    go_wp2_with fail
    go_region_held3 (fun w' => True) (trivial) (((with_reducible refine (CC.out _ (bel_new _ _) w.heap.size _ (Nat.le_refl _) (lt_new _ _) (heap_new3 _ _)).mono ?_); rintro e w2 ⟨A2, c2, rfl, ho, hb⟩))
    go_wp2_with fail
    go_ret
    exact ⟨A2, c2, rfl, ho, hb⟩
end Go.Proofs.YtabkihellcflhaaDoor.Gens
