/- RoseOwn, part 9 of the proof: The program's Check of generators. Conditions: the size. -/
import Derived.Test.YtfpbegagblekiaaDoorRoseOwnZ7
import Derived.Test.YtfpbegagblekiaaDoorRoseOwnZ8
/- The program's Check of generators. Conditions: the size. -/
namespace Go.Proofs.YtfpbegagblekiaaDoor.Gens
open Go.RowKit Lists Ints Vals
set_option linter.unusedVariables false

theorem gen_right {t : Gn} (h : genV t = 0) : Right t ∧ (largeG t 0).2 = false := by
  unfold genV at h
  by_cases hl : (largeG t 0).2 = true
  · rw [if_pos hl] at h; cases h
  · rw [if_neg hl] at h
    exact ⟨h, by simpa using hl⟩
set_option maxHeartbeats 2000000 in
set_option maxRecDepth 100000 in
theorem gcheck {n : Nat} {t : Gn} {v : Value} {B : Nat} (w : World) (h : GAt w (GBel B) n v t) (hB : B ≤ w.heap.size) (hsz : t.size ≤ 4294967296) :
    Calls Tryd.prog 24 #[v] w fun e w' => e = .returned (errOf (genV t)) ∧ Below w.heap.size w w' := by
  obtain ⟨m, A, c, e, hw, rfl, _⟩ := h.open_
  have b1 : Below w.heap.size w (w.alloc (gc t A c)) := (Below.refl _ _).alloc (Nat.le_refl _) _
  have s1 : (w.alloc (gc t A c)).heap.size = w.heap.size + 1 := by simp
  have b2 : Below (w.alloc (gc t A c)).heap.size (w.alloc (gc t A c)) ((w.alloc (gc t A c)).alloc (.cells #[.int .i64 0] 3)) := (Below.refl _ _).alloc (Nat.le_refl _) _
  have p2 : PB (w.heap.size + 1) 0 ((w.alloc (gc t A c)).alloc (.cells #[.int .i64 0] 3)) := by
    have := gheap_new (w.alloc (gc t A c)) (.cells #[.int .i64 0] 3)
    rw [s1] at this; exact this
  have g0 : (w.alloc (gc t A c)).heap[w.heap.size]? = some (gc t A c) := gheap_new w _
  have HH := Lib.hid (fun (W : World) (hb : Below (w.alloc (gc t A c)).heap.size (w.alloc (gc t A c)) W) => gbox w W _ _ _ _ hb)
  have hh2 := h.below (b1.mono hB)
  have C1 := fits_any n t _ B (w.heap.size + 1) 0 0 0 0 _ (hh2.below (b2.mono (by omega))) (by omega) p2 hsz rfl (by omega) rfl (by omega)
  rw [fits_large] at C1
  have C2 := Lib.hid (fun (W : World) (hb : Below w.heap.size w W) => parts_any n t _ B W (h.below (hb.mono hB)) (Nat.le_trans hB hb.size) hsz)
  have EV := Lib.hid (show genV t = if (largeG t 0).2 = true then 4 else partV t from rfl)
  have BB := Lib.hid (And.intro b1 b2)
  clear h hB hsz e hw hh2 p2 g0 b1 b2
  cases hl : (largeG t 0).2 with
  | true =>
    rw [hl] at C1 EV
    simp only [Bool.not_true] at C1
    have C1 := Lib.hid C1
    clear hl
    go_enter Tryd.func24, Tryd.ntmps24
    go_wp2_with fail
    refine C1.out.mono ?_
    rintro e w2 ⟨rfl, hp2, hg2⟩
    have B3 := Lib.hid (on BB.out.1 (BB.out.2.trans (gr_to hg2 (show (w.alloc (gc t A c)).heap.size ≤ w.heap.size + 1 by omega) (by simp))))
    clear hp2 hg2
    go_wp2_with fail
    go_ret
    exact ⟨ret_v (by rw [EV.out]; rfl), B3.out⟩
  | false =>
    rw [hl] at C1 EV
    simp only [Bool.not_false] at C1
    have C1 := Lib.hid C1
    clear hl
    go_enter Tryd.func24, Tryd.ntmps24
    go_wp2_with fail
    refine C1.out.mono ?_
    rintro e w2 ⟨rfl, hp2, hg2⟩
    have b3 := BB.out.2.trans (gr_to hg2 (show (w.alloc (gc t A c)).heap.size ≤ w.heap.size + 1 by omega) (by simp))
    obtain ⟨k0, k1, k2, k3⟩ := HH.out w2 b3
    have B3 := Lib.hid (on BB.out.1 b3)
    have C2 := Lib.hid (C2.out w2 B3.out)
    clear hp2 hg2 b3
    go_wp2_with fail
    refine C2.out.mono ?_
    rintro e w3 ⟨rfl, hb3⟩
    have B4 := Lib.hid (on B3.out hb3)
    clear hb3
    go_wp2_with fail
    go_ret
    exact ⟨ret_v (by rw [EV.out]; rfl), B4.out⟩
end Go.Proofs.YtfpbegagblekiaaDoor.Gens
