/- The closures of package pairs. Conditions: the numbers of a quadruple are small. -/
import Derived.Test.YtbajkbkfinineaaDoorPairEach
namespace Go.Proofs.YtbajkbkfinineaaDoor.Pair
open Go.RowKit Ints Lists Vals
set_option linter.unusedVariables false

/-- a box of one cell -/
def Bx (p : Nat) (T : TypeId) (v : Value) (w : World) : Prop := w.heap[p]? = some (.cells #[v] T (0, 0))
theorem Bx.cell {p : Nat} {T : TypeId} {v : Value} {w : World} (h : Bx p T v w) : w.cell? ⟨p, 0, none⟩ = some v := by rw [Lib.cell_of_heap h]; rfl
theorem Bx.free {p : Nat} {T : TypeId} {v : Value} {w : World} (h : Bx p T v w) : w.frozen? ⟨p, 0, none⟩ = false := Lib.frozen_of_heap h _
theorem Bx.lt {p : Nat} {T : TypeId} {v : Value} {w : World} (h : Bx p T v w) : p < w.heap.size := (Array.getElem?_eq_some_iff.1 h).1
theorem Bx.kept {p : Nat} {T : TypeId} {v : Value} {w w' : World} {row : Option Nat} (h : Bx p T v w) (hg : w.grownBy w' row) (hne : some p ≠ row) : Bx p T v w' := (hg.block p h.lt hne).trans h
abbrev keyW (w : World) (q : Quad) : World := w.alloc (.cells #[.int .i64 q.a, .int .i64 q.x, .int .i64 q.b, .int .i64 q.y] 46)
theorem keyW_grown (w : World) (q : Quad) : w.grownBy (keyW w q) none := World.grownBy_alloc _ _ _
theorem grown_some {w w' : World} {b : Nat} (h : w.grownBy w' none) : w.grownBy w' (some b) := ⟨h.os, h.tape, h.output, h.size, fun k hk _ => h.block k hk (by simp)⟩

set_option maxHeartbeats 1000000 in
set_option maxRecDepth 100000 in
theorem miss_set {B n p : Nat} {f : Quad → Bool} {q : Quad} (w : World) (hb : Bx p 47 (.map (some B)) w) (h : MBt B n f w) (hn : n < maxLen) (hq : Sm q) :
    Calls Tryd.prog 22 #[keyV q, .pointer (some ⟨p, 0, none⟩)] w fun e w' => e = .returned (.tuple #[]) ∧ MBt B (n + 1) (upd f q true) w' ∧ w.grownBy w' (some B) := by
  have hk := keyW_grown w q
  obtain ⟨w', hr, h1, h2⟩ := (h.kept hk (by simp)).put hn hq true
  have b1 := hb.kept hk (by simp)
  have c1 := hb.cell
  have lt := hb.lt
  have H1 := Lib.hid h1
  have H2 := Lib.hid ((grown_some hk).trans h2)
  have c2 := b1.cell
  unfold keyV at hr ⊢
  clear h hb h1 h2 hk b1
  go_enter Tryd.func22, Tryd.ntmps22
  go_wp2_with fail
  go_end0
  exact ⟨rfl, H1.out, H2.out⟩

set_option maxHeartbeats 1000000 in
set_option maxRecDepth 100000 in
theorem miss_had {B n p : Nat} {f : Quad → Bool} {q : Quad} (w : World) (hb : Bx p 47 (.map (some B)) w) (h : MBt B n f w) (hq : Sm q) :
    Calls Tryd.prog 25 #[keyV q, .pointer (some ⟨p, 0, none⟩)] w fun e w' => e = .returned (.bool (f q)) ∧ w.grownBy w' none := by
  have hk := keyW_grown w q
  have hr := (h.kept hk (by simp)).look hq
  have b1 := hb.kept hk (by simp)
  have c1 := hb.cell
  have lt := hb.lt
  have H2 := Lib.hid hk
  have c2 := b1.cell
  unfold keyV at hr ⊢
  clear h hb hk b1
  generalize f q = v at *
  go_enter Tryd.func25, Tryd.ntmps25
  go_wp2_with fail
  go_ret
  exact ⟨rfl, H2.out⟩

/-- what is raised or lowered: the value wanted, small -/
theorem wf_mid {v : Int} (h : -1000000000 ≤ v ∧ v ≤ 1000000000) : (Lit.int .i64 v).wf = true := WalkArith.wf_i64 (by omega)

set_option maxHeartbeats 2000000 in
set_option maxRecDepth 100000 in
theorem rows_up {B n p : Nat} {f : Quad → Int} {q : Quad} (w : World) (hb : Bx p 53 (.map (some B)) w) (h : MAt B n f w) (hn : n < maxLen) (hq : Sm q) (hv : -1000000 ≤ f q ∧ f q ≤ 1000000) :
    Calls Tryd.prog 27 #[keyV q, .pointer (some ⟨p, 0, none⟩)] w fun e w' => e = .returned (.tuple #[]) ∧ MAt B (n + 1) (upd f q (f q + 1)) w' ∧ w.grownBy w' (some B) := by
  have hk : w.grownBy (keyW w q).drew none := ⟨rfl, rfl, rfl, (keyW_grown w q).size, (keyW_grown w q).block⟩
  have hl := (h.kept hk (by simp)).look hq
  obtain ⟨st, w1, hr, g1, l1, hs⟩ := (h.kept hk (by simp)).entry hn hq
  obtain ⟨w2, r2, h1, h2⟩ := hs (f q + 1) (wf_mid (by omega))
  have b1 := hb.kept hk (by simp)
  have c1 := hb.cell
  have lt := hb.lt
  have hw : IntKind.i64.wrap (f q + 1) = f q + 1 := IntWalk.i64_in _ (by omega)
  have H1 := Lib.hid h1
  have H2 := Lib.hid ((grown_some hk).trans h2)
  have c2 := b1.cell
  unfold keyV at hr hl l1 ⊢
  clear h hb h1 h2 hk b1 hs g1
  generalize f q = v at *
  go_enter Tryd.func27, Tryd.ntmps27
  go_wp2_with fail
  go_region
  all_goals (go_wp2_with fail; go_end0; exact ⟨rfl, H1.out, H2.out⟩)
set_option maxHeartbeats 2000000 in
set_option maxRecDepth 100000 in
theorem need_down {B n p : Nat} {f : Quad → Int} {q : Quad} (w : World) (hb : Bx p 53 (.map (some B)) w) (h : MAt B n f w) (hn : n < maxLen) (hq : Sm q) (hv : -1000000 ≤ f q ∧ f q ≤ 1000000) :
    Calls Tryd.prog 34 #[keyV q, .pointer (some ⟨p, 0, none⟩)] w fun e w' => e = .returned (.tuple #[]) ∧ MAt B (n + 1) (upd f q (f q - 1)) w' ∧ w.grownBy w' (some B) := by
  have hk : w.grownBy (keyW w q).drew none := ⟨rfl, rfl, rfl, (keyW_grown w q).size, (keyW_grown w q).block⟩
  have hl := (h.kept hk (by simp)).look hq
  obtain ⟨st, w1, hr, g1, l1, hs⟩ := (h.kept hk (by simp)).entry hn hq
  obtain ⟨w2, r2, h1, h2⟩ := hs (f q - 1) (wf_mid (by omega))
  have b1 := hb.kept hk (by simp)
  have c1 := hb.cell
  have lt := hb.lt
  have hw : IntKind.i64.wrap (f q - 1) = f q - 1 := IntWalk.i64_in _ (by omega)
  have H1 := Lib.hid h1
  have H2 := Lib.hid ((grown_some hk).trans h2)
  have c2 := b1.cell
  unfold keyV at hr hl l1 ⊢
  clear h hb h1 h2 hk b1 hs g1
  generalize f q = v at *
  go_enter Tryd.func34, Tryd.ntmps34
  go_wp2_with fail
  go_region
  all_goals (go_wp2_with fail; go_end0; exact ⟨rfl, H1.out, H2.out⟩)
theorem Bx.put {p : Nat} {T : TypeId} {v : Value} {w : World} (h : Bx p T v w) (y : Value) : Bx p T y (w.setCell ⟨p, 0, none⟩ y) := by
  unfold Bx at h ⊢
  simp [World.setCell, Array.getElem?_modify, h]
theorem put_grown (w : World) (p : Nat) (y : Value) : w.grownBy (w.setCell ⟨p, 0, none⟩ y) (some p) :=
  ⟨rfl, rfl, rfl, by show _ ≤ (World.setCell _ _ _).heap.size; simp [World.setCell], fun b _ hx => Below.heap_setCell w ⟨p, 0, none⟩ y b (fun e => hx (by rw [e]))⟩

set_option maxHeartbeats 2000000 in
set_option maxRecDepth 100000 in
theorem need_own {B n p s : Nat} {f : Quad → Int} {q : Quad} {y : Bool} (w : World) (hb : Bx p 53 (.map (some B)) w) (hs : Bx s 4 (.bool y) w) (h : MAt B n f w) (hq : Sm q) :
    Calls Tryd.prog 33 #[keyV q, .pointer (some ⟨p, 0, none⟩), .pointer (some ⟨s, 0, none⟩)] w fun e w' => e = .returned (.tuple #[]) ∧ Bx s 4 (.bool (y && decide (¬ f q = 1))) w' ∧ w.grownBy w' (some s) := by
  have hk := keyW_grown w q
  have hr := (h.kept hk (by simp)).look hq
  have b1 := hb.kept hk (by simp)
  have s1 := hs.kept hk (by simp)
  have c1 := hb.cell
  have lt := hb.lt
  have lts := hs.lt
  have c2 := b1.cell
  have c3 := s1.cell
  have c4 := s1.free
  have H2 := Lib.hid (grown_some (b := s) hk)
  have H3 := Lib.hid ((put_grown w s (.bool false)).trans (grown_some (b := s) (keyW_grown (w.setCell ⟨s, 0, none⟩ (.bool false)) q)))
  have S1 := Lib.hid s1
  have S2 := Lib.hid ((hs.put (.bool false)).kept (keyW_grown (w.setCell ⟨s, 0, none⟩ (.bool false)) q) (by simp))
  unfold keyV at hr ⊢
  clear h hb hs hk b1 s1
  generalize f q = v at *
  by_cases hv : v = 1
  · subst hv
    go_enter Tryd.func33, Tryd.ntmps33
    go_wp2_with fail
    go_end0
    exact ⟨rfl, by simpa using S2.out, H3.out⟩
  · have hv1 : (v == 1) = false := beq_eq_false_iff_ne.2 hv
    go_enter Tryd.func33, Tryd.ntmps33
    go_wp2_with fail
    go_end0
    exact ⟨rfl, by simpa [hv] using S1.out, H2.out⟩

set_option maxHeartbeats 2000000 in
set_option maxRecDepth 100000 in
theorem best_new {B n p s : Nat} {f : Quad → Int} {q : Quad} {y : Nat} (w : World) (hb : Bx p 53 (.map (some B)) w) (hs : Bx s 3 (.int .i64 y) w) (h : MAt B n f w) (hq : Sm q) (hy : y ≤ 1000000) :
    Calls Tryd.prog 41 #[keyV q, .pointer (some ⟨p, 0, none⟩), .pointer (some ⟨s, 0, none⟩)] w fun e w' => e = .returned (.tuple #[]) ∧ Bx s 3 (.int .i64 (if f q = 0 then (y : Int) + 1 else (y : Int))) w' ∧ w.grownBy w' (some s) := by
  have hk := keyW_grown w q
  have hr := (h.kept hk (by simp)).look hq
  have b1 := hb.kept hk (by simp)
  have s1 := hs.kept hk (by simp)
  have c1 := hb.cell
  have lt := hb.lt
  have lts := hs.lt
  have c2 := b1.cell
  have c3 := s1.cell
  have c4 := s1.free
  have hw : IntKind.i64.wrap ((y : Int) + 1) = (y : Int) + 1 := IntWalk.i64_in _ (by omega)
  have H2 := Lib.hid (grown_some (b := s) hk)
  have H3 := Lib.hid ((put_grown w s (.int .i64 ((y : Int) + 1))).trans (grown_some (b := s) (keyW_grown (w.setCell ⟨s, 0, none⟩ (.int .i64 ((y : Int) + 1))) q)))
  have S1 := Lib.hid s1
  have S2 := Lib.hid ((hs.put (.int .i64 ((y : Int) + 1))).kept (keyW_grown (w.setCell ⟨s, 0, none⟩ (.int .i64 ((y : Int) + 1))) q) (by simp))
  unfold keyV at hr ⊢
  clear h hb hs hk b1 s1
  generalize f q = v at *
  by_cases hv : v = 0
  · subst hv
    rw [if_pos rfl]
    go_enter Tryd.func41, Tryd.ntmps41
    go_wp2_with fail
    go_end0
    exact ⟨rfl, S2.out, H3.out⟩
  · have hv1 : (v == 0) = false := beq_eq_false_iff_ne.2 hv
    rw [if_neg hv]
    go_enter Tryd.func41, Tryd.ntmps41
    go_wp2_with fail
    go_end0
    exact ⟨rfl, S1.out, H2.out⟩
end Go.Proofs.YtbajkbkfinineaaDoor.Pair
