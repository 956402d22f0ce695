/- RoseTells, part 13 of the proof: What the document's own ReplayOf comes to (its walk: XRefReplayW). · Contract of the document's own ReplayOf. Condition: the sizes. · Contract of assayersame.Ints: it draws its order. Conditions: none but that the slices' cells are known. · The statements' own Rows: are two lists of lists the same? Conditions: the sizes. · errors.As at the target '*api.Errno', and with it plain.Told: the number of a nil error is 0, of an Errno its own. After the guide's worked example for a pointer target. Condition: the library's variable errors.errorType holds the handle of the type 'error'. · What a row's list gives of the library's variable errors.errorType. · The statements' own Error of an error and its own number. Conditions: the library's variable that errors.As reads. · A generator without parts, in memory. · The statements' own 'coin' and 'made'. · RoseTells: the walk. Conditions: the sizes; the library's variable that errors.As reads. -/
import Derived.Test.YtplladlodgfloaaDoorRoseTellsZ11
import Derived.Test.YtplladlodgfloaaDoorRoseTellsZ2
import Derived.Test.YtplladlodgfloaaDoorRoseTellsZ1
import Derived.Deep.RegionHeld3
import Derived.Test.YtplladlodgfloaaDoorProg
import Derived.WalkKit
import Derived.LaidEql
import Derived.Stop.Asserts
import Derived.RowKitTokens
import Derived.Test.YtplladlodgfloaaDoorRows
import Derived.LaidHandle
import Derived.Below
import Derived.Test.YtplladlodgfloaaDoorRoseTellsZ12
import Derived.Test.YtplladlodgfloaaDoorRoseTellsZ7
/- What the document's own ReplayOf comes to (its walk: XRefReplayW). -/
namespace Go.Proofs.YtplladlodgfloaaDoor.Gens
open Go.RowKit Lists Ints Vals
set_option linter.unusedVariables false

theorem three_cells (w : World) (b : Nat) (o : Obj) (x0 x1 x2 : Value) {y0 y1 y2 : Value} (hb : b < w.heap.size) (c0 : w.cell? ⟨b, 0, none⟩ = some y0) (c1 : w.cell? ⟨b, 1, none⟩ = some y1) (c2 : w.cell? ⟨b, 2, none⟩ = some y2) (W : World)
    (hW : W = (((w.setCell ⟨b, 0, none⟩ x0).setCell ⟨b, 1, none⟩ x1).setCell ⟨b, 2, none⟩ x2).alloc o) :
    W.cell? ⟨b, 0, none⟩ = some x0 ∧ W.cell? ⟨b, 1, none⟩ = some x1 ∧ W.cell? ⟨b, 2, none⟩ = some x2 := by
  have far : ∀ (u : World) (i j : Nat) (v : Value), i ≠ j → (u.setCell ⟨b, i, none⟩ v).cell? ⟨b, j, none⟩ = u.cell? ⟨b, j, none⟩ :=
    fun u i j v h => World.cell?_setCell_other _ _ _ _ (fun e => h (by injection e))
  have al : ∀ j, W.cell? ⟨b, j, none⟩ = (((w.setCell ⟨b, 0, none⟩ x0).setCell ⟨b, 1, none⟩ x1).setCell ⟨b, 2, none⟩ x2).cell? ⟨b, j, none⟩ := by
    intro j
    rw [hW]
    exact World.cell?_alloc_lt _ o ⟨b, j, none⟩ (by show b < _; simp; exact hb)
  refine ⟨?_, ?_, ?_⟩
  · rw [al, far _ 2 0 _ (by decide), far _ 1 0 _ (by decide)]
    exact World.cell?_setCell_same _ _ _ c0
  · rw [al, far _ 2 1 _ (by decide)]
    exact World.cell?_setCell_same _ _ _ ((far _ 0 1 _ (by decide)).trans c1)
  · rw [al]
    exact World.cell?_setCell_same _ _ _ ((far _ 1 2 _ (by decide)).trans ((far _ 0 2 _ (by decide)).trans c2))
def RpPost (w : World) (r : Except Int Tr) (e : Ending) (w' : World) : Prop :=
  Below w.heap.size w w' ∧ match r with
    | .ok v => ∃ (VA : Option Addr) (vc n : Nat), e = .returned (.tuple #[.agg #[.bool v.list, .int .i64 v.num, .slice VA v.items.length vc], .int .i64 0]) ∧ TAt w' (fun b => w.heap.size ≤ b ∧ b < w'.heap.size) n (.agg #[.bool v.list, .int .i64 v.num, .slice VA v.items.length vc]) v
    | .error er => er ≠ 0 ∧ e = .returned (.tuple #[.agg #[.bool false, .int .i64 0, .slice none 0 0], .int .i64 er])
end Go.Proofs.YtplladlodgfloaaDoor.Gens

/- Contract of the document's own ReplayOf. Condition: the sizes. -/
namespace Go.Proofs.YtplladlodgfloaaDoor.Gens
open Go.RowKit Lists Ints Vals
set_option linter.unusedVariables false

theorem three_cells2 (w : World) (b : Nat) (x0 x1 x2 : Value) {y0 y1 y2 : Value} (c0 : w.cell? ⟨b, 0, none⟩ = some y0) (c1 : w.cell? ⟨b, 1, none⟩ = some y1) (c2 : w.cell? ⟨b, 2, none⟩ = some y2) (W : World)
    (hW : W = ((w.setCell ⟨b, 0, none⟩ x0).setCell ⟨b, 1, none⟩ x1).setCell ⟨b, 2, none⟩ x2) :
    W.cell? ⟨b, 0, none⟩ = some x0 ∧ W.cell? ⟨b, 1, none⟩ = some x1 ∧ W.cell? ⟨b, 2, none⟩ = some x2 := by
  have far : ∀ (u : World) (i j : Nat) (v : Value), i ≠ j → (u.setCell ⟨b, i, none⟩ v).cell? ⟨b, j, none⟩ = u.cell? ⟨b, j, none⟩ :=
    fun u i j v h => World.cell?_setCell_other _ _ _ _ (fun e => h (by injection e))
  refine ⟨?_, ?_, ?_⟩
  · rw [hW, far _ 2 0 _ (by decide), far _ 1 0 _ (by decide)]
    exact World.cell?_setCell_same _ _ _ c0
  · rw [hW, far _ 2 1 _ (by decide)]
    exact World.cell?_setCell_same _ _ _ ((far _ 0 1 _ (by decide)).trans c1)
  · rw [hW]
    exact World.cell?_setCell_same _ _ _ ((far _ 1 2 _ (by decide)).trans ((far _ 0 2 _ (by decide)).trans c2))
set_option maxHeartbeats 2000000 in
set_option maxRecDepth 100000 in
theorem replayof_any (n : Nat) (g : Gn) (A : Option Addr) (c : Nat) (l : List Int) (L : Option Addr) (lc B : Nat) (w : World) (hg : GAt w (GBel B) n (gv g A c) g) (hr : Right g) (hs : g.size ≤ 4294967296) (hl : At w B L l) (hB : B ≤ w.heap.size)
    (hq : longG g ≤ 4294967296) (hll : l.length ≤ 4294967296) :
    Calls Tryd.prog 7 #[gv g A c, .slice L l.length lc] w (RpPost w (replayG g l)) := by
  have HP := plays_all
  have P := fun w1 (b1 : Below w.heap.size w w1) => HP n g (gv g A c) false 0 none 0 0 [] none 0 0 l L lc false B w1 (hg.below (b1.mono hB)) hr hs At.nil (hl.below (b1.mono hB)) (Nat.le_trans hB b1.size) (by simpa using hq) hll (by simpa using hq)
  simp only [List.drop_zero, chC, List.length_nil] at P
  have LN := fun c v r (h : play readC g l = .ok (c, v, r)) => play_long read_bounded g hr l c v r h
  have TK := fun c v r (h : play readC g l = .ok (c, v, r)) => play_took g l c v r h
  have R := Lib.hid (show replayG g l = match play readC g l with | .ok (_, v, r) => if r = [] then .ok v else .error 3 | .error e => .error e from rfl)
  clear hg hr hs hl hB HP
  generalize play readC g l = q at P LN TK R
  have H0 : Below w.heap.size w ((w.alloc (gc g A c)).alloc (.cells #[.bool false, .int .i64 0, .slice none 0 0] 32)) := ((Below.refl _ _).alloc (Nat.le_refl _) _).alloc (by simp) _
  have P1 := Lib.hid (P _ H0)
  clear P
  cases q with
  | error er =>
    have R := Lib.hid (show replayG g l = .error er from R.out)
    clear LN TK
    go_enter Tryd.func7, Tryd.ntmps7
    go_wp2_with fail
    refine P1.out.mono ?_
    rintro e w1 ⟨b1, hne, lb, nm, VA, vl, vc, TA, tl, tc, k', rfl⟩
    have B1 := Lib.hid (on H0 b1)
    have E1 := (b1.block (w.heap.size + 1) (by simp)).trans (new22 w (gc g A c) (.cells #[.bool false, .int .i64 0, .slice none 0 0] 32))
    have g1 : (er == 0) = false := by rw [beq_eq_false_iff_ne]; exact hne
    have g2 : (er != 0) = true := by rw [bne_iff_ne]; exact hne
    have Z1 : w.heap.size + 1 < w1.heap.size := by have := b1.size; simp at this; omega
    clear b1 H0
    have D0 : w1.cell? ⟨w.heap.size + 1, 0, none⟩ = some (.bool false) := by rw [Lib.cell_of_heap E1]; rfl
    have D1 : w1.cell? ⟨w.heap.size + 1, 1, none⟩ = some (.int .i64 0) := by rw [Lib.cell_of_heap E1]; rfl
    have D2 : w1.cell? ⟨w.heap.size + 1, 2, none⟩ = some (.slice none 0 0) := by rw [Lib.cell_of_heap E1]; rfl
    have F0 := Lib.frozen_of_heap E1 0
    have F1 := Lib.frozen_of_heap E1 1
    have F2 := Lib.frozen_of_heap E1 2
    go_wp2_with fail
    go_region
    go_wp2_with fail
    have Q := three_cells w1 (w.heap.size + 1) (pcs lb nm VA vl vc TA tl tc k' er) (.bool false) (.int .i64 0) (.slice none 0 0) Z1 D0 D1 D2 _ rfl
    have BW : Below w.heap.size w ((((w1.setCell ⟨w.heap.size + 1, 0, none⟩ (.bool false)).setCell ⟨w.heap.size + 1, 1, none⟩ (.int .i64 0)).setCell ⟨w.heap.size + 1, 2, none⟩ (.slice none 0 0)).alloc (pcs lb nm VA vl vc TA tl tc k' er)) := Below.alloc (Below.setCell (Below.setCell (Below.setCell B1.out (by simp only []; omega) _) (by simp only []; omega) _) (by simp only []; omega) _) (by simp; omega) _
    generalize (((w1.setCell ⟨w.heap.size + 1, 0, none⟩ (.bool false)).setCell ⟨w.heap.size + 1, 1, none⟩ (.int .i64 0)).setCell ⟨w.heap.size + 1, 2, none⟩ (.slice none 0 0)).alloc (pcs lb nm VA vl vc TA tl tc k' er) = W at Q BW ⊢
    obtain ⟨q0, q1, q2⟩ := Q
    refine bodyPost_ret (v := .tuple #[.agg #[.bool false, .int .i64 0, .slice none 0 0], .int .i64 er]) (by simp [results, Tryd.results7, go_sem, q0, q1, q2]) rfl ?_
    rw [R.out]
    exact ⟨BW.drew, hne, rfl⟩
  | ok z =>
    obtain ⟨m, v, r⟩ := z
    have hm := LN m v r rfl
    have hk := TK m v r rfl
    have hl2 : l.length = m.length + r.length := by rw [hk, List.length_append]
    clear LN TK hk
    have P2 : Calls Tryd.prog 21 #[gv g A c, pv false 0 none 0 0 none 0 0 0 0, .slice L l.length lc, .bool false] ((w.alloc (gc g A c)).alloc (.cells #[.bool false, .int .i64 0, .slice none 0 0] 32)) (fun e w' =>
        Below ((w.alloc (gc g A c)).alloc (.cells #[.bool false, .int .i64 0, .slice none 0 0] 32)).heap.size ((w.alloc (gc g A c)).alloc (.cells #[.bool false, .int .i64 0, .slice none 0 0] 32)) w' ∧
        ∃ (VA TA : Option Addr) (vc tc n : Nat), e = .returned (pv v.list v.num VA v.items.length vc TA m.length tc m.length 0) ∧ TAt w' (fun b => w.heap.size + 1 < b ∧ b < w'.heap.size) n (.agg #[.bool v.list, .int .i64 v.num, .slice VA v.items.length vc]) v) := by
      refine P1.out.mono ?_
      rintro e w1 ⟨b1, VA, TA, vc, tc, n', rfl, hv, ha⟩
      exact ⟨b1, VA, TA, vc, tc, n', by simp, hv.keep fun b hb => ⟨⟨by have h1 := hb.1; simp at h1; omega, hb.2⟩, fun _ => rfl⟩⟩
    have P2 := Lib.hid P2
    clear P1
    by_cases hr : r = []
    · have R := Lib.hid (show replayG g l = .ok v by rw [R.out]; simp [hr])
      have g1 : decide ((m.length : Int) < l.length) = false := by rw [decide_eq_false_iff_not, hl2, hr]; simp
      have g3 : decide (m.length < l.length) = false := by rw [decide_eq_false_iff_not, hl2, hr]; simp
      have g4 : ¬ m.length < l.length := of_decide_eq_false g3
      have g5 : ¬ (m.length : Int) < l.length := of_decide_eq_false g1
      clear hr hl2
      go_enter Tryd.func7, Tryd.ntmps7
      go_wp2_with fail
      refine P2.out.mono ?_
      rintro e w1 ⟨b1, VA, TA, vc, tc, n', rfl, hv⟩
      have B1 := Lib.hid (on H0 b1)
      have E1 := (b1.block (w.heap.size + 1) (by simp)).trans (new22 w (gc g A c) (.cells #[.bool false, .int .i64 0, .slice none 0 0] 32))
      have Z1 : w.heap.size + 1 < w1.heap.size := by have := b1.size; simp at this; omega
      clear b1 H0
      have D0 : w1.cell? ⟨w.heap.size + 1, 0, none⟩ = some (.bool false) := by rw [Lib.cell_of_heap E1]; rfl
      have D1 : w1.cell? ⟨w.heap.size + 1, 1, none⟩ = some (.int .i64 0) := by rw [Lib.cell_of_heap E1]; rfl
      have D2 : w1.cell? ⟨w.heap.size + 1, 2, none⟩ = some (.slice none 0 0) := by rw [Lib.cell_of_heap E1]; rfl
      have F0 := Lib.frozen_of_heap E1 0
      have F1 := Lib.frozen_of_heap E1 1
      have F2 := Lib.frozen_of_heap E1 2
      have HV := Lib.hid hv
      clear hv
      go_wp2_with fail
      have Q := three_cells w1 (w.heap.size + 1) (.cells #[.bool v.list, .int .i64 v.num, .slice VA v.items.length vc, .slice TA m.length tc, .int .i64 m.length, .int .i64 0] 55) (.bool v.list) (.int .i64 v.num) (.slice VA v.items.length vc) Z1 D0 D1 D2 _ rfl
      have BW : Below w.heap.size w ((((w1.setCell ⟨w.heap.size + 1, 0, none⟩ (.bool v.list)).setCell ⟨w.heap.size + 1, 1, none⟩ (.int .i64 v.num)).setCell ⟨w.heap.size + 1, 2, none⟩ (.slice VA v.items.length vc)).alloc (.cells #[.bool v.list, .int .i64 v.num, .slice VA v.items.length vc, .slice TA m.length tc, .int .i64 m.length, .int .i64 0] 55)) := Below.alloc (Below.setCell (Below.setCell (Below.setCell B1.out (by simp only []; omega) _) (by simp only []; omega) _) (by simp only []; omega) _) (by simp; omega) _
      have GRW := put3_gr w1 (w.heap.size + 1) (.bool v.list) (.int .i64 v.num) (.slice VA v.items.length vc)
      have TW := HV.out.keep (w' := (((w1.setCell ⟨w.heap.size + 1, 0, none⟩ (.bool v.list)).setCell ⟨w.heap.size + 1, 1, none⟩ (.int .i64 v.num)).setCell ⟨w.heap.size + 1, 2, none⟩ (.slice VA v.items.length vc)).alloc (.cells #[.bool v.list, .int .i64 v.num, .slice VA v.items.length vc, .slice TA m.length tc, .int .i64 m.length, .int .i64 0] 55)) (S' := fun b => w.heap.size ≤ b ∧ b < ((((w1.setCell ⟨w.heap.size + 1, 0, none⟩ (.bool v.list)).setCell ⟨w.heap.size + 1, 1, none⟩ (.int .i64 v.num)).setCell ⟨w.heap.size + 1, 2, none⟩ (.slice VA v.items.length vc)).alloc (.cells #[.bool v.list, .int .i64 v.num, .slice VA v.items.length vc, .slice TA m.length tc, .int .i64 m.length, .int .i64 0] 55)).heap.size) (fun b hb => ⟨⟨by have := hb.1; omega, by have h1 := hb.2; have h2 := GRW.size; have h3 := ((Below.refl _ _).alloc (Nat.le_refl _) (.cells #[.bool v.list, .int .i64 v.num, .slice VA v.items.length vc, .slice TA m.length tc, .int .i64 m.length, .int .i64 0] 55) : Below (((w1.setCell ⟨w.heap.size + 1, 0, none⟩ (.bool v.list)).setCell ⟨w.heap.size + 1, 1, none⟩ (.int .i64 v.num)).setCell ⟨w.heap.size + 1, 2, none⟩ (.slice VA v.items.length vc)).heap.size (((w1.setCell ⟨w.heap.size + 1, 0, none⟩ (.bool v.list)).setCell ⟨w.heap.size + 1, 1, none⟩ (.int .i64 v.num)).setCell ⟨w.heap.size + 1, 2, none⟩ (.slice VA v.items.length vc)) _).size; show b < _; omega⟩, fun o => by
        have h1 := hb.1
        have h2 := hb.2
        have h3 := GRW.size
        have e2 := ((Below.refl _ _).alloc (Nat.le_refl _) (.cells #[.bool v.list, .int .i64 v.num, .slice VA v.items.length vc, .slice TA m.length tc, .int .i64 m.length, .int .i64 0] 55) : Below (((w1.setCell ⟨w.heap.size + 1, 0, none⟩ (.bool v.list)).setCell ⟨w.heap.size + 1, 1, none⟩ (.int .i64 v.num)).setCell ⟨w.heap.size + 1, 2, none⟩ (.slice VA v.items.length vc)).heap.size (((w1.setCell ⟨w.heap.size + 1, 0, none⟩ (.bool v.list)).setCell ⟨w.heap.size + 1, 1, none⟩ (.int .i64 v.num)).setCell ⟨w.heap.size + 1, 2, none⟩ (.slice VA v.items.length vc)) _).block b (by omega)
        have e1 := GRW.block b h2 (fun e => by have e := Option.some.inj e; omega)
        exact cell_same (e2.trans e1) o⟩)
      generalize (((w1.setCell ⟨w.heap.size + 1, 0, none⟩ (.bool v.list)).setCell ⟨w.heap.size + 1, 1, none⟩ (.int .i64 v.num)).setCell ⟨w.heap.size + 1, 2, none⟩ (.slice VA v.items.length vc)).alloc (.cells #[.bool v.list, .int .i64 v.num, .slice VA v.items.length vc, .slice TA m.length tc, .int .i64 m.length, .int .i64 0] 55) = W at Q BW TW ⊢
      obtain ⟨q0, q1, q2⟩ := Q
      refine bodyPost_ret (v := .tuple #[.agg #[.bool v.list, .int .i64 v.num, .slice VA v.items.length vc], .int .i64 0]) ?_ rfl ?_
      · simp [results, Tryd.results7, go_sem, q0, q1, q2]
      · rw [R.out]
        exact ⟨BW, VA, vc, n', rfl, TW⟩
    · have R := Lib.hid (show replayG g l = .error 3 by rw [R.out]; simp [hr])
      have g1 : decide ((m.length : Int) < l.length) = true := by rw [decide_eq_true_eq, hl2]; have := List.length_pos_iff.2 hr; omega
      have g4 : m.length < l.length := by have h := of_decide_eq_true g1; omega
      have g3 : decide (m.length < l.length) = true := decide_eq_true g4
      have g5 : (m.length : Int) < l.length := of_decide_eq_true g1
      clear hr hl2
      go_enter Tryd.func7, Tryd.ntmps7
      go_wp2_with fail
      refine P2.out.mono ?_
      rintro e w1 ⟨b1, VA, TA, vc, tc, n', rfl, _⟩
      have B1 := Lib.hid (on H0 b1)
      have E1 := (b1.block (w.heap.size + 1) (by simp)).trans (new22 w (gc g A c) (.cells #[.bool false, .int .i64 0, .slice none 0 0] 32))
      have Z1 : w.heap.size + 1 < w1.heap.size := by have := b1.size; simp at this; omega
      clear b1 H0
      have D0 : w1.cell? ⟨w.heap.size + 1, 0, none⟩ = some (.bool false) := by rw [Lib.cell_of_heap E1]; rfl
      have D1 : w1.cell? ⟨w.heap.size + 1, 1, none⟩ = some (.int .i64 0) := by rw [Lib.cell_of_heap E1]; rfl
      have D2 : w1.cell? ⟨w.heap.size + 1, 2, none⟩ = some (.slice none 0 0) := by rw [Lib.cell_of_heap E1]; rfl
      have F0 := Lib.frozen_of_heap E1 0
      have F1 := Lib.frozen_of_heap E1 1
      have F2 := Lib.frozen_of_heap E1 2
      go_wp2_with fail
      go_region
      go_wp2_with fail
      have Q := three_cells w1 (w.heap.size + 1) (.cells #[.bool v.list, .int .i64 v.num, .slice VA v.items.length vc, .slice TA m.length tc, .int .i64 m.length, .int .i64 3] 55) (.bool false) (.int .i64 0) (.slice none 0 0) Z1 D0 D1 D2 _ rfl
      have BW : Below w.heap.size w ((((w1.setCell ⟨w.heap.size + 1, 0, none⟩ (.bool false)).setCell ⟨w.heap.size + 1, 1, none⟩ (.int .i64 0)).setCell ⟨w.heap.size + 1, 2, none⟩ (.slice none 0 0)).alloc (.cells #[.bool v.list, .int .i64 v.num, .slice VA v.items.length vc, .slice TA m.length tc, .int .i64 m.length, .int .i64 3] 55)) := Below.alloc (Below.setCell (Below.setCell (Below.setCell B1.out (by simp only []; omega) _) (by simp only []; omega) _) (by simp only []; omega) _) (by simp; omega) _
      generalize (((w1.setCell ⟨w.heap.size + 1, 0, none⟩ (.bool false)).setCell ⟨w.heap.size + 1, 1, none⟩ (.int .i64 0)).setCell ⟨w.heap.size + 1, 2, none⟩ (.slice none 0 0)).alloc (.cells #[.bool v.list, .int .i64 v.num, .slice VA v.items.length vc, .slice TA m.length tc, .int .i64 m.length, .int .i64 3] 55) = W at Q BW ⊢
      obtain ⟨q0, q1, q2⟩ := Q
      refine bodyPost_ret (v := .tuple #[.agg #[.bool false, .int .i64 0, .slice none 0 0], .int .i64 3]) (by simp [results, Tryd.results7, go_sem, q0, q1, q2]) rfl ?_
      rw [R.out]
      exact ⟨BW.drew, by decide, rfl⟩
end Go.Proofs.YtplladlodgfloaaDoor.Gens

/- Contract of assayersame.Ints: it draws its order. Conditions: none but that the slices' cells are known. -/
namespace Go.Proofs.YtplladlodgfloaaDoor.Ints
open Go.RowKit Go.WideShapes Go.ChangeShapes Lists
set_option linter.unusedVariables false

/-! assayersame.Ints: it draws its order -/
theorem same_any (l m : List Int) (A B : Option Addr) (c d N : Nat) (hl : l.length ≤ maxLen) (hm : m.length ≤ maxLen) (w : World) (ha : At w N A l) (hb : At w N B m) :
    Calls Tryd.prog 13 #[.slice A l.length c, .slice B m.length d] w fun e w' => e = .returned (.bool (decide (l = m))) ∧ ∃ n, w' = w.drewN n := by
  unfold maxLen at hl hm
  have HA := Lib.hid ha
  have HB := Lib.hid hb
  clear ha hb
  by_cases e : l.length = m.length
  · have ht : (((l.length : Nat) : Int) != ((m.length : Nat) : Int)) = false := by rw [bne_eq_false_iff_eq]; omega
    have hml : m.length ≤ l.length := by omega
    have hlm : l.length ≤ m.length := by omega
    have E := Lib.hid e
    clear e
    go_enter Tryd.func13, Tryd.ntmps13
    go_wp2
    go_loopw [5] (fun i wr => ∃ k n : Nat, k ≤ l.length ∧ i = .int .i64 k ∧ wr = w.drewN n ∧ Hid (l.take k = m.take k)) (fun i _ => l.length - (intOf i).toNat)
    case atStart => exact ⟨0, 0, Nat.zero_le _, rfl, rfl, rfl⟩
    case round =>
      obtain ⟨k, n, hk, rfl, rfl, ht2⟩ := hrel
      by_cases h1 : k < l.length
      · have h2 : k < m.length := by omega
        obtain ⟨b, off, rfl, _, hcell⟩ := HA.out (by omega)
        have c1 := hcell k h1
        clear hcell
        obtain ⟨b2, off2, rfl, _, hcell2⟩ := HB.out (by omega)
        have c2 := hcell2 k h2
        clear hcell2
        have t1 := Lib.hid (take_getD l k h1)
        have t2 := Lib.hid (take_getD m k h2)
        generalize hx : l.getD k 0 = x at c1 t1
        generalize hy : m.getD k 0 = y at c2 t2
        have HX := Lib.hid hx
        have HY := Lib.hid hy
        clear hx hy
        by_cases h : x = y
        · subst h
          have hv := Lib.hid (show l.take (k + 1) = m.take (k + 1) by rw [t1.out, t2.out, ht2.out])
          have h1' : (k : Int) < l.length := by omega
          have h2' : (k : Int) < m.length := by omega
          go_wp2
          go_quiet (fail)
          go_wp2
          go_roundw
          case rel => exact ⟨k + 1, _, by omega, by go_num, rfl, hv.out⟩
          case measure => simp [intOf]; omega
        · have hv := Lib.hid (show decide (l = m) = false by
            rw [decide_eq_false]; intro z; subst z; exact h (HX.out.symm.trans HY.out))
          have ht3 : (x != y) = true := by rw [bne_iff_ne]; exact h
          clear h
          go_wp2
          go_quiet (fail)
          go_wp2
          go_ret
          exact ⟨ret_b hv.out.symm, _, World.drewN_drewN _ _ _⟩
      · have hv := Lib.hid (show decide (l = m) = true by
          rw [decide_eq_true_eq, ← List.take_of_length_le (show l.length ≤ k by omega), ht2.out, List.take_of_length_le (by omega)])
        go_wp2
        go_ret
        exact ⟨ret_b hv.out.symm, _, rfl⟩
  · have ht : (((l.length : Nat) : Int) != ((m.length : Nat) : Int)) = true := by rw [bne_iff_ne]; omega
    have hv := Lib.hid (show decide (l = m) = false by rw [decide_eq_false]; intro z; subst z; exact e rfl)
    clear e
    go_enter Tryd.func13, Tryd.ntmps13
    go_wp2
    go_ret
    exact ⟨ret_b hv.out.symm, 0, rfl⟩
theorem same_below (l m : List Int) (A B : Option Addr) (c d N : Nat) (hl : l.length ≤ maxLen) (hm : m.length ≤ maxLen) (w : World) (ha : At w N A l) (hb : At w N B m) :
    Calls Tryd.prog 13 #[.slice A l.length c, .slice B m.length d] w fun e w' => e = .returned (.bool (decide (l = m))) ∧ Below w.heap.size w w' :=
  (same_any l m A B c d N hl hm w ha hb).mono fun _ _ ⟨h, n, h'⟩ => ⟨h, h' ▸ ⟨rfl, rfl, rfl, Nat.le_refl _, fun _ _ => rfl⟩⟩
end Go.Proofs.YtplladlodgfloaaDoor.Ints

/- The statements' own Rows: are two lists of lists the same? Conditions: the sizes. -/
namespace Go.Proofs.YtplladlodgfloaaDoor.Ints
open Go.RowKit Lists
set_option linter.unusedVariables false

theorem rows_eq_step (zs ys : List (List Int)) (k : Nat) (h1 : k < zs.length) (h2 : k < ys.length) : decide (zs.drop k = ys.drop k) = (decide (zs[k]'h1 = ys[k]'h2) && decide (zs.drop (k + 1) = ys.drop (k + 1))) := by
  have h : zs.drop k = ys.drop k ↔ zs[k]'h1 = ys[k]'h2 ∧ zs.drop (k + 1) = ys.drop (k + 1) := by
    rw [List.drop_eq_getElem_cons h1, List.drop_eq_getElem_cons h2, List.cons.injEq]
  rw [decide_eq_decide.2 h, Bool.decide_and]
set_option maxHeartbeats 2000000 in
set_option maxRecDepth 100000 in
theorem samerows (zs ys : List (List Int)) (A B : Option Addr) (ca cb N : Nat) (w : World) (ha : RowsWAt w N A zs) (hb : RowsWAt w N B ys) (hN : N ≤ w.heap.size) (hz : zs.length ≤ 1099511627776) (hy : ys.length ≤ 1099511627776) (hzl : ∀ x ∈ zs, x.length ≤ maxLen) (hyl : ∀ x ∈ ys, x.length ≤ maxLen) :
    Calls Tryd.prog 11 #[.slice A zs.length ca, .slice B ys.length cb] w fun e w' => e = .returned (.bool (decide (zs = ys))) ∧ Below w.heap.size w w' := by
  have HA := Lib.hid ha
  have HB := Lib.hid hb
  have HN := Lib.hid hN
  have HX := Lib.hid (fun i (hi : i < zs.length) => hzl _ (List.getElem_mem hi))
  have HY := Lib.hid (fun i (hi : i < ys.length) => hyl _ (List.getElem_mem hi))
  clear ha hb hN hzl hyl
  by_cases e : zs.length = ys.length
  · have ht : (((zs.length : Nat) : Int) != ((ys.length : Nat) : Int)) = false := by rw [bne_eq_false_iff_eq]; omega
    have hlm : zs.length ≤ ys.length := by omega
    have hml : ys.length ≤ zs.length := by omega
    clear e
    go_enter Tryd.func11, Tryd.ntmps11
    go_wp2
    go_loopw [5] (fun i wr => ∃ k : Nat, k ≤ zs.length ∧ i = .int .i64 k ∧ Hid (decide (zs = ys) = decide (zs.drop k = ys.drop k)) ∧ Hid (Below w.heap.size w wr)) (fun i _ => zs.length - (intOf i).toNat)
    case atStart => exact ⟨0, Nat.zero_le _, rfl, Lib.hid rfl, Below.refl _ _⟩
    case round =>
      obtain ⟨k, hk, rfl, hc, hbb⟩ := hrel
      by_cases h1 : k < zs.length
      · have h2 : k < ys.length := by omega
        have RS := Lib.hid (rows_eq_step zs ys k h1 h2)
        have X1 := Lib.hid (HX.out k h1)
        have Y1 := Lib.hid (HY.out k h2)
        obtain ⟨ab, ao, rfl, hab, hca⟩ := HA.out (by omega)
        obtain ⟨D, d, p0, p1⟩ := hca k h1
        obtain ⟨bb, bo, rfl, hbl, hcb⟩ := HB.out (by omega)
        obtain ⟨E, d2, q0, q1⟩ := hcb k h2
        have p0 := (hbb.out.cell (p := ⟨ab, ao + k, none⟩) (Nat.lt_of_lt_of_le hab HN.out)).trans p0
        have q0 := (hbb.out.cell (p := ⟨bb, bo + k, none⟩) (Nat.lt_of_lt_of_le hbl HN.out)).trans q0
        have PA := Lib.hid (show At wr N D (zs[k]'h1) from p1.keep fun b hb => ⟨hb, fun o => hbb.out.cell (p := ⟨b, o, none⟩) (Nat.lt_of_lt_of_le hb HN.out)⟩)
        have QA := Lib.hid (show At wr N E (ys[k]'h2) from q1.keep fun b hb => ⟨hb, fun o => hbb.out.cell (p := ⟨b, o, none⟩) (Nat.lt_of_lt_of_le hb HN.out)⟩)
        clear hca hcb p1 q1
        generalize zs[k]'h1 = x at *
        generalize ys[k]'h2 = y at *
        have SM := Lib.hid (same_below x y D E d d2 N X1.out Y1.out wr.drew PA.out.drew QA.out.drew)
        generalize decide (x = y) = q at *
        go_wp2_with fail
        go_region_held3 (fun w' => w'.cell? ⟨ab, ao + k, none⟩ = some (.slice D x.length d) ∧ w'.cell? ⟨bb, bo + k, none⟩ = some (.slice E y.length d2)) (go_keep) (((with_reducible refine SM.out.mono ?_); rintro e w2 ⟨rfl, hb2⟩; have p2 := (hb2.cell (p := ⟨ab, ao + k, none⟩) (Nat.lt_of_lt_of_le hab (Nat.le_trans HN.out hbb.out.size))).trans p0; have q2 := (hb2.cell (p := ⟨bb, bo + k, none⟩) (Nat.lt_of_lt_of_le hbl (Nat.le_trans HN.out hbb.out.size))).trans q0))
        have B2 := Lib.hid (show Below w.heap.size w w2 from hbb.out.trans (Below.mono (w := wr) ⟨hb2.os, hb2.tape, hb2.output, hb2.size, hb2.block⟩ hbb.out.size))
        clear hb2 SM p0 q0 p2 q2
        cases q
        · have HV := Lib.hid (show decide (zs = ys) = false by rw [hc.out, RS.out, Bool.false_and])
          go_wp2_with fail
          go_ret
          exact ⟨ret_b HV.out.symm, B2.out⟩
        · have HV := Lib.hid (show decide (zs = ys) = decide (zs.drop (k + 1) = ys.drop (k + 1)) by rw [hc.out, RS.out, Bool.true_and])
          go_wp2_with fail
          go_roundw
          case rel => exact ⟨k + 1, by omega, by go_num, HV.out, B2.out⟩
          case measure => simp [intOf]; omega
      · have HV := Lib.hid (show decide (zs = ys) = true by rw [hc.out, List.drop_eq_nil_of_le (by omega), List.drop_eq_nil_of_le (by omega)]; rfl)
        go_wp2_with fail
        go_ret
        exact ⟨ret_b HV.out.symm, hbb.out⟩
  · have ht : (((zs.length : Nat) : Int) != ((ys.length : Nat) : Int)) = true := by rw [bne_iff_ne]; omega
    have hv := Lib.hid (show decide (zs = ys) = false from decide_eq_false (fun h => e (by rw [h])))
    clear e
    go_enter Tryd.func11, Tryd.ntmps11
    go_wp2
    go_ret
    exact ⟨ret_b hv.out.symm, Below.refl _ _⟩
end Go.Proofs.YtplladlodgfloaaDoor.Ints

/- errors.As at the target '*api.Errno', and with it plain.Told: the number of a nil error is 0, of an Errno its own. After the guide's worked example for a pointer target. Condition: the library's variable errors.errorType holds the handle of the type 'error'. -/
namespace Go.Proofs.YtplladlodgfloaaDoor.Told
open Go.RowKit Go.Extern.Stop Go.Stop Go.Extern

theorem as_nil (t : Value) (w : World) :
    Calls Tryd.prog 36 #[.nilIface, t] w fun e w' => e = .returned (.bool false) ∧ w = w' := by
  go_enter Tryd.func36, Tryd.ntmps36
  go_wp2
  go_ret
  exact ⟨rfl, rfl⟩

theorem valueOfP (t : Addr) (w : World) : (ReflectliteValue.unpack (.iface 69 (.pointer (some t)))).run Tryd.prog w
    = .ok (.agg #[.pointer (some ⟨1, 69, none⟩), .pointer (some ⟨w.heap.size, 0, none⟩), .int .u64 150]) (w.alloc (.cells #[.pointer (some t)] 69)) := by kernel_rfl
theorem typeP (a : Addr) (w : World) : (ReflectliteValue.methodAny (ReflectliteValue.valueError "reflectlite.Value.Type" 0) (fun t _ _ _ => ReflectliteType.toType t) #[.agg #[.pointer (some ⟨1, 69, none⟩), .pointer (some a), .int .u64 150]]).run Tryd.prog w
    = .ok (.iface 93 (.agg #[.pointer (some ⟨1, 69, none⟩)])) w := by kernel_rfl
theorem methodKind (h : Value) (w : World) : (Go.method 237 93 (.agg #[h]) "Kind").run Tryd.prog w = .ok (76, h) w := by kernel_rfl
theorem kindP (w : World) : ((ReflectliteType.abiMethod fun t => (fun a : Nat => Value.int IntKind.u8 (a : Int)) <$> Rtype.kind t) #[.pointer (some ⟨1, 69, none⟩)]).run Tryd.prog w = .ok (.int .u8 22) w := by kernel_rfl
theorem kindE (w : World) : ((ReflectliteType.abiMethod fun t => (fun a : Nat => Value.int IntKind.u8 (a : Int)) <$> Rtype.kind t) #[.pointer (some ⟨1, 27, none⟩)]).run Tryd.prog w = .ok (.int .u8 2) w := by kernel_rfl

theorem rlm (z : Sem Value) (f : TypeId → Addr → Nat → Nat → Sem Value) (v : Value) :
    ReflectliteValue.method z f #[v] = (do match ← ReflectliteValue.parts v with | none => z | some (t, a, fl) => f t a fl (fl % 32)) := rfl
theorem partsP (a : Addr) (w : World) : (ReflectliteValue.parts (.agg #[.pointer (some ⟨1, 69, none⟩), .pointer (some a), .int .u64 150])).run Tryd.prog w = .ok (some (69, a, 150)) w := by kernel_rfl
theorem isNilP (a p : Addr) (W : World) (ha : W.cell? a = some (.pointer (some p))) :
    (ReflectliteValue.method (ReflectliteValue.valueError "reflectlite.Value.IsNil" 0) ReflectliteValue.isNil #[.agg #[.pointer (some ⟨1, 69, none⟩), .pointer (some a), .int .u64 150]]).run Tryd.prog W = .ok (.bool false) W := by
  rw [rlm]
  simp only [Sem.run_bind, partsP, Result.andThen]
  simp [ReflectliteValue.isNil, loadVar, isAgg, underlying, Tryd.underlying69, ha, Result.andThen]

theorem methodElem (h : Value) (w : World) : (Go.method 237 93 (.agg #[h]) "Elem").run Tryd.prog w = .ok (86, .agg #[h]) w := by kernel_rfl
theorem methodImplements (h : Value) (w : World) : (Go.method 237 93 (.agg #[h]) "Implements").run Tryd.prog w = .ok (87, .agg #[h]) w := by kernel_rfl
theorem methodAssignableTo (h : Value) (w : World) : (Go.method 237 93 (.agg #[h]) "AssignableTo").run Tryd.prog w = .ok (84, .agg #[h]) w := by kernel_rfl
theorem elemT (w : World) : (ReflectliteType.method ReflectliteType.elem #[.agg #[.pointer (some ⟨1, 69, none⟩)]]).run Tryd.prog w = .ok (.iface 93 (.agg #[.pointer (some ⟨1, 27, none⟩)])) w := by kernel_rfl
theorem implementsE (w : World) : (ReflectliteType.relation "Implements" ReflectliteType.implements_ #[.agg #[.pointer (some ⟨1, 27, none⟩)], .iface 93 (.agg #[.pointer (some ⟨1, 37, none⟩)])]).run Tryd.prog w = .ok (.bool true) w := by kernel_rfl
theorem typeOfE (v : Value) (w : World) : (ReflectliteType.typeOf #[.iface 27 v]).run Tryd.prog w = .ok (.iface 93 (.agg #[.pointer (some ⟨1, 27, none⟩)])) w := by kernel_rfl
theorem assignableE (w : World) : (ReflectliteType.relation "AssignableTo" ReflectliteType.assignableTo #[.agg #[.pointer (some ⟨1, 27, none⟩)], .iface 93 (.agg #[.pointer (some ⟨1, 27, none⟩)])]).run Tryd.prog w = .ok (.bool true) w := by kernel_rfl
theorem valueOfE (k : Int) (w : World) : (ReflectliteValue.unpack (.iface 27 (.int .i64 k))).run Tryd.prog w
    = .ok (.agg #[.pointer (some ⟨1, 27, none⟩), .pointer (some ⟨w.heap.size, 0, none⟩), .int .u64 130]) (w.alloc (.cells #[.int .i64 k] 27)) := by kernel_rfl

theorem elemOfP (w : World) : (Rtype.elem? 69).run Tryd.prog w = .ok (some 27) w := by kernel_rfl
theorem mkE (p : Addr) (w : World) : (ReflectliteValue.mk 27 p ReflectliteValue.flagAddr).run Tryd.prog w = .ok (.agg #[.pointer (some ⟨1, 27, none⟩), .pointer (some p), .int .u64 386]) w := by kernel_rfl
theorem elemV (a p : Addr) (W : World) (ha : W.cell? a = some (.pointer (some p))) :
    (ReflectliteValue.method (ReflectliteValue.valueError "reflectlite.Value.Elem" 0) ReflectliteValue.elem #[.agg #[.pointer (some ⟨1, 69, none⟩), .pointer (some a), .int .u64 150]]).run Tryd.prog W
      = .ok (.agg #[.pointer (some ⟨1, 27, none⟩), .pointer (some p), .int .u64 386]) W := by
  rw [rlm]
  simp only [Sem.run_bind, partsP, Result.andThen]
  simp [ReflectliteValue.elem, loadVar, isAgg, underlying, Tryd.underlying69, ha, Result.andThen, elemOfP, mkE]
theorem rls (v x : Value) : ReflectliteValue.set #[v, x] = (do
    let (some (dst, a, fl), some (src, b, _)) := (← ReflectliteValue.parts v, ← ReflectliteValue.parts x)
      | unsupported (.noEntry "extern/(internal/reflectlite.Value).Set.zeroValue")
    if fl / ReflectliteValue.flagAddr % 2 == 0 then unsupported (.noEntry "extern/(internal/reflectlite.Value).Set.unaddressable")
    let val ← loadVar src b
    if ← Rtype.directlyAssignable dst src then storeVar dst a val
    else if ← Rtype.implements dst src then
      if (← Rtype.kind src) == 20 then
        match val with
        | .nilIface => unsupported (.noEntry "extern/reflectlite: a nil value of one interface type handed on as a value of another")
        | _ => storeVar dst a val
      else storeVar dst a (.iface src val)
    else panicString ("reflectlite.Set: value of type " ++ (← Rtype.spelt src) ++ " is not assignable to type " ++ (← Rtype.spelt dst))
    pure (.tuple #[])) := rfl
theorem partsEa (a : Addr) (w : World) : (ReflectliteValue.parts (.agg #[.pointer (some ⟨1, 27, none⟩), .pointer (some a), .int .u64 386])).run Tryd.prog w = .ok (some (27, a, 386)) w := by kernel_rfl
theorem partsE (a : Addr) (w : World) : (ReflectliteValue.parts (.agg #[.pointer (some ⟨1, 27, none⟩), .pointer (some a), .int .u64 130])).run Tryd.prog w = .ok (some (27, a, 130)) w := by kernel_rfl
theorem directE (w : World) : (Rtype.directlyAssignable 27 27).run Tryd.prog w = .ok true w := by kernel_rfl
theorem setE (ta b : Addr) (k : Int) (old : Value) (W : World) (hb : W.cell? b = some (.int .i64 k)) (ht : W.cell? ta = some old) (hf : W.frozen? ta = false) :
    (ReflectliteValue.set #[.agg #[.pointer (some ⟨1, 27, none⟩), .pointer (some ta), .int .u64 386], .agg #[.pointer (some ⟨1, 27, none⟩), .pointer (some b), .int .u64 130]]).run Tryd.prog W
      = .ok (.tuple #[]) (W.setCell ta (.int .i64 k)) := by
  rw [rls]
  simp only [Sem.run_bind, partsEa, partsE, Result.andThen]
  simp [ReflectliteValue.flagAddr, loadVar, isAgg, underlying, Tryd.underlying27, hb, Result.andThen, directE, storeVar, Value.cells, storeCells, Addr.add]
  rw [run_store Tryd.prog W ta _ _ (by rfl)]
  simp [ht, hf]

/-- What the library's variable holds. -/
def Handle (w : World) : Prop := w.cell? ⟨0, 0, none⟩ = some (.iface 93 (.agg #[.pointer (some ⟨1, 37, none⟩)]))

set_option maxHeartbeats 4000000 in
theorem as_hit (k : Int) (t : Addr) (old : Value) (w : World) (hg : w.cell? ⟨0, 0, none⟩ = some (.iface 93 (.agg #[.pointer (some ⟨1, 37, none⟩)]))) (ht0 : w.cell? t = some old) (hf0 : w.frozen? t = false) :
    Calls Tryd.prog 36 #[.iface 27 (.int .i64 k), .iface 69 (.pointer (some t))] w fun ev w' => ev = .returned (.bool true) ∧ ((((w.alloc (.cells #[.pointer (some t)] 69)).alloc (.cells #[.pointer (some ⟨1, 69, none⟩), .pointer (some ⟨w.heap.size, 0, none⟩), .int .u64 150] 82)).alloc (.cells #[.pointer (some ⟨1, 69, none⟩), .pointer (some ⟨w.heap.size, 0, none⟩), .int .u64 150] 82)).alloc (.cells #[.int .i64 k] 27)).setCell t (.int .i64 k) = w' := by
  have h6 := @run_callFunc_extern Tryd.prog 47 _ (fun args => ReflectliteValue.unpack (args.getD 0 (.tuple #[]))) Tryd.func47 (by kernel_rfl) (by kernel_rfl) (by kernel_rfl) (by kernel_rfl)
  have h7 := @run_callFunc_extern Tryd.prog 48 _ (ReflectliteValue.methodAny (ReflectliteValue.valueError "reflectlite.Value.Type" 0) (fun t _ _ _ => ReflectliteType.toType t)) Tryd.func48 (by kernel_rfl) (by kernel_rfl) (by kernel_rfl) (by kernel_rfl)
  have h8 := @run_callFunc_extern Tryd.prog 49 _ (ReflectliteValue.method (ReflectliteValue.valueError "reflectlite.Value.IsNil" 0) ReflectliteValue.isNil) Tryd.func49 (by kernel_rfl) (by kernel_rfl) (by kernel_rfl) (by kernel_rfl)
  have h27 := @run_callFunc_extern Tryd.prog 76 _ (ReflectliteType.abiMethod fun t => do pure (.int .u8 (← Rtype.kind t))) Tryd.func76 (by kernel_rfl) (by kernel_rfl) (by kernel_rfl) (by kernel_rfl)
  have h37 := @run_callFunc_extern Tryd.prog 86 _ (ReflectliteType.method ReflectliteType.elem) Tryd.func86 (by kernel_rfl) (by kernel_rfl) (by kernel_rfl) (by kernel_rfl)
  have h38 := @run_callFunc_extern Tryd.prog 87 _ (ReflectliteType.relation "Implements" ReflectliteType.implements_) Tryd.func87 (by kernel_rfl) (by kernel_rfl) (by kernel_rfl) (by kernel_rfl)
  have h10 := @run_callFunc_extern Tryd.prog 55 _ ReflectliteType.typeOf Tryd.func55 (by kernel_rfl) (by kernel_rfl) (by kernel_rfl) (by kernel_rfl)
  have h35 := @run_callFunc_extern Tryd.prog 84 _ (ReflectliteType.relation "AssignableTo" ReflectliteType.assignableTo) Tryd.func84 (by kernel_rfl) (by kernel_rfl) (by kernel_rfl) (by kernel_rfl)
  have h11 := @run_callFunc_extern Tryd.prog 56 _ (ReflectliteValue.method (ReflectliteValue.valueError "reflectlite.Value.Elem" 0) ReflectliteValue.elem) Tryd.func56 (by kernel_rfl) (by kernel_rfl) (by kernel_rfl) (by kernel_rfl)
  have h12 := @run_callFunc_extern Tryd.prog 57 _ ReflectliteValue.set Tryd.func57 (by kernel_rfl) (by kernel_rfl) (by kernel_rfl) (by kernel_rfl)
  have tO := typeOfE
  have mA := methodAssignableTo
  have a25 := assignableE
  have v25 := valueOfE
  have f6 := valueOfP
  have f7 := typeP
  have mK := methodKind
  have mE := methodElem
  have mI := methodImplements
  have k27 := kindP
  have k25 := kindE
  have e27 := elemT
  have i25 := implementsE
  have n8 := isNilP ⟨w.heap.size, 0, none⟩ t ((w.alloc (.cells #[.pointer (some t)] 69)).alloc (.cells #[.pointer (some ⟨1, 69, none⟩), .pointer (some ⟨w.heap.size, 0, none⟩), .int .u64 150] 82)) (by simp)
  have hlt : 0 < w.heap.size := World.block_lt_of_cell? _ _ hg
  have hg2 : ((w.alloc (.cells #[.pointer (some t)] 69)).alloc (.cells #[.pointer (some ⟨1, 69, none⟩), .pointer (some ⟨w.heap.size, 0, none⟩), .int .u64 150] 82)).cell? ⟨0, 0, none⟩ = some (.iface 93 (.agg #[.pointer (some ⟨1, 37, none⟩)])) := by
    rw [World.cell?_alloc_lt _ _ ⟨0, 0, none⟩ (by simp <;> omega), World.cell?_alloc_lt _ _ ⟨0, 0, none⟩ hlt]; exact hg
  have htl : t.block < w.heap.size := World.block_lt_of_cell? _ _ ht0
  have el := elemV ⟨w.heap.size, 0, none⟩ t (((w.alloc (.cells #[.pointer (some t)] 69)).alloc (.cells #[.pointer (some ⟨1, 69, none⟩), .pointer (some ⟨w.heap.size, 0, none⟩), .int .u64 150] 82)).alloc (.cells #[.pointer (some ⟨1, 69, none⟩), .pointer (some ⟨w.heap.size, 0, none⟩), .int .u64 150] 82)) (by rw [World.cell?_alloc_lt _ _ ⟨w.heap.size, 0, none⟩ (by simp; omega)]; simp)
  have st := setE t ⟨w.heap.size + 1 + 1 + 1, 0, none⟩ k old ((((w.alloc (.cells #[.pointer (some t)] 69)).alloc (.cells #[.pointer (some ⟨1, 69, none⟩), .pointer (some ⟨w.heap.size, 0, none⟩), .int .u64 150] 82)).alloc (.cells #[.pointer (some ⟨1, 69, none⟩), .pointer (some ⟨w.heap.size, 0, none⟩), .int .u64 150] 82)).alloc (.cells #[.int .i64 k] 27))
    (by rw [World.cell?_alloc_at _ _ _ _ (by simp)]; rfl)
    (by rw [World.cell?_alloc_lt _ _ t (by simp; omega), World.cell?_alloc_lt _ _ t (by simp; omega), World.cell?_alloc_lt _ _ t (by simp; omega), World.cell?_alloc_lt _ _ t htl]; exact ht0)
    (by rw [World.frozen?_alloc_old _ _ t (by simp; omega), World.frozen?_alloc_old _ _ t (by simp; omega), World.frozen?_alloc_old _ _ t (by simp; omega), World.frozen?_alloc_old _ _ t (Nat.ne_of_lt htl)]; exact hf0)
  go_enter Tryd.func36, Tryd.ntmps36
  go_wp2
  refine wp_loop_rounds 1 ?_
  rw [rounds_succ]
  go_wp2
  go_ret
  exact ⟨rfl, rfl⟩

theorem told_nil (w : World) : Calls Tryd.prog 26 #[.nilIface] w fun e w' => e = .returned (.int .i64 0) ∧ Below w.heap.size w w' := by
  go_enter Tryd.func26, Tryd.ntmps26
  go_wp2
  go_ret
  exact ⟨rfl, Below.refl _ _⟩

theorem told_errno (k : Int) (w : World) (hg : Handle w) : Calls Tryd.prog 26 #[.iface 27 (.int .i64 k)] w fun e w' => e = .returned (.int .i64 k) ∧ Below w.heap.size w w' := by
  have hlt : 0 < w.heap.size := World.block_lt_of_cell? _ _ hg
  have hgA : (w.alloc (.cells #[.int .i64 0] 27)).cell? ⟨0, 0, none⟩ = some (.iface 93 (.agg #[.pointer (some ⟨1, 37, none⟩)])) := by
    rw [World.cell?_alloc_lt _ _ ⟨0, 0, none⟩ hlt]; exact hg
  have htA : (w.alloc (.cells #[.int .i64 0] 27)).cell? ⟨w.heap.size, 0, none⟩ = some (.int .i64 0) := by simp
  have hfA : (w.alloc (.cells #[.int .i64 0] 27)).frozen? ⟨w.heap.size, 0, none⟩ = false := by simp
  clear hg
  go_enter Tryd.func26, Tryd.ntmps26
  go_wp2_with (go_at_call 36; refine (as_hit k _ (.int .i64 0) _ hgA htA hfA).mono ?_; rintro e w' ⟨rfl, rfl⟩)
  go_ret
  refine ⟨rfl, ?_⟩
  repeat (first | exact Below.refl _ _ | refine Below.drew ?_ | refine Below.alloc ?_ (by simp <;> omega) _ | refine Below.setCell ?_ (by simp) _)

theorem error_nil (e : Int) (w : World) : Calls Tryd.prog 10 #[.nilIface, .int .i64 e] w fun r w' => r = .returned (.bool (0 == e)) ∧ Below w.heap.size w w' := by
  go_enter Tryd.func10, Tryd.ntmps10
  go_wp2_with (go_at_call 26; refine (told_nil _).mono ?_; rintro e w1 ⟨rfl, hb⟩)
  go_ret
  exact ⟨rfl, hb⟩
theorem error_errno (k e : Int) (w : World) (hg : Handle w) : Calls Tryd.prog 10 #[.iface 27 (.int .i64 k), .int .i64 e] w fun r w' => r = .returned (.bool (k == e)) ∧ Below w.heap.size w w' := by
  go_enter Tryd.func10, Tryd.ntmps10
  go_wp2_with (go_at_call 26; refine (told_errno k _ hg).mono ?_; rintro e w1 ⟨rfl, hb⟩)
  go_ret
  exact ⟨rfl, hb⟩
end Go.Proofs.YtplladlodgfloaaDoor.Told

/- What a row's list gives of the library's variable errors.errorType. -/
namespace Go.Proofs.YtplladlodgfloaaDoor.Told
open Go.RowKit
theorem et : Tryd.prog.globalNamed "errors.errorType" = some 0 := by kernel_rfl
theorem rt : (Tryd.prog.cutTypes.find? (·.1 == "internal/reflectlite.rtype")).map (·.2) = some 93 := by kernel_rfl
theorem oneRow : ((List.range 137).filter fun t => Tryd.prog.rowNamed t [101, 114, 114, 111, 114]) = [37] := by kernel_rfl
theorem size : Tryd.prog.types.size = 137 := by kernel_rfl
theorem handle_of_met {W : World} (h : handlesMet Tryd.prog [("errors.errorType", Rows.laid_errors_errorType)] W) : Handle W := by
  obtain ⟨name, u, ty, e1, e2, e3, e4, e5⟩ := h _ (List.mem_singleton.2 rfl)
  have en : name = [101, 114, 114, 111, 114] := (Option.some.inj e1).symm
  subst en
  obtain rfl := Option.some.inj (rt.symm.trans e2)
  have hm : ty ∈ (List.range 137).filter fun t => Tryd.prog.rowNamed t [101, 114, 114, 111, 114] := List.mem_filter.2 ⟨List.mem_range.2 (by rw [← size]; exact e3), e4⟩
  rw [oneRow] at hm
  obtain rfl := List.mem_singleton.1 hm
  have hh : typeHandle Tryd.prog 37 = .pointer (some ⟨1, 37, none⟩) := by kernel_rfl
  rw [hh] at e5
  simpa [Handle] using World.var?_cell et e5 0
theorem Handle.below {w w' : World} (h : Handle w) (hb : Below w.heap.size w w') : Handle w' := by
  have hlt : 0 < w.heap.size := World.block_lt_of_cell? _ _ h
  exact (hb.cell (p := ⟨0, 0, none⟩) hlt).trans h
end Go.Proofs.YtplladlodgfloaaDoor.Told

/- The statements' own Error of an error and its own number. Conditions: the library's variable that errors.As reads. -/
namespace Go.Proofs.YtplladlodgfloaaDoor.Owns
open Go.RowKit Vals
set_option linter.unusedVariables false
theorem err_ok (f : Int) (w : World) (h : Told.Handle w) : Calls Tryd.prog 10 #[errOf f, .int .i64 f] w fun e w' => e = .returned (.bool true) ∧ Below w.heap.size w w' := by
  by_cases hf : f = 0
  · subst hf
    refine (Told.error_nil 0 w).mono ?_
    rintro e w' ⟨rfl, hb⟩
    exact ⟨by simp, hb⟩
  · rw [errOf_no hf]
    refine (Told.error_errno f f w h).mono ?_
    rintro e w' ⟨rfl, hb⟩
    exact ⟨by simp, hb⟩
end Go.Proofs.YtplladlodgfloaaDoor.Owns

/- A generator without parts, in memory. -/
namespace Go.Proofs.YtplladlodgfloaaDoor.Gens
open Go.RowKit
set_option linter.unusedVariables false
theorem gat_leaf {w : World} {B : Nat} {k a b : Int} (hk : Wf k) (ha : Wf a) (hb : Wf b) : GAt w (GBel B) 1 (.agg #[.int .i64 k, .int .i64 a, .int .i64 b, .slice none 0 0]) (.node k a b []) :=
  ⟨⟨hk, ha, hb⟩, none, 0, rfl, Nat.le_refl _, fun hp => by simp [Gn.subs] at hp⟩
end Go.Proofs.YtplladlodgfloaaDoor.Gens

/- The statements' own 'coin' and 'made'. -/
namespace Go.Proofs.YtplladlodgfloaaDoor.Gens
open Go.RowKit Lists Ints Vals
set_option linter.unusedVariables false

theorem coin_ok (w : World) : Calls Tryd.prog 18 #[] w fun e w' => e = .returned (.agg #[.int .i64 2, .int .i64 3, .int .i64 4, .slice none 0 0]) ∧ Below w.heap.size w w' := by
  go_enter Tryd.func18, Tryd.ntmps18
  go_wp2_with fail
  refine bodyPost_ret (v := .agg #[.int .i64 2, .int .i64 3, .int .i64 4, .slice none 0 0]) (by simp [results, Tryd.results18, go_sem]) rfl ⟨rfl, ?_⟩
  repeat (first | exact Below.refl _ _ | refine Below.alloc ?_ (Nat.le_refl _) _ | refine Below.setCell ?_ (Nat.le_refl w.heap.size) _)

set_option maxHeartbeats 2000000 in
set_option maxRecDepth 100000 in
theorem made_ok (w : World) : Calls Tryd.prog 5 #[] w fun e w' => e = .returned (.bool true) ∧ Below w.heap.size w w' := by
  have CC := Lib.hid (coin_ok w)
  have RR := Lib.hid (fun (W : World) (hb : Below w.heap.size w W) (L : Option Addr) (lc : Nat) (ha : At W W.heap.size L [1]) (hc : 1 ≤ lc) => replay_prog (n := 1) (g := .node 2 3 4 []) (l := [1]) W (gat_leaf (by decide) (by decide) (by decide)) ha hc (by decide) (by decide))
  rw [show repV (.node 2 3 4 []) [1] = .ok (.node false 4 []) by rfl] at RR
  go_enter Tryd.func5, Tryd.ntmps5
  go_wp2_with fail
  refine CC.out.mono ?_
  rintro e w1 ⟨rfl, hb1⟩
  have B1 := Lib.hid hb1
  have A1 := Lib.hid (At.one_new w1 1)
  have B2 := Lib.hid (hb1.trans ((Below.refl w1.heap.size w1).alloc (Nat.le_refl _) (.cells #[.int .i64 1] 3) |>.mono hb1.size))
  clear hb1 CC
  go_wp2_with fail
  have z1 : (w1.alloc (.cells #[.int .i64 1] 3)).heap.size = w1.heap.size + 1 := by simp
  refine (RR.out (w1.alloc (.cells #[.int .i64 1] 3)) B2.out (some ⟨w1.heap.size, 0, none⟩) 1 (by rw [z1]; exact A1.out) (Nat.le_refl _)).mono ?_
  rintro e w3 ⟨A3, c3, rfl, ht, hn, hb3⟩
  have B3 := Lib.hid (below_trans B2.out hb3)
  clear RR ht hn hb3 z1
  simp only [trOf, errI, tval, Tr.list, Tr.num, Tr.items, List.length_nil, errOf_ok]
  go_wp2_with fail
  go_ret
  exact ⟨rfl, Below.alloc B3.out (by have := B3.out.size; omega) _⟩
end Go.Proofs.YtplladlodgfloaaDoor.Gens

/- RoseTells: the walk. Conditions: the sizes; the library's variable that errors.As reads. -/
namespace Go.Proofs.YtplladlodgfloaaDoor.RoTellsLaw
open Go.RowKit Lists Ints Vals Gens Owns
set_option linter.unusedVariables false

/-- what the document's ReplayOf tells, one way -/
def RdE (w : World) (q : Int) (e : Ending) (w' : World) : Prop := ∃ v : Value, e = .returned (.tuple #[v, .int .i64 q]) ∧ Below w.heap.size w w'
theorem rde_of {w w' : World} {r : Except Int Tr} {e : Ending} (h : RpPost w r e w') : RdE w (errI r) e w' := by
  cases r with
  | ok v =>
    obtain ⟨hb, VA, vc, n, he, ht⟩ := h
    exact ⟨_, he, hb⟩
  | error er =>
    obtain ⟨hb, hne, he⟩ := h
    exact ⟨_, he, hb⟩
theorem roseE_of {t : Gn} {l : List Int} (h0 : genV t = 0) : errI (replayG t l) = roseE t l := by
  unfold roseE repV; rw [if_pos h0]; rfl
theorem roseE_bad {t : Gn} {l : List Int} (h0 : ¬ genV t = 0) : roseE t l = genV t := by
  unfold roseE repV; rw [if_neg h0]; rfl
theorem nil_rows (A B : Option Addr) (c d : Nat) (w : World) : Calls Tryd.prog 11 #[.slice A 0 c, .slice B 0 d] w fun e w' => e = .returned (.bool true) ∧ Below w.heap.size w w' :=
  samerows [] [] A B c d w.heap.size w (fun h => by simp at h) (fun h => by simp at h) (Nat.le_refl _) (by simp) (by simp) (by simp) (by simp)

set_option maxHeartbeats 8000000 in
set_option maxRecDepth 100000 in
theorem walk (t : Gn) (A : Option Addr) (c n : Nat) (l : List Int) (L : Option Addr) (lc : Nat) (hbulk : t.size + l.length ≤ 1048576) (w : World) (hg : GAt w (GBel w.heap.size) n (gv t A c) t) (hl : At w w.heap.size L l) (hcap : l.length ≤ lc) (hh : Told.Handle w) :
    Calls Tryd.prog 3 #[gv t A c, .slice L l.length lc] w fun e w' => e = .returned (.bool true) ∧ Below w.heap.size w w' := by
  have hb0 : Below w.heap.size w (w.alloc (gc t A c)) := (Below.refl _ _).alloc (Nat.le_refl _) _
  have g0 : G4 w.heap.size (.int .i64 t.kind) (.int .i64 t.a) (.int .i64 t.b) (.slice A t.subs.length c) (w.alloc (gc t A c)) := new_obj w _
  have JC := Lib.hid (fun (w : World) => made_ok w)
  have GF := Lib.hid (fun (W : World) (hb : Below w.heap.size w W) => gen_any n t A c w.heap.size W (hg.below hb) hb.size (by omega))
  have RD := Lib.hid (fun (h0 : genV t = 0) (W : World) (hb : Below w.heap.size w W) => show Calls Tryd.prog 7 #[gv t A c, .slice L l.length lc] W (RdE W (roseE t l)) by
    refine (replayof_any n t A c l L lc w.heap.size W (hg.below hb) (gen_right h0).1 (by omega) (hl.below hb) hb.size (by have := small_long (gen_right h0).2; omega) (by omega)).mono ?_
    intro e w' h
    rw [← roseE_of h0]
    exact rde_of h)
  have LT := Lib.hid (fun (hz : roseE t l = 0) (W : World) (hb : Below w.heap.size w W) => lesstapes_any W ((hg.below hb).more hb.size) (rep_facts hz).1 ((hl.below hb).more hb.size) hcap (rep_facts hz).2.1 (rep_facts hz).2.2)
  have RO := Lib.hid (fun (W : World) (hb : Below w.heap.size w W) => rose_prog (L := L) (l := l) (lc := lc) W ((hg.below hb).more hb.size) ((hl.below hb).more hb.size) hcap (by omega) (by omega))
  have ET := Lib.hid (fun (f : Int) (W : World) (hb : Below w.heap.size w W) => err_ok f W (hh.below hb))
  have RF := Lib.hid (fun (h0 : genV t = 0) => rose_facts h0 l)
  have LN := Lib.hid (show l.length ≤ 1048576 by omega)
  have RB := Lib.hid (fun (h0 : ¬ genV t = 0) => roseE_bad (l := l) h0)
  have RV0 := Lib.hid (fun (hz : roseE t l = 0) => show roseV t l = roseL t l by unfold roseV; rw [if_pos hz])
  have RV1 := Lib.hid (fun (hz : ¬ roseE t l = 0) => show roseV t l = [] by unfold roseV; rw [if_neg hz])
  have B0 := Lib.hid hb0
  have G0 := Lib.hid g0
  clear hb0 g0 hg hl hcap hbulk hh
  go_enter Tryd.func3, Tryd.ntmps3
  go_wp2_with fail
  generalize w.alloc (gc t A c) = W0 at *
  refine (JC.out _).mono ?_
  rintro e w1 ⟨rfl, hb1⟩
  have B1 := Lib.hid (below_trans B0.out hb1)
  have G1 := Lib.hid (G0.out.below hb1)
  obtain ⟨k0, k1, k2, k3⟩ := G1.out.facts
  clear hb1
  go_wp2_with fail
  ((with_reducible refine (GF.out w1 B1.out).mono ?_))
  rintro e w2 ⟨rfl, hb2⟩
  have B2 := Lib.hid (below_trans B1.out hb2)
  have G2 := Lib.hid (G1.out.below hb2)
  clear hb2 k0 k1 k2 k3
  obtain ⟨k0, k1, k2, k3⟩ := G2.out.facts
  by_cases h0 : genV t = 0
  · by_cases hz : roseE t l = 0
    · have RD2 := Lib.hid (fun W hb => RD.out h0 W hb)
      have LT2 := Lib.hid (fun W hb => LT.out hz W hb)
      have RF2 := Lib.hid (RF.out h0)
      have RO2 := Lib.hid (fun W hb => show Calls Tryd.prog 9 #[gv t A c, .slice L l.length lc] W (RsOk (roseL t l) W) by
        refine (RO.out W hb).mono ?_
        rintro e w' ⟨A5, c5, rfl, h5, h6⟩
        rw [RV0.out hz] at h5 ⊢
        rw [hz, errOf_ok]
        exact ⟨A5, c5, rfl, h5, h6⟩)
      rw [h0]
      rw [hz] at RD2
      clear h0 hz GF RD LT RF RB RV0 RV1 RO
      generalize roseL t l = z at *
      have ZL := Lib.hid (show z.length ≤ 1099511627776 from by have := RF2.out.1; have := LN.out; omega)
      have ZI := Lib.hid (show ∀ x ∈ z, x.length ≤ maxLen from fun x hx => by have := (RF2.out.2 x hx).2.2; simp only [maxLen]; omega)
      go_wp2_with fail
      ((with_reducible refine (RD2.out w2 B2.out).mono ?_))
      rintro e w3 ⟨v3, rfl, hb3⟩
      have B3 := Lib.hid (below_trans B2.out hb3)
      have G3 := Lib.hid (G2.out.below hb3)
      clear hb3 k0 k1 k2 k3
      obtain ⟨k0, k1, k2, k3⟩ := G3.out.facts
      go_wp2_with fail
      ((with_reducible refine (LT2.out w3 B3.out).mono ?_))
      rintro e w4 ⟨A4, c4, rfl, hr4, hb4⟩
      have B4 := Lib.hid (below_trans B3.out hb4)
      have G4' := Lib.hid (G3.out.below hb4)
      have R4 := Lib.hid hr4
      clear hb4 hr4 k0 k1 k2 k3
      obtain ⟨k0, k1, k2, k3⟩ := G4'.out.facts
      go_wp2_with fail
      ((with_reducible refine (RO2.out w4 B4.out).mono ?_))
      rintro e w5 ⟨A5, c5, rfl, ho5, hb5⟩
      have B5 := Lib.hid (below_trans B4.out hb5)
      have R5 := Lib.hid (show RowsWAt w5 w5.heap.size A4 z from (R4.out.below hb5).more hb5.size)
      have S5 := Lib.hid (show RowsWAt w5 w5.heap.size A5 z from ho5.at_.weak)
      clear hb5 ho5 k0 k1 k2 k3
      have E5 := Lib.hid (ET.out 0 w5 B5.out)
      rw [errOf_ok] at E5
      go_wp2_with fail
      ((with_reducible refine E5.out.mono ?_))
      rintro e w6 ⟨rfl, hb6⟩
      have B6 := Lib.hid (below_trans B5.out hb6)
      have SR := samerows z z A5 A4 c5 c4 w6.heap.size w6 ((S5.out.below hb6).more hb6.size) ((R5.out.below hb6).more hb6.size) (Nat.le_refl _) ZL.out ZL.out ZI.out ZI.out
      rw [decide_eq_true (rfl : z = z)] at SR
      have SR := Lib.hid SR
      clear hb6
      go_wp2_with fail
      ((with_reducible refine SR.out.mono ?_))
      rintro e w7 ⟨rfl, hb7⟩
      have B7 := Lib.hid (below_trans B6.out hb7)
      clear hb7
      go_wp2_with fail
      go_ret
      exact ⟨rfl, B7.out⟩
    · have RD2 := Lib.hid (fun W hb => RD.out h0 W hb)
      have RV := Lib.hid (RV1.out hz)
      have RO2 := Lib.hid (fun W hb => show Calls Tryd.prog 9 #[gv t A c, .slice L l.length lc] W (fun e w' => ∃ (A5 : Option Addr) (c5 : Nat), e = .returned (.tuple #[.slice A5 0 c5, errOf (roseE t l)]) ∧ Below W.heap.size W w') by
        refine (RO.out W hb).mono ?_
        rintro e w' ⟨A5, c5, rfl, h5, h6⟩
        rw [RV.out]
        exact ⟨A5, c5, rfl, h6⟩)
      have RE := Lib.hid (show (roseE t l == 0) = false from by rw [beq_eq_false_iff_ne]; exact hz)
      have NR := Lib.hid nil_rows
      rw [h0]
      clear h0 hz GF RD LT RF RB RV0 RV1 RO
      generalize roseE t l = q at *
      have re := RE.out
      go_wp2_with fail
      ((with_reducible refine (RD2.out w2 B2.out).mono ?_))
      rintro e w3 ⟨v3, rfl, hb3⟩
      have B3 := Lib.hid (below_trans B2.out hb3)
      have G3 := Lib.hid (G2.out.below hb3)
      clear hb3 k0 k1 k2 k3
      obtain ⟨k0, k1, k2, k3⟩ := G3.out.facts
      go_wp2_with fail
      ((with_reducible refine (RO2.out w3 B3.out).mono ?_))
      rintro e w5 ⟨A5, c5, rfl, hb5⟩
      have B5 := Lib.hid (below_trans B3.out hb5)
      clear hb5 k0 k1 k2 k3
      have E5 := Lib.hid (ET.out q w5 B5.out)
      generalize errOf q = ev at *
      go_wp2_with fail
      ((with_reducible refine E5.out.mono ?_))
      rintro e w6 ⟨rfl, hb6⟩
      have B6 := Lib.hid (below_trans B5.out hb6)
      clear hb6
      go_wp2_with fail
      refine (NR.out _ _ _ _ _).mono ?_
      rintro e w7 ⟨rfl, hb7⟩
      have B7 := Lib.hid (below_trans B6.out hb7)
      clear hb7
      go_wp2_with fail
      go_ret
      exact ⟨rfl, B7.out⟩
  · have E1 := RB.out h0
    have hz : ¬ roseE t l = 0 := by rw [E1]; exact h0
    have RV := Lib.hid (RV1.out hz)
    have RO2 := Lib.hid (fun W hb => show Calls Tryd.prog 9 #[gv t A c, .slice L l.length lc] W (fun e w' => ∃ (A5 : Option Addr) (c5 : Nat), e = .returned (.tuple #[.slice A5 0 c5, errOf (genV t)]) ∧ Below W.heap.size W w') by
      refine (RO.out W hb).mono ?_
      rintro e w' ⟨A5, c5, rfl, h5, h6⟩
      rw [RV.out, E1]
      exact ⟨A5, c5, rfl, h6⟩)
    have RE := Lib.hid (show (genV t == 0) = false from by rw [beq_eq_false_iff_ne]; exact h0)
    have NR := Lib.hid nil_rows
    clear h0 hz E1 GF RD LT RF RB RV0 RV1 RO
    generalize genV t = q at *
    have re := RE.out
    go_wp2_with fail
    ((with_reducible refine (RO2.out w2 B2.out).mono ?_))
    rintro e w5 ⟨A5, c5, rfl, hb5⟩
    have B5 := Lib.hid (below_trans B2.out hb5)
    clear hb5 k0 k1 k2 k3
    have E5 := Lib.hid (ET.out q w5 B5.out)
    generalize errOf q = ev at *
    go_wp2_with fail
    ((with_reducible refine E5.out.mono ?_))
    rintro e w6 ⟨rfl, hb6⟩
    have B6 := Lib.hid (below_trans B5.out hb6)
    clear hb6
    go_wp2_with fail
    refine (NR.out _ _ _ _ _).mono ?_
    rintro e w7 ⟨rfl, hb7⟩
    have B7 := Lib.hid (below_trans B6.out hb7)
    clear hb7
    go_wp2_with fail
    go_ret
    exact ⟨rfl, B7.out⟩
end Go.Proofs.YtplladlodgfloaaDoor.RoTellsLaw
