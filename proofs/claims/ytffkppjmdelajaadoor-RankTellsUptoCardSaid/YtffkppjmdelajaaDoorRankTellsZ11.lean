/- RankTells, part 11 of the proof: What Played does, as the document's MendOf, MostOf and ReplayOf ask for it. Condition: the sizes. · Contract of the document's own ReplayOf. Condition: the sizes. · An error of the program's, of its number. · The program's Check of generators, but for fits: contracts. Conditions: the size. · The program's Check of generators. Conditions: the size. · In the midst of a list of values that a source's choices make: the row so far, the box that holds it. · The program's value: what it makes of a source's choices. Conditions: a small generator. -/
import Derived.Test.YtffkppjmdelajaaDoorRankTellsZ10
import Derived.Test.YtffkppjmdelajaaDoorRankTellsZ7
import Derived.Test.YtffkppjmdelajaaDoorRankTellsZ1
import Derived.Test.YtffkppjmdelajaaDoorRankTellsZ5
import Derived.Test.YtffkppjmdelajaaDoorRankTellsZ8
import Derived.Deep.RegionLaw
/- What Played does, as the document's MendOf, MostOf and ReplayOf ask for it. Condition: the sizes. -/
namespace Go.Proofs.YtffkppjmdelajaaDoor.Gens
open Go.RowKit Lists Ints Vals
set_option linter.unusedVariables false

theorem plays_all : Plays := by
  intro n g v lb nm VA vl vc t TA tc k l L lc mend B w hg hr hs ht hl hB htl hll hkl
  refine (played_any n g v lb nm VA vl vc t TA tc k l L lc mend B w hg hr hs ht hl hB htl hll hkl).mono ?_
  rintro e w' ⟨hb, h⟩
  refine ⟨hb, ?_⟩
  cases hp : play (chC mend) g (l.drop k) with
  | error er => rw [hp] at h; exact h
  | ok p =>
    obtain ⟨c, v, s⟩ := p
    rw [hp] at h
    obtain ⟨VA', TA', vc', tc', he, hv, ha⟩ := h
    refine ⟨VA', TA', vc', tc', n, he, hv, ?_⟩
    rcases ha with ⟨rfl, rfl⟩ | ha
    · rw [List.append_nil]
      exact (ht.below (hb.mono hB)).more (Nat.le_trans hB hb.size)
    · exact ha.at_
end Go.Proofs.YtffkppjmdelajaaDoor.Gens

/- Contract of the document's own ReplayOf. Condition: the sizes. -/
namespace Go.Proofs.YtffkppjmdelajaaDoor.Gens
open Go.RowKit Lists Ints Vals
set_option linter.unusedVariables false

theorem three_cells2 (w : World) (b : Nat) (x0 x1 x2 : Value) {y0 y1 y2 : Value} (c0 : w.cell? ⟨b, 0, none⟩ = some y0) (c1 : w.cell? ⟨b, 1, none⟩ = some y1) (c2 : w.cell? ⟨b, 2, none⟩ = some y2) (W : World)
    (hW : W = ((w.setCell ⟨b, 0, none⟩ x0).setCell ⟨b, 1, none⟩ x1).setCell ⟨b, 2, none⟩ x2) :
    W.cell? ⟨b, 0, none⟩ = some x0 ∧ W.cell? ⟨b, 1, none⟩ = some x1 ∧ W.cell? ⟨b, 2, none⟩ = some x2 := by
  have far : ∀ (u : World) (i j : Nat) (v : Value), i ≠ j → (u.setCell ⟨b, i, none⟩ v).cell? ⟨b, j, none⟩ = u.cell? ⟨b, j, none⟩ :=
    fun u i j v h => World.cell?_setCell_other _ _ _ _ (fun e => h (by injection e))
  refine ⟨?_, ?_, ?_⟩
  · rw [hW, far _ 2 0 _ (by decide), far _ 1 0 _ (by decide)]
    exact World.cell?_setCell_same _ _ _ c0
  · rw [hW, far _ 2 1 _ (by decide)]
    exact World.cell?_setCell_same _ _ _ ((far _ 0 1 _ (by decide)).trans c1)
  · rw [hW]
    exact World.cell?_setCell_same _ _ _ ((far _ 1 2 _ (by decide)).trans ((far _ 0 2 _ (by decide)).trans c2))
set_option maxHeartbeats 2000000 in
set_option maxRecDepth 100000 in
theorem replayof_any (n : Nat) (g : Gn) (A : Option Addr) (c : Nat) (l : List Int) (L : Option Addr) (lc B : Nat) (w : World) (hg : GAt w (GBel B) n (gv g A c) g) (hr : Right g) (hs : g.size ≤ 4294967296) (hl : At w B L l) (hB : B ≤ w.heap.size)
    (hq : longG g ≤ 4294967296) (hll : l.length ≤ 4294967296) :
    Calls Tryd.prog 16 #[gv g A c, .slice L l.length lc] w (RpPost w (replayG g l)) := by
  have HP := plays_all
  have P := fun w1 (b1 : Below w.heap.size w w1) => HP n g (gv g A c) false 0 none 0 0 [] none 0 0 l L lc false B w1 (hg.below (b1.mono hB)) hr hs At.nil (hl.below (b1.mono hB)) (Nat.le_trans hB b1.size) (by simpa using hq) hll (by simpa using hq)
  simp only [List.drop_zero, chC, List.length_nil] at P
  have LN := fun c v r (h : play readC g l = .ok (c, v, r)) => play_long read_bounded g hr l c v r h
  have TK := fun c v r (h : play readC g l = .ok (c, v, r)) => play_took g l c v r h
  have R := Lib.hid (show replayG g l = match play readC g l with | .ok (_, v, r) => if r = [] then .ok v else .error 3 | .error e => .error e from rfl)
  clear hg hr hs hl hB HP
  generalize play readC g l = q at P LN TK R
  have H0 : Below w.heap.size w ((w.alloc (gc g A c)).alloc (.cells #[.bool false, .int .i64 0, .slice none 0 0] 38)) := ((Below.refl _ _).alloc (Nat.le_refl _) _).alloc (by simp) _
  have P1 := Lib.hid (P _ H0)
  clear P
  cases q with
  | error er =>
    have R := Lib.hid (show replayG g l = .error er from R.out)
    clear LN TK
    go_enter Tryd.func16, Tryd.ntmps16
    go_wp2_with fail
    refine P1.out.mono ?_
    rintro e w1 ⟨b1, hne, lb, nm, VA, vl, vc, TA, tl, tc, k', rfl⟩
    have B1 := Lib.hid (on H0 b1)
    have E1 := (b1.block (w.heap.size + 1) (by simp)).trans (new22 w (gc g A c) (.cells #[.bool false, .int .i64 0, .slice none 0 0] 38))
    have g1 : (er == 0) = false := by rw [beq_eq_false_iff_ne]; exact hne
    have g2 : (er != 0) = true := by rw [bne_iff_ne]; exact hne
    have Z1 : w.heap.size + 1 < w1.heap.size := by have := b1.size; simp at this; omega
    clear b1 H0
    have D0 : w1.cell? ⟨w.heap.size + 1, 0, none⟩ = some (.bool false) := by rw [Lib.cell_of_heap E1]; rfl
    have D1 : w1.cell? ⟨w.heap.size + 1, 1, none⟩ = some (.int .i64 0) := by rw [Lib.cell_of_heap E1]; rfl
    have D2 : w1.cell? ⟨w.heap.size + 1, 2, none⟩ = some (.slice none 0 0) := by rw [Lib.cell_of_heap E1]; rfl
    have F0 := Lib.frozen_of_heap E1 0
    have F1 := Lib.frozen_of_heap E1 1
    have F2 := Lib.frozen_of_heap E1 2
    go_wp2_with fail
    go_region
    go_wp2_with fail
    have Q := three_cells w1 (w.heap.size + 1) (pcs lb nm VA vl vc TA tl tc k' er) (.bool false) (.int .i64 0) (.slice none 0 0) Z1 D0 D1 D2 _ rfl
    have BW : Below w.heap.size w ((((w1.setCell ⟨w.heap.size + 1, 0, none⟩ (.bool false)).setCell ⟨w.heap.size + 1, 1, none⟩ (.int .i64 0)).setCell ⟨w.heap.size + 1, 2, none⟩ (.slice none 0 0)).alloc (pcs lb nm VA vl vc TA tl tc k' er)) := Below.alloc (Below.setCell (Below.setCell (Below.setCell B1.out (by simp only []; omega) _) (by simp only []; omega) _) (by simp only []; omega) _) (by simp; omega) _
    generalize (((w1.setCell ⟨w.heap.size + 1, 0, none⟩ (.bool false)).setCell ⟨w.heap.size + 1, 1, none⟩ (.int .i64 0)).setCell ⟨w.heap.size + 1, 2, none⟩ (.slice none 0 0)).alloc (pcs lb nm VA vl vc TA tl tc k' er) = W at Q BW ⊢
    obtain ⟨q0, q1, q2⟩ := Q
    refine bodyPost_ret (v := .tuple #[.agg #[.bool false, .int .i64 0, .slice none 0 0], .int .i64 er]) (by simp [results, Tryd.results16, go_sem, q0, q1, q2]) rfl ?_
    rw [R.out]
    exact ⟨BW.drew, hne, rfl⟩
  | ok z =>
    obtain ⟨m, v, r⟩ := z
    have hm := LN m v r rfl
    have hk := TK m v r rfl
    have hl2 : l.length = m.length + r.length := by rw [hk, List.length_append]
    clear LN TK hk
    have P2 : Calls Tryd.prog 47 #[gv g A c, pv false 0 none 0 0 none 0 0 0 0, .slice L l.length lc, .bool false] ((w.alloc (gc g A c)).alloc (.cells #[.bool false, .int .i64 0, .slice none 0 0] 38)) (fun e w' =>
        Below ((w.alloc (gc g A c)).alloc (.cells #[.bool false, .int .i64 0, .slice none 0 0] 38)).heap.size ((w.alloc (gc g A c)).alloc (.cells #[.bool false, .int .i64 0, .slice none 0 0] 38)) w' ∧
        ∃ (VA TA : Option Addr) (vc tc n : Nat), e = .returned (pv v.list v.num VA v.items.length vc TA m.length tc m.length 0) ∧ TAt w' (fun b => w.heap.size + 1 < b ∧ b < w'.heap.size) n (.agg #[.bool v.list, .int .i64 v.num, .slice VA v.items.length vc]) v) := by
      refine P1.out.mono ?_
      rintro e w1 ⟨b1, VA, TA, vc, tc, n', rfl, hv, ha⟩
      exact ⟨b1, VA, TA, vc, tc, n', by simp, hv.keep fun b hb => ⟨⟨by have h1 := hb.1; simp at h1; omega, hb.2⟩, fun _ => rfl⟩⟩
    have P2 := Lib.hid P2
    clear P1
    by_cases hr : r = []
    · have R := Lib.hid (show replayG g l = .ok v by rw [R.out]; simp [hr])
      have g1 : decide ((m.length : Int) < l.length) = false := by rw [decide_eq_false_iff_not, hl2, hr]; simp
      have g3 : decide (m.length < l.length) = false := by rw [decide_eq_false_iff_not, hl2, hr]; simp
      have g4 : ¬ m.length < l.length := of_decide_eq_false g3
      have g5 : ¬ (m.length : Int) < l.length := of_decide_eq_false g1
      clear hr hl2
      go_enter Tryd.func16, Tryd.ntmps16
      go_wp2_with fail
      refine P2.out.mono ?_
      rintro e w1 ⟨b1, VA, TA, vc, tc, n', rfl, hv⟩
      have B1 := Lib.hid (on H0 b1)
      have E1 := (b1.block (w.heap.size + 1) (by simp)).trans (new22 w (gc g A c) (.cells #[.bool false, .int .i64 0, .slice none 0 0] 38))
      have Z1 : w.heap.size + 1 < w1.heap.size := by have := b1.size; simp at this; omega
      clear b1 H0
      have D0 : w1.cell? ⟨w.heap.size + 1, 0, none⟩ = some (.bool false) := by rw [Lib.cell_of_heap E1]; rfl
      have D1 : w1.cell? ⟨w.heap.size + 1, 1, none⟩ = some (.int .i64 0) := by rw [Lib.cell_of_heap E1]; rfl
      have D2 : w1.cell? ⟨w.heap.size + 1, 2, none⟩ = some (.slice none 0 0) := by rw [Lib.cell_of_heap E1]; rfl
      have F0 := Lib.frozen_of_heap E1 0
      have F1 := Lib.frozen_of_heap E1 1
      have F2 := Lib.frozen_of_heap E1 2
      have HV := Lib.hid hv
      clear hv
      go_wp2_with fail
      have Q := three_cells w1 (w.heap.size + 1) (.cells #[.bool v.list, .int .i64 v.num, .slice VA v.items.length vc, .slice TA m.length tc, .int .i64 m.length, .int .i64 0] 84) (.bool v.list) (.int .i64 v.num) (.slice VA v.items.length vc) Z1 D0 D1 D2 _ rfl
      have BW : Below w.heap.size w ((((w1.setCell ⟨w.heap.size + 1, 0, none⟩ (.bool v.list)).setCell ⟨w.heap.size + 1, 1, none⟩ (.int .i64 v.num)).setCell ⟨w.heap.size + 1, 2, none⟩ (.slice VA v.items.length vc)).alloc (.cells #[.bool v.list, .int .i64 v.num, .slice VA v.items.length vc, .slice TA m.length tc, .int .i64 m.length, .int .i64 0] 84)) := Below.alloc (Below.setCell (Below.setCell (Below.setCell B1.out (by simp only []; omega) _) (by simp only []; omega) _) (by simp only []; omega) _) (by simp; omega) _
      have GRW := put3_gr w1 (w.heap.size + 1) (.bool v.list) (.int .i64 v.num) (.slice VA v.items.length vc)
      have TW := HV.out.keep (w' := (((w1.setCell ⟨w.heap.size + 1, 0, none⟩ (.bool v.list)).setCell ⟨w.heap.size + 1, 1, none⟩ (.int .i64 v.num)).setCell ⟨w.heap.size + 1, 2, none⟩ (.slice VA v.items.length vc)).alloc (.cells #[.bool v.list, .int .i64 v.num, .slice VA v.items.length vc, .slice TA m.length tc, .int .i64 m.length, .int .i64 0] 84)) (S' := fun b => w.heap.size ≤ b ∧ b < ((((w1.setCell ⟨w.heap.size + 1, 0, none⟩ (.bool v.list)).setCell ⟨w.heap.size + 1, 1, none⟩ (.int .i64 v.num)).setCell ⟨w.heap.size + 1, 2, none⟩ (.slice VA v.items.length vc)).alloc (.cells #[.bool v.list, .int .i64 v.num, .slice VA v.items.length vc, .slice TA m.length tc, .int .i64 m.length, .int .i64 0] 84)).heap.size) (fun b hb => ⟨⟨by have := hb.1; omega, by have h1 := hb.2; have h2 := GRW.size; have h3 := ((Below.refl _ _).alloc (Nat.le_refl _) (.cells #[.bool v.list, .int .i64 v.num, .slice VA v.items.length vc, .slice TA m.length tc, .int .i64 m.length, .int .i64 0] 84) : Below (((w1.setCell ⟨w.heap.size + 1, 0, none⟩ (.bool v.list)).setCell ⟨w.heap.size + 1, 1, none⟩ (.int .i64 v.num)).setCell ⟨w.heap.size + 1, 2, none⟩ (.slice VA v.items.length vc)).heap.size (((w1.setCell ⟨w.heap.size + 1, 0, none⟩ (.bool v.list)).setCell ⟨w.heap.size + 1, 1, none⟩ (.int .i64 v.num)).setCell ⟨w.heap.size + 1, 2, none⟩ (.slice VA v.items.length vc)) _).size; show b < _; omega⟩, fun o => by
        have h1 := hb.1
        have h2 := hb.2
        have h3 := GRW.size
        have e2 := ((Below.refl _ _).alloc (Nat.le_refl _) (.cells #[.bool v.list, .int .i64 v.num, .slice VA v.items.length vc, .slice TA m.length tc, .int .i64 m.length, .int .i64 0] 84) : Below (((w1.setCell ⟨w.heap.size + 1, 0, none⟩ (.bool v.list)).setCell ⟨w.heap.size + 1, 1, none⟩ (.int .i64 v.num)).setCell ⟨w.heap.size + 1, 2, none⟩ (.slice VA v.items.length vc)).heap.size (((w1.setCell ⟨w.heap.size + 1, 0, none⟩ (.bool v.list)).setCell ⟨w.heap.size + 1, 1, none⟩ (.int .i64 v.num)).setCell ⟨w.heap.size + 1, 2, none⟩ (.slice VA v.items.length vc)) _).block b (by omega)
        have e1 := GRW.block b h2 (fun e => by have e := Option.some.inj e; omega)
        exact cell_same (e2.trans e1) o⟩)
      generalize (((w1.setCell ⟨w.heap.size + 1, 0, none⟩ (.bool v.list)).setCell ⟨w.heap.size + 1, 1, none⟩ (.int .i64 v.num)).setCell ⟨w.heap.size + 1, 2, none⟩ (.slice VA v.items.length vc)).alloc (.cells #[.bool v.list, .int .i64 v.num, .slice VA v.items.length vc, .slice TA m.length tc, .int .i64 m.length, .int .i64 0] 84) = W at Q BW TW ⊢
      obtain ⟨q0, q1, q2⟩ := Q
      refine bodyPost_ret (v := .tuple #[.agg #[.bool v.list, .int .i64 v.num, .slice VA v.items.length vc], .int .i64 0]) ?_ rfl ?_
      · simp [results, Tryd.results16, go_sem, q0, q1, q2]
      · rw [R.out]
        exact ⟨BW, VA, vc, n', rfl, TW⟩
    · have R := Lib.hid (show replayG g l = .error 3 by rw [R.out]; simp [hr])
      have g1 : decide ((m.length : Int) < l.length) = true := by rw [decide_eq_true_eq, hl2]; have := List.length_pos_iff.2 hr; omega
      have g4 : m.length < l.length := by have h := of_decide_eq_true g1; omega
      have g3 : decide (m.length < l.length) = true := decide_eq_true g4
      have g5 : (m.length : Int) < l.length := of_decide_eq_true g1
      clear hr hl2
      go_enter Tryd.func16, Tryd.ntmps16
      go_wp2_with fail
      refine P2.out.mono ?_
      rintro e w1 ⟨b1, VA, TA, vc, tc, n', rfl, _⟩
      have B1 := Lib.hid (on H0 b1)
      have E1 := (b1.block (w.heap.size + 1) (by simp)).trans (new22 w (gc g A c) (.cells #[.bool false, .int .i64 0, .slice none 0 0] 38))
      have Z1 : w.heap.size + 1 < w1.heap.size := by have := b1.size; simp at this; omega
      clear b1 H0
      have D0 : w1.cell? ⟨w.heap.size + 1, 0, none⟩ = some (.bool false) := by rw [Lib.cell_of_heap E1]; rfl
      have D1 : w1.cell? ⟨w.heap.size + 1, 1, none⟩ = some (.int .i64 0) := by rw [Lib.cell_of_heap E1]; rfl
      have D2 : w1.cell? ⟨w.heap.size + 1, 2, none⟩ = some (.slice none 0 0) := by rw [Lib.cell_of_heap E1]; rfl
      have F0 := Lib.frozen_of_heap E1 0
      have F1 := Lib.frozen_of_heap E1 1
      have F2 := Lib.frozen_of_heap E1 2
      go_wp2_with fail
      go_region
      go_wp2_with fail
      have Q := three_cells w1 (w.heap.size + 1) (.cells #[.bool v.list, .int .i64 v.num, .slice VA v.items.length vc, .slice TA m.length tc, .int .i64 m.length, .int .i64 3] 84) (.bool false) (.int .i64 0) (.slice none 0 0) Z1 D0 D1 D2 _ rfl
      have BW : Below w.heap.size w ((((w1.setCell ⟨w.heap.size + 1, 0, none⟩ (.bool false)).setCell ⟨w.heap.size + 1, 1, none⟩ (.int .i64 0)).setCell ⟨w.heap.size + 1, 2, none⟩ (.slice none 0 0)).alloc (.cells #[.bool v.list, .int .i64 v.num, .slice VA v.items.length vc, .slice TA m.length tc, .int .i64 m.length, .int .i64 3] 84)) := Below.alloc (Below.setCell (Below.setCell (Below.setCell B1.out (by simp only []; omega) _) (by simp only []; omega) _) (by simp only []; omega) _) (by simp; omega) _
      generalize (((w1.setCell ⟨w.heap.size + 1, 0, none⟩ (.bool false)).setCell ⟨w.heap.size + 1, 1, none⟩ (.int .i64 0)).setCell ⟨w.heap.size + 1, 2, none⟩ (.slice none 0 0)).alloc (.cells #[.bool v.list, .int .i64 v.num, .slice VA v.items.length vc, .slice TA m.length tc, .int .i64 m.length, .int .i64 3] 84) = W at Q BW ⊢
      obtain ⟨q0, q1, q2⟩ := Q
      refine bodyPost_ret (v := .tuple #[.agg #[.bool false, .int .i64 0, .slice none 0 0], .int .i64 3]) (by simp [results, Tryd.results16, go_sem, q0, q1, q2]) rfl ?_
      rw [R.out]
      exact ⟨BW.drew, by decide, rfl⟩
end Go.Proofs.YtffkppjmdelajaaDoor.Gens

/- An error of the program's, of its number. -/
namespace Go.Proofs.YtffkppjmdelajaaDoor.Vals
set_option linter.unusedVariables false
/-- an error of the program's, of its number -/
def errOf (f : Int) : Value := if f = 0 then .nilIface else .iface 30 (.int .i64 f)
theorem errOf_ok : errOf 0 = .nilIface := rfl
theorem errOf_no {f : Int} (h : ¬ f = 0) : errOf f = .iface 30 (.int .i64 f) := if_neg h
end Go.Proofs.YtffkppjmdelajaaDoor.Vals

/- The program's Check of generators, but for fits: contracts. Conditions: the size. -/
namespace Go.Proofs.YtffkppjmdelajaaDoor.Gens
open Go.RowKit Lists Ints Vals
set_option linter.unusedVariables false

theorem inrange_any (x : Int) (w : World) : Calls Tryd.prog 103 #[.int .i64 x] w fun e w' => e = .returned (.bool (!farB x)) ∧ w = w' := by
  by_cases a : -1073741824 ≤ x
  · have g : decide (-1073741824 ≤ x) = true := by rw [decide_eq_true_eq]; exact a
    have HV := Lib.hid (show (!farB x) = decide (x ≤ 1073741824) by
      unfold farB
      rw [show decide (x < -1073741824) = false by rw [decide_eq_false_iff_not]; omega, Bool.false_or]
      by_cases h : 1073741824 < x
      · rw [decide_eq_true h, show decide (x ≤ 1073741824) = false by rw [decide_eq_false_iff_not]; omega]; rfl
      · rw [decide_eq_false h, show decide (x ≤ 1073741824) = true by rw [decide_eq_true_eq]; omega]; rfl)
    go_enter Tryd.func103, Tryd.ntmps103
    go_wp2
    go_ret
    exact ⟨ret_b HV.out.symm, rfl⟩
  · have g : decide (-1073741824 ≤ x) = false := by rw [decide_eq_false_iff_not]; exact a
    have HV := Lib.hid (show (!farB x) = false by
      unfold farB
      rw [show decide (x < -1073741824) = true by rw [decide_eq_true_eq]; omega]; rfl)
    go_enter Tryd.func103, Tryd.ntmps103
    go_wp2
    go_ret
    exact ⟨ret_b HV.out.symm, rfl⟩
theorem near_of {x : Int} (h : farB x = false) : -1073741824 ≤ x ∧ x ≤ 1073741824 := by
  simp only [farB, Bool.or_eq_false_iff] at h
  have := of_decide_eq_false h.1
  have := of_decide_eq_false h.2
  omega

set_option maxHeartbeats 2000000 in
set_option maxRecDepth 100000 in
theorem numbers_any (k a b : Int) (subs : List Gn) (A : Option Addr) (c : Nat) (w : World) (hk : 1 ≤ k) (hk5 : k ≤ 5) :
    Calls Tryd.prog 92 #[.agg #[.int .i64 k, .int .i64 a, .int .i64 b, .slice A subs.length c]] w fun e w' => e = .returned (.bool (!rangeBad (.node k a b subs))) ∧ Below w.heap.size w w' := by
  have H0 := Lib.hid (show Below w.heap.size w (w.alloc (.cells #[.int .i64 k, .int .i64 a, .int .i64 b, .slice A subs.length c] 24)) from (Below.refl _ _).alloc (Nat.le_refl _) _)
  have FA := Lib.hid (fun w => inrange_any a w)
  have FB := Lib.hid (fun w => inrange_any b w)
  have RB := Lib.hid (show rangeBad (.node k a b subs) = ((k == 1 && farB a) || (k == 2 && (farB a || farB b || decide (b < a) || decide (1000 < b - a))) || (k == 4 && (decide (a < 0) || decide (5 < a)))) from rfl)
  rcases (show k = 1 ∨ k = 2 ∨ k = 3 ∨ k = 4 ∨ k = 5 by omega) with rfl | rfl | rfl | rfl | rfl
  · have EV := Lib.hid (show rangeBad (.node 1 a b subs) = farB a by rw [RB.out]; simp)
    go_enter Tryd.func92, Tryd.ntmps92
    go_wp2_with fail
    refine (FA.out _).mono ?_
    rintro e w9 ⟨rfl, rfl⟩
    go_wp2_with fail
    go_ret
    exact ⟨ret_b (by rw [EV.out]), H0.out⟩
  · cases hfa : farB a with
    | true =>
      rw [hfa] at FA
      have EV := Lib.hid (show rangeBad (.node 2 a b subs) = true by rw [RB.out, hfa]; simp)
      clear hfa
      simp only [Bool.not_true] at FA
      go_enter Tryd.func92, Tryd.ntmps92
      go_wp2_with fail
      refine (FA.out _).mono ?_
      rintro e w9 ⟨rfl, rfl⟩
      go_wp2_with fail
      go_ret
      exact ⟨ret_b (by rw [EV.out]; rfl), H0.out⟩
    | false =>
      obtain ⟨a1, a2⟩ := near_of hfa
      rw [hfa] at FA
      simp only [Bool.not_false] at FA
      cases hfb : farB b with
      | true =>
        rw [hfb] at FB
        have EV := Lib.hid (show rangeBad (.node 2 a b subs) = true by rw [RB.out, hfa, hfb]; simp)
        clear hfa hfb
        simp only [Bool.not_true] at FB
        go_enter Tryd.func92, Tryd.ntmps92
        go_wp2_with fail
        refine (FA.out _).mono ?_
        rintro e w9 ⟨rfl, rfl⟩
        go_wp2_with fail
        refine (FB.out _).mono ?_
        rintro e w9 ⟨rfl, rfl⟩
        go_wp2_with fail
        go_ret
        exact ⟨ret_b (by rw [EV.out]; rfl), H0.out⟩
      | false =>
        obtain ⟨b1, b2⟩ := near_of hfb
        rw [hfb] at FB
        simp only [Bool.not_false] at FB
        have EV := Lib.hid (show (!rangeBad (.node 2 a b subs)) = (decide (a ≤ b) && decide (b - a ≤ 1000)) by
          rw [RB.out, hfa, hfb, show decide (b < a) = !decide (a ≤ b) by rw [← decide_not]; exact decide_eq_decide.2 (by omega), show decide (1000 < b - a) = !decide (b - a ≤ 1000) by rw [← decide_not]; exact decide_eq_decide.2 (by omega)]
          cases decide (a ≤ b) <;> cases decide (b - a ≤ 1000) <;> rfl)
        clear hfa hfb
        by_cases hab : a ≤ b
        · have g1 : decide (a ≤ b) = true := by rw [decide_eq_true_eq]; exact hab
          have EV := Lib.hid (show (!rangeBad (.node 2 a b subs)) = decide (b - a ≤ 1000) by rw [EV.out, g1, Bool.true_and])
          go_enter Tryd.func92, Tryd.ntmps92
          go_wp2_with fail
          refine (FA.out _).mono ?_
          rintro e w9 ⟨rfl, rfl⟩
          go_wp2_with fail
          refine (FB.out _).mono ?_
          rintro e w9 ⟨rfl, rfl⟩
          go_wp2_with fail
          go_ret
          exact ⟨ret_b EV.out.symm, H0.out⟩
        · have g1 : decide (a ≤ b) = false := by rw [decide_eq_false_iff_not]; exact hab
          have EV := Lib.hid (show (!rangeBad (.node 2 a b subs)) = false by rw [EV.out, g1, Bool.false_and])
          go_enter Tryd.func92, Tryd.ntmps92
          go_wp2_with fail
          refine (FA.out _).mono ?_
          rintro e w9 ⟨rfl, rfl⟩
          go_wp2_with fail
          refine (FB.out _).mono ?_
          rintro e w9 ⟨rfl, rfl⟩
          go_wp2_with fail
          go_ret
          exact ⟨ret_b EV.out.symm, H0.out⟩
  · have EV := Lib.hid (show rangeBad (.node 3 a b subs) = false by rw [RB.out]; simp)
    go_enter Tryd.func92, Tryd.ntmps92
    go_wp2_with fail
    go_ret
    exact ⟨ret_b (by rw [EV.out]; rfl), H0.out⟩
  · have EV := Lib.hid (show (!rangeBad (.node 4 a b subs)) = (decide (0 ≤ a) && decide (a ≤ 5)) by
      rw [RB.out, show decide (a < 0) = !decide (0 ≤ a) by rw [← decide_not]; exact decide_eq_decide.2 (by omega), show decide (5 < a) = !decide (a ≤ 5) by rw [← decide_not]; exact decide_eq_decide.2 (by omega)]
      cases decide (0 ≤ a) <;> cases decide (a ≤ 5) <;> rfl)
    by_cases hab : 0 ≤ a
    · have g1 : decide (0 ≤ a) = true := by rw [decide_eq_true_eq]; exact hab
      have EV := Lib.hid (show (!rangeBad (.node 4 a b subs)) = decide (a ≤ 5) by rw [EV.out, g1, Bool.true_and])
      go_enter Tryd.func92, Tryd.ntmps92
      go_wp2_with fail
      go_ret
      exact ⟨ret_b EV.out.symm, H0.out⟩
    · have g1 : decide (0 ≤ a) = false := by rw [decide_eq_false_iff_not]; exact hab
      have EV := Lib.hid (show (!rangeBad (.node 4 a b subs)) = false by rw [EV.out, g1, Bool.false_and])
      go_enter Tryd.func92, Tryd.ntmps92
      go_wp2_with fail
      go_ret
      exact ⟨ret_b EV.out.symm, H0.out⟩
  · have EV := Lib.hid (show rangeBad (.node 5 a b subs) = false by rw [RB.out]; simp)
    go_enter Tryd.func92, Tryd.ntmps92
    go_wp2_with fail
    go_ret
    exact ⟨ret_b (by rw [EV.out]; rfl), H0.out⟩

set_option maxHeartbeats 2000000 in
set_option maxRecDepth 100000 in
theorem subsfit_any (k a b : Int) (subs : List Gn) (A : Option Addr) (c : Nat) (w : World) (hk : 1 ≤ k) (hk5 : k ≤ 5) (hln : subs.length ≤ 4294967296) :
    Calls Tryd.prog 93 #[.agg #[.int .i64 k, .int .i64 a, .int .i64 b, .slice A subs.length c]] w fun e w' => e = .returned (.bool (!subsBad (.node k a b subs))) ∧ Below w.heap.size w w' := by
  have H0 := Lib.hid (show Below w.heap.size w (w.alloc (.cells #[.int .i64 k, .int .i64 a, .int .i64 b, .slice A subs.length c] 24)) from (Below.refl _ _).alloc (Nat.le_refl _) _)
  have RB := Lib.hid (show subsBad (.node k a b subs) = ((decide (k ≤ 2) && !subs.isEmpty) || (k == 4 && (subs.length != 1)) || (k == 5 && subs.isEmpty)) from rfl)
  have IE : subs.isEmpty = decide (subs.length = 0) := by cases subs <;> simp
  have EV := Lib.hid (show (!subsBad (.node k a b subs)) = if k = 1 ∨ k = 2 then ((subs.length : Int) == 0) else if k = 4 then ((subs.length : Int) == 1) else if k = 5 then decide (0 < (subs.length : Int)) else true by
    rw [RB.out, IE]
    by_cases z : subs.length = 0
    · rw [z]
      rcases (show k = 1 ∨ k = 2 ∨ k = 3 ∨ k = 4 ∨ k = 5 by omega) with rfl | rfl | rfl | rfl | rfl <;> simp
    · have z1 : ((subs.length : Int) == 0) = false := by rw [beq_eq_false_iff_ne]; omega
      have z2 : decide (0 < (subs.length : Int)) = true := by rw [decide_eq_true_eq]; omega
      by_cases y : subs.length = 1
      · rw [z1, z2, y]
        rcases (show k = 1 ∨ k = 2 ∨ k = 3 ∨ k = 4 ∨ k = 5 by omega) with rfl | rfl | rfl | rfl | rfl <;> simp
      · have y1 : ((subs.length : Int) == 1) = false := by rw [beq_eq_false_iff_ne]; omega
        have y2 : (subs.length != 1) = true := by rw [bne_iff_ne]; exact y
        rw [z1, z2, y1, y2]
        rcases (show k = 1 ∨ k = 2 ∨ k = 3 ∨ k = 4 ∨ k = 5 by omega) with rfl | rfl | rfl | rfl | rfl <;> simp [z])
  clear IE
  rcases (show k = 1 ∨ k = 2 ∨ k = 3 ∨ k = 4 ∨ k = 5 by omega) with rfl | rfl | rfl | rfl | rfl
  all_goals
    simp at EV
    go_enter Tryd.func93, Tryd.ntmps93
    go_wp2_with fail
    go_ret
    exact ⟨ret_b (by rw [EV.out]; simp), H0.out⟩

/-- what is wrong with a part by itself -/
def partOne (t : Gn) : Int := if kindBad t = true then 3 else if rangeBad t = true then 1 else if subsBad t = true then 3 else 0
theorem partV_one (t : Gn) : partV t = if partOne t = 0 then partVs t.subs else partOne t := by
  rw [partV_eq]; unfold partOne
  split
  · simp
  · split
    · simp
    · split <;> simp

set_option maxHeartbeats 2000000 in
set_option maxRecDepth 100000 in
theorem part_one (k a b : Int) (subs : List Gn) (A : Option Addr) (c : Nat) (w : World) (hwk : I64 k) (hln : subs.length ≤ 4294967296) :
    Calls Tryd.prog 70 #[.agg #[.int .i64 k, .int .i64 a, .int .i64 b, .slice A subs.length c]] w fun e w' => e = .returned (errOf (partOne (.node k a b subs))) ∧ Below w.heap.size w w' := by
  have hh : Below w.heap.size w (w.alloc (.cells #[.int .i64 k, .int .i64 a, .int .i64 b, .slice A subs.length c] 24)) := (Below.refl _ _).alloc (Nat.le_refl _) _
  have H0 := Lib.hid hh
  clear hh
  by_cases h1 : k < 1
  · have EV := Lib.hid (show partOne (.node k a b subs) = 3 by unfold partOne; rw [if_pos (by show (decide (k < 1) || decide (5 < k)) = true; rw [decide_eq_true h1]; rfl)])
    have g : decide (k < 1) = true := by rw [decide_eq_true_eq]; exact h1
    go_enter Tryd.func70, Tryd.ntmps70
    go_wp2_with fail
    go_ret
    exact ⟨ret_v (by rw [EV.out]; rfl), H0.out⟩
  · have g : decide (k < 1) = false := by rw [decide_eq_false_iff_not]; exact h1
    by_cases h5 : 5 < k
    · have EV := Lib.hid (show partOne (.node k a b subs) = 3 by unfold partOne; rw [if_pos (by show (decide (k < 1) || decide (5 < k)) = true; rw [decide_eq_true h5]; simp)])
      have g' : decide (5 < k) = true := by rw [decide_eq_true_eq]; exact h5
      go_enter Tryd.func70, Tryd.ntmps70
      go_wp2_with fail
      go_ret
      exact ⟨ret_v (by rw [EV.out]; rfl), H0.out⟩
    · have g' : decide (5 < k) = false := by rw [decide_eq_false_iff_not]; exact h5
      have EV := Lib.hid (show partOne (.node k a b subs) = if rangeBad (.node k a b subs) = true then 1 else if subsBad (.node k a b subs) = true then 3 else 0 by unfold partOne; rw [if_neg (by show ¬ (decide (k < 1) || decide (5 < k)) = true; rw [decide_eq_false h1, decide_eq_false h5]; simp)])
      have N1 := numbers_any k a b subs A c (w.alloc (.cells #[.int .i64 k, .int .i64 a, .int .i64 b, .slice A subs.length c] 24)) (by omega) (by omega)
      have S1 := Lib.hid (fun w => subsfit_any k a b subs A c w (by omega) (by omega) hln)
      cases hr : rangeBad (.node k a b subs) with
      | true =>
        rw [hr] at N1 EV
        simp only [Bool.not_true] at N1
        have N1 := Lib.hid N1
        go_enter Tryd.func70, Tryd.ntmps70
        go_wp2_with fail
        refine N1.out.mono ?_
        rintro e w2 ⟨rfl, hb2⟩
        have B2 := Lib.hid (on H0.out hb2)
        clear hb2
        go_wp2_with fail
        go_ret
        exact ⟨ret_v (by rw [EV.out]; rfl), B2.out⟩
      | false =>
        rw [hr] at N1 EV
        simp only [Bool.not_false] at N1
        have N1 := Lib.hid N1
        cases hs : subsBad (.node k a b subs) with
        | true =>
          rw [hs] at S1 EV
          simp only [Bool.not_true] at S1
          go_enter Tryd.func70, Tryd.ntmps70
          go_wp2_with fail
          refine N1.out.mono ?_
          rintro e w2 ⟨rfl, hb2⟩
          have B2 := Lib.hid (on H0.out hb2)
          obtain ⟨c0, c1, c2, c3⟩ := gbox w w2 _ _ _ _ hb2
          clear hb2
          go_wp2_with fail
          refine (S1.out w2).mono ?_
          rintro e w3 ⟨rfl, hb3⟩
          have B3 := Lib.hid (on B2.out hb3)
          clear hb3
          go_wp2_with fail
          go_ret
          exact ⟨ret_v (by rw [EV.out]; rfl), B3.out⟩
        | false =>
          rw [hs] at S1 EV
          simp only [Bool.not_false] at S1
          go_enter Tryd.func70, Tryd.ntmps70
          go_wp2_with fail
          refine N1.out.mono ?_
          rintro e w2 ⟨rfl, hb2⟩
          have B2 := Lib.hid (on H0.out hb2)
          obtain ⟨c0, c1, c2, c3⟩ := gbox w w2 _ _ _ _ hb2
          clear hb2
          go_wp2_with fail
          refine (S1.out w2).mono ?_
          rintro e w3 ⟨rfl, hb3⟩
          have B3 := Lib.hid (on B2.out hb3)
          clear hb3
          go_wp2_with fail
          go_ret
          exact ⟨ret_v (by rw [EV.out]; rfl), B3.out⟩

set_option maxHeartbeats 2000000 in
set_option maxRecDepth 100000 in
theorem parts_any : ∀ (n : Nat) (t : Gn) (v : Value) (B : Nat) (w : World), GAt w (GBel B) n v t → B ≤ w.heap.size → t.size ≤ 4294967296 →
    Calls Tryd.prog 46 #[v] w fun e w' => e = .returned (errOf (partV t)) ∧ Below w.heap.size w w' := by
  intro n
  induction n with
  | zero => intro t v B w h; exact h.elim
  | succ n ih =>
    intro t v B w h hB hsz
    obtain ⟨m, A, c, e, hw, rfl, hit⟩ := h.open_
    obtain rfl : n = m := by omega
    have IH := Lib.hid ih
    have HIT := Lib.hid hit
    have HB := Lib.hid hB
    have HS := Lib.hid hsz
    have hln : t.subs.length ≤ 4294967296 := by have := glen_sizes t.subs; have := gsize_subs t; omega
    have EQ := Lib.hid (partV_one t)
    have b0 : Below w.heap.size w (w.alloc (gc t A c)) := (Below.refl _ _).alloc (Nat.le_refl _) _
    have H0 := Lib.hid b0
    have SB := Lib.hid (gsize_subs t)
    have P1 := part_one t.kind t.a t.b t.subs A c (w.alloc (gc t A c)) (i64_wf hw.1) hln
    rw [show Gn.node t.kind t.a t.b t.subs = t by cases t; rfl] at P1
    clear ih hit h hB hsz e hw b0
    by_cases hz : partOne t = 0
    · rw [hz, errOf_ok] at P1
      have P1 := Lib.hid P1
      have EQ := Lib.hid (show partV t = partVs t.subs by rw [EQ.out, if_pos hz])
      clear hz
      go_enter Tryd.func46, Tryd.ntmps46
      go_wp2_with fail
      refine P1.out.mono ?_
      rintro e w2 ⟨rfl, hb2⟩
      have B2 := Lib.hid (on H0.out hb2)
      obtain ⟨c0, c1, c2, c3⟩ := gbox w w2 _ _ _ _ hb2
      clear hb2 P1
      go_wp2_with fail
      clear c0 c1 c2 c3
      go_loopw [15] (fun i wr => ∃ k : Nat, k ≤ t.subs.length ∧ i = .int .i64 k ∧ Hid (Below w.heap.size w wr) ∧ Hid (partVs (t.subs.take k) = 0)) (fun i _ => t.subs.length - (intOf i).toNat)
      case atStart => exact ⟨0, Nat.zero_le _, rfl, B2.out, (show partVs (t.subs.take 0) = 0 from rfl)⟩
      case round =>
        obtain ⟨k, hk, rfl, hw, hz⟩ := hrel
        have hs2 := Lib.hid hw.out.size
        by_cases hlt : k < t.subs.length
        · obtain ⟨ib, off, D, d, rfl, c0, c1, c2, c3, hti⟩ := sub_as HIT.out (hw.out.mono HB.out) k hlt
          have hsi : (t.subs[k]'hlt).size ≤ 4294967296 := by have := gsize_mem t.subs _ (List.getElem_mem hlt); have h3 := HS.out; have := SB.out; omega
          have ba : Below wr.heap.size wr (wr.alloc (gc (t.subs[k]'hlt) D d)) := (Below.refl _ _).alloc (Nat.le_refl _) _
          have bsz : B ≤ wr.heap.size := Nat.le_trans HB.out hs2.out
          have C1 := IH.out (t.subs[k]'hlt) _ B _ (hti.below (ba.mono bsz)) (by have := HB.out; have := hs2.out; simp; omega) hsi
          clear hti hsi
          by_cases hf : partV (t.subs[k]'hlt) = 0
          · have hz2 := Lib.hid (part_step0 t.subs k hlt hz.out hf)
            rw [hf, errOf_ok] at C1
            have HC1 := Lib.hid C1
            have HA := Lib.hid ba
            clear C1 hf ba
            generalize t.subs[k]'hlt = y at HC1 c0 c1 c2 c3 HA
            go_wp2_with fail
            refine HC1.out.mono ?_
            rintro e w3 ⟨rfl, hb3⟩
            have B3 := Lib.hid (hw.out.trans ((on HA.out hb3).mono hs2.out))
            clear hb3
            go_wp2_with fail
            go_roundw
            case rel => exact ⟨k + 1, hlt, by go_num, B3.out, hz2.out⟩
            case measure => simp [intOf]; omega
          · have hr := Lib.hid (part_step1 t.subs k hlt hz.out hf)
            rw [errOf_no hf] at C1
            have RE := Lib.hid (errOf_no hf)
            generalize partV (t.subs[k]'hlt) = q at C1 hr RE
            have HC1 := Lib.hid C1
            have HA := Lib.hid ba
            clear C1 hf ba
            generalize t.subs[k]'hlt = y at HC1 c0 c1 c2 c3 HA
            go_wp2_with fail
            refine HC1.out.mono ?_
            rintro e w3 ⟨rfl, hb3⟩
            have B3 := Lib.hid (hw.out.trans ((on HA.out hb3).mono hs2.out))
            clear hb3
            go_wp2_with fail
            go_ret
            exact ⟨ret_v (a := .iface 30 (.int .i64 q)) (by rw [EQ.out, ← hr.out, RE.out]), B3.out⟩
        · have hr := Lib.hid (show partVs t.subs = 0 by rw [← List.take_of_length_le (show t.subs.length ≤ k by omega)]; exact hz.out)
          go_wp2_with fail
          go_ret
          exact ⟨by rw [EQ.out, hr.out]; rfl, hw.out⟩
    · have RE := Lib.hid (errOf_no hz)
      rw [errOf_no hz] at P1
      have EQ := Lib.hid (show partV t = partOne t by rw [EQ.out, if_neg hz])
      generalize partOne t = q at P1 EQ RE
      have P1 := Lib.hid P1
      clear hz
      go_enter Tryd.func46, Tryd.ntmps46
      go_wp2_with fail
      refine P1.out.mono ?_
      rintro e w2 ⟨rfl, hb2⟩
      have B2 := Lib.hid (on H0.out hb2)
      clear hb2 P1
      go_wp2_with fail
      go_ret
      exact ⟨ret_v (a := .iface 30 (.int .i64 q)) (by rw [EQ.out, RE.out]), B2.out⟩
end Go.Proofs.YtffkppjmdelajaaDoor.Gens

/- The program's Check of generators. Conditions: the size. -/
namespace Go.Proofs.YtffkppjmdelajaaDoor.Gens
open Go.RowKit Lists Ints Vals
set_option linter.unusedVariables false

theorem gen_right {t : Gn} (h : genV t = 0) : Right t ∧ (largeG t 0).2 = false := by
  unfold genV at h
  by_cases hl : (largeG t 0).2 = true
  · rw [if_pos hl] at h; cases h
  · rw [if_neg hl] at h
    exact ⟨h, by simpa using hl⟩
set_option maxHeartbeats 2000000 in
set_option maxRecDepth 100000 in
theorem gcheck {n : Nat} {t : Gn} {v : Value} {B : Nat} (w : World) (h : GAt w (GBel B) n v t) (hB : B ≤ w.heap.size) (hsz : t.size ≤ 4294967296) :
    Calls Tryd.prog 14 #[v] w fun e w' => e = .returned (errOf (genV t)) ∧ Below w.heap.size w w' := by
  obtain ⟨m, A, c, e, hw, rfl, _⟩ := h.open_
  have b1 : Below w.heap.size w (w.alloc (gc t A c)) := (Below.refl _ _).alloc (Nat.le_refl _) _
  have s1 : (w.alloc (gc t A c)).heap.size = w.heap.size + 1 := by simp
  have b2 : Below (w.alloc (gc t A c)).heap.size (w.alloc (gc t A c)) ((w.alloc (gc t A c)).alloc (.cells #[.int .i64 0] 3)) := (Below.refl _ _).alloc (Nat.le_refl _) _
  have p2 : PB (w.heap.size + 1) 0 ((w.alloc (gc t A c)).alloc (.cells #[.int .i64 0] 3)) := by
    have := gheap_new (w.alloc (gc t A c)) (.cells #[.int .i64 0] 3)
    rw [s1] at this; exact this
  have g0 : (w.alloc (gc t A c)).heap[w.heap.size]? = some (gc t A c) := gheap_new w _
  have HH := Lib.hid (fun (W : World) (hb : Below (w.alloc (gc t A c)).heap.size (w.alloc (gc t A c)) W) => gbox w W _ _ _ _ hb)
  have hh2 := h.below (b1.mono hB)
  have C1 := fits_any n t _ B (w.heap.size + 1) 0 0 0 0 _ (hh2.below (b2.mono (by omega))) (by omega) p2 hsz rfl (by omega) rfl (by omega)
  rw [fits_large] at C1
  have C2 := Lib.hid (fun (W : World) (hb : Below w.heap.size w W) => parts_any n t _ B W (h.below (hb.mono hB)) (Nat.le_trans hB hb.size) hsz)
  have EV := Lib.hid (show genV t = if (largeG t 0).2 = true then 4 else partV t from rfl)
  have BB := Lib.hid (And.intro b1 b2)
  clear h hB hsz e hw hh2 p2 g0 b1 b2
  cases hl : (largeG t 0).2 with
  | true =>
    rw [hl] at C1 EV
    simp only [Bool.not_true] at C1
    have C1 := Lib.hid C1
    clear hl
    go_enter Tryd.func14, Tryd.ntmps14
    go_wp2_with fail
    refine C1.out.mono ?_
    rintro e w2 ⟨rfl, hp2, hg2⟩
    have B3 := Lib.hid (on BB.out.1 (BB.out.2.trans (gr_to hg2 (show (w.alloc (gc t A c)).heap.size ≤ w.heap.size + 1 by omega) (by simp))))
    clear hp2 hg2
    go_wp2_with fail
    go_ret
    exact ⟨ret_v (by rw [EV.out]; rfl), B3.out⟩
  | false =>
    rw [hl] at C1 EV
    simp only [Bool.not_false] at C1
    have C1 := Lib.hid C1
    clear hl
    go_enter Tryd.func14, Tryd.ntmps14
    go_wp2_with fail
    refine C1.out.mono ?_
    rintro e w2 ⟨rfl, hp2, hg2⟩
    have b3 := BB.out.2.trans (gr_to hg2 (show (w.alloc (gc t A c)).heap.size ≤ w.heap.size + 1 by omega) (by simp))
    obtain ⟨k0, k1, k2, k3⟩ := HH.out w2 b3
    have B3 := Lib.hid (on BB.out.1 b3)
    have C2 := Lib.hid (C2.out w2 B3.out)
    clear hp2 hg2 b3
    go_wp2_with fail
    refine C2.out.mono ?_
    rintro e w3 ⟨rfl, hb3⟩
    have B4 := Lib.hid (on B3.out hb3)
    clear hb3
    go_wp2_with fail
    go_ret
    exact ⟨ret_v (by rw [EV.out]; rfl), B4.out⟩
end Go.Proofs.YtffkppjmdelajaaDoor.Gens

/- In the midst of a list of values that a source's choices make: the row so far, the box that holds it. -/
namespace Go.Proofs.YtffkppjmdelajaaDoor.Gens
open Go.RowKit Go.ChangeShapes Lists Ints Vals
set_option linter.unusedVariables false

theorem OwnX.keep {w w' : World} {base c d : Nat} {A : Option Addr} {acc : List Tr} {X : Nat → Prop} (h : OwnX w base A c acc d X) (hs : w.heap.size ≤ w'.heap.size) (hk : ∀ b, base ≤ b → b < w.heap.size → w'.heap[b]? = w.heap[b]?) : OwnX w' base A c acc d X := by
  have hg := h.t.ge
  obtain ⟨hn, xs, h1, h2, h3⟩ := h
  refine ⟨hn, xs, h1, ⟨h2.1, ?_⟩, fun j hj hj' => (h3 j hj hj').keep fun b hb => ⟨⟨hb.1, Nat.lt_of_lt_of_le hb.2.1 hs, hb.2.2.1, hb.2.2.2⟩, fun o => World.cell?_of_block (hk b hb.1 hb.2.1)⟩⟩
  rcases h2.2 with h0 | ⟨g, cap, cur, he, hbg, hh, r⟩
  · exact .inl h0
  · exact .inr ⟨g, cap, cur, he, hbg, (hk g hbg (Array.getElem?_eq_some_iff.1 hh).1).trans hh, r⟩
theorem step_append_x {ops : Array Oper} {o : Oper} {a : Act} {w : World} {K : Act → World → Prop} {Q : Exit → Act → World → Prop} {E : Prop} (hgd : o.guard = none) (s x : Operand)
    (ho : o.op = .call { callee := .builtin .append, args := #[s, x], argTypes := #[36, 36] })
    (base c d : Nat) (A : Option Addr) (acc : List Tr) (X : Nat → Prop) (hX : ∀ b, X b → b < w.heap.size) (hown : OwnX w base A c acc d X) (b : Nat) (x0 x1 x2 : Value) (c2 : Nat) (t : Tr)
    (k0 : w.cell? ⟨b, 0, none⟩ = some x0) (k1 : w.cell? ⟨b, 1, none⟩ = some x1) (k2 : w.cell? ⟨b, 2, none⟩ = some x2) (one : x0.oneCell' = true ∧ x1.oneCell' = true ∧ x2.oneCell' = true)
    (ht : TAt w (MineX w base A X) d (.agg #[x0, x1, x2]) t)
    (hs : a.eval s = .slice A acc.length c) (hx : a.eval x = .slice (some ⟨b, 0, none⟩) 1 c2)
    (h63 : acc.length + 1 ≤ 1099511627776) (hbase : base ≤ w.heap.size)
    (h : ∀ A' c' w' (zl : List Tr), Hid (zl = acc ++ [t]) → OwnX w' base A' c' zl d X → w.grownBy w' (blockOf A) → K (a.put o.dst (.slice A' zl.length c')) w') :
    if Region.wanted o (yielded ops a.tmps) = true then Oper.wp Tryd.prog o a w K Q else E := by
  have hw : Region.wanted o (yielded ops a.tmps) = true := by simp [Region.wanted, hgd]
  rw [if_pos hw]
  obtain ⟨A', c', w', hrun, h2, h3⟩ := run_append_x w base c d A acc X hX hown b x0 x1 x2 c2 t k0 k1 k2 one ht h63 hbase o.type
  unfold Oper.wp execOp
  simp only [ho, resolve, invoke, builtin, Sem.run_bind, Sem.run_pure, Result.andThen_ok, List.map_toArray, List.map_cons, List.map_nil, hs, hx, hrun]
  exact h A' c' w' _ rfl h2 h3

section
variable {σ : Type} {ch : σ → Int → Except Int (Int × σ)} {k : Nat} {cap : Array Value} {B : Nat} {I : σ → (Nat → Prop) → World → Prop}
/-- j of the generators l have made the values acc: they lie in the row at A, which the value in box vb holds; w: the world at the call, base: where the row may begin. -/
structure Mid (ch : σ → Int → Except Int (Int × σ)) (I : σ → (Nat → Prop) → World → Prop) (l : List Gn) (s : σ) (X : Nat → Prop) (w : World) (vb base n j : Nat) (acc : List Tr) (sj : σ) (Xj : Nat → Prop) (A : Option Addr) (c : Nat) (wr : World) : Prop where
  le : j ≤ l.length
  run : ∃ cs, playAll ch (l.take j) s = .ok (cs, acc, sj)
  len : acc.length = j
  inv : I sj Xj wr
  mv : Mv X w wr Xj
  row : OwnX wr base A c acc n Xj
  box : V3 vb (.bool true) (.int .i64 0) (.slice A acc.length c) wr
  lo : w.heap.size ≤ vb
  hi : vb < base
  base : base ≤ wr.heap.size
  out : ¬ Xj vb
theorem all_len : ∀ (l : List Gn) (s : σ) (c : List Int) (vs : List Tr) (s1 : σ), playAll ch l s = .ok (c, vs, s1) → vs.length = l.length
  | [], s, c, vs, s1, h => by
    simp only [playAll, Except.ok.injEq, Prod.mk.injEq] at h
    obtain ⟨_, rfl, _⟩ := h
    rfl
  | g :: l, s, c, vs, s1, h => by
    simp only [playAll] at h
    cases h1 : play ch g s with
    | error e => rw [h1] at h; cases h
    | ok p =>
      obtain ⟨c1, v, s3⟩ := p
      simp only [h1] at h
      cases h3 : playAll ch l s3 with
      | error e => simp only [h3] at h; cases h
      | ok q =>
        obtain ⟨c4, vs4, s4⟩ := q
        simp only [h3, Except.ok.injEq, Prod.mk.injEq] at h
        obtain ⟨_, rfl, _⟩ := h
        simp [all_len l s3 c4 vs4 s4 h3]
theorem Mid.start (S : Src ch k cap B I) {l : List Gn} {s : σ} {X : Nat → Prop} {w W : World} {vb base n : Nat} (hI : I s X w) (hb : Below w.heap.size w W) (hv : V3 vb (.bool true) (.int .i64 0) (.slice none 0 0) W) (hlo : w.heap.size ≤ vb) (hhi : vb < base) (hbase : base ≤ W.heap.size) :
    Mid ch I l s X w vb base n 0 [] s X none 0 W :=
  ⟨Nat.zero_le _, ⟨[], by simp [playAll]⟩, rfl, S.below hI hb, Mv.of_below hb, OwnX.none_, hv, hlo, hhi, hbase, S.not hI hlo⟩
/-- what a further choice leaves of it, ahead of the call of value: memory was made -/
theorem Mid.later (S : Src ch k cap B I) {l : List Gn} {s sj : σ} {X Xj : Nat → Prop} {w wr wr2 : World} {vb base n j c : Nat} {acc : List Tr} {A : Option Addr} (h : Mid ch I l s X w vb base n j acc sj Xj A c wr) (hb : Below wr.heap.size wr wr2) : Mid ch I l s X w vb base n j acc sj Xj A c wr2 :=
  ⟨h.le, h.run, h.len, S.below h.inv hb, Mv.later h.mv hb, h.row.mv (Mv.of_below hb), h.box.below hb, h.lo, h.hi, Nat.le_trans h.base hb.size, h.out⟩
/-- what the call gives: the row as it was, the value among what the row may hold -/
theorem Mid.called (S : Src ch k cap B I) {l : List Gn} {s sj s' : σ} {X Xj X' : Nat → Prop} {w wr w3 w4 : World} {vb base n j c : Nat} {acc : List Tr} {A : Option Addr} {t : Tr} {v : Value} (h : Mid ch I l s X w vb base n j acc sj Xj A c wr)
    (hi : I s' X' w3) (hm : Mv Xj wr w3 X') (ht : TAt w3 (fun b => wr.heap.size ≤ b ∧ b < w3.heap.size ∧ ¬ X' b) n v t) (hb : Below w3.heap.size w3 w4) :
    OwnX w4 base A c acc n X' ∧ TAt w4 (MineX w4 base A X') n v t ∧ (∀ b, X' b → b < w4.heap.size) ∧ base ≤ w4.heap.size ∧ V3 vb (.bool true) (.int .i64 0) (.slice A acc.length c) w4 := by
  refine ⟨(h.row.mv hm).mv (Mv.of_below hb), ?_, fun b hx => Nat.lt_of_lt_of_le ((S.lt s' X' w3 hi).2 b hx).2 hb.size, Nat.le_trans h.base (Nat.le_trans hm.size hb.size), (h.box.mv hm h.out).below hb⟩
  refine ht.keep fun b ⟨h1, h2, h3⟩ => ⟨⟨Nat.le_trans h.base h1, Nat.lt_of_lt_of_le h2 hb.size, fun e => ?_, h3⟩, fun o => hb.cell (p := ⟨b, o, none⟩) h2⟩
  have := (h.row.t.ge b e).2
  omega
/-- one more -/
theorem Mid.next (S : Src ch k cap B I) {l : List Gn} {s sj s' : σ} {X Xj X' : Nat → Prop} {w wr w3 w4 w5 : World} {vb base n j c c' : Nat} {acc : List Tr} {A A' : Option Addr} {t : Tr} {c2 : List Int} (h : Mid ch I l s X w vb base n j acc sj Xj A c wr) (hj : j < l.length)
    (hp : play ch (l[j]'hj) sj = .ok (c2, t, s')) (hi : I s' X' w3) (hm : Mv Xj wr w3 X') (hb : Below w3.heap.size w3 w4) (ho : OwnX w5 base A' c' (acc ++ [t]) n X') (hown : OwnX w4 base A c acc n X') (hg : w4.grownBy w5 (blockOf A)) (hB : B ≤ w.heap.size) :
    Mid ch I l s X w vb base n (j + 1) (acc ++ [t]) s' X' A' c' (w5.setCell ⟨vb, 2, none⟩ (.slice A' (acc ++ [t]).length c')) := by
  obtain ⟨cs, hr⟩ := h.run
  have hv3 : ¬ X' vb := Mv.not hm h.box.lt h.out
  have hge := hown.t.ge
  have hbox4 : V3 vb (.bool true) (.int .i64 0) (.slice A acc.length c) w4 := (h.box.mv hm h.out).below hb
  have hbox5 : V3 vb (.bool true) (.int .i64 0) (.slice A acc.length c) w5 := (hg.block vb hbox4.lt (fun e => by have := (hge vb e.symm).1; have := h.hi; omega)).trans hbox4
  have m5 : Mv X w w5 X' := by
    have m4 := Mv.later (Mv.trans h.mv hm) hb
    have h1 := h.lo
    have h2 := h.hi
    exact ⟨hg.os.trans m4.os, hg.tape.trans m4.tape, hg.output.trans m4.output, Nat.le_trans m4.size hg.size, fun b hlt hx => (hg.block b (Nat.lt_of_lt_of_le hlt m4.size) (fun e => by have := (hge b e.symm).1; omega)).trans (m4.block b hlt hx), m4.new⟩
  have i5 : I s' X' w5 := by
    obtain ⟨l1, l2⟩ := S.lt s' X' w3 hi
    refine S.keep s' X' w3 w5 hi (fun b hbx => ?_) (Nat.le_trans hb.size hg.size)
    have hlt : b < w3.heap.size := hbx.elim (fun h => by omega) (fun h => (l2 b h).2)
    refine (hg.block b (Nat.lt_of_lt_of_le hlt hb.size) (fun e => ?_)).trans (hb.block b hlt)
    rcases hbx with hlo | hx
    · have := (hge b e.symm).1
      have := h.lo
      have := h.hi
      omega
    · exact hown.1 b e.symm hx
  refine ⟨hj, ⟨cs ++ c2, all_step hj hr hp⟩, by simp [h.len], S.set i5 (Nat.le_trans hB h.lo) hv3 2 _, Mv.set m5 h.lo 2 _, OwnX.keep ho (by simp [World.setCell]) (fun b hb1 hb2 => Below.heap_setCell _ _ _ _ (by show b ≠ vb; have := h.hi; omega)), hbox5.put2 _, h.lo, h.hi, ?_, hv3⟩
  · have : (w5.setCell ⟨vb, 2, none⟩ (.slice A' (acc ++ [t]).length c')).heap.size = w5.heap.size := by simp [World.setCell]
    rw [this]; exact Nat.le_trans h.base (Nat.le_trans hm.size (Nat.le_trans hb.size hg.size))
theorem V3.grown {vb base c n : Nat} {x0 x1 x2 : Value} {w4 w5 : World} {A : Option Addr} {acc : List Tr} {X : Nat → Prop} (h : V3 vb x0 x1 x2 w4) (hown : OwnX w4 base A c acc n X) (hg : w4.grownBy w5 (blockOf A)) (hlt : vb < base) : V3 vb x0 x1 x2 w5 :=
  (hg.block vb h.lt (fun e => by have := (hown.t.ge vb e.symm).1; omega)).trans h
/-- a box beside it -/
theorem Mid.side {l : List Gn} {s sj : σ} {X Xj X' : Nat → Prop} {w wr w3 w4 w5 : World} {vb base n j c : Nat} {acc : List Tr} {A : Option Addr} {rb : Nat} {x0 x1 x2 y : Value} (h : Mid ch I l s X w vb base n j acc sj Xj A c wr) (hm : Mv Xj wr w3 X') (hb : Below w3.heap.size w3 w4) (hown : OwnX w4 base A c acc n X') (hg : w4.grownBy w5 (blockOf A))
    (hr : V3 rb x0 x1 x2 wr ∧ ¬ Xj rb) (hlt : rb < base) (hne : rb ≠ vb) (o : Nat) : V3 rb x0 x1 x2 (w5.setCell ⟨vb, o, none⟩ y) ∧ ¬ X' rb :=
  ⟨(V3.grown ((hr.1.mv hm hr.2).below hb) hown hg hlt).other hne _ _, Mv.not hm hr.1.lt hr.2⟩
theorem OwnX.set {w : World} {base c d : Nat} {A : Option Addr} {acc : List Tr} {X : Nat → Prop} (h : OwnX w base A c acc d X) {b : Nat} (hb : b < base) (o : Nat) (v : Value) : OwnX (w.setCell ⟨b, o, none⟩ v) base A c acc d X :=
  OwnX.keep h (by simp [World.setCell]) (fun q h1 h2 => Below.heap_setCell _ _ _ _ (by show q ≠ b; omega))
/-- all of them: the value is returned through box rb -/
theorem Mid.done (S : Src ch k cap B I) {r : Except Int (List Int × Tr × σ)} {l : List Gn} {s sj : σ} {X Xj : Nat → Prop} {w wr : World} {vb base n j c : Nat} {acc : List Tr} {A : Option Addr} {rb : Nat} {y0 y1 y2 : Value} (h : Mid ch I l s X w vb base n j acc sj Xj A c wr) (hj : j = l.length) (hB : B ≤ w.heap.size)
    (hp : ∃ cs, ∀ cs2, playAll ch l s = .ok (cs2, acc, sj) → r = .ok (cs, .node true 0 acc, sj)) (hlo : w.heap.size ≤ rb) (hhi : rb < base) (hx : ¬ Xj rb) : VPost I (n + 1) r X w (.returned (tval (.node true 0 acc) A c)) (((wr.setCell ⟨rb, 0, none⟩ y0).setCell ⟨rb, 1, none⟩ y1).setCell ⟨rb, 2, none⟩ y2) := by
  obtain ⟨cs, hrun⟩ := h.run
  rw [List.take_of_length_le (by omega)] at hrun
  obtain ⟨cs', hp⟩ := hp
  have hrb : B ≤ rb := Nat.le_trans hB hlo
  have ho := OwnX.set (OwnX.set (OwnX.set h.row hhi 0 y0) hhi 1 y1) hhi 2 y2
  refine VPost.good (hp _ hrun) (S.set (S.set (S.set h.inv hrb hx 0 y0) hrb hx 1 y1) hrb hx 2 y2) (Mv.set (Mv.set (Mv.set h.mv hlo 0 y0) hlo 1 y1) hlo 2 y2) ?_ (OwnX.nfr ho)
  exact (OwnX.at_ (l := true) (n := 0) ho (by decide)).keep fun b ⟨h1, h2, h3⟩ => ⟨⟨by have := h.lo; have := h.hi; omega, h2, h3⟩, fun _ => rfl⟩
/-- begun behind a first choice -/
theorem Mid.start2 {l : List Gn} {s1 : σ} {X X1 : Nat → Prop} {w w1 : World} {vb base n : Nat} (hI : I s1 X1 w1) (hm : Mv X w w1 X1) (hv : V3 vb (.bool true) (.int .i64 0) (.slice none 0 0) w1) (hlo : w.heap.size ≤ vb) (hhi : vb < base) (hbase : base ≤ w1.heap.size) (hx : ¬ X1 vb) :
    Mid ch I l s1 X w vb base n 0 [] s1 X1 none 0 w1 :=
  ⟨Nat.zero_le _, ⟨[], by simp [playAll]⟩, rfl, hI, hm, OwnX.none_, hv, hlo, hhi, hbase, hx⟩
theorem Mid.sideG {l : List Gn} {s sj : σ} {X Xj X' : Nat → Prop} {w wr w3 w4 w5 : World} {vb base n j c : Nat} {acc : List Tr} {A : Option Addr} {rb : Nat} {x0 x1 x2 x3 y : Value} (h : Mid ch I l s X w vb base n j acc sj Xj A c wr) (hm : Mv Xj wr w3 X') (hb : Below w3.heap.size w3 w4) (hown : OwnX w4 base A c acc n X') (hg : w4.grownBy w5 (blockOf A))
    (hr : G4 rb x0 x1 x2 x3 wr ∧ ¬ Xj rb) (hlt : rb < base) (hne : rb ≠ vb) (o : Nat) : G4 rb x0 x1 x2 x3 (w5.setCell ⟨vb, o, none⟩ y) ∧ ¬ X' rb :=
  ⟨(Below.heap_setCell w5 ⟨vb, o, none⟩ y rb hne).trans ((hg.block rb ((hr.1.mv hm hr.2).below hb).lt (fun e => by have := (hown.t.ge rb e.symm).1; omega)).trans ((hr.1.mv hm hr.2).below hb)), Mv.not hm hr.1.lt hr.2⟩
end
end Go.Proofs.YtffkppjmdelajaaDoor.Gens

/- The program's value: what it makes of a source's choices. Conditions: a small generator. -/
namespace Go.Proofs.YtffkppjmdelajaaDoor.Gens
open Go.RowKit Lists Ints Vals
set_option linter.unusedVariables false

section
variable {σ : Type} {ch : σ → Int → Except Int (Int × σ)} {k : Nat} {cap : Array Value} {B : Nat} {I : σ → (Nat → Prop) → World → Prop}

theorem bel_drew {w W : World} (h : Below w.heap.size w W) : Below w.heap.size w W.drew := ⟨h.os, h.tape, h.output, h.size, h.block⟩

set_option maxHeartbeats 1000000 in
set_option maxRecDepth 100000 in
theorem value_int (S : Src ch k cap B I) (n : Nat) (a b : Int) (subs : List Gn) (A : Option Addr) (c : Nat) (s : σ) (X : Nat → Prop) (w : World) (hr : Right (.node 2 a b subs)) (hI : I s X w) (hne : play ch (.node 2 a b subs) s ≠ .error 77) :
    Calls Tryd.prog 76 #[fv k cap, .agg #[.int .i64 2, .int .i64 a, .int .i64 b, .slice A subs.length c]] w (VPost I (n + 1) (play ch (.node 2 a b subs) s) X w) := by
  have hm := (right_max hr).1 rfl
  have hn := (right_num hr).2 rfl
  have hsub : IntKind.i64.wrap (b - a) = b - a := wrap_small (by omega) (by omega)
  have hent := S.ent
  have HB := Lib.hid (two_boxes w (.int .i64 2) (.int .i64 a) (.int .i64 b) (.slice A subs.length c) (.bool false) (.int .i64 0) (.slice none 0 0))
  have HBAD := Lib.hid (fun er W1 X' (hc : ch s (b - a) = .error er) (hm : Mv X w W1 X') => VPost.bad (I := I) (er := er) (n := n + 1) (r := play ch (.node 2 a b subs) s) (by simp [play, hc]) hm)
  have HNE := Lib.hid (show ch s (b - a) ≠ .error 77 from fun e => hne (by simp [play, e]))
  clear hne
  have HN := Lib.hid hn
  have HM := Lib.hid hm
  have HR := Lib.hid hr
  clear hm hn hr
  go_enter Tryd.func76, Tryd.ntmps76
  go_wp2_with fail
  generalize (w.alloc (.cells #[.int .i64 2, .int .i64 a, .int .i64 b, .slice A subs.length c] 24)).alloc (.cells #[.bool false, .int .i64 0, .slice none 0 0] 38) = W at HB ⊢
  have hX : ∀ q, w.heap.size ≤ q → ¬ X q := fun q hq => S.not hI hq
  have HC := Lib.hid (S.call s X W.drew (b - a) HM.out.1 (by have := HM.out; omega) (S.below hI (bel_drew HB.out.2.2.1)) HNE.out)
  obtain ⟨k0, k1, k2, k3⟩ := HB.out.1.facts
  go_region_held2 (fun w' => w'.cell? ⟨w.heap.size, 1, none⟩ = some (.int .i64 a) ∧ w'.cell? ⟨w.heap.size, 2, none⟩ = some (.int .i64 b)) (go_keep) (first
    | (with_reducible refine HC.out.mono ?_
       intro e w1 hs
       rcases hs.split with ⟨er, X', hc, rfl, hm1⟩ | ⟨x, s', X', hc, rfl, hi1, hm1⟩
       · exact ⟨rfl, HBAD.out er w1 X' hc (Mv.trans (Mv.of_below (bel_drew HB.out.2.2.1)) hm1)⟩
       have j1 := Mv.cell hm1 (v := .int .i64 a) k1 (hX _ (Nat.le_refl _))
       have j2 := Mv.cell hm1 (v := .int .i64 b) k2 (hX _ (Nat.le_refl _))
       have hb := S.bnd s _ x s' HM.out.1 hc
       have hadd : IntKind.i64.wrap (a + x) = a + x := wrap_small (by have := HN.out; omega) (by have := HN.out; omega)
       have V1 := Lib.hid (V3.mv HB.out.2.1 (Mv.trans (Mv.of_below (bel_drew (Below.refl _ _))) hm1) (hX _ (by omega)))
       obtain ⟨z0, z1, z2, y0, y1, y2⟩ := V1.out.facts
       clear hs hb))
  have V9 := V3.put V1.out (.bool false) (.int .i64 (a + x)) (.slice none 0 0)
  have M9 := Lib.hid (Mv.set (Mv.set (Mv.set (Mv.trans (Mv.of_below (bel_drew HB.out.2.2.1)) hm1) (b := w.heap.size + 1) (by omega) 0 (.bool false)) (b := w.heap.size + 1) (by omega) 1 (.int .i64 (a + x))) (b := w.heap.size + 1) (by omega) 2 (.slice none 0 0))
  have hx1 : ¬ X' (w.heap.size + 1) := Mv.not hm1 (by show w.heap.size + 1 < W.heap.size; rw [HB.out.2.2.2]; omega) (hX _ (by omega))
  have hB : B ≤ w.heap.size + 1 := by have := (S.lt s X w hI).1; omega
  have I9 := Lib.hid (S.set (S.set (S.set hi1 hB hx1 0 (.bool false)) hB hx1 1 (.int .i64 (a + x))) hB hx1 2 (.slice none 0 0))
  have hb := S.bnd s _ x s' HM.out.1 hc
  have hwf : Wf (a + x) := wf_small (by have := HN.out; omega) (by have := HN.out; omega)
  clear z0 z1 z2 y0 y1 y2 j1 j2 V1 HC
  generalize ((w1.setCell ⟨w.heap.size + 1, 0, none⟩ (.bool false)).setCell ⟨w.heap.size + 1, 1, none⟩ (.int .i64 (a + x))).setCell ⟨w.heap.size + 1, 2, none⟩ (.slice none 0 0) = W9 at V9 M9 I9 ⊢
  obtain ⟨z0, z1, z2, _⟩ := V9.facts
  go_wp2_with fail
  refine bodyPost_ret (v := tval (.node false (a + x) []) none 0) (by simp [results, Tryd.results76, go_sem, z0, z1, z2, Tr.list, Tr.num, Tr.items]) rfl ?_
  exact VPost.good (c := [x]) (s' := s') (by simp [play, hc]) I9.out M9.out ⟨hwf, none, 0, rfl, fun hp => by simp [Tr.items] at hp⟩ (NFr.none_ _)
set_option maxHeartbeats 1000000 in
set_option maxRecDepth 100000 in
theorem value_just (S : Src ch k cap B I) (n : Nat) (a b : Int) (subs : List Gn) (A : Option Addr) (c : Nat) (s : σ) (X : Nat → Prop) (w : World) (hr : Right (.node 1 a b subs)) (hI : I s X w) :
    Calls Tryd.prog 76 #[fv k cap, .agg #[.int .i64 1, .int .i64 a, .int .i64 b, .slice A subs.length c]] w (VPost I (n + 1) (play ch (.node 1 a b subs) s) X w) := by
  have hn := (right_num hr).1 rfl
  have hwf : Wf a := wf_small (by omega) (by omega)
  have HB := Lib.hid (two_boxes w (.int .i64 1) (.int .i64 a) (.int .i64 b) (.slice A subs.length c) (.bool false) (.int .i64 a) (.slice none 0 0))
  have HN := Lib.hid hn
  clear hn hr
  go_enter Tryd.func76, Tryd.ntmps76
  go_wp2_with fail
  generalize (w.alloc (.cells #[.int .i64 1, .int .i64 a, .int .i64 b, .slice A subs.length c] 24)).alloc (.cells #[.bool false, .int .i64 a, .slice none 0 0] 38) = W at HB ⊢
  obtain ⟨_, v3, hb, _⟩ := HB.out
  obtain ⟨z0, z1, z2, _⟩ := v3.facts
  refine bodyPost_ret (v := tval (.node false a []) none 0) (by simp [results, Tryd.results76, go_sem, z0, z1, z2, Tr.list, Tr.num, Tr.items]) rfl ?_
  exact VPost.good (c := []) (s' := s) (by simp [play]) (S.below hI hb) (Mv.of_below hb) ⟨hwf, none, 0, rfl, fun hp => by simp [Tr.items] at hp⟩ (NFr.none_ _)
end
end Go.Proofs.YtffkppjmdelajaaDoor.Gens
