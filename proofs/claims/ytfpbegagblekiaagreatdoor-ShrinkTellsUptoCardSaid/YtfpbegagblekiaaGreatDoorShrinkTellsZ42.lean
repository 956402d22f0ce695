/- ShrinkTells, part 42 of the proof: What Played does, as the document's MendOf, MostOf and ReplayOf ask for it. Condition: the sizes. · Contract of the document's own ReplayOf. Condition: the sizes. -/
import Derived.Test.YtfpbegagblekiaaGreatDoorShrinkTellsZ41
import Derived.Test.YtfpbegagblekiaaGreatDoorShrinkTellsZ37
/- What Played does, as the document's MendOf, MostOf and ReplayOf ask for it. Condition: the sizes. -/
namespace Go.Proofs.YtfpbegagblekiaaGreatDoor.Gens
open Go.RowKit Lists Ints Vals
set_option linter.unusedVariables false

theorem plays_all : Plays := by
  intro n g v lb nm VA vl vc t TA tc k l L lc mend B w hg hr hs ht hl hB htl hll hkl htc
  refine (played_any n g v lb nm VA vl vc t TA tc k l L lc mend B w hg hr hs ht hl hB htl hll hkl htc).mono ?_
  rintro e w' ⟨hb, h⟩
  refine ⟨hb, ?_⟩
  cases hp : play (chC mend) g (l.drop k) with
  | error er => rw [hp] at h; exact h
  | ok p =>
    obtain ⟨c, v, s⟩ := p
    rw [hp] at h
    obtain ⟨VA', TA', vc', tc', he, hv, ha, _⟩ := h
    refine ⟨VA', TA', vc', tc', n, he, hv, ?_⟩
    rcases ha with ⟨rfl, rfl⟩ | ha
    · rw [List.append_nil]
      exact (ht.below (hb.mono hB)).more (Nat.le_trans hB hb.size)
    · exact ha.at_
end Go.Proofs.YtfpbegagblekiaaGreatDoor.Gens

/- Contract of the document's own ReplayOf. Condition: the sizes. -/
namespace Go.Proofs.YtfpbegagblekiaaGreatDoor.Gens
open Go.RowKit Lists Ints Vals
set_option linter.unusedVariables false

theorem three_cells2 (w : World) (b : Nat) (x0 x1 x2 : Value) {y0 y1 y2 : Value} (c0 : w.cell? ⟨b, 0, none⟩ = some y0) (c1 : w.cell? ⟨b, 1, none⟩ = some y1) (c2 : w.cell? ⟨b, 2, none⟩ = some y2) (W : World)
    (hW : W = ((w.setCell ⟨b, 0, none⟩ x0).setCell ⟨b, 1, none⟩ x1).setCell ⟨b, 2, none⟩ x2) :
    W.cell? ⟨b, 0, none⟩ = some x0 ∧ W.cell? ⟨b, 1, none⟩ = some x1 ∧ W.cell? ⟨b, 2, none⟩ = some x2 := by
  have far : ∀ (u : World) (i j : Nat) (v : Value), i ≠ j → (u.setCell ⟨b, i, none⟩ v).cell? ⟨b, j, none⟩ = u.cell? ⟨b, j, none⟩ :=
    fun u i j v h => World.cell?_setCell_other _ _ _ _ (fun e => h (by injection e))
  refine ⟨?_, ?_, ?_⟩
  · rw [hW, far _ 2 0 _ (by decide), far _ 1 0 _ (by decide)]
    exact World.cell?_setCell_same _ _ _ c0
  · rw [hW, far _ 2 1 _ (by decide)]
    exact World.cell?_setCell_same _ _ _ ((far _ 0 1 _ (by decide)).trans c1)
  · rw [hW]
    exact World.cell?_setCell_same _ _ _ ((far _ 1 2 _ (by decide)).trans ((far _ 0 2 _ (by decide)).trans c2))
set_option maxHeartbeats 2000000 in
set_option maxRecDepth 100000 in
theorem replayof_any (n : Nat) (g : Gn) (A : Option Addr) (c : Nat) (l : List Int) (L : Option Addr) (lc B : Nat) (w : World) (hg : GAt w (GBel B) n (gv g A c) g) (hr : Right g) (hs : g.size ≤ 4294967296) (hl : At w B L l) (hB : B ≤ w.heap.size)
    (hq : longG g ≤ 4294967296) (hll : l.length ≤ 4294967296) :
    Calls Tryz.prog 8 #[gv g A c, .slice L l.length lc] w (RpPost w (replayG g l)) := by
  have HP := plays_all
  have P := fun w1 (b1 : Below w.heap.size w w1) => HP n g (gv g A c) false 0 none 0 0 [] none 0 0 l L lc false B w1 (hg.below (b1.mono hB)) hr hs At.nil (hl.below (b1.mono hB)) (Nat.le_trans hB b1.size) (by simpa using hq) hll (by simpa using hq) (by simp)
  simp only [List.drop_zero, chC, List.length_nil] at P
  have LN := fun c v r (h : play readC g l = .ok (c, v, r)) => play_long read_bounded g hr l c v r h
  have TK := fun c v r (h : play readC g l = .ok (c, v, r)) => play_took g l c v r h
  have R := Lib.hid (show replayG g l = match play readC g l with | .ok (_, v, r) => if r = [] then .ok v else .error 3 | .error e => .error e from rfl)
  clear hg hr hs hl hB HP
  generalize play readC g l = q at P LN TK R
  have H0 : Below w.heap.size w ((w.alloc (gc g A c)).alloc (.cells #[.bool false, .int .i64 0, .slice none 0 0] 35)) := ((Below.refl _ _).alloc (Nat.le_refl _) _).alloc (by simp) _
  have P1 := Lib.hid (P _ H0)
  clear P
  cases q with
  | error er =>
    have R := Lib.hid (show replayG g l = .error er from R.out)
    clear LN TK
    go_enter Tryz.func8, Tryz.ntmps8
    go_wp2_with fail
    refine P1.out.mono ?_
    rintro e w1 ⟨b1, hne, lb, nm, VA, vl, vc, TA, tl, tc, k', rfl⟩
    have B1 := Lib.hid (on H0 b1)
    have E1 := (b1.block (w.heap.size + 1) (by simp)).trans (new22 w (gc g A c) (.cells #[.bool false, .int .i64 0, .slice none 0 0] 35))
    have g1 : (er == 0) = false := by rw [beq_eq_false_iff_ne]; exact hne
    have g2 : (er != 0) = true := by rw [bne_iff_ne]; exact hne
    have Z1 : w.heap.size + 1 < w1.heap.size := by have := b1.size; simp at this; omega
    clear b1 H0
    have D0 : w1.cell? ⟨w.heap.size + 1, 0, none⟩ = some (.bool false) := by rw [Lib.cell_of_heap E1]; rfl
    have D1 : w1.cell? ⟨w.heap.size + 1, 1, none⟩ = some (.int .i64 0) := by rw [Lib.cell_of_heap E1]; rfl
    have D2 : w1.cell? ⟨w.heap.size + 1, 2, none⟩ = some (.slice none 0 0) := by rw [Lib.cell_of_heap E1]; rfl
    have F0 := Lib.frozen_of_heap E1 0
    have F1 := Lib.frozen_of_heap E1 1
    have F2 := Lib.frozen_of_heap E1 2
    go_wp2_with fail
    go_region
    go_wp2_with fail
    have Q := three_cells w1 (w.heap.size + 1) (pcs lb nm VA vl vc TA tl tc k' er) (.bool false) (.int .i64 0) (.slice none 0 0) Z1 D0 D1 D2 _ rfl
    have BW : Below w.heap.size w ((((w1.setCell ⟨w.heap.size + 1, 0, none⟩ (.bool false)).setCell ⟨w.heap.size + 1, 1, none⟩ (.int .i64 0)).setCell ⟨w.heap.size + 1, 2, none⟩ (.slice none 0 0)).alloc (pcs lb nm VA vl vc TA tl tc k' er)) := Below.alloc (Below.setCell (Below.setCell (Below.setCell B1.out (by simp only []; omega) _) (by simp only []; omega) _) (by simp only []; omega) _) (by simp; omega) _
    generalize (((w1.setCell ⟨w.heap.size + 1, 0, none⟩ (.bool false)).setCell ⟨w.heap.size + 1, 1, none⟩ (.int .i64 0)).setCell ⟨w.heap.size + 1, 2, none⟩ (.slice none 0 0)).alloc (pcs lb nm VA vl vc TA tl tc k' er) = W at Q BW ⊢
    obtain ⟨q0, q1, q2⟩ := Q
    refine bodyPost_ret (v := .tuple #[.agg #[.bool false, .int .i64 0, .slice none 0 0], .int .i64 er]) (by simp [results, Tryz.results8, go_sem, q0, q1, q2]) rfl ?_
    rw [R.out]
    exact ⟨BW.drew, hne, rfl⟩
  | ok z =>
    obtain ⟨m, v, r⟩ := z
    have hm := LN m v r rfl
    have hk := TK m v r rfl
    have hl2 : l.length = m.length + r.length := by rw [hk, List.length_append]
    clear LN TK hk
    have P2 : Calls Tryz.prog 21 #[gv g A c, pv false 0 none 0 0 none 0 0 0 0, .slice L l.length lc, .bool false] ((w.alloc (gc g A c)).alloc (.cells #[.bool false, .int .i64 0, .slice none 0 0] 35)) (fun e w' =>
        Below ((w.alloc (gc g A c)).alloc (.cells #[.bool false, .int .i64 0, .slice none 0 0] 35)).heap.size ((w.alloc (gc g A c)).alloc (.cells #[.bool false, .int .i64 0, .slice none 0 0] 35)) w' ∧
        ∃ (VA TA : Option Addr) (vc tc n : Nat), e = .returned (pv v.list v.num VA v.items.length vc TA m.length tc m.length 0) ∧ TAt w' (fun b => w.heap.size + 1 < b ∧ b < w'.heap.size) n (.agg #[.bool v.list, .int .i64 v.num, .slice VA v.items.length vc]) v) := by
      refine P1.out.mono ?_
      rintro e w1 ⟨b1, VA, TA, vc, tc, n', rfl, hv, ha⟩
      exact ⟨b1, VA, TA, vc, tc, n', by simp, hv.keep fun b hb => ⟨⟨by have h1 := hb.1; simp at h1; omega, hb.2⟩, fun _ => rfl⟩⟩
    have P2 := Lib.hid P2
    clear P1
    by_cases hr : r = []
    · have R := Lib.hid (show replayG g l = .ok v by rw [R.out]; simp [hr])
      have g1 : decide ((m.length : Int) < l.length) = false := by rw [decide_eq_false_iff_not, hl2, hr]; simp
      have g3 : decide (m.length < l.length) = false := by rw [decide_eq_false_iff_not, hl2, hr]; simp
      have g4 : ¬ m.length < l.length := of_decide_eq_false g3
      have g5 : ¬ (m.length : Int) < l.length := of_decide_eq_false g1
      clear hr hl2
      go_enter Tryz.func8, Tryz.ntmps8
      go_wp2_with fail
      refine P2.out.mono ?_
      rintro e w1 ⟨b1, VA, TA, vc, tc, n', rfl, hv⟩
      have B1 := Lib.hid (on H0 b1)
      have E1 := (b1.block (w.heap.size + 1) (by simp)).trans (new22 w (gc g A c) (.cells #[.bool false, .int .i64 0, .slice none 0 0] 35))
      have Z1 : w.heap.size + 1 < w1.heap.size := by have := b1.size; simp at this; omega
      clear b1 H0
      have D0 : w1.cell? ⟨w.heap.size + 1, 0, none⟩ = some (.bool false) := by rw [Lib.cell_of_heap E1]; rfl
      have D1 : w1.cell? ⟨w.heap.size + 1, 1, none⟩ = some (.int .i64 0) := by rw [Lib.cell_of_heap E1]; rfl
      have D2 : w1.cell? ⟨w.heap.size + 1, 2, none⟩ = some (.slice none 0 0) := by rw [Lib.cell_of_heap E1]; rfl
      have F0 := Lib.frozen_of_heap E1 0
      have F1 := Lib.frozen_of_heap E1 1
      have F2 := Lib.frozen_of_heap E1 2
      have HV := Lib.hid hv
      clear hv
      go_wp2_with fail
      have Q := three_cells w1 (w.heap.size + 1) (.cells #[.bool v.list, .int .i64 v.num, .slice VA v.items.length vc, .slice TA m.length tc, .int .i64 m.length, .int .i64 0] 57) (.bool v.list) (.int .i64 v.num) (.slice VA v.items.length vc) Z1 D0 D1 D2 _ rfl
      have BW : Below w.heap.size w ((((w1.setCell ⟨w.heap.size + 1, 0, none⟩ (.bool v.list)).setCell ⟨w.heap.size + 1, 1, none⟩ (.int .i64 v.num)).setCell ⟨w.heap.size + 1, 2, none⟩ (.slice VA v.items.length vc)).alloc (.cells #[.bool v.list, .int .i64 v.num, .slice VA v.items.length vc, .slice TA m.length tc, .int .i64 m.length, .int .i64 0] 57)) := Below.alloc (Below.setCell (Below.setCell (Below.setCell B1.out (by simp only []; omega) _) (by simp only []; omega) _) (by simp only []; omega) _) (by simp; omega) _
      have GRW := put3_gr w1 (w.heap.size + 1) (.bool v.list) (.int .i64 v.num) (.slice VA v.items.length vc)
      have TW := HV.out.keep (w' := (((w1.setCell ⟨w.heap.size + 1, 0, none⟩ (.bool v.list)).setCell ⟨w.heap.size + 1, 1, none⟩ (.int .i64 v.num)).setCell ⟨w.heap.size + 1, 2, none⟩ (.slice VA v.items.length vc)).alloc (.cells #[.bool v.list, .int .i64 v.num, .slice VA v.items.length vc, .slice TA m.length tc, .int .i64 m.length, .int .i64 0] 57)) (S' := fun b => w.heap.size ≤ b ∧ b < ((((w1.setCell ⟨w.heap.size + 1, 0, none⟩ (.bool v.list)).setCell ⟨w.heap.size + 1, 1, none⟩ (.int .i64 v.num)).setCell ⟨w.heap.size + 1, 2, none⟩ (.slice VA v.items.length vc)).alloc (.cells #[.bool v.list, .int .i64 v.num, .slice VA v.items.length vc, .slice TA m.length tc, .int .i64 m.length, .int .i64 0] 57)).heap.size) (fun b hb => ⟨⟨by have := hb.1; omega, by have h1 := hb.2; have h2 := GRW.size; have h3 := ((Below.refl _ _).alloc (Nat.le_refl _) (.cells #[.bool v.list, .int .i64 v.num, .slice VA v.items.length vc, .slice TA m.length tc, .int .i64 m.length, .int .i64 0] 57) : Below (((w1.setCell ⟨w.heap.size + 1, 0, none⟩ (.bool v.list)).setCell ⟨w.heap.size + 1, 1, none⟩ (.int .i64 v.num)).setCell ⟨w.heap.size + 1, 2, none⟩ (.slice VA v.items.length vc)).heap.size (((w1.setCell ⟨w.heap.size + 1, 0, none⟩ (.bool v.list)).setCell ⟨w.heap.size + 1, 1, none⟩ (.int .i64 v.num)).setCell ⟨w.heap.size + 1, 2, none⟩ (.slice VA v.items.length vc)) _).size; show b < _; omega⟩, fun o => by
        have h1 := hb.1
        have h2 := hb.2
        have h3 := GRW.size
        have e2 := ((Below.refl _ _).alloc (Nat.le_refl _) (.cells #[.bool v.list, .int .i64 v.num, .slice VA v.items.length vc, .slice TA m.length tc, .int .i64 m.length, .int .i64 0] 57) : Below (((w1.setCell ⟨w.heap.size + 1, 0, none⟩ (.bool v.list)).setCell ⟨w.heap.size + 1, 1, none⟩ (.int .i64 v.num)).setCell ⟨w.heap.size + 1, 2, none⟩ (.slice VA v.items.length vc)).heap.size (((w1.setCell ⟨w.heap.size + 1, 0, none⟩ (.bool v.list)).setCell ⟨w.heap.size + 1, 1, none⟩ (.int .i64 v.num)).setCell ⟨w.heap.size + 1, 2, none⟩ (.slice VA v.items.length vc)) _).block b (by omega)
        have e1 := GRW.block b h2 (fun e => by have e := Option.some.inj e; omega)
        exact cell_same (e2.trans e1) o⟩)
      generalize (((w1.setCell ⟨w.heap.size + 1, 0, none⟩ (.bool v.list)).setCell ⟨w.heap.size + 1, 1, none⟩ (.int .i64 v.num)).setCell ⟨w.heap.size + 1, 2, none⟩ (.slice VA v.items.length vc)).alloc (.cells #[.bool v.list, .int .i64 v.num, .slice VA v.items.length vc, .slice TA m.length tc, .int .i64 m.length, .int .i64 0] 57) = W at Q BW TW ⊢
      obtain ⟨q0, q1, q2⟩ := Q
      refine bodyPost_ret (v := .tuple #[.agg #[.bool v.list, .int .i64 v.num, .slice VA v.items.length vc], .int .i64 0]) ?_ rfl ?_
      · simp [results, Tryz.results8, go_sem, q0, q1, q2]
      · rw [R.out]
        exact ⟨BW, VA, vc, n', rfl, TW⟩
    · have R := Lib.hid (show replayG g l = .error 3 by rw [R.out]; simp [hr])
      have g1 : decide ((m.length : Int) < l.length) = true := by rw [decide_eq_true_eq, hl2]; have := List.length_pos_iff.2 hr; omega
      have g4 : m.length < l.length := by have h := of_decide_eq_true g1; omega
      have g3 : decide (m.length < l.length) = true := decide_eq_true g4
      have g5 : (m.length : Int) < l.length := of_decide_eq_true g1
      clear hr hl2
      go_enter Tryz.func8, Tryz.ntmps8
      go_wp2_with fail
      refine P2.out.mono ?_
      rintro e w1 ⟨b1, VA, TA, vc, tc, n', rfl, _⟩
      have B1 := Lib.hid (on H0 b1)
      have E1 := (b1.block (w.heap.size + 1) (by simp)).trans (new22 w (gc g A c) (.cells #[.bool false, .int .i64 0, .slice none 0 0] 35))
      have Z1 : w.heap.size + 1 < w1.heap.size := by have := b1.size; simp at this; omega
      clear b1 H0
      have D0 : w1.cell? ⟨w.heap.size + 1, 0, none⟩ = some (.bool false) := by rw [Lib.cell_of_heap E1]; rfl
      have D1 : w1.cell? ⟨w.heap.size + 1, 1, none⟩ = some (.int .i64 0) := by rw [Lib.cell_of_heap E1]; rfl
      have D2 : w1.cell? ⟨w.heap.size + 1, 2, none⟩ = some (.slice none 0 0) := by rw [Lib.cell_of_heap E1]; rfl
      have F0 := Lib.frozen_of_heap E1 0
      have F1 := Lib.frozen_of_heap E1 1
      have F2 := Lib.frozen_of_heap E1 2
      go_wp2_with fail
      go_region
      go_wp2_with fail
      have Q := three_cells w1 (w.heap.size + 1) (.cells #[.bool v.list, .int .i64 v.num, .slice VA v.items.length vc, .slice TA m.length tc, .int .i64 m.length, .int .i64 3] 57) (.bool false) (.int .i64 0) (.slice none 0 0) Z1 D0 D1 D2 _ rfl
      have BW : Below w.heap.size w ((((w1.setCell ⟨w.heap.size + 1, 0, none⟩ (.bool false)).setCell ⟨w.heap.size + 1, 1, none⟩ (.int .i64 0)).setCell ⟨w.heap.size + 1, 2, none⟩ (.slice none 0 0)).alloc (.cells #[.bool v.list, .int .i64 v.num, .slice VA v.items.length vc, .slice TA m.length tc, .int .i64 m.length, .int .i64 3] 57)) := Below.alloc (Below.setCell (Below.setCell (Below.setCell B1.out (by simp only []; omega) _) (by simp only []; omega) _) (by simp only []; omega) _) (by simp; omega) _
      generalize (((w1.setCell ⟨w.heap.size + 1, 0, none⟩ (.bool false)).setCell ⟨w.heap.size + 1, 1, none⟩ (.int .i64 0)).setCell ⟨w.heap.size + 1, 2, none⟩ (.slice none 0 0)).alloc (.cells #[.bool v.list, .int .i64 v.num, .slice VA v.items.length vc, .slice TA m.length tc, .int .i64 m.length, .int .i64 3] 57) = W at Q BW ⊢
      obtain ⟨q0, q1, q2⟩ := Q
      refine bodyPost_ret (v := .tuple #[.agg #[.bool false, .int .i64 0, .slice none 0 0], .int .i64 3]) (by simp [results, Tryz.results8, go_sem, q0, q1, q2]) rfl ?_
      rw [R.out]
      exact ⟨BW.drew, by decide, rfl⟩
end Go.Proofs.YtfpbegagblekiaaGreatDoor.Gens
