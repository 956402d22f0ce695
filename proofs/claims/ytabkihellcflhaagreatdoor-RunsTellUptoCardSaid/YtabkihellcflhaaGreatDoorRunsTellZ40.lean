/- RunsTell, part 40 of the proof: What Played does, as the document's MendOf, MostOf and ReplayOf ask for it. Condition: the sizes. · Contract of the document's own ReplayOf. Condition: the sizes. · The document's own Leaves. Conditions: the size. -/
import Derived.Test.YtabkihellcflhaaGreatDoorRunsTellZ39
import Derived.Test.YtabkihellcflhaaGreatDoorRunsTellZ35
import Derived.Test.YtabkihellcflhaaGreatDoorRunsTellZ19
import Derived.Test.YtabkihellcflhaaGreatDoorRunsTellZ9
/- What Played does, as the document's MendOf, MostOf and ReplayOf ask for it. Condition: the sizes. -/
namespace Go.Proofs.YtabkihellcflhaaGreatDoor.Gens
open Go.RowKit Lists Ints Vals
set_option linter.unusedVariables false

theorem plays_all : Plays := by
  intro n g v lb nm VA vl vc t TA tc k l L lc mend B w hg hr hs ht hl hB htl hll hkl htc
  refine (played_any n g v lb nm VA vl vc t TA tc k l L lc mend B w hg hr hs ht hl hB htl hll hkl htc).mono ?_
  rintro e w' ⟨hb, h⟩
  refine ⟨hb, ?_⟩
  cases hp : play (chC mend) g (l.drop k) with
  | error er => rw [hp] at h; exact h
  | ok p =>
    obtain ⟨c, v, s⟩ := p
    rw [hp] at h
    obtain ⟨VA', TA', vc', tc', he, hv, ha, _⟩ := h
    refine ⟨VA', TA', vc', tc', n, he, hv, ?_⟩
    rcases ha with ⟨rfl, rfl⟩ | ha
    · rw [List.append_nil]
      exact (ht.below (hb.mono hB)).more (Nat.le_trans hB hb.size)
    · exact ha.at_
end Go.Proofs.YtabkihellcflhaaGreatDoor.Gens

/- Contract of the document's own ReplayOf. Condition: the sizes. -/
namespace Go.Proofs.YtabkihellcflhaaGreatDoor.Gens
open Go.RowKit Lists Ints Vals
set_option linter.unusedVariables false

theorem three_cells2 (w : World) (b : Nat) (x0 x1 x2 : Value) {y0 y1 y2 : Value} (c0 : w.cell? ⟨b, 0, none⟩ = some y0) (c1 : w.cell? ⟨b, 1, none⟩ = some y1) (c2 : w.cell? ⟨b, 2, none⟩ = some y2) (W : World)
    (hW : W = ((w.setCell ⟨b, 0, none⟩ x0).setCell ⟨b, 1, none⟩ x1).setCell ⟨b, 2, none⟩ x2) :
    W.cell? ⟨b, 0, none⟩ = some x0 ∧ W.cell? ⟨b, 1, none⟩ = some x1 ∧ W.cell? ⟨b, 2, none⟩ = some x2 := by
  have far : ∀ (u : World) (i j : Nat) (v : Value), i ≠ j → (u.setCell ⟨b, i, none⟩ v).cell? ⟨b, j, none⟩ = u.cell? ⟨b, j, none⟩ :=
    fun u i j v h => World.cell?_setCell_other _ _ _ _ (fun e => h (by injection e))
  refine ⟨?_, ?_, ?_⟩
  · rw [hW, far _ 2 0 _ (by decide), far _ 1 0 _ (by decide)]
    exact World.cell?_setCell_same _ _ _ c0
  · rw [hW, far _ 2 1 _ (by decide)]
    exact World.cell?_setCell_same _ _ _ ((far _ 0 1 _ (by decide)).trans c1)
  · rw [hW]
    exact World.cell?_setCell_same _ _ _ ((far _ 1 2 _ (by decide)).trans ((far _ 0 2 _ (by decide)).trans c2))
set_option maxHeartbeats 2000000 in
set_option maxRecDepth 100000 in
theorem replayof_any (n : Nat) (g : Gn) (A : Option Addr) (c : Nat) (l : List Int) (L : Option Addr) (lc B : Nat) (w : World) (hg : GAt w (GBel B) n (gv g A c) g) (hr : Right g) (hs : g.size ≤ 4294967296) (hl : At w B L l) (hB : B ≤ w.heap.size)
    (hq : longG g ≤ 4294967296) (hll : l.length ≤ 4294967296) :
    Calls Tryz.prog 52 #[gv g A c, .slice L l.length lc] w (RpPost w (replayG g l)) := by
  have HP := plays_all
  have P := fun w1 (b1 : Below w.heap.size w w1) => HP n g (gv g A c) false 0 none 0 0 [] none 0 0 l L lc false B w1 (hg.below (b1.mono hB)) hr hs At.nil (hl.below (b1.mono hB)) (Nat.le_trans hB b1.size) (by simpa using hq) hll (by simpa using hq) (by simp)
  simp only [List.drop_zero, chC, List.length_nil] at P
  have LN := fun c v r (h : play readC g l = .ok (c, v, r)) => play_long read_bounded g hr l c v r h
  have TK := fun c v r (h : play readC g l = .ok (c, v, r)) => play_took g l c v r h
  have R := Lib.hid (show replayG g l = match play readC g l with | .ok (_, v, r) => if r = [] then .ok v else .error 3 | .error e => .error e from rfl)
  clear hg hr hs hl hB HP
  generalize play readC g l = q at P LN TK R
  have H0 : Below w.heap.size w ((w.alloc (gc g A c)).alloc (.cells #[.bool false, .int .i64 0, .slice none 0 0] 47)) := ((Below.refl _ _).alloc (Nat.le_refl _) _).alloc (by simp) _
  have P1 := Lib.hid (P _ H0)
  clear P
  cases q with
  | error er =>
    have R := Lib.hid (show replayG g l = .error er from R.out)
    clear LN TK
    go_enter Tryz.func52, Tryz.ntmps52
    go_wp2_with fail
    refine P1.out.mono ?_
    rintro e w1 ⟨b1, hne, lb, nm, VA, vl, vc, TA, tl, tc, k', rfl⟩
    have B1 := Lib.hid (on H0 b1)
    have E1 := (b1.block (w.heap.size + 1) (by simp)).trans (new22 w (gc g A c) (.cells #[.bool false, .int .i64 0, .slice none 0 0] 47))
    have g1 : (er == 0) = false := by rw [beq_eq_false_iff_ne]; exact hne
    have g2 : (er != 0) = true := by rw [bne_iff_ne]; exact hne
    have Z1 : w.heap.size + 1 < w1.heap.size := by have := b1.size; simp at this; omega
    clear b1 H0
    have D0 : w1.cell? ⟨w.heap.size + 1, 0, none⟩ = some (.bool false) := by rw [Lib.cell_of_heap E1]; rfl
    have D1 : w1.cell? ⟨w.heap.size + 1, 1, none⟩ = some (.int .i64 0) := by rw [Lib.cell_of_heap E1]; rfl
    have D2 : w1.cell? ⟨w.heap.size + 1, 2, none⟩ = some (.slice none 0 0) := by rw [Lib.cell_of_heap E1]; rfl
    have F0 := Lib.frozen_of_heap E1 0
    have F1 := Lib.frozen_of_heap E1 1
    have F2 := Lib.frozen_of_heap E1 2
    go_wp2_with fail
    go_region
    go_wp2_with fail
    have Q := three_cells w1 (w.heap.size + 1) (pcs lb nm VA vl vc TA tl tc k' er) (.bool false) (.int .i64 0) (.slice none 0 0) Z1 D0 D1 D2 _ rfl
    have BW : Below w.heap.size w ((((w1.setCell ⟨w.heap.size + 1, 0, none⟩ (.bool false)).setCell ⟨w.heap.size + 1, 1, none⟩ (.int .i64 0)).setCell ⟨w.heap.size + 1, 2, none⟩ (.slice none 0 0)).alloc (pcs lb nm VA vl vc TA tl tc k' er)) := Below.alloc (Below.setCell (Below.setCell (Below.setCell B1.out (by simp only []; omega) _) (by simp only []; omega) _) (by simp only []; omega) _) (by simp; omega) _
    generalize (((w1.setCell ⟨w.heap.size + 1, 0, none⟩ (.bool false)).setCell ⟨w.heap.size + 1, 1, none⟩ (.int .i64 0)).setCell ⟨w.heap.size + 1, 2, none⟩ (.slice none 0 0)).alloc (pcs lb nm VA vl vc TA tl tc k' er) = W at Q BW ⊢
    obtain ⟨q0, q1, q2⟩ := Q
    refine bodyPost_ret (v := .tuple #[.agg #[.bool false, .int .i64 0, .slice none 0 0], .int .i64 er]) (by simp [results, Tryz.results52, go_sem, q0, q1, q2]) rfl ?_
    rw [R.out]
    exact ⟨BW.drew, hne, rfl⟩
  | ok z =>
    obtain ⟨m, v, r⟩ := z
    have hm := LN m v r rfl
    have hk := TK m v r rfl
    have hl2 : l.length = m.length + r.length := by rw [hk, List.length_append]
    clear LN TK hk
    have P2 : Calls Tryz.prog 85 #[gv g A c, pv false 0 none 0 0 none 0 0 0 0, .slice L l.length lc, .bool false] ((w.alloc (gc g A c)).alloc (.cells #[.bool false, .int .i64 0, .slice none 0 0] 47)) (fun e w' =>
        Below ((w.alloc (gc g A c)).alloc (.cells #[.bool false, .int .i64 0, .slice none 0 0] 47)).heap.size ((w.alloc (gc g A c)).alloc (.cells #[.bool false, .int .i64 0, .slice none 0 0] 47)) w' ∧
        ∃ (VA TA : Option Addr) (vc tc n : Nat), e = .returned (pv v.list v.num VA v.items.length vc TA m.length tc m.length 0) ∧ TAt w' (fun b => w.heap.size + 1 < b ∧ b < w'.heap.size) n (.agg #[.bool v.list, .int .i64 v.num, .slice VA v.items.length vc]) v) := by
      refine P1.out.mono ?_
      rintro e w1 ⟨b1, VA, TA, vc, tc, n', rfl, hv, ha⟩
      exact ⟨b1, VA, TA, vc, tc, n', by simp, hv.keep fun b hb => ⟨⟨by have h1 := hb.1; simp at h1; omega, hb.2⟩, fun _ => rfl⟩⟩
    have P2 := Lib.hid P2
    clear P1
    by_cases hr : r = []
    · have R := Lib.hid (show replayG g l = .ok v by rw [R.out]; simp [hr])
      have g1 : decide ((m.length : Int) < l.length) = false := by rw [decide_eq_false_iff_not, hl2, hr]; simp
      have g3 : decide (m.length < l.length) = false := by rw [decide_eq_false_iff_not, hl2, hr]; simp
      have g4 : ¬ m.length < l.length := of_decide_eq_false g3
      have g5 : ¬ (m.length : Int) < l.length := of_decide_eq_false g1
      clear hr hl2
      go_enter Tryz.func52, Tryz.ntmps52
      go_wp2_with fail
      refine P2.out.mono ?_
      rintro e w1 ⟨b1, VA, TA, vc, tc, n', rfl, hv⟩
      have B1 := Lib.hid (on H0 b1)
      have E1 := (b1.block (w.heap.size + 1) (by simp)).trans (new22 w (gc g A c) (.cells #[.bool false, .int .i64 0, .slice none 0 0] 47))
      have Z1 : w.heap.size + 1 < w1.heap.size := by have := b1.size; simp at this; omega
      clear b1 H0
      have D0 : w1.cell? ⟨w.heap.size + 1, 0, none⟩ = some (.bool false) := by rw [Lib.cell_of_heap E1]; rfl
      have D1 : w1.cell? ⟨w.heap.size + 1, 1, none⟩ = some (.int .i64 0) := by rw [Lib.cell_of_heap E1]; rfl
      have D2 : w1.cell? ⟨w.heap.size + 1, 2, none⟩ = some (.slice none 0 0) := by rw [Lib.cell_of_heap E1]; rfl
      have F0 := Lib.frozen_of_heap E1 0
      have F1 := Lib.frozen_of_heap E1 1
      have F2 := Lib.frozen_of_heap E1 2
      have HV := Lib.hid hv
      clear hv
      go_wp2_with fail
      have Q := three_cells w1 (w.heap.size + 1) (.cells #[.bool v.list, .int .i64 v.num, .slice VA v.items.length vc, .slice TA m.length tc, .int .i64 m.length, .int .i64 0] 130) (.bool v.list) (.int .i64 v.num) (.slice VA v.items.length vc) Z1 D0 D1 D2 _ rfl
      have BW : Below w.heap.size w ((((w1.setCell ⟨w.heap.size + 1, 0, none⟩ (.bool v.list)).setCell ⟨w.heap.size + 1, 1, none⟩ (.int .i64 v.num)).setCell ⟨w.heap.size + 1, 2, none⟩ (.slice VA v.items.length vc)).alloc (.cells #[.bool v.list, .int .i64 v.num, .slice VA v.items.length vc, .slice TA m.length tc, .int .i64 m.length, .int .i64 0] 130)) := Below.alloc (Below.setCell (Below.setCell (Below.setCell B1.out (by simp only []; omega) _) (by simp only []; omega) _) (by simp only []; omega) _) (by simp; omega) _
      have GRW := put3_gr w1 (w.heap.size + 1) (.bool v.list) (.int .i64 v.num) (.slice VA v.items.length vc)
      have TW := HV.out.keep (w' := (((w1.setCell ⟨w.heap.size + 1, 0, none⟩ (.bool v.list)).setCell ⟨w.heap.size + 1, 1, none⟩ (.int .i64 v.num)).setCell ⟨w.heap.size + 1, 2, none⟩ (.slice VA v.items.length vc)).alloc (.cells #[.bool v.list, .int .i64 v.num, .slice VA v.items.length vc, .slice TA m.length tc, .int .i64 m.length, .int .i64 0] 130)) (S' := fun b => w.heap.size ≤ b ∧ b < ((((w1.setCell ⟨w.heap.size + 1, 0, none⟩ (.bool v.list)).setCell ⟨w.heap.size + 1, 1, none⟩ (.int .i64 v.num)).setCell ⟨w.heap.size + 1, 2, none⟩ (.slice VA v.items.length vc)).alloc (.cells #[.bool v.list, .int .i64 v.num, .slice VA v.items.length vc, .slice TA m.length tc, .int .i64 m.length, .int .i64 0] 130)).heap.size) (fun b hb => ⟨⟨by have := hb.1; omega, by have h1 := hb.2; have h2 := GRW.size; have h3 := ((Below.refl _ _).alloc (Nat.le_refl _) (.cells #[.bool v.list, .int .i64 v.num, .slice VA v.items.length vc, .slice TA m.length tc, .int .i64 m.length, .int .i64 0] 130) : Below (((w1.setCell ⟨w.heap.size + 1, 0, none⟩ (.bool v.list)).setCell ⟨w.heap.size + 1, 1, none⟩ (.int .i64 v.num)).setCell ⟨w.heap.size + 1, 2, none⟩ (.slice VA v.items.length vc)).heap.size (((w1.setCell ⟨w.heap.size + 1, 0, none⟩ (.bool v.list)).setCell ⟨w.heap.size + 1, 1, none⟩ (.int .i64 v.num)).setCell ⟨w.heap.size + 1, 2, none⟩ (.slice VA v.items.length vc)) _).size; show b < _; omega⟩, fun o => by
        have h1 := hb.1
        have h2 := hb.2
        have h3 := GRW.size
        have e2 := ((Below.refl _ _).alloc (Nat.le_refl _) (.cells #[.bool v.list, .int .i64 v.num, .slice VA v.items.length vc, .slice TA m.length tc, .int .i64 m.length, .int .i64 0] 130) : Below (((w1.setCell ⟨w.heap.size + 1, 0, none⟩ (.bool v.list)).setCell ⟨w.heap.size + 1, 1, none⟩ (.int .i64 v.num)).setCell ⟨w.heap.size + 1, 2, none⟩ (.slice VA v.items.length vc)).heap.size (((w1.setCell ⟨w.heap.size + 1, 0, none⟩ (.bool v.list)).setCell ⟨w.heap.size + 1, 1, none⟩ (.int .i64 v.num)).setCell ⟨w.heap.size + 1, 2, none⟩ (.slice VA v.items.length vc)) _).block b (by omega)
        have e1 := GRW.block b h2 (fun e => by have e := Option.some.inj e; omega)
        exact cell_same (e2.trans e1) o⟩)
      generalize (((w1.setCell ⟨w.heap.size + 1, 0, none⟩ (.bool v.list)).setCell ⟨w.heap.size + 1, 1, none⟩ (.int .i64 v.num)).setCell ⟨w.heap.size + 1, 2, none⟩ (.slice VA v.items.length vc)).alloc (.cells #[.bool v.list, .int .i64 v.num, .slice VA v.items.length vc, .slice TA m.length tc, .int .i64 m.length, .int .i64 0] 130) = W at Q BW TW ⊢
      obtain ⟨q0, q1, q2⟩ := Q
      refine bodyPost_ret (v := .tuple #[.agg #[.bool v.list, .int .i64 v.num, .slice VA v.items.length vc], .int .i64 0]) ?_ rfl ?_
      · simp [results, Tryz.results52, go_sem, q0, q1, q2]
      · rw [R.out]
        exact ⟨BW, VA, vc, n', rfl, TW⟩
    · have R := Lib.hid (show replayG g l = .error 3 by rw [R.out]; simp [hr])
      have g1 : decide ((m.length : Int) < l.length) = true := by rw [decide_eq_true_eq, hl2]; have := List.length_pos_iff.2 hr; omega
      have g4 : m.length < l.length := by have h := of_decide_eq_true g1; omega
      have g3 : decide (m.length < l.length) = true := decide_eq_true g4
      have g5 : (m.length : Int) < l.length := of_decide_eq_true g1
      clear hr hl2
      go_enter Tryz.func52, Tryz.ntmps52
      go_wp2_with fail
      refine P2.out.mono ?_
      rintro e w1 ⟨b1, VA, TA, vc, tc, n', rfl, _⟩
      have B1 := Lib.hid (on H0 b1)
      have E1 := (b1.block (w.heap.size + 1) (by simp)).trans (new22 w (gc g A c) (.cells #[.bool false, .int .i64 0, .slice none 0 0] 47))
      have Z1 : w.heap.size + 1 < w1.heap.size := by have := b1.size; simp at this; omega
      clear b1 H0
      have D0 : w1.cell? ⟨w.heap.size + 1, 0, none⟩ = some (.bool false) := by rw [Lib.cell_of_heap E1]; rfl
      have D1 : w1.cell? ⟨w.heap.size + 1, 1, none⟩ = some (.int .i64 0) := by rw [Lib.cell_of_heap E1]; rfl
      have D2 : w1.cell? ⟨w.heap.size + 1, 2, none⟩ = some (.slice none 0 0) := by rw [Lib.cell_of_heap E1]; rfl
      have F0 := Lib.frozen_of_heap E1 0
      have F1 := Lib.frozen_of_heap E1 1
      have F2 := Lib.frozen_of_heap E1 2
      go_wp2_with fail
      go_region
      go_wp2_with fail
      have Q := three_cells w1 (w.heap.size + 1) (.cells #[.bool v.list, .int .i64 v.num, .slice VA v.items.length vc, .slice TA m.length tc, .int .i64 m.length, .int .i64 3] 130) (.bool false) (.int .i64 0) (.slice none 0 0) Z1 D0 D1 D2 _ rfl
      have BW : Below w.heap.size w ((((w1.setCell ⟨w.heap.size + 1, 0, none⟩ (.bool false)).setCell ⟨w.heap.size + 1, 1, none⟩ (.int .i64 0)).setCell ⟨w.heap.size + 1, 2, none⟩ (.slice none 0 0)).alloc (.cells #[.bool v.list, .int .i64 v.num, .slice VA v.items.length vc, .slice TA m.length tc, .int .i64 m.length, .int .i64 3] 130)) := Below.alloc (Below.setCell (Below.setCell (Below.setCell B1.out (by simp only []; omega) _) (by simp only []; omega) _) (by simp only []; omega) _) (by simp; omega) _
      generalize (((w1.setCell ⟨w.heap.size + 1, 0, none⟩ (.bool false)).setCell ⟨w.heap.size + 1, 1, none⟩ (.int .i64 0)).setCell ⟨w.heap.size + 1, 2, none⟩ (.slice none 0 0)).alloc (.cells #[.bool v.list, .int .i64 v.num, .slice VA v.items.length vc, .slice TA m.length tc, .int .i64 m.length, .int .i64 3] 130) = W at Q BW ⊢
      obtain ⟨q0, q1, q2⟩ := Q
      refine bodyPost_ret (v := .tuple #[.agg #[.bool false, .int .i64 0, .slice none 0 0], .int .i64 3]) (by simp [results, Tryz.results52, go_sem, q0, q1, q2]) rfl ?_
      rw [R.out]
      exact ⟨BW.drew, by decide, rfl⟩
end Go.Proofs.YtabkihellcflhaaGreatDoor.Gens

/- The document's own Leaves. Conditions: the size. -/
namespace Go.Proofs.YtabkihellcflhaaGreatDoor.Exprs
open Go.RowKit Lists Ints Gens Rng Vals
set_option linter.unusedVariables false

theorem eown_one {w : World} {base b : Nat} {x : Int} (hb : base ≤ b) (h : w.heap[b]? = some (.cells #[.int .i64 x] 3 (0, 0))) : Own w base (some ⟨b, 0, none⟩) 1 [x] :=
  ⟨rfl, .inr ⟨b, 1, #[.int .i64 x], rfl, hb, h, Nat.le_refl _, by decide, rfl, rfl⟩⟩
theorem own_more {w : World} {base base' c : Nat} {A : Option Addr} {z : List Int} (h : Own w base A c z) (hb : base' ≤ base) : Own w base' A c z := by
  refine ⟨h.1, ?_⟩
  rcases h.2 with h0 | ⟨g, cap, cur, he, hg, h1⟩
  · exact .inl h0
  · exact .inr ⟨g, cap, cur, he, Nat.le_trans hb hg, h1⟩
/-- what Leaves hands back -/
def LvPost (t : Tr) (w : World) (e : Ending) (w' : World) : Prop :=
  ∃ (A : Option Addr) (c : Nat), e = .returned (.slice A (leavesT t).length c) ∧ Own w' w.heap.size A c (leavesT t) ∧ Below w.heap.size w w'
set_option maxHeartbeats 2000000 in
set_option maxRecDepth 100000 in
theorem leaves_any : ∀ (n : Nat) (t : Tr) (v : Value) (B : Nat) (w : World), TAt w (Bel B) n v t → B ≤ w.heap.size → t.size ≤ 1073741824 →
    Calls Tryz.prog 110 #[v] w (LvPost t w) := by
  intro n
  induction n with
  | zero => intro t v B w h; exact h.elim
  | succ n ih =>
    intro t v B w h hB hsz
    obtain ⟨m, A, c, e, hw, rfl, hit⟩ := h.open_
    obtain rfl : n = m := by omega
    have IH := Lib.hid ih
    have HIT := Lib.hid hit
    have HB := Lib.hid hB
    have HS := Lib.hid hsz
    have hln : t.items.length ≤ 4294967296 := by have := len_sizes t.items; have := size_items t; omega
    have SB := Lib.hid (size_items t)
    have LE := Lib.hid (leavesT_eq t)
    have LN := Lib.hid (leavess_len t.items)
    have b0 : Below w.heap.size w (w.alloc (vc t A c)) := (Below.refl _ _).alloc (Nat.le_refl _) _
    have H0 := Lib.hid b0
    clear ih hit h hB hsz e hw b0
    cases t with | node tl x its =>
    simp only [Tr.list, Tr.num, Tr.items] at *
    cases tl with
    | false =>
      have LE := Lib.hid (show leavesT (.node false x its) = [x] from LE.out)
      have O1 := Lib.hid (eown_one (base := w.heap.size) (b := w.heap.size + 1) (x := x) (w := (w.alloc (.cells #[.bool false, .int .i64 x, .slice A its.length c] 47)).alloc (.cells #[.int .i64 x] 3)) (by omega) (by
        have := eheap_new (w.alloc (.cells #[.bool false, .int .i64 x, .slice A its.length c] 47)) (.cells #[.int .i64 x] 3)
        simpa using this))
      have B1 := Lib.hid (show Below w.heap.size w ((w.alloc (.cells #[.bool false, .int .i64 x, .slice A its.length c] 47)).alloc (.cells #[.int .i64 x] 3)) from ((Below.refl _ _).alloc (Nat.le_refl _) _).alloc (by simp) _)
      go_enter Tryz.func110, Tryz.ntmps110
      go_wp2_with fail
      go_ret
      exact ⟨some ⟨w.heap.size + 1, 0, none⟩, 1, by rw [LE.out]; rfl, by rw [LE.out]; exact O1.out, B1.out⟩
    | true =>
      have LE2 := Lib.hid (show leavesT (.node true x its) = leavesTs its from LE.out)
      clear LE
      go_enter Tryz.func110, Tryz.ntmps110
      go_wp2_with fail
      go_loopw [3, 4] (fun v i wr => ∃ (j : Nat) (A2 : Option Addr) (c2 : Nat) (z : List Int), j ≤ its.length ∧ i = .int .i64 j ∧ v = .slice A2 z.length c2 ∧ Hid (z = leavesTs (its.take j)) ∧ Hid (Own wr (w.heap.size + 1) A2 c2 z) ∧ Hid (Below (w.heap.size + 1) (w.alloc (.cells #[.bool true, .int .i64 x, .slice A its.length c] 47)) wr)) (fun _ i _ => its.length - (intOf i).toNat)
      case atStart => exact ⟨0, none, 0, [], Nat.zero_le _, rfl, rfl, (rfl : [] = leavesTs (its.take 0)), Own.none, Below.refl _ _⟩
      case round =>
        obtain ⟨j, A2, c2, z, hj, rfl, rfl, hz, ho, hbb⟩ := hrel
        have cb := hbb.out.cell (p := ⟨w.heap.size, 2, none⟩) (by show w.heap.size < _; omega)
        have cb' : wr.cell? ⟨w.heap.size, 2, none⟩ = some (.slice A its.length c) := by rw [cb]; simp
        clear cb
        by_cases hlt : j < its.length
        · have HW := Lib.hid (show Below w.heap.size w wr from H0.out.trans (hbb.out.mono (by omega)))
          obtain ⟨b, off, D, d, rfl, c0, c1, c2', hti⟩ := item_as HIT.out (HW.out.mono HB.out) j hlt
          have C1 := Lib.hid (IH.out (its[j]'hlt) _ _ wr hti (Nat.le_trans HB.out HW.out.size) (by have := size_mem its _ (List.getElem_mem hlt); have h3 := HS.out; have := SB.out; omega))
          have TK := Lib.hid (leaves_take its j hlt)
          have LL := Lib.hid (show z.length + (leavesT (its[j]'hlt)).length ≤ 1073741824 by
            have h1 := TK.out
            have h2 := leavess_len (its.take (j + 1))
            have h4 : (leavesTs (its.take (j + 1))).length ≤ (leavesTs its).length := by
              have := leavesTs_app (its.take (j + 1)) (its.drop (j + 1))
              rw [List.take_append_drop] at this
              rw [this]; simp
            have h5 := LN.out
            have h6 := HS.out
            have h7 := SB.out
            rw [h1, List.length_append] at h4
            rw [hz.out]
            omega)
          clear hti
          generalize its[j]'hlt = y at C1 TK LL c0 c1 c2'
          obtain ⟨q, hq⟩ : ∃ q, q = leavesT y := ⟨_, rfl⟩
          have C2 := Lib.hid (C1.out.mono (R' := fun e w' => ∃ (A : Option Addr) (c : Nat), e = .returned (.slice A q.length c) ∧ Own w' wr.heap.size A c q ∧ Below wr.heap.size wr w') (fun e w' h => by rw [hq]; exact h))
          rw [← hq] at TK LL
          clear C1 hq
          go_wp2_with (first
            | (with_reducible refine C2.out.mono ?_
               rintro e w2 ⟨A3, c3, rfl, own3, hb2⟩
               have B2 := Lib.hid (hbb.out.trans (hb2.mono (by have := hbb.out.size; simp at this; omega)))
               have O2 := Lib.hid (ho.out.below hb2)
               have O3 := Lib.hid own3
               have Z2 := Lib.hid (show w.heap.size + 1 ≤ w2.heap.size by have := hbb.out.size; have := hb2.size; simp at *; omega)
               clear own3 hb2 cb')
            | (at_builtin
               refine wpList_append_ints rfl (.tmp 18) (.tmp 24) rfl (w.heap.size + 1) c2 A2 z O2.out w2.heap.size A3 c3 q O3.out.at_ rfl rfl (by have := LL.out; omega) Z2.out ?_
               intro A5 c5 w5 z5 hz5 own5 g5 r5
               have E5 := Lib.hid (B2.out.grown g5 (by have := Z2.out; simp; omega) (by intro k hk; exact O2.out.ge k hk))
               have O5 := Lib.hid own5
               clear own5 g5 r5))
          go_roundw
          case rel => exact ⟨j + 1, A5, c5, z5, hlt, by go_num, rfl, (show z5 = leavesTs (its.take (j + 1)) by rw [hz5.out, TK.out, hz.out]), O5.out, E5.out⟩
          case measure => simp [intOf]; omega
        · have EV := Lib.hid (show z = leavesT (.node true x its) by rw [LE2.out, hz.out, List.take_of_length_le (by omega)])
          have HW := Lib.hid (show Below w.heap.size w wr from H0.out.trans (hbb.out.mono (by omega)))
          go_wp2_with fail
          go_ret
          exact ⟨A2, c2, (by rw [← EV.out]; rfl), by rw [← EV.out]; exact own_more ho.out (by omega), HW.out⟩
end Go.Proofs.YtabkihellcflhaaGreatDoor.Exprs
