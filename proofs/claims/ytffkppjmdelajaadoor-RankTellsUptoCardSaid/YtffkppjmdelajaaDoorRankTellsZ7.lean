/- RankTells, part 7 of the proof: Contract of the document's own choice of a play. Condition: the sizes. · Contract of the document's own MendOf, of what Played does (Plays: still to prove). Condition: the sizes. · Contract of the document's own MostOf, of what Played does. Condition: the sizes. · What the document's own ReplayOf comes to (its walk: XRefReplayW). · A row of values that the call itself makes: append of one value. Conditions: the size. · A row of values that the call itself makes, apart from a source's blocks: append of one value. Conditions: the size. -/
import Derived.Test.YtffkppjmdelajaaDoorRankTellsZ6
import Derived.Test.YtffkppjmdelajaaDoorRankTellsZ3
import Derived.Test.YtffkppjmdelajaaDoorRankTellsZ1
import Derived.Test.YtffkppjmdelajaaDoorRankTellsZ2
import Derived.Maps.AppendAt
import Derived.RegionTactic
import Derived.OwnWalk
/- Contract of the document's own choice of a play. Condition: the sizes. -/
namespace Go.Proofs.YtffkppjmdelajaaDoor.Gens
open Go.RowKit Lists Ints
set_option linter.unusedVariables false

/-- the choices of a list, mended or read -/
def chC : Bool → List Int → Int → Except Int (Int × List Int)
  | true => mendC
  | false => readC
abbrev pcs (lb : Bool) (nm : Int) (VA : Option Addr) (vl vc : Nat) (TA : Option Addr) (tl tc : Nat) (a e : Int) : Obj := .cells #[.bool lb, .int .i64 nm, .slice VA vl vc, .slice TA tl tc, .int .i64 a, .int .i64 e] 84
abbrev pv (lb : Bool) (nm : Int) (VA : Option Addr) (vl vc : Nat) (TA : Option Addr) (tl tc : Nat) (a e : Int) : Value := .agg #[.bool lb, .int .i64 nm, .slice VA vl vc, .slice TA tl tc, .int .i64 a, .int .i64 e]
/-- the slice at A holds the numbers l, in a block of S -/
def AtS (w : World) (S : Nat → Prop) (A : Option Addr) (l : List Int) : Prop :=
  0 < l.length → ∃ b off, A = some ⟨b, off, none⟩ ∧ (S b ∧ b < w.heap.size) ∧ ∀ j, j < l.length → w.cell? ⟨b, off + j, none⟩ = some (.int .i64 (l.getD j 0))
theorem AtS.at_ {w : World} {S : Nat → Prop} {A : Option Addr} {l : List Int} (h : AtS w S A l) : At w w.heap.size A l := fun hp => by
  obtain ⟨b, off, e, hb, hc⟩ := h hp
  exact ⟨b, off, e, hb.2, hc⟩
theorem AtS.keep {w w' : World} {S S' : Nat → Prop} {A : Option Addr} {l : List Int} (h : AtS w S A l) (hk : ∀ b, S b → b < w.heap.size → (S' b ∧ b < w'.heap.size) ∧ ∀ o, w'.cell? ⟨b, o, none⟩ = w.cell? ⟨b, o, none⟩) : AtS w' S' A l := fun hp => by
  obtain ⟨b, off, e, hb, hc⟩ := h hp
  obtain ⟨h1, h2⟩ := hk b hb.1 hb.2
  exact ⟨b, off, e, h1, fun j hj => (h2 _).trans (hc j hj)⟩
theorem AtS.of {w : World} {B : Nat} {A : Option Addr} {l : List Int} (h : At w B A l) (hB : B ≤ w.heap.size) : AtS w (fun b => b < B) A l := fun hp => by
  obtain ⟨b, off, e, hb, hc⟩ := h hp
  exact ⟨b, off, e, ⟨hb, Nat.lt_of_lt_of_le hb hB⟩, hc⟩
theorem AtS.nil {w : World} {S : Nat → Prop} {A : Option Addr} : AtS w S A [] := fun h => by simp at h
def ChPost (w : World) (lb : Bool) (nm : Int) (VA : Option Addr) (vl vc : Nat) (t : List Int) (TA : Option Addr) (tc : Nat) (k : Nat) (r : Except Int (Int × List Int)) (e : Ending) (w' : World) : Prop :=
  Below w.heap.size w w' ∧ match r with
    | .ok (x, _) => ∃ (TA' : Option Addr) (tc' : Nat), e = .returned (.tuple #[pv lb nm VA vl vc TA' (t.length + 1) tc' (k + 1 : Nat) 0, .int .i64 x]) ∧ AtS w' (fun b => w.heap.size ≤ b) TA' (t ++ [x])
    | .error er => er ≠ 0 ∧ e = .returned (.tuple #[pv lb nm VA vl vc TA t.length tc k er, .int .i64 0])
theorem ChPost.bad {w w' : World} {lb : Bool} {nm : Int} {VA : Option Addr} {vl vc : Nat} {t : List Int} {TA : Option Addr} {tc k : Nat} {r : Except Int (Int × List Int)} {er : Int} (h : r = .error er) (hb : Below w.heap.size w w') (hne : er ≠ 0 := by decide) :
    ChPost w lb nm VA vl vc t TA tc k r (.returned (.tuple #[pv lb nm VA vl vc TA t.length tc k er, .int .i64 0])) w' := by
  subst h; exact ⟨hb, hne, rfl⟩
theorem ChPost.good {w w' : World} {lb : Bool} {nm : Int} {VA : Option Addr} {vl vc : Nat} {t : List Int} {TA : Option Addr} {tc k : Nat} {r : Except Int (Int × List Int)} {x : Int} {s z : List Int} {TA' : Option Addr} {tc' : Nat} {n : Int} (h : r = .ok (x, s)) (hb : Below w.heap.size w w')
    (hz : z = t ++ [x]) (ha : AtS w' (fun b => w.heap.size ≤ b) TA' z) (hn : n = (k + 1 : Nat)) : ChPost w lb nm VA vl vc t TA tc k r (.returned (.tuple #[pv lb nm VA vl vc TA' z.length tc' n 0, .int .i64 x])) w' := by
  subst h hz hn
  exact ⟨hb, TA', tc', by simp, ha⟩
theorem lone_at (b : Nat) (n : Int) (w : World) (h : w.cell? ⟨b, 0, none⟩ = some (.int .i64 n)) : At w (b + 1) (some ⟨b, 0, none⟩) [n] :=
  fun _ => ⟨b, 0, rfl, by omega, fun j hj => by
    obtain rfl : j = 0 := by simpa using hj
    exact h⟩
theorem new3 (w : World) (o p q : Obj) : (((w.alloc o).alloc p).alloc q).heap[w.heap.size + 1 + 1]? = some q := by
  have h := heap_alloc_new ((w.alloc o).alloc p) q
  have e : ((w.alloc o).alloc p).heap.size = w.heap.size + 1 + 1 := by simp
  rw [e] at h
  exact h
theorem new2 (w : World) (o p q : Obj) : (((w.alloc o).alloc p).alloc q).heap[w.heap.size + 1]? = some p := by
  have h := heap_alloc_new (w.alloc o) p
  have e : (w.alloc o).heap.size = w.heap.size + 1 := by simp
  rw [e] at h
  exact (((Below.refl (w.heap.size + 1 + 1) ((w.alloc o).alloc p)).alloc (by simp) q).block _ (by omega)).trans h
theorem new1 (w : World) (o p q : Obj) : (((w.alloc o).alloc p).alloc q).heap[w.heap.size]? = some o := by
  have h := heap_alloc_new w o
  exact ((((Below.refl (w.heap.size + 1) (w.alloc o)).alloc (by simp) p).alloc (by simp) q).block _ (by omega)).trans h
/-- all but two blocks are as they were -/
def Apart (b : Nat) (w w' : World) : Prop := w'.heap.size = w.heap.size ∧ ∀ c o, b + 1 + 1 ≤ c → w'.cell? ⟨c, o, none⟩ = w.cell? ⟨c, o, none⟩
theorem Apart.refl (b : Nat) (w : World) : Apart b w w := ⟨rfl, fun _ _ _ => rfl⟩
theorem Apart.set {b : Nat} {w w' : World} (h : Apart b w w') {p : Addr} (hp : p.block < b + 1 + 1) (v : Value) : Apart b w (w'.setCell p v) :=
  ⟨(World.size_setCell w' _ _).trans h.1, fun c o hc => (World.cell?_setCell_other _ _ _ _ (fun e => by rw [e] at hp; exact absurd hp (by simp; omega))).trans (h.2 c o hc)⟩
theorem Apart.at_ {b c : Nat} {w w' : World} (h : Apart b w w') {A : Option Addr} {z : List Int} (ho : Own w (b + 1 + 1) A c z) : AtS w' (fun g => b ≤ g) A z := by
  intro hp
  obtain ⟨g, off, rfl, hg, hc⟩ := ho.at_ hp
  have := ho.ge g rfl
  exact ⟨g, off, rfl, ⟨(by show b ≤ g; omega), by rw [h.1]; exact hg⟩, fun j hj => (h.2 g _ this).trans (hc j hj)⟩
theorem six_cells (w : World) (b : Nat) (x0 x1 x2 x3 x4 x5 : Value) {y0 y1 y2 y3 y4 y5 : Value} (c0 : w.cell? ⟨b, 0, none⟩ = some y0) (c1 : w.cell? ⟨b, 1, none⟩ = some y1) (c2 : w.cell? ⟨b, 2, none⟩ = some y2)
    (c3 : w.cell? ⟨b, 3, none⟩ = some y3) (c4 : w.cell? ⟨b, 4, none⟩ = some y4) (c5 : w.cell? ⟨b, 5, none⟩ = some y5) (W : World)
    (hW : W = (((((w.setCell ⟨b, 0, none⟩ x0).setCell ⟨b, 1, none⟩ x1).setCell ⟨b, 2, none⟩ x2).setCell ⟨b, 3, none⟩ x3).setCell ⟨b, 4, none⟩ x4).setCell ⟨b, 5, none⟩ x5) :
    W.cell? ⟨b, 0, none⟩ = some x0 ∧ W.cell? ⟨b, 1, none⟩ = some x1 ∧ W.cell? ⟨b, 2, none⟩ = some x2 ∧ W.cell? ⟨b, 3, none⟩ = some x3 ∧ W.cell? ⟨b, 4, none⟩ = some x4 ∧ W.cell? ⟨b, 5, none⟩ = some x5 := by
  have far : ∀ (u : World) (i j : Nat) (v : Value), i ≠ j → (u.setCell ⟨b, i, none⟩ v).cell? ⟨b, j, none⟩ = u.cell? ⟨b, j, none⟩ :=
    fun u i j v h => World.cell?_setCell_other _ _ _ _ (fun e => h (by injection e))
  subst hW
  refine ⟨?_, ?_, ?_, ?_, ?_, ?_⟩
  · rw [far _ 5 0 _ (by decide), far _ 4 0 _ (by decide), far _ 3 0 _ (by decide), far _ 2 0 _ (by decide), far _ 1 0 _ (by decide)]
    exact World.cell?_setCell_same _ _ _ c0
  · rw [far _ 5 1 _ (by decide), far _ 4 1 _ (by decide), far _ 3 1 _ (by decide), far _ 2 1 _ (by decide)]
    exact World.cell?_setCell_same _ _ _ ((far _ 0 1 _ (by decide)).trans c1)
  · rw [far _ 5 2 _ (by decide), far _ 4 2 _ (by decide), far _ 3 2 _ (by decide)]
    exact World.cell?_setCell_same _ _ _ ((far _ 1 2 _ (by decide)).trans ((far _ 0 2 _ (by decide)).trans c2))
  · rw [far _ 5 3 _ (by decide), far _ 4 3 _ (by decide)]
    exact World.cell?_setCell_same _ _ _ ((far _ 2 3 _ (by decide)).trans ((far _ 1 3 _ (by decide)).trans ((far _ 0 3 _ (by decide)).trans c3)))
  · rw [far _ 5 4 _ (by decide)]
    exact World.cell?_setCell_same _ _ _ ((far _ 3 4 _ (by decide)).trans ((far _ 2 4 _ (by decide)).trans ((far _ 1 4 _ (by decide)).trans ((far _ 0 4 _ (by decide)).trans c4))))
  · exact World.cell?_setCell_same _ _ _ ((far _ 4 5 _ (by decide)).trans ((far _ 3 5 _ (by decide)).trans ((far _ 2 5 _ (by decide)).trans ((far _ 1 5 _ (by decide)).trans ((far _ 0 5 _ (by decide)).trans c5)))))
theorem bel3 (w : World) (o p q : Obj) {N : Nat} (hN : N ≤ w.heap.size) : Below N w (((w.alloc o).alloc p).alloc q) :=
  (((Below.refl _ _).alloc hN _).alloc (by simp; omega) _).alloc (by simp; omega) _
theorem drop_at (l : List Int) (k : Nat) (h : k < l.length) : l.drop k = l.getD k 0 :: l.drop (k + 1) := drop_getD l k h

set_option maxHeartbeats 8000000 in
set_option maxRecDepth 100000 in
theorem choice_any (lb : Bool) (nm : Int) (VA : Option Addr) (vl vc : Nat) (t : List Int) (TA : Option Addr) (tc k : Nat) (l : List Int) (L : Option Addr) (lc : Nat) (mend : Bool) (most : Int) (N : Nat) (w : World)
    (ht : At w N TA t) (hl : At w N L l) (hN : N ≤ w.heap.size) (htl : t.length ≤ 4294967296) (hll : l.length ≤ 4294967296) (hk : k ≤ 4294967296) (hm : 0 ≤ most) :
    Calls Tryd.prog 71 #[pv lb nm VA vl vc TA t.length tc k 0, .slice L l.length lc, .bool mend, .int .i64 most] w (ChPost w lb nm VA vl vc t TA tc k (chC mend (l.drop k) most)) := by
  have HT := Lib.hid ht
  have HL := Lib.hid hl
  have HN := Lib.hid hN
  have H0 := Lib.hid (show Below w.heap.size w ((w.alloc (pcs lb nm VA vl vc TA t.length tc k 0)).alloc (pcs false 0 none 0 0 none 0 0 0 0)) from ((Below.refl _ _).alloc (Nat.le_refl _) _).alloc (by simp) _)
  clear ht hl hN
  by_cases hlt : k < l.length
  · obtain ⟨b, off, rfl, hbN, hcell⟩ := HL.out (by omega)
    have c1 := (H0.out.cell (p := ⟨b, off + k, none⟩) (by have := HN.out; show b < _; omega)).trans (hcell k hlt)
    clear hcell
    have DR := Lib.hid (drop_at l k hlt)
    generalize l.getD k 0 = x at c1 DR
    cases mend with
    | true =>
      have EV := Lib.hid (show chC true (l.drop k) most = .ok (max 0 (min x most), l.drop (k + 1)) by rw [DR.out]; rfl)
      have g2 : decide (max 0 (min x most) < 0) = false := by rw [decide_eq_false_iff_not]; omega
      have g3 : decide (most < max 0 (min x most)) = false := by rw [decide_eq_false_iff_not]; omega
      go_enter Tryd.func71, Tryd.ntmps71
      go_wp2_with (first
        | (at_builtin
           refine wpList_append_ints rfl (.tmp 43) (.tmp 45) rfl (w.heap.size + 1 + 1) 0 (some ⟨w.heap.size + 1 + 1, 0, none⟩) [] (Own.empty (new3 _ _ _ _)) N TA tc t (HT.out.below (bel3 _ _ _ _ HN.out)) rfl rfl (by simp; omega) (by simp) ?_
           intro A3 c3 w3 z3 hz3 own3 g3 r3
           have P3 := (Below.refl (w.heap.size + 1 + 1) _).grown g3 (by simp) (by intro k hk; simp [rowOf] at hk; omega)
           have Z3 : w.heap.size + 1 + 1 ≤ w3.heap.size := by have := P3.size; simp at this; omega
           have L3 := Lib.hid (show z3.length = t.length by rw [hz3.out]; simp))
        | (at_builtin
           refine wpList_append_ints rfl (.tmp 46) (.tmp 48) rfl (w.heap.size + 1 + 1) c3 A3 z3 (Own.below own3 ((Below.refl _ _).alloc (Nat.le_refl _) _)) (w3.heap.size + 1) (some ⟨w3.heap.size, 0, none⟩) 1 [max 0 (min x most)]
             (lone_at w3.heap.size _ _ (by simp)) rfl rfl (by have := L3.out; simp; omega) (by simp; omega) ?_
           intro A4 c4 w4 z4 hz4 own4 g4 r4
           have P4 := (P3.alloc Z3 (.cells #[.int .i64 (max 0 (min x most))] 3)).grown g4 (by simp; omega) own3.ge
           have E0 := (P4.block w.heap.size (by omega)).trans (new1 _ _ _ _)
           have E1 := (P4.block (w.heap.size + 1) (by omega)).trans (new2 _ _ _ _)
           have C00 : w4.cell? ⟨w.heap.size, 0, none⟩ = some (.bool lb) := by rw [Lib.cell_of_heap E0]; rfl
           have C01 : w4.cell? ⟨w.heap.size, 1, none⟩ = some (.int .i64 nm) := by rw [Lib.cell_of_heap E0]; rfl
           have C02 : w4.cell? ⟨w.heap.size, 2, none⟩ = some (.slice VA vl vc) := by rw [Lib.cell_of_heap E0]; rfl
           have C03 : w4.cell? ⟨w.heap.size, 3, none⟩ = some (.slice TA t.length tc) := by rw [Lib.cell_of_heap E0]; rfl
           have C04 : w4.cell? ⟨w.heap.size, 4, none⟩ = some (.int .i64 (k + 1)) := by rw [Lib.cell_of_heap E0]; rfl
           have C05 : w4.cell? ⟨w.heap.size, 5, none⟩ = some (.int .i64 0) := by rw [Lib.cell_of_heap E0]; rfl
           have F03 := Lib.frozen_of_heap E0 3
           have D00 : w4.cell? ⟨w.heap.size + 1, 0, none⟩ = some (.bool false) := by rw [Lib.cell_of_heap E1]; rfl
           have D01 : w4.cell? ⟨w.heap.size + 1, 1, none⟩ = some (.int .i64 0) := by rw [Lib.cell_of_heap E1]; rfl
           have D02 : w4.cell? ⟨w.heap.size + 1, 2, none⟩ = some (.slice none 0 0) := by rw [Lib.cell_of_heap E1]; rfl
           have D03 : w4.cell? ⟨w.heap.size + 1, 3, none⟩ = some (.slice none 0 0) := by rw [Lib.cell_of_heap E1]; rfl
           have D04 : w4.cell? ⟨w.heap.size + 1, 4, none⟩ = some (.int .i64 0) := by rw [Lib.cell_of_heap E1]; rfl
           have D05 : w4.cell? ⟨w.heap.size + 1, 5, none⟩ = some (.int .i64 0) := by rw [Lib.cell_of_heap E1]; rfl
           have G0 := Lib.frozen_of_heap E1 0
           have G1 := Lib.frozen_of_heap E1 1
           have G2 := Lib.frozen_of_heap E1 2
           have G3 := Lib.frozen_of_heap E1 3
           have G4 := Lib.frozen_of_heap E1 4
           have G5 := Lib.frozen_of_heap E1 5))
      have AP : Apart w.heap.size w4 (((((((w4.setCell ⟨w.heap.size, 3, none⟩ (.slice A4 z4.length c4)).setCell ⟨w.heap.size + 1, 0, none⟩ (.bool lb)).setCell ⟨w.heap.size + 1, 1, none⟩ (.int .i64 nm)).setCell ⟨w.heap.size + 1, 2, none⟩ (.slice VA vl vc)).setCell ⟨w.heap.size + 1, 3, none⟩ (.slice A4 z4.length c4)).setCell ⟨w.heap.size + 1, 4, none⟩ (.int .i64 (k + 1))).setCell ⟨w.heap.size + 1, 5, none⟩ (.int .i64 0)) := by
        refine Apart.set (Apart.set (Apart.set (Apart.set (Apart.set (Apart.set (Apart.set (Apart.refl _ _) ?_ _) ?_ _) ?_ _) ?_ _) ?_ _) ?_ _) ?_ _
        all_goals (simp only []; omega)
      have BW : Below w.heap.size w (((((((w4.setCell ⟨w.heap.size, 3, none⟩ (.slice A4 z4.length c4)).setCell ⟨w.heap.size + 1, 0, none⟩ (.bool lb)).setCell ⟨w.heap.size + 1, 1, none⟩ (.int .i64 nm)).setCell ⟨w.heap.size + 1, 2, none⟩ (.slice VA vl vc)).setCell ⟨w.heap.size + 1, 3, none⟩ (.slice A4 z4.length c4)).setCell ⟨w.heap.size + 1, 4, none⟩ (.int .i64 (k + 1))).setCell ⟨w.heap.size + 1, 5, none⟩ (.int .i64 0)) := by
        have B4 : Below w.heap.size w w4 := (bel3 w _ _ _ (Nat.le_refl _)).trans (P4.mono (by omega))
        refine Below.setCell (Below.setCell (Below.setCell (Below.setCell (Below.setCell (Below.setCell (Below.setCell B4 ?_ _) ?_ _) ?_ _) ?_ _) ?_ _) ?_ _) ?_ _
        all_goals (simp only []; omega)
      have far : ∀ j, (w4.setCell ⟨w.heap.size, 3, none⟩ (.slice A4 z4.length c4)).cell? ⟨w.heap.size + 1, j, none⟩ = w4.cell? ⟨w.heap.size + 1, j, none⟩ :=
        fun j => World.cell?_setCell_other _ _ _ _ (fun e => by injection e with e; omega)
      have Q := six_cells (w4.setCell ⟨w.heap.size, 3, none⟩ (.slice A4 z4.length c4)) (w.heap.size + 1) (.bool lb) (.int .i64 nm) (.slice VA vl vc) (.slice A4 z4.length c4) (.int .i64 (k + 1)) (.int .i64 0)
        ((far 0).trans D00) ((far 1).trans D01) ((far 2).trans D02) ((far 3).trans D03) ((far 4).trans D04) ((far 5).trans D05) _ rfl
      clear far
      generalize ((((((w4.setCell ⟨w.heap.size, 3, none⟩ (.slice A4 z4.length c4)).setCell ⟨w.heap.size + 1, 0, none⟩ (.bool lb)).setCell ⟨w.heap.size + 1, 1, none⟩ (.int .i64 nm)).setCell ⟨w.heap.size + 1, 2, none⟩ (.slice VA vl vc)).setCell ⟨w.heap.size + 1, 3, none⟩ (.slice A4 z4.length c4)).setCell ⟨w.heap.size + 1, 4, none⟩ (.int .i64 (k + 1))).setCell ⟨w.heap.size + 1, 5, none⟩ (.int .i64 0) = W at AP BW Q ⊢
      obtain ⟨q0, q1, q2, q3, q4, q5⟩ := Q
      refine bodyPost_ret (v := .tuple #[pv lb nm VA vl vc A4 z4.length c4 (k + 1) 0, .int .i64 (max 0 (min x most))]) (by simp [results, Tryd.results71, go_sem, q0, q1, q2, q3, q4, q5]) rfl ?_
      exact ChPost.good EV.out BW (by rw [hz4.out, hz3.out]; simp) (AP.at_ own4) (by simp)
    | false =>
      by_cases hr : 0 ≤ x ∧ x ≤ most
      · have EV := Lib.hid (show chC false (l.drop k) most = .ok (x, l.drop (k + 1)) by rw [DR.out]; unfold chC readC; simp only [if_pos hr])
        obtain ⟨r1, r2⟩ := hr
        have g2 : decide (x < 0) = false := by rw [decide_eq_false_iff_not]; omega
        have g3 : decide (most < x) = false := by rw [decide_eq_false_iff_not]; omega
        go_enter Tryd.func71, Tryd.ntmps71
        go_wp2_with (first
          | (at_builtin
             refine wpList_append_ints rfl (.tmp 43) (.tmp 45) rfl (w.heap.size + 1 + 1) 0 (some ⟨w.heap.size + 1 + 1, 0, none⟩) [] (Own.empty (new3 _ _ _ _)) N TA tc t (HT.out.below (bel3 _ _ _ _ HN.out)) rfl rfl (by simp; omega) (by simp) ?_
             intro A3 c3 w3 z3 hz3 own3 g3 r3
             have P3 := (Below.refl (w.heap.size + 1 + 1) _).grown g3 (by simp) (by intro k hk; simp [rowOf] at hk; omega)
             have Z3 : w.heap.size + 1 + 1 ≤ w3.heap.size := by have := P3.size; simp at this; omega
             have L3 := Lib.hid (show z3.length = t.length by rw [hz3.out]; simp))
          | (at_builtin
             refine wpList_append_ints rfl (.tmp 46) (.tmp 48) rfl (w.heap.size + 1 + 1) c3 A3 z3 (Own.below own3 ((Below.refl _ _).alloc (Nat.le_refl _) _)) (w3.heap.size + 1) (some ⟨w3.heap.size, 0, none⟩) 1 [x]
               (lone_at w3.heap.size _ _ (by simp)) rfl rfl (by have := L3.out; simp; omega) (by simp; omega) ?_
             intro A4 c4 w4 z4 hz4 own4 g4 r4
             have P4 := (P3.alloc Z3 (.cells #[.int .i64 (x)] 3)).grown g4 (by simp; omega) own3.ge
             have E0 := (P4.block w.heap.size (by omega)).trans (new1 _ _ _ _)
             have E1 := (P4.block (w.heap.size + 1) (by omega)).trans (new2 _ _ _ _)
             have C00 : w4.cell? ⟨w.heap.size, 0, none⟩ = some (.bool lb) := by rw [Lib.cell_of_heap E0]; rfl
             have C01 : w4.cell? ⟨w.heap.size, 1, none⟩ = some (.int .i64 nm) := by rw [Lib.cell_of_heap E0]; rfl
             have C02 : w4.cell? ⟨w.heap.size, 2, none⟩ = some (.slice VA vl vc) := by rw [Lib.cell_of_heap E0]; rfl
             have C03 : w4.cell? ⟨w.heap.size, 3, none⟩ = some (.slice TA t.length tc) := by rw [Lib.cell_of_heap E0]; rfl
             have C04 : w4.cell? ⟨w.heap.size, 4, none⟩ = some (.int .i64 (k + 1)) := by rw [Lib.cell_of_heap E0]; rfl
             have C05 : w4.cell? ⟨w.heap.size, 5, none⟩ = some (.int .i64 0) := by rw [Lib.cell_of_heap E0]; rfl
             have F03 := Lib.frozen_of_heap E0 3
             have D00 : w4.cell? ⟨w.heap.size + 1, 0, none⟩ = some (.bool false) := by rw [Lib.cell_of_heap E1]; rfl
             have D01 : w4.cell? ⟨w.heap.size + 1, 1, none⟩ = some (.int .i64 0) := by rw [Lib.cell_of_heap E1]; rfl
             have D02 : w4.cell? ⟨w.heap.size + 1, 2, none⟩ = some (.slice none 0 0) := by rw [Lib.cell_of_heap E1]; rfl
             have D03 : w4.cell? ⟨w.heap.size + 1, 3, none⟩ = some (.slice none 0 0) := by rw [Lib.cell_of_heap E1]; rfl
             have D04 : w4.cell? ⟨w.heap.size + 1, 4, none⟩ = some (.int .i64 0) := by rw [Lib.cell_of_heap E1]; rfl
             have D05 : w4.cell? ⟨w.heap.size + 1, 5, none⟩ = some (.int .i64 0) := by rw [Lib.cell_of_heap E1]; rfl
             have G0 := Lib.frozen_of_heap E1 0
             have G1 := Lib.frozen_of_heap E1 1
             have G2 := Lib.frozen_of_heap E1 2
             have G3 := Lib.frozen_of_heap E1 3
             have G4 := Lib.frozen_of_heap E1 4
             have G5 := Lib.frozen_of_heap E1 5))
        have AP : Apart w.heap.size w4 (((((((w4.setCell ⟨w.heap.size, 3, none⟩ (.slice A4 z4.length c4)).setCell ⟨w.heap.size + 1, 0, none⟩ (.bool lb)).setCell ⟨w.heap.size + 1, 1, none⟩ (.int .i64 nm)).setCell ⟨w.heap.size + 1, 2, none⟩ (.slice VA vl vc)).setCell ⟨w.heap.size + 1, 3, none⟩ (.slice A4 z4.length c4)).setCell ⟨w.heap.size + 1, 4, none⟩ (.int .i64 (k + 1))).setCell ⟨w.heap.size + 1, 5, none⟩ (.int .i64 0)) := by
          refine Apart.set (Apart.set (Apart.set (Apart.set (Apart.set (Apart.set (Apart.set (Apart.refl _ _) ?_ _) ?_ _) ?_ _) ?_ _) ?_ _) ?_ _) ?_ _
          all_goals (simp only []; omega)
        have BW : Below w.heap.size w (((((((w4.setCell ⟨w.heap.size, 3, none⟩ (.slice A4 z4.length c4)).setCell ⟨w.heap.size + 1, 0, none⟩ (.bool lb)).setCell ⟨w.heap.size + 1, 1, none⟩ (.int .i64 nm)).setCell ⟨w.heap.size + 1, 2, none⟩ (.slice VA vl vc)).setCell ⟨w.heap.size + 1, 3, none⟩ (.slice A4 z4.length c4)).setCell ⟨w.heap.size + 1, 4, none⟩ (.int .i64 (k + 1))).setCell ⟨w.heap.size + 1, 5, none⟩ (.int .i64 0)) := by
          have B4 : Below w.heap.size w w4 := (bel3 w _ _ _ (Nat.le_refl _)).trans (P4.mono (by omega))
          refine Below.setCell (Below.setCell (Below.setCell (Below.setCell (Below.setCell (Below.setCell (Below.setCell B4 ?_ _) ?_ _) ?_ _) ?_ _) ?_ _) ?_ _) ?_ _
          all_goals (simp only []; omega)
        have far : ∀ j, (w4.setCell ⟨w.heap.size, 3, none⟩ (.slice A4 z4.length c4)).cell? ⟨w.heap.size + 1, j, none⟩ = w4.cell? ⟨w.heap.size + 1, j, none⟩ :=
          fun j => World.cell?_setCell_other _ _ _ _ (fun e => by injection e with e; omega)
        have Q := six_cells (w4.setCell ⟨w.heap.size, 3, none⟩ (.slice A4 z4.length c4)) (w.heap.size + 1) (.bool lb) (.int .i64 nm) (.slice VA vl vc) (.slice A4 z4.length c4) (.int .i64 (k + 1)) (.int .i64 0)
          ((far 0).trans D00) ((far 1).trans D01) ((far 2).trans D02) ((far 3).trans D03) ((far 4).trans D04) ((far 5).trans D05) _ rfl
        clear far
        generalize ((((((w4.setCell ⟨w.heap.size, 3, none⟩ (.slice A4 z4.length c4)).setCell ⟨w.heap.size + 1, 0, none⟩ (.bool lb)).setCell ⟨w.heap.size + 1, 1, none⟩ (.int .i64 nm)).setCell ⟨w.heap.size + 1, 2, none⟩ (.slice VA vl vc)).setCell ⟨w.heap.size + 1, 3, none⟩ (.slice A4 z4.length c4)).setCell ⟨w.heap.size + 1, 4, none⟩ (.int .i64 (k + 1))).setCell ⟨w.heap.size + 1, 5, none⟩ (.int .i64 0) = W at AP BW Q ⊢
        obtain ⟨q0, q1, q2, q3, q4, q5⟩ := Q
        refine bodyPost_ret (v := .tuple #[pv lb nm VA vl vc A4 z4.length c4 (k + 1) 0, .int .i64 (x)]) (by simp [results, Tryd.results71, go_sem, q0, q1, q2, q3, q4, q5]) rfl ?_
        exact ChPost.good EV.out BW (by rw [hz4.out, hz3.out]; simp) (AP.at_ own4) (by simp)
      · have EV := Lib.hid (show chC false (l.drop k) most = .error 1 by rw [DR.out]; unfold chC readC; simp only [if_neg hr])
        rcases (show x < 0 ∨ (¬ x < 0 ∧ most < x) by omega) with q | ⟨q, q'⟩
        · have g2 : decide (x < 0) = true := by rw [decide_eq_true_eq]; exact q
          clear hr
          go_enter Tryd.func71, Tryd.ntmps71
          go_wp2_with fail
          refine bodyPost_ret (v := .tuple #[pv lb nm VA vl vc TA t.length tc k 1, .int .i64 0]) (by simp [results, Tryd.results71, go_sem]) rfl ?_
          exact .bad EV.out (((Below.refl _ _).alloc (Nat.le_refl _) _).alloc (by simp) _)
        · have g2 : decide (x < 0) = false := by rw [decide_eq_false_iff_not]; exact q
          have g3 : decide (most < x) = true := by rw [decide_eq_true_eq]; exact q'
          clear hr
          go_enter Tryd.func71, Tryd.ntmps71
          go_wp2_with fail
          refine bodyPost_ret (v := .tuple #[pv lb nm VA vl vc TA t.length tc k 1, .int .i64 0]) (by simp [results, Tryd.results71, go_sem]) rfl ?_
          exact .bad EV.out (((Below.refl _ _).alloc (Nat.le_refl _) _).alloc (by simp) _)
  · have DR := Lib.hid (show l.drop k = [] from List.drop_eq_nil_of_le (by omega))
    have g1 : decide ((k : Int) < l.length) = false := by rw [decide_eq_false_iff_not]; omega
    cases mend with
    | true =>
      have EV := Lib.hid (show chC true (l.drop k) most = .ok (max 0 (min 0 most), []) by rw [DR.out]; rfl)
      have g2 : decide (max 0 (min 0 most) < 0) = false := by rw [decide_eq_false_iff_not]; omega
      have g3 : decide (most < max 0 (min 0 most)) = false := by rw [decide_eq_false_iff_not]; omega
      go_enter Tryd.func71, Tryd.ntmps71
      go_wp2_with (first
        | (at_builtin
           refine wpList_append_ints rfl (.tmp 43) (.tmp 45) rfl (w.heap.size + 1 + 1) 0 (some ⟨w.heap.size + 1 + 1, 0, none⟩) [] (Own.empty (new3 _ _ _ _)) N TA tc t (HT.out.below (bel3 _ _ _ _ HN.out)) rfl rfl (by simp; omega) (by simp) ?_
           intro A3 c3 w3 z3 hz3 own3 g3 r3
           have P3 := (Below.refl (w.heap.size + 1 + 1) _).grown g3 (by simp) (by intro k hk; simp [rowOf] at hk; omega)
           have Z3 : w.heap.size + 1 + 1 ≤ w3.heap.size := by have := P3.size; simp at this; omega
           have L3 := Lib.hid (show z3.length = t.length by rw [hz3.out]; simp))
        | (at_builtin
           refine wpList_append_ints rfl (.tmp 46) (.tmp 48) rfl (w.heap.size + 1 + 1) c3 A3 z3 (Own.below own3 ((Below.refl _ _).alloc (Nat.le_refl _) _)) (w3.heap.size + 1) (some ⟨w3.heap.size, 0, none⟩) 1 [max 0 (min 0 most)]
             (lone_at w3.heap.size _ _ (by simp)) rfl rfl (by have := L3.out; simp; omega) (by simp; omega) ?_
           intro A4 c4 w4 z4 hz4 own4 g4 r4
           have P4 := (P3.alloc Z3 (.cells #[.int .i64 (max 0 (min 0 most))] 3)).grown g4 (by simp; omega) own3.ge
           have E0 := (P4.block w.heap.size (by omega)).trans (new1 _ _ _ _)
           have E1 := (P4.block (w.heap.size + 1) (by omega)).trans (new2 _ _ _ _)
           have C00 : w4.cell? ⟨w.heap.size, 0, none⟩ = some (.bool lb) := by rw [Lib.cell_of_heap E0]; rfl
           have C01 : w4.cell? ⟨w.heap.size, 1, none⟩ = some (.int .i64 nm) := by rw [Lib.cell_of_heap E0]; rfl
           have C02 : w4.cell? ⟨w.heap.size, 2, none⟩ = some (.slice VA vl vc) := by rw [Lib.cell_of_heap E0]; rfl
           have C03 : w4.cell? ⟨w.heap.size, 3, none⟩ = some (.slice TA t.length tc) := by rw [Lib.cell_of_heap E0]; rfl
           have C04 : w4.cell? ⟨w.heap.size, 4, none⟩ = some (.int .i64 (k + 1)) := by rw [Lib.cell_of_heap E0]; rfl
           have C05 : w4.cell? ⟨w.heap.size, 5, none⟩ = some (.int .i64 0) := by rw [Lib.cell_of_heap E0]; rfl
           have F03 := Lib.frozen_of_heap E0 3
           have D00 : w4.cell? ⟨w.heap.size + 1, 0, none⟩ = some (.bool false) := by rw [Lib.cell_of_heap E1]; rfl
           have D01 : w4.cell? ⟨w.heap.size + 1, 1, none⟩ = some (.int .i64 0) := by rw [Lib.cell_of_heap E1]; rfl
           have D02 : w4.cell? ⟨w.heap.size + 1, 2, none⟩ = some (.slice none 0 0) := by rw [Lib.cell_of_heap E1]; rfl
           have D03 : w4.cell? ⟨w.heap.size + 1, 3, none⟩ = some (.slice none 0 0) := by rw [Lib.cell_of_heap E1]; rfl
           have D04 : w4.cell? ⟨w.heap.size + 1, 4, none⟩ = some (.int .i64 0) := by rw [Lib.cell_of_heap E1]; rfl
           have D05 : w4.cell? ⟨w.heap.size + 1, 5, none⟩ = some (.int .i64 0) := by rw [Lib.cell_of_heap E1]; rfl
           have G0 := Lib.frozen_of_heap E1 0
           have G1 := Lib.frozen_of_heap E1 1
           have G2 := Lib.frozen_of_heap E1 2
           have G3 := Lib.frozen_of_heap E1 3
           have G4 := Lib.frozen_of_heap E1 4
           have G5 := Lib.frozen_of_heap E1 5))
      have AP : Apart w.heap.size w4 (((((((w4.setCell ⟨w.heap.size, 3, none⟩ (.slice A4 z4.length c4)).setCell ⟨w.heap.size + 1, 0, none⟩ (.bool lb)).setCell ⟨w.heap.size + 1, 1, none⟩ (.int .i64 nm)).setCell ⟨w.heap.size + 1, 2, none⟩ (.slice VA vl vc)).setCell ⟨w.heap.size + 1, 3, none⟩ (.slice A4 z4.length c4)).setCell ⟨w.heap.size + 1, 4, none⟩ (.int .i64 (k + 1))).setCell ⟨w.heap.size + 1, 5, none⟩ (.int .i64 0)) := by
        refine Apart.set (Apart.set (Apart.set (Apart.set (Apart.set (Apart.set (Apart.set (Apart.refl _ _) ?_ _) ?_ _) ?_ _) ?_ _) ?_ _) ?_ _) ?_ _
        all_goals (simp only []; omega)
      have BW : Below w.heap.size w (((((((w4.setCell ⟨w.heap.size, 3, none⟩ (.slice A4 z4.length c4)).setCell ⟨w.heap.size + 1, 0, none⟩ (.bool lb)).setCell ⟨w.heap.size + 1, 1, none⟩ (.int .i64 nm)).setCell ⟨w.heap.size + 1, 2, none⟩ (.slice VA vl vc)).setCell ⟨w.heap.size + 1, 3, none⟩ (.slice A4 z4.length c4)).setCell ⟨w.heap.size + 1, 4, none⟩ (.int .i64 (k + 1))).setCell ⟨w.heap.size + 1, 5, none⟩ (.int .i64 0)) := by
        have B4 : Below w.heap.size w w4 := (bel3 w _ _ _ (Nat.le_refl _)).trans (P4.mono (by omega))
        refine Below.setCell (Below.setCell (Below.setCell (Below.setCell (Below.setCell (Below.setCell (Below.setCell B4 ?_ _) ?_ _) ?_ _) ?_ _) ?_ _) ?_ _) ?_ _
        all_goals (simp only []; omega)
      have far : ∀ j, (w4.setCell ⟨w.heap.size, 3, none⟩ (.slice A4 z4.length c4)).cell? ⟨w.heap.size + 1, j, none⟩ = w4.cell? ⟨w.heap.size + 1, j, none⟩ :=
        fun j => World.cell?_setCell_other _ _ _ _ (fun e => by injection e with e; omega)
      have Q := six_cells (w4.setCell ⟨w.heap.size, 3, none⟩ (.slice A4 z4.length c4)) (w.heap.size + 1) (.bool lb) (.int .i64 nm) (.slice VA vl vc) (.slice A4 z4.length c4) (.int .i64 (k + 1)) (.int .i64 0)
        ((far 0).trans D00) ((far 1).trans D01) ((far 2).trans D02) ((far 3).trans D03) ((far 4).trans D04) ((far 5).trans D05) _ rfl
      clear far
      generalize ((((((w4.setCell ⟨w.heap.size, 3, none⟩ (.slice A4 z4.length c4)).setCell ⟨w.heap.size + 1, 0, none⟩ (.bool lb)).setCell ⟨w.heap.size + 1, 1, none⟩ (.int .i64 nm)).setCell ⟨w.heap.size + 1, 2, none⟩ (.slice VA vl vc)).setCell ⟨w.heap.size + 1, 3, none⟩ (.slice A4 z4.length c4)).setCell ⟨w.heap.size + 1, 4, none⟩ (.int .i64 (k + 1))).setCell ⟨w.heap.size + 1, 5, none⟩ (.int .i64 0) = W at AP BW Q ⊢
      obtain ⟨q0, q1, q2, q3, q4, q5⟩ := Q
      refine bodyPost_ret (v := .tuple #[pv lb nm VA vl vc A4 z4.length c4 (k + 1) 0, .int .i64 (max 0 (min 0 most))]) (by simp [results, Tryd.results71, go_sem, q0, q1, q2, q3, q4, q5]) rfl ?_
      exact ChPost.good EV.out BW (by rw [hz4.out, hz3.out]; simp) (AP.at_ own4) (by simp)
    | false =>
      have EV := Lib.hid (show chC false (l.drop k) most = .error 5 by rw [DR.out]; rfl)
      go_enter Tryd.func71, Tryd.ntmps71
      go_wp2_with fail
      refine bodyPost_ret (v := .tuple #[pv lb nm VA vl vc TA t.length tc k 5, .int .i64 0]) (by simp [results, Tryd.results71, go_sem]) rfl ?_
      exact .bad EV.out (((Below.refl _ _).alloc (Nat.le_refl _) _).alloc (by simp) _)
end Go.Proofs.YtffkppjmdelajaaDoor.Gens

/- Contract of the document's own MendOf, of what Played does (Plays: still to prove). Condition: the sizes. -/
namespace Go.Proofs.YtffkppjmdelajaaDoor.Gens
open Go.RowKit Lists Ints Vals
set_option linter.unusedVariables false

/-- what a play comes to -/
def PlPost (w : World) (t : List Int) (k : Nat) (r : Except Int (List Int × Tr × List Int)) (e : Ending) (w' : World) : Prop :=
  Below w.heap.size w w' ∧ match r with
    | .ok (c, v, _) => ∃ (VA TA : Option Addr) (vc tc n : Nat), e = .returned (pv v.list v.num VA v.items.length vc TA (t ++ c).length tc (k + c.length : Nat) 0) ∧
        TAt w' (fun b => w.heap.size ≤ b ∧ b < w'.heap.size) n (.agg #[.bool v.list, .int .i64 v.num, .slice VA v.items.length vc]) v ∧ At w' w'.heap.size TA (t ++ c)
    | .error er => er ≠ 0 ∧ ∃ (lb : Bool) (nm : Int) (VA : Option Addr) (vl vc : Nat) (TA : Option Addr) (tl tc : Nat) (k' : Int), e = .returned (pv lb nm VA vl vc TA tl tc k' er)
/-- what is asked of Played -/
def Plays : Prop := ∀ (n : Nat) (g : Gn) (v : Value) (lb : Bool) (nm : Int) (VA : Option Addr) (vl vc : Nat) (t : List Int) (TA : Option Addr) (tc k : Nat) (l : List Int) (L : Option Addr) (lc : Nat) (mend : Bool) (B : Nat) (w : World),
  GAt w (GBel B) n v g → Right g → g.size ≤ 4294967296 → At w B TA t → At w B L l → B ≤ w.heap.size → t.length + longG g ≤ 4294967296 → l.length ≤ 4294967296 → k + longG g ≤ 4294967296 →
  Calls Tryd.prog 47 #[v, pv lb nm VA vl vc TA t.length tc k 0, .slice L l.length lc, .bool mend] w (PlPost w t k (play (chC mend) g (l.drop k)))

set_option maxRecDepth 100000 in
theorem fieldTape (lb : Bool) (nm : Int) (VA : Option Addr) (vl vc : Nat) (TA : Option Addr) (tl tc : Nat) (a e : Int) (w : World) :
    (Instr.field 84 (pv lb nm VA vl vc TA tl tc a e) 1).run Tryd.prog w = .ok (.slice TA tl tc) w := by kernel_rfl
set_option maxRecDepth 100000 in
theorem mendof_any (HP : Plays) (n : Nat) (g : Gn) (A : Option Addr) (c : Nat) (l : List Int) (L : Option Addr) (lc B : Nat) (w : World) (hg : GAt w (GBel B) n (gv g A c) g) (hr : Right g) (hs : g.size ≤ 4294967296) (hl : At w B L l) (hB : B ≤ w.heap.size)
    (hq : longG g ≤ 4294967296) (hll : l.length ≤ 4294967296) {m r : List Int} {x : Tr} (hm : play mendC g l = .ok (m, x, r)) :
    Calls Tryd.prog 17 #[gv g A c, .slice L l.length lc] w fun e w' => Below w.heap.size w w' ∧ ∃ (TA : Option Addr) (tc : Nat), e = .returned (.slice TA m.length tc) ∧ At w' w'.heap.size TA m := by
  have P := fun w1 (b1 : Below w.heap.size w w1) => HP n g (gv g A c) false 0 none 0 0 [] none 0 0 l L lc true B w1 (hg.below (b1.mono hB)) hr hs At.nil (hl.below (b1.mono hB)) (Nat.le_trans hB b1.size) (by simpa using hq) hll (by simpa using hq)
  simp only [List.drop_zero, chC, hm, List.length_nil] at P
  have P := Lib.hid P
  have hfT := fieldTape
  clear hg hr hs hl hB hq hll hm HP
  go_enter Tryd.func17, Tryd.ntmps17
  go_wp2_with fail
  have H0 : Below w.heap.size w (w.alloc (gc g A c)) := (Below.refl _ _).alloc (Nat.le_refl _) _
  refine (P.out _ H0).mono ?_
  rintro e w1 ⟨b1, VA, TA, vc, tc, n', rfl, _, ha⟩
  have B1 := Lib.hid (on H0 b1)
  have HA := Lib.hid ha
  clear b1 ha H0
  simp only [List.nil_append] at *
  go_wp2_with fail
  go_ret
  exact ⟨B1.out, TA, tc, rfl, HA.out⟩

/-- what the document's replay is -/
def replayG (g : Gn) (l : List Int) : Except Int Tr := match play readC g l with
  | .ok (_, v, r) => if r = [] then .ok v else .error 3
  | .error e => .error e
theorem replay_kinds (g : Gn) (l : List Int) : (∃ c v r, play readC g l = .ok (c, v, r)) ∨ ∃ e, play readC g l = .error e := by
  cases h : play readC g l with
  | error e => exact .inr ⟨e, rfl⟩
  | ok p => exact .inl ⟨p.1, p.2.1, p.2.2, rfl⟩
end Go.Proofs.YtffkppjmdelajaaDoor.Gens

/- Contract of the document's own MostOf, of what Played does. Condition: the sizes. -/
namespace Go.Proofs.YtffkppjmdelajaaDoor.Gens
open Go.RowKit Lists Ints Vals
set_option linter.unusedVariables false

/-- the choice that comes at a place; -1: there is none -/
def mostG (g : Gn) (l : List Int) (k : Nat) : Int := match play mendC g (l.take k ++ [1001]) with
  | .ok (m, _, _) => if m.length ≤ k then -1 else m.getD k 0
  | .error _ => 0
theorem at_take {w : World} {B : Nat} {A : Option Addr} {l : List Int} (h : At w B A l) (k : Nat) : At w B A (l.take k) := fun hp => by
  have hl : 0 < l.length := by rw [List.length_take] at hp; omega
  obtain ⟨b, off, e, hb, hc⟩ := h hl
  refine ⟨b, off, e, hb, fun j hj => ?_⟩
  rw [List.length_take] at hj
  rw [hc j (by omega)]
  rw [List.getD, List.getD, List.getElem?_take, if_pos (by omega)]

theorem new22 (w : World) (o q : Obj) : ((w.alloc o).alloc q).heap[w.heap.size + 1]? = some q := by
  have h := heap_alloc_new (w.alloc o) q
  have e : (w.alloc o).heap.size = w.heap.size + 1 := by simp
  rw [e] at h
  exact h
theorem new12 (w : World) (o q : Obj) : ((w.alloc o).alloc q).heap[w.heap.size]? = some o := by
  have h := heap_alloc_new w o
  exact (((Below.refl (w.heap.size + 1) (w.alloc o)).alloc (by simp) q).block _ (by omega)).trans h
theorem bel2 (w : World) (o q : Obj) {N : Nat} (hN : N ≤ w.heap.size) : Below N w ((w.alloc o).alloc q) :=
  ((Below.refl _ _).alloc hN _).alloc (by simp; omega) _

set_option maxHeartbeats 2000000 in
set_option maxRecDepth 100000 in
theorem mostof_any (HP : Plays) (n : Nat) (g : Gn) (A : Option Addr) (c : Nat) (l : List Int) (L : Option Addr) (lc k B : Nat) (w : World) (hg : GAt w (GBel B) n (gv g A c) g) (hr : Right g) (hs : g.size ≤ 4294967296) (hl : At w B L l) (hB : B ≤ w.heap.size)
    (hq : longG g ≤ 4294967296) (hll : l.length ≤ 4294967295) (hk : k ≤ l.length) (hc : l.length ≤ lc) :
    Calls Tryd.prog 48 #[gv g A c, .slice L l.length lc, .int .i64 k] w fun e w' => e = .returned (.int .i64 (mostG g l k)) ∧ Below w.heap.size w w' := by
  obtain ⟨m, v, r, hm⟩ := mend_ex hr (l.take k ++ [1001])
  have R := Lib.hid (show mostG g l k = if m.length ≤ k then -1 else m.getD k 0 by unfold mostG; rw [hm])
  have ML := (play_long mend_bounded g hr _ _ _ _ hm)
  have P := Lib.hid (fun (w1 : World) (b1 : Below w.heap.size w w1) (z : List Int) (A2 : Option Addr) (c2 : Nat) (hz : z = l.take k ++ [1001]) (ha : At w1 w1.heap.size A2 z) =>
    mendof_any HP n g A c z A2 c2 w1.heap.size w1 ((hg.below (b1.mono hB)).more (Nat.le_trans hB b1.size)) hr hs ha (Nat.le_refl _) hq (by rw [hz]; simp; omega) (m := m) (x := v) (r := r) (by rw [hz]; exact hm))
  have HT := Lib.hid (at_take hl k)
  have HB := Lib.hid hB
  have LT : (l.take k).length = k := by rw [List.length_take]; omega
  have LT := Lib.hid LT
  clear hm hg hr hs hl hB HP
  go_enter Tryd.func48, Tryd.ntmps48
  go_wp2_with (first
    | (at_builtin
       refine wpList_append_ints rfl (.tmp 9) (.tmp 12) rfl (w.heap.size + 1) 0 (some ⟨w.heap.size + 1, 0, none⟩) [] (Own.empty (new22 _ _ _)) B L lc (l.take k) (HT.out.below (bel2 _ _ _ HB.out)) rfl (by rw [LT.out]; rfl) (by rw [LT.out]; simp; omega) (by simp) ?_
       intro A3 c3 w3 z3 hz3 own3 g3 r3
       have P3 := (Below.refl (w.heap.size + 1) _).grown g3 (by simp) (by intro k hk; simp [rowOf] at hk; omega)
       have Z3 : w.heap.size + 1 ≤ w3.heap.size := by have := P3.size; simp at this; omega
       have L3 := Lib.hid (show z3.length = k by rw [hz3.out]; simp [LT.out]))
    | (at_builtin
       refine wpList_append_ints rfl (.tmp 13) (.tmp 14) rfl (w.heap.size + 1) c3 A3 z3 (Own.below own3 ((Below.refl _ _).alloc (Nat.le_refl _) _)) (w3.heap.size + 1) (some ⟨w3.heap.size, 0, none⟩) 1 [1001]
         (lone_at w3.heap.size _ _ (by simp)) rfl rfl (by have := L3.out; simp; omega) (by simp; omega) ?_
       intro A4 c4 w4 z4 hz4 own4 g4 r4
       have P4 := (P3.alloc Z3 (.cells #[.int .i64 1001] 3)).grown g4 (by simp; omega) own3.ge
       have B4 := Lib.hid ((bel2 w _ _ (Nat.le_refl _)).trans (P4.mono (Nat.le_succ _)))
       have C1 := Lib.hid (P.out w4 B4.out z4 A4 c4 (by rw [hz4.out, hz3.out]; simp) own4.at_)
       have E0 := (P4.block w.heap.size (by omega)).trans (new12 _ _ _)
       have C00 : w4.cell? ⟨w.heap.size, 0, none⟩ = some (.int .i64 g.kind) := by rw [Lib.cell_of_heap E0]; rfl
       have C01 : w4.cell? ⟨w.heap.size, 1, none⟩ = some (.int .i64 g.a) := by rw [Lib.cell_of_heap E0]; rfl
       have C02 : w4.cell? ⟨w.heap.size, 2, none⟩ = some (.int .i64 g.b) := by rw [Lib.cell_of_heap E0]; rfl
       have C03 : w4.cell? ⟨w.heap.size, 3, none⟩ = some (.slice A g.subs.length c) := by rw [Lib.cell_of_heap E0]; rfl
       clear P3 P4 Z3 E0 own3 own4 g3 g4 r3 r4)
    | fail)
  refine C1.out.mono ?_
  rintro e w5 ⟨b5, TA, tc, rfl, ha⟩
  have B5 := Lib.hid (on B4.out b5)
  clear C00 C01 C02 C03 b5
  by_cases hmk : m.length ≤ k
  · have R2 := Lib.hid (show mostG g l k = -1 by rw [R.out, if_pos hmk])
    have g1 : decide ((m.length : Int) ≤ k) = true := by rw [decide_eq_true_eq]; omega
    clear ha
    go_wp2_with fail
    go_ret
    exact ⟨ret_int R2.out.symm, B5.out⟩
  · have R2 := Lib.hid (show mostG g l k = m.getD k 0 by rw [R.out, if_neg hmk])
    have g1 : decide ((m.length : Int) ≤ k) = false := by rw [decide_eq_false_iff_not]; omega
    have g2 : k < m.length := by omega
    obtain ⟨b, off, rfl, _, hcell⟩ := ha (by omega)
    have c1 := hcell k g2
    clear hcell
    generalize m.getD k 0 = y at c1 R2
    go_wp2_with fail
    go_ret
    exact ⟨ret_int R2.out.symm, B5.out⟩
end Go.Proofs.YtffkppjmdelajaaDoor.Gens

/- What the document's own ReplayOf comes to (its walk: XRefReplayW). -/
namespace Go.Proofs.YtffkppjmdelajaaDoor.Gens
open Go.RowKit Lists Ints Vals
set_option linter.unusedVariables false

theorem three_cells (w : World) (b : Nat) (o : Obj) (x0 x1 x2 : Value) {y0 y1 y2 : Value} (hb : b < w.heap.size) (c0 : w.cell? ⟨b, 0, none⟩ = some y0) (c1 : w.cell? ⟨b, 1, none⟩ = some y1) (c2 : w.cell? ⟨b, 2, none⟩ = some y2) (W : World)
    (hW : W = (((w.setCell ⟨b, 0, none⟩ x0).setCell ⟨b, 1, none⟩ x1).setCell ⟨b, 2, none⟩ x2).alloc o) :
    W.cell? ⟨b, 0, none⟩ = some x0 ∧ W.cell? ⟨b, 1, none⟩ = some x1 ∧ W.cell? ⟨b, 2, none⟩ = some x2 := by
  have far : ∀ (u : World) (i j : Nat) (v : Value), i ≠ j → (u.setCell ⟨b, i, none⟩ v).cell? ⟨b, j, none⟩ = u.cell? ⟨b, j, none⟩ :=
    fun u i j v h => World.cell?_setCell_other _ _ _ _ (fun e => h (by injection e))
  have al : ∀ j, W.cell? ⟨b, j, none⟩ = (((w.setCell ⟨b, 0, none⟩ x0).setCell ⟨b, 1, none⟩ x1).setCell ⟨b, 2, none⟩ x2).cell? ⟨b, j, none⟩ := by
    intro j
    rw [hW]
    exact World.cell?_alloc_lt _ o ⟨b, j, none⟩ (by show b < _; simp; exact hb)
  refine ⟨?_, ?_, ?_⟩
  · rw [al, far _ 2 0 _ (by decide), far _ 1 0 _ (by decide)]
    exact World.cell?_setCell_same _ _ _ c0
  · rw [al, far _ 2 1 _ (by decide)]
    exact World.cell?_setCell_same _ _ _ ((far _ 0 1 _ (by decide)).trans c1)
  · rw [al]
    exact World.cell?_setCell_same _ _ _ ((far _ 1 2 _ (by decide)).trans ((far _ 0 2 _ (by decide)).trans c2))
def RpPost (w : World) (r : Except Int Tr) (e : Ending) (w' : World) : Prop :=
  Below w.heap.size w w' ∧ match r with
    | .ok v => ∃ (VA : Option Addr) (vc n : Nat), e = .returned (.tuple #[.agg #[.bool v.list, .int .i64 v.num, .slice VA v.items.length vc], .int .i64 0]) ∧ TAt w' (fun b => w.heap.size ≤ b ∧ b < w'.heap.size) n (.agg #[.bool v.list, .int .i64 v.num, .slice VA v.items.length vc]) v
    | .error er => er ≠ 0 ∧ e = .returned (.tuple #[.agg #[.bool false, .int .i64 0, .slice none 0 0], .int .i64 er])
end Go.Proofs.YtffkppjmdelajaaDoor.Gens

/- A row of values that the call itself makes: append of one value. Conditions: the size. -/
namespace Go.Proofs.YtffkppjmdelajaaDoor.Vals
open Go.RowKit Go.WideShapes Go.ChangeShapes
set_option linter.unusedVariables false

def blockOf (A : Option Addr) : Option Nat := A.map (·.block)
theorem blockOf_own (A : Option Addr) (n c : Nat) : (Value.slice A n c).ownBlock = blockOf A := by cases A <;> rfl
def three (x : Value × Value × Value) : List Value := [x.1, x.2.1, x.2.2]
/-- New memory of the call's own, the row's block aside. -/
def Mine (w : World) (base : Nat) (A : Option Addr) : Nat → Prop := fun b => base ≤ b ∧ b < w.heap.size ∧ blockOf A ≠ some b
/-- The row at A, of the call's own, holds the values acc, each of at most d levels. -/
def OwnT (w : World) (base : Nat) (A : Option Addr) (c : Nat) (acc : List Tr) (d : Nat) : Prop :=
  ∃ xs : List (Value × Value × Value), xs.length = acc.length ∧ w.ownsRow base 38 3 (.slice A acc.length c) acc.length (xs.flatMap three) ∧
    ∀ j (h : j < acc.length) (h' : j < xs.length), TAt w (Mine w base A) d (.agg #[(xs[j]'h').1, (xs[j]'h').2.1, (xs[j]'h').2.2]) (acc[j]'h)

theorem OwnT.none_ {w : World} {base d : Nat} : OwnT w base none 0 [] d := ⟨[], rfl, ⟨rfl, .inl ⟨rfl, rfl⟩⟩, fun j h => by simp at h⟩
theorem OwnT.ge {w : World} {base c d : Nat} {A : Option Addr} {acc : List Tr} (h : OwnT w base A c acc d) : ∀ g, blockOf A = some g → base ≤ g ∧ g < w.heap.size := by
  obtain ⟨xs, _, h, _⟩ := h
  intro g hg
  rcases h.2 with ⟨he, _⟩ | ⟨g', cap, cur, he, hb, hh, _⟩
  · injection he with he; subst he; cases hg
  · injection he with he; subst he
    have : g' = g := by simpa [blockOf] using hg
    subst this
    exact ⟨hb, (Array.getElem?_eq_some_iff.1 hh).1⟩
theorem OwnT.below {w w' : World} {base c d : Nat} {A : Option Addr} {acc : List Tr} (h : OwnT w base A c acc d) (hb : Below w.heap.size w w') : OwnT w' base A c acc d := by
  obtain ⟨xs, h1, h2, h3⟩ := h
  refine ⟨xs, h1, ⟨h2.1, ?_⟩, fun j hj hj' => (h3 j hj hj').keep fun b hm => ⟨⟨hm.1, Nat.lt_of_lt_of_le hm.2.1 hb.size, hm.2.2⟩, fun o => hb.cell (p := ⟨b, o, none⟩) hm.2.1⟩⟩
  rcases h2.2 with h0 | ⟨g, cap, cur, he, hbg, hh, r⟩
  · exact .inl h0
  · exact .inr ⟨g, cap, cur, he, hbg, (hb.block g (Array.getElem?_eq_some_iff.1 hh).1).trans hh, r⟩

theorem flat_len (xs : List (Value × Value × Value)) : (xs.flatMap three).length = xs.length * 3 := by
  induction xs with
  | nil => rfl
  | cons x r ih => simp only [List.flatMap_cons, List.length_append, ih, List.length_cons, three, List.length_nil]; omega
theorem flat_get : ∀ (xs : List (Value × Value × Value)) (j q : Nat) (h : j < xs.length), q < 3 → (xs.flatMap three)[j * 3 + q]? = (three (xs[j]'h))[q]?
  | [], j, q, h, _ => by simp at h
  | x :: r, 0, q, h, hq => by
    simp only [List.flatMap_cons, Nat.zero_mul, Nat.zero_add, List.getElem_cons_zero]
    rw [List.getElem?_append_left (by simp [three]; omega)]
  | x :: r, j + 1, q, h, hq => by
    have ih := flat_get r j q (by simpa using h) hq
    simp only [List.flatMap_cons, List.getElem_cons_succ]
    rw [List.getElem?_append_right (by simp [three]; omega), ← ih]
    congr 1
    simp [three]; omega
/-- what the row holds, as a value of one level more -/
theorem OwnT.at_ {w : World} {base c d : Nat} {A : Option Addr} {acc : List Tr} {l : Bool} {n : Int} (h : OwnT w base A c acc d) (hn : (Lit.int .i64 n).wf = true) :
    TAt w (fun b => base ≤ b ∧ b < w.heap.size) (d + 1) (.agg #[.bool l, .int .i64 n, .slice A acc.length c]) (.node l n acc) := by
  obtain ⟨xs, h1, h2, h3⟩ := h
  refine ⟨hn, A, c, rfl, fun hp => ?_⟩
  rcases h2.2 with ⟨he, h0⟩ | ⟨g, cap, cur, he, hbg, hh, _, _, _, ht⟩
  · simp only [Tr.items] at hp; omega
  · have hA : A = some ⟨g, 0, none⟩ := by injection he
    refine ⟨g, 0, hA, ⟨hbg, (Array.getElem?_eq_some_iff.1 hh).1⟩, fun j hj => ?_⟩
    have hj' : j < xs.length := by rw [h1]; exact hj
    have hcell : ∀ q, q < 3 → w.cell? ⟨g, 0 + j * 3 + q, none⟩ = (three (xs[j]'hj'))[q]? := by
      intro q hq
      rw [cell_of_row w g _ cur 38 (0, 0) hh]
      have e := flat_get xs j q hj' hq
      rw [← ht, List.getElem?_take] at e
      have hlt : j * 3 + q < acc.length * 3 := by
        have : j < acc.length := hj
        omega
      rw [if_pos hlt] at e
      rw [← e, Array.getElem?_toList]
      congr 1
      omega
    exact ⟨_, _, _, hcell 0 (by omega), hcell 1 (by omega), hcell 2 (by omega), (h3 j hj hj').keep fun b hm => ⟨⟨hm.1, hm.2.1⟩, fun _ => rfl⟩⟩

theorem val_info : (Tryd.prog.info? 38).map (fun i => (i.zero, i.size, i.bytes)) = some (some (.agg #[.bool false, .int .i64 0, .slice none 0 0]), 3, 40) := by kernel_rfl

set_option maxRecDepth 100000 in
theorem run_append_tree (w : World) (base c d : Nat) (A : Option Addr) (acc : List Tr) (hown : OwnT w base A c acc d) (b : Nat) (x0 x1 x2 : Value) (c2 : Nat) (t : Tr)
    (k0 : w.cell? ⟨b, 0, none⟩ = some x0) (k1 : w.cell? ⟨b, 1, none⟩ = some x1) (k2 : w.cell? ⟨b, 2, none⟩ = some x2) (one : x0.oneCell' = true ∧ x1.oneCell' = true ∧ x2.oneCell' = true)
    (ht : TAt w (Mine w base A) d (.agg #[x0, x1, x2]) t)
    (h63 : acc.length + 1 ≤ 1099511627776) (hbase : base ≤ w.heap.size) (ty : TypeId) :
    ∃ A' c' w', (Builtin.append_ #[36, 36] ty #[.slice A acc.length c, .slice (some ⟨b, 0, none⟩) 1 c2]).run Tryd.prog w = .ok (.slice A' (acc ++ [t]).length c') w' ∧ OwnT w' base A' c' (acc ++ [t]) d ∧ w.grownBy w' (blockOf A) := by
  obtain ⟨i0, hi, hz, hsz, hby⟩ := info_parts val_info
  obtain ⟨xs, h1, h2, h3⟩ := hown
  have hcells : ∀ j u, ([x0, x1, x2] : List Value)[j]? = some u → w.cell? ((⟨b, 0, none⟩ : Addr).add j) = some u := by
    intro j u hu
    rw [Go.WideShapes.add_plain, Nat.zero_add]
    match j, hu with
    | 0, hu => rw [k0]; simpa using hu
    | 1, hu => rw [k1]; simpa using hu
    | 2, hu => rw [k2]; simpa using hu
    | j + 3, hu => simp at hu
  obtain ⟨v', w', hrun, r2, r3, _, r5⟩ := run_append_own_at (P := Tryd.prog) w base 36 ty 38 i0 _ 3 40 Tryd.underlying36 hi hz hsz hby rfl (by decide) _ acc.length _ h2
    ⟨b, 0, none⟩ 1 c2 [x0, x1, x2] rfl hcells (by
      intro u hu
      simp only [List.mem_cons, List.not_mem_nil, or_false] at hu
      rcases hu with rfl | rfl | rfl
      · exact one.1
      · exact one.2.1
      · exact one.2.2) (by simp only [maxLen]; omega) (by omega) hbase
  have hv : ∃ A' c', v' = .slice A' (acc.length + 1) c' := by
    rcases r2.2 with ⟨he, hn⟩ | ⟨g, cap, cur, he, _⟩
    · omega
    · exact ⟨_, _, he⟩
  obtain ⟨A', c', rfl⟩ := hv
  rw [blockOf_own] at r3
  rw [blockOf_own, blockOf_own] at r5
  have e : (acc ++ [t]).length = acc.length + 1 := by simp
  have keep : ∀ b, Mine w base A b → Mine w' base A' b ∧ ∀ o, w'.cell? ⟨b, o, none⟩ = w.cell? ⟨b, o, none⟩ := by
    intro q hq
    refine ⟨⟨hq.1, Nat.lt_of_lt_of_le hq.2.1 r3.size, fun e => ?_⟩, fun o => World.cell?_of_block (r3.block q hq.2.1 (fun e => hq.2.2 e.symm))⟩
    rcases r5 with h | h
    · rw [h] at e; exact hq.2.2 e
    · rw [h] at e
      have := hq.2.1
      injection e with e
      omega
  refine ⟨A', c', w', by rw [e]; exact hrun, ⟨xs ++ [(x0, x1, x2)], by simp [h1], ?_, fun j hj hj' => ?_⟩, r3⟩
  · rw [e, List.flatMap_append]
    exact r2
  · by_cases hlt : j < acc.length
    · rw [List.getElem_append_left hlt]
      have hlt' : j < xs.length := by omega
      rw [List.getElem_append_left hlt']
      exact (h3 j hlt hlt').keep keep
    · obtain rfl : j = acc.length := by rw [e] at hj; omega
      rw [List.getElem_append_right (by omega), List.getElem_append_right (by omega)]
      simp only [h1, Nat.sub_self, List.getElem_cons_zero]
      exact ht.keep keep

theorem wpList_append_tree {ops : Array Oper} {rest : List Oper} {o : Oper} {a : Act} {w : World} {Q : Exit → Act → World → Prop} (hgd : o.guard = none) (s x : Operand)
    (ho : o.op = .call { callee := .builtin .append, args := #[s, x], argTypes := #[36, 36] })
    (base c d : Nat) (A : Option Addr) (acc : List Tr) (hown : OwnT w base A c acc d) (b : Nat) (x0 x1 x2 : Value) (c2 : Nat) (t : Tr)
    (k0 : w.cell? ⟨b, 0, none⟩ = some x0) (k1 : w.cell? ⟨b, 1, none⟩ = some x1) (k2 : w.cell? ⟨b, 2, none⟩ = some x2) (one : x0.oneCell' = true ∧ x1.oneCell' = true ∧ x2.oneCell' = true)
    (ht : TAt w (Mine w base A) d (.agg #[x0, x1, x2]) t)
    (hs : a.eval s = .slice A acc.length c) (hx : a.eval x = .slice (some ⟨b, 0, none⟩) 1 c2)
    (h63 : acc.length + 1 ≤ 1099511627776) (hbase : base ≤ w.heap.size)
    (h : ∀ A' c' w' (zl : List Tr), Hid (zl = acc ++ [t]) → OwnT w' base A' c' zl d → w.grownBy w' (blockOf A) → wpList Tryd.prog ops Q rest (a.put o.dst (.slice A' zl.length c')) w') : wpList Tryd.prog ops Q (o :: rest) a w := by
  obtain ⟨A', c', w', hrun, h2, h3⟩ := run_append_tree w base c d A acc hown b x0 x1 x2 c2 t k0 k1 k2 one ht h63 hbase o.type
  refine wpList_plain hgd fun K hK => ?_
  unfold Oper.wp execOp
  simp only [ho, resolve, invoke, builtin, Sem.run_bind, Sem.run_pure, Result.andThen_ok, List.map_toArray, List.map_cons, List.map_nil, hs, hx, hrun]
  exact hK _ _ (h A' c' w' _ rfl h2 h3)
end Go.Proofs.YtffkppjmdelajaaDoor.Vals

/- A row of values that the call itself makes, apart from a source's blocks: append of one value. Conditions: the size. -/
namespace Go.Proofs.YtffkppjmdelajaaDoor.Vals
open Go.RowKit Go.WideShapes Go.ChangeShapes
set_option linter.unusedVariables false

/-- New memory of the call's own, the row's block and the blocks of X aside. -/
def MineX (w : World) (base : Nat) (A : Option Addr) (X : Nat → Prop) : Nat → Prop := fun b => base ≤ b ∧ b < w.heap.size ∧ blockOf A ≠ some b ∧ ¬ X b
/-- The row at A, of the call's own, none of X, holds the values acc, each of at most d levels. -/
def OwnX (w : World) (base : Nat) (A : Option Addr) (c : Nat) (acc : List Tr) (d : Nat) (X : Nat → Prop) : Prop :=
  (∀ g, blockOf A = some g → ¬ X g) ∧ ∃ xs : List (Value × Value × Value), xs.length = acc.length ∧ w.ownsRow base 38 3 (.slice A acc.length c) acc.length (xs.flatMap three) ∧
    ∀ j (h : j < acc.length) (h' : j < xs.length), TAt w (MineX w base A X) d (.agg #[(xs[j]'h').1, (xs[j]'h').2.1, (xs[j]'h').2.2]) (acc[j]'h)
theorem OwnX.none_ {w : World} {base d : Nat} {X : Nat → Prop} : OwnX w base none 0 [] d X := ⟨(fun g h => by cases h), [], rfl, ⟨rfl, .inl ⟨rfl, rfl⟩⟩, fun j h => by simp at h⟩
theorem OwnX.t {w : World} {base c d : Nat} {A : Option Addr} {acc : List Tr} {X : Nat → Prop} (h : OwnX w base A c acc d X) : OwnT w base A c acc d := by
  obtain ⟨_, xs, h1, h2, h3⟩ := h
  exact ⟨xs, h1, h2, fun j hj hj' => (h3 j hj hj').keep fun b hm => ⟨⟨hm.1, hm.2.1, hm.2.2.1⟩, fun _ => rfl⟩⟩
/-- what was there, X aside, is as it was; and what is new is none of X' but by being new -/
structure Mv (X : Nat → Prop) (w w' : World) (X' : Nat → Prop) : Prop where
  os : w'.os = w.os
  tape : w'.tape = w.tape
  output : w'.output = w.output
  size : w.heap.size ≤ w'.heap.size
  block : ∀ b, b < w.heap.size → ¬ X b → w'.heap[b]? = w.heap[b]?
  new : ∀ b, X' b → X b ∨ w.heap.size ≤ b
theorem OwnX.mv {w w' : World} {base c d : Nat} {A : Option Addr} {acc : List Tr} {X X' : Nat → Prop} (h : OwnX w base A c acc d X) (hm : Mv X w w' X') : OwnX w' base A c acc d X' := by
  have hg := h.t.ge
  obtain ⟨hn, xs, h1, h2, h3⟩ := h
  refine ⟨fun g e hx => ?_, xs, h1, ⟨h2.1, ?_⟩, fun j hj hj' => (h3 j hj hj').keep fun b hb => ⟨⟨hb.1, Nat.lt_of_lt_of_le hb.2.1 hm.size, hb.2.2.1, fun hx => ?_⟩, fun o => World.cell?_of_block (hm.block b hb.2.1 hb.2.2.2)⟩⟩
  · rcases hm.new g hx with h | h
    · exact hn g e h
    · have := (hg g e).2; omega
  · rcases h2.2 with h0 | ⟨g, cap, cur, he, hbg, hh, r⟩
    · exact .inl h0
    · refine .inr ⟨g, cap, cur, he, hbg, (hm.block g (Array.getElem?_eq_some_iff.1 hh).1 (hn g ?_)).trans hh, r⟩
      injection he with he; subst he; rfl
  · rcases hm.new b hx with h | h
    · exact hb.2.2.2 h
    · have := hb.2.1; omega
set_option maxRecDepth 100000 in
theorem run_append_x (w : World) (base c d : Nat) (A : Option Addr) (acc : List Tr) (X : Nat → Prop) (hX : ∀ b, X b → b < w.heap.size) (hown : OwnX w base A c acc d X) (b : Nat) (x0 x1 x2 : Value) (c2 : Nat) (t : Tr)
    (k0 : w.cell? ⟨b, 0, none⟩ = some x0) (k1 : w.cell? ⟨b, 1, none⟩ = some x1) (k2 : w.cell? ⟨b, 2, none⟩ = some x2) (one : x0.oneCell' = true ∧ x1.oneCell' = true ∧ x2.oneCell' = true)
    (ht : TAt w (MineX w base A X) d (.agg #[x0, x1, x2]) t)
    (h63 : acc.length + 1 ≤ 1099511627776) (hbase : base ≤ w.heap.size) (ty : TypeId) :
    ∃ A' c' w', (Builtin.append_ #[36, 36] ty #[.slice A acc.length c, .slice (some ⟨b, 0, none⟩) 1 c2]).run Tryd.prog w = .ok (.slice A' (acc ++ [t]).length c') w' ∧ OwnX w' base A' c' (acc ++ [t]) d X ∧ w.grownBy w' (blockOf A) := by
  obtain ⟨i0, hi, hz, hsz, hby⟩ := info_parts val_info
  obtain ⟨hnx, xs, h1, h2, h3⟩ := hown
  have hcells : ∀ j u, ([x0, x1, x2] : List Value)[j]? = some u → w.cell? ((⟨b, 0, none⟩ : Addr).add j) = some u := by
    intro j u hu
    rw [Go.WideShapes.add_plain, Nat.zero_add]
    match j, hu with
    | 0, hu => rw [k0]; simpa using hu
    | 1, hu => rw [k1]; simpa using hu
    | 2, hu => rw [k2]; simpa using hu
    | j + 3, hu => simp at hu
  obtain ⟨v', w', hrun, r2, r3, _, r5⟩ := run_append_own_at (P := Tryd.prog) w base 36 ty 38 i0 _ 3 40 Tryd.underlying36 hi hz hsz hby rfl (by decide) _ acc.length _ h2
    ⟨b, 0, none⟩ 1 c2 [x0, x1, x2] rfl hcells (by
      intro u hu
      simp only [List.mem_cons, List.not_mem_nil, or_false] at hu
      rcases hu with rfl | rfl | rfl
      · exact one.1
      · exact one.2.1
      · exact one.2.2) (by simp only [maxLen]; omega) (by omega) hbase
  have hv : ∃ A' c', v' = .slice A' (acc.length + 1) c' := by
    rcases r2.2 with ⟨he, hn⟩ | ⟨g, cap, cur, he, _⟩
    · omega
    · exact ⟨_, _, he⟩
  obtain ⟨A', c', rfl⟩ := hv
  rw [blockOf_own] at r3
  rw [blockOf_own, blockOf_own] at r5
  have e : (acc ++ [t]).length = acc.length + 1 := by simp
  have keep : ∀ b, MineX w base A X b → MineX w' base A' X b ∧ ∀ o, w'.cell? ⟨b, o, none⟩ = w.cell? ⟨b, o, none⟩ := by
    intro q hq
    refine ⟨⟨hq.1, Nat.lt_of_lt_of_le hq.2.1 r3.size, fun e => ?_, hq.2.2.2⟩, fun o => World.cell?_of_block (r3.block q hq.2.1 (fun e => hq.2.2.1 e.symm))⟩
    rcases r5 with h | h
    · rw [h] at e; exact hq.2.2.1 e
    · rw [h] at e
      have := hq.2.1
      injection e with e
      omega
  have hnx' : ∀ g, blockOf A' = some g → ¬ X g := by
    intro g hg hx
    rcases r5 with h | h
    · rw [h] at hg; exact hnx g hg hx
    · rw [h] at hg
      injection hg with hg
      have := hX g hx
      omega
  refine ⟨A', c', w', by rw [e]; exact hrun, ⟨hnx', xs ++ [(x0, x1, x2)], by simp [h1], ?_, fun j hj hj' => ?_⟩, r3⟩
  · rw [e, List.flatMap_append]
    exact r2
  · by_cases hlt : j < acc.length
    · rw [List.getElem_append_left hlt]
      have hlt' : j < xs.length := by omega
      rw [List.getElem_append_left hlt']
      exact (h3 j hlt hlt').keep keep
    · obtain rfl : j = acc.length := by rw [e] at hj; omega
      rw [List.getElem_append_right (by omega), List.getElem_append_right (by omega)]
      simp only [h1, Nat.sub_self, List.getElem_cons_zero]
      exact ht.keep keep

theorem wpList_append_x {ops : Array Oper} {rest : List Oper} {o : Oper} {a : Act} {w : World} {Q : Exit → Act → World → Prop} (hgd : o.guard = none) (s x : Operand)
    (ho : o.op = .call { callee := .builtin .append, args := #[s, x], argTypes := #[36, 36] })
    (base c d : Nat) (A : Option Addr) (acc : List Tr) (X : Nat → Prop) (hX : ∀ b, X b → b < w.heap.size) (hown : OwnX w base A c acc d X) (b : Nat) (x0 x1 x2 : Value) (c2 : Nat) (t : Tr)
    (k0 : w.cell? ⟨b, 0, none⟩ = some x0) (k1 : w.cell? ⟨b, 1, none⟩ = some x1) (k2 : w.cell? ⟨b, 2, none⟩ = some x2) (one : x0.oneCell' = true ∧ x1.oneCell' = true ∧ x2.oneCell' = true)
    (ht : TAt w (MineX w base A X) d (.agg #[x0, x1, x2]) t)
    (hs : a.eval s = .slice A acc.length c) (hx : a.eval x = .slice (some ⟨b, 0, none⟩) 1 c2)
    (h63 : acc.length + 1 ≤ 1099511627776) (hbase : base ≤ w.heap.size)
    (h : ∀ A' c' w' (zl : List Tr), Hid (zl = acc ++ [t]) → OwnX w' base A' c' zl d X → w.grownBy w' (blockOf A) → wpList Tryd.prog ops Q rest (a.put o.dst (.slice A' zl.length c')) w') : wpList Tryd.prog ops Q (o :: rest) a w := by
  obtain ⟨A', c', w', hrun, h2, h3⟩ := run_append_x w base c d A acc X hX hown b x0 x1 x2 c2 t k0 k1 k2 one ht h63 hbase o.type
  refine wpList_plain hgd fun K hK => ?_
  unfold Oper.wp execOp
  simp only [ho, resolve, invoke, builtin, Sem.run_bind, Sem.run_pure, Result.andThen_ok, List.map_toArray, List.map_cons, List.map_nil, hs, hx, hrun]
  exact hK _ _ (h A' c' w' _ rfl h2 h3)
end Go.Proofs.YtffkppjmdelajaaDoor.Vals
