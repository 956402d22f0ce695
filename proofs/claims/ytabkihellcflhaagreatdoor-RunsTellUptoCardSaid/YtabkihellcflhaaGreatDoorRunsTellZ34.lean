/- RunsTell, part 34 of the proof: Contract of the document's own choice of a play. Condition: the sizes. -/
import Derived.Test.YtabkihellcflhaaGreatDoorRunsTellZ33
import Derived.Test.YtabkihellcflhaaGreatDoorRunsTellZ8
import Derived.Test.YtabkihellcflhaaGreatDoorRunsTellZ9
import Derived.Test.YtabkihellcflhaaGreatDoorRunsTellZ24
/- Contract of the document's own choice of a play. Condition: the sizes. -/
namespace Go.Proofs.YtabkihellcflhaaGreatDoor.Gens
open Go.RowKit Lists Ints
set_option linter.unusedVariables false

/-- the choices of a list, mended or read -/
def chC : Bool → List Int → Int → Except Int (Int × List Int)
  | true => mendC
  | false => readC
abbrev pcs (lb : Bool) (nm : Int) (VA : Option Addr) (vl vc : Nat) (TA : Option Addr) (tl tc : Nat) (a e : Int) : Obj := .cells #[.bool lb, .int .i64 nm, .slice VA vl vc, .slice TA tl tc, .int .i64 a, .int .i64 e] 130
abbrev pv (lb : Bool) (nm : Int) (VA : Option Addr) (vl vc : Nat) (TA : Option Addr) (tl tc : Nat) (a e : Int) : Value := .agg #[.bool lb, .int .i64 nm, .slice VA vl vc, .slice TA tl tc, .int .i64 a, .int .i64 e]
/-- the slice at A holds the numbers l, in a block of S -/
def AtS (w : World) (S : Nat → Prop) (A : Option Addr) (l : List Int) : Prop :=
  0 < l.length → ∃ b off, A = some ⟨b, off, none⟩ ∧ (S b ∧ b < w.heap.size) ∧ ∀ j, j < l.length → w.cell? ⟨b, off + j, none⟩ = some (.int .i64 (l.getD j 0))
theorem AtS.at_ {w : World} {S : Nat → Prop} {A : Option Addr} {l : List Int} (h : AtS w S A l) : At w w.heap.size A l := fun hp => by
  obtain ⟨b, off, e, hb, hc⟩ := h hp
  exact ⟨b, off, e, hb.2, hc⟩
theorem AtS.keep {w w' : World} {S S' : Nat → Prop} {A : Option Addr} {l : List Int} (h : AtS w S A l) (hk : ∀ b, S b → b < w.heap.size → (S' b ∧ b < w'.heap.size) ∧ ∀ o, w'.cell? ⟨b, o, none⟩ = w.cell? ⟨b, o, none⟩) : AtS w' S' A l := fun hp => by
  obtain ⟨b, off, e, hb, hc⟩ := h hp
  obtain ⟨h1, h2⟩ := hk b hb.1 hb.2
  exact ⟨b, off, e, h1, fun j hj => (h2 _).trans (hc j hj)⟩
theorem AtS.of {w : World} {B : Nat} {A : Option Addr} {l : List Int} (h : At w B A l) (hB : B ≤ w.heap.size) : AtS w (fun b => b < B) A l := fun hp => by
  obtain ⟨b, off, e, hb, hc⟩ := h hp
  exact ⟨b, off, e, ⟨hb, Nat.lt_of_lt_of_le hb hB⟩, hc⟩
theorem AtS.nil {w : World} {S : Nat → Prop} {A : Option Addr} : AtS w S A [] := fun h => by simp at h
def ChPost (w : World) (lb : Bool) (nm : Int) (VA : Option Addr) (vl vc : Nat) (t : List Int) (TA : Option Addr) (tc : Nat) (k : Nat) (r : Except Int (Int × List Int)) (e : Ending) (w' : World) : Prop :=
  Below w.heap.size w w' ∧ match r with
    | .ok (x, _) => ∃ (TA' : Option Addr) (tc' : Nat), e = .returned (.tuple #[pv lb nm VA vl vc TA' (t.length + 1) tc' (k + 1 : Nat) 0, .int .i64 x]) ∧ AtS w' (fun b => w.heap.size ≤ b) TA' (t ++ [x]) ∧ t.length + 1 ≤ tc'
    | .error er => er ≠ 0 ∧ e = .returned (.tuple #[pv lb nm VA vl vc TA t.length tc k er, .int .i64 0])
theorem ChPost.bad {w w' : World} {lb : Bool} {nm : Int} {VA : Option Addr} {vl vc : Nat} {t : List Int} {TA : Option Addr} {tc k : Nat} {r : Except Int (Int × List Int)} {er : Int} (h : r = .error er) (hb : Below w.heap.size w w') (hne : er ≠ 0 := by decide) :
    ChPost w lb nm VA vl vc t TA tc k r (.returned (.tuple #[pv lb nm VA vl vc TA t.length tc k er, .int .i64 0])) w' := by
  subst h; exact ⟨hb, hne, rfl⟩
theorem ChPost.good {w w' : World} {lb : Bool} {nm : Int} {VA : Option Addr} {vl vc : Nat} {t : List Int} {TA : Option Addr} {tc k : Nat} {r : Except Int (Int × List Int)} {x : Int} {s z : List Int} {TA' : Option Addr} {tc' : Nat} {n : Int} (h : r = .ok (x, s)) (hb : Below w.heap.size w w')
    (hz : z = t ++ [x]) (ha : AtS w' (fun b => w.heap.size ≤ b) TA' z) (hc : z.length ≤ tc') (hn : n = (k + 1 : Nat)) : ChPost w lb nm VA vl vc t TA tc k r (.returned (.tuple #[pv lb nm VA vl vc TA' z.length tc' n 0, .int .i64 x])) w' := by
  subst h hz hn
  exact ⟨hb, TA', tc', by simp, ha, by simpa using hc⟩
theorem lone_at (b : Nat) (n : Int) (w : World) (h : w.cell? ⟨b, 0, none⟩ = some (.int .i64 n)) : At w (b + 1) (some ⟨b, 0, none⟩) [n] :=
  fun _ => ⟨b, 0, rfl, by omega, fun j hj => by
    obtain rfl : j = 0 := by simpa using hj
    exact h⟩
theorem new3 (w : World) (o p q : Obj) : (((w.alloc o).alloc p).alloc q).heap[w.heap.size + 1 + 1]? = some q := by
  have h := heap_alloc_new ((w.alloc o).alloc p) q
  have e : ((w.alloc o).alloc p).heap.size = w.heap.size + 1 + 1 := by simp
  rw [e] at h
  exact h
theorem new2 (w : World) (o p q : Obj) : (((w.alloc o).alloc p).alloc q).heap[w.heap.size + 1]? = some p := by
  have h := heap_alloc_new (w.alloc o) p
  have e : (w.alloc o).heap.size = w.heap.size + 1 := by simp
  rw [e] at h
  exact (((Below.refl (w.heap.size + 1 + 1) ((w.alloc o).alloc p)).alloc (by simp) q).block _ (by omega)).trans h
theorem new1 (w : World) (o p q : Obj) : (((w.alloc o).alloc p).alloc q).heap[w.heap.size]? = some o := by
  have h := heap_alloc_new w o
  exact ((((Below.refl (w.heap.size + 1) (w.alloc o)).alloc (by simp) p).alloc (by simp) q).block _ (by omega)).trans h
/-- all but two blocks are as they were -/
def Apart (b : Nat) (w w' : World) : Prop := w'.heap.size = w.heap.size ∧ ∀ c o, b + 1 + 1 ≤ c → w'.cell? ⟨c, o, none⟩ = w.cell? ⟨c, o, none⟩
theorem Apart.refl (b : Nat) (w : World) : Apart b w w := ⟨rfl, fun _ _ _ => rfl⟩
theorem Apart.set {b : Nat} {w w' : World} (h : Apart b w w') {p : Addr} (hp : p.block < b + 1 + 1) (v : Value) : Apart b w (w'.setCell p v) :=
  ⟨(World.size_setCell w' _ _).trans h.1, fun c o hc => (World.cell?_setCell_other _ _ _ _ (fun e => by rw [e] at hp; exact absurd hp (by simp; omega))).trans (h.2 c o hc)⟩
theorem Apart.at_ {b c : Nat} {w w' : World} (h : Apart b w w') {A : Option Addr} {z : List Int} (ho : Own w (b + 1 + 1) A c z) : AtS w' (fun g => b ≤ g) A z := by
  intro hp
  obtain ⟨g, off, rfl, hg, hc⟩ := ho.at_ hp
  have := ho.ge g rfl
  exact ⟨g, off, rfl, ⟨(by show b ≤ g; omega), by rw [h.1]; exact hg⟩, fun j hj => (h.2 g _ this).trans (hc j hj)⟩
theorem six_cells (w : World) (b : Nat) (x0 x1 x2 x3 x4 x5 : Value) {y0 y1 y2 y3 y4 y5 : Value} (c0 : w.cell? ⟨b, 0, none⟩ = some y0) (c1 : w.cell? ⟨b, 1, none⟩ = some y1) (c2 : w.cell? ⟨b, 2, none⟩ = some y2)
    (c3 : w.cell? ⟨b, 3, none⟩ = some y3) (c4 : w.cell? ⟨b, 4, none⟩ = some y4) (c5 : w.cell? ⟨b, 5, none⟩ = some y5) (W : World)
    (hW : W = (((((w.setCell ⟨b, 0, none⟩ x0).setCell ⟨b, 1, none⟩ x1).setCell ⟨b, 2, none⟩ x2).setCell ⟨b, 3, none⟩ x3).setCell ⟨b, 4, none⟩ x4).setCell ⟨b, 5, none⟩ x5) :
    W.cell? ⟨b, 0, none⟩ = some x0 ∧ W.cell? ⟨b, 1, none⟩ = some x1 ∧ W.cell? ⟨b, 2, none⟩ = some x2 ∧ W.cell? ⟨b, 3, none⟩ = some x3 ∧ W.cell? ⟨b, 4, none⟩ = some x4 ∧ W.cell? ⟨b, 5, none⟩ = some x5 := by
  have far : ∀ (u : World) (i j : Nat) (v : Value), i ≠ j → (u.setCell ⟨b, i, none⟩ v).cell? ⟨b, j, none⟩ = u.cell? ⟨b, j, none⟩ :=
    fun u i j v h => World.cell?_setCell_other _ _ _ _ (fun e => h (by injection e))
  subst hW
  refine ⟨?_, ?_, ?_, ?_, ?_, ?_⟩
  · rw [far _ 5 0 _ (by decide), far _ 4 0 _ (by decide), far _ 3 0 _ (by decide), far _ 2 0 _ (by decide), far _ 1 0 _ (by decide)]
    exact World.cell?_setCell_same _ _ _ c0
  · rw [far _ 5 1 _ (by decide), far _ 4 1 _ (by decide), far _ 3 1 _ (by decide), far _ 2 1 _ (by decide)]
    exact World.cell?_setCell_same _ _ _ ((far _ 0 1 _ (by decide)).trans c1)
  · rw [far _ 5 2 _ (by decide), far _ 4 2 _ (by decide), far _ 3 2 _ (by decide)]
    exact World.cell?_setCell_same _ _ _ ((far _ 1 2 _ (by decide)).trans ((far _ 0 2 _ (by decide)).trans c2))
  · rw [far _ 5 3 _ (by decide), far _ 4 3 _ (by decide)]
    exact World.cell?_setCell_same _ _ _ ((far _ 2 3 _ (by decide)).trans ((far _ 1 3 _ (by decide)).trans ((far _ 0 3 _ (by decide)).trans c3)))
  · rw [far _ 5 4 _ (by decide)]
    exact World.cell?_setCell_same _ _ _ ((far _ 3 4 _ (by decide)).trans ((far _ 2 4 _ (by decide)).trans ((far _ 1 4 _ (by decide)).trans ((far _ 0 4 _ (by decide)).trans c4))))
  · exact World.cell?_setCell_same _ _ _ ((far _ 4 5 _ (by decide)).trans ((far _ 3 5 _ (by decide)).trans ((far _ 2 5 _ (by decide)).trans ((far _ 1 5 _ (by decide)).trans ((far _ 0 5 _ (by decide)).trans c5)))))
theorem bel3 (w : World) (o p q : Obj) {N : Nat} (hN : N ≤ w.heap.size) : Below N w (((w.alloc o).alloc p).alloc q) :=
  (((Below.refl _ _).alloc hN _).alloc (by simp; omega) _).alloc (by simp; omega) _
theorem drop_at (l : List Int) (k : Nat) (h : k < l.length) : l.drop k = l.getD k 0 :: l.drop (k + 1) := drop_getD l k h

set_option maxHeartbeats 8000000 in
set_option maxRecDepth 100000 in
theorem choice_any (lb : Bool) (nm : Int) (VA : Option Addr) (vl vc : Nat) (t : List Int) (TA : Option Addr) (tc k : Nat) (l : List Int) (L : Option Addr) (lc : Nat) (mend : Bool) (most : Int) (N : Nat) (w : World)
    (ht : At w N TA t) (hl : At w N L l) (hN : N ≤ w.heap.size) (htl : t.length ≤ 4294967296) (hll : l.length ≤ 4294967296) (hk : k ≤ 4294967296) (hm : 0 ≤ most) :
    Calls Tryz.prog 109 #[pv lb nm VA vl vc TA t.length tc k 0, .slice L l.length lc, .bool mend, .int .i64 most] w (ChPost w lb nm VA vl vc t TA tc k (chC mend (l.drop k) most)) := by
  have HT := Lib.hid ht
  have HL := Lib.hid hl
  have HN := Lib.hid hN
  have H0 := Lib.hid (show Below w.heap.size w ((w.alloc (pcs lb nm VA vl vc TA t.length tc k 0)).alloc (pcs false 0 none 0 0 none 0 0 0 0)) from ((Below.refl _ _).alloc (Nat.le_refl _) _).alloc (by simp) _)
  clear ht hl hN
  by_cases hlt : k < l.length
  · obtain ⟨b, off, rfl, hbN, hcell⟩ := HL.out (by omega)
    have c1 := (H0.out.cell (p := ⟨b, off + k, none⟩) (by have := HN.out; show b < _; omega)).trans (hcell k hlt)
    clear hcell
    have DR := Lib.hid (drop_at l k hlt)
    generalize l.getD k 0 = x at c1 DR
    cases mend with
    | true =>
      have EV := Lib.hid (show chC true (l.drop k) most = .ok (max 0 (min x most), l.drop (k + 1)) by rw [DR.out]; rfl)
      have g2 : decide (max 0 (min x most) < 0) = false := by rw [decide_eq_false_iff_not]; omega
      have g3 : decide (most < max 0 (min x most)) = false := by rw [decide_eq_false_iff_not]; omega
      go_enter Tryz.func109, Tryz.ntmps109
      go_wp2_with (first
        | (at_builtin
           refine wpList_append_ints rfl (.tmp 43) (.tmp 45) rfl (w.heap.size + 1 + 1) 0 (some ⟨w.heap.size + 1 + 1, 0, none⟩) [] (Own.empty (new3 _ _ _ _)) N TA tc t (HT.out.below (bel3 _ _ _ _ HN.out)) rfl rfl (by simp; omega) (by simp) ?_
           intro A3 c3 w3 z3 hz3 own3 g3 r3
           have P3 := (Below.refl (w.heap.size + 1 + 1) _).grown g3 (by simp) (by intro k hk; simp [rowOf] at hk; omega)
           have Z3 : w.heap.size + 1 + 1 ≤ w3.heap.size := by have := P3.size; simp at this; omega
           have L3 := Lib.hid (show z3.length = t.length by rw [hz3.out]; simp))
        | (at_builtin
           refine wpList_append_ints rfl (.tmp 46) (.tmp 48) rfl (w.heap.size + 1 + 1) c3 A3 z3 (Own.below own3 ((Below.refl _ _).alloc (Nat.le_refl _) _)) (w3.heap.size + 1) (some ⟨w3.heap.size, 0, none⟩) 1 [max 0 (min x most)]
             (lone_at w3.heap.size _ _ (by simp)) rfl rfl (by have := L3.out; simp; omega) (by simp; omega) ?_
           intro A4 c4 w4 z4 hz4 own4 g4 r4
           have P4 := (P3.alloc Z3 (.cells #[.int .i64 (max 0 (min x most))] 3)).grown g4 (by simp; omega) own3.ge
           have E0 := (P4.block w.heap.size (by omega)).trans (new1 _ _ _ _)
           have E1 := (P4.block (w.heap.size + 1) (by omega)).trans (new2 _ _ _ _)
           have C00 : w4.cell? ⟨w.heap.size, 0, none⟩ = some (.bool lb) := by rw [Lib.cell_of_heap E0]; rfl
           have C01 : w4.cell? ⟨w.heap.size, 1, none⟩ = some (.int .i64 nm) := by rw [Lib.cell_of_heap E0]; rfl
           have C02 : w4.cell? ⟨w.heap.size, 2, none⟩ = some (.slice VA vl vc) := by rw [Lib.cell_of_heap E0]; rfl
           have C03 : w4.cell? ⟨w.heap.size, 3, none⟩ = some (.slice TA t.length tc) := by rw [Lib.cell_of_heap E0]; rfl
           have C04 : w4.cell? ⟨w.heap.size, 4, none⟩ = some (.int .i64 (k + 1)) := by rw [Lib.cell_of_heap E0]; rfl
           have C05 : w4.cell? ⟨w.heap.size, 5, none⟩ = some (.int .i64 0) := by rw [Lib.cell_of_heap E0]; rfl
           have F03 := Lib.frozen_of_heap E0 3
           have D00 : w4.cell? ⟨w.heap.size + 1, 0, none⟩ = some (.bool false) := by rw [Lib.cell_of_heap E1]; rfl
           have D01 : w4.cell? ⟨w.heap.size + 1, 1, none⟩ = some (.int .i64 0) := by rw [Lib.cell_of_heap E1]; rfl
           have D02 : w4.cell? ⟨w.heap.size + 1, 2, none⟩ = some (.slice none 0 0) := by rw [Lib.cell_of_heap E1]; rfl
           have D03 : w4.cell? ⟨w.heap.size + 1, 3, none⟩ = some (.slice none 0 0) := by rw [Lib.cell_of_heap E1]; rfl
           have D04 : w4.cell? ⟨w.heap.size + 1, 4, none⟩ = some (.int .i64 0) := by rw [Lib.cell_of_heap E1]; rfl
           have D05 : w4.cell? ⟨w.heap.size + 1, 5, none⟩ = some (.int .i64 0) := by rw [Lib.cell_of_heap E1]; rfl
           have G0 := Lib.frozen_of_heap E1 0
           have G1 := Lib.frozen_of_heap E1 1
           have G2 := Lib.frozen_of_heap E1 2
           have G3 := Lib.frozen_of_heap E1 3
           have G4 := Lib.frozen_of_heap E1 4
           have G5 := Lib.frozen_of_heap E1 5))
      have AP : Apart w.heap.size w4 (((((((w4.setCell ⟨w.heap.size, 3, none⟩ (.slice A4 z4.length c4)).setCell ⟨w.heap.size + 1, 0, none⟩ (.bool lb)).setCell ⟨w.heap.size + 1, 1, none⟩ (.int .i64 nm)).setCell ⟨w.heap.size + 1, 2, none⟩ (.slice VA vl vc)).setCell ⟨w.heap.size + 1, 3, none⟩ (.slice A4 z4.length c4)).setCell ⟨w.heap.size + 1, 4, none⟩ (.int .i64 (k + 1))).setCell ⟨w.heap.size + 1, 5, none⟩ (.int .i64 0)) := by
        refine Apart.set (Apart.set (Apart.set (Apart.set (Apart.set (Apart.set (Apart.set (Apart.refl _ _) ?_ _) ?_ _) ?_ _) ?_ _) ?_ _) ?_ _) ?_ _
        all_goals (simp only []; omega)
      have BW : Below w.heap.size w (((((((w4.setCell ⟨w.heap.size, 3, none⟩ (.slice A4 z4.length c4)).setCell ⟨w.heap.size + 1, 0, none⟩ (.bool lb)).setCell ⟨w.heap.size + 1, 1, none⟩ (.int .i64 nm)).setCell ⟨w.heap.size + 1, 2, none⟩ (.slice VA vl vc)).setCell ⟨w.heap.size + 1, 3, none⟩ (.slice A4 z4.length c4)).setCell ⟨w.heap.size + 1, 4, none⟩ (.int .i64 (k + 1))).setCell ⟨w.heap.size + 1, 5, none⟩ (.int .i64 0)) := by
        have B4 : Below w.heap.size w w4 := (bel3 w _ _ _ (Nat.le_refl _)).trans (P4.mono (by omega))
        refine Below.setCell (Below.setCell (Below.setCell (Below.setCell (Below.setCell (Below.setCell (Below.setCell B4 ?_ _) ?_ _) ?_ _) ?_ _) ?_ _) ?_ _) ?_ _
        all_goals (simp only []; omega)
      have far : ∀ j, (w4.setCell ⟨w.heap.size, 3, none⟩ (.slice A4 z4.length c4)).cell? ⟨w.heap.size + 1, j, none⟩ = w4.cell? ⟨w.heap.size + 1, j, none⟩ :=
        fun j => World.cell?_setCell_other _ _ _ _ (fun e => by injection e with e; omega)
      have Q := six_cells (w4.setCell ⟨w.heap.size, 3, none⟩ (.slice A4 z4.length c4)) (w.heap.size + 1) (.bool lb) (.int .i64 nm) (.slice VA vl vc) (.slice A4 z4.length c4) (.int .i64 (k + 1)) (.int .i64 0)
        ((far 0).trans D00) ((far 1).trans D01) ((far 2).trans D02) ((far 3).trans D03) ((far 4).trans D04) ((far 5).trans D05) _ rfl
      clear far
      generalize ((((((w4.setCell ⟨w.heap.size, 3, none⟩ (.slice A4 z4.length c4)).setCell ⟨w.heap.size + 1, 0, none⟩ (.bool lb)).setCell ⟨w.heap.size + 1, 1, none⟩ (.int .i64 nm)).setCell ⟨w.heap.size + 1, 2, none⟩ (.slice VA vl vc)).setCell ⟨w.heap.size + 1, 3, none⟩ (.slice A4 z4.length c4)).setCell ⟨w.heap.size + 1, 4, none⟩ (.int .i64 (k + 1))).setCell ⟨w.heap.size + 1, 5, none⟩ (.int .i64 0) = W at AP BW Q ⊢
      obtain ⟨q0, q1, q2, q3, q4, q5⟩ := Q
      refine bodyPost_ret (v := .tuple #[pv lb nm VA vl vc A4 z4.length c4 (k + 1) 0, .int .i64 (max 0 (min x most))]) (by simp [results, Tryz.results109, go_sem, q0, q1, q2, q3, q4, q5]) rfl ?_
      exact ChPost.good EV.out BW (by rw [hz4.out, hz3.out]; simp) (AP.at_ own4) own4.cap_ (by simp)
    | false =>
      by_cases hr : 0 ≤ x ∧ x ≤ most
      · have EV := Lib.hid (show chC false (l.drop k) most = .ok (x, l.drop (k + 1)) by rw [DR.out]; unfold chC readC; simp only [if_pos hr])
        obtain ⟨r1, r2⟩ := hr
        have g2 : decide (x < 0) = false := by rw [decide_eq_false_iff_not]; omega
        have g3 : decide (most < x) = false := by rw [decide_eq_false_iff_not]; omega
        go_enter Tryz.func109, Tryz.ntmps109
        go_wp2_with (first
          | (at_builtin
             refine wpList_append_ints rfl (.tmp 43) (.tmp 45) rfl (w.heap.size + 1 + 1) 0 (some ⟨w.heap.size + 1 + 1, 0, none⟩) [] (Own.empty (new3 _ _ _ _)) N TA tc t (HT.out.below (bel3 _ _ _ _ HN.out)) rfl rfl (by simp; omega) (by simp) ?_
             intro A3 c3 w3 z3 hz3 own3 g3 r3
             have P3 := (Below.refl (w.heap.size + 1 + 1) _).grown g3 (by simp) (by intro k hk; simp [rowOf] at hk; omega)
             have Z3 : w.heap.size + 1 + 1 ≤ w3.heap.size := by have := P3.size; simp at this; omega
             have L3 := Lib.hid (show z3.length = t.length by rw [hz3.out]; simp))
          | (at_builtin
             refine wpList_append_ints rfl (.tmp 46) (.tmp 48) rfl (w.heap.size + 1 + 1) c3 A3 z3 (Own.below own3 ((Below.refl _ _).alloc (Nat.le_refl _) _)) (w3.heap.size + 1) (some ⟨w3.heap.size, 0, none⟩) 1 [x]
               (lone_at w3.heap.size _ _ (by simp)) rfl rfl (by have := L3.out; simp; omega) (by simp; omega) ?_
             intro A4 c4 w4 z4 hz4 own4 g4 r4
             have P4 := (P3.alloc Z3 (.cells #[.int .i64 (x)] 3)).grown g4 (by simp; omega) own3.ge
             have E0 := (P4.block w.heap.size (by omega)).trans (new1 _ _ _ _)
             have E1 := (P4.block (w.heap.size + 1) (by omega)).trans (new2 _ _ _ _)
             have C00 : w4.cell? ⟨w.heap.size, 0, none⟩ = some (.bool lb) := by rw [Lib.cell_of_heap E0]; rfl
             have C01 : w4.cell? ⟨w.heap.size, 1, none⟩ = some (.int .i64 nm) := by rw [Lib.cell_of_heap E0]; rfl
             have C02 : w4.cell? ⟨w.heap.size, 2, none⟩ = some (.slice VA vl vc) := by rw [Lib.cell_of_heap E0]; rfl
             have C03 : w4.cell? ⟨w.heap.size, 3, none⟩ = some (.slice TA t.length tc) := by rw [Lib.cell_of_heap E0]; rfl
             have C04 : w4.cell? ⟨w.heap.size, 4, none⟩ = some (.int .i64 (k + 1)) := by rw [Lib.cell_of_heap E0]; rfl
             have C05 : w4.cell? ⟨w.heap.size, 5, none⟩ = some (.int .i64 0) := by rw [Lib.cell_of_heap E0]; rfl
             have F03 := Lib.frozen_of_heap E0 3
             have D00 : w4.cell? ⟨w.heap.size + 1, 0, none⟩ = some (.bool false) := by rw [Lib.cell_of_heap E1]; rfl
             have D01 : w4.cell? ⟨w.heap.size + 1, 1, none⟩ = some (.int .i64 0) := by rw [Lib.cell_of_heap E1]; rfl
             have D02 : w4.cell? ⟨w.heap.size + 1, 2, none⟩ = some (.slice none 0 0) := by rw [Lib.cell_of_heap E1]; rfl
             have D03 : w4.cell? ⟨w.heap.size + 1, 3, none⟩ = some (.slice none 0 0) := by rw [Lib.cell_of_heap E1]; rfl
             have D04 : w4.cell? ⟨w.heap.size + 1, 4, none⟩ = some (.int .i64 0) := by rw [Lib.cell_of_heap E1]; rfl
             have D05 : w4.cell? ⟨w.heap.size + 1, 5, none⟩ = some (.int .i64 0) := by rw [Lib.cell_of_heap E1]; rfl
             have G0 := Lib.frozen_of_heap E1 0
             have G1 := Lib.frozen_of_heap E1 1
             have G2 := Lib.frozen_of_heap E1 2
             have G3 := Lib.frozen_of_heap E1 3
             have G4 := Lib.frozen_of_heap E1 4
             have G5 := Lib.frozen_of_heap E1 5))
        have AP : Apart w.heap.size w4 (((((((w4.setCell ⟨w.heap.size, 3, none⟩ (.slice A4 z4.length c4)).setCell ⟨w.heap.size + 1, 0, none⟩ (.bool lb)).setCell ⟨w.heap.size + 1, 1, none⟩ (.int .i64 nm)).setCell ⟨w.heap.size + 1, 2, none⟩ (.slice VA vl vc)).setCell ⟨w.heap.size + 1, 3, none⟩ (.slice A4 z4.length c4)).setCell ⟨w.heap.size + 1, 4, none⟩ (.int .i64 (k + 1))).setCell ⟨w.heap.size + 1, 5, none⟩ (.int .i64 0)) := by
          refine Apart.set (Apart.set (Apart.set (Apart.set (Apart.set (Apart.set (Apart.set (Apart.refl _ _) ?_ _) ?_ _) ?_ _) ?_ _) ?_ _) ?_ _) ?_ _
          all_goals (simp only []; omega)
        have BW : Below w.heap.size w (((((((w4.setCell ⟨w.heap.size, 3, none⟩ (.slice A4 z4.length c4)).setCell ⟨w.heap.size + 1, 0, none⟩ (.bool lb)).setCell ⟨w.heap.size + 1, 1, none⟩ (.int .i64 nm)).setCell ⟨w.heap.size + 1, 2, none⟩ (.slice VA vl vc)).setCell ⟨w.heap.size + 1, 3, none⟩ (.slice A4 z4.length c4)).setCell ⟨w.heap.size + 1, 4, none⟩ (.int .i64 (k + 1))).setCell ⟨w.heap.size + 1, 5, none⟩ (.int .i64 0)) := by
          have B4 : Below w.heap.size w w4 := (bel3 w _ _ _ (Nat.le_refl _)).trans (P4.mono (by omega))
          refine Below.setCell (Below.setCell (Below.setCell (Below.setCell (Below.setCell (Below.setCell (Below.setCell B4 ?_ _) ?_ _) ?_ _) ?_ _) ?_ _) ?_ _) ?_ _
          all_goals (simp only []; omega)
        have far : ∀ j, (w4.setCell ⟨w.heap.size, 3, none⟩ (.slice A4 z4.length c4)).cell? ⟨w.heap.size + 1, j, none⟩ = w4.cell? ⟨w.heap.size + 1, j, none⟩ :=
          fun j => World.cell?_setCell_other _ _ _ _ (fun e => by injection e with e; omega)
        have Q := six_cells (w4.setCell ⟨w.heap.size, 3, none⟩ (.slice A4 z4.length c4)) (w.heap.size + 1) (.bool lb) (.int .i64 nm) (.slice VA vl vc) (.slice A4 z4.length c4) (.int .i64 (k + 1)) (.int .i64 0)
          ((far 0).trans D00) ((far 1).trans D01) ((far 2).trans D02) ((far 3).trans D03) ((far 4).trans D04) ((far 5).trans D05) _ rfl
        clear far
        generalize ((((((w4.setCell ⟨w.heap.size, 3, none⟩ (.slice A4 z4.length c4)).setCell ⟨w.heap.size + 1, 0, none⟩ (.bool lb)).setCell ⟨w.heap.size + 1, 1, none⟩ (.int .i64 nm)).setCell ⟨w.heap.size + 1, 2, none⟩ (.slice VA vl vc)).setCell ⟨w.heap.size + 1, 3, none⟩ (.slice A4 z4.length c4)).setCell ⟨w.heap.size + 1, 4, none⟩ (.int .i64 (k + 1))).setCell ⟨w.heap.size + 1, 5, none⟩ (.int .i64 0) = W at AP BW Q ⊢
        obtain ⟨q0, q1, q2, q3, q4, q5⟩ := Q
        refine bodyPost_ret (v := .tuple #[pv lb nm VA vl vc A4 z4.length c4 (k + 1) 0, .int .i64 (x)]) (by simp [results, Tryz.results109, go_sem, q0, q1, q2, q3, q4, q5]) rfl ?_
        exact ChPost.good EV.out BW (by rw [hz4.out, hz3.out]; simp) (AP.at_ own4) own4.cap_ (by simp)
      · have EV := Lib.hid (show chC false (l.drop k) most = .error 1 by rw [DR.out]; unfold chC readC; simp only [if_neg hr])
        rcases (show x < 0 ∨ (¬ x < 0 ∧ most < x) by omega) with q | ⟨q, q'⟩
        · have g2 : decide (x < 0) = true := by rw [decide_eq_true_eq]; exact q
          clear hr
          go_enter Tryz.func109, Tryz.ntmps109
          go_wp2_with fail
          refine bodyPost_ret (v := .tuple #[pv lb nm VA vl vc TA t.length tc k 1, .int .i64 0]) (by simp [results, Tryz.results109, go_sem]) rfl ?_
          exact .bad EV.out (((Below.refl _ _).alloc (Nat.le_refl _) _).alloc (by simp) _)
        · have g2 : decide (x < 0) = false := by rw [decide_eq_false_iff_not]; exact q
          have g3 : decide (most < x) = true := by rw [decide_eq_true_eq]; exact q'
          clear hr
          go_enter Tryz.func109, Tryz.ntmps109
          go_wp2_with fail
          refine bodyPost_ret (v := .tuple #[pv lb nm VA vl vc TA t.length tc k 1, .int .i64 0]) (by simp [results, Tryz.results109, go_sem]) rfl ?_
          exact .bad EV.out (((Below.refl _ _).alloc (Nat.le_refl _) _).alloc (by simp) _)
  · have DR := Lib.hid (show l.drop k = [] from List.drop_eq_nil_of_le (by omega))
    have g1 : decide ((k : Int) < l.length) = false := by rw [decide_eq_false_iff_not]; omega
    cases mend with
    | true =>
      have EV := Lib.hid (show chC true (l.drop k) most = .ok (max 0 (min 0 most), []) by rw [DR.out]; rfl)
      have g2 : decide (max 0 (min 0 most) < 0) = false := by rw [decide_eq_false_iff_not]; omega
      have g3 : decide (most < max 0 (min 0 most)) = false := by rw [decide_eq_false_iff_not]; omega
      go_enter Tryz.func109, Tryz.ntmps109
      go_wp2_with (first
        | (at_builtin
           refine wpList_append_ints rfl (.tmp 43) (.tmp 45) rfl (w.heap.size + 1 + 1) 0 (some ⟨w.heap.size + 1 + 1, 0, none⟩) [] (Own.empty (new3 _ _ _ _)) N TA tc t (HT.out.below (bel3 _ _ _ _ HN.out)) rfl rfl (by simp; omega) (by simp) ?_
           intro A3 c3 w3 z3 hz3 own3 g3 r3
           have P3 := (Below.refl (w.heap.size + 1 + 1) _).grown g3 (by simp) (by intro k hk; simp [rowOf] at hk; omega)
           have Z3 : w.heap.size + 1 + 1 ≤ w3.heap.size := by have := P3.size; simp at this; omega
           have L3 := Lib.hid (show z3.length = t.length by rw [hz3.out]; simp))
        | (at_builtin
           refine wpList_append_ints rfl (.tmp 46) (.tmp 48) rfl (w.heap.size + 1 + 1) c3 A3 z3 (Own.below own3 ((Below.refl _ _).alloc (Nat.le_refl _) _)) (w3.heap.size + 1) (some ⟨w3.heap.size, 0, none⟩) 1 [max 0 (min 0 most)]
             (lone_at w3.heap.size _ _ (by simp)) rfl rfl (by have := L3.out; simp; omega) (by simp; omega) ?_
           intro A4 c4 w4 z4 hz4 own4 g4 r4
           have P4 := (P3.alloc Z3 (.cells #[.int .i64 (max 0 (min 0 most))] 3)).grown g4 (by simp; omega) own3.ge
           have E0 := (P4.block w.heap.size (by omega)).trans (new1 _ _ _ _)
           have E1 := (P4.block (w.heap.size + 1) (by omega)).trans (new2 _ _ _ _)
           have C00 : w4.cell? ⟨w.heap.size, 0, none⟩ = some (.bool lb) := by rw [Lib.cell_of_heap E0]; rfl
           have C01 : w4.cell? ⟨w.heap.size, 1, none⟩ = some (.int .i64 nm) := by rw [Lib.cell_of_heap E0]; rfl
           have C02 : w4.cell? ⟨w.heap.size, 2, none⟩ = some (.slice VA vl vc) := by rw [Lib.cell_of_heap E0]; rfl
           have C03 : w4.cell? ⟨w.heap.size, 3, none⟩ = some (.slice TA t.length tc) := by rw [Lib.cell_of_heap E0]; rfl
           have C04 : w4.cell? ⟨w.heap.size, 4, none⟩ = some (.int .i64 (k + 1)) := by rw [Lib.cell_of_heap E0]; rfl
           have C05 : w4.cell? ⟨w.heap.size, 5, none⟩ = some (.int .i64 0) := by rw [Lib.cell_of_heap E0]; rfl
           have F03 := Lib.frozen_of_heap E0 3
           have D00 : w4.cell? ⟨w.heap.size + 1, 0, none⟩ = some (.bool false) := by rw [Lib.cell_of_heap E1]; rfl
           have D01 : w4.cell? ⟨w.heap.size + 1, 1, none⟩ = some (.int .i64 0) := by rw [Lib.cell_of_heap E1]; rfl
           have D02 : w4.cell? ⟨w.heap.size + 1, 2, none⟩ = some (.slice none 0 0) := by rw [Lib.cell_of_heap E1]; rfl
           have D03 : w4.cell? ⟨w.heap.size + 1, 3, none⟩ = some (.slice none 0 0) := by rw [Lib.cell_of_heap E1]; rfl
           have D04 : w4.cell? ⟨w.heap.size + 1, 4, none⟩ = some (.int .i64 0) := by rw [Lib.cell_of_heap E1]; rfl
           have D05 : w4.cell? ⟨w.heap.size + 1, 5, none⟩ = some (.int .i64 0) := by rw [Lib.cell_of_heap E1]; rfl
           have G0 := Lib.frozen_of_heap E1 0
           have G1 := Lib.frozen_of_heap E1 1
           have G2 := Lib.frozen_of_heap E1 2
           have G3 := Lib.frozen_of_heap E1 3
           have G4 := Lib.frozen_of_heap E1 4
           have G5 := Lib.frozen_of_heap E1 5))
      have AP : Apart w.heap.size w4 (((((((w4.setCell ⟨w.heap.size, 3, none⟩ (.slice A4 z4.length c4)).setCell ⟨w.heap.size + 1, 0, none⟩ (.bool lb)).setCell ⟨w.heap.size + 1, 1, none⟩ (.int .i64 nm)).setCell ⟨w.heap.size + 1, 2, none⟩ (.slice VA vl vc)).setCell ⟨w.heap.size + 1, 3, none⟩ (.slice A4 z4.length c4)).setCell ⟨w.heap.size + 1, 4, none⟩ (.int .i64 (k + 1))).setCell ⟨w.heap.size + 1, 5, none⟩ (.int .i64 0)) := by
        refine Apart.set (Apart.set (Apart.set (Apart.set (Apart.set (Apart.set (Apart.set (Apart.refl _ _) ?_ _) ?_ _) ?_ _) ?_ _) ?_ _) ?_ _) ?_ _
        all_goals (simp only []; omega)
      have BW : Below w.heap.size w (((((((w4.setCell ⟨w.heap.size, 3, none⟩ (.slice A4 z4.length c4)).setCell ⟨w.heap.size + 1, 0, none⟩ (.bool lb)).setCell ⟨w.heap.size + 1, 1, none⟩ (.int .i64 nm)).setCell ⟨w.heap.size + 1, 2, none⟩ (.slice VA vl vc)).setCell ⟨w.heap.size + 1, 3, none⟩ (.slice A4 z4.length c4)).setCell ⟨w.heap.size + 1, 4, none⟩ (.int .i64 (k + 1))).setCell ⟨w.heap.size + 1, 5, none⟩ (.int .i64 0)) := by
        have B4 : Below w.heap.size w w4 := (bel3 w _ _ _ (Nat.le_refl _)).trans (P4.mono (by omega))
        refine Below.setCell (Below.setCell (Below.setCell (Below.setCell (Below.setCell (Below.setCell (Below.setCell B4 ?_ _) ?_ _) ?_ _) ?_ _) ?_ _) ?_ _) ?_ _
        all_goals (simp only []; omega)
      have far : ∀ j, (w4.setCell ⟨w.heap.size, 3, none⟩ (.slice A4 z4.length c4)).cell? ⟨w.heap.size + 1, j, none⟩ = w4.cell? ⟨w.heap.size + 1, j, none⟩ :=
        fun j => World.cell?_setCell_other _ _ _ _ (fun e => by injection e with e; omega)
      have Q := six_cells (w4.setCell ⟨w.heap.size, 3, none⟩ (.slice A4 z4.length c4)) (w.heap.size + 1) (.bool lb) (.int .i64 nm) (.slice VA vl vc) (.slice A4 z4.length c4) (.int .i64 (k + 1)) (.int .i64 0)
        ((far 0).trans D00) ((far 1).trans D01) ((far 2).trans D02) ((far 3).trans D03) ((far 4).trans D04) ((far 5).trans D05) _ rfl
      clear far
      generalize ((((((w4.setCell ⟨w.heap.size, 3, none⟩ (.slice A4 z4.length c4)).setCell ⟨w.heap.size + 1, 0, none⟩ (.bool lb)).setCell ⟨w.heap.size + 1, 1, none⟩ (.int .i64 nm)).setCell ⟨w.heap.size + 1, 2, none⟩ (.slice VA vl vc)).setCell ⟨w.heap.size + 1, 3, none⟩ (.slice A4 z4.length c4)).setCell ⟨w.heap.size + 1, 4, none⟩ (.int .i64 (k + 1))).setCell ⟨w.heap.size + 1, 5, none⟩ (.int .i64 0) = W at AP BW Q ⊢
      obtain ⟨q0, q1, q2, q3, q4, q5⟩ := Q
      refine bodyPost_ret (v := .tuple #[pv lb nm VA vl vc A4 z4.length c4 (k + 1) 0, .int .i64 (max 0 (min 0 most))]) (by simp [results, Tryz.results109, go_sem, q0, q1, q2, q3, q4, q5]) rfl ?_
      exact ChPost.good EV.out BW (by rw [hz4.out, hz3.out]; simp) (AP.at_ own4) own4.cap_ (by simp)
    | false =>
      have EV := Lib.hid (show chC false (l.drop k) most = .error 5 by rw [DR.out]; rfl)
      go_enter Tryz.func109, Tryz.ntmps109
      go_wp2_with fail
      refine bodyPost_ret (v := .tuple #[pv lb nm VA vl vc TA t.length tc k 5, .int .i64 0]) (by simp [results, Tryz.results109, go_sem]) rfl ?_
      exact .bad EV.out (((Below.refl _ _).alloc (Nat.le_refl _) _).alloc (by simp) _)
end Go.Proofs.YtabkihellcflhaaGreatDoor.Gens
