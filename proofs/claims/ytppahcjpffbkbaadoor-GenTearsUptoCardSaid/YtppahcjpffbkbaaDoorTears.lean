/- GenTears: the walk. Conditions: the sizes; the library's variable that errors.As reads. -/
import Derived.Test.YtppahcjpffbkbaaDoorMade
import Derived.Test.YtppahcjpffbkbaaDoorGrowS
import Derived.Test.YtppahcjpffbkbaaDoorHandle
namespace Go.Proofs.YtppahcjpffbkbaaDoor.TearsLaw
open Go.RowKit Lists Ints Vals Gens
set_option linter.unusedVariables false

theorem tears_facts {t : Gn} (l : List Int) (x : Int) (h0 : genV t = 0) : (mendL t l).length ≤ 1399680 ∧ repV t (mendL t l ++ [x]) = .error 3 ∧ ∀ k, k < (mendL t l).length → repV t ((mendL t l).take k) = .error 5 := by
  obtain ⟨v, r, h1, n1⟩ := mend_run (t := t) l h0
  obtain ⟨hr, hl⟩ := gen_right h0
  refine ⟨n1, ?_, fun k hk => ?_⟩
  · have h2 := mend_read hr h1 [x]
    unfold repV repG
    rw [if_pos h0, h2]
    rfl
  · have h2 := mend_read hr h1 []
    rw [List.append_nil] at h2
    have h3 := play_torn t hr _ _ _ _ h2 ((mendL t l).take k) ((mendL t l).drop k) (List.take_append_drop k _).symm (by
      intro h
      have := congrArg List.length h
      rw [List.length_drop, List.length_nil] at this
      omega)
    unfold repV repG
    rw [if_pos h0, h3]
theorem below_at {w W : World} {N : Nat} {A : Option Addr} {l : List Int} (h : At w N A l) (hN : N ≤ w.heap.size) (hb : Below w.heap.size w W) : At W N A l := h.below (hb.mono hN)

theorem heap_alloc_at {w : World} {o : Obj} {b : Nat} (h : b = w.heap.size) : (w.alloc o).heap[b]? = some o := by subst h; exact new_obj w o
theorem heap_alloc_skip {w : World} {o : Obj} {b : Nat} {x : Option Obj} (hb : b < w.heap.size) (h : w.heap[b]? = x) : (w.alloc o).heap[b]? = x := (Below.heap_alloc w o b hb).trans h
theorem heap_drew_skip {w : World} {b : Nat} {x : Option Obj} (h : w.heap[b]? = x) : w.drew.heap[b]? = x := h
theorem row_ne {w : World} {base c b : Nat} {A : Option Addr} {z : List Int} (h : Own w base A c z) (hb : w.heap.size ≤ b) : some b ≠ rowOf A := fun e => by have := own_row_lt h e.symm; omega
abbrev Z3 (b : Nat) (w : World) : Prop := V3 b (.bool false) (.int .i64 0) (.slice none 0 0) w
theorem with_z3 {P : Prop} {b : Nat} {w : World} (h : Z3 b w) (k : Z3 b w → P) : P := k h
theorem bel_on {w W w8 : World} (h : Below w.heap.size w W) (hb : Below W.heap.size W w8) : Below w.heap.size w w8 := h.trans (hb.mono h.size)
theorem At.take {w : World} {N : Nat} {A : Option Addr} {l : List Int} (h : At w N A l) (k : Nat) : At w N A (l.take k) := fun hp => by
  rw [List.length_take] at hp
  obtain ⟨b, o, e, hb, hc⟩ := h (by omega)
  refine ⟨b, o, e, hb, fun j hj => ?_⟩
  rw [List.length_take] at hj
  rw [hc j (by omega)]
  simp [List.getD, show j < k by omega]
theorem own_empty_at {w : World} {base b : Nat} (hb : base ≤ b) (h : w.heap[b]? = some (.cells #[] 3 (0, 0))) : Own w base (some ⟨b, 0, none⟩) 0 [] :=
  ⟨rfl, .inr ⟨b, 0, #[], rfl, hb, h, Nat.le_refl _, Nat.zero_le _, rfl, rfl⟩⟩
theorem at_of_heap {w : World} {b B : Nat} {x : Int} (hB : b < B) (h : w.heap[b]? = some (.cells #[.int .i64 x] 3 (0, 0))) : At w B (some ⟨b, 0, none⟩) [x] := fun hp => by
  refine ⟨b, 0, rfl, hB, fun j hj => ?_⟩
  have hj : j = 0 := by simpa using hj
  subst hj
  rw [Lib.cell_of_heap h]; rfl

set_option maxHeartbeats 8000000 in
set_option maxRecDepth 100000 in
theorem walk (t : Gn) (A : Option Addr) (c n : Nat) (l : List Int) (L : Option Addr) (lc : Nat) (k x : Int) (hbulk : t.size + l.length ≤ 1048576) (w : World) (hg : GAt w (GBel w.heap.size) n (gv t A c) t) (hl : At w w.heap.size L l) (hcap : l.length ≤ lc) (wk : (Lit.int .i64 k).wf = true) (wx : (Lit.int .i64 x).wf = true) (hh : Told.Handle w) :
    Calls Tryd.prog 4 #[gv t A c, .slice L l.length lc, .int .i64 k, .int .i64 x] w fun e w' => e = .returned (.bool true) ∧ Below w.heap.size w w' := by
  have hb0 : Below w.heap.size w (w.alloc (gc t A c)) := (Below.refl _ _).alloc (Nat.le_refl _) _
  have g0 : G4 w.heap.size (.int .i64 t.kind) (.int .i64 t.a) (.int .i64 t.b) (.slice A t.subs.length c) (w.alloc (gc t A c)) := new_obj w _
  have JC := Lib.hid (fun (w : World) => made_ok w)
  have M1 := Lib.hid (fun (W : World) (hb : Below w.heap.size w W) (l : List Int) (L : Option Addr) (lc : Nat) (hl : At W W.heap.size L l) (hcap : l.length ≤ lc) (hln : l.length ≤ 4294967296) => mend_prog (L := L) (l := l) (lc := lc) W ((hg.below hb).more hb.size) hl hcap hln (by omega))
  have R1 := Lib.hid (fun (W : World) (hb : Below w.heap.size w W) (l : List Int) (L : Option Addr) (lc : Nat) (hl : At W W.heap.size L l) (hcap : l.length ≤ lc) (hln : l.length ≤ 4294967296) => replay_prog (L := L) (l := l) (lc := lc) W ((hg.below hb).more hb.size) hl hcap hln (by omega))
  have HH := Lib.hid hh
  have B0 := Lib.hid hb0
  have G0 := Lib.hid g0
  have HL := Lib.hid (And.intro hl hcap)
  have LN := Lib.hid (show l.length ≤ 1048576 by omega)
  have FT := Lib.hid (fun (h0 : genV t = 0) => tears_facts l x h0)
  clear hb0 g0 hg hl hcap hbulk wk wx hh
  go_enter Tryd.func4, Tryd.ntmps4
  go_wp2_with fail
  generalize w.alloc (gc t A c) = W0 at *
  refine (JC.out _).mono ?_
  rintro e w1 ⟨rfl, hb1⟩
  have B1 := Lib.hid (below_trans B0.out hb1)
  have G1 := Lib.hid (G0.out.below hb1)
  obtain ⟨k0, k1, k2, k3⟩ := G1.out.facts
  clear hb1
  go_wp2_with fail
  refine (M1.out w1 B1.out l L lc ((HL.out.1.below B1.out).more B1.out.size) HL.out.2 (by have := LN.out; omega)).mono ?_
  rintro e w2 ⟨A1, c1, rfl, ho1, hb2⟩
  have B2 := Lib.hid (below_trans B1.out hb2)
  have G2 := Lib.hid (G1.out.below hb2)
  have O2 := Lib.hid ho1
  clear hb2 ho1 k0 k1 k2 k3
  by_cases hz : genV t = 0
  · obtain ⟨f1, f2, f3⟩ := FT.out hz
    rw [hz, errOf_ok]
    have F2 := Lib.hid f2
    have F3 := Lib.hid f3
    have F1 := Lib.hid f1
    clear FT f1 f2 f3
    generalize hmm : mendL t l = m at *
    clear hmm M1 hz
    obtain ⟨k0, k1, k2, k3⟩ := G2.out.facts
    have hz2 : w.heap.size < w2.heap.size := G2.out.lt
    have hne1 : w.heap.size ≠ w2.heap.size := by omega
    have hne2 : w.heap.size ≠ w2.heap.size + 1 := by omega
    have HK := Lib.hid (fun (W : World) (hb : Below w2.heap.size w2 W) => (G2.out.below hb).facts)
    have HA := Lib.hid (fun (W : World) (hb : Below w2.heap.size w2 W) => O2.out.at_.below hb)
    have hl1 : m.length ≤ 1399680 := F1.out
    have HW := Lib.hid (fun (W : World) (hb : Below w2.heap.size w2 W) => HH.out.below (below_trans B2.out hb))
    go_wp2_with fail
    go_region_held2 (fun w' => w'.cell? ⟨w.heap.size, 0, none⟩ = some (.int .i64 t.kind) ∧ w'.cell? ⟨w.heap.size, 1, none⟩ = some (.int .i64 t.a) ∧ w'.cell? ⟨w.heap.size, 2, none⟩ = some (.int .i64 t.b) ∧ w'.cell? ⟨w.heap.size, 3, none⟩ = some (.slice A t.subs.length c)) ((refine HK.out _ ?_; repeat (first | with_reducible exact E7.out | with_reducible exact E6.out | with_reducible exact E5.out | with_reducible exact Below.refl _ _ | with_reducible refine Below.drew ?_ | with_reducible refine Below.setCell ?_ (by first | omega | (dsimp only; omega) | (simp; omega) | (simp; done)) _ | with_reducible refine Below.alloc ?_ (by first | omega | (simp; omega) | (simp; done)) _))) (first
      | (refine step_append_ints (by rfl) (.tmp 32) (.tmp 33) (by rfl) w2.heap.size 0 _ [] ?_ w2.heap.size A1 c1 m (HA.out _ ?_) (by rfl) (by rfl) ?_ ?_ ?_
         · refine own_empty_at (by omega) ?_
           repeat (first | (with_reducible refine heap_alloc_at ?_; simp; done) | with_reducible refine heap_drew_skip ?_ | with_reducible refine heap_alloc_skip (by first | omega | (simp; omega) | (simp; done)) ?_)
         · repeat (first | with_reducible exact E7.out | with_reducible exact E6.out | with_reducible exact E5.out | with_reducible exact Below.refl _ _ | with_reducible refine Below.drew ?_ | with_reducible refine Below.alloc ?_ (by first | omega | (simp; omega) | (simp; done)) _)
         · simp; omega
         · first | omega | (simp; omega) | (simp; done)
         intro A5 c5 w5 z5 hz5 own5 g5 r5
         have E5 := Lib.hid (show Below w2.heap.size w2 w5 by
           refine Below.grown ?_ g5 (by first | omega | (simp; omega) | (simp; done)) (by intro k hk; simp [rowOf] at hk; omega)
           repeat (first | with_reducible exact E7.out | with_reducible exact E6.out | with_reducible exact E5.out | with_reducible exact Below.refl _ _ | with_reducible refine Below.drew ?_ | with_reducible refine Below.alloc ?_ (by first | omega | (simp; omega) | (simp; done)) _))
         have L5 := Lib.hid (show z5.length ≤ 1399680 by rw [hz5.out]; simpa using hl1)
         have B5 := Lib.hid (below_trans B2.out E5.out)
         have R5 := Lib.hid (fun g (hg : rowOf A5 = some g) => And.intro (own_row_lt own5 hg) (r5.imp (fun h => h.symm.trans hg) (fun h => h.symm.trans hg)))
         have Z5 := E5.out.size
         have S5 := g5.size
         simp at S5)
      | (refine step_append_ints (by rfl) (.tmp 34) (.tmp 36) (by rfl) w2.heap.size c5 A5 z5 (Ints.Own.below own5 ?_) (w5.heap.size + 10) _ _ [x] ?_ (by rfl) (by rfl) ?_ ?_ ?_
         · repeat (first | with_reducible exact Below.refl _ _ | with_reducible refine Below.drew ?_ | with_reducible refine Below.alloc ?_ (by first | omega | (simp; omega) | (simp; done)) _)
         · refine at_of_heap (by first | omega | (simp; omega)) ?_
           repeat (first | (with_reducible refine heap_alloc_at ?_; simp; done) | with_reducible refine heap_drew_skip ?_ | with_reducible refine heap_alloc_skip (by first | omega | (simp; omega) | (simp; done)) ?_ | with_reducible refine (g5.block _ (by first | omega | (simp; omega) | (simp; done)) (by simp [rowOf]; try omega)).trans ?_)
         · have := L5.out; simp; omega
         · first | omega | (simp; omega) | (simp; done)
         intro A6 c6 w6 z6 hz6 own6 g6 r6
         have E6 := Lib.hid (show Below w2.heap.size w2 w6 by
           refine Below.grown ?_ g6 (by first | omega | (simp; omega) | (simp; done)) own5.ge
           repeat (first | with_reducible exact E7.out | with_reducible exact E5.out | with_reducible exact Below.refl _ _ | with_reducible refine Below.drew ?_ | with_reducible refine Below.alloc ?_ (by first | omega | (simp; omega) | (simp; done)) _))
         have B6 := Lib.hid (below_trans B2.out E6.out)
         have O6 := Lib.hid own6
         have H6 := Lib.hid (show z6 = m ++ [x] by rw [hz6.out, hz5.out]; rfl)
         have L6 := Lib.hid (show z6.length ≤ 4294967296 by rw [hz6.out, List.length_append]; have := L5.out; simp; omega)
         have Z6 := E6.out.size
         have S6 := g6.size
         try simp at S6
         have hr6 : repV t z6 = .error 3 := by rw [H6.out, F2.out]
         have RX := R1.out w6 B6.out z6 A6 c6 O6.out.at_ O6.out.cap_ L6.out
         have BX := bel1 w6 (.cells #[.bool false, .int .i64 0, .slice none 0 0] 38)
         have RY := R1.out (w6.alloc (.cells #[.bool false, .int .i64 0, .slice none 0 0] 38)) (below_trans B6.out BX) z6 A6 c6 ((O6.out.at_.below BX).more BX.size) O6.out.cap_ L6.out
         rw [hr6] at RX RY
         have RX := Lib.hid RX
         have RY := Lib.hid RY
         have BX := Lib.hid BX
         clear hr6)
      | (go_simp
         first
           | (with_reducible refine RX.out.mono ?_
              rintro e w7 ⟨A7, c7, rfl, _, _, hb7⟩
              have E7 := Lib.hid (E6.out.trans (hb7.mono E6.out.size)))
           | (with_reducible refine RY.out.mono ?_
              rintro e w7 ⟨A7, c7, rfl, _, _, hb7⟩
              have E7 := Lib.hid ((E6.out.trans (BX.out.mono E6.out.size)).trans (hb7.mono (Nat.le_trans E6.out.size BX.out.size))))
         have Z7 := E7.out.size
         first
           | (refine with_z3 (b := w2.heap.size) (w := w7) ?_ (fun hz3 => ?_)
              · show w7.heap[w2.heap.size]? = _
                refine (hb7.block _ ?_).trans ?_
                · (first | omega | (simp; omega) | (simp; done))
                repeat (first
                  | (with_reducible refine heap_alloc_at ?_; simp; done)
                  | (with_reducible refine heap_drew_skip ?_)
                  | (with_reducible refine heap_alloc_skip ?_ ?_
                     · (first | omega | (simp; omega) | (simp; done)))
                  | (with_reducible refine (g6.block _ ?_ ?_).trans ?_
                     · (first | omega | (simp; omega) | (simp; done))
                     · (intro e; have hh := R5.out _ e.symm; first | (simp [rowOf] at hh; done) | (simp [rowOf] at hh; omega) | omega))
                  | (with_reducible refine (g5.block _ ?_ ?_).trans ?_
                     · (first | omega | (simp; omega) | (simp; done))
                     · (simp [rowOf]; try omega)))
                done
              obtain ⟨y0, y1, y2, y3, y4, y5⟩ := hz3.facts)
           | (refine with_z3 (b := w2.heap.size + 1) (w := w7) ?_ (fun hz3 => ?_)
              · show w7.heap[w2.heap.size + 1]? = _
                refine (hb7.block _ ?_).trans ?_
                · (first | omega | (simp; omega) | (simp; done))
                repeat (first
                  | (with_reducible refine heap_alloc_at ?_; simp; done)
                  | (with_reducible refine heap_drew_skip ?_)
                  | (with_reducible refine heap_alloc_skip ?_ ?_
                     · (first | omega | (simp; omega) | (simp; done)))
                  | (with_reducible refine (g6.block _ ?_ ?_).trans ?_
                     · (first | omega | (simp; omega) | (simp; done))
                     · (intro e; have hh := R5.out _ e.symm; first | (simp [rowOf] at hh; done) | (simp [rowOf] at hh; omega) | omega))
                  | (with_reducible refine (g5.block _ ?_ ?_).trans ?_
                     · (first | omega | (simp; omega) | (simp; done))
                     · (simp [rowOf]; try omega)))
                done
              obtain ⟨y0, y1, y2, y3, y4, y5⟩ := hz3.facts)
           | (refine with_z3 (b := w2.heap.size + 1 + 1) (w := w7) ?_ (fun hz3 => ?_)
              · show w7.heap[w2.heap.size + 1 + 1]? = _
                refine (hb7.block _ ?_).trans ?_
                · (first | omega | (simp; omega) | (simp; done))
                repeat (first
                  | (with_reducible refine heap_alloc_at ?_; simp; done)
                  | (with_reducible refine heap_drew_skip ?_)
                  | (with_reducible refine heap_alloc_skip ?_ ?_
                     · (first | omega | (simp; omega) | (simp; done)))
                  | (with_reducible refine (g6.block _ ?_ ?_).trans ?_
                     · (first | omega | (simp; omega) | (simp; done))
                     · (intro e; have hh := R5.out _ e.symm; first | (simp [rowOf] at hh; done) | (simp [rowOf] at hh; omega) | omega))
                  | (with_reducible refine (g5.block _ ?_ ?_).trans ?_
                     · (first | omega | (simp; omega) | (simp; done))
                     · (simp [rowOf]; try omega)))
                done
              obtain ⟨y0, y1, y2, y3, y4, y5⟩ := hz3.facts)
           | (refine with_z3 (b := w5.heap.size) (w := w7) ?_ (fun hz3 => ?_)
              · show w7.heap[w5.heap.size]? = _
                refine (hb7.block _ ?_).trans ?_
                · (first | omega | (simp; omega) | (simp; done))
                repeat (first
                  | (with_reducible refine heap_alloc_at ?_; simp; done)
                  | (with_reducible refine heap_drew_skip ?_)
                  | (with_reducible refine heap_alloc_skip ?_ ?_
                     · (first | omega | (simp; omega) | (simp; done)))
                  | (with_reducible refine (g6.block _ ?_ ?_).trans ?_
                     · (first | omega | (simp; omega) | (simp; done))
                     · (intro e; have hh := R5.out _ e.symm; first | (simp [rowOf] at hh; done) | (simp [rowOf] at hh; omega) | omega))
                  | (with_reducible refine (g5.block _ ?_ ?_).trans ?_
                     · (first | omega | (simp; omega) | (simp; done))
                     · (simp [rowOf]; try omega)))
                done
              obtain ⟨y0, y1, y2, y3, y4, y5⟩ := hz3.facts)
           | (refine with_z3 (b := w5.heap.size + 1) (w := w7) ?_ (fun hz3 => ?_)
              · show w7.heap[w5.heap.size + 1]? = _
                refine (hb7.block _ ?_).trans ?_
                · (first | omega | (simp; omega) | (simp; done))
                repeat (first
                  | (with_reducible refine heap_alloc_at ?_; simp; done)
                  | (with_reducible refine heap_drew_skip ?_)
                  | (with_reducible refine heap_alloc_skip ?_ ?_
                     · (first | omega | (simp; omega) | (simp; done)))
                  | (with_reducible refine (g6.block _ ?_ ?_).trans ?_
                     · (first | omega | (simp; omega) | (simp; done))
                     · (intro e; have hh := R5.out _ e.symm; first | (simp [rowOf] at hh; done) | (simp [rowOf] at hh; omega) | omega))
                  | (with_reducible refine (g5.block _ ?_ ?_).trans ?_
                     · (first | omega | (simp; omega) | (simp; done))
                     · (simp [rowOf]; try omega)))
                done
              obtain ⟨y0, y1, y2, y3, y4, y5⟩ := hz3.facts)
           | (refine with_z3 (b := w6.heap.size) (w := w7) ?_ (fun hz3 => ?_)
              · show w7.heap[w6.heap.size]? = _
                refine (hb7.block _ ?_).trans ?_
                · (first | omega | (simp; omega) | (simp; done))
                repeat (first
                  | (with_reducible refine heap_alloc_at ?_; simp; done)
                  | (with_reducible refine heap_drew_skip ?_)
                  | (with_reducible refine heap_alloc_skip ?_ ?_
                     · (first | omega | (simp; omega) | (simp; done)))
                  | (with_reducible refine (g6.block _ ?_ ?_).trans ?_
                     · (first | omega | (simp; omega) | (simp; done))
                     · (intro e; have hh := R5.out _ e.symm; first | (simp [rowOf] at hh; done) | (simp [rowOf] at hh; omega) | omega))
                  | (with_reducible refine (g5.block _ ?_ ?_).trans ?_
                     · (first | omega | (simp; omega) | (simp; done))
                     · (simp [rowOf]; try omega)))
                done
              obtain ⟨y0, y1, y2, y3, y4, y5⟩ := hz3.facts)
           | skip
         clear RX RY))
    all_goals (
      rw [show errOf (errI (.error 3)) = .iface 30 (.int .i64 3) from rfl]
      clear k0 k1 k2 k3
      go_wp2_with fail
      refine (Told.error_errno 3 3 _ (HW.out _ ?_)).mono ?_
      · repeat (first | with_reducible exact E7.out | with_reducible exact E6.out | with_reducible exact E5.out | with_reducible exact Below.refl _ _ | with_reducible refine Below.drew ?_ | with_reducible refine Below.setCell ?_ (by first | omega | (dsimp only; omega) | (simp; omega) | (simp; done)) _ | with_reducible refine Below.alloc ?_ (by first | omega | (simp; omega) | (simp; done)) _)
      rintro e w8 ⟨rfl, hb8⟩
      have E8 := Lib.hid (show Below w2.heap.size w2 w8 by
        refine bel_on ?_ hb8
        repeat (first | with_reducible exact E7.out | with_reducible exact E6.out | with_reducible exact E5.out | with_reducible exact Below.refl _ _ | with_reducible refine Below.drew ?_ | with_reducible refine Below.setCell ?_ (by first | omega | (dsimp only; omega) | (simp; omega) | (simp; done)) _ | with_reducible refine Below.alloc ?_ (by first | omega | (simp; omega) | (simp; done)) _))
      clear hb8
      rw [show ((3 : Int) == 3) = true from rfl]
      obtain ⟨k0, k1, k2, k3⟩ := HK.out w8 E8.out
      have B8 := Lib.hid (below_trans B2.out E8.out)
      by_cases hk0 : k < 0
      · have gk1 : decide (k < 0) = true := by rw [decide_eq_true_eq]; exact hk0
        go_wp2_with fail
        go_ret
        exact ⟨rfl, B8.out⟩
      · have gk1 : decide (k < 0) = false := by rw [decide_eq_false_iff_not]; exact hk0
        by_cases hkm : (m.length : Int) ≤ k
        · have gk2 : decide ((m.length : Int) ≤ k) = true := by rw [decide_eq_true_eq]; exact hkm
          go_wp2_with fail
          go_ret
          exact ⟨rfl, B8.out⟩
        · obtain ⟨kn, rfl⟩ := Int.eq_ofNat_of_zero_le (show 0 ≤ k by omega)
          have hlt : kn < m.length := by omega
          have gk2 : decide ((m.length : Int) ≤ (kn : Int)) = false := by rw [decide_eq_false_iff_not]; exact hkm
          have O8 := Lib.hid (O2.out.below E8.out)
          have kc : kn ≤ c1 := by have := O8.out.cap_; omega
          have RT := R1.out w8.drew B8.out.drew (m.take kn) A1 c1 (At.take O8.out.at_ kn) (by rw [List.length_take]; omega) (by rw [List.length_take]; omega)
          rw [F3.out kn hlt, List.length_take, Nat.min_eq_left (by omega)] at RT
          have RT := Lib.hid RT
          clear hk0 hkm
          go_wp2_with fail
          go_region_held2 (fun w' => w'.cell? ⟨w.heap.size, 0, none⟩ = some (.int .i64 t.kind) ∧ w'.cell? ⟨w.heap.size, 1, none⟩ = some (.int .i64 t.a) ∧ w'.cell? ⟨w.heap.size, 2, none⟩ = some (.int .i64 t.b) ∧ w'.cell? ⟨w.heap.size, 3, none⟩ = some (.slice A t.subs.length c)) (first | exact HK.out _ E9.out | exact ⟨k0, k1, k2, k3⟩) (first
            | (go_simp
               with_reducible refine RT.out.mono ?_
               rintro e w9 ⟨A9, c9, rfl, _, _, hb9⟩
               have E9 := Lib.hid (show Below w2.heap.size w2 w9 from E8.out.drew.trans (hb9.mono E8.out.size))
               clear hb9))
          rw [show errOf (errI (.error 5)) = .iface 30 (.int .i64 5) from rfl]
          go_wp2_with fail
          refine (Told.error_errno 5 5 _ (HW.out _ E9.out)).mono ?_
          rintro e w10 ⟨rfl, hb10⟩
          have B10 := Lib.hid (below_trans B2.out (E9.out.trans (hb10.mono E9.out.size)))
          clear hb10
          rw [show ((5 : Int) == 5) = true from rfl]
          go_wp2_with fail
          go_ret
          exact ⟨rfl, B10.out⟩)
  · rw [errOf_no hz]
    clear FT M1 R1
    generalize genV t = q at *
    go_wp2_with fail
    go_ret
    exact ⟨rfl, B2.out⟩
end Go.Proofs.YtppahcjpffbkbaaDoor.TearsLaw
