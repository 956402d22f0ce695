/-
  RngTells: for every seed and every number: Next, Split, Below and New answer what the document says: the numbers, the seeds, and ErrRange just where the number is not from 1 to 2^31 - 1.
  Conditions: none. The library variable errors.errorType holds what the program's text lays into it (the card ties it).
-/
import Derived.Test.YtcadclpmpfoalaaDoorRefRng
import Derived.Test.YtcadclpmpfoalaaDoorLater
import Derived.Test.YtcadclpmpfoalaaDoorAs
import Derived.Test.YtcadclpmpfoalaaDoorCards
import Derived.Test.YtcadclpmpfoalaaDoorTie
import Derived.ChangeVars
import Derived.JoinedOf
import Derived.LaidLaws
import Derived.LaidHandle
import Derived.Stop.Joined
import Derived.SevenTiedAt
namespace Go.Proofs.YtcadclpmpfoalaaDoor.TellsLaw
open Go.ChangeShapes Go.WideShapes Go.ChangeAt Go.RowKit Rng
set_option linter.unusedVariables false

theorem u64of_small (n : Int) (h1 : 1 ≤ n) (h2 : n ≤ 2147483647) : u64of n = n := by unfold u64of; rw [IntKind.wrap_u64]; omega
theorem after2 {w w1 : World} {o p : Obj} (h : Below ((w.alloc o).alloc p).heap.size ((w.alloc o).alloc p) w1) : Below w.heap.size w w1 := after (o := o) (on ((Below.refl _ _).alloc (Nat.le_refl _) _) h)
theorem after3 {w w1 : World} {o p q : Obj} (h : Below (((w.alloc o).alloc p).alloc q).heap.size (((w.alloc o).alloc p).alloc q) w1) : Below w.heap.size w w1 := after2 (o := o) (p := p) (on ((Below.refl _ _).alloc (Nat.le_refl _) _) h)

set_option maxHeartbeats 4000000 in
theorem core_ok (a g n P M R O k : Int) (n1 : 1 ≤ n) (n2 : n ≤ 2147483647) (hNx : Hid (∀ w, Calls Tryd.prog 5 #[.agg #[.int .u64 a, .int .u64 g]] w fun e w' => e = .returned (.tuple #[.int .u64 M, .agg #[.int .u64 P, .int .u64 g]]) ∧ Below w.heap.size w w'))
    (hSp : Hid (∀ w, Calls Tryd.prog 6 #[.agg #[.int .u64 a, .int .u64 g]] w fun e w' => e = .returned (.tuple #[.agg #[.int .u64 R, .int .u64 g], .agg #[.int .u64 M, .int .u64 O]]) ∧ Below w.heap.size w w'))
    (hSr : Hid (∀ w, Calls Tryd.prog 7 #[.agg #[.int .u64 a, .int .u64 g]] w fun e w' => e = .returned (.tuple #[.agg #[.int .u64 R, .int .u64 g], .agg #[.int .u64 M, .int .u64 O]]) ∧ Below w.heap.size w w'))
    (hSt : Hid (∀ w, Calls Tryd.prog 9 #[.agg #[.int .u64 a, .int .u64 g]] w fun e w' => e = .returned (.agg #[.int .u64 P, .int .u64 g]) ∧ Below w.heap.size w w'))
    (hMx : Hid (∀ w, Calls Tryd.prog 12 #[.int .u64 P] w fun e w' => e = .returned (.int .u64 M) ∧ w = w'))
    (hBr : Hid (∀ w, Calls Tryd.prog 8 #[.agg #[.int .u64 a, .int .u64 g], .int .i64 n] w fun e w' => e = .returned (.int .i64 k) ∧ Below w.heap.size w w'))
    (hBl : Hid (∀ w, Calls Tryd.prog 10 #[.agg #[.int .u64 a, .int .u64 g], .int .i64 n] w fun e w' => e = .returned (.tuple #[.int .i64 k, .agg #[.int .u64 P, .int .u64 g], .nilIface]) ∧ Below w.heap.size w w'))
    (w : World) :
    Calls Tryd.prog 3 #[.agg #[.int .u64 a, .int .u64 g], .int .i64 n] w fun e w' => e = .returned (.bool true) ∧ Below w.heap.size w w' := by
  have n1' : ¬ n < 1 := by omega
  have n2' : ¬ 2147483647 < n := by omega
  go_enter Tryd.func3, Tryd.ntmps3
  go_wp2_with fail
  refine (known_any _).mono ?_
  rintro e w1 ⟨rfl, hb1⟩
  have S1 : InT w.heap.size a g w1 := InT.below (InT.fresh _ _ rfl) hb1
  have B1 := after hb1
  clear hb1
  obtain ⟨s0, s1, _, _, _⟩ := id S1
  go_wp2_with fail
  clear s0 s1
  refine (hNx.out _).mono ?_
  rintro e w2 ⟨rfl, hb2⟩
  have S2 := S1.below hb2
  have B2 := on B1 hb2
  clear S1 B1 hb2
  obtain ⟨s0, s1, _, _, _⟩ := id S2
  have z2 := S2.lt
  go_wp2_with fail
  clear s0 s1
  refine (hSp.out _).mono ?_
  rintro e w3 ⟨rfl, hb3⟩
  have S3 := S2.below (after hb3)
  have T3 := InT.below (InT.fresh (T := 24) P g rfl) hb3
  have B3 := on B2 (after hb3)
  clear S2 B2 hb3
  obtain ⟨s0, s1, _, _, _⟩ := id S3
  have z3 := S3.lt
  have z3' := T3.lt
  go_wp2_with fail
  clear s0 s1
  refine (hSr.out _).mono ?_
  rintro e w4 ⟨rfl, hb4⟩
  have S4 := S3.below (after2 hb4)
  have T4 := T3.below (after2 hb4)
  have P4 := InT.below ((InT.fresh (w := w3) (T := 24) R g rfl).alloc (.cells #[.int .u64 M, .int .u64 O] 24)) hb4
  have Q4 := InT.below (InT.fresh (w := w3.alloc (.cells #[.int .u64 R, .int .u64 g] 24)) (b := w3.heap.size + 1) (T := 24) M O (by simp)) hb4
  have B4 := on B3 (after2 hb4)
  clear S3 T3 B3 hb4
  have z4 := S4.lt
  have K4 := ((S4.alloc (.cells #[.int .u64 R, .int .u64 g] 24)).alloc (.cells #[.int .u64 M, .int .u64 O] 24)).alloc (.cells #[.int .u64 0, .int .u64 0] 24)
  obtain ⟨s0, s1, _, _, _⟩ := K4
  go_wp2_with fail
  clear s0 s1
  refine (hBr.out _).mono ?_
  rintro e w5 ⟨rfl, hb5⟩
  have S5 := S4.below (after3 hb5)
  have T5 := T4.below (after3 hb5)
  have P5 := P4.below (after3 hb5)
  have Q5 := Q4.below (after3 hb5)
  have U5 := InT.below (((InT.fresh (w := w4) (T := 24) R g rfl).alloc (.cells #[.int .u64 M, .int .u64 O] 24)).alloc (.cells #[.int .u64 0, .int .u64 0] 24)) hb5
  have V5 := InT.below ((InT.fresh (w := w4.alloc (.cells #[.int .u64 R, .int .u64 g] 24)) (b := w4.heap.size + 1) (T := 24) M O (by simp)).alloc (.cells #[.int .u64 0, .int .u64 0] 24)) hb5
  have X5 := InT.below (InT.fresh (w := (w4.alloc (.cells #[.int .u64 R, .int .u64 g] 24)).alloc (.cells #[.int .u64 M, .int .u64 O] 24)) (b := w4.heap.size + 1 + 1) (T := 24) 0 0 (by simp)) hb5
  have B5 := on B4 (after3 hb5)
  have l1 := S4.lt
  have l2 := T4.lt
  have l3 := P4.lt
  have l4 := Q4.lt
  clear S4 T4 P4 Q4 B4 hb5
  obtain ⟨s0, s1, _, _, _⟩ := id S5
  go_wp2_with fail
  clear s0 s1
  refine (hSt.out _).mono ?_
  rintro e w6 ⟨rfl, hb6⟩
  have X6 := X5.below hb6
  obtain ⟨s0, s1, _, _, _⟩ := (S5.below hb6)
  obtain ⟨x0, x1, xf0, xf1, _⟩ := id X6
  have R0 : Below (w4.heap.size + 1 + 1) w6 ((w6.setCell ⟨w4.heap.size + 1 + 1, 0, none⟩ (.int .u64 P)).setCell ⟨w4.heap.size + 1 + 1, 1, none⟩ (.int .u64 g)) := ((Below.refl _ _).setCell (by simp) _).setCell (by simp) _
  have S7 := (S5.below hb6).belowB R0 (by omega)
  have T7 := (T5.below hb6).belowB R0 (by omega)
  have P7 := (P5.below hb6).belowB R0 (by omega)
  have Q7 := (Q5.below hb6).belowB R0 (by omega)
  have U7 := (U5.below hb6).belowB R0 (by omega)
  have V7 := (V5.below hb6).belowB R0 (by omega)
  have X7 := X6.set0 P g
  have B7 := (on B5 hb6).trans (R0.mono (by omega))
  clear S5 T5 P5 Q5 U5 V5 X5 X6 B5 hb6 R0
  have y0 := S7.c0
  have y1 := S7.c1
  go_wp2_with fail
  clear s0 s1 x0 x1 xf0 xf1 y0 y1
  generalize (w6.setCell ⟨w4.heap.size + 1 + 1, 0, none⟩ (.int .u64 P)).setCell ⟨w4.heap.size + 1 + 1, 1, none⟩ (.int .u64 g) = w7 at *
  refine (hBl.out _).mono ?_
  rintro e w8 ⟨rfl, hb8⟩
  go_wp2_with fail
  refine (Told.error_nil _ _).mono ?_
  rintro e w9 ⟨rfl, hb9⟩
  have hb9' := after hb9
  have S9 := (S7.below hb8).below hb9'
  have T9 := (T7.below hb8).below hb9'
  have P9 := (P7.below hb8).below hb9'
  have Q9 := (Q7.below hb8).below hb9'
  have U9 := (U7.below hb8).below hb9'
  have V9 := (V7.below hb8).below hb9'
  have X9 := (X7.below hb8).below hb9'
  have W9 := InT.below (InT.fresh (w := w8) (T := 24) P g rfl) hb9
  have B9 := on (on B7 hb8) hb9'
  clear S7 T7 P7 Q7 U7 V7 X7 B7 hb8 hb9 hb9'
  have HB := Lib.hid B9
  clear B9
  have s0 := lat_cell S9.c0
  have s1 := lat_cell S9.c1
  have t0 := lat_cell T9.c0
  have t1 := lat_cell T9.c1
  have p0 := lat_cell P9.c0
  have p1 := lat_cell P9.c1
  have q0 := lat_cell Q9.c0
  have q1 := lat_cell Q9.c1
  have u0 := lat_cell U9.c0
  have u1 := lat_cell U9.c1
  have v0 := lat_cell V9.c0
  have v1 := lat_cell V9.c1
  have x0 := lat_cell X9.c0
  have x1 := lat_cell X9.c1
  have y0 := lat_cell W9.c0
  have y1 := lat_cell W9.c1
  have ff : ∀ (x y : Int) (m : Later w9), (Instr.field 24 (.agg #[.int .u64 x, .int .u64 y]) 0).run Tryd.prog (lat m) = .ok (.int .u64 x) (lat m) := fun x y m => field0 x y (lat m)
  clear S9 T9 P9 Q9 U9 V9 X9 W9
  go_wp2_with fail
  have hu : (u64of n = n) = True := eq_true (u64of_small n n1 n2)
  have hG : (gold = 11400714819323198485) = True := eq_true rfl
  refine wp_region_later (by kernel_rfl) (by kernel_rfl) ?_
  repeat (go_big_quiet_step (first | (go_at_call 9; exact later_call (hSt.out _)) | (go_at_call 12; exact later_same (hMx.out _)) | (go_at_call 13; exact later_call (new_any _ _))))
  refine wpQuiet_nil ?_
  intro _ hw'
  obtain ⟨nq, hw''⟩ := hw'
  subst hw''
  go_wp2
  go_ret
  exact ⟨rfl, on HB.out (lat_below nq)⟩

set_option maxHeartbeats 4000000 in
theorem core_low (a g n P M R O : Int) (hn' : n < 1 ∨ 2147483647 < n) (n1' : n < 1) (hNx : Hid (∀ w, Calls Tryd.prog 5 #[.agg #[.int .u64 a, .int .u64 g]] w fun e w' => e = .returned (.tuple #[.int .u64 M, .agg #[.int .u64 P, .int .u64 g]]) ∧ Below w.heap.size w w'))
    (hSp : Hid (∀ w, Calls Tryd.prog 6 #[.agg #[.int .u64 a, .int .u64 g]] w fun e w' => e = .returned (.tuple #[.agg #[.int .u64 R, .int .u64 g], .agg #[.int .u64 M, .int .u64 O]]) ∧ Below w.heap.size w w'))
    (hSr : Hid (∀ w, Calls Tryd.prog 7 #[.agg #[.int .u64 a, .int .u64 g]] w fun e w' => e = .returned (.tuple #[.agg #[.int .u64 R, .int .u64 g], .agg #[.int .u64 M, .int .u64 O]]) ∧ Below w.heap.size w w'))
    (hSt : Hid (∀ w, Calls Tryd.prog 9 #[.agg #[.int .u64 a, .int .u64 g]] w fun e w' => e = .returned (.agg #[.int .u64 P, .int .u64 g]) ∧ Below w.heap.size w w'))
    (hMx : Hid (∀ w, Calls Tryd.prog 12 #[.int .u64 P] w fun e w' => e = .returned (.int .u64 M) ∧ w = w'))
    (w : World) (HG : Hid (Told.Handle w)) :
    Calls Tryd.prog 3 #[.agg #[.int .u64 a, .int .u64 g], .int .i64 n] w fun e w' => e = .returned (.bool true) ∧ Below w.heap.size w w' := by
  go_enter Tryd.func3, Tryd.ntmps3
  go_wp2_with fail
  refine (known_any _).mono ?_
  rintro e w1 ⟨rfl, hb1⟩
  have S1 : InT w.heap.size a g w1 := InT.below (InT.fresh _ _ rfl) hb1
  have B1 := after hb1
  clear hb1
  obtain ⟨s0, s1, _, _, _⟩ := id S1
  go_wp2_with fail
  clear s0 s1
  refine (hNx.out _).mono ?_
  rintro e w2 ⟨rfl, hb2⟩
  have S2 := S1.below hb2
  have B2 := on B1 hb2
  clear S1 B1 hb2
  obtain ⟨s0, s1, _, _, _⟩ := id S2
  have z2 := S2.lt
  go_wp2_with fail
  clear s0 s1
  refine (hSp.out _).mono ?_
  rintro e w3 ⟨rfl, hb3⟩
  have S3 := S2.below (after hb3)
  have T3 := InT.below (InT.fresh (T := 24) P g rfl) hb3
  have B3 := on B2 (after hb3)
  clear S2 B2 hb3
  obtain ⟨s0, s1, _, _, _⟩ := id S3
  have z3 := S3.lt
  have z3' := T3.lt
  go_wp2_with fail
  clear s0 s1
  refine (hSr.out _).mono ?_
  rintro e w4 ⟨rfl, hb4⟩
  have S4 := S3.below (after2 hb4)
  have T4 := T3.below (after2 hb4)
  have P4 := InT.below ((InT.fresh (w := w3) (T := 24) R g rfl).alloc (.cells #[.int .u64 M, .int .u64 O] 24)) hb4
  have Q4 := InT.below (InT.fresh (w := w3.alloc (.cells #[.int .u64 R, .int .u64 g] 24)) (b := w3.heap.size + 1) (T := 24) M O (by simp)) hb4
  have B4 := on B3 (after2 hb4)
  clear S3 T3 B3 hb4
  have z4 := S4.lt
  have K4 := ((S4.alloc (.cells #[.int .u64 R, .int .u64 g] 24)).alloc (.cells #[.int .u64 M, .int .u64 O] 24)).alloc (.cells #[.int .u64 0, .int .u64 0] 24)
  obtain ⟨s0, s1, _, _, _⟩ := K4
  go_wp2_with fail
  clear s0 s1
  have S7 := ((S4.alloc (.cells #[.int .u64 R, .int .u64 g] 24)).alloc (.cells #[.int .u64 M, .int .u64 O] 24)).alloc (.cells #[.int .u64 0, .int .u64 0] 24)
  have T7 := ((T4.alloc (.cells #[.int .u64 R, .int .u64 g] 24)).alloc (.cells #[.int .u64 M, .int .u64 O] 24)).alloc (.cells #[.int .u64 0, .int .u64 0] 24)
  have P7 := ((P4.alloc (.cells #[.int .u64 R, .int .u64 g] 24)).alloc (.cells #[.int .u64 M, .int .u64 O] 24)).alloc (.cells #[.int .u64 0, .int .u64 0] 24)
  have Q7 := ((Q4.alloc (.cells #[.int .u64 R, .int .u64 g] 24)).alloc (.cells #[.int .u64 M, .int .u64 O] 24)).alloc (.cells #[.int .u64 0, .int .u64 0] 24)
  have U7 := ((InT.fresh (w := w4) (T := 24) R g rfl).alloc (.cells #[.int .u64 M, .int .u64 O] 24)).alloc (.cells #[.int .u64 0, .int .u64 0] 24)
  have V7 := (InT.fresh (w := w4.alloc (.cells #[.int .u64 R, .int .u64 g] 24)) (b := w4.heap.size + 1) (T := 24) M O (by simp)).alloc (.cells #[.int .u64 0, .int .u64 0] 24)
  have X7 := InT.fresh (w := (w4.alloc (.cells #[.int .u64 R, .int .u64 g] 24)).alloc (.cells #[.int .u64 M, .int .u64 O] 24)) (b := w4.heap.size + 1 + 1) (T := 24) 0 0 (by simp)
  have B7 := ((B4.alloc (by omega) (.cells #[.int .u64 R, .int .u64 g] 24)).alloc (by simp; omega) (.cells #[.int .u64 M, .int .u64 O] 24)).alloc (by simp; omega) (.cells #[.int .u64 0, .int .u64 0] 24)
  clear S4 T4 P4 Q4 B4
  generalize ((w4.alloc (.cells #[.int .u64 R, .int .u64 g] 24)).alloc (.cells #[.int .u64 M, .int .u64 O] 24)).alloc (.cells #[.int .u64 0, .int .u64 0] 24) = w7 at *
  refine (below_err _ _ _ hn' _).mono ?_
  rintro e w8 ⟨rfl, hb8⟩
  go_wp2_with fail
  have hgE : Told.Handle (w8.alloc (.cells #[.int .u64 0, .int .u64 0] 24)) := cell_later ((Below.refl _ _).alloc (Nat.le_refl _) _) (cell_later (on B7 hb8) HG.out)
  refine (Told.error_errno _ _ _ hgE).mono ?_
  rintro e w9 ⟨rfl, hb9⟩
  have hb9' := after hb9
  have S9 := (S7.below hb8).below hb9'
  have T9 := (T7.below hb8).below hb9'
  have P9 := (P7.below hb8).below hb9'
  have Q9 := (Q7.below hb8).below hb9'
  have U9 := (U7.below hb8).below hb9'
  have V9 := (V7.below hb8).below hb9'
  have X9 := (X7.below hb8).below hb9'
  have W9 := InT.below (InT.fresh (w := w8) (T := 24) 0 0 rfl) hb9
  have B9 := on (on B7 hb8) hb9'
  clear S7 T7 P7 Q7 U7 V7 X7 B7 hb8 hb9 hb9'
  have HB := Lib.hid B9
  clear B9
  have s0 := lat_cell S9.c0
  have s1 := lat_cell S9.c1
  have t0 := lat_cell T9.c0
  have t1 := lat_cell T9.c1
  have p0 := lat_cell P9.c0
  have p1 := lat_cell P9.c1
  have q0 := lat_cell Q9.c0
  have q1 := lat_cell Q9.c1
  have u0 := lat_cell U9.c0
  have u1 := lat_cell U9.c1
  have v0 := lat_cell V9.c0
  have v1 := lat_cell V9.c1
  have x0 := lat_cell X9.c0
  have x1 := lat_cell X9.c1
  have y0 := lat_cell W9.c0
  have y1 := lat_cell W9.c1
  have ff : ∀ (x y : Int) (m : Later w9), (Instr.field 24 (.agg #[.int .u64 x, .int .u64 y]) 0).run Tryd.prog (lat m) = .ok (.int .u64 x) (lat m) := fun x y m => field0 x y (lat m)
  clear S9 T9 P9 Q9 U9 V9 X9 W9
  go_wp2_with fail
  have hu : (u64of n = IntKind.u64.wrap n) = True := eq_true rfl
  have hG : (gold = 11400714819323198485) = True := eq_true rfl
  refine wp_region_later (by kernel_rfl) (by kernel_rfl) ?_
  repeat (go_big_quiet_step (first | (go_at_call 9; exact later_call (hSt.out _)) | (go_at_call 12; exact later_same (hMx.out _)) | (go_at_call 13; exact later_call (new_any _ _))))
  refine wpQuiet_nil ?_
  intro _ hw'
  obtain ⟨nq, hw''⟩ := hw'
  subst hw''
  go_wp2
  go_ret
  exact ⟨rfl, on HB.out (lat_below nq)⟩

set_option maxHeartbeats 4000000 in
theorem core_high (a g n P M R O : Int) (hn' : n < 1 ∨ 2147483647 < n) (n1' : ¬ n < 1) (n2' : 2147483647 < n) (hNx : Hid (∀ w, Calls Tryd.prog 5 #[.agg #[.int .u64 a, .int .u64 g]] w fun e w' => e = .returned (.tuple #[.int .u64 M, .agg #[.int .u64 P, .int .u64 g]]) ∧ Below w.heap.size w w'))
    (hSp : Hid (∀ w, Calls Tryd.prog 6 #[.agg #[.int .u64 a, .int .u64 g]] w fun e w' => e = .returned (.tuple #[.agg #[.int .u64 R, .int .u64 g], .agg #[.int .u64 M, .int .u64 O]]) ∧ Below w.heap.size w w'))
    (hSr : Hid (∀ w, Calls Tryd.prog 7 #[.agg #[.int .u64 a, .int .u64 g]] w fun e w' => e = .returned (.tuple #[.agg #[.int .u64 R, .int .u64 g], .agg #[.int .u64 M, .int .u64 O]]) ∧ Below w.heap.size w w'))
    (hSt : Hid (∀ w, Calls Tryd.prog 9 #[.agg #[.int .u64 a, .int .u64 g]] w fun e w' => e = .returned (.agg #[.int .u64 P, .int .u64 g]) ∧ Below w.heap.size w w'))
    (hMx : Hid (∀ w, Calls Tryd.prog 12 #[.int .u64 P] w fun e w' => e = .returned (.int .u64 M) ∧ w = w'))
    (w : World) (HG : Hid (Told.Handle w)) :
    Calls Tryd.prog 3 #[.agg #[.int .u64 a, .int .u64 g], .int .i64 n] w fun e w' => e = .returned (.bool true) ∧ Below w.heap.size w w' := by
  go_enter Tryd.func3, Tryd.ntmps3
  go_wp2_with fail
  refine (known_any _).mono ?_
  rintro e w1 ⟨rfl, hb1⟩
  have S1 : InT w.heap.size a g w1 := InT.below (InT.fresh _ _ rfl) hb1
  have B1 := after hb1
  clear hb1
  obtain ⟨s0, s1, _, _, _⟩ := id S1
  go_wp2_with fail
  clear s0 s1
  refine (hNx.out _).mono ?_
  rintro e w2 ⟨rfl, hb2⟩
  have S2 := S1.below hb2
  have B2 := on B1 hb2
  clear S1 B1 hb2
  obtain ⟨s0, s1, _, _, _⟩ := id S2
  have z2 := S2.lt
  go_wp2_with fail
  clear s0 s1
  refine (hSp.out _).mono ?_
  rintro e w3 ⟨rfl, hb3⟩
  have S3 := S2.below (after hb3)
  have T3 := InT.below (InT.fresh (T := 24) P g rfl) hb3
  have B3 := on B2 (after hb3)
  clear S2 B2 hb3
  obtain ⟨s0, s1, _, _, _⟩ := id S3
  have z3 := S3.lt
  have z3' := T3.lt
  go_wp2_with fail
  clear s0 s1
  refine (hSr.out _).mono ?_
  rintro e w4 ⟨rfl, hb4⟩
  have S4 := S3.below (after2 hb4)
  have T4 := T3.below (after2 hb4)
  have P4 := InT.below ((InT.fresh (w := w3) (T := 24) R g rfl).alloc (.cells #[.int .u64 M, .int .u64 O] 24)) hb4
  have Q4 := InT.below (InT.fresh (w := w3.alloc (.cells #[.int .u64 R, .int .u64 g] 24)) (b := w3.heap.size + 1) (T := 24) M O (by simp)) hb4
  have B4 := on B3 (after2 hb4)
  clear S3 T3 B3 hb4
  have z4 := S4.lt
  have K4 := ((S4.alloc (.cells #[.int .u64 R, .int .u64 g] 24)).alloc (.cells #[.int .u64 M, .int .u64 O] 24)).alloc (.cells #[.int .u64 0, .int .u64 0] 24)
  obtain ⟨s0, s1, _, _, _⟩ := K4
  go_wp2_with fail
  clear s0 s1
  have S7 := ((S4.alloc (.cells #[.int .u64 R, .int .u64 g] 24)).alloc (.cells #[.int .u64 M, .int .u64 O] 24)).alloc (.cells #[.int .u64 0, .int .u64 0] 24)
  have T7 := ((T4.alloc (.cells #[.int .u64 R, .int .u64 g] 24)).alloc (.cells #[.int .u64 M, .int .u64 O] 24)).alloc (.cells #[.int .u64 0, .int .u64 0] 24)
  have P7 := ((P4.alloc (.cells #[.int .u64 R, .int .u64 g] 24)).alloc (.cells #[.int .u64 M, .int .u64 O] 24)).alloc (.cells #[.int .u64 0, .int .u64 0] 24)
  have Q7 := ((Q4.alloc (.cells #[.int .u64 R, .int .u64 g] 24)).alloc (.cells #[.int .u64 M, .int .u64 O] 24)).alloc (.cells #[.int .u64 0, .int .u64 0] 24)
  have U7 := ((InT.fresh (w := w4) (T := 24) R g rfl).alloc (.cells #[.int .u64 M, .int .u64 O] 24)).alloc (.cells #[.int .u64 0, .int .u64 0] 24)
  have V7 := (InT.fresh (w := w4.alloc (.cells #[.int .u64 R, .int .u64 g] 24)) (b := w4.heap.size + 1) (T := 24) M O (by simp)).alloc (.cells #[.int .u64 0, .int .u64 0] 24)
  have X7 := InT.fresh (w := (w4.alloc (.cells #[.int .u64 R, .int .u64 g] 24)).alloc (.cells #[.int .u64 M, .int .u64 O] 24)) (b := w4.heap.size + 1 + 1) (T := 24) 0 0 (by simp)
  have B7 := ((B4.alloc (by omega) (.cells #[.int .u64 R, .int .u64 g] 24)).alloc (by simp; omega) (.cells #[.int .u64 M, .int .u64 O] 24)).alloc (by simp; omega) (.cells #[.int .u64 0, .int .u64 0] 24)
  clear S4 T4 P4 Q4 B4
  generalize ((w4.alloc (.cells #[.int .u64 R, .int .u64 g] 24)).alloc (.cells #[.int .u64 M, .int .u64 O] 24)).alloc (.cells #[.int .u64 0, .int .u64 0] 24) = w7 at *
  refine (below_err _ _ _ hn' _).mono ?_
  rintro e w8 ⟨rfl, hb8⟩
  go_wp2_with fail
  have hgE : Told.Handle (w8.alloc (.cells #[.int .u64 0, .int .u64 0] 24)) := cell_later ((Below.refl _ _).alloc (Nat.le_refl _) _) (cell_later (on B7 hb8) HG.out)
  refine (Told.error_errno _ _ _ hgE).mono ?_
  rintro e w9 ⟨rfl, hb9⟩
  have hb9' := after hb9
  have S9 := (S7.below hb8).below hb9'
  have T9 := (T7.below hb8).below hb9'
  have P9 := (P7.below hb8).below hb9'
  have Q9 := (Q7.below hb8).below hb9'
  have U9 := (U7.below hb8).below hb9'
  have V9 := (V7.below hb8).below hb9'
  have X9 := (X7.below hb8).below hb9'
  have W9 := InT.below (InT.fresh (w := w8) (T := 24) 0 0 rfl) hb9
  have B9 := on (on B7 hb8) hb9'
  clear S7 T7 P7 Q7 U7 V7 X7 B7 hb8 hb9 hb9'
  have HB := Lib.hid B9
  clear B9
  have s0 := lat_cell S9.c0
  have s1 := lat_cell S9.c1
  have t0 := lat_cell T9.c0
  have t1 := lat_cell T9.c1
  have p0 := lat_cell P9.c0
  have p1 := lat_cell P9.c1
  have q0 := lat_cell Q9.c0
  have q1 := lat_cell Q9.c1
  have u0 := lat_cell U9.c0
  have u1 := lat_cell U9.c1
  have v0 := lat_cell V9.c0
  have v1 := lat_cell V9.c1
  have x0 := lat_cell X9.c0
  have x1 := lat_cell X9.c1
  have y0 := lat_cell W9.c0
  have y1 := lat_cell W9.c1
  have ff : ∀ (x y : Int) (m : Later w9), (Instr.field 24 (.agg #[.int .u64 x, .int .u64 y]) 0).run Tryd.prog (lat m) = .ok (.int .u64 x) (lat m) := fun x y m => field0 x y (lat m)
  clear S9 T9 P9 Q9 U9 V9 X9 W9
  go_wp2_with fail
  have hu : (u64of n = IntKind.u64.wrap n) = True := eq_true rfl
  have hG : (gold = 11400714819323198485) = True := eq_true rfl
  refine wp_region_later (by kernel_rfl) (by kernel_rfl) ?_
  repeat (go_big_quiet_step (first | (go_at_call 9; exact later_call (hSt.out _)) | (go_at_call 12; exact later_same (hMx.out _)) | (go_at_call 13; exact later_call (new_any _ _))))
  refine wpQuiet_nil ?_
  intro _ hw'
  obtain ⟨nq, hw''⟩ := hw'
  subst hw''
  go_wp2
  go_ret
  exact ⟨rfl, on HB.out (lat_below nq)⟩

theorem walk (a g n : Int) (_ : U64 a) (_ : U64 g) (_ : (Lit.int .i64 n).wf = true) (w : World) (hg : Told.Handle w) :
    Calls Tryd.prog 3 #[.agg #[.int .u64 a, .int .u64 g], .int .i64 n] w fun e w' => e = .returned (.bool true) ∧ Below w.heap.size w w' := by
  by_cases hn : 1 ≤ n ∧ n ≤ 2147483647
  · exact core_ok a g n _ _ _ _ _ hn.1 hn.2 (next_any a g) (split_any a g) (splitR_any a g) (step_any a g) (mixR_any _) (belowR_any a g n hn.1 hn.2) (below_ok a g n hn.1 hn.2) w
  · by_cases h1 : n < 1
    · exact core_low a g n _ _ _ _ (Or.inl h1) h1 (next_any a g) (split_any a g) (splitR_any a g) (step_any a g) (mixR_any _) w hg
    · have h2 : 2147483647 < n := by omega
      exact core_high a g n _ _ _ _ (Or.inr h2) h1 h2 (next_any a g) (split_any a g) (splitR_any a g) (step_any a g) (mixR_any _) w hg

theorem own : ownKnob Tryd.prog.godebug = none := by kernel_rfl
theorem laidOut : laidOutB Tryd.prog = true := by kernel_rfl
theorem et : Tryd.prog.globalNamed "errors.errorType" = some 0 := by kernel_rfl
theorem rt : (Tryd.prog.cutTypes.find? (·.1 == "internal/reflectlite.rtype")).map (·.2) = some 58 := by kernel_rfl
theorem oneRow : ((List.range 101).filter fun t => Tryd.prog.rowNamed t [101, 114, 114, 111, 114]) = [34] := by kernel_rfl
theorem size : Tryd.prog.types.size = 101 := by kernel_rfl

/-- What the condition gives the walk: the library variable's one cell. -/
theorem handle_of_laid {W : World} (h : laidMetH Tryd.prog Rows.rngTellsRow.laid W) : Told.Handle W := by
  have h' : laidMet Tryd.prog [] W ∧ handlesMet Tryd.prog Rows.rngTellsRow.laid W := h
  obtain ⟨name, u, ty, e1, e2, e3, e4, e5⟩ := h'.2 _ (List.mem_singleton.2 rfl)
  have en : name = [101, 114, 114, 111, 114] := (Option.some.inj e1).symm
  subst en
  obtain rfl := Option.some.inj (rt.symm.trans e2)
  have hm : ty ∈ (List.range 101).filter fun t => Tryd.prog.rowNamed t [101, 114, 114, 111, 114] := List.mem_filter.2 ⟨List.mem_range.2 (by rw [← size]; exact e3), e4⟩
  rw [oneRow] at hm
  obtain rfl := List.mem_singleton.1 hm
  have hh : typeHandle Tryd.prog 34 = .pointer (some ⟨1, 34, none⟩) := by kernel_rfl
  rw [hh] at e5
  simpa [Told.Handle] using World.var?_cell et e5 0

noncomputable def laidWorld (os : Os) : World :=
  let w0 := World.holding Tryd.prog os ⟨#[], #[], []⟩
  { w0 with heap := w0.heap.modify 0 fun
      | .cells _ t frozen => .cells #[.iface 58 (.agg #[.pointer (some ⟨1, 34, none⟩)])] t frozen
      | o => o }
theorem laidWorld_met (os : Os) (args : Array Value) : laidMetH Tryd.prog Rows.rngTellsRow.laid ((laidWorld os).forCall (fun _ _ => 0) ⟨#[], args, []⟩).memory :=
  laidMetH_of_parts (laidMet_nil _ _) (by kernel_rfl)

set_option maxRecDepth 100000 in
theorem lifted (os : Os) (started : os.Started) (H : Type) (enc : TypeId × Value → H) :
    ReturnsInHanded {} Tryd.checked os 3 .any (fun w args => (Rows.rngTellsSpec.pre enc Tryd.prog Tryd.f3 [] false w args ∧ laidMetH Tryd.prog Rows.rngTellsRow.laid w) ∧ sizedMet enc Tryd.prog Tryd.f3 (OpenSpec.ofChange Rows.rngTellsSpec) false w args)
      (Rows.rngTellsSpec.post enc Tryd.prog Tryd.f3 false true false false) := by
  refine returnsInHanded_of_change_and (C := Tryd.checked) (X := fun w _ => laidMetH Tryd.prog Rows.rngTellsRow.laid w) (fun _ _ _ hh h => h.of_heap hh) own started (by kernel_rfl) Tryd.func3
    (ChangeSpec.witness_at (enc := enc) (C := Tryd.checked) (os := os) (X := fun w _ => laidMetH Tryd.prog Rows.rngTellsRow.laid w) false (laidWorld os) #[.agg #[.int .u64 0, .int .u64 0], .int .i64 0] 8 rfl (by kernel_rfl) (by kernel_rfl) (by kernel_rfl) (by kernel_rfl) (by kernel_rfl) (laidWorld_met os _)) ?_
  intro W base args ds gs before hval0 hW _ _ hL _
  have hval : ∀ (j : Nat) t v, Tryd.f3.params[j]? = some t → args[j]? = some v → Value.okWide Tryd.prog W .any base t v := hval0
  have hW' := hW
  obtain ⟨p, q, hA0, hV0, rfl, hfz, hnd⟩ := hW
  have hA : DataW.TrodAll enc Tryd.prog W 0 (fun _ => true) true Tryd.f3.params.toList args.toList ds p := hA0
  have hV : DataW.TrodVars enc Tryd.prog W (fun _ => true) [] gs q := hV0
  rw [Tryd.params3] at hA hval
  have hg := handle_of_laid hL
  obtain ⟨rfl, rfl⟩ : gs = [] ∧ q = [] := by
    cases gs with
    | nil => exact ⟨rfl, hV⟩
    | cons g r => exact absurd hV (by intro h; cases h)
  obtain ⟨v0, vs0, d0, ds0, p0, q0, hargs, rfl, rfl, h0, r0⟩ := trodAll_cons hA
  obtain ⟨v1, vs1, d1, ds1, p1, q1, rfl, rfl, rfl, h1, r1⟩ := trodAll_cons r0
  obtain ⟨rfl, rfl, rfl⟩ := trodAll_nil r1
  obtain rfl : args = #[v0, v1] := by cases args; simp_all
  have k0 := h0
  have lt0 : ∀ x ∈ p0, x.block < W.heap.size := by obtain ⟨m, hm⟩ := k0; exact DataW.trod_lt m _ _ _ hm
  obtain ⟨a0, g0, rfl, ua0, ug0⟩ := open_seed (hval 0 24 v0 rfl rfl) h0
  obtain ⟨a1, rfl, rfl, rfl, w1⟩ := open_int Tryd.underlying3 (hval 1 3 v1 rfl rfl) h1
  clear hA0 hval0
  refine (walk a0 g0 a1 ua0 ug0 w1 W hg).mono fun e W' ⟨he, bel⟩ => ?_
  subst he
  exact ⟨_, rfl, _, _, _, [], _, [], hW', trodAll_mk1 (shut_bool Tryd.underlying4 _), (trodAll_cons_mk (Below.trod laidOut (by kernel_rfl) (of_decide_eq_true (by kernel_rfl)) k0 bel lt0) (trodAll_cons_mk (shut_int Tryd.underlying3 w1) trodAll_mk0)), rfl, bel.frame _, fun h => by cases h⟩

theorem row_holds : Rows.RngTellsSaid :=
  OpenClaim.holds_of_wide 3 Tryd.f3 rfl rfl rfl rfl rfl rfl rfl ⟨rfl, rfl, rfl, rfl, rfl⟩ rfl rfl rfl rfl rfl (by kernel_rfl) Tryd.func3 (by kernel_rfl)
    (of_decide_eq_true (by kernel_rfl)) (by unfold Func.isWrapper; rw [if_neg (of_decide_eq_false (by kernel_rfl))]; exact ⟨rfl, rfl⟩)
    (fun os started H enc _ => lifted os started H enc)

/-- The statement: the card. -/
theorem proved : Rows.RngTellsCardSaid :=
  Claim7.holds_tied_plain_at .later [] [.handle] true _ true
    row_holds (fun _ h => by cases h) (by kernel_rfl) (fun _ h => by cases h) rngTells_row_tie rfl ⟨rfl, rfl⟩ (by kernel_rfl) rfl
    (fun f fn hf hfn => by
      obtain rfl : f = 3 := Option.some.inj ((show Tryd.prog.funcNamed "assayer/assayerlaw1.RngTells" = some 3 by kernel_rfl).symm.trans hf) |>.symm
      obtain rfl : fn = Tryd.f3 := (Option.some.inj (Tryd.func3.symm.trans hfn)).symm
      exact ⟨by kernel_rfl, fun j t ht => by
        rw [Tryd.params3] at ht
        have h3 : t = 24 ∨ t = 3 := by
          rcases j with _ | j
          · simp at ht; simp [← ht]
          · rcases j with _ | j
            · simp at ht; simp [← ht]
            · simp at ht
        rcases h3 with rfl | rfl
        · exact (show Tryd.prog.wantsStandIn 24 = false by kernel_rfl)
        · exact (show Tryd.prog.wantsStandIn 3 = false by kernel_rfl)⟩)
    (by kernel_rfl)
#print axioms proved
end Go.Proofs.YtcadclpmpfoalaaDoor.TellsLaw
