/- TopFails, part 27 of the proof: The program's number of an expression, that may panic. Conditions: the size; a right expression. -/
import Derived.Test.YtabkihellcflhaaGreatDoorTopFailsZ26
import Derived.Test.YtabkihellcflhaaGreatDoorTopFailsZ22
import Derived.Deep.RegionHeld2
import Derived.WalkLawsBesides
/- The program's number of an expression, that may panic. Conditions: the size; a right expression. -/
namespace Go.Proofs.YtabkihellcflhaaGreatDoor.Exprs
open Go.RowKit Lists Gens Rng Vals
set_option linter.unusedVariables false

abbrev epanicV (er : Int) : Value := .iface 29 (.int .i64 er)
abbrev epanicE (er : Int) : Ending := .panicked [{ v := epanicV er, recovered := false }]
/-- a number, or a panic with ErrZero -/
def NPost (r : Option Int) (w : World) (e : Ending) (w' : World) : Prop := Below w.heap.size w w' ∧ match r with | some x => e = .returned (.int .i64 x) | none => e = epanicE 6
theorem NPost.ok {r : Option Int} {x : Int} {w w' : World} (h : r = some x) (hb : Below w.heap.size w w') : NPost r w (.returned (.int .i64 x)) w' := by subst h; exact ⟨hb, rfl⟩
theorem NPost.bad {r : Option Int} {w w' : World} (h : r = none) (hb : Below w.heap.size w w') : NPost r w (epanicE 6) w' := by subst h; exact ⟨hb, rfl⟩
theorem NPost.split {r : Option Int} {w w' : World} {e : Ending} (h : NPost r w e w') : (∃ x, r = some x ∧ e = .returned (.int .i64 x) ∧ Below w.heap.size w w') ∨ (r = none ∧ e = epanicE 6 ∧ Below w.heap.size w w') := by
  cases r with
  | some x => exact .inl ⟨x, rfl, h.2, h.1⟩
  | none => exact .inr ⟨rfl, h.2, h.1⟩

theorem truth_any (b : Bool) (w : World) : Calls Tryz.prog 107 #[.bool b] w fun e w' => e = .returned (.int .i64 (one b)) ∧ w = w' := by
  cases b
  all_goals
    go_enter Tryz.func107, Tryz.ntmps107
    go_wp2
    go_ret
    exact ⟨rfl, rfl⟩
theorem rem_any (x y : Int) (w : World) : Calls Tryz.prog 122 #[.int .i64 x, .int .i64 y] w (NPost (bin 6 x y) w) := by
  by_cases hy : y = 0
  · subst hy
    have EV := Lib.hid (show bin 6 x 0 = none from rfl)
    go_enter Tryz.func122, Tryz.ntmps122
    go_wp2
    exact ⟨rfl, NPost.bad EV.out (Below.refl _ _)⟩
  · have EV := Lib.hid (show bin 6 x y = some (x.tmod y) by unfold bin; simp [hy])
    have g : (y == 0) = false := by rw [beq_eq_false_iff_ne]; exact hy
    go_enter Tryz.func122, Tryz.ntmps122
    go_wp2
    go_ret
    exact NPost.ok EV.out (Below.refl _ _)
set_option maxHeartbeats 1000000 in
theorem combine_any (k x y : Int) (hk : 5 ≤ k) (hk2 : k ≤ 11) (h9 : k ≠ 9) (w : World) : Calls Tryz.prog 108 #[.int .i64 k, .int .i64 x, .int .i64 y] w (NPost (bin k x y) w) := by
  rcases (show k = 5 ∨ k = 6 ∨ k = 7 ∨ k = 8 ∨ k = 10 ∨ k = 11 by omega) with rfl | rfl | rfl | rfl | rfl | rfl
  · have EV := Lib.hid (show bin 5 x y = some (wrap64 (x + y)) from rfl)
    go_enter Tryz.func108, Tryz.ntmps108
    go_wp2
    go_ret
    exact NPost.ok EV.out (Below.refl _ _)
  · have RM := Lib.hid (rem_any x y w)
    generalize hr : bin 6 x y = r at RM
    go_enter Tryz.func108, Tryz.ntmps108
    go_wp2_with fail
    refine RM.out.mono ?_
    intro e w1 hs
    rcases hs.split with ⟨x, rfl, rfl, hb⟩ | ⟨rfl, rfl, hb⟩
    · go_wp2_with fail
      go_ret
      exact NPost.ok rfl hb
    · exact ⟨rfl, NPost.bad rfl hb⟩
  · have EV := Lib.hid (show bin 7 x y = some (one (decide (x < y))) from rfl)
    have TT := Lib.hid (truth_any (decide (x < y)) w)
    go_enter Tryz.func108, Tryz.ntmps108
    go_wp2_with fail
    refine TT.out.mono ?_
    rintro e w1 ⟨rfl, rfl⟩
    go_wp2_with fail
    go_ret
    exact NPost.ok EV.out (Below.refl _ _)
  · have EV := Lib.hid (show bin 8 x y = some (one (decide (x = y))) from rfl)
    have TT := Lib.hid (truth_any (x == y) w)
    have TE := Lib.hid (show (x == y) = decide (x = y) by rw [Bool.eq_iff_iff]; simp)
    go_enter Tryz.func108, Tryz.ntmps108
    go_wp2_with fail
    refine TT.out.mono ?_
    rintro e w1 ⟨rfl, rfl⟩
    go_wp2_with fail
    go_ret
    exact NPost.ok (by rw [EV.out, TE.out]) (Below.refl _ _)
  · have EV := Lib.hid (show bin 10 x y = some y from rfl)
    go_enter Tryz.func108, Tryz.ntmps108
    go_wp2
    go_ret
    exact NPost.ok EV.out (Below.refl _ _)
  · have EV := Lib.hid (show bin 11 x y = some y from rfl)
    go_enter Tryz.func108, Tryz.ntmps108
    go_wp2
    go_ret
    exact NPost.ok EV.out (Below.refl _ _)

/-- the two boxes at number's start, at every later world -/
theorem ebox2 (w : World) (x0 x1 x2 y0 y1 y2 : Value) (W : World) (hb : Below ((w.alloc (.cells #[x0, x1, x2] 27)).alloc (.cells #[y0, y1, y2] 47)).heap.size ((w.alloc (.cells #[x0, x1, x2] 27)).alloc (.cells #[y0, y1, y2] 47)) W) :
    (W.cell? ⟨w.heap.size, 0, none⟩ = some x0 ∧ W.cell? ⟨w.heap.size, 1, none⟩ = some x1 ∧ W.cell? ⟨w.heap.size, 2, none⟩ = some x2) ∧
    (W.cell? ⟨w.heap.size + 1, 0, none⟩ = some y0 ∧ W.cell? ⟨w.heap.size + 1, 1, none⟩ = some y1 ∧ W.cell? ⟨w.heap.size + 1, 2, none⟩ = some y2) := by
  refine ⟨ebox w W _ _ _ _ (((Below.refl _ _).alloc (Nat.le_refl _) _).trans (hb.mono (by simp))), ?_⟩
  have h := ebox (w.alloc (.cells #[x0, x1, x2] 27)) W _ _ _ _ hb
  simpa only [World.size_alloc] using h
theorem ebel2 (w : World) (o q : Obj) : Below w.heap.size w ((w.alloc o).alloc q) := ((Below.refl _ _).alloc (Nat.le_refl _) _).alloc (by simp) _
theorem ebel_drew {B : Nat} {w w' : World} (h : Below B w w') : Below B w w'.drew := ⟨h.os, h.tape, h.output, h.size, h.block⟩

def NumOK (n : Nat) : Prop := ∀ (g : Gn) (v : Value) (t : Tr) (A : Option Addr) (c m B : Nat) (w : World), EAt w (EBel B) n v g → TAt w (Bel B) m (vv t A c) t → B ≤ w.heap.size → formE g = true → t.size ≤ 1073741824 →
    Calls Tryz.prog 83 #[v, vv t A c] w (NPost (numE t g) w)
section
variable {n m c vcp B : Nat} {A VA : Option Addr} {t : Tr} {w : World}
set_option maxHeartbeats 1000000 in
set_option maxRecDepth 100000 in
theorem number_leaf (k a : Int) (l : Nat) (hk : k = 1 ∨ k = 2 ∨ k = 3 ∨ k = 4) (s : List Gn) (hv : TAt w (Bel B) m (vv t VA vcp) t) (hB : B ≤ w.heap.size) (hs : t.size ≤ 1073741824) :
    Calls Tryz.prog 83 #[.agg #[.int .i64 k, .int .i64 a, .slice A l c], vv t VA vcp] w (NPost (numE t (.node k a 0 s)) w) := by
  have EQ := Lib.hid (show numE t (.node k a 0 s) = comb k a t (s.map (numE t)) from numE_eq t _)
  have H0 := Lib.hid (ebel2 w (.cells #[.int .i64 k, .int .i64 a, .slice A l c] 27) (vc t VA vcp))
  have hv2 := hv.below (H0.out.mono hB)
  have S1 := Lib.hid (sum_any m t VA vcp B _ hv2 (Nat.le_trans hB H0.out.size) (by omega))
  have T1 := Lib.hid (top_any m t VA vcp B _ hv2 (Nat.le_trans hB H0.out.size) (by omega))
  have hln : t.items.length ≤ 1073741824 := by have := len_sizes t.items; have := size_items t; omega
  clear hv hB hs hv2
  rcases hk with rfl | rfl | rfl | rfl
  · have EV := Lib.hid (show numE t (.node 1 a 0 s) = some a from EQ.out)
    go_enter Tryz.func83, Tryz.ntmps83
    go_wp2_with fail
    go_ret
    exact NPost.ok EV.out H0.out
  · have EV := Lib.hid (show numE t (.node 2 a 0 s) = some (sumT t) from EQ.out)
    go_enter Tryz.func83, Tryz.ntmps83
    go_wp2_with fail
    refine S1.out.mono ?_
    rintro e w1 ⟨rfl, b1⟩
    have B1 := Lib.hid (on H0.out b1)
    clear b1
    go_wp2_with fail
    go_ret
    exact NPost.ok EV.out B1.out
  · have EV := Lib.hid (show numE t (.node 3 a 0 s) = some (topT t) from EQ.out)
    go_enter Tryz.func83, Tryz.ntmps83
    go_wp2_with fail
    refine T1.out.mono ?_
    rintro e w1 ⟨rfl, b1⟩
    have B1 := Lib.hid (on H0.out b1)
    clear b1
    go_wp2_with fail
    go_ret
    exact NPost.ok EV.out B1.out
  · have EV := Lib.hid (show numE t (.node 4 a 0 s) = some (t.items.length : Int) from EQ.out)
    go_enter Tryz.func83, Tryz.ntmps83
    go_wp2_with fail
    go_ret
    exact NPost.ok EV.out H0.out
set_option maxHeartbeats 2000000 in
set_option maxRecDepth 100000 in
theorem number_not (ih : NumOK n) (a : Int) (x : Gn) (hit : 0 < [x].length → ∃ b off, A = some ⟨b, off, none⟩ ∧ EBel B b ∧ ∀ j (h : j < [x].length), ∃ x0 x1 x2, w.cell? ⟨b, off + j * 3, none⟩ = some x0 ∧ w.cell? ⟨b, off + j * 3 + 1, none⟩ = some x1 ∧ w.cell? ⟨b, off + j * 3 + 2, none⟩ = some x2 ∧ EAt w (EBel B) n (.agg #[x0, x1, x2]) ([x][j]'h))
    (hv : TAt w (Bel B) m (vv t VA vcp) t) (hB : B ≤ w.heap.size) (hf : formE x = true) (hs : t.size ≤ 1073741824) :
    Calls Tryz.prog 83 #[.agg #[.int .i64 9, .int .i64 a, .slice A 1 c], vv t VA vcp] w (NPost (numE t (.node 9 a 0 [x])) w) := by
  have EQ := Lib.hid (show numE t (.node 9 a 0 [x]) = (match numE t x with | none => none | some y => some (one (decide (y = 0)))) by rw [numE_eq]; rfl)
  have H0 := Lib.hid (ebel2 w (.cells #[.int .i64 9, .int .i64 a, .slice A 1 c] 27) (vc t VA vcp))
  have BX := Lib.hid (fun W hb => ebox2 w (.int .i64 9) (.int .i64 a) (.slice A 1 c) (.bool t.list) (.int .i64 t.num) (.slice VA t.items.length vcp) W hb)
  obtain ⟨b, off, D, d, rfl, c0, c1, c2, hti⟩ := esub_as hit (H0.out.mono hB) 0 (by simp)
  have hbs : b < ((w.alloc (.cells #[.int .i64 9, .int .i64 a, .slice (some ⟨b, off, none⟩) 1 c] 27)).alloc (vc t VA vcp)).heap.size := World.block_lt_of_cell? _ ⟨b, _, none⟩ c0
  simp only [Nat.zero_mul, Nat.add_zero, List.getElem_cons_zero] at c0 c1 c2 hti
  have bd := ebel_drew (Below.refl ((w.alloc (.cells #[.int .i64 9, .int .i64 a, .slice (some ⟨b, off, none⟩) 1 c] 27)).alloc (vc t VA vcp)).heap.size ((w.alloc (.cells #[.int .i64 9, .int .i64 a, .slice (some ⟨b, off, none⟩) 1 c] 27)).alloc (vc t VA vcp)))
  have HC := Lib.hid (ih x _ t VA vcp m B _ (hti.below (bd.mono (Nat.le_trans hB H0.out.size))) ((hv.below (H0.out.mono hB)).below (bd.mono (Nat.le_trans hB H0.out.size))) (Nat.le_trans hB H0.out.size) hf hs)
  have TR := Lib.hid truth_any
  have HB := Lib.hid hbs
  clear ih hit hv hB hf hs hti hbs bd
  generalize numE t x = r at *
  go_enter Tryz.func83, Tryz.ntmps83
  go_wp2_with fail
  generalize (w.alloc (.cells #[.int .i64 9, .int .i64 a, .slice (some ⟨b, off, none⟩) 1 c] 27)).alloc (vc t VA vcp) = W at *
  obtain ⟨⟨k0, k1, k2⟩, v0, v1, v2⟩ := BX.out W (Below.refl _ _)
  have HW := Lib.hid (show Below w.heap.size w W.drew from ebel_drew H0.out)
  clear BX
  go_region_held2 (fun w' => w'.cell? ⟨w.heap.size, 2, none⟩ = some (.slice (some ⟨b, off, none⟩) 1 c) ∧ (w'.cell? ⟨w.heap.size + 1, 0, none⟩ = some (.bool t.list) ∧ w'.cell? ⟨w.heap.size + 1, 1, none⟩ = some (.int .i64 t.num) ∧ w'.cell? ⟨w.heap.size + 1, 2, none⟩ = some (.slice VA t.items.length vcp)) ∧
      (w'.cell? ⟨b, off, none⟩ = some (.int .i64 x.kind) ∧ w'.cell? ⟨b, off + 1, none⟩ = some (.int .i64 x.a) ∧ w'.cell? ⟨b, off + 2, none⟩ = some (.slice D x.subs.length d))) (go_keep) (first
    | (with_reducible refine HC.out.mono ?_
       intro e w1 hs
       rcases hs.split with ⟨y, hy, rfl, hb⟩ | ⟨hy, rfl, hb⟩
       rotate_left
       · exact ⟨rfl, NPost.bad (by rw [EQ.out, hy]) (on HW.out hb)⟩
       have HY := Lib.hid hy
       have j2 := cell_later hb k2
       have u0 := cell_later hb v0
       have u1 := cell_later hb v1
       have u2 := cell_later hb v2
       have d0 := cell_later hb c0
       have d1 := cell_later hb c1
       have d2 := cell_later hb c2
       have B1 := Lib.hid (on HW.out hb)
       clear hs hb hy)
    | (with_reducible refine (TR.out _ _).mono ?_
       rintro e w2 ⟨rfl, rfl⟩))
  -- the end of not
  go_wp2_with fail
  go_ret
  exact NPost.ok (by rw [EQ.out, HY.out]; show some (one (decide (y = 0))) = some (one (y == 0)); congr 2) B1.out
set_option maxHeartbeats 4000000 in
set_option maxRecDepth 100000 in
theorem number_two (ih : NumOK n) (k a : Int) (hk : 5 ≤ k) (hk2 : k ≤ 8) (x y : Gn) (hit : 0 < [x, y].length → ∃ b off, A = some ⟨b, off, none⟩ ∧ EBel B b ∧ ∀ j (h : j < [x, y].length), ∃ x0 x1 x2, w.cell? ⟨b, off + j * 3, none⟩ = some x0 ∧ w.cell? ⟨b, off + j * 3 + 1, none⟩ = some x1 ∧ w.cell? ⟨b, off + j * 3 + 2, none⟩ = some x2 ∧ EAt w (EBel B) n (.agg #[x0, x1, x2]) ([x, y][j]'h))
    (hv : TAt w (Bel B) m (vv t VA vcp) t) (hB : B ≤ w.heap.size) (hf : formE x = true) (hf2 : formE y = true) (hs : t.size ≤ 1073741824) :
    Calls Tryz.prog 83 #[.agg #[.int .i64 k, .int .i64 a, .slice A 2 c], vv t VA vcp] w (NPost (numE t (.node k a 0 [x, y])) w) := by
  have EQ := Lib.hid (show numE t (.node k a 0 [x, y]) = (match numE t x with | none => none | some x1 => if (k : Int) = 10 ∧ x1 = 0 then some x1 else if (k : Int) = 11 ∧ ¬ x1 = 0 then some x1 else match numE t y with | none => none | some y1 => bin k x1 y1) by rw [numE_eq]; show comb k a t [numE t x, numE t y] = _; exact comb_two k a t _ _ (by omega) (by omega))
  have H0 := Lib.hid (ebel2 w (.cells #[.int .i64 k, .int .i64 a, .slice A 2 c] 27) (vc t VA vcp))
  have BX := Lib.hid (fun W hb => ebox2 w (.int .i64 k) (.int .i64 a) (.slice A 2 c) (.bool t.list) (.int .i64 t.num) (.slice VA t.items.length vcp) W hb)
  obtain ⟨b, off, D, d, rfl, c0, c1, c2, hti⟩ := esub_as hit (Below.refl B w) 0 (by simp)
  obtain ⟨b', off', D2, d2, hbb, q0, q1, q2, htj⟩ := esub_as hit (Below.refl B w) 1 (by simp)
  obtain ⟨rfl, rfl⟩ : b = b' ∧ off = off' := by simpa using hbb
  simp only [Nat.zero_mul, Nat.one_mul, Nat.add_zero, List.getElem_cons_zero, List.getElem_cons_succ] at c0 c1 c2 hti q0 q1 q2 htj
  have IH1 := Lib.hid (fun (W1 : World) (hb : Below w.heap.size w W1) => ih x (ev x D d) t VA vcp m B W1 (hti.below (hb.mono hB)) (hv.below (hb.mono hB)) (Nat.le_trans hB hb.size) hf hs)
  have IH2 := Lib.hid (fun (W1 : World) (hb : Below w.heap.size w W1) => ih y (ev y D2 d2) t VA vcp m B W1 (htj.below (hb.mono hB)) (hv.below (hb.mono hB)) (Nat.le_trans hB hb.size) hf2 hs)
  have HC := Lib.hid (IH1.out _ (ebel_drew H0.out))
  replace c0 := cell_later H0.out c0
  replace c1 := cell_later H0.out c1
  replace c2 := cell_later H0.out c2
  replace q0 := cell_later H0.out q0
  replace q1 := cell_later H0.out q1
  replace q2 := cell_later H0.out q2
  clear ih hit hv hB hf hf2 hs hti htj hbb IH1
  generalize numE t x = r at *
  have g1 : (k == 1) = false := by rw [beq_eq_false_iff_ne]; omega
  have g2 : (k == 2) = false := by rw [beq_eq_false_iff_ne]; omega
  have g3 : (k == 3) = false := by rw [beq_eq_false_iff_ne]; omega
  have g4 : (k == 4) = false := by rw [beq_eq_false_iff_ne]; omega
  have g9 : (k == 9) = false := by rw [beq_eq_false_iff_ne]; omega
  have g10 : (k == 10) = false := by rw [beq_eq_false_iff_ne]; omega
  have g11 : (k == 11) = false := by rw [beq_eq_false_iff_ne]; omega
  go_enter Tryz.func83, Tryz.ntmps83
  go_wp2_with fail
  generalize (w.alloc (.cells #[.int .i64 k, .int .i64 a, .slice (some ⟨b, off, none⟩) 2 c] 27)).alloc (vc t VA vcp) = W at *
  obtain ⟨⟨k0, k1, k2⟩, v0, v1, v2⟩ := BX.out W (Below.refl _ _)
  have HW := Lib.hid (show Below w.heap.size w W.drew from ebel_drew H0.out)
  clear BX
  go_region_held2 (fun w' => w'.cell? ⟨w.heap.size, 0, none⟩ = some (.int .i64 k) ∧ w'.cell? ⟨w.heap.size, 2, none⟩ = some (.slice (some ⟨b, off, none⟩) 2 c) ∧ (w'.cell? ⟨w.heap.size + 1, 0, none⟩ = some (.bool t.list) ∧ w'.cell? ⟨w.heap.size + 1, 1, none⟩ = some (.int .i64 t.num) ∧ w'.cell? ⟨w.heap.size + 1, 2, none⟩ = some (.slice VA t.items.length vcp)) ∧
      (w'.cell? ⟨b, off, none⟩ = some (.int .i64 x.kind) ∧ w'.cell? ⟨b, off + 1, none⟩ = some (.int .i64 x.a) ∧ w'.cell? ⟨b, off + 2, none⟩ = some (.slice D x.subs.length d))) (go_keep) (first
    | (with_reducible refine HC.out.mono ?_
       intro e w1 hs
       rcases hs.split with ⟨x1, hy, rfl, hb⟩ | ⟨hy, rfl, hb⟩
       rotate_left
       · exact ⟨rfl, NPost.bad (by rw [EQ.out, hy]) (on HW.out hb)⟩
       have HY := Lib.hid hy
       have j0 := cell_later hb k0
       have j2 := cell_later hb k2
       have u0 := cell_later hb v0
       have u1 := cell_later hb v1
       have u2 := cell_later hb v2
       have m0 := cell_later hb c0
       have m1 := cell_later hb c1
       have m2 := cell_later hb c2
       have e0 := cell_later hb q0
       have e1 := cell_later hb q1
       have e2 := cell_later hb q2
       have B1 := Lib.hid (on HW.out hb)
       clear hs hb hy))
  have EQ2 := Lib.hid (show numE t (.node k a 0 [x, y]) = (match numE t y with | none => none | some y1 => bin k x1 y1) by rw [EQ.out, HY.out]; simp only []; rw [if_neg (by omega), if_neg (by omega)])
  go_wp2_with fail
  have HC2 := Lib.hid (IH2.out w1.drew (ebel_drew B1.out))
  have HW2 := Lib.hid (ebel_drew B1.out)
  generalize numE t y = r2 at *
  go_region_held2 (fun w' => w'.cell? ⟨w.heap.size, 0, none⟩ = some (.int .i64 k) ∧ w'.cell? ⟨w.heap.size, 2, none⟩ = some (.slice (some ⟨b, off, none⟩) 2 c) ∧ (w'.cell? ⟨w.heap.size + 1, 0, none⟩ = some (.bool t.list) ∧ w'.cell? ⟨w.heap.size + 1, 1, none⟩ = some (.int .i64 t.num) ∧ w'.cell? ⟨w.heap.size + 1, 2, none⟩ = some (.slice VA t.items.length vcp)) ∧
      (w'.cell? ⟨b, off + 3, none⟩ = some (.int .i64 y.kind) ∧ w'.cell? ⟨b, off + 3 + 1, none⟩ = some (.int .i64 y.a) ∧ w'.cell? ⟨b, off + 3 + 2, none⟩ = some (.slice D2 y.subs.length d2))) (go_keep) (first
    | (with_reducible refine HC2.out.mono ?_
       intro e w2 hs
       rcases hs.split with ⟨y1, hy, rfl, hb⟩ | ⟨hy, rfl, hb⟩
       rotate_left
       · exact ⟨rfl, NPost.bad (by rw [EQ2.out, hy]) (on HW2.out hb)⟩
       have HY2 := Lib.hid hy
       have p0 := cell_later hb j0
       have p2 := cell_later hb j2
       have t0 := cell_later hb u0
       have t1 := cell_later hb u1
       have t2 := cell_later hb u2
       have h0 := cell_later hb e0
       have h1 := cell_later hb e1
       have h2 := cell_later hb e2
       have B2 := Lib.hid (on HW2.out hb)
       have EQ3 := Lib.hid (show numE t (.node k a 0 [x, y]) = bin k x1 y1 by rw [EQ2.out, hy])
       have CM := Lib.hid (fun W => combine_any k x1 y1 (by omega) (by omega) (by omega) W)
       clear hs hb hy)
    | (with_reducible refine (CM.out _).mono ?_
       intro e w3 hs
       generalize bin k x1 y1 = r3 at *
       rcases hs.split with ⟨z1, hz, rfl, hb⟩ | ⟨hz, rfl, hb⟩
       rotate_left
       · exact ⟨rfl, NPost.bad (by rw [EQ3.out, hz]) (on B2.out hb)⟩
       have HZ := Lib.hid (EQ3.out.trans hz)
       have B3 := Lib.hid (on B2.out hb)
       have a0 := cell_later hb p0
       have a2 := cell_later hb p2
       have b0 := cell_later hb t0
       have b1 := cell_later hb t1
       have b2 := cell_later hb t2
       have l0 := cell_later hb h0
       have l1 := cell_later hb h1
       have l2 := cell_later hb h2
       clear hs hb hz))
  go_wp2_with fail
  go_ret
  exact NPost.ok HZ.out B3.out
set_option maxHeartbeats 4000000 in
set_option maxRecDepth 100000 in
theorem number_and (ih : NumOK n) (a : Int) (x y : Gn) (hit : 0 < [x, y].length → ∃ b off, A = some ⟨b, off, none⟩ ∧ EBel B b ∧ ∀ j (h : j < [x, y].length), ∃ x0 x1 x2, w.cell? ⟨b, off + j * 3, none⟩ = some x0 ∧ w.cell? ⟨b, off + j * 3 + 1, none⟩ = some x1 ∧ w.cell? ⟨b, off + j * 3 + 2, none⟩ = some x2 ∧ EAt w (EBel B) n (.agg #[x0, x1, x2]) ([x, y][j]'h))
    (hv : TAt w (Bel B) m (vv t VA vcp) t) (hB : B ≤ w.heap.size) (hf : formE x = true) (hf2 : formE y = true) (hs : t.size ≤ 1073741824) :
    Calls Tryz.prog 83 #[.agg #[.int .i64 10, .int .i64 a, .slice A 2 c], vv t VA vcp] w (NPost (numE t (.node 10 a 0 [x, y])) w) := by
  have EQ := Lib.hid (show numE t (.node 10 a 0 [x, y]) = (match numE t x with | none => none | some x1 => if (10 : Int) = 10 ∧ x1 = 0 then some x1 else if (10 : Int) = 11 ∧ ¬ x1 = 0 then some x1 else match numE t y with | none => none | some y1 => bin 10 x1 y1) by rw [numE_eq]; show comb 10 a t [numE t x, numE t y] = _; exact comb_two 10 a t _ _ (by omega) (by omega))
  have H0 := Lib.hid (ebel2 w (.cells #[.int .i64 10, .int .i64 a, .slice A 2 c] 27) (vc t VA vcp))
  have BX := Lib.hid (fun W hb => ebox2 w (.int .i64 10) (.int .i64 a) (.slice A 2 c) (.bool t.list) (.int .i64 t.num) (.slice VA t.items.length vcp) W hb)
  obtain ⟨b, off, D, d, rfl, c0, c1, c2, hti⟩ := esub_as hit (Below.refl B w) 0 (by simp)
  obtain ⟨b', off', D2, d2, hbb, q0, q1, q2, htj⟩ := esub_as hit (Below.refl B w) 1 (by simp)
  obtain ⟨rfl, rfl⟩ : b = b' ∧ off = off' := by simpa using hbb
  simp only [Nat.zero_mul, Nat.one_mul, Nat.add_zero, List.getElem_cons_zero, List.getElem_cons_succ] at c0 c1 c2 hti q0 q1 q2 htj
  have IH1 := Lib.hid (fun (W1 : World) (hb : Below w.heap.size w W1) => ih x (ev x D d) t VA vcp m B W1 (hti.below (hb.mono hB)) (hv.below (hb.mono hB)) (Nat.le_trans hB hb.size) hf hs)
  have IH2 := Lib.hid (fun (W1 : World) (hb : Below w.heap.size w W1) => ih y (ev y D2 d2) t VA vcp m B W1 (htj.below (hb.mono hB)) (hv.below (hb.mono hB)) (Nat.le_trans hB hb.size) hf2 hs)
  have HC := Lib.hid (IH1.out _ (ebel_drew H0.out))
  replace c0 := cell_later H0.out c0
  replace c1 := cell_later H0.out c1
  replace c2 := cell_later H0.out c2
  replace q0 := cell_later H0.out q0
  replace q1 := cell_later H0.out q1
  replace q2 := cell_later H0.out q2
  clear ih hit hv hB hf hf2 hs hti htj hbb IH1
  generalize numE t x = r at *
  go_enter Tryz.func83, Tryz.ntmps83
  go_wp2_with fail
  generalize (w.alloc (.cells #[.int .i64 10, .int .i64 a, .slice (some ⟨b, off, none⟩) 2 c] 27)).alloc (vc t VA vcp) = W at *
  obtain ⟨⟨k0, k1, k2⟩, v0, v1, v2⟩ := BX.out W (Below.refl _ _)
  have HW := Lib.hid (show Below w.heap.size w W.drew from ebel_drew H0.out)
  clear BX
  go_region_held2 (fun w' => w'.cell? ⟨w.heap.size, 0, none⟩ = some (.int .i64 10) ∧ w'.cell? ⟨w.heap.size, 2, none⟩ = some (.slice (some ⟨b, off, none⟩) 2 c) ∧ (w'.cell? ⟨w.heap.size + 1, 0, none⟩ = some (.bool t.list) ∧ w'.cell? ⟨w.heap.size + 1, 1, none⟩ = some (.int .i64 t.num) ∧ w'.cell? ⟨w.heap.size + 1, 2, none⟩ = some (.slice VA t.items.length vcp)) ∧
      (w'.cell? ⟨b, off, none⟩ = some (.int .i64 x.kind) ∧ w'.cell? ⟨b, off + 1, none⟩ = some (.int .i64 x.a) ∧ w'.cell? ⟨b, off + 2, none⟩ = some (.slice D x.subs.length d))) (go_keep) (first
    | (with_reducible refine HC.out.mono ?_
       intro e w1 hs
       rcases hs.split with ⟨x1, hy, rfl, hb⟩ | ⟨hy, rfl, hb⟩
       rotate_left
       · exact ⟨rfl, NPost.bad (by rw [EQ.out, hy]) (on HW.out hb)⟩
       have HY := Lib.hid hy
       have j0 := cell_later hb k0
       have j2 := cell_later hb k2
       have u0 := cell_later hb v0
       have u1 := cell_later hb v1
       have u2 := cell_later hb v2
       have m0 := cell_later hb c0
       have m1 := cell_later hb c1
       have m2 := cell_later hb c2
       have e0 := cell_later hb q0
       have e1 := cell_later hb q1
       have e2 := cell_later hb q2
       have B1 := Lib.hid (on HW.out hb)
       clear hs hb hy))
  by_cases hx : x1 = 0
  · have EV := Lib.hid (show numE t (.node 10 a 0 [x, y]) = some x1 by rw [EQ.out, HY.out]; simp [hx])
    have z1 : (x1 == 0) = true := by rw [beq_iff_eq]; exact hx
    have z2 : (x1 != 0) = false := by rw [bne_eq_false_iff_eq]; exact hx
    clear hx
    go_wp2_with fail
    go_ret
    exact NPost.ok EV.out B1.out
  · have EQ2 := Lib.hid (show numE t (.node 10 a 0 [x, y]) = (match numE t y with | none => none | some y1 => bin 10 x1 y1) by rw [EQ.out, HY.out]; simp [hx])
    have z1 : (x1 == 0) = false := by rw [beq_eq_false_iff_ne]; exact hx
    have z2 : (x1 != 0) = true := by rw [bne_iff_ne]; exact hx
    clear hx
    go_wp2_with fail
    have HC2 := Lib.hid (IH2.out w1.drew (ebel_drew B1.out))
    have HW2 := Lib.hid (ebel_drew B1.out)
    generalize numE t y = r2 at *
    go_region_held2 (fun w' => w'.cell? ⟨w.heap.size, 0, none⟩ = some (.int .i64 10) ∧ w'.cell? ⟨w.heap.size, 2, none⟩ = some (.slice (some ⟨b, off, none⟩) 2 c) ∧ (w'.cell? ⟨w.heap.size + 1, 0, none⟩ = some (.bool t.list) ∧ w'.cell? ⟨w.heap.size + 1, 1, none⟩ = some (.int .i64 t.num) ∧ w'.cell? ⟨w.heap.size + 1, 2, none⟩ = some (.slice VA t.items.length vcp)) ∧
        (w'.cell? ⟨b, off + 3, none⟩ = some (.int .i64 y.kind) ∧ w'.cell? ⟨b, off + 3 + 1, none⟩ = some (.int .i64 y.a) ∧ w'.cell? ⟨b, off + 3 + 2, none⟩ = some (.slice D2 y.subs.length d2))) (go_keep) (first
      | (with_reducible refine HC2.out.mono ?_
         intro e w2 hs
         rcases hs.split with ⟨y1, hy, rfl, hb⟩ | ⟨hy, rfl, hb⟩
         rotate_left
         · exact ⟨rfl, NPost.bad (by rw [EQ2.out, hy]) (on HW2.out hb)⟩
         have HY2 := Lib.hid hy
         have p0 := cell_later hb j0
         have p2 := cell_later hb j2
         have t0 := cell_later hb u0
         have t1 := cell_later hb u1
         have t2 := cell_later hb u2
         have h0 := cell_later hb e0
         have h1 := cell_later hb e1
         have h2 := cell_later hb e2
         have B2 := Lib.hid (on HW2.out hb)
         have EQ3 := Lib.hid (show numE t (.node 10 a 0 [x, y]) = bin 10 x1 y1 by rw [EQ2.out, hy])
         have CM := Lib.hid (fun W => combine_any 10 x1 y1 (by omega) (by omega) (by omega) W)
         clear hs hb hy)
      | (with_reducible refine (CM.out _).mono ?_
         intro e w3 hs
         generalize bin 10 x1 y1 = r3 at *
         rcases hs.split with ⟨z1, hz, rfl, hb⟩ | ⟨hz, rfl, hb⟩
         rotate_left
         · exact ⟨rfl, NPost.bad (by rw [EQ3.out, hz]) (on B2.out hb)⟩
         have HZ := Lib.hid (EQ3.out.trans hz)
         have B3 := Lib.hid (on B2.out hb)
         have a0 := cell_later hb p0
         have a2 := cell_later hb p2
         have b0 := cell_later hb t0
         have b1 := cell_later hb t1
         have b2 := cell_later hb t2
         have l0 := cell_later hb h0
         have l1 := cell_later hb h1
         have l2 := cell_later hb h2
         clear hs hb hz))
    go_wp2_with fail
    go_ret
    exact NPost.ok HZ.out B3.out
set_option maxHeartbeats 4000000 in
set_option maxRecDepth 100000 in
theorem number_or (ih : NumOK n) (a : Int) (x y : Gn) (hit : 0 < [x, y].length → ∃ b off, A = some ⟨b, off, none⟩ ∧ EBel B b ∧ ∀ j (h : j < [x, y].length), ∃ x0 x1 x2, w.cell? ⟨b, off + j * 3, none⟩ = some x0 ∧ w.cell? ⟨b, off + j * 3 + 1, none⟩ = some x1 ∧ w.cell? ⟨b, off + j * 3 + 2, none⟩ = some x2 ∧ EAt w (EBel B) n (.agg #[x0, x1, x2]) ([x, y][j]'h))
    (hv : TAt w (Bel B) m (vv t VA vcp) t) (hB : B ≤ w.heap.size) (hf : formE x = true) (hf2 : formE y = true) (hs : t.size ≤ 1073741824) :
    Calls Tryz.prog 83 #[.agg #[.int .i64 11, .int .i64 a, .slice A 2 c], vv t VA vcp] w (NPost (numE t (.node 11 a 0 [x, y])) w) := by
  have EQ := Lib.hid (show numE t (.node 11 a 0 [x, y]) = (match numE t x with | none => none | some x1 => if (11 : Int) = 10 ∧ x1 = 0 then some x1 else if (11 : Int) = 11 ∧ ¬ x1 = 0 then some x1 else match numE t y with | none => none | some y1 => bin 11 x1 y1) by rw [numE_eq]; show comb 11 a t [numE t x, numE t y] = _; exact comb_two 11 a t _ _ (by omega) (by omega))
  have H0 := Lib.hid (ebel2 w (.cells #[.int .i64 11, .int .i64 a, .slice A 2 c] 27) (vc t VA vcp))
  have BX := Lib.hid (fun W hb => ebox2 w (.int .i64 11) (.int .i64 a) (.slice A 2 c) (.bool t.list) (.int .i64 t.num) (.slice VA t.items.length vcp) W hb)
  obtain ⟨b, off, D, d, rfl, c0, c1, c2, hti⟩ := esub_as hit (Below.refl B w) 0 (by simp)
  obtain ⟨b', off', D2, d2, hbb, q0, q1, q2, htj⟩ := esub_as hit (Below.refl B w) 1 (by simp)
  obtain ⟨rfl, rfl⟩ : b = b' ∧ off = off' := by simpa using hbb
  simp only [Nat.zero_mul, Nat.one_mul, Nat.add_zero, List.getElem_cons_zero, List.getElem_cons_succ] at c0 c1 c2 hti q0 q1 q2 htj
  have IH1 := Lib.hid (fun (W1 : World) (hb : Below w.heap.size w W1) => ih x (ev x D d) t VA vcp m B W1 (hti.below (hb.mono hB)) (hv.below (hb.mono hB)) (Nat.le_trans hB hb.size) hf hs)
  have IH2 := Lib.hid (fun (W1 : World) (hb : Below w.heap.size w W1) => ih y (ev y D2 d2) t VA vcp m B W1 (htj.below (hb.mono hB)) (hv.below (hb.mono hB)) (Nat.le_trans hB hb.size) hf2 hs)
  have HC := Lib.hid (IH1.out _ (ebel_drew H0.out))
  replace c0 := cell_later H0.out c0
  replace c1 := cell_later H0.out c1
  replace c2 := cell_later H0.out c2
  replace q0 := cell_later H0.out q0
  replace q1 := cell_later H0.out q1
  replace q2 := cell_later H0.out q2
  clear ih hit hv hB hf hf2 hs hti htj hbb IH1
  generalize numE t x = r at *
  go_enter Tryz.func83, Tryz.ntmps83
  go_wp2_with fail
  generalize (w.alloc (.cells #[.int .i64 11, .int .i64 a, .slice (some ⟨b, off, none⟩) 2 c] 27)).alloc (vc t VA vcp) = W at *
  obtain ⟨⟨k0, k1, k2⟩, v0, v1, v2⟩ := BX.out W (Below.refl _ _)
  have HW := Lib.hid (show Below w.heap.size w W.drew from ebel_drew H0.out)
  clear BX
  go_region_held2 (fun w' => w'.cell? ⟨w.heap.size, 0, none⟩ = some (.int .i64 11) ∧ w'.cell? ⟨w.heap.size, 2, none⟩ = some (.slice (some ⟨b, off, none⟩) 2 c) ∧ (w'.cell? ⟨w.heap.size + 1, 0, none⟩ = some (.bool t.list) ∧ w'.cell? ⟨w.heap.size + 1, 1, none⟩ = some (.int .i64 t.num) ∧ w'.cell? ⟨w.heap.size + 1, 2, none⟩ = some (.slice VA t.items.length vcp)) ∧
      (w'.cell? ⟨b, off, none⟩ = some (.int .i64 x.kind) ∧ w'.cell? ⟨b, off + 1, none⟩ = some (.int .i64 x.a) ∧ w'.cell? ⟨b, off + 2, none⟩ = some (.slice D x.subs.length d))) (go_keep) (first
    | (with_reducible refine HC.out.mono ?_
       intro e w1 hs
       rcases hs.split with ⟨x1, hy, rfl, hb⟩ | ⟨hy, rfl, hb⟩
       rotate_left
       · exact ⟨rfl, NPost.bad (by rw [EQ.out, hy]) (on HW.out hb)⟩
       have HY := Lib.hid hy
       have j0 := cell_later hb k0
       have j2 := cell_later hb k2
       have u0 := cell_later hb v0
       have u1 := cell_later hb v1
       have u2 := cell_later hb v2
       have m0 := cell_later hb c0
       have m1 := cell_later hb c1
       have m2 := cell_later hb c2
       have e0 := cell_later hb q0
       have e1 := cell_later hb q1
       have e2 := cell_later hb q2
       have B1 := Lib.hid (on HW.out hb)
       clear hs hb hy))
  by_cases hx : x1 = 0
  · have EQ2 := Lib.hid (show numE t (.node 11 a 0 [x, y]) = (match numE t y with | none => none | some y1 => bin 11 x1 y1) by rw [EQ.out, HY.out]; simp [hx])
    have z1 : (x1 == 0) = true := by rw [beq_iff_eq]; exact hx
    have z2 : (x1 != 0) = false := by rw [bne_eq_false_iff_eq]; exact hx
    clear hx
    go_wp2_with fail
    have HC2 := Lib.hid (IH2.out w1.drew (ebel_drew B1.out))
    have HW2 := Lib.hid (ebel_drew B1.out)
    generalize numE t y = r2 at *
    go_region_held2 (fun w' => w'.cell? ⟨w.heap.size, 0, none⟩ = some (.int .i64 11) ∧ w'.cell? ⟨w.heap.size, 2, none⟩ = some (.slice (some ⟨b, off, none⟩) 2 c) ∧ (w'.cell? ⟨w.heap.size + 1, 0, none⟩ = some (.bool t.list) ∧ w'.cell? ⟨w.heap.size + 1, 1, none⟩ = some (.int .i64 t.num) ∧ w'.cell? ⟨w.heap.size + 1, 2, none⟩ = some (.slice VA t.items.length vcp)) ∧
        (w'.cell? ⟨b, off + 3, none⟩ = some (.int .i64 y.kind) ∧ w'.cell? ⟨b, off + 3 + 1, none⟩ = some (.int .i64 y.a) ∧ w'.cell? ⟨b, off + 3 + 2, none⟩ = some (.slice D2 y.subs.length d2))) (go_keep) (first
      | (with_reducible refine HC2.out.mono ?_
         intro e w2 hs
         rcases hs.split with ⟨y1, hy, rfl, hb⟩ | ⟨hy, rfl, hb⟩
         rotate_left
         · exact ⟨rfl, NPost.bad (by rw [EQ2.out, hy]) (on HW2.out hb)⟩
         have HY2 := Lib.hid hy
         have p0 := cell_later hb j0
         have p2 := cell_later hb j2
         have t0 := cell_later hb u0
         have t1 := cell_later hb u1
         have t2 := cell_later hb u2
         have h0 := cell_later hb e0
         have h1 := cell_later hb e1
         have h2 := cell_later hb e2
         have B2 := Lib.hid (on HW2.out hb)
         have EQ3 := Lib.hid (show numE t (.node 11 a 0 [x, y]) = bin 11 x1 y1 by rw [EQ2.out, hy])
         have CM := Lib.hid (fun W => combine_any 11 x1 y1 (by omega) (by omega) (by omega) W)
         clear hs hb hy)
      | (with_reducible refine (CM.out _).mono ?_
         intro e w3 hs
         generalize bin 11 x1 y1 = r3 at *
         rcases hs.split with ⟨z1, hz, rfl, hb⟩ | ⟨hz, rfl, hb⟩
         rotate_left
         · exact ⟨rfl, NPost.bad (by rw [EQ3.out, hz]) (on B2.out hb)⟩
         have HZ := Lib.hid (EQ3.out.trans hz)
         have B3 := Lib.hid (on B2.out hb)
         have a0 := cell_later hb p0
         have a2 := cell_later hb p2
         have b0 := cell_later hb t0
         have b1 := cell_later hb t1
         have b2 := cell_later hb t2
         have l0 := cell_later hb h0
         have l1 := cell_later hb h1
         have l2 := cell_later hb h2
         clear hs hb hz))
    go_wp2_with fail
    go_ret
    exact NPost.ok HZ.out B3.out
  · have EV := Lib.hid (show numE t (.node 11 a 0 [x, y]) = some x1 by rw [EQ.out, HY.out]; simp [hx])
    have z1 : (x1 == 0) = false := by rw [beq_eq_false_iff_ne]; exact hx
    have z2 : (x1 != 0) = true := by rw [bne_iff_ne]; exact hx
    clear hx
    go_wp2_with fail
    go_ret
    exact NPost.ok EV.out B1.out
end
theorem numE_b (t : Tr) (k a b : Int) (s : List Gn) : numE t (.node k a b s) = numE t (.node k a 0 s) := by rw [numE_eq, numE_eq]; rfl
theorem number_any : ∀ n, NumOK n
  | 0 => fun g v t A c m B w h => h.elim
  | n + 1 => by
    intro g v t VA vcp m B w h hv hB hf hs
    obtain ⟨n', A, c, e, hw, rfl, hit⟩ := h.open_
    obtain rfl : n = n' := by omega
    have ih := number_any n
    obtain ⟨hk, hfs⟩ := form_subs hf
    obtain ⟨k1, k11⟩ := form_kind hf
    cases g with | node k a b s =>
    simp only [Gn.kind, Gn.subs, Gn.a, ev] at *
    rw [numE_b]
    by_cases h4 : k ≤ 4
    · exact number_leaf k a s.length (by omega) s hv hB hs
    · by_cases h9 : k = 9
      · subst h9
        match s, hk with
        | [x], _ => exact number_not ih a x hit hv hB (hfs x (by simp)) hs
      · have hs2 : s.length = 2 := by
          unfold subsE at hk
          rw [if_neg (by omega), if_neg h4, if_neg h9] at hk
          omega
        match s, hs2 with
        | [x, y], _ =>
          by_cases h8 : k ≤ 8
          · exact number_two ih k a (by omega) h8 x y hit hv hB (hfs x (by simp)) (hfs y (by simp)) hs
          · by_cases h10 : k = 10
            · subst h10
              exact number_and ih a x y hit hv hB (hfs x (by simp)) (hfs y (by simp)) hs
            · obtain rfl : k = 11 := by omega
              exact number_or ih a x y hit hv hB (hfs x (by simp)) (hfs y (by simp)) hs
end Go.Proofs.YtabkihellcflhaaGreatDoor.Exprs
