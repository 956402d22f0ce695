/-
  RngApart: for every two States and every Gamma: the numbers are the same just if the States are; a Gamma that is split is odd; within 20 steps such a seed does not come round.
  Conditions: none.
-/
import Derived.Test.YtcadclpmpfoalaaMem
import Derived.WalkSpells
namespace Go.Proofs.Ytcadclpmpfoalaa.ApartLaw
open Go.ChangeShapes Go.WideShapes Go.ChangeAt Go.RowKit Rng
set_option linter.unusedVariables false

theorem Q6 {w : World} {b : Nat} {v x y : Value} {o : Obj} (h : w.cell? ⟨b, 0, none⟩ = some v) : (((w.setCell ⟨b + 1, 0, none⟩ x).setCell ⟨b + 1, 1, none⟩ y).alloc o).cell? ⟨b, 0, none⟩ = some v := by
  have h1 : ((w.setCell ⟨b + 1, 0, none⟩ x).setCell ⟨b + 1, 1, none⟩ y).cell? ⟨b, 0, none⟩ = some v := by
    rw [World.cell?_setCell_other _ _ _ _ (by simp), World.cell?_setCell_other _ _ _ _ (by simp)]; exact h
  exact cell_later ((Below.refl _ _).alloc (Nat.le_refl _) o) h1

theorem walk (a g b k : Int) (ua : U64 a) (ug : U64 g) (wb : (Lit.int .u64 b).wf = true) (wk : (Lit.int .i64 k).wf = true) (w : World) :
    Calls Try.prog 3 #[.agg #[.int .u64 a, .int .u64 g], .int .u64 b, .int .i64 k] w fun e w' => e = .returned (.bool true) ∧ Below w.heap.size w w' := by
  have ub := u64_of_wf wb
  clear wb wk
  by_cases hab : a = b
  · subst hab
    go_enter Try.func3, Try.ntmps3
    go_wp2_with fail
    refine (known_any _).mono ?_
    rintro e w1 ⟨rfl, hb1⟩
    have hz1 : w.heap.size < w1.heap.size := by have := hb1.size; simp at this; omega
    have s0 : w1.cell? ⟨w.heap.size, 0, none⟩ = some (.int .u64 a) := by rw [hb1.cell (by simp)]; simp
    have s1 : w1.cell? ⟨w.heap.size, 1, none⟩ = some (.int .u64 g) := by rw [hb1.cell (by simp)]; simp
    go_wp2_with fail
    refine (next_any _ _ _).mono ?_
    rintro e w2 ⟨rfl, hb2⟩
    have hz2 : w.heap.size < w2.heap.size := by have := hb2.size; omega
    have r0 := (hb2.cell (p := ⟨w.heap.size, 0, none⟩) hz1).trans s0
    have r1 := (hb2.cell (p := ⟨w.heap.size, 1, none⟩) hz1).trans s1
    go_wp2_with fail
    refine (next_any _ _ _).mono ?_
    rintro e w3 ⟨rfl, hb3'⟩
    have hb3 := after hb3'
    clear hb3'
    have hz3 : w.heap.size < w3.heap.size := by have := hb3.size; omega
    have t0 := (hb3.cell (p := ⟨w.heap.size, 0, none⟩) hz2).trans r0
    have t1 := (hb3.cell (p := ⟨w.heap.size, 1, none⟩) hz2).trans r1
    clear s0 s1 r0 r1
    go_wp2_with fail
    refine (split_any _ _ _).mono ?_
    rintro e w4 ⟨rfl, hb4'⟩
    have hb4 := after hb4'
    clear hb4'
    have hz4 : w.heap.size < w4.heap.size := by have := hb4.size; omega
    have m0 := (hb4.cell (p := ⟨w.heap.size, 0, none⟩) hz3).trans t0
    have m1 := (hb4.cell (p := ⟨w.heap.size, 1, none⟩) hz3).trans t1
    clear t0 t1
    have hQ := mixI_U64 (plus a g)
    have hO := odd_odd (mixI (plus (plus a g) g)) (mixI_U64 _)
    have hne := fun j (h1 : 1 ≤ j) (h2 : j ≤ 20) => stepped_ne _ _ hQ hO.2 hO.1 j h1 (by omega)
    have hp : (odd (mixI (plus (plus a g) g))).tmod 2 = 1 := by rw [Int.tmod_eq_emod_of_nonneg hO.2.1]; exact hO.1
    have Hne := Lib.hid hne
    clear hne hQ hO
    generalize odd (mixI (plus (plus a g) g)) = G at *
    generalize hq : mixI (plus a g) = Q at *
    clear hq
    go_wp2_with fail
    clear hp
    go_loopw [15] (fun i wr => ∃ j : Nat, j ≤ 20 ∧ i = .int .i64 j ∧ InT (w4.heap.size + 1 + 1) (stepped Q G j) G wr ∧ wr.cell? ⟨w4.heap.size + 1, 0, none⟩ = some (.int .u64 Q) ∧ Below w4.heap.size w4 wr) (fun i _ => (20 - intOf i).toNat)
    case atStart => exact ⟨0, by omega, rfl, InT.fresh _ _ (by simp), ((InT.fresh _ _ (by simp)).alloc _).c0, (((Below.refl _ _).alloc (Nat.le_refl _) _).alloc (by simp) _).alloc (by simp; omega) _⟩
    case round =>
      obtain ⟨j, hj, rfl, ⟨c0, c1, f0, f1, lt⟩, cq, hb⟩ := hrel
      by_cases hlt : (j : Int) < k ∧ (j : Int) < 20
      · obtain ⟨l1, l2⟩ := hlt
        go_wp2_with fail
        refine (next_any _ _ _).mono ?_
        rintro e w5 ⟨rfl, hb5⟩
        have hz5 : w4.heap.size + 1 + 1 < w5.heap.size := by have := hb5.size; omega
        have hz5' : w4.heap.size + 1 < w5.heap.size := by omega
        obtain ⟨d0, d1, g0, g1, lt5⟩ := InT.below ⟨c0, c1, f0, f1, lt⟩ hb5
        have T5 := InT.set ⟨d0, d1, g0, g1, lt5⟩ (plus (stepped Q G j) G) G (.cells #[.int .u64 (plus (stepped Q G j) G), .int .u64 G] 24)
        have q5 := (hb5.cell (p := ⟨w4.heap.size + 1, 0, none⟩) (by show w4.heap.size + 1 < _; omega)).trans cq
        have q6 := Q6 (x := .int .u64 (plus (stepped Q G j) G)) (y := .int .u64 G) (o := .cells #[.int .u64 (plus (stepped Q G j) G), .int .u64 G] 24) q5
        have t6 := T5.c0
        have T6 := Lib.hid T5
        clear T5
        have ht : (plus (stepped Q G j) G == Q) = false := by rw [beq_eq_false_iff_ne]; exact Hne.out (j + 1) (by omega) (by omega)
        go_wp2
        go_roundw
        case rel => exact ⟨j + 1, by omega, by go_num, T6.out, q6, Below.alloc (((hb.trans (hb5.mono (by omega))).setCell (by simp; omega) _).setCell (by simp; omega) _) (by simp; omega) _⟩
        case measure => simp [intOf]; omega
      · by_cases l1 : (j : Int) < k
        · have l2 : ¬ (j : Int) < 20 := by omega
          clear hlt
          go_wp2
          go_ret
          exact ⟨rfl, on (on (on (on (after hb1) hb2) hb3) hb4) hb⟩
        · clear hlt
          go_wp2
          go_ret
          exact ⟨rfl, on (on (on (on (after hb1) hb2) hb3) hb4) hb⟩
  · have hx : (mixI (plus a g) == mixI (plus b g)) = false := by
      rw [beq_eq_false_iff_ne]
      exact fun h => hab (plus_inj a b g ua ub (mixI_inj _ _ (plus_U64 _ _) (plus_U64 _ _) h))
    have hy : (a == b) = false := by rw [beq_eq_false_iff_ne]; exact hab
    clear hab ua ub ug
    go_enter Try.func3, Try.ntmps3
    go_wp2_with fail
    refine (known_any _).mono ?_
    rintro e w1 ⟨rfl, hb1⟩
    have hz1 : w.heap.size < w1.heap.size := by have := hb1.size; simp at this; omega
    have s0 : w1.cell? ⟨w.heap.size, 0, none⟩ = some (.int .u64 a) := by rw [hb1.cell (by simp)]; simp
    have s1 : w1.cell? ⟨w.heap.size, 1, none⟩ = some (.int .u64 g) := by rw [hb1.cell (by simp)]; simp
    go_wp2_with fail
    refine (next_any _ _ _).mono ?_
    rintro e w2 ⟨rfl, hb2⟩
    have hz2 : w.heap.size < w2.heap.size := by have := hb2.size; omega
    have r0 := (hb2.cell (p := ⟨w.heap.size, 0, none⟩) hz1).trans s0
    have r1 := (hb2.cell (p := ⟨w.heap.size, 1, none⟩) hz1).trans s1
    go_wp2_with fail
    refine (next_any _ _ _).mono ?_
    rintro e w3 ⟨rfl, hb3'⟩
    have hb3 := after hb3'
    clear hb3'
    have hz3 : w.heap.size < w3.heap.size := by have := hb3.size; omega
    have t0 := (hb3.cell (p := ⟨w.heap.size, 0, none⟩) hz2).trans r0
    have t1 := (hb3.cell (p := ⟨w.heap.size, 1, none⟩) hz2).trans r1
    clear s0 s1 r0 r1
    go_wp2_with fail
    refine (split_any _ _ _).mono ?_
    rintro e w4 ⟨rfl, hb4'⟩
    have hb4 := after hb4'
    clear hb4'
    have hz4 : w.heap.size < w4.heap.size := by have := hb4.size; omega
    have m0 := (hb4.cell (p := ⟨w.heap.size, 0, none⟩) hz3).trans t0
    have m1 := (hb4.cell (p := ⟨w.heap.size, 1, none⟩) hz3).trans t1
    clear t0 t1
    have hQ := mixI_U64 (plus a g)
    have hO := odd_odd (mixI (plus (plus a g) g)) (mixI_U64 _)
    have hne := fun j (h1 : 1 ≤ j) (h2 : j ≤ 20) => stepped_ne _ _ hQ hO.2 hO.1 j h1 (by omega)
    have hp : (odd (mixI (plus (plus a g) g))).tmod 2 = 1 := by rw [Int.tmod_eq_emod_of_nonneg hO.2.1]; exact hO.1
    have Hne := Lib.hid hne
    clear hne hQ hO
    generalize odd (mixI (plus (plus a g) g)) = G at *
    generalize hq : mixI (plus a g) = Q at *
    clear hq
    go_wp2_with fail
    clear hp
    go_loopw [15] (fun i wr => ∃ j : Nat, j ≤ 20 ∧ i = .int .i64 j ∧ InT (w4.heap.size + 1 + 1) (stepped Q G j) G wr ∧ wr.cell? ⟨w4.heap.size + 1, 0, none⟩ = some (.int .u64 Q) ∧ Below w4.heap.size w4 wr) (fun i _ => (20 - intOf i).toNat)
    case atStart => exact ⟨0, by omega, rfl, InT.fresh _ _ (by simp), ((InT.fresh _ _ (by simp)).alloc _).c0, (((Below.refl _ _).alloc (Nat.le_refl _) _).alloc (by simp) _).alloc (by simp; omega) _⟩
    case round =>
      obtain ⟨j, hj, rfl, ⟨c0, c1, f0, f1, lt⟩, cq, hb⟩ := hrel
      by_cases hlt : (j : Int) < k ∧ (j : Int) < 20
      · obtain ⟨l1, l2⟩ := hlt
        go_wp2_with fail
        refine (next_any _ _ _).mono ?_
        rintro e w5 ⟨rfl, hb5⟩
        have hz5 : w4.heap.size + 1 + 1 < w5.heap.size := by have := hb5.size; omega
        have hz5' : w4.heap.size + 1 < w5.heap.size := by omega
        obtain ⟨d0, d1, g0, g1, lt5⟩ := InT.below ⟨c0, c1, f0, f1, lt⟩ hb5
        have T5 := InT.set ⟨d0, d1, g0, g1, lt5⟩ (plus (stepped Q G j) G) G (.cells #[.int .u64 (plus (stepped Q G j) G), .int .u64 G] 24)
        have q5 := (hb5.cell (p := ⟨w4.heap.size + 1, 0, none⟩) (by show w4.heap.size + 1 < _; omega)).trans cq
        have q6 := Q6 (x := .int .u64 (plus (stepped Q G j) G)) (y := .int .u64 G) (o := .cells #[.int .u64 (plus (stepped Q G j) G), .int .u64 G] 24) q5
        have t6 := T5.c0
        have T6 := Lib.hid T5
        clear T5
        have ht : (plus (stepped Q G j) G == Q) = false := by rw [beq_eq_false_iff_ne]; exact Hne.out (j + 1) (by omega) (by omega)
        go_wp2
        go_roundw
        case rel => exact ⟨j + 1, by omega, by go_num, T6.out, q6, Below.alloc (((hb.trans (hb5.mono (by omega))).setCell (by simp; omega) _).setCell (by simp; omega) _) (by simp; omega) _⟩
        case measure => simp [intOf]; omega
      · by_cases l1 : (j : Int) < k
        · have l2 : ¬ (j : Int) < 20 := by omega
          clear hlt
          go_wp2
          go_ret
          exact ⟨rfl, on (on (on (on (after hb1) hb2) hb3) hb4) hb⟩
        · clear hlt
          go_wp2
          go_ret
          exact ⟨rfl, on (on (on (on (after hb1) hb2) hb3) hb4) hb⟩

theorem own : ownKnob Try.prog.godebug = none := by kernel_rfl
theorem laidOut : laidOutB Try.prog = true := by kernel_rfl

set_option maxRecDepth 100000 in
theorem lifted (os : Os) (started : os.Started) (H : Type) (enc : TypeId × Value → H) :
    ReturnsInHanded {} Try.checked os 3 .any (Rows.rngApartSpec.pre6 enc Try.prog Try.f3 Rows.rngApartRow.domain false) (Rows.rngApartSpec.post enc Try.prog Try.f3 false true false false) := by
  refine returnsInHanded_of_change (C := Try.checked) own started (by kernel_rfl) Try.func3
    (ChangeSpec.witness6 (enc := enc) (C := Try.checked) false ⟨#[], #[.agg #[.int .u64 0, .int .u64 0], .int .u64 0, .int .i64 0], []⟩ 8 (by kernel_rfl) (by kernel_rfl) (by kernel_rfl) (by kernel_rfl)) ?_
  intro W base args ds gs before hval0 hW hcnd _
  have hval : ∀ (j : Nat) t v, Try.f3.params[j]? = some t → args[j]? = some v → Value.okWide Try.prog W .any base t v := hval0
  have hW' := hW
  obtain ⟨p, q, hA0, hV, rfl, hfz, hnd⟩ := hW
  have hA : DataW.TrodAll enc Try.prog W 0 (fun _ => true) true Try.f3.params.toList args.toList ds p := hA0
  rw [Try.params3] at hA hval
  obtain ⟨v0, vs0, d0, ds0, p0, q0, hargs, rfl, rfl, h0, r0⟩ := trodAll_cons hA
  obtain ⟨v1, vs1, d1, ds1, p1, q1, rfl, rfl, rfl, h1, r1⟩ := trodAll_cons r0
  obtain ⟨v2, vs2, d2, ds2, p2, q2, rfl, rfl, rfl, h2, r2⟩ := trodAll_cons r1
  obtain ⟨rfl, rfl, rfl⟩ := trodAll_nil r2
  obtain rfl : args = #[v0, v1, v2] := by cases args; simp_all
  obtain ⟨rfl, rfl⟩ := trodVars_none hV
  have k0 := h0
  have lt0 : ∀ x ∈ p0, x.block < W.heap.size := by obtain ⟨m, hm⟩ := k0; exact DataW.trod_lt m _ _ _ hm
  obtain ⟨a0, g0, rfl, ua0, ug0⟩ := open_seed (hval 0 24 v0 rfl rfl) h0
  obtain ⟨a1, rfl, rfl, rfl, w1⟩ := open_int Try.underlying22 (hval 1 22 v1 rfl rfl) h1
  obtain ⟨a2, rfl, rfl, rfl, w2⟩ := open_int Try.underlying3 (hval 2 3 v2 rfl rfl) h2
  clear hA0 hval0
  refine (walk a0 g0 a1 a2 ua0 ug0 w1 w2 W).mono fun e W' ⟨he, bel⟩ => ?_
  subst he
  exact ⟨_, rfl, _, _, _, [], _, [], hW', trodAll_mk1 (shut_bool Try.underlying4 _), (trodAll_cons_mk (Below.trod laidOut (by kernel_rfl) (of_decide_eq_true (by kernel_rfl)) k0 bel lt0) (trodAll_cons_mk (shut_int Try.underlying22 w1) (trodAll_cons_mk (shut_int Try.underlying3 w2) trodAll_mk0))), rfl, bel.frame _, fun h => by cases h⟩

/-- The statement. -/
theorem proved : Rows.RngApartSaid :=
  OpenClaim.holds_of_wide 3 Try.f3 rfl rfl rfl rfl rfl rfl rfl ⟨rfl, rfl, rfl, rfl, rfl⟩ rfl rfl rfl rfl rfl (by kernel_rfl) Try.func3 (by kernel_rfl)
    (of_decide_eq_true (by kernel_rfl)) (by unfold Func.isWrapper; first | (rw [if_pos (by decide +kernel)]; kernel_rfl) | (rw [if_neg (by decide +kernel)]; exact ⟨rfl, rfl⟩))
    (fun os started H enc _ => lifted os started H enc)
#print axioms proved
end Go.Proofs.Ytcadclpmpfoalaa.ApartLaw
