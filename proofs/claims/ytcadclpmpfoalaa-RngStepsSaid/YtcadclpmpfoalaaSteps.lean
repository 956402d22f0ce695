/-
  RngSteps: for every seed and any number: behind so many steps (30 at most, none for a number below 0) the State is more by so many Gammas, modulo 2^64, and the next number is that of the later seed.
  Conditions: none.
-/
import Derived.Test.YtcadclpmpfoalaaMem
import Derived.WalkLawsBesides
namespace Go.Proofs.Ytcadclpmpfoalaa.StepsLaw
open Go.ChangeShapes Go.WideShapes Go.ChangeAt Go.RowKit Rng
set_option linter.unusedVariables false

theorem stepped_at (a g : Int) (ua : U64 a) (k : Nat) (n : Int) (h : (k : Int) = n) : IntKind.u64.wrap (a + IntKind.u64.wrap (n * g)) = stepped a g k := by
  subst h
  rw [stepped_eq a g ua k, IntKind.wrap_u64, IntKind.wrap_u64]
  omega

theorem stepped_at0 (a g : Int) (ua : U64 a) (k : Nat) (h : (k : Int) = 0) : IntKind.u64.wrap a = stepped a g k := by
  have := stepped_at a g ua k 0 h
  rw [← this, IntKind.wrap_u64, IntKind.wrap_u64, IntKind.wrap_u64]
  simp

theorem walk (a g n : Int) (ua : U64 a) (ug : U64 g) (wn : (Lit.int .i64 n).wf = true) (w : World) :
    Calls Try.prog 5 #[.agg #[.int .u64 a, .int .u64 g], .int .i64 n] w fun e w' => e = .returned (.bool true) ∧ Below w.heap.size w w' := by
  clear ug wn
  by_cases h30 : 30 < n
  · have k0 : (0 : Int) ≤ 30 := by omega
    go_enter Try.func5, Try.ntmps5
    go_wp2_with fail
    refine (new_any _ _).mono ?_
    rintro e w1 ⟨rfl, hb1⟩
    obtain ⟨hc1, hf1⟩ := bcell hb1
    have hz1 : w.heap.size < w1.heap.size := by have := hb1.size; simp at this; omega
    go_wp2_with fail
    refine (next_any _ _ _).mono ?_
    rintro e w2 ⟨rfl, hb2⟩
    obtain ⟨hc2, hf2⟩ := bcell hb2
    have hz2 : w.heap.size < w2.heap.size := by have := hb2.size; omega
    go_wp2_with fail
    clear hc1 hf1
    have e0 : w2.cell? ⟨w.heap.size, 0, none⟩ = some (.int .u64 a) := by rw [hb2.cell hz1, hb1.cell (by simp)]; simp
    have e1 : w2.cell? ⟨w.heap.size, 1, none⟩ = some (.int .u64 g) := by rw [hb2.cell hz1, hb1.cell (by simp)]; simp
    clear hc2 hf2
    go_loopw [9] (fun i wr => ∃ k : Nat, (k : Int) ≤ 30 ∧ i = .int .i64 k ∧ InT (w2.heap.size + 1) (stepped a g k) g wr ∧ Below w2.heap.size w2 wr) (fun i _ => (30 - intOf i).toNat)
    case atStart => exact ⟨0, by omega, rfl, ⟨by simp [stepped], by simp, by simp, by simp, by simp⟩, ((Below.refl _ _).alloc (Nat.le_refl _) _).alloc (by simp) _⟩
    case round =>
      obtain ⟨k, hk, rfl, ⟨c0, c1, f0, f1, lt⟩, hb⟩ := hrel
      by_cases hlt : (k : Int) < 30
      · go_wp2_with fail
        refine (next_any _ _ _).mono ?_
        rintro e w3 ⟨rfl, hb3⟩
        have hz3 : w2.heap.size + 1 < w3.heap.size := by have := hb3.size; omega
        obtain ⟨d0, d1, g0, g1, lt3⟩ := InT.below ⟨c0, c1, f0, f1, lt⟩ hb3
        go_wp2
        go_roundw
        case rel => exact ⟨k + 1, by omega, by go_num, InT.set ⟨d0, d1, g0, g1, lt3⟩ _ _ _, Below.alloc (((hb.trans (hb3.mono (by omega))).setCell (by simp) _).setCell (by simp) _) (by simp; omega) _⟩
        case measure => simp [intOf]; omega
      · have h30 : (k : Int) = 30 := by omega
        go_wp2_with fail
        refine (next_any _ _ _).mono ?_
        rintro e w3 ⟨rfl, hb3⟩
        have hz3 : w2.heap.size + 1 < w3.heap.size := by have := hb3.size; omega
        have T3 := InT.below ⟨c0, c1, f0, f1, lt⟩ hb3
        obtain ⟨d0, d1, g0, g1, lt3⟩ := T3
        have s0 := ((hb3.cell (p := ⟨w.heap.size, 0, none⟩) (by show w.heap.size < _; omega)).trans (hb.cell (p := ⟨w.heap.size, 0, none⟩) hz2)).trans e0
        have s1 := ((hb3.cell (p := ⟨w.heap.size, 1, none⟩) (by show w.heap.size < _; omega)).trans (hb.cell (p := ⟨w.heap.size, 1, none⟩) hz2)).trans e1
        have hs3 : w.heap.size < w3.heap.size := by omega
        have hE : IntKind.u64.wrap (a + IntKind.u64.wrap (30 * g)) = stepped a g k := stepped_at a g ua k 30 h30
        have hB : (stepped a g k == IntKind.u64.wrap (a + IntKind.u64.wrap (30 * g))) = true := by rw [hE]; simp
        have hM : (mixI (plus (u64of 0) gold) != 0) = true := by decide +kernel
        clear h30
        have HE := Lib.hid hE
        clear hE
        go_wp2_with fail
        rw [HE.out]
        refine (next_any _ _ _).mono ?_
        rintro e w4 ⟨rfl, hb4⟩
        have hz4 : w3.heap.size < w4.heap.size := by have := hb4.size; simp at this; omega
        have hs4 : w.heap.size < w4.heap.size := by omega
        have hT4 : w2.heap.size + 1 < w4.heap.size := by omega
        have hw4 : Below w3.heap.size w3 w4 := Below.trans ((Below.refl _ _).alloc (Nat.le_refl _) _) (hb4.mono (by simp))
        obtain ⟨x0, x1, _, _, _⟩ := InT.below ⟨d0, d1, g0, g1, lt3⟩ hw4
        have y0 := (hw4.cell (p := ⟨w.heap.size, 0, none⟩) hs3).trans s0
        have y1 := (hw4.cell (p := ⟨w.heap.size, 1, none⟩) hs3).trans s1
        go_wp2_with fail
        go_ret
        exact ⟨rfl, Below.alloc (on (on (on (after hb1) hb2) (on hb hb3)) hw4) (by omega) _⟩
  · by_cases h0 : n ≤ 0
    · have k0 : (0 : Int) ≤ 0 := by omega
      go_enter Try.func5, Try.ntmps5
      go_wp2_with fail
      refine (new_any _ _).mono ?_
      rintro e w1 ⟨rfl, hb1⟩
      obtain ⟨hc1, hf1⟩ := bcell hb1
      have hz1 : w.heap.size < w1.heap.size := by have := hb1.size; simp at this; omega
      go_wp2_with fail
      refine (next_any _ _ _).mono ?_
      rintro e w2 ⟨rfl, hb2⟩
      obtain ⟨hc2, hf2⟩ := bcell hb2
      have hz2 : w.heap.size < w2.heap.size := by have := hb2.size; omega
      go_wp2_with fail
      clear hc1 hf1
      have e0 : w2.cell? ⟨w.heap.size, 0, none⟩ = some (.int .u64 a) := by rw [hb2.cell hz1, hb1.cell (by simp)]; simp
      have e1 : w2.cell? ⟨w.heap.size, 1, none⟩ = some (.int .u64 g) := by rw [hb2.cell hz1, hb1.cell (by simp)]; simp
      clear hc2 hf2
      go_loopw [9] (fun i wr => ∃ k : Nat, (k : Int) ≤ 0 ∧ i = .int .i64 k ∧ InT (w2.heap.size + 1) (stepped a g k) g wr ∧ Below w2.heap.size w2 wr) (fun i _ => (30 - intOf i).toNat)
      case atStart => exact ⟨0, by omega, rfl, ⟨by simp [stepped], by simp, by simp, by simp, by simp⟩, ((Below.refl _ _).alloc (Nat.le_refl _) _).alloc (by simp) _⟩
      case round =>
        obtain ⟨k, hk, rfl, ⟨c0, c1, f0, f1, lt⟩, hb⟩ := hrel
        by_cases hlt : (k : Int) < 0
        · exact absurd hlt (by omega)
        · have h0 : (k : Int) = 0 := by omega
          go_wp2_with fail
          refine (next_any _ _ _).mono ?_
          rintro e w3 ⟨rfl, hb3⟩
          have hz3 : w2.heap.size + 1 < w3.heap.size := by have := hb3.size; omega
          have T3 := InT.below ⟨c0, c1, f0, f1, lt⟩ hb3
          obtain ⟨d0, d1, g0, g1, lt3⟩ := T3
          have s0 := ((hb3.cell (p := ⟨w.heap.size, 0, none⟩) (by show w.heap.size < _; omega)).trans (hb.cell (p := ⟨w.heap.size, 0, none⟩) hz2)).trans e0
          have s1 := ((hb3.cell (p := ⟨w.heap.size, 1, none⟩) (by show w.heap.size < _; omega)).trans (hb.cell (p := ⟨w.heap.size, 1, none⟩) hz2)).trans e1
          have hs3 : w.heap.size < w3.heap.size := by omega
          have hE : IntKind.u64.wrap a = stepped a g k := stepped_at0 a g ua k h0
          have hB : (stepped a g k == IntKind.u64.wrap a) = true := by rw [hE]; simp
          have hM : (mixI (plus (u64of 0) gold) != 0) = true := by decide +kernel
          clear h0
          have HE := Lib.hid hE
          clear hE
          go_wp2_with fail
          rw [HE.out]
          refine (next_any _ _ _).mono ?_
          rintro e w4 ⟨rfl, hb4⟩
          have hz4 : w3.heap.size < w4.heap.size := by have := hb4.size; simp at this; omega
          have hs4 : w.heap.size < w4.heap.size := by omega
          have hT4 : w2.heap.size + 1 < w4.heap.size := by omega
          have hw4 : Below w3.heap.size w3 w4 := Below.trans ((Below.refl _ _).alloc (Nat.le_refl _) _) (hb4.mono (by simp))
          obtain ⟨x0, x1, _, _, _⟩ := InT.below ⟨d0, d1, g0, g1, lt3⟩ hw4
          have y0 := (hw4.cell (p := ⟨w.heap.size, 0, none⟩) hs3).trans s0
          have y1 := (hw4.cell (p := ⟨w.heap.size, 1, none⟩) hs3).trans s1
          go_wp2_with fail
          go_ret
          exact ⟨rfl, Below.alloc (on (on (on (after hb1) hb2) (on hb hb3)) hw4) (by omega) _⟩
    · have k0 : 0 < n := by omega
      have k1 : n ≤ 30 := by omega
      go_enter Try.func5, Try.ntmps5
      go_wp2_with fail
      refine (new_any _ _).mono ?_
      rintro e w1 ⟨rfl, hb1⟩
      obtain ⟨hc1, hf1⟩ := bcell hb1
      have hz1 : w.heap.size < w1.heap.size := by have := hb1.size; simp at this; omega
      go_wp2_with fail
      refine (next_any _ _ _).mono ?_
      rintro e w2 ⟨rfl, hb2⟩
      obtain ⟨hc2, hf2⟩ := bcell hb2
      have hz2 : w.heap.size < w2.heap.size := by have := hb2.size; omega
      go_wp2_with fail
      clear hc1 hf1
      have e0 : w2.cell? ⟨w.heap.size, 0, none⟩ = some (.int .u64 a) := by rw [hb2.cell hz1, hb1.cell (by simp)]; simp
      have e1 : w2.cell? ⟨w.heap.size, 1, none⟩ = some (.int .u64 g) := by rw [hb2.cell hz1, hb1.cell (by simp)]; simp
      clear hc2 hf2
      go_loopw [9] (fun i wr => ∃ k : Nat, (k : Int) ≤ n ∧ i = .int .i64 k ∧ InT (w2.heap.size + 1) (stepped a g k) g wr ∧ Below w2.heap.size w2 wr) (fun i _ => (30 - intOf i).toNat)
      case atStart => exact ⟨0, by omega, rfl, ⟨by simp [stepped], by simp, by simp, by simp, by simp⟩, ((Below.refl _ _).alloc (Nat.le_refl _) _).alloc (by simp) _⟩
      case round =>
        obtain ⟨k, hk, rfl, ⟨c0, c1, f0, f1, lt⟩, hb⟩ := hrel
        by_cases hlt : (k : Int) < n
        · go_wp2_with fail
          refine (next_any _ _ _).mono ?_
          rintro e w3 ⟨rfl, hb3⟩
          have hz3 : w2.heap.size + 1 < w3.heap.size := by have := hb3.size; omega
          obtain ⟨d0, d1, g0, g1, lt3⟩ := InT.below ⟨c0, c1, f0, f1, lt⟩ hb3
          go_wp2
          go_roundw
          case rel => exact ⟨k + 1, by omega, by go_num, InT.set ⟨d0, d1, g0, g1, lt3⟩ _ _ _, Below.alloc (((hb.trans (hb3.mono (by omega))).setCell (by simp) _).setCell (by simp) _) (by simp; omega) _⟩
          case measure => simp [intOf]; omega
        · have hn : (k : Int) = n := by omega
          go_wp2_with fail
          refine (next_any _ _ _).mono ?_
          rintro e w3 ⟨rfl, hb3⟩
          have hz3 : w2.heap.size + 1 < w3.heap.size := by have := hb3.size; omega
          have T3 := InT.below ⟨c0, c1, f0, f1, lt⟩ hb3
          obtain ⟨d0, d1, g0, g1, lt3⟩ := T3
          have s0 := ((hb3.cell (p := ⟨w.heap.size, 0, none⟩) (by show w.heap.size < _; omega)).trans (hb.cell (p := ⟨w.heap.size, 0, none⟩) hz2)).trans e0
          have s1 := ((hb3.cell (p := ⟨w.heap.size, 1, none⟩) (by show w.heap.size < _; omega)).trans (hb.cell (p := ⟨w.heap.size, 1, none⟩) hz2)).trans e1
          have hs3 : w.heap.size < w3.heap.size := by omega
          have hE : IntKind.u64.wrap (a + IntKind.u64.wrap (n * g)) = stepped a g k := stepped_at a g ua k n hn
          have hB : (stepped a g k == IntKind.u64.wrap (a + IntKind.u64.wrap (n * g))) = true := by rw [hE]; simp
          have hM : (mixI (plus (u64of 0) gold) != 0) = true := by decide +kernel
          clear hn
          have HE := Lib.hid hE
          clear hE
          go_wp2_with fail
          rw [HE.out]
          refine (next_any _ _ _).mono ?_
          rintro e w4 ⟨rfl, hb4⟩
          have hz4 : w3.heap.size < w4.heap.size := by have := hb4.size; simp at this; omega
          have hs4 : w.heap.size < w4.heap.size := by omega
          have hT4 : w2.heap.size + 1 < w4.heap.size := by omega
          have hw4 : Below w3.heap.size w3 w4 := Below.trans ((Below.refl _ _).alloc (Nat.le_refl _) _) (hb4.mono (by simp))
          obtain ⟨x0, x1, _, _, _⟩ := InT.below ⟨d0, d1, g0, g1, lt3⟩ hw4
          have y0 := (hw4.cell (p := ⟨w.heap.size, 0, none⟩) hs3).trans s0
          have y1 := (hw4.cell (p := ⟨w.heap.size, 1, none⟩) hs3).trans s1
          go_wp2_with fail
          go_ret
          exact ⟨rfl, Below.alloc (on (on (on (after hb1) hb2) (on hb hb3)) hw4) (by omega) _⟩

theorem own : ownKnob Try.prog.godebug = none := by kernel_rfl
theorem laidOut : laidOutB Try.prog = true := by kernel_rfl

set_option maxRecDepth 100000 in
theorem lifted (os : Os) (started : os.Started) (H : Type) (enc : TypeId × Value → H) :
    ReturnsInHanded {} Try.checked os 5 .any (Rows.rngStepsSpec.pre6 enc Try.prog Try.f5 Rows.rngStepsRow.domain false) (Rows.rngStepsSpec.post enc Try.prog Try.f5 false true false false) := by
  refine returnsInHanded_of_change (C := Try.checked) own started (by kernel_rfl) Try.func5
    (ChangeSpec.witness6 (enc := enc) (C := Try.checked) false ⟨#[], #[.agg #[.int .u64 0, .int .u64 0], .int .i64 0], []⟩ 8 (by kernel_rfl) (by kernel_rfl) (by kernel_rfl) (by kernel_rfl)) ?_
  intro W base args ds gs before hval0 hW hcnd _
  have hval : ∀ (j : Nat) t v, Try.f5.params[j]? = some t → args[j]? = some v → Value.okWide Try.prog W .any base t v := hval0
  have hW' := hW
  obtain ⟨p, q, hA0, hV, rfl, hfz, hnd⟩ := hW
  have hA : DataW.TrodAll enc Try.prog W 0 (fun _ => true) true Try.f5.params.toList args.toList ds p := hA0
  rw [Try.params5] at hA hval
  obtain ⟨v0, vs0, d0, ds0, p0, q0, hargs, rfl, rfl, h0, r0⟩ := trodAll_cons hA
  obtain ⟨v1, vs1, d1, ds1, p1, q1, rfl, rfl, rfl, h1, r1⟩ := trodAll_cons r0
  obtain ⟨rfl, rfl, rfl⟩ := trodAll_nil r1
  obtain rfl : args = #[v0, v1] := by cases args; simp_all
  obtain ⟨rfl, rfl⟩ := trodVars_none hV
  have k0 := h0
  have lt0 : ∀ x ∈ p0, x.block < W.heap.size := by obtain ⟨m, hm⟩ := k0; exact DataW.trod_lt m _ _ _ hm
  obtain ⟨a0, g0, rfl, ua0, ug0⟩ := open_seed (hval 0 24 v0 rfl rfl) h0
  obtain ⟨a1, rfl, rfl, rfl, w1⟩ := open_int Try.underlying3 (hval 1 3 v1 rfl rfl) h1
  clear hA0 hval0
  refine (walk a0 g0 a1 ua0 ug0 w1 W).mono fun e W' ⟨he, bel⟩ => ?_
  subst he
  exact ⟨_, rfl, _, _, _, [], _, [], hW', trodAll_mk1 (shut_bool Try.underlying4 _), (trodAll_cons_mk (Below.trod laidOut (by kernel_rfl) (of_decide_eq_true (by kernel_rfl)) k0 bel lt0) (trodAll_cons_mk (shut_int Try.underlying3 w1) trodAll_mk0)), rfl, bel.frame _, fun h => by cases h⟩

/-- The statement. -/
theorem proved : Rows.RngStepsSaid :=
  OpenClaim.holds_of_wide 5 Try.f5 rfl rfl rfl rfl rfl rfl rfl ⟨rfl, rfl, rfl, rfl, rfl⟩ rfl rfl rfl rfl rfl (by kernel_rfl) Try.func5 (by kernel_rfl)
    (of_decide_eq_true (by kernel_rfl)) (by unfold Func.isWrapper; first | (rw [if_pos (by decide +kernel)]; kernel_rfl) | (rw [if_neg (by decide +kernel)]; exact ⟨rfl, rfl⟩))
    (fun os started H enc _ => lifted os started H enc)
#print axioms proved
end Go.Proofs.Ytcadclpmpfoalaa.StepsLaw
