/- CondTests: the walk. Conditions: the size. -/
import Derived.Test.YtdmoigompmeacaaCondW
import Derived.Test.YtdmoigompmeacaaLessPlace
import Derived.BigQuiet
namespace Go.Proofs.Ytdmoigompmeacaa.CondTestsLaw
open Go.RowKit Ints Lists Vals Bools Cnd Dd
set_option linter.unusedVariables false

theorem bel_drewN (w : World) (n B : Nat) : Below B w (w.drewN n) := ⟨rfl, rfl, rfl, Nat.le_refl _, fun _ _ => rfl⟩

set_option maxHeartbeats 4000000 in
set_option maxRecDepth 100000 in
theorem walk (n : Int) (l : List Bool) (A : Option Addr) (c : Nat) (hl : l.length ≤ 1048576) (w : World) (wn : (Lit.int .i64 n).wf = true) (hA : AtB w w.heap.size A l) :
    Calls Try.prog 3 #[.int .i64 n, .slice A l.length c] w fun e w' => e = .returned (.bool true) ∧ Below w.heap.size w w' := by
  have HA := Lib.hid (fun (W : World) (hb : Below w.heap.size w W) => show AtB W W.heap.size A l from (hA.below hb).more hb.size)
  have DC := Lib.hid decided_prog
  have TS := Lib.hid (fun (W : World) (hb : Below w.heap.size w W) => show Calls Try.prog 7 #[.int .i64 n, .slice A l.length c] W fun e w' => ∃ (A : Option Addr) (c : Nat), e = .returned (.tuple #[.slice A (tesV n l).length c, errOf (condE n l)]) ∧ Own w' W.heap.size A c (tesV n l) ∧ Below W.heap.size W w' from tests_prog n A c l W (by omega) (HA.out W hb))
  have CV := Lib.hid (fun (ts : List Int) (hts : ts.length ≤ 4294967296) (A2 : Option Addr) (c2 : Nat) (W : World) (hb : Below w.heap.size w W) (h2 : At W W.heap.size A2 ts) => show Calls Try.prog 8 #[.int .i64 n, .slice A l.length c, .slice A2 ts.length c2] W fun e w' => e = .returned (.tuple #[.bool (covV n l ts), errOf (covE n l ts)]) ∧ Below W.heap.size W w' from covers_prog n A c l A2 c2 ts W (by omega) hts (HA.out W hb) h2)
  have TF := Lib.hid (t_facts (n := n) (l := l))
  have TN := Lib.hid (tesV_no (n := n) (l := l))
  have CO := Lib.hid (cond_in (n := n) (l := l))
  clear wn hA
  go_enter Try.func3, Try.ntmps3
  go_wp2_with fail
  refine (DC.out w).mono ?_
  rintro e w1 ⟨rfl, hb1⟩
  have B1 := Lib.hid hb1
  have T1 := Lib.hid (TS.out w1 hb1)
  clear hb1 DC TS
  go_wp2_with fail
  ((with_reducible refine T1.out.mono ?_))
  rintro e w2 ⟨A2, c2, rfl, ho2, hb2⟩
  have O2 := Lib.hid ho2
  have B2 := Lib.hid (below_trans B1.out hb2)
  clear ho2 hb2 T1 B1
  generalize tesV n l = z at *
  by_cases hq : condE n l = 0
  · have F := TF.out hq
    obtain ⟨nb1, nb2, _⟩ := CO.out hq
    have hz := F.len
    have z12 : z.length ≤ 12 := by omega
    have V2 := CV.out z (by omega) A2 c2 w2 B2.out O2.out.at_
    rw [F.err, F.is, errOf_ok] at V2
    have V2 := Lib.hid V2
    have FL := Lib.hid F.less
    have FR := Lib.hid F.rise
    rw [hq, errOf_ok]
    clear TF TN CO hq F
    go_wp2_with fail
    ((with_reducible refine V2.out.mono ?_))
    rintro e w3 ⟨rfl, hb3⟩
    have O3 := Lib.hid (O2.out.below hb3)
    have B3 := Lib.hid (below_trans B2.out hb3)
    clear hb3 V2 O2 B2
    have zi : (z.length : Int) ≤ 12 := by omega
    have z2n : ¬ (2 * n < (z.length : Int)) := by omega
    go_wp2_with fail
    clear z2n hz
    go_loopw [10] (fun iv wr => ∃ k : Nat, k ≤ z.length ∧ iv = .int .i64 k ∧ Hid (Below w.heap.size w wr) ∧ Hid (Own wr w1.heap.size A2 c2 z)) (fun iv _ => z.length - (intOf iv).toNat)
    case atStart => exact ⟨0, Nat.zero_le _, rfl, B3.out, O3.out⟩
    case round =>
      clear B3 O3
      obtain ⟨k, hk, rfl, hb, ho⟩ := hrel
      by_cases hlt : k < z.length
      · have hki : (k : Int) < z.length := by omega
        have LP := Lib.hid (place_ok (lc := c2) wr ho.out.at_ (Nat.le_refl _) (by omega) ho.out.cap_ k hlt)
        have FE := Lib.hid (FL.out k hlt)
        have EL := Lib.hid (show (z.eraseIdx k).length ≤ 4294967296 by rw [List.length_eraseIdx]; split <;> omega)
        have CE := Lib.hid (CV.out (z.eraseIdx k) EL.out)
        rw [FE.out.1, FE.out.2, errOf_ok] at CE
        clear FE EL
        generalize z.eraseIdx k = ze at *
        go_wp2_with fail
        ((with_reducible refine LP.out.mono ?_))
        rintro e w4 ⟨A4, c4, rfl, ho4, hb4⟩
        have B4 := Lib.hid (below_trans hb.out hb4)
        have O4 := Lib.hid (ho.out.below hb4)
        have C4 := Lib.hid (CE.out A4 c4 w4 B4.out ho4.at_)
        clear ho4 hb4 LP CE hb ho
        go_wp2_with fail
        ((with_reducible refine C4.out.mono ?_))
        rintro e w5 ⟨rfl, hb5⟩
        have B5 := Lib.hid (below_trans B4.out hb5)
        have O5 := Lib.hid (O4.out.below hb5)
        clear hb5 C4 B4 O4
        obtain ⟨b, off, rfl, _, hcell⟩ := O5.out.at_ (by omega)
        have c1 := hcell k hlt
        by_cases h0 : k = 0
        · subst h0
          have c1 : w5.cell? ⟨b, off, none⟩ = some (.int .i64 (z.getD 0 0)) := c1
          clear hcell
          generalize z.getD 0 0 = v at *
          go_wp2_with fail
          go_quiet (fail)
          go_wp2_with fail
          go_roundw
          case rel => exact ⟨1, by omega, by go_num, B5.out.trans (bel_drewN w5 _ _), O5.out.below (below_drewN w5 _)⟩
          case measure => simp [intOf]; omega
        · have hrz := FR.out k (by omega) hlt
          have c0 : w5.cell? ⟨b, off + (k - 1), none⟩ = some (.int .i64 (z.getD (k - 1) 0)) := hcell (k - 1) (by omega)
          have hkm2 : (((k : Int) - 1).toNat) = k - 1 := by omega
          clear hcell
          generalize z.getD k 0 = v at *
          generalize z.getD (k - 1) 0 = u at *
          have d3 : decide (v ≤ u) = false := decide_eq_false (by omega)
          have d4 : decide ((0 : Int) < k) = true := decide_eq_true (by omega)
          have hk0 : 0 < k := by omega
          have d5 : decide (0 < k) = true := decide_eq_true hk0
          have i1 : IntKind.i64.wrap ((k : Int) - 1) = (k : Int) - 1 := IntWalk.i64_in _ (by omega)
          go_wp2_with fail
          go_quiet (fail)
          go_wp2_with fail
          go_roundw
          case rel => exact ⟨k + 1, by omega, by go_num, B5.out.trans (bel_drewN w5 _ _), O5.out.below (below_drewN w5 _)⟩
          case measure => simp [intOf]; omega
      · go_wp2_with fail
        go_ret
        exact ⟨rfl, hb.out⟩
  · have hz := TN.out hq
    subst hz
    rw [errOf_no hq]
    clear TF TN CO
    go_wp2_with fail
    go_ret
    exact ⟨rfl, B2.out⟩
end Go.Proofs.Ytdmoigompmeacaa.CondTestsLaw
