/- The program's isTrue and First (package bisect). Conditions: none. -/
import Derived.Test.YtcgbombilgacjaaBisC
import Derived.Defers
import Derived.Recover
import Derived.Lib.Builder
namespace Go.Proofs.Ytcgbombilgacjaa.Bis
open Go.RowKit Vals Gens
set_option linter.unusedVariables false

/-- the box of isTrue's result -/
def YB (p : Nat) (x : Bool) (w : World) : Prop := w.heap[p]? = some (.cells #[.bool x] 4 (0, 0))
theorem YB.cell {p : Nat} {x : Bool} {w : World} (h : YB p x w) : w.cell? ⟨p, 0, none⟩ = some (.bool x) := by rw [Lib.cell_of_heap h]; rfl
theorem YB.free {p : Nat} {x : Bool} {w : World} (h : YB p x w) : w.frozen? ⟨p, 0, none⟩ = false := Lib.frozen_of_heap h 0
theorem YB.lt {p : Nat} {x : Bool} {w : World} (h : YB p x w) : p < w.heap.size := (Array.getElem?_eq_some_iff.1 h).1
theorem YB.put {p : Nat} {x : Bool} {w : World} (h : YB p x w) (y : Bool) : YB p y (w.setCell ⟨p, 0, none⟩ (.bool y)) := by
  unfold YB at h ⊢
  simp [World.setCell, Array.getElem?_modify, h]
theorem bsl (p v : Value) : #[p] ++ ((Array.replicate 2 undef).setIfInBounds 1 v).setIfInBounds 0 v = #[p, v, v] := rfl
set_option maxHeartbeats 1000000 in
theorem bcatch_idle (p : Addr) (w : World) :
    CallsD Try.prog 13 #[.pointer (some p)] .returning w fun e u' w' => e = .returned (.tuple #[]) ∧ u' = .returning ∧ w' = w := by
  refine callsD_of_wpS Try.func13 rfl fun c₀ cs hu => ?_
  apply wpS_seq
  apply wpS_region
  simp [wpOpsS, go_sem, recoverD, hu, Try.ntmps13, Exit.thenS]
  refine wpS_of_wp ?_
  have HU := Lib.hid hu
  clear hu
  go_wp2_with fail
  cases c₀
  have HU := HU.out
  simp_all [bodyPostS, results, Try.results13]

set_option maxHeartbeats 2000000 in
set_option maxRecDepth 100000 in
theorem istrue_ok {k B j : Nat} {cap : Array Value} {n : Int} {P : Int → Bool} {X : Nat → Prop} {I : Nat → World → Prop} (w : World) (x : Int) (F : BadF k cap B n P X I) (hI : I j w) (hB : B ≤ w.heap.size) (h0 : 0 ≤ x) (h1 : x < n) (hj : j ≤ 100) :
    Calls Try.prog 12 #[bfv k cap, .int .i64 x] w fun e w' => e = .returned (.bool (P x)) ∧ I (j + 1) w' ∧ Mv X w w' X := by
  have b0 : Below w.heap.size w (w.alloc (.cells #[.bool false] 4)) := (Below.refl _ _).alloc (Nat.le_refl _) _
  have T0 : YB w.heap.size false (w.alloc (.cells #[.bool false] 4)) := bis_new w _
  have T0 := Lib.hid T0
  have M0 := Lib.hid (mv_of (X := X) b0)
  have C1 := Lib.hid (F.call j _ x h0 h1 hj (F.keep j _ _ hI (b0.mono hB)))
  have hent := F.ent
  have LT := Lib.hid (fun b h => Nat.lt_of_lt_of_le (F.lt b h) hB)
  have KP := Lib.hid (fun w' w'' h hb => F.keep (j + 1) w' w'' h (Below.mono hb hB))
  clear hI F b0 h0 h1 hj
  have hmf : ∀ (fn : Fn) (first cap : Array Value) (w : World), (Instr.makeFunc fn first cap).run Try.prog w = .ok (.func fn first cap) w := fun _ _ _ _ => rfl
  go_enter_defers Try.func12, Try.ntmps12
  go_wp2_with fail
  generalize w.alloc (.cells #[.bool false] 4) = W at *
  ((with_reducible refine C1.out.mono ?_))
  rintro e w2 ⟨rfl, hI, hm⟩
  have T2 := Lib.hid (show YB w.heap.size false w2 from (hm.block _ T0.out.lt (fun h => Nat.lt_irrefl _ (LT.out _ h))).trans T0.out)
  have M2 := Lib.hid (mv_trans M0.out hm)
  have I2 := Lib.hid hI
  have c0 := T2.out.cell
  have f0 := T2.out.free
  clear hI hm C1 M0
  go_wp2_with fail
  have T3 := T2.out.put (P x)
  have b3 : Below w.heap.size w2 (w2.setCell ⟨w.heap.size, 0, none⟩ (.bool (P x))) := Below.setCell (p := ⟨w.heap.size, 0, none⟩) (Below.refl _ _) (Nat.le_refl _) (.bool (P x))
  have I3 := Lib.hid (KP.out _ _ I2.out b3)
  have M3 := Lib.hid (show Mv X w (w2.setCell ⟨w.heap.size, 0, none⟩ (.bool (P x))) X from ⟨b3.os.trans M2.out.os, b3.tape.trans M2.out.tape, b3.output.trans M2.out.output, Nat.le_trans M2.out.size b3.size, fun b hb hx => (b3.block b hb).trans (M2.out.block b hb hx), M2.out.new⟩)
  clear c0 f0 b3
  generalize w2.setCell ⟨w.heap.size, 0, none⟩ (.bool (P x)) = W9 at T3 I3 M3 ⊢
  refine leaves_cons (f := 13) (args := #[.pointer (some ⟨w.heap.size, 0, none⟩)]) (by simp) (by simp [go_sem]) ?_
  refine (bcatch_idle ⟨w.heap.size, 0, none⟩ W9).mono ?_
  rintro e u' w3 ⟨rfl, rfl, rfl⟩
  have e2 := T3.cell
  refine ⟨.bool (P x), by simp [results, Try.results12, go_sem, e2], ?_⟩
  exact ⟨rfl, I3.out, M3.out⟩

set_option maxHeartbeats 4000000 in
set_option maxRecDepth 100000 in
theorem first_prog {k B : Nat} {cap : Array Value} {n : Int} {P : Int → Bool} {X : Nat → Prop} {I : Nat → World → Prop} (w : World) (F : BadF k cap B n P X I) (hI : I 0 w) (hB : B ≤ w.heap.size) :
    Calls Try.prog 5 #[.int .i64 n, bfv k cap] w (FiPost P n X I w) := by
  by_cases hr : 0 ≤ n ∧ n ≤ 1073741824
  · have hn0 := hr.1
    have hn1 := hr.2
    have HR := Lib.hid hr
    have FF := Lib.hid F
    have IZ := Lib.hid hI
    have MZ := Lib.hid (mv_of (X := X) (Below.refl w.heap.size w))
    clear hr F hI
    go_enter Try.func5, Try.ntmps5
    go_wp2_with fail
    go_loopw [6, 7] (fun lv hv wr => ∃ (lo hi : Int) (j : Nat), lv = .int .i64 lo ∧ hv = .int .i64 hi ∧ Hid (Betw P n lo hi) ∧ Hid (I j wr) ∧ Hid (Mv X w wr X) ∧ Hid (j + bitsN (hi - lo).toNat ≤ bitsN n.toNat)) (fun lv hv _ => (intOf hv - intOf lv).toNat)
    case atStart => exact ⟨0, n, 0, rfl, rfl, Lib.hid (betw_start P hn0), IZ, MZ, Lib.hid (by simp)⟩
    case round =>
      obtain ⟨lo, hi, j, rfl, rfl, hb, hI, hm, hj⟩ := hrel
      have g0 := hb.out.le0
      have g1 := hb.out.le1
      have g2 := hb.out.le2
      have SZ := Lib.hid hm.out.size
      by_cases hlt : lo < hi
      · have e0 : IntKind.i64.wrap (hi - lo) = hi - lo := IntWalk.i64_in _ (by omega)
        have e1 : (hi - lo).tdiv 2 = (hi - lo) / 2 := Int.tdiv_eq_ediv_of_nonneg (by omega)
        have e2 : IntKind.i64.wrap ((hi - lo) / 2) = (hi - lo) / 2 := IntWalk.i64_in _ (by omega)
        have e3 : IntKind.i64.wrap (lo + (hi - lo) / 2) = lo + (hi - lo) / 2 := IntWalk.i64_in _ (by omega)
        have m0 : lo ≤ lo + (hi - lo) / 2 := by omega
        have m1 : lo + (hi - lo) / 2 < hi := by omega
        have JL := Lib.hid (show j ≤ 63 by have := bits_small (m := n.toNat) (by omega); have := hj.out; omega)
        have CT := Lib.hid (istrue_ok wr (lo + (hi - lo) / 2) FF.out hI.out (Nat.le_trans hB SZ.out) (by omega) (by omega) (by have := JL.out; omega))
        have HD := Lib.hid (fun (s : Nat) (hs : s ≤ (hi - lo).toNat / 2) => bits_half (m := (hi - lo).toNat) (k := s) (by omega) hs)
        have BL := Lib.hid (betw_low hb.out m0 m1)
        have BH := Lib.hid (betw_high hb.out m0 m1)
        have hz0 : (lo + (hi - lo) / 2 - lo).toNat ≤ (hi - lo).toNat / 2 := by omega
        have hz1 : (hi - (lo + (hi - lo) / 2 + 1)).toNat ≤ (hi - lo).toNat / 2 := by omega
        have hz2 : (lo + (hi - lo) / 2 - lo).toNat < (hi - lo).toNat := by omega
        have hz3 : (hi - (lo + (hi - lo) / 2 + 1)).toNat < (hi - lo).toNat := by omega
        have e4 : IntKind.i64.wrap (lo + (hi - lo) / 2 + 1) = lo + (hi - lo) / 2 + 1 := IntWalk.i64_in _ (by omega)
        have NN := Lib.hid hj.out
        generalize hmid : lo + (hi - lo) / 2 = m at *
        cases hP : P m with
        | true =>
          rw [hP] at CT
          have BX := Lib.hid (BH.out hP)
          clear BL BH
          go_wp2_with fail
          ((with_reducible refine CT.out.mono ?_))
          rintro e w3 ⟨rfl, hI3, hm3⟩
          have M3 := Lib.hid (mv_trans hm.out hm3)
          have I3 := Lib.hid hI3
          clear hI3 hm3 CT
          go_wp2_with fail
          go_roundw
          case rel => exact ⟨lo, m, j + 1, rfl, rfl, BX, I3, M3, Lib.hid (by have := HD.out _ hz0; have := NN.out; omega)⟩
          case measure => simpa [intOf] using hz2
        | false =>
          rw [hP] at CT
          have BX := Lib.hid (BL.out hP)
          clear BL BH
          go_wp2_with fail
          ((with_reducible refine CT.out.mono ?_))
          rintro e w3 ⟨rfl, hI3, hm3⟩
          have M3 := Lib.hid (mv_trans hm.out hm3)
          have I3 := Lib.hid hI3
          clear hI3 hm3 CT
          go_wp2_with fail
          go_roundw
          case rel => exact ⟨m + 1, hi, j + 1, rfl, rfl, BX, I3, M3, Lib.hid (by have := HD.out _ hz1; have := NN.out; omega)⟩
          case measure => simpa [intOf] using hz3
      · obtain rfl : hi = lo := by omega
        have FO := Lib.hid (betw_end hb.out hn0 hn1)
        have NN := Lib.hid (show j ≤ bitsN n.toNat by have := hj.out; omega)
        by_cases he : hi = n
        · rw [if_pos he, if_pos he] at FO
          go_wp2_with fail
          go_ret2
          exact ⟨0, 2, j, rfl, FO.out, NN.out, fun h => absurd HR.out h, hI.out, hm.out⟩
        · rw [if_neg he, if_neg he] at FO
          go_wp2_with fail
          go_ret2
          exact ⟨hi, 0, j, rfl, FO.out, NN.out, fun h => absurd HR.out h, hI.out, hm.out⟩
  · have FO := Lib.hid (show FirstOk P n 0 1 from ⟨fun _ => ⟨rfl, rfl⟩, fun h0 h1 => absurd ⟨h0, h1⟩ hr, fun h0 h1 => absurd ⟨h0, h1⟩ hr⟩)
    have IZ := Lib.hid hI
    have MZ := Lib.hid (mv_of (X := X) (Below.refl w.heap.size w))
    have HR := Lib.hid hr
    have hcase : n < 0 ∨ (¬ n < 0 ∧ 1073741824 < n) := by omega
    clear hr F hI
    rcases hcase with hc | ⟨hc, hc2⟩
    · go_enter Try.func5, Try.ntmps5
      go_wp2_with fail
      go_ret2
      exact ⟨0, 1, 0, rfl, FO.out, Nat.zero_le _, fun _ => rfl, IZ.out, MZ.out⟩
    · go_enter Try.func5, Try.ntmps5
      go_wp2_with fail
      go_ret2
      exact ⟨0, 1, 0, rfl, FO.out, Nat.zero_le _, fun _ => rfl, IZ.out, MZ.out⟩
end Go.Proofs.Ytcgbombilgacjaa.Bis
