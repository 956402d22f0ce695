/- The program's firstPair. Conditions: none. -/
import Derived.Test.YtdmoigompmeacaaDoorCond1
import Derived.BigQuiet
import Derived.Laws.BitsLemmas
namespace Go.Proofs.YtdmoigompmeacaaDoor.Cnd
open Go.RowKit Ints Vals Bools
set_option linter.unusedVariables false

theorem or64 (a b : Nat) (ha : a < 64) (hb : b < 64) : bits .or .i64 (a : Int) (b : Int) = ((a ||| b : Nat) : Int) :=
  (bits_nat .i64 6 (by decide) (fun n h1 h2 => IntWalk.i64_in n (by omega)) a b (by omega) (by omega)).2

theorem drew_two (w : World) (n k : Nat) : (w.drewN n).drewN k = w.drewN (n + k) := by simp [World.drewN_drewN]

set_option maxHeartbeats 4000000 in
set_option maxRecDepth 100000 in
theorem first_ok {k : Nat} {cap : Array Value} {H : Nat → Bool} {m i : Nat} (hi : i < m) (hm : m ≤ 6) {l : List Bool} (hl : l.length = 2 ^ m) (b off c : Nat) (w : World) (hA : Adm k cap H l.length w) (hc : ∀ j, j < l.length → w.cell? ⟨b, off + j, none⟩ = some (.bool (fOf l j))) :
    Calls Tryd.prog 23 #[.slice (some ⟨b, off, none⟩) l.length c, .int .i64 i, .func (.func k) #[] cap] w fun e w' => e = .returned (.int .i64 (firstP l.length (fOf l) H i)) ∧ ∃ n, w' = w.drewN n := by
  have hent := hA.ent
  have AC := Lib.hid hA.call
  have HC := Lib.hid hc
  have hl64 : l.length ≤ 64 := by rw [hl]; exact (pow_small (by omega) hm).2
  have HL := Lib.hid hl
  obtain ⟨V, HV⟩ : ∃ V, Hid (V = firstP l.length (fOf l) H i) := ⟨_, Lib.hid rfl⟩
  rw [← HV.out]
  clear hA hc hl
  have hi6 : i = 0 ∨ i = 1 ∨ i = 2 ∨ i = 3 ∨ i = 4 ∨ i = 5 := by omega
  obtain ⟨bt, hbt⟩ : ∃ bt : Nat, bt = 2 ^ i := ⟨_, rfl⟩
  have W1 : wrap64 ((2 : Int) ^ i) = (bt : Int) := by
    rw [hbt]
    rcases hi6 with rfl | rfl | rfl | rfl | rfl | rfl <;> decide +kernel
  have hbt32 : bt ≤ 32 := by
    rw [hbt]
    rcases hi6 with rfl | rfl | rfl | rfl | rfl | rfl <;> decide
  have BT := Lib.hid hbt
  clear hbt hi6
  go_enter Tryd.func23, Tryd.ntmps23
  go_wp2_with fail
  rw [W1]
  clear W1
  go_loopw [13] (fun iv wr => ∃ t n : Nat, t ≤ l.length ∧ iv = .int .i64 t ∧ Hid (∀ u, u < t → pairT (fOf l) H i u = false) ∧ Hid (wr = w.drewN n)) (fun iv _ => l.length - (intOf iv).toNat)
  case atStart => exact ⟨0, 0, Nat.zero_le _, rfl, Lib.hid (fun u h => by omega), Lib.hid rfl⟩
  case round =>
    obtain ⟨t, n, ht, rfl, hb, hw⟩ := hrel
    have DW := Lib.hid (fun k => show wr.drewN k = w.drewN (n + k) by rw [hw.out, drew_two])
    by_cases hlt : t < l.length
    · have TO : t ||| bt < l.length := by rw [BT.out, HL.out]; rw [HL.out] at hlt; exact or_small hi hlt
      have BO : bits .or .i64 (t : Int) (bt : Int) = ((t ||| bt : Nat) : Int) := or64 t bt (by omega) (by omega)
      have PT := Lib.hid (show pairT (fOf l) H i t = ((fOf l t != fOf l (t ||| bt)) && H t && H (t ||| bt)) by rw [BT.out]; rfl)
      have NX := Lib.hid (show pairT (fOf l) H i t = false → ∀ u, u < t + 1 → pairT (fOf l) H i u = false from fun hp u hu => by
        by_cases e : u = t
        · subst e; exact hp
        · exact hb.out u (by omega))
      have FD := Lib.hid (show pairT (fOf l) H i t = true → (t : Int) = V from fun hp => by rw [HV.out, firstP_some hlt hp hb.out])
      clear hb
      generalize pairT (fOf l) H i t = pt at *
      generalize t ||| bt = s at *
      have hti : (t : Int) < l.length := by omega
      have hsi : (s : Int) < l.length := by omega
      have c1 : wr.cell? ⟨b, off + t, none⟩ = some (.bool (fOf l t)) := by rw [hw.out]; exact HC.out t hlt
      have c2 : wr.cell? ⟨b, off + s, none⟩ = some (.bool (fOf l s)) := by rw [hw.out]; exact HC.out s TO
      have A1 := Lib.hid (fun k' => show Calls Tryd.prog k (#[.int .i64 t] ++ cap) (wr.drewN k') fun e w' => e = .returned (.bool (H t)) ∧ w' = wr.drewN k' by rw [DW.out]; exact AC.out t _ hlt)
      have A2 := Lib.hid (fun k' => show Calls Tryd.prog k (#[.int .i64 s] ++ cap) (wr.drewN k') fun e w' => e = .returned (.bool (H s)) ∧ w' = wr.drewN k' by rw [DW.out]; exact AC.out s _ TO)
      generalize fOf l t = v1 at *
      generalize fOf l s = v2 at *
      generalize H t = h1 at *
      generalize H s = h2 at *
      cases v1 <;> cases v2
      case false.false =>
        have NY := Lib.hid (NX.out (by rw [PT.out]; rfl))
        clear PT NX FD A1 A2
        go_wp2_with fail
        go_quiet (fail)
        go_wp2_with fail
        go_roundw
        case rel => exact ⟨t + 1, _, by omega, by go_num, NY.out, Lib.hid (DW.out _)⟩
        case measure => simp [intOf]; omega
      case true.true =>
        have NY := Lib.hid (NX.out (by rw [PT.out]; rfl))
        clear PT NX FD A1 A2
        go_wp2_with fail
        go_quiet (fail)
        go_wp2_with fail
        go_roundw
        case rel => exact ⟨t + 1, _, by omega, by go_num, NY.out, Lib.hid (DW.out _)⟩
        case measure => simp [intOf]; omega
      all_goals (
        cases h1 with
        | false =>
          have NY := Lib.hid (NX.out (by rw [PT.out]; rfl))
          clear PT NX FD A2
          go_wp2_with fail
          go_quiet ((exact Calls.quiet_of_same (A1.out _)))
          go_wp2_with fail
          go_roundw
          case rel => exact ⟨t + 1, _, by omega, by go_num, NY.out, Lib.hid (DW.out _)⟩
          case measure => simp [intOf]; omega
        | true =>
          cases h2 with
          | false =>
            have NY := Lib.hid (NX.out (by rw [PT.out]; rfl))
            clear PT NX FD
            go_wp2_with fail
            go_quiet (((first | exact Calls.quiet_of_same (A1.out _) | exact Calls.quiet_of_same (A2.out _))))
            go_wp2_with fail
            go_roundw
            case rel => exact ⟨t + 1, _, by omega, by go_num, NY.out, Lib.hid (DW.out _)⟩
            case measure => simp [intOf]; omega
          | true =>
            have FV := Lib.hid (FD.out (by rw [PT.out]; rfl))
            clear PT NX FD
            go_wp2_with fail
            go_quiet (((first | exact Calls.quiet_of_same (A1.out _) | exact Calls.quiet_of_same (A2.out _))))
            go_wp2_with fail
            go_ret
            exact ⟨by rw [← FV.out]; rfl, _, DW.out _⟩)
    · have NV := Lib.hid (show V = -1 by rw [HV.out]; exact firstP_none fun u hu => hb.out u (by omega))
      clear hb
      go_wp2_with fail
      go_ret
      exact ⟨by rw [NV.out]; rfl, n, hw.out⟩
end Go.Proofs.YtdmoigompmeacaaDoor.Cnd
