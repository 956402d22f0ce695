/- The program's Check, checkCondition, anyTest, the closure that asks for marks, firstPair. Conditions: none. -/
import Derived.Test.YtdmoigompmeacaaDoorCondC
import Derived.RegionTactic
import Derived.OwnWalk
import Derived.IntWalk
namespace Go.Proofs.YtdmoigompmeacaaDoor.Cnd
open Go.RowKit Ints Vals Bools
set_option linter.unusedVariables false

set_option maxHeartbeats 1000000 in
set_option maxRecDepth 100000 in
theorem check_ok (n : Int) (A : Option Addr) (c : Nat) (l : List Bool) (w : World) (hl : l.length ≤ 4294967296) : Calls Tryd.prog 9 #[.int .i64 n, .slice A l.length c] w fun e w' => e = .returned (errOf (condE n l)) ∧ w' = w := by
  obtain ⟨m, hm⟩ : ∃ m, m = l.length := ⟨_, rfl⟩
  obtain ⟨q, hq⟩ : ∃ q, q = condE n l := ⟨_, rfl⟩
  unfold condE at hq
  rw [← hm] at hq hl ⊢
  rw [show condE n l = q by rw [hq]; unfold condE; rw [hm]]
  clear hm
  by_cases h1 : n < 1
  · rw [if_neg (by omega)] at hq
    subst hq
    go_enter Tryd.func9, Tryd.ntmps9
    go_wp2_with fail
    go_ret
    exact ⟨rfl, rfl⟩
  · by_cases h2 : 6 < n
    · rw [if_neg (by omega)] at hq
      subst hq
      go_enter Tryd.func9, Tryd.ntmps9
      go_wp2_with fail
      go_ret
      exact ⟨rfl, rfl⟩
    · rw [if_pos (by omega)] at hq
      obtain rfl | rfl | rfl | rfl | rfl | rfl : n = 1 ∨ n = 2 ∨ n = 3 ∨ n = 4 ∨ n = 5 ∨ n = 6 := by omega
      all_goals (
        clear h1 h2
        simp only [show ((1 : Int).toNat) = 1 from rfl, show ((2 : Int).toNat) = 2 from rfl, show ((3 : Int).toNat) = 3 from rfl, show ((4 : Int).toNat) = 4 from rfl, show ((5 : Int).toNat) = 5 from rfl, show ((6 : Int).toNat) = 6 from rfl, Nat.reducePow] at hq
        split at hq
        · next h => (subst h; subst hq; go_enter Tryd.func9, Tryd.ntmps9; go_wp2_with fail; go_ret; exact ⟨rfl, rfl⟩)
        · next h => (subst hq; go_enter Tryd.func9, Tryd.ntmps9; go_wp2_with fail; go_ret; exact ⟨rfl, rfl⟩))

theorem matE_no {n i : Int} {l : List Bool} (h : ¬ condE n l = 0) : matE n l i = condE n l := if_neg h
set_option maxHeartbeats 1000000 in
set_option maxRecDepth 100000 in
theorem condition_ok (n i : Int) (A : Option Addr) (c : Nat) (l : List Bool) (w : World) (hl : l.length ≤ 4294967296) : Calls Tryd.prog 22 #[.int .i64 n, .slice A l.length c, .int .i64 i] w fun e w' => e = .returned (errOf (matE n l i)) ∧ w' = w := by
  have CH := Lib.hid (check_ok n A c l w hl)
  have EQ := Lib.hid (show matE n l i = if condE n l = 0 then (if 0 ≤ i ∧ i < n then 0 else 1) else condE n l from rfl)
  clear hl
  rw [EQ.out]
  generalize condE n l = q at *
  generalize l.length = m at *
  clear EQ
  by_cases hq : q = 0
  · subst hq
    rw [errOf_ok] at CH
    by_cases h1 : i < 0
    · rw [if_pos rfl, if_neg (by omega)]
      go_enter Tryd.func22, Tryd.ntmps22
      go_wp2_with fail
      refine CH.out.mono ?_
      rintro e w1 ⟨rfl, rfl⟩
      go_wp2_with fail
      go_ret
      exact ⟨rfl, rfl⟩
    · by_cases h2 : n ≤ i
      · rw [if_pos rfl, if_neg (by omega)]
        go_enter Tryd.func22, Tryd.ntmps22
        go_wp2_with fail
        refine CH.out.mono ?_
        rintro e w1 ⟨rfl, rfl⟩
        go_wp2_with fail
        go_ret
        exact ⟨rfl, rfl⟩
      · rw [if_pos rfl, if_pos (by omega)]
        go_enter Tryd.func22, Tryd.ntmps22
        go_wp2_with fail
        refine CH.out.mono ?_
        rintro e w1 ⟨rfl, rfl⟩
        go_wp2_with fail
        go_ret
        exact ⟨rfl, rfl⟩
  · rw [if_neg hq]
    rw [errOf_no hq] at CH ⊢
    go_enter Tryd.func22, Tryd.ntmps22
    go_wp2_with fail
    refine CH.out.mono ?_
    rintro e w1 ⟨rfl, rfl⟩
    go_wp2_with fail
    go_ret
    exact ⟨rfl, rfl⟩

/-- a function value that admits tests, and changes nothing -/
structure Adm (k : Nat) (cap : Array Value) (H : Nat → Bool) (N : Nat) (w : World) : Prop where
  ent : ∀ args w, (callFunc k args).run Tryd.prog w = .ok (.enter k args) w
  call : ∀ t n, t < N → Calls Tryd.prog k (#[.int .i64 t] ++ cap) (w.drewN n) fun e w' => e = .returned (.bool (H t)) ∧ w' = w.drewN n
abbrev afv (k : Nat) (cap : Array Value) : Value := .func (.func k) #[] cap
theorem any_adm (N : Nat) (w : World) : Adm 24 #[] anyB N w := by
  refine ⟨fun args w => rfl, fun t n _ => ?_⟩
  show Calls Tryd.prog 24 #[.int .i64 t] (w.drewN n) _
  generalize w.drewN n = W
  go_enter Tryd.func24, Tryd.ntmps24
  go_wp2_with fail
  go_ret
  exact ⟨rfl, rfl⟩
/-- a box that holds a slice of bools, and these -/
structure Mk (p : Nat) (z : List Bool) (w : World) : Prop where
  slot : ∃ b off c, w.cell? ⟨p, 0, none⟩ = some (.slice (some ⟨b, off, none⟩) z.length c) ∧ ∀ j, j < z.length → w.cell? ⟨b, off + j, none⟩ = some (.bool (z.getD j false))
theorem marked_adm {p N : Nat} {z : List Bool} {w : World} (hN : N = z.length) (hz : z.length ≤ 64) (h : Mk p z w) : Adm 31 #[.pointer (some ⟨p, 0, none⟩)] (fOf z) N w := by
  refine ⟨fun args w => rfl, fun t n ht => ?_⟩
  rw [hN] at ht
  show Calls Tryd.prog 31 #[.int .i64 t, .pointer (some ⟨p, 0, none⟩)] (w.drewN n) _
  obtain ⟨b, off, c, h1, h2⟩ := h.slot
  have c1 : (w.drewN n).cell? ⟨p, 0, none⟩ = some (.slice (some ⟨b, off, none⟩) z.length c) := h1
  have c2 : (w.drewN n).cell? ⟨b, off + t, none⟩ = some (.bool (fOf z t)) := h2 t ht
  generalize fOf z t = v at *
  generalize w.drewN n = W at *
  clear h h1 h2
  generalize z.length = m at *
  go_enter Tryd.func31, Tryd.ntmps31
  go_wp2_with fail
  go_ret
  exact ⟨rfl, rfl⟩
end Go.Proofs.YtdmoigompmeacaaDoor.Cnd
