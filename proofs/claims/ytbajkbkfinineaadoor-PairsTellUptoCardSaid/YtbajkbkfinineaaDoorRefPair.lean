/- The document's own LevelFault, RowFault (chapter 12). Conditions: the sizes. -/
import Derived.Test.YtbajkbkfinineaaDoorPairC
import Derived.Test.YtbajkbkfinineaaDoorList
import Derived.BigQuiet
namespace Go.Proofs.YtbajkbkfinineaaDoor.Pair
open Go.RowKit Ints Lists Vals Arr
set_option linter.unusedVariables false

theorem lev_step (levels : List Int) (k : Nat) (h : k < levels.length) (h1 : ∀ x ∈ levels.take k, 1 ≤ x ∧ x ≤ 5) (h2 : 1 ≤ levels.getD k 0 ∧ levels.getD k 0 ≤ 5) : ∀ x ∈ levels.take (k + 1), 1 ≤ x ∧ x ≤ 5 := by
  intro x hx
  rw [List.take_succ_eq_append_getElem h, List.mem_append] at hx
  have e : levels.getD k 0 = levels[k] := by simp [List.getD_eq_getElem?_getD, h]
  rw [e] at h2
  rcases hx with hx | hx
  · exact h1 x hx
  · have : x = levels[k] := by simpa using hx
    rw [this]; exact h2
theorem lev_here (levels : List Int) (k : Nat) (h : k < levels.length) (h2 : ¬ (1 ≤ levels.getD k 0 ∧ levels.getD k 0 ≤ 5)) : ¬ ∀ x ∈ levels, 1 ≤ x ∧ x ≤ 5 := by
  have e : levels.getD k 0 = levels[k] := by simp [List.getD_eq_getElem?_getD, h]
  rw [e] at h2
  exact fun hc => h2 (hc _ (List.getElem_mem h))
set_option maxHeartbeats 2000000 in
theorem levelfault_any (levels : List Int) (L : Option Addr) (lc N : Nat) (hl : levels.length ≤ maxLen) (w : World) (ha : At w N L levels) :
    Calls Tryd.prog 5 #[.slice L levels.length lc] w fun e w' => e = .returned (.int .i64 (levE levels)) ∧ w' = w := by
  unfold maxLen at hl
  have HA := Lib.hid ha
  clear ha
  by_cases h12 : 12 < levels.length
  · have hE : levE levels = 4 := by unfold levE; rw [if_pos h12]
    have h12i : (12 : Int) < levels.length := by omega
    rw [hE]
    clear hE
    go_enter Tryd.func5, Tryd.ntmps5
    go_wp2_with fail
    go_ret
    exact ⟨rfl, rfl⟩
  · have NO := Lib.hid (lev_no (levels := levels) (by omega))
    have IS := Lib.hid (lev_is (levels := levels) (by omega))
    have h12i : ¬ (12 : Int) < levels.length := by omega
    clear h12
    generalize levE levels = q at *
    go_enter Tryd.func5, Tryd.ntmps5
    go_wp2_with fail
    go_loopw [3] (fun i wr => ∃ k : Nat, k ≤ levels.length ∧ i = .int .i64 k ∧ wr = w ∧ Hid (∀ x ∈ levels.take k, 1 ≤ x ∧ x ≤ 5)) (fun i _ => levels.length - (intOf i).toNat)
    case atStart => exact ⟨0, Nat.zero_le _, rfl, rfl, Lib.hid (by intro x hx; simp at hx)⟩
    case round =>
      obtain ⟨k, hk, rfl, rfl, hn⟩ := hrel
      by_cases h1 : k < levels.length
      · obtain ⟨b, off, rfl, _, hcell⟩ := HA.out (by omega)
        have c1 := hcell k h1
        clear hcell
        have ST := Lib.hid (lev_step levels k h1 hn.out)
        have HE := Lib.hid (lev_here levels k h1)
        generalize levels.getD k 0 = y at *
        by_cases hy1 : y < 1
        · have hq := NO.out (HE.out (by omega))
          go_wp2_with fail
          go_ret
          exact ⟨by first | rfl | (rw [hq]; rfl), rfl⟩
        · by_cases hy2 : 5 < y
          · have hq := NO.out (HE.out (by omega))
            go_wp2_with fail
            go_ret
            exact ⟨by first | rfl | (rw [hq]; rfl), rfl⟩
          · have hv := Lib.hid (ST.out ⟨by omega, by omega⟩)
            go_wp2_with fail
            go_roundw
            case rel => exact ⟨k + 1, by omega, by go_num, trivial, hv.out⟩
            case measure => simp [intOf]; omega
      · have hq := IS.out (by have := hn.out; rwa [List.take_of_length_le (by omega)] at this)
        go_wp2_with fail
        go_ret
        exact ⟨by first | rfl | (rw [hq]; rfl), rfl⟩
/-- is it a row, up to a place? -/
theorem row_all {levels r : List Int} (h : r.length = levels.length) (h2 : ∀ i, i < r.length → 0 ≤ r.getD i 0 ∧ r.getD i 0 < levels.getD i 0) : rowB levels r = true := by
  unfold rowB
  rw [Bool.and_eq_true, decide_eq_true_eq, List.all_eq_true]
  exact ⟨h, fun i hi => decide_eq_true (h2 i (by rw [h]; simpa using hi))⟩
theorem row_not {levels r : List Int} {i : Nat} (hi : i < r.length) (h : ¬ (0 ≤ r.getD i 0 ∧ r.getD i 0 < levels.getD i 0)) : rowB levels r = false := by
  rw [Bool.eq_false_iff]
  intro hc
  obtain ⟨h1, h2⟩ := row_right hc
  exact h (h2 i (by omega))
set_option maxHeartbeats 2000000 in
theorem rowfault_any (levels r : List Int) (L R : Option Addr) (lc rc N : Nat) (hl : levels.length ≤ maxLen) (hr : r.length ≤ maxLen) (w : World) (ha : At w N L levels) (hb : At w N R r) :
    Calls Tryd.prog 8 #[.slice L levels.length lc, .slice R r.length rc] w fun e w' => e = .returned (.bool (!rowB levels r)) ∧ ∃ n, w' = w.drewN n := by
  unfold maxLen at hl hr
  have HA := Lib.hid ha
  have HB := Lib.hid hb
  clear ha hb
  by_cases he : r.length = levels.length
  · have AL := Lib.hid (row_all he)
    have NT := Lib.hid (fun (i : Nat) (hi : i < r.length) (h : ¬ (0 ≤ r.getD i 0 ∧ r.getD i 0 < levels.getD i 0)) => row_not hi h)
    have hei : (((r.length : Nat) : Int) != ((levels.length : Nat) : Int)) = false := by rw [bne_eq_false_iff_eq]; omega
    have EL := Lib.hid he
    clear he
    generalize rowB levels r = q at *
    go_enter Tryd.func8, Tryd.ntmps8
    go_wp2
    go_loopw [5] (fun i wr => ∃ k d : Nat, k ≤ r.length ∧ i = .int .i64 k ∧ wr = w.drewN d ∧ Hid (∀ i, i < k → 0 ≤ r.getD i 0 ∧ r.getD i 0 < levels.getD i 0)) (fun i _ => r.length - (intOf i).toNat)
    case atStart => exact ⟨0, 0, Nat.zero_le _, rfl, rfl, Lib.hid (fun i hi => absurd hi (by omega))⟩
    case round =>
      obtain ⟨k, d, hk, rfl, rfl, hn⟩ := hrel
      by_cases h1 : k < r.length
      · have h2 : k < levels.length := by have := EL.out; omega
        obtain ⟨b, off, rfl, _, hcell⟩ := HB.out (by omega)
        have c1 := hcell k h1
        clear hcell
        obtain ⟨b2, off2, rfl, _, hcell2⟩ := HA.out (by omega)
        have c2 := hcell2 k h2
        clear hcell2
        have NK := Lib.hid (NT.out k h1)
        have NX := Lib.hid (fun (h : 0 ≤ r.getD k 0 ∧ r.getD k 0 < levels.getD k 0) => show ∀ i, i < k + 1 → 0 ≤ r.getD i 0 ∧ r.getD i 0 < levels.getD i 0 from fun i hi => by
          by_cases e : i = k
          · subst e; exact h
          · exact hn.out i (by omega))
        generalize r.getD k 0 = u at *
        generalize levels.getD k 0 = v at *
        have h1i : (k : Int) < r.length := by omega
        have h2i : (k : Int) < levels.length := by omega
        by_cases hu0 : u < 0
        · have hq := NK.out (by omega)
          have d1 : decide (u < 0) = true := decide_eq_true hu0
          go_wp2
          go_quiet (fail)
          go_wp2
          go_ret
          exact ⟨ret_b (by rw [hq]; rfl), _, World.drewN_drewN _ _ _⟩
        · have d1 : decide (u < 0) = false := decide_eq_false hu0
          by_cases hv : v ≤ u
          · have hq := NK.out (by omega)
            have d2 : decide (v ≤ u) = true := decide_eq_true hv
            go_wp2
            go_quiet (fail)
            go_wp2
            go_ret
            exact ⟨ret_b (by rw [hq]; rfl), _, World.drewN_drewN _ _ _⟩
          · have d2 : decide (v ≤ u) = false := decide_eq_false hv
            have hx := Lib.hid (NX.out ⟨by omega, by omega⟩)
            go_wp2
            go_quiet (fail)
            go_wp2
            go_roundw
            case rel => exact ⟨k + 1, _, by omega, by go_num, rfl, hx.out⟩
            case measure => simp [intOf]; omega
      · have hq := AL.out (fun i hi => hn.out i (by omega))
        go_wp2
        go_ret
        exact ⟨ret_b (by rw [hq]; rfl), _, rfl⟩
  · have hq : rowB levels r = false := by
      rw [Bool.eq_false_iff]
      intro hc
      exact he (row_right hc).1
    have hei : (((r.length : Nat) : Int) != ((levels.length : Nat) : Int)) = true := by rw [bne_iff_ne]; omega
    rw [hq]
    clear hq he
    go_enter Tryd.func8, Tryd.ntmps8
    go_wp2
    go_ret
    exact ⟨rfl, 0, rfl⟩
end Go.Proofs.YtbajkbkfinineaaDoor.Pair
