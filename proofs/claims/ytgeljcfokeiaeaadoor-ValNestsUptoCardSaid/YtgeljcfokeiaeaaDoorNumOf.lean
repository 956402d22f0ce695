/- Contract of the document's own NumberOf. Conditions: the size. -/
import Derived.Test.YtgeljcfokeiaeaaDoorDigits
import Derived.Test.YtgeljcfokeiaeaaDoorNumL
namespace Go.Proofs.YtgeljcfokeiaeaaDoor.Ref
open Go.RowKit Lists Ints
open Go.Lib (itoa)
set_option linter.unusedVariables false

def NumPost (s : ByteArray) (w : World) (e : Ending) (w' : World) : Prop := ∃ (n : Int) (b : Bool), e = .returned (.tuple #[.int .i64 n, .bool b]) ∧ NumIs s.data.toList n b ∧ Below w.heap.size w w'
theorem byte_at (s : ByteArray) (k : Nat) (h : k < s.size) : s.data.toList[k]'(by rw [← size_toList]; exact h) = s[k] := by
  rw [Array.getElem_toList]; rfl
theorem w64_eq (x : Int) : wrap64 x = w64 x := by unfold w64 wrap64; omega
theorem read_i64 {l : List UInt8} {k : Nat} {n : Int} (h : ReadTo l k n) : I64 n := by rw [h.2]; exact w64_i64 _

set_option maxHeartbeats 4000000 in
set_option maxRecDepth 100000 in
theorem number_any (s : ByteArray) (w : World) (hs : s.size ≤ 1073741824) :
    Calls Tryd.prog 28 #[.string s] w (NumPost s w) := by
  have SL := Lib.hid (size_toList s)
  by_cases h20 : 20 < s.size
  · have hno := Lib.hid (num_long (l := s.data.toList) (by rw [← size_toList]; exact h20))
    go_enter Tryd.func28, Tryd.ntmps28
    go_wp2_with fail
    go_ret2
    exact ⟨_, _, rfl, hno.out, Below.refl _ _⟩
  · have h20' : s.size ≤ 20 := by omega
    by_cases hneg : isNeg s.data.toList = true
    · have h0 : 0 < s.size := by
        rw [size_toList]
        cases h : s.data.toList with
        | nil => rw [h] at hneg; cases hneg
        | cons _ _ => simp
      have h45 : (((s[0]'h0).toNat : Int) == 45) = true := by
        have hb := byte_at s 0 h0
        rw [beq_iff_eq, ← hb]
        unfold isNeg at hneg
        split at hneg
        · cases hneg
        · rename_i c r e
          have hc : c = 45 := beq_iff_eq.1 hneg
          simp only [e, List.getElem_cons_zero, hc]
          rfl
      have SG := Lib.hid (show signOf s.data.toList = -1 by unfold signOf; rw [if_pos hneg])
      have ST := Lib.hid (show startOf s.data.toList = 1 by unfold startOf; rw [if_pos hneg])
      have R0 := Lib.hid (show ReadTo s.data.toList 1 0 by have := read_start s.data.toList; rw [ST.out] at this; exact this)
      clear hneg
      have h9 : decide (20 < (s.size : Int)) = false := by rw [decide_eq_false_iff_not]; omega
      go_enter Tryd.func28, Tryd.ntmps28
      go_wp2_with fail
      go_loopw [4, 6] (fun x i wr => ∃ (k : Nat) (n : Int), k ≤ s.size ∧ x = .int .i64 n ∧ i = .int .i64 k ∧ Hid (ReadTo s.data.toList k n) ∧ wr = w) (fun _ i _ => s.size - (intOf i).toNat)
      case atStart => exact ⟨1, 0, by omega, rfl, rfl, R0.out, rfl⟩
      case round =>
        obtain ⟨k, n, hk, rfl, rfl, hr, rfl⟩ := hrel
        by_cases hlt : k < s.size
        · have hkl : k < s.data.toList.length := by rw [← size_toList]; exact hlt
          have hba := Lib.hid (byte_at s k hlt)
          by_cases hd : 48 ≤ s[k].toNat ∧ s[k].toNat ≤ 57
          · have hn := Lib.hid (read_minus hr.out hkl SG.out)
            obtain ⟨d1, d2⟩ := hd
            have d1' : ¬ (s[k].toNat : Int) < 48 := by omega
            have d2' : ¬ 57 < (s[k].toNat : Int) := by omega
            go_wp2
            go_roundw
            case rel => exact ⟨k + 1, _, hlt, rfl, by go_num, by have h := hn.out; simp only [hba.out, ← w64_eq] at h; exact h, by first | rfl | trivial⟩
            case measure => simp [intOf]; omega
          · have hno := Lib.hid (num_bad k hkl hr.out.1 (by rw [hba.out]; exact hd))
            rcases (show (s[k].toNat : Int) < 48 ∨ (¬ (s[k].toNat : Int) < 48 ∧ 57 < (s[k].toNat : Int)) by omega) with g | ⟨g, g'⟩
            all_goals
              clear hd
              go_wp2
              go_ret2
              exact ⟨_, _, rfl, hno.out, Below.refl _ _⟩
        · have DI := Lib.hid (fun w => digits_any n (read_i64 hr.out) w)
          have hkl : s.data.toList.length ≤ k := by rw [← size_toList]; omega
          go_wp2_with fail
          refine (DI.out _).mono ?_
          rintro e w1 ⟨t, rfl, ht, hb⟩
          have HT := Lib.hid ht
          clear ht
          go_wp2_with fail
          go_ret2
          exact ⟨_, _, rfl, by rw [ByteArray.toList_eq, ByteArray.toList_eq]; exact read_done hr.out hkl HT.out, hb⟩
    · have hneg' : isNeg s.data.toList = false := by simpa using hneg
      have SG := Lib.hid (show signOf s.data.toList = 1 by unfold signOf; rw [if_neg hneg])
      have ST := Lib.hid (show startOf s.data.toList = 0 by unfold startOf; rw [if_neg hneg])
      have R0 := Lib.hid (show ReadTo s.data.toList 0 0 by have := read_start s.data.toList; rw [ST.out] at this; exact this)
      have h9 : decide (20 < (s.size : Int)) = false := by rw [decide_eq_false_iff_not]; omega
      by_cases h0 : 0 < s.size
      · have h45 : (((s[0]'h0).toNat : Int) == 45) = false := by
          have hb := byte_at s 0 h0
          rw [beq_eq_false_iff_ne, ← hb]
          intro e
          apply hneg
          unfold isNeg
          split
          · rename_i e2
            rw [size_toList, e2] at h0
            simp at h0
          · rename_i c r e2
            simp only [e2, List.getElem_cons_zero] at e
            exact beq_iff_eq.2 (UInt8.toNat_inj.1 (by show c.toNat = 45; omega))
        have h0' : decide (0 < (s.size : Int)) = true := by rw [decide_eq_true_eq]; omega
        clear hneg hneg'
        go_enter Tryd.func28, Tryd.ntmps28
        go_wp2_with fail
        go_loopw [4, 6] (fun x i wr => ∃ (k : Nat) (n : Int), k ≤ s.size ∧ x = .int .i64 n ∧ i = .int .i64 k ∧ Hid (ReadTo s.data.toList k n) ∧ wr = w) (fun _ i _ => s.size - (intOf i).toNat)
        case atStart => exact ⟨0, 0, by omega, rfl, rfl, R0.out, rfl⟩
        case round =>
          obtain ⟨k, n, hk, rfl, rfl, hr, rfl⟩ := hrel
          by_cases hlt : k < s.size
          · have hkl : k < s.data.toList.length := by rw [← size_toList]; exact hlt
            have hba := Lib.hid (byte_at s k hlt)
            by_cases hd : 48 ≤ s[k].toNat ∧ s[k].toNat ≤ 57
            · have hn := Lib.hid (read_plus hr.out hkl SG.out)
              obtain ⟨d1, d2⟩ := hd
              have d1' : ¬ (s[k].toNat : Int) < 48 := by omega
              have d2' : ¬ 57 < (s[k].toNat : Int) := by omega
              go_wp2
              go_roundw
              case rel => exact ⟨k + 1, _, hlt, rfl, by go_num, by have h := hn.out; simp only [hba.out, ← w64_eq] at h; exact h, by first | rfl | trivial⟩
              case measure => simp [intOf]; omega
            · have hno := Lib.hid (num_bad k hkl hr.out.1 (by rw [hba.out]; exact hd))
              rcases (show (s[k].toNat : Int) < 48 ∨ (¬ (s[k].toNat : Int) < 48 ∧ 57 < (s[k].toNat : Int)) by omega) with g | ⟨g, g'⟩
              all_goals
                clear hd
                go_wp2
                go_ret2
                exact ⟨_, _, rfl, hno.out, Below.refl _ _⟩
          · have DI := Lib.hid (fun w => digits_any n (read_i64 hr.out) w)
            have hkl : s.data.toList.length ≤ k := by rw [← size_toList]; omega
            go_wp2_with fail
            refine (DI.out _).mono ?_
            rintro e w1 ⟨t, rfl, ht, hb⟩
            have HT := Lib.hid ht
            clear ht
            go_wp2_with fail
            go_ret2
            exact ⟨_, _, rfl, by rw [ByteArray.toList_eq, ByteArray.toList_eq]; exact read_done hr.out hkl HT.out, hb⟩
      · have h0' : decide (0 < (s.size : Int)) = false := by rw [decide_eq_false_iff_not]; omega
        clear hneg hneg'
        go_enter Tryd.func28, Tryd.ntmps28
        go_wp2_with fail
        go_loopw [4, 6] (fun x i wr => ∃ (k : Nat) (n : Int), k ≤ s.size ∧ x = .int .i64 n ∧ i = .int .i64 k ∧ Hid (ReadTo s.data.toList k n) ∧ wr = w) (fun _ i _ => s.size - (intOf i).toNat)
        case atStart => exact ⟨0, 0, by omega, rfl, rfl, R0.out, rfl⟩
        case round =>
          obtain ⟨k, n, hk, rfl, rfl, hr, rfl⟩ := hrel
          have hlt : ¬ k < s.size := by omega
          have DI := Lib.hid (fun w => digits_any n (read_i64 hr.out) w)
          have hkl : s.data.toList.length ≤ k := by rw [← size_toList]; omega
          go_wp2_with fail
          refine (DI.out _).mono ?_
          rintro e w1 ⟨t, rfl, ht, hb⟩
          have HT := Lib.hid ht
          clear ht
          go_wp2_with fail
          go_ret2
          exact ⟨_, _, rfl, by rw [ByteArray.toList_eq, ByteArray.toList_eq]; exact read_done hr.out hkl HT.out, hb⟩
end Go.Proofs.YtgeljcfokeiaeaaDoor.Ref
