/- Contract of the document's own Cut at a point. Conditions: the size. -/
import Derived.Test.YtjajjadhnfhofaaDoorSplitL
import Derived.Test.YtjajjadhnfhofaaDoorRow
import Derived.Test.YtjajjadhnfhofaaDoorNumOf
import Derived.WalkSpells
namespace Go.Proofs.YtjajjadhnfhofaaDoor.Ref
open Go.RowKit Lists Ints Build
open Go.Lib (itoa)
set_option linter.unusedVariables false

theorem str_info : (Tryd.prog.info? 9).map (fun i => (i.zero, i.size, i.bytes)) = some (some (.string ⟨#[]⟩), 1, 16) := by kernel_rfl
abbrev OwnS := @OwnG ByteArray 9 Value.string
abbrev AtS := @AtG ByteArray Value.string
def CutRel (s : ByteArray) (w : World) (o f i : Value) (wr : World) : Prop :=
  ∃ (k fr : Nat) (ps : List ByteArray) (A : Option Addr) (c : Nat), fr ≤ k ∧ k ≤ s.size ∧ o = .slice A ps.length c ∧ f = .int .i64 fr ∧ i = .int .i64 k ∧ OwnS wr w.heap.size A c ps ∧ Below w.heap.size w wr ∧ ps.length ≤ k ∧
    Hid (splitL (s.data.toList.take k) = ps.map (·.data.toList) ++ [(s.data.toList.take k).drop fr])

set_option maxHeartbeats 4000000 in
set_option maxRecDepth 100000 in
theorem cutref_any (s : ByteArray) (hs : s.size ≤ 1073741824) (w : World) :
    Calls Tryd.prog 17 #[.string s, .int .u8 46] w fun e w' => ∃ (ps : List ByteArray) (A : Option Addr) (c : Nat), e = .returned (.slice A ps.length c) ∧ splitL s.data.toList = ps.map (·.data.toList) ∧ ps.length ≤ s.size + 1 ∧ AtS w' w'.heap.size A ps ∧ Below w.heap.size w w' := by
  obtain ⟨i0, hi, hz0, hz1, hz2⟩ := info_parts str_info
  have one : ∀ x : ByteArray, (Value.string x).oneCell' = true := fun _ => rfl
  go_enter Tryd.func17, Tryd.ntmps17
  go_wp2_with fail
  go_loopw [5, 6, 7] (CutRel s w) (fun _ _ i _ => s.size - (intOf i).toNat)
  case atStart => exact ⟨0, 0, [], none, 0, Nat.le_refl _, Nat.zero_le _, rfl, rfl, rfl, OwnG.none_, Below.refl _ _, Nat.le_refl _, rfl⟩
  case round =>
    obtain ⟨k, fr, ps, A, c, h1, h2, rfl, rfl, rfl, hown, hb, hl, hsp⟩ := hrel
    have hz := hb.size
    by_cases hlt : k < s.size
    · have hkl : k < s.data.toList.length := by rw [← size_toList]; exact hlt
      have hba := Lib.hid (byte_at s k hlt)
      have hst := splitL_snoc _ (s.data.toList[k]'hkl) _ _ hsp.out
      rw [← List.take_succ_eq_append_getElem hkl, hba.out] at hst
      by_cases h46 : s[k] = 46
      · have ht : ((s[k].toNat : Int) == 46) = true := by rw [beq_iff_eq, h46]; rfl
        rw [if_pos h46] at hst
        have HST := Lib.hid hst
        clear hst h46
        go_wp2_with (at_builtin
                     refine wpList_append_row Value.string 38 9 i0 _ 16 Tryd.underlying38 hi hz0 hz1 hz2 rfl one rfl (.tmp 19) (.tmp 24) rfl w.heap.size c A ps (OwnG.below hown ((Below.refl _ _).alloc (Nat.le_refl _) _)) (wr.heap.size + 1) (some ⟨wr.heap.size, 0, none⟩) 1 [s.extract fr k]
                       (AtG.one wr.heap.size (s.extract fr k) (by simp)) rfl rfl (by simp [maxLen]; omega) (by simp; omega) (by simp; omega) ?_
                     intro A3 c3 w3 z3 hz3 own3 g3 r3)
        have B3 : Below w.heap.size w w3 := (hb.alloc hz _).grown g3 (by simp; omega) hown.ge
        have L3 := Lib.hid (show z3.length = ps.length + 1 by rw [hz3.out]; simp)
        have S3 := Lib.hid (show splitL (s.data.toList.take (k + 1)) = z3.map (·.data.toList) ++ [(s.data.toList.take (k + 1)).drop (k + 1)] by
          have e0 : (s.data.toList.take (k + 1)).drop (k + 1) = [] := List.drop_eq_nil_of_le (by rw [List.length_take]; omega)
          have e1 : (s.extract fr k).data.toList = (s.data.toList.take k).drop fr := by rw [Lib.extract_data, List.drop_take]
          rw [HST.out, hz3.out, List.map_append, e0]
          simp only [List.map_cons, List.map_nil, e1])
        go_wp2
        go_roundw
        case rel => exact ⟨k + 1, k + 1, z3, A3, c3, Nat.le_refl _, hlt, rfl, by go_num, by go_num, own3, B3, by have := L3.out; omega, S3.out⟩
        case measure => simp [intOf]; omega
      · have ht : ((s[k].toNat : Int) == 46) = false := by
          rw [beq_eq_false_iff_ne]; intro e; exact h46 (UInt8.toNat_inj.1 (by show s[k].toNat = 46; omega))
        rw [if_neg h46] at hst
        have HST := Lib.hid hst
        clear hst h46
        go_wp2_with fail
        go_roundw
        case rel => 
          refine ⟨k + 1, fr, ps, A, c, by omega, hlt, rfl, rfl, by go_num, hown, hb, by omega, ?_⟩
          show splitL _ = _
          rw [HST.out]
          congr 2
          rw [List.take_succ_eq_append_getElem hkl, List.drop_append_of_le_length (by rw [List.length_take]; omega), hba.out]
        case measure => simp [intOf]; omega
    · obtain rfl : k = s.size := by omega
      go_wp2_with (at_builtin
                   refine wpList_append_row Value.string 38 9 i0 _ 16 Tryd.underlying38 hi hz0 hz1 hz2 rfl one rfl (.tmp 28) (.tmp 32) rfl w.heap.size c A ps (OwnG.below hown ((Below.refl _ _).alloc (Nat.le_refl _) _)) (wr.heap.size + 1) (some ⟨wr.heap.size, 0, none⟩) 1 [s.extract fr s.size]
                     (AtG.one wr.heap.size (s.extract fr s.size) (by simp)) rfl rfl (by simp [maxLen]; omega) (by simp; omega) (by simp; omega) ?_
                   intro A3 c3 w3 z3 hz3 own3 g3 r3)
      have B3 : Below w.heap.size w w3 := (hb.alloc hz _).grown g3 (by simp; omega) hown.ge
      have L3 := Lib.hid (show z3.length = ps.length + 1 by rw [hz3.out]; simp)
      have S3 := Lib.hid (show splitL s.data.toList = z3.map (·.data.toList) by
        have h := hsp.out
        rw [List.take_of_length_le (by rw [← size_toList]; omega)] at h
        rw [h, hz3.out, List.map_append]
        simp only [List.map_cons, List.map_nil, Lib.extract_to_end])
      go_wp2
      go_ret
      exact ⟨z3, A3, c3, rfl, S3.out, by have := L3.out; omega, own3.at_, B3⟩
end Go.Proofs.YtjajjadhnfhofaaDoor.Ref
