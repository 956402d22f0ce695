/- Contract of the document's own Digits. Conditions: the number is an int. -/
import Derived.Test.YtgeljcfokeiaeaaDoorBase
import Derived.Test.YtgeljcfokeiaeaaDoorDigL
import Derived.WalkSpells
import Derived.Laws.IdiomStrings
namespace Go.Proofs.YtgeljcfokeiaeaaDoor.Ref
open Go.RowKit Lists Ints
open Go.Lib (itoa)
set_option linter.unusedVariables false

theorem conv_one (w : World) (x : Int) (c : UInt8) (h : x = (c.toNat : Int)) :
    (convert 52 9 (.slice (some ⟨w.heap.size, 0, none⟩) 1 1)).run Tryd.prog (w.alloc (.cells #[.int .u8 x] 5)) = .ok (.string ⟨#[c]⟩) (w.alloc (.cells #[.int .u8 x] 5)) := by
  subst h
  exact run_convert_bytes_back (P := Tryd.prog) _ 52 9 5 ⟨w.heap.size, 0, none⟩ 1 [c] Tryd.underlying52 Tryd.underlying5 Tryd.underlying9 (fun j hj => by
    obtain rfl : j = 0 := by simpa using hj
    simp [Addr.add])

theorem dig_size {s : ByteArray} {n : Int} (h : s.data.toList = itoa n) (hi : I64 n) : s.size ≤ 21 := by
  rw [size_toList, h]; exact Lib.itoa_length_le n hi.1 hi.2
theorem cat_toList (a b : ByteArray) : (a ++ b).data.toList = a.data.toList ++ b.data.toList := by simp
set_option maxRecDepth 100000 in
set_option maxHeartbeats 1000000 in
theorem digits_deep (k : Nat) : ∀ (n : Int) (w : World), Hid (2 * n.natAbs + (if n < 0 then 1 else 0) ≤ k) → I64 n →
    Calls Tryd.prog 26 #[.int .i64 n] w fun e w' => ∃ s : ByteArray, e = .returned (.string s) ∧ s.data.toList = itoa n ∧ Below w.heap.size w w' := by
  induction k with
  | zero =>
    intro n w h1 h2
    have h1 := h1.out
    obtain rfl : n = 0 := by split at h1 <;> omega
    clear h1
    have cv := conv_one w 48 48 rfl
    have hv := Lib.hid (itoa_one 0 (by omega) (by omega))
    go_enter Tryd.func26, Tryd.ntmps26
    go_wp2_with fail
    go_ret
    exact ⟨_, rfl, hv.out.symm, (Below.refl _ _).alloc (Nat.le_refl _) _⟩
  | succ k ih =>
    intro n w h1 h2
    have IH := Lib.hid ih
    clear ih
    have h1' := h1.out
    obtain ⟨g1, g2⟩ := h2
    by_cases hn : n < 0
    · obtain ⟨q1, q2, q3, q4⟩ := tdiv_neg n hn
      rw [if_pos hn] at h1'
      by_cases hq : n.tdiv 10 = 0
      · have hv := Lib.hid (itoa_neg_one n hn hq)
        have I1 := Lib.hid (show I64 (-n.tmod 10) by unfold I64; omega)
        have C1 := fun w => IH.out (-n.tmod 10) w (show 2 * (-n.tmod 10).natAbs + (if -n.tmod 10 < 0 then 1 else 0) ≤ k by rw [if_neg (by omega)]; omega) I1.out
        have C1 := Lib.hid C1
        have q5 : -10 < n.tmod 10 := by omega
        have q6 : -922337203685477581 < n.tdiv 10 := by omega
        clear h1' q1 q2
        go_enter Tryd.func26, Tryd.ntmps26
        go_wp2_with fail
        refine (C1.out w).mono ?_
        rintro e w1 ⟨s1, rfl, hs1, hb1⟩
        have z1 : s1.size ≤ 21 := dig_size hs1 I1.out
        have hs1 := Lib.hid hs1
        go_wp2_with fail
        go_ret
        exact ⟨_, rfl, by rw [cat_toList, hs1.out, hv.out, show 0 - n.tmod 10 = -n.tmod 10 by omega]; rfl, hb1⟩
      · have hv := Lib.hid (itoa_neg_step n hn hq)
        have I1 := Lib.hid (show I64 (n.tdiv 10) by unfold I64; omega)
        have C1 := fun w => IH.out (n.tdiv 10) w (show 2 * (n.tdiv 10).natAbs + (if n.tdiv 10 < 0 then 1 else 0) ≤ k by rw [if_pos (by omega)]; omega) I1.out
        have I2 := Lib.hid (show I64 (-n.tmod 10) by unfold I64; omega)
        have C2 := fun w => IH.out (-n.tmod 10) w (show 2 * (-n.tmod 10).natAbs + (if -n.tmod 10 < 0 then 1 else 0) ≤ k by rw [if_neg (by omega)]; omega) I2.out
        have C1 := Lib.hid C1
        have C2 := Lib.hid C2
        have q5 : -10 < n.tmod 10 := by omega
        have q6 : -922337203685477581 < n.tdiv 10 := by omega
        clear h1' q1 q2
        go_enter Tryd.func26, Tryd.ntmps26
        go_wp2_with fail
        refine (C1.out w).mono ?_
        rintro e w1 ⟨s1, rfl, hs1, hb1⟩
        have z1 : s1.size ≤ 21 := dig_size hs1 I1.out
        have hs1 := Lib.hid hs1
        go_wp2_with fail
        refine (C2.out w1).mono ?_
        rintro e w2 ⟨s2, rfl, hs2, hb2⟩
        have z2 : s2.size ≤ 21 := dig_size hs2 I2.out
        have hs2 := Lib.hid hs2
        go_wp2_with fail
        go_ret
        exact ⟨_, rfl, by rw [cat_toList, hs1.out, hs2.out, hv.out, show 0 - n.tmod 10 = -n.tmod 10 by omega], on hb1 hb2⟩
    · rw [if_neg hn] at h1'
      by_cases h10 : n < 10
      · have hv := Lib.hid (itoa_one n (by omega) h10)
        obtain ⟨c, hc⟩ : ∃ c : UInt8, c = UInt8.ofNat (48 + n.toNat) := ⟨_, rfl⟩
        have cv := conv_one w (48 + n) c (by rw [hc, dig_toNat _ (by omega)]; omega)
        have hv := Lib.hid (show [c] = itoa n by rw [hc]; exact hv.out.symm)
        clear hc
        clear h1'
        go_enter Tryd.func26, Tryd.ntmps26
        go_wp2_with fail
        go_ret
        exact ⟨_, rfl, hv.out, (Below.refl _ _).alloc (Nat.le_refl _) _⟩
      · have hv := Lib.hid (itoa_pos_step n (by omega))
        have I1 := Lib.hid (show I64 (n / 10) by unfold I64; omega)
        have C1 := fun w => IH.out (n / 10) w (show 2 * (n / 10).natAbs + (if n / 10 < 0 then 1 else 0) ≤ k by rw [if_neg (by omega)]; omega) I1.out
        have I2 := Lib.hid (show I64 (n % 10) by unfold I64; omega)
        have C2 := fun w => IH.out (n % 10) w (show 2 * (n % 10).natAbs + (if n % 10 < 0 then 1 else 0) ≤ k by rw [if_neg (by omega)]; omega) I2.out
        have C1 := Lib.hid C1
        have C2 := Lib.hid C2
        clear h1'
        go_enter Tryd.func26, Tryd.ntmps26
        go_wp2_with fail
        refine (C1.out w).mono ?_
        rintro e w1 ⟨s1, rfl, hs1, hb1⟩
        have z1 : s1.size ≤ 21 := dig_size hs1 I1.out
        have hs1 := Lib.hid hs1
        go_wp2_with fail
        refine (C2.out w1).mono ?_
        rintro e w2 ⟨s2, rfl, hs2, hb2⟩
        have z2 : s2.size ≤ 21 := dig_size hs2 I2.out
        have hs2 := Lib.hid hs2
        go_wp2_with fail
        go_ret
        exact ⟨_, rfl, by rw [cat_toList, hs1.out, hs2.out, hv.out], on hb1 hb2⟩
theorem digits_any (n : Int) (h : I64 n) (w : World) :
    Calls Tryd.prog 26 #[.int .i64 n] w fun e w' => ∃ s : ByteArray, e = .returned (.string s) ∧ s.data.toList = itoa n ∧ Below w.heap.size w w' := digits_deep _ n w (Nat.le_refl _) h

end Go.Proofs.YtgeljcfokeiaeaaDoor.Ref
