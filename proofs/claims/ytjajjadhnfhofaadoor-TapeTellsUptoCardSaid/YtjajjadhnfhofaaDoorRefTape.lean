/- Contracts of the document's own answers: Digits, TapeFault, Shorter, TapeText. Conditions: the sizes. -/
import Derived.Test.YtjajjadhnfhofaaDoorParse
import Derived.Test.YtjajjadhnfhofaaDoorDigL
import Derived.WalkSpells
namespace Go.Proofs.YtjajjadhnfhofaaDoor.Ref
open Go.RowKit Lists Ints Build
open Go.Lib (itoa)
set_option linter.unusedVariables false

theorem conv_one (w : World) (x : Int) (c : UInt8) (h : x = (c.toNat : Int)) :
    (convert 44 9 (.slice (some ⟨w.heap.size, 0, none⟩) 1 1)).run Tryd.prog (w.alloc (.cells #[.int .u8 x] 5)) = .ok (.string ⟨#[c]⟩) (w.alloc (.cells #[.int .u8 x] 5)) := by
  subst h
  exact run_convert_bytes_back (P := Tryd.prog) _ 44 9 5 ⟨w.heap.size, 0, none⟩ 1 [c] Tryd.underlying44 Tryd.underlying5 Tryd.underlying9 (fun j hj => by
    obtain rfl : j = 0 := by simpa using hj
    simp [Addr.add])

theorem dig_size {s : ByteArray} {n : Int} (h : s.data.toList = itoa n) (hi : I64 n) : s.size ≤ 21 := by
  rw [size_toList, h]; exact Lib.itoa_length_le n hi.1 hi.2
theorem cat_toList (a b : ByteArray) : (a ++ b).data.toList = a.data.toList ++ b.data.toList := by simp
set_option maxRecDepth 100000 in
set_option maxHeartbeats 1000000 in
theorem digits_deep (k : Nat) : ∀ (n : Int) (w : World), Hid (2 * n.natAbs + (if n < 0 then 1 else 0) ≤ k) → I64 n →
    Calls Tryd.prog 24 #[.int .i64 n] w fun e w' => ∃ s : ByteArray, e = .returned (.string s) ∧ s.data.toList = itoa n ∧ Below w.heap.size w w' := by
  induction k with
  | zero =>
    intro n w h1 h2
    have h1 := h1.out
    obtain rfl : n = 0 := by split at h1 <;> omega
    clear h1
    have cv := conv_one w 48 48 rfl
    have hv := Lib.hid (itoa_one 0 (by omega) (by omega))
    go_enter Tryd.func24, Tryd.ntmps24
    go_wp2_with fail
    go_ret
    exact ⟨_, rfl, hv.out.symm, (Below.refl _ _).alloc (Nat.le_refl _) _⟩
  | succ k ih =>
    intro n w h1 h2
    have IH := Lib.hid ih
    clear ih
    have h1' := h1.out
    obtain ⟨g1, g2⟩ := h2
    by_cases hn : n < 0
    · obtain ⟨q1, q2, q3, q4⟩ := tdiv_neg n hn
      rw [if_pos hn] at h1'
      by_cases hq : n.tdiv 10 = 0
      · have hv := Lib.hid (itoa_neg_one n hn hq)
        have I1 := Lib.hid (show I64 (-n.tmod 10) by unfold I64; omega)
        have C1 := fun w => IH.out (-n.tmod 10) w (show 2 * (-n.tmod 10).natAbs + (if -n.tmod 10 < 0 then 1 else 0) ≤ k by rw [if_neg (by omega)]; omega) I1.out
        have C1 := Lib.hid C1
        have q5 : -10 < n.tmod 10 := by omega
        have q6 : -922337203685477581 < n.tdiv 10 := by omega
        clear h1' q1 q2
        go_enter Tryd.func24, Tryd.ntmps24
        go_wp2_with fail
        refine (C1.out w).mono ?_
        rintro e w1 ⟨s1, rfl, hs1, hb1⟩
        have z1 : s1.size ≤ 21 := dig_size hs1 I1.out
        have hs1 := Lib.hid hs1
        go_wp2_with fail
        go_ret
        exact ⟨_, rfl, by rw [cat_toList, hs1.out, hv.out, show 0 - n.tmod 10 = -n.tmod 10 by omega]; rfl, hb1⟩
      · have hv := Lib.hid (itoa_neg_step n hn hq)
        have I1 := Lib.hid (show I64 (n.tdiv 10) by unfold I64; omega)
        have C1 := fun w => IH.out (n.tdiv 10) w (show 2 * (n.tdiv 10).natAbs + (if n.tdiv 10 < 0 then 1 else 0) ≤ k by rw [if_pos (by omega)]; omega) I1.out
        have I2 := Lib.hid (show I64 (-n.tmod 10) by unfold I64; omega)
        have C2 := fun w => IH.out (-n.tmod 10) w (show 2 * (-n.tmod 10).natAbs + (if -n.tmod 10 < 0 then 1 else 0) ≤ k by rw [if_neg (by omega)]; omega) I2.out
        have C1 := Lib.hid C1
        have C2 := Lib.hid C2
        have q5 : -10 < n.tmod 10 := by omega
        have q6 : -922337203685477581 < n.tdiv 10 := by omega
        clear h1' q1 q2
        go_enter Tryd.func24, Tryd.ntmps24
        go_wp2_with fail
        refine (C1.out w).mono ?_
        rintro e w1 ⟨s1, rfl, hs1, hb1⟩
        have z1 : s1.size ≤ 21 := dig_size hs1 I1.out
        have hs1 := Lib.hid hs1
        go_wp2_with fail
        refine (C2.out w1).mono ?_
        rintro e w2 ⟨s2, rfl, hs2, hb2⟩
        have z2 : s2.size ≤ 21 := dig_size hs2 I2.out
        have hs2 := Lib.hid hs2
        go_wp2_with fail
        go_ret
        exact ⟨_, rfl, by rw [cat_toList, hs1.out, hs2.out, hv.out, show 0 - n.tmod 10 = -n.tmod 10 by omega], on hb1 hb2⟩
    · rw [if_neg hn] at h1'
      by_cases h10 : n < 10
      · have hv := Lib.hid (itoa_one n (by omega) h10)
        obtain ⟨c, hc⟩ : ∃ c : UInt8, c = UInt8.ofNat (48 + n.toNat) := ⟨_, rfl⟩
        have cv := conv_one w (48 + n) c (by rw [hc, dig_toNat _ (by omega)]; omega)
        have hv := Lib.hid (show [c] = itoa n by rw [hc]; exact hv.out.symm)
        clear hc
        clear h1'
        go_enter Tryd.func24, Tryd.ntmps24
        go_wp2_with fail
        go_ret
        exact ⟨_, rfl, hv.out, (Below.refl _ _).alloc (Nat.le_refl _) _⟩
      · have hv := Lib.hid (itoa_pos_step n (by omega))
        have I1 := Lib.hid (show I64 (n / 10) by unfold I64; omega)
        have C1 := fun w => IH.out (n / 10) w (show 2 * (n / 10).natAbs + (if n / 10 < 0 then 1 else 0) ≤ k by rw [if_neg (by omega)]; omega) I1.out
        have I2 := Lib.hid (show I64 (n % 10) by unfold I64; omega)
        have C2 := fun w => IH.out (n % 10) w (show 2 * (n % 10).natAbs + (if n % 10 < 0 then 1 else 0) ≤ k by rw [if_neg (by omega)]; omega) I2.out
        have C1 := Lib.hid C1
        have C2 := Lib.hid C2
        clear h1'
        go_enter Tryd.func24, Tryd.ntmps24
        go_wp2_with fail
        refine (C1.out w).mono ?_
        rintro e w1 ⟨s1, rfl, hs1, hb1⟩
        have z1 : s1.size ≤ 21 := dig_size hs1 I1.out
        have hs1 := Lib.hid hs1
        go_wp2_with fail
        refine (C2.out w1).mono ?_
        rintro e w2 ⟨s2, rfl, hs2, hb2⟩
        have z2 : s2.size ≤ 21 := dig_size hs2 I2.out
        have hs2 := Lib.hid hs2
        go_wp2_with fail
        go_ret
        exact ⟨_, rfl, by rw [cat_toList, hs1.out, hs2.out, hv.out], on hb1 hb2⟩
theorem digits_any (n : Int) (h : I64 n) (w : World) :
    Calls Tryd.prog 24 #[.int .i64 n] w fun e w' => ∃ s : ByteArray, e = .returned (.string s) ∧ s.data.toList = itoa n ∧ Below w.heap.size w w' := digits_deep _ n w (Nat.le_refl _) h

/-! TapeFault -/
set_option maxHeartbeats 1000000 in
theorem fault_any (l : List Int) (A : Option Addr) (c N : Nat) (hl : l.length ≤ maxLen) (w : World) (ha : At w N A l) :
    Calls Tryd.prog 6 #[.slice A l.length c] w fun e w' => e = .returned (.bool (!validB l)) ∧ w = w' := by
  unfold maxLen at hl
  have HA := Lib.hid ha
  clear ha
  go_enter Tryd.func6, Tryd.ntmps6
  go_wp2
  go_loop [3] (fun i => ∃ k : Nat, k ≤ l.length ∧ i = .int .i64 k ∧ Hid (Valid (l.take k))) (fun i => l.length - (intOf i).toNat)
  case atStart => exact ⟨0, Nat.zero_le _, rfl, fun n hn => by simp at hn⟩
  case round =>
    obtain ⟨k, hk, rfl, hv⟩ := hrel
    by_cases h1 : k < l.length
    · obtain ⟨b, off, rfl, _, hcell⟩ := HA.out (by omega)
      have c1 := hcell k h1
      clear hcell
      have ht := Lib.hid (take_getD l k h1)
      have hin := Lib.hid (show l.getD k 0 ∈ l by rw [List.getD, List.getElem?_eq_getElem h1]; exact List.getElem_mem h1)
      generalize l.getD k 0 = n at c1 ht hin
      by_cases hg : 0 ≤ n ∧ n ≤ 1000
      · have hv2 := Lib.hid (show Valid (l.take (k + 1)) by
          rw [ht.out]
          intro m hm
          rcases List.mem_append.1 hm with h | h
          · exact hv.out m h
          · have : m = n := by simpa using h
            subst this; exact hg)
        obtain ⟨g1, g2⟩ := hg
        have g1' : ¬ n < 0 := by omega
        have g2' : ¬ 1000 < n := by omega
        go_wp2
        go_round
        case rel => exact ⟨k + 1, h1, by go_num, hv2.out⟩
        case measure => simp [intOf]; omega
      · have hno := Lib.hid (show (!validB l) = true by rw [(validB_no l).2 (fun h => hg (h n hin.out))]; rfl)
        rcases (show n < 0 ∨ (¬ n < 0 ∧ 1000 < n) by omega) with g | ⟨g, g'⟩
        all_goals
          clear hg
          go_wp2
          go_ret
          exact ⟨ret_b hno.out.symm, rfl⟩
    · have hyes := Lib.hid (show (!validB l) = false by rw [(validB_iff l).2 (by rw [← List.take_of_length_le (show l.length ≤ k by omega)]; exact hv.out)]; rfl)
      go_wp2
      go_ret
      exact ⟨ret_b hyes.out.symm, rfl⟩

/-! Shorter: it draws its order -/
set_option maxHeartbeats 1000000 in
theorem shorter_any (l m : List Int) (A B : Option Addr) (c d N : Nat) (hl : l.length ≤ maxLen) (hm : m.length ≤ maxLen) (w : World) (ha : At w N A l) (hb : At w N B m) :
    Calls Tryd.prog 13 #[.slice A l.length c, .slice B m.length d] w fun e w' => e = .returned (.bool (lessL l m)) ∧ ∃ n, w' = w.drewN n := by
  unfold maxLen at hl hm
  have HA := Lib.hid ha
  have HB := Lib.hid hb
  clear ha hb
  by_cases e : l.length = m.length
  · have ht : (((l.length : Nat) : Int) != ((m.length : Nat) : Int)) = false := by rw [bne_eq_false_iff_eq]; omega
    have hlm : l.length ≤ m.length := by omega
    have hml : m.length ≤ l.length := by omega
    have hv0 := Lib.hid (show lessL l m = decide (cmpL l m < 0) by unfold lessL; rw [if_pos e])
    clear e
    go_enter Tryd.func13, Tryd.ntmps13
    go_wp2
    go_loopw [5] (fun i wr => ∃ k n : Nat, k ≤ l.length ∧ i = .int .i64 k ∧ wr = w.drewN n ∧ Hid (cmpL (l.drop k) (m.drop k) = cmpL l m)) (fun i _ => l.length - (intOf i).toNat)
    case atStart => exact ⟨0, 0, Nat.zero_le _, rfl, rfl, rfl⟩
    case round =>
      obtain ⟨k, n, hk, rfl, rfl, hc⟩ := hrel
      by_cases h1 : k < l.length
      · have h2 : k < m.length := by omega
        obtain ⟨b, off, rfl, _, hcell⟩ := HA.out (by omega)
        have c1 := hcell k h1
        clear hcell
        obtain ⟨b2, off2, rfl, _, hcell2⟩ := HB.out (by omega)
        have c2 := hcell2 k h2
        clear hcell2
        have hs := Lib.hid (cmpL_step l m k h1 h2)
        generalize l.getD k 0 = x at c1 hs
        generalize m.getD k 0 = y at c2 hs
        have h1' : (k : Int) < l.length := by omega
        have h2' : (k : Int) < m.length := by omega
        rcases Int.lt_trichotomy x y with h | h | h
        · have hv := Lib.hid (show lessL l m = true by rw [hv0.out, ← hc.out, hs.out, if_pos h]; rfl)
          have ht3 : (x != y) = true := by rw [bne_iff_ne]; omega
          go_wp2
          go_quiet (fail)
          go_wp2
          go_quiet (fail)
          go_wp2
          go_ret
          refine ⟨ret_b hv.out.symm, ?_⟩
          simp only [World.drewN_drewN]
          exact ⟨_, rfl⟩
        · subst h
          have hv := Lib.hid (show cmpL (l.drop (k + 1)) (m.drop (k + 1)) = cmpL l m by rw [← hc.out, hs.out, if_neg (by omega), if_neg (by omega)])
          go_wp2
          go_quiet (fail)
          go_wp2
          go_roundw
          case rel => exact ⟨k + 1, _, by omega, by go_num, rfl, hv.out⟩
          case measure => simp [intOf]; omega
        · have hv := Lib.hid (show lessL l m = false by rw [hv0.out, ← hc.out, hs.out, if_neg (by omega), if_pos h]; rfl)
          have ht3 : (x != y) = true := by rw [bne_iff_ne]; omega
          have ht4 : ¬ x < y := by omega
          go_wp2
          go_quiet (fail)
          go_wp2
          go_quiet (fail)
          go_wp2
          go_ret
          refine ⟨by first | exact ret_b hv.out.symm | exact ret_b (by rw [hv.out]; simp; omega), ?_⟩
          simp only [World.drewN_drewN]
          exact ⟨_, rfl⟩
      · have hv := Lib.hid (show lessL l m = false by rw [hv0.out, ← hc.out, cmpL_done l m k (by omega) (by omega)]; rfl)
        go_wp2
        go_ret
        exact ⟨ret_b hv.out.symm, _, rfl⟩
  · have ht : (((l.length : Nat) : Int) != ((m.length : Nat) : Int)) = true := by rw [bne_iff_ne]; omega
    by_cases h : l.length < m.length
    · have hv := Lib.hid (show lessL l m = true by unfold lessL; rw [if_neg e, decide_eq_true h])
      clear e
      go_enter Tryd.func13, Tryd.ntmps13
      go_wp2
      go_ret
      exact ⟨ret_b hv.out.symm, 0, rfl⟩
    · have hv := Lib.hid (show lessL l m = false by unfold lessL; rw [if_neg e, decide_eq_false h])
      clear e
      go_enter Tryd.func13, Tryd.ntmps13
      go_wp2
      go_ret
      exact ⟨ret_b hv.out.symm, 0, rfl⟩

/-! TapeText -/
set_option maxHeartbeats 1000000 in
theorem tapetext_any (l : List Int) (A : Option Addr) (c N : Nat) (hl : l.length ≤ 4294967296) (hi : ∀ n ∈ l, I64 n) (w : World) (ha : At w N A l) (hN : N ≤ w.heap.size) :
    Calls Tryd.prog 15 #[.slice A l.length c] w fun e w' => ∃ s : ByteArray, e = .returned (.string s) ∧ s.data.toList = textL l ∧ Below w.heap.size w w' := by
  have HA := Lib.hid ha
  have HI := Lib.hid hi
  have HN := Lib.hid hN
  clear ha hi hN
  go_enter Tryd.func15, Tryd.ntmps15
  go_wp2
  go_loopw [3, 4] (fun t i wr => ∃ (k : Nat) (s : ByteArray), k ≤ l.length ∧ i = .int .i64 k ∧ t = .string s ∧ Hid (s.data.toList = textL (l.take k)) ∧ Below w.heap.size w wr) (fun _ i _ => l.length - (intOf i).toNat)
  case atStart => exact ⟨0, _, Nat.zero_le _, rfl, rfl, (show ([] : List UInt8) = textL (l.take 0) by simp [textL]), Below.refl _ _⟩
  case round =>
    obtain ⟨k, s, hk, rfl, rfl, hs, hb⟩ := hrel
    have hz := hb.size
    by_cases h1 : k < l.length
    · obtain ⟨b, off, rfl, hbN, hcell⟩ := HA.out (by omega)
      have c1 := (hb.cell (p := ⟨b, off + k, none⟩) (by have := HN.out; show b < _; omega)).trans (hcell k h1)
      clear hcell
      have hn := Lib.hid (HI.out (l.getD k 0) (by rw [List.getD, List.getElem?_eq_getElem h1]; exact List.getElem_mem h1))
      have htx := Lib.hid (textL_take l k h1)
      generalize l.getD k 0 = n at c1 hn htx
      have DI := Lib.hid (fun (w : World) => digits_any n hn.out w)
      have hss : s.size ≤ 100000000000 := by
        rw [size_toList, hs.out]
        have h2 := textL_le (l.take k) (fun n hn => HI.out n (List.mem_of_mem_take hn))
        rw [List.length_take] at h2
        omega
      by_cases h0 : k = 0
      · subst h0
        have c0 : wr.cell? ⟨b, off, none⟩ = some (.int .i64 n) := c1
        clear c1
        go_wp2_with fail
        refine (DI.out _).mono ?_
        rintro e w1 ⟨s1, rfl, hs1, hb1⟩
        have hz1 : s1.size ≤ 21 := dig_size hs1 hn.out
        have HS1 := Lib.hid hs1
        clear hs1
        go_wp2
        go_roundw
        case rel =>
          refine ⟨1, _, h1, rfl, rfl, ?_, hb.trans (hb1.mono hz)⟩
          show (_ ++ _ : ByteArray).data.toList = _
          rw [cat_toList, hs.out, HS1.out, htx.out]
          simp [textL]
        case measure => simp [intOf]; omega
      · have h0' : (0 : Int) < k := by omega
        have HTX := Lib.hid (show textL (l.take (k + 1)) = (textL (l.take k) ++ [46]) ++ itoa n by rw [htx.out, if_neg h0])
        clear h0
        go_wp2_with fail
        refine (DI.out _).mono ?_
        rintro e w1 ⟨s1, rfl, hs1, hb1⟩
        have hz1 : s1.size ≤ 21 := dig_size hs1 hn.out
        have HS1 := Lib.hid hs1
        clear hs1
        go_wp2
        go_roundw
        case rel =>
          refine ⟨k + 1, _, h1, by go_num, rfl, ?_, hb.trans (hb1.mono hz)⟩
          show (_ ++ _ : ByteArray).data.toList = _
          rw [cat_toList, cat_toList, hs.out, HS1.out, HTX.out]
        case measure => simp [intOf]; omega
    · have hs' := Lib.hid (show s.data.toList = textL l by rw [hs.out, List.take_of_length_le (by omega)])
      go_wp2
      go_ret
      exact ⟨s, rfl, hs'.out, hb⟩
end Go.Proofs.YtjajjadhnfhofaaDoor.Ref
