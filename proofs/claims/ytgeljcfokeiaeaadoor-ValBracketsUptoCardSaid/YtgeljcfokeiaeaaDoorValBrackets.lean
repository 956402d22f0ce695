/-
  ValBrackets: a text has a ( and a ) for each list, none shut before it is open, and no other sign but a blank and those of numbers.
  Conditions: the second form's bound on what comes in; the library's variables as the program's text lays them.
-/
import Derived.Test.YtgeljcfokeiaeaaDoorTellsP
import Derived.Test.YtgeljcfokeiaeaaDoorLists
namespace Go.Proofs.YtgeljcfokeiaeaaDoor.ValBracketsLaw
open Go.ChangeShapes Go.WideShapes Go.ChangeAt Go.RowKit Lists Ints Build Ref Vals
set_option linter.unusedVariables false

theorem count_step (s : ByteArray) (k : Nat) (h : k < s.size) (c : UInt8) : (s.data.toList.take (k + 1)).count c = (s.data.toList.take k).count c + if s[k]'h = c then 1 else 0 := by
  have hl : k < s.data.toList.length := by rw [← size_toList]; exact h
  rw [List.take_succ_eq_append_getElem hl, List.count_append, Ref.byte_at s k h]
  congr 1
  rw [List.count_singleton]
  by_cases e : s[k]'h = c <;> simp [e]
theorem bal_at {s : ByteArray} {l : List UInt8} (hs : s.data.toList = l) (h : Bal l) (k : Nat) : (s.data.toList.take k).count 41 ≤ (s.data.toList.take k).count 40 := by rw [hs]; exact h.2 k

set_option maxHeartbeats 16000000 in
set_option maxRecDepth 100000 in
theorem walk (t : Tr) (A : Option Addr) (c n : Nat) (hbulk : t.size ≤ 1048576) (w : World)
    (hT : TAt w (Bel w.heap.size) n (tv t A c) t) (ht : Tab w) (he : Errs w) :
    Calls Tryd.prog 7 #[tv t A c] w fun e w' => e = .returned (.bool true) ∧ Below w.heap.size w w' := by
  have hb0 : Below w.heap.size w (w.alloc (tc t A c)) := (Below.refl _ _).alloc (Nat.le_refl _) _
  have lw : ∀ (w1 : World), Below (w.alloc (tc t A c)).heap.size (w.alloc (tc t A c)) w1 → Below w.heap.size w w1 := fun _ h => on hb0 h
  have LW := Lib.hid lw
  have BX := Lib.hid (fun w1 hb => box_facts w w1 (.bool t.list) (.int .i64 t.num) (.slice A t.items.length c) hb)
  have CK := Lib.hid (fun w1 (hb : Below (w.alloc (tc t A c)).heap.size (w.alloc (tc t A c)) w1) => check_prog w1 (hT.below (lw _ hb)) (lw _ hb).size (by omega))
  have TX := Lib.hid (fun w1 (hb : Below (w.alloc (tc t A c)).heap.size (w.alloc (tc t A c)) w1) => text_prog w1 (hT.below (lw _ hb)) (lw _ hb).size (by omega) (ht.below (lw _ hb)))
  have LI := Lib.hid (fun w1 (hb : Below (w.alloc (tc t A c)).heap.size (w.alloc (tc t A c)) w1) => lists_any n t (tv t A c) w.heap.size w1 (hT.below (lw _ hb)) (lw _ hb).size (by omega))
  have I1 := Lib.hid hT.i64
  have P5 := Lib.hid (parse5 (w.alloc (tc t A c)) (ht.below hb0) (he.below hb0))
  clear hT ht he hb0 lw
  by_cases f0 : faultV t 0 = 0
  · rw [f0, errOf_ok] at CK
    have GT : okB 6 t = true := (fault_ok 6 t 0 rfl).1 f0
    have CV := Lib.hid (count_V 6 t GT)
    have hsz : (⟨(textV t).toArray⟩ : ByteArray).size ≤ 103079215104 := by rw [RowKit.size_of_list]; have := textV_le t I1.out; omega
    have SL := Lib.hid (show (⟨(textV t).toArray⟩ : ByteArray).data.toList = textV t by simp)
    have HLN : listsN t ≤ 1048576 := Nat.le_trans (listsN_le t) hbulk
    generalize (⟨(textV t).toArray⟩ : ByteArray) = s at TX SL hsz
    clear f0 GT
    go_enter Tryd.func7, Tryd.ntmps7
    go_wp2_with fail
    refine P5.out.mono ?_
    rintro e w1 ⟨b5, o5, c5, rfl, hc5, hlt5, b1⟩
    have B1 : Below (w.alloc (tc t A c)).heap.size (w.alloc (tc t A c)) (w1.alloc (.cells #[.bool true, .int .i64 0, .slice (some ⟨b5, o5, none⟩) 1 c5] 24)) := on b1 ((Below.refl w1.heap.size w1).alloc (Nat.le_refl _) _)
    obtain ⟨p0, p1, p2⟩ := BX.out _ B1
    clear b1 hc5 hlt5
    go_wp2_with fail
    refine (CK.out _ B1).mono ?_
    rintro e w2 ⟨rfl, b2'⟩
    have b2 := on B1 b2'
    clear p0 p1 p2 b2' B1
    obtain ⟨p0, p1, p2⟩ := BX.out w2 b2
    go_wp2_with fail
    refine (TX.out w2 b2).mono ?_
    rintro e w3 ⟨rfl, b3'⟩
    have b3 := on b2 b3'
    have B3' := Lib.hid b3
    clear p0 p1 p2 b3' b2 b3
    go_wp2_with fail
    go_loopw [6, 7, 8] (fun a b i wr => ∃ (k o sh : Nat), k ≤ s.size ∧ o ≤ k ∧ sh ≤ o ∧ a = .int .i64 o ∧ b = .int .i64 sh ∧ i = .int .i64 k ∧ Hid (o = (s.data.toList.take k).count 40) ∧ Hid (sh = (s.data.toList.take k).count 41) ∧ wr = w3) (fun _ _ i _ => s.size - (intOf i).toNat)
    case atStart => exact ⟨0, 0, 0, Nat.zero_le _, Nat.le_refl _, Nat.le_refl _, rfl, rfl, rfl, (show 0 = (s.data.toList.take 0).count 40 by simp), (show 0 = (s.data.toList.take 0).count 41 by simp), rfl⟩
    case round =>
      obtain ⟨k, o, sh, hk, ho, hsh, rfl, rfl, rfl, h40, h41, rfl⟩ := hrel
      by_cases hlt : k < s.size
      · have hok := Lib.hid (okc_V t (s[k]'hlt) (by rw [← SL.out, ← Ref.byte_at s k hlt]; exact List.getElem_mem _))
        have S40 := Lib.hid (count_step s k hlt 40)
        have S41 := Lib.hid (count_step s k hlt 41)
        have BN := Lib.hid (bal_at SL.out (bal_V t) (k + 1))
        have fin : ∀ (P : Prop), (s[k]'hlt = 40 → P) → (s[k]'hlt = 41 → P) → (s[k]'hlt = 32 → P) → (s[k]'hlt = 45 → P) → (48 ≤ (s[k]'hlt).toNat ∧ (s[k]'hlt).toNat ≤ 57 → P) → P := by
          intro P a1 a2 a3 a4 a5
          rcases hok.out with h | h | h | h | h
          · exact a1 h
          · exact a2 h
          · exact a3 h
          · exact a4 h
          · exact a5 h
        refine fin _ (fun hc => ?_) (fun hc => ?_) (fun hc => ?_) (fun hc => ?_) (fun hc => ?_)
        · have hv : (s[k]'hlt).toNat = 40 := by rw [hc]; rfl
          have E40 := Lib.hid (show o + 1 = (s.data.toList.take (k + 1)).count 40 by rw [S40.out, ← h40.out]; rw [hc]; rfl)
          have E41 := Lib.hid (show sh = (s.data.toList.take (k + 1)).count 41 by rw [S41.out, ← h41.out]; rw [hc]; rfl)
          have hnew : sh ≤ o + 1 := by have := BN.out; rw [← E40.out, ← E41.out] at this; exact this
          have e40 : (((s[k]'hlt).toNat : Int) == 40) = true := by rw [beq_iff_eq]; omega
          have e41 : (((s[k]'hlt).toNat : Int) == 41) = false := by rw [beq_eq_false_iff_ne]; omega
          have n40 : (((s[k]'hlt).toNat : Int) != 40) = false := by rw [bne_eq_false_iff_eq]; omega
          have q0 : decide ((o : Int) + 1 < (sh : Int)) = false := by rw [decide_eq_false_iff_not]; omega
          clear hc hv fin
          go_wp2_with fail
          go_roundw
          case rel => exact ⟨k + 1, o + 1, sh, hlt, by omega, hnew, by go_num, by go_num, by go_num, E40.out, E41.out, by first | rfl | trivial⟩
          case measure => simp [intOf]; omega
        · have hv : (s[k]'hlt).toNat = 41 := by rw [hc]; rfl
          have E40 := Lib.hid (show o = (s.data.toList.take (k + 1)).count 40 by rw [S40.out, ← h40.out]; rw [hc]; rfl)
          have E41 := Lib.hid (show sh + 1 = (s.data.toList.take (k + 1)).count 41 by rw [S41.out, ← h41.out]; rw [hc]; rfl)
          have hnew : sh + 1 ≤ o := by have := BN.out; rw [← E40.out, ← E41.out] at this; exact this
          have e40 : (((s[k]'hlt).toNat : Int) == 40) = false := by rw [beq_eq_false_iff_ne]; omega
          have e41 : (((s[k]'hlt).toNat : Int) == 41) = true := by rw [beq_iff_eq]; omega
          have n40 : (((s[k]'hlt).toNat : Int) != 40) = true := by rw [bne_iff_ne]; omega
          have n41 : (((s[k]'hlt).toNat : Int) != 41) = false := by rw [bne_eq_false_iff_eq]; omega
          have q0 : decide ((o : Int) < (sh : Int) + 1) = false := by rw [decide_eq_false_iff_not]; omega
          clear hc hv fin
          go_wp2_with fail
          go_roundw
          case rel => exact ⟨k + 1, o, sh + 1, hlt, by omega, hnew, by go_num, by go_num, by go_num, E40.out, E41.out, by first | rfl | trivial⟩
          case measure => simp [intOf]; omega
        · have hv : (s[k]'hlt).toNat = 32 := by rw [hc]; rfl
          have E40 := Lib.hid (show o = (s.data.toList.take (k + 1)).count 40 by rw [S40.out, ← h40.out]; rw [hc]; rfl)
          have E41 := Lib.hid (show sh = (s.data.toList.take (k + 1)).count 41 by rw [S41.out, ← h41.out]; rw [hc]; rfl)
          have hnew : sh ≤ o := by have := BN.out; rw [← E40.out, ← E41.out] at this; exact this
          have e40 : (((s[k]'hlt).toNat : Int) == 40) = false := by rw [beq_eq_false_iff_ne]; omega
          have e41 : (((s[k]'hlt).toNat : Int) == 41) = false := by rw [beq_eq_false_iff_ne]; omega
          have n40 : (((s[k]'hlt).toNat : Int) != 40) = true := by rw [bne_iff_ne]; omega
          have n41 : (((s[k]'hlt).toNat : Int) != 41) = true := by rw [bne_iff_ne]; omega
          have n32 : (((s[k]'hlt).toNat : Int) != 32) = false := by rw [bne_eq_false_iff_eq]; omega
          have q0 : decide ((o : Int) < (sh : Int)) = false := by rw [decide_eq_false_iff_not]; omega
          have q1 : decide (o < sh) = false := by rw [decide_eq_false_iff_not]; omega
          clear hc hv fin
          go_wp2_with fail
          go_roundw
          case rel => exact ⟨k + 1, o, sh, hlt, by omega, hnew, by go_num, by go_num, by go_num, E40.out, E41.out, by first | rfl | trivial⟩
          case measure => simp [intOf]; omega
        · have hv : (s[k]'hlt).toNat = 45 := by rw [hc]; rfl
          have E40 := Lib.hid (show o = (s.data.toList.take (k + 1)).count 40 by rw [S40.out, ← h40.out]; rw [hc]; rfl)
          have E41 := Lib.hid (show sh = (s.data.toList.take (k + 1)).count 41 by rw [S41.out, ← h41.out]; rw [hc]; rfl)
          have hnew : sh ≤ o := by have := BN.out; rw [← E40.out, ← E41.out] at this; exact this
          have e40 : (((s[k]'hlt).toNat : Int) == 40) = false := by rw [beq_eq_false_iff_ne]; omega
          have e41 : (((s[k]'hlt).toNat : Int) == 41) = false := by rw [beq_eq_false_iff_ne]; omega
          have n40 : (((s[k]'hlt).toNat : Int) != 40) = true := by rw [bne_iff_ne]; omega
          have n41 : (((s[k]'hlt).toNat : Int) != 41) = true := by rw [bne_iff_ne]; omega
          have n32 : (((s[k]'hlt).toNat : Int) != 32) = true := by rw [bne_iff_ne]; omega
          have n45 : (((s[k]'hlt).toNat : Int) != 45) = false := by rw [bne_eq_false_iff_eq]; omega
          have q0 : decide ((o : Int) < (sh : Int)) = false := by rw [decide_eq_false_iff_not]; omega
          have q1 : decide (o < sh) = false := by rw [decide_eq_false_iff_not]; omega
          clear hc hv fin
          go_wp2_with fail
          go_roundw
          case rel => exact ⟨k + 1, o, sh, hlt, by omega, hnew, by go_num, by go_num, by go_num, E40.out, E41.out, by first | rfl | trivial⟩
          case measure => simp [intOf]; omega
        · obtain ⟨d1, d2⟩ := hc
          have E40 := Lib.hid (show o = (s.data.toList.take (k + 1)).count 40 by rw [S40.out, ← h40.out]; rw [if_neg (by intro e; rw [e] at d1; revert d1; decide), Nat.add_zero])
          have E41 := Lib.hid (show sh = (s.data.toList.take (k + 1)).count 41 by rw [S41.out, ← h41.out]; rw [if_neg (by intro e; rw [e] at d1; revert d1; decide), Nat.add_zero])
          have hnew : sh ≤ o := by have := BN.out; rw [← E40.out, ← E41.out] at this; exact this
          have e40 : (((s[k]'hlt).toNat : Int) == 40) = false := by rw [beq_eq_false_iff_ne]; omega
          have e41 : (((s[k]'hlt).toNat : Int) == 41) = false := by rw [beq_eq_false_iff_ne]; omega
          have n40 : (((s[k]'hlt).toNat : Int) != 40) = true := by rw [bne_iff_ne]; omega
          have n41 : (((s[k]'hlt).toNat : Int) != 41) = true := by rw [bne_iff_ne]; omega
          have n32 : (((s[k]'hlt).toNat : Int) != 32) = true := by rw [bne_iff_ne]; omega
          have n45 : (((s[k]'hlt).toNat : Int) != 45) = true := by rw [bne_iff_ne]; omega
          have l48 : decide (((s[k]'hlt).toNat : Int) < 48) = false := by rw [decide_eq_false_iff_not]; omega
          have l57 : decide (57 < ((s[k]'hlt).toNat : Int)) = false := by rw [decide_eq_false_iff_not]; omega
          have q0 : decide ((o : Int) < (sh : Int)) = false := by rw [decide_eq_false_iff_not]; omega
          have q1 : decide (o < sh) = false := by rw [decide_eq_false_iff_not]; omega
          clear fin
          go_wp2_with fail
          go_roundw
          case rel => exact ⟨k + 1, o, sh, hlt, by omega, hnew, by go_num, by go_num, by go_num, E40.out, E41.out, by first | rfl | trivial⟩
          case measure => simp [intOf]; omega
      · have E1 := Lib.hid (show o = listsN t by rw [h40.out, List.take_of_length_le (by rw [← size_toList]; omega), SL.out]; exact CV.out)
        have E2 := Lib.hid (show sh = o by rw [h40.out, h41.out, List.take_of_length_le (by rw [← size_toList]; omega), SL.out]; exact (bal_V t).1)
        have LC := LI.out _ B3'.out
        rw [← E1.out] at LC
        have HLC := Lib.hid LC
        obtain ⟨p0, p1, p2⟩ := BX.out _ B3'.out
        clear LC
        obtain rfl : sh = o := E2.out
        go_wp2_with fail
        refine HLC.out.mono ?_
        rintro e w5 ⟨rfl, b5⟩
        have B5 := Lib.hid (on B3'.out b5)
        clear b5 p0 p1 p2
        go_wp2_with fail
        go_ret
        exact ⟨by first | rfl | simp, LW.out _ B5.out⟩
  · rw [errOf_no f0] at CK
    generalize faultV t 0 = f at CK
    clear f0
    go_enter Tryd.func7, Tryd.ntmps7
    go_wp2_with fail
    refine P5.out.mono ?_
    rintro e w1 ⟨b5, o5, c5, rfl, hc5, hlt5, b1⟩
    have B1 : Below (w.alloc (tc t A c)).heap.size (w.alloc (tc t A c)) (w1.alloc (.cells #[.bool true, .int .i64 0, .slice (some ⟨b5, o5, none⟩) 1 c5] 24)) := on b1 ((Below.refl w1.heap.size w1).alloc (Nat.le_refl _) _)
    obtain ⟨p0, p1, p2⟩ := BX.out _ B1
    clear b1 hc5 hlt5
    go_wp2_with fail
    refine (CK.out _ B1).mono ?_
    rintro e w2 ⟨rfl, b2'⟩
    have b2 := on B1 b2'
    clear p0 p1 p2 b2' B1
    go_wp2_with fail
    go_ret
    exact ⟨rfl, LW.out _ b2⟩
end Go.Proofs.YtgeljcfokeiaeaaDoor.ValBracketsLaw
