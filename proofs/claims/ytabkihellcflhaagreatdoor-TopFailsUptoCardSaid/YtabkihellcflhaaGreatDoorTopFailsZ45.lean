/- TopFails, part 45 of the proof: The program's Count of a right generator. Condition: the size. -/
import Derived.Test.YtabkihellcflhaaGreatDoorTopFailsZ5
import Derived.Test.YtabkihellcflhaaGreatDoorTopFailsZ44
import Derived.Lib.MinMax
/- The program's Count of a right generator. Condition: the size. -/
namespace Go.Proofs.YtabkihellcflhaaGreatDoor.Gens
open Go.RowKit Lists Ints Vals
set_option linter.unusedVariables false

theorem capped_any (x : Int) (w : World) : Calls Tryz.prog 65 #[.int .i64 x] w fun e w' => e = .returned (.int .i64 (min x 1048577)) ∧ w = w' := by
  go_enter Tryz.func65, Tryz.ntmps65
  go_wp2
  go_ret
  exact ⟨rfl, rfl⟩
theorem min_few (x : Int) : min x 1048577 = min 1048577 x := Int.min_comm _ _

set_option maxHeartbeats 8000000 in
set_option maxRecDepth 100000 in
theorem gcount_any : ∀ (n : Nat) (t : Gn) (v : Value) (B : Nat) (w : World), GAt w (GBel B) n v t → B ≤ w.heap.size → t.size ≤ 4294967296 → Right t →
    Calls Tryz.prog 37 #[v] w fun e w' => e = .returned (.int .i64 (countG t)) ∧ Below w.heap.size w w' := by
  intro n
  induction n with
  | zero => intro t v B w h; exact h.elim
  | succ n ih =>
    intro t v B w h hB hsz hg
    obtain ⟨m, A, c, e, hw, rfl, hit⟩ := h.open_
    obtain rfl : n = m := by omega
    have IH := Lib.hid ih
    have HIT := Lib.hid hit
    have HB := Lib.hid hB
    have HS := Lib.hid hsz
    have HG := Lib.hid hg
    have hln : t.subs.length ≤ 4294967296 := by have := glen_sizes t.subs; have := gsize_subs t; omega
    have H0 : Below w.heap.size w (w.alloc (gc t A c)) := (Below.refl _ _).alloc (Nat.le_refl _) _
    have H0 := Lib.hid H0
    have SB := Lib.hid (gsize_subs t)
    have CP := Lib.hid (fun (x : Int) (w : World) => capped_any x w)
    obtain ⟨w1, w2, w3⟩ := hw
    have IA := Lib.hid (i64_wf w2)
    have IB := Lib.hid (i64_wf w3)
    clear ih hit h hB hsz e w1 w2 w3 hg
    cases t with | node k a b subs =>
    simp only [Gn.a, Gn.b, Gn.subs] at *
    change Calls Tryz.prog 37 #[.agg #[.int .i64 k, .int .i64 a, .int .i64 b, .slice A subs.length c]] w _
    obtain ⟨m2, m5, m4, k1, k5⟩ := right_max HG.out
    have RS := Lib.hid (show ∀ x ∈ subs, Right x from HG.out.subs)
    obtain ⟨a1, a2⟩ := IA.out
    obtain ⟨b1, b2⟩ := IB.out
    rcases (show k = 1 ∨ k = 2 ∨ k = 3 ∨ k = 4 ∨ k = 5 by omega) with rfl | rfl | rfl | rfl | rfl
    · have EV := Lib.hid (show countG (.node 1 a b subs) = 1 by simp [countG])
      clear m2 m4 m5
      go_enter Tryz.func37, Tryz.ntmps37
      go_wp2_with fail
      go_ret
      exact ⟨ret_int EV.out.symm, H0.out⟩
    · have EV := Lib.hid (show countG (.node 2 a b subs) = b - a + 1 by simp [countG])
      obtain ⟨q1, q2⟩ := m2 rfl
      clear m2 m4 m5
      go_enter Tryz.func37, Tryz.ntmps37
      go_wp2_with fail
      go_ret
      exact ⟨ret_int EV.out.symm, H0.out⟩
    · have EV := Lib.hid (show countG (.node 3 a b subs) = countBoth subs 1 by simp [countG])
      clear m2 m4 m5
      go_enter Tryz.func37, Tryz.ntmps37
      go_wp2_with fail
      go_loopw [3, 27] (fun x i wr => ∃ (k : Nat) (o : Int), k ≤ subs.length ∧ i = .int .i64 k ∧ x = .int .i64 o ∧ Few o ∧ Hid (Below w.heap.size w wr) ∧ Hid (countG (.node 3 a b subs) = countBoth (subs.drop k) o)) (fun _ i _ => subs.length - (intOf i).toNat)
      case atStart => exact ⟨0, 1, Nat.zero_le _, rfl, rfl, ⟨by omega, by omega⟩, H0.out, (show countG (.node 3 a b subs) = countBoth (subs.drop 0) 1 from EV.out)⟩
      case round =>
        obtain ⟨k, o, hk, rfl, rfl, ho, HWW, hz⟩ := hrel
        by_cases hlt : k < subs.length
        · obtain ⟨ib, off, D, d, rfl, c0, c1, c2, c3, hti⟩ := sub_as HIT.out (HWW.out.mono HB.out) k hlt
          have hsi : (subs[k]'hlt).size ≤ 4294967296 := by have := gsize_mem subs _ (List.getElem_mem hlt); have h3 := HS.out; have h4 := SB.out; omega
          have hri : Right (subs[k]'hlt) := RS.out _ (List.getElem_mem hlt)
          have ba : Below wr.heap.size wr (wr.alloc (gc (subs[k]'hlt) D d)) := (Below.refl _ _).alloc (Nat.le_refl _) _
          have bsz : B ≤ wr.heap.size := Nat.le_trans HB.out HWW.out.size
          have C1 := IH.out (subs[k]'hlt) _ B _ (hti.below (ba.mono bsz)) (by have := HB.out; simp; omega) hsi hri
          have CF := count_few _ hri
          have DR := Lib.hid (both_drop subs k o hlt)
          have BA := Lib.hid (HWW.out.trans (ba.mono HWW.out.size))
          clear hti hsi hri ba bsz
          generalize countG (subs[k]'hlt) = q at C1 CF DR
          have HC1 := Lib.hid C1
          clear C1
          generalize subs[k]'hlt = y at HC1 c0 c1 c2 c3 BA
          have F2 := few_mul ho CF
          have FM := mul_fits ho CF
          obtain ⟨o1, o2⟩ := ho
          obtain ⟨q1, q2⟩ := CF
          obtain ⟨f1, f2⟩ := FM
          have F2 := Lib.hid F2
          go_wp2_with fail
          refine HC1.out.mono ?_
          rintro e w2 ⟨rfl, hb2⟩
          have B2 := Lib.hid (BA.out.trans (hb2.mono BA.out.size))
          clear hb2
          go_wp2_with (go_at_call 65; refine (CP.out _ _).mono ?_; rintro e w' ⟨rfl, rfl⟩)
          go_roundw
          case rel => exact ⟨k + 1, min 1048577 (o * q), hlt, by go_num, by rw [Int.min_comm], F2.out, B2.out, hz.out.trans DR.out⟩
          case measure => simp [intOf]; omega
        · have hr := Lib.hid (show countG (.node 3 a b subs) = o by
            rw [hz.out, List.drop_eq_nil_of_le (by omega), countBoth])
          go_wp2_with fail
          go_ret
          exact ⟨ret_int hr.out.symm, HWW.out⟩
    · obtain ⟨a3, a4, hl1⟩ := m4 rfl
      have hlt : 0 < subs.length := by omega
      have EV := Lib.hid (show countG (.node 4 a b subs) = manyN (countHead subs) (a + 1).toNat 0 1 by simp [countG])
      have HL1 := Lib.hid hl1
      clear m2 m4 m5 hl1
      have H0 := Lib.hid (show Below w.heap.size w (w.alloc (.cells #[.int .i64 4, .int .i64 a, .int .i64 b, .slice A subs.length c] 24)) from H0.out)
      obtain ⟨ib, off, D, d, rfl, c0, c1, c2, c3, hti⟩ := sub_as HIT.out (H0.out.mono HB.out) 0 hlt
      have hsi : (subs[0]'hlt).size ≤ 4294967296 := by have := gsize_mem subs _ (List.getElem_mem hlt); have h3 := HS.out; have h4 := SB.out; omega
      have hri : Right (subs[0]'hlt) := RS.out _ (List.getElem_mem hlt)
      have C1 := IH.out (subs[0]'hlt) _ B _ hti (Nat.le_trans HB.out H0.out.size) hsi hri
      have CF := count_few _ hri
      have HH := head_get subs hlt
      rw [HH] at EV
      clear hti hsi hri HH
      generalize countG (subs[0]'hlt) = q at C1 CF EV
      have HC1 := Lib.hid C1
      clear C1
      generalize subs[0]'hlt = y at HC1 c0 c1 c2 c3
      simp only [Nat.zero_mul, Nat.add_zero] at c0 c1 c2 c3
      have gl : decide (0 < subs.length) = true := by rw [decide_eq_true_eq]; exact hlt
      go_enter Tryz.func37, Tryz.ntmps37
      go_wp2_with fail
      refine HC1.out.mono ?_
      rintro e w2 ⟨rfl, hb2⟩
      have B2 := Lib.hid (on H0.out hb2)
      obtain ⟨_, cb1, _, _⟩ := gbox w w2 _ _ _ _ hb2
      clear hb2
      go_wp2_with fail
      go_loopw [6, 7, 48] (fun x p i wr => ∃ (k : Nat) (o u : Int), (k : Int) ≤ a + 1 ∧ i = .int .i64 k ∧ x = .int .i64 o ∧ p = .int .i64 u ∧ Few o ∧ Few u ∧ wr = w2 ∧ Hid (countG (.node 4 a b subs) = manyN q ((a + 1).toNat - k) o u)) (fun _ _ i _ => 7 - (intOf i).toNat)
      case atStart => exact ⟨0, 0, 1, by omega, rfl, rfl, rfl, ⟨by omega, by omega⟩, ⟨by omega, by omega⟩, rfl, EV.out⟩
      case round =>
        obtain ⟨k, o, u, hk, rfl, rfl, rfl, ho, hu, rfl, hz⟩ := hrel
        by_cases hlt : (k : Int) < a + 1
        · have F1 := few_add ho hu
          have F2 := few_mul hu CF
          have FM := mul_fits hu CF
          have hz2 := Lib.hid (show countG (.node 4 a b subs) = manyN q ((a + 1).toNat - (k + 1)) (min 1048577 (o + u)) (min 1048577 (u * q)) by
            rw [hz.out, show (a + 1).toNat - k = ((a + 1).toNat - (k + 1)) + 1 by omega, manyN])
          obtain ⟨o1, o2⟩ := ho
          obtain ⟨u1, u2⟩ := hu
          obtain ⟨q1, q2⟩ := CF
          obtain ⟨f1, f2⟩ := FM
          have F1 := Lib.hid F1
          have F2 := Lib.hid F2
          have gk : decide ((k : Int) < a + 1) = true := by rw [decide_eq_true_eq]; exact hlt
          go_wp2_with (go_at_call 65; refine (CP.out _ _).mono ?_; rintro e w' ⟨rfl, rfl⟩)
          go_roundw
          case rel => exact ⟨k + 1, min 1048577 (o + u), min 1048577 (u * q), by omega, by go_num, by rw [Int.min_comm], by rw [Int.min_comm], F1.out, F2.out, trivial, hz2.out⟩
          case measure => simp [intOf]; omega
        · have hr := Lib.hid (show countG (.node 4 a b subs) = o by
            rw [hz.out, show (a + 1).toNat - k = 0 by omega, manyN])
          have gk : decide ((k : Int) < a + 1) = false := by rw [decide_eq_false_iff_not]; exact hlt
          go_wp2_with fail
          go_ret
          exact ⟨ret_int hr.out.symm, B2.out⟩
    · have EV := Lib.hid (show countG (.node 5 a b subs) = countAny subs 0 by simp [countG])
      clear m2 m4 m5
      go_enter Tryz.func37, Tryz.ntmps37
      go_wp2_with fail
      go_loopw [9, 65] (fun x i wr => ∃ (k : Nat) (o : Int), k ≤ subs.length ∧ i = .int .i64 k ∧ x = .int .i64 o ∧ Few o ∧ Hid (Below w.heap.size w wr) ∧ Hid (countG (.node 5 a b subs) = countAny (subs.drop k) o)) (fun _ i _ => subs.length - (intOf i).toNat)
      case atStart => exact ⟨0, 0, Nat.zero_le _, rfl, rfl, ⟨by omega, by omega⟩, H0.out, (show countG (.node 5 a b subs) = countAny (subs.drop 0) 0 from EV.out)⟩
      case round =>
        obtain ⟨k, o, hk, rfl, rfl, ho, HWW, hz⟩ := hrel
        by_cases hlt : k < subs.length
        · obtain ⟨ib, off, D, d, rfl, c0, c1, c2, c3, hti⟩ := sub_as HIT.out (HWW.out.mono HB.out) k hlt
          have hsi : (subs[k]'hlt).size ≤ 4294967296 := by have := gsize_mem subs _ (List.getElem_mem hlt); have h3 := HS.out; have h4 := SB.out; omega
          have hri : Right (subs[k]'hlt) := RS.out _ (List.getElem_mem hlt)
          have ba : Below wr.heap.size wr (wr.alloc (gc (subs[k]'hlt) D d)) := (Below.refl _ _).alloc (Nat.le_refl _) _
          have bsz : B ≤ wr.heap.size := Nat.le_trans HB.out HWW.out.size
          have C1 := IH.out (subs[k]'hlt) _ B _ (hti.below (ba.mono bsz)) (by have := HB.out; simp; omega) hsi hri
          have CF := count_few _ hri
          have DR := Lib.hid (any_drop subs k o hlt)
          have BA := Lib.hid (HWW.out.trans (ba.mono HWW.out.size))
          clear hti hsi hri ba bsz
          generalize countG (subs[k]'hlt) = q at C1 CF DR
          have HC1 := Lib.hid C1
          clear C1
          generalize subs[k]'hlt = y at HC1 c0 c1 c2 c3 BA
          have F2 := few_add ho CF
          have FM := mul_fits ho CF
          obtain ⟨o1, o2⟩ := ho
          obtain ⟨q1, q2⟩ := CF
          obtain ⟨f1, f2⟩ := FM
          have F2 := Lib.hid F2
          go_wp2_with fail
          refine HC1.out.mono ?_
          rintro e w2 ⟨rfl, hb2⟩
          have B2 := Lib.hid (BA.out.trans (hb2.mono BA.out.size))
          clear hb2
          go_wp2_with (go_at_call 65; refine (CP.out _ _).mono ?_; rintro e w' ⟨rfl, rfl⟩)
          go_roundw
          case rel => exact ⟨k + 1, min 1048577 (o + q), hlt, by go_num, by rw [Int.min_comm], F2.out, B2.out, hz.out.trans DR.out⟩
          case measure => simp [intOf]; omega
        · have hr := Lib.hid (show countG (.node 5 a b subs) = o by
            rw [hz.out, List.drop_eq_nil_of_le (by omega), countAny])
          go_wp2_with fail
          go_ret
          exact ⟨ret_int hr.out.symm, HWW.out⟩

/-- what Count tells: the number, or an error -/
def countN (t : Gn) : Int := if genV t = 0 then (if 1048576 < countG t then 0 else countG t) else 0
def countE (t : Gn) : Int := if genV t = 0 then (if 1048576 < countG t then 4 else 0) else genV t

set_option maxHeartbeats 2000000 in
set_option maxRecDepth 100000 in
/-- the program's Count -/
theorem gcount {n : Nat} {t : Gn} {v : Value} {B : Nat} (w : World) (h : GAt w (GBel B) n v t) (hB : B ≤ w.heap.size) (hsz : t.size ≤ 4294967296) :
    Calls Tryz.prog 13 #[v] w fun e w' => e = .returned (.tuple #[.int .i64 (countN t), errOf (countE t)]) ∧ Below w.heap.size w w' := by
  obtain ⟨m, A, c, e, hw, rfl, _⟩ := h.open_
  have b1 : Below w.heap.size w (w.alloc (gc t A c)) := (Below.refl _ _).alloc (Nat.le_refl _) _
  have HH := Lib.hid (fun (W : World) (hb : Below (w.alloc (gc t A c)).heap.size (w.alloc (gc t A c)) W) => gbox w W _ _ _ _ hb)
  have C1 := gcheck (w.alloc (gc t A c)) (h.below (b1.mono hB)) (by simp; omega) hsz
  have C2 := Lib.hid (fun (W : World) (hb : Below w.heap.size w W) (hr : Right t) => gcount_any n t _ B W (h.below (hb.mono hB)) (Nat.le_trans hB hb.size) hsz hr)
  have EN := Lib.hid (show countN t = if genV t = 0 then (if 1048576 < countG t then 0 else countG t) else 0 from rfl)
  have EE := Lib.hid (show countE t = if genV t = 0 then (if 1048576 < countG t then 4 else 0) else genV t from rfl)
  have B1 := Lib.hid b1
  have RG := Lib.hid (fun (h : genV t = 0) => (gen_right h).1)
  clear h hB hsz e hw b1
  by_cases hz : genV t = 0
  · have C2 := Lib.hid (fun W hb => C2.out W hb (RG.out hz))
    have CF := count_few t (RG.out hz)
    rw [hz, errOf_ok] at C1
    have C1 := Lib.hid C1
    rw [if_pos hz] at EN EE
    clear hz RG
    generalize countG t = q at C2 EN EE CF
    obtain ⟨q1, q2⟩ := CF
    go_enter Tryz.func13, Tryz.ntmps13
    go_wp2_with fail
    refine C1.out.mono ?_
    rintro e w2 ⟨rfl, hb2⟩
    obtain ⟨k0, k1, k2, k3⟩ := HH.out w2 hb2
    have B2 := Lib.hid (on B1.out hb2)
    have C2 := Lib.hid (C2.out w2 B2.out)
    clear hb2
    go_wp2_with fail
    refine C2.out.mono ?_
    rintro e w3 ⟨rfl, hb3⟩
    have B3 := Lib.hid (on B2.out hb3)
    clear hb3
    by_cases hq : 1048576 < q
    · have g1 : decide (1048576 < q) = true := by rw [decide_eq_true_eq]; exact hq
      have EN := Lib.hid (show countN t = 0 by rw [EN.out, if_pos hq])
      have EE := Lib.hid (show countE t = 4 by rw [EE.out, if_pos hq])
      go_wp2_with fail
      go_ret2
      exact ⟨by rw [EN.out, EE.out]; rfl, B3.out⟩
    · have g1 : decide (1048576 < q) = false := by rw [decide_eq_false_iff_not]; exact hq
      have EN := Lib.hid (show countN t = q by rw [EN.out, if_neg hq])
      have EE := Lib.hid (show countE t = 0 by rw [EE.out, if_neg hq])
      go_wp2_with fail
      go_ret2
      exact ⟨by rw [EN.out, EE.out]; rfl, B3.out⟩
  · have RE := Lib.hid (errOf_no hz)
    rw [errOf_no hz] at C1
    rw [if_neg hz] at EN EE
    generalize genV t = q at C1 EE RE
    have C1 := Lib.hid C1
    clear hz C2 RG
    go_enter Tryz.func13, Tryz.ntmps13
    go_wp2_with fail
    refine C1.out.mono ?_
    rintro e w2 ⟨rfl, hb2⟩
    have B2 := Lib.hid (on B1.out hb2)
    clear hb2
    go_wp2_with fail
    go_ret2
    exact ⟨by rw [EN.out, EE.out, RE.out]; rfl, B2.out⟩
end Go.Proofs.YtabkihellcflhaaGreatDoor.Gens
