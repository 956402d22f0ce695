/- CondOwn: the walk. Conditions: the sizes; the library's variable that errors.As reads. -/
import Derived.Test.YtdmoigompmeacaaDoorCondW
import Derived.Test.YtdmoigompmeacaaDoorToldSame
import Derived.Test.YtdmoigompmeacaaDoorOwnN
import Derived.Test.YtdmoigompmeacaaDoorSame
import Derived.BigQuiet
namespace Go.Proofs.YtdmoigompmeacaaDoor.CondOwnLaw
open Go.RowKit Ints Lists Vals Bools Cnd Owns
set_option linter.unusedVariables false

theorem own_lt {w : World} {base c : Nat} {A : Option Addr} {z : List Int} (h : Own w base A c z) : ∀ g, rowOf A = some g → g < w.heap.size := fun g e => by
  rcases h.2 with ⟨he, _⟩ | ⟨g', cap, cur, he, _, hh, _⟩
  · injection he with he; subst he; cases e
  · injection he with he; subst he
    obtain rfl : g' = g := by simpa [rowOf] using e
    exact (Array.getElem?_eq_some_iff.1 hh).1
theorem bel_drewN (w : World) (n B : Nat) : Below B w (w.drewN n) := ⟨rfl, rfl, rfl, Nat.le_refl _, fun _ _ => rfl⟩
theorem tes_len (n : Int) (l : List Bool) : (tesV n l).length ≤ 12 := by
  by_cases h : condE n l = 0
  · have := (t_facts h).len
    have := cond_in h
    omega
  · rw [tesV_no h]; simp

set_option maxHeartbeats 8000000 in
set_option maxRecDepth 100000 in
theorem walk (n : Int) (l : List Bool) (A : Option Addr) (c : Nat) (ts : List Int) (A2 : Option Addr) (c2 : Nat) (x : Int) (hbulk : l.length ≤ 1048576 ∧ ts.length ≤ 1048576) (w : World) (wn : (Lit.int .i64 n).wf = true) (hA : AtB w w.heap.size A l) (hB : At w w.heap.size A2 ts) (hcap : ts.length ≤ c2) (wx : (Lit.int .i64 x).wf = true) (hg : Told.Handle w) :
    Calls Tryd.prog 5 #[.int .i64 n, .slice A l.length c, .slice A2 ts.length c2, .int .i64 x] w fun e w' => e = .returned (.bool true) ∧ Below w.heap.size w w' := by
  obtain ⟨hl, ht⟩ := hbulk
  have HA := Lib.hid (fun (W : World) (hb : Below w.heap.size w W) => show AtB W W.heap.size A l from (hA.below hb).more hb.size)
  have HB := Lib.hid (fun (W : World) (hb : Below w.heap.size w W) => show At W W.heap.size A2 ts from (hB.below hb).more hb.size)
  have TV := Lib.hid (fun (A : Option Addr) (c : Nat) (W : World) (h : AtB W W.heap.size A l) => show Calls Tryd.prog 15 #[.int .i64 n, .slice A l.length c] W fun e w' => ∃ (A : Option Addr) (c : Nat), e = .returned (.tuple #[.slice A (tesV n l).length c, errOf (condE n l)]) ∧ Own w' W.heap.size A c (tesV n l) ∧ Below W.heap.size W w' from tests_prog n A c l W (by omega) h)
  have CV := Lib.hid (fun (A : Option Addr) (c : Nat) (A2 : Option Addr) (c2 : Nat) (W : World) (h : AtB W W.heap.size A l) (h2 : At W W.heap.size A2 ts) => show Calls Tryd.prog 14 #[.int .i64 n, .slice A l.length c, .slice A2 ts.length c2] W fun e w' => e = .returned (.tuple #[.bool (covV n l ts), errOf (covE n l ts)]) ∧ Below W.heap.size W w' from covers_prog n A c l A2 c2 ts W (by omega) (by omega) h h2)
  have TF : Hid (∀ W : World, Calls Tryd.prog 15 #[.int .i64 1, .slice (some ⟨W.heap.size, 0, none⟩) 2 2] (W.alloc (.cells #[.bool false, .bool true] 4)) fun e w' => ∃ (A : Option Addr) (c : Nat), e = .returned (.tuple #[.slice A 2 c, .nilIface]) ∧ Below W.heap.size W w') := Lib.hid fun W => by
    have := tests_prog 1 (some ⟨W.heap.size, 0, none⟩) 2 [false, true] (W.alloc (.cells #[.bool false, .bool true] 4)) (by decide) (bools_new W [false, true])
    unfold TePost at this
    rw [tests_fact.1, tests_fact.2, errOf_ok] at this
    refine this.mono ?_
    rintro e w' ⟨A, c, rfl, _, hb⟩
    exact ⟨A, c, rfl, below_on (bel_box W _) (by simp) hb⟩
  have ZL := Lib.hid (tes_len n l)
  have T1 := Lib.hid (fun (W : World) (hb : Below w.heap.size w W) => told_same (condE n l) W (hg.below hb))
  have T2 := Lib.hid (fun (W : World) (hb : Below w.heap.size w W) => told_same (covE n l ts) W (hg.below hb))
  have LT := Lib.hid (show ts.length ≤ maxLen ∧ ts.length ≤ 4294967296 by simp only [maxLen]; omega)
  clear wn wx hA hB hg hcap
  have li : (l.length : Int) ≤ 1048576 := by omega
  generalize errOf (condE n l) = e1 at *
  generalize errOf (covE n l ts) = e2 at *
  generalize covV n l ts = cv at *
  generalize tesV n l = z at *
  have BX := Lib.hid (bel_box w (.cells #[] 4))
  have OX := Lib.hid (show OwnB (w.alloc (.cells #[] 4)) w.heap.size (some ⟨w.heap.size, 0, none⟩) 0 [] from OwnB.empty (new_box w _))
  go_enter Tryd.func5, Tryd.ntmps5
  go_wp2_with (at_builtin; refine wpList_append_bools rfl (.tmp 27) (.tmp 28) rfl w.heap.size 0 (some ⟨w.heap.size, 0, none⟩) [] OX.out _ A c l (HA.out _ BX.out) rfl rfl (by simp; omega) BX.out.size ?_
               intro A3 c3 w3 z3 hz3 own3 g3 r3
               have O3 := Lib.hid own3
               have B3 := Lib.hid (BX.out.grown g3 BX.out.size (fun g hg => OX.out.ge g hg))
               have Z3 := Lib.hid (show l = z3 by rw [hz3.out]; rfl)
               clear own3 g3 r3 hz3)
  obtain rfl := Z3.out
  clear BX OX Z3
  have I3 := Lib.hid (ints_ok (lc := c2) w3 (HB.out w3 B3.out) LT.out.2)
  ((with_reducible refine I3.out.mono ?_))
  rintro e w4 ⟨A4, c4, rfl, ho4, hb4⟩
  have B4 := Lib.hid (below_trans B3.out hb4)
  have O4 := Lib.hid (O3.out.below hb4)
  have S4 := Lib.hid ho4
  clear ho4 hb4 B3 O3 I3
  have C4 := Lib.hid (TV.out A3 c3 w4 O4.out.at_)
  go_wp2_with fail
  ((with_reducible refine C4.out.mono ?_))
  rintro e w5 ⟨A5, c5, rfl, ho5, hb5⟩
  have B5 := Lib.hid (below_trans B4.out hb5)
  have O5 := Lib.hid (O4.out.below hb5)
  have S5 := Lib.hid (S4.out.below hb5)
  have Q5 := Lib.hid ho5
  have GE := Lib.hid (fun g hg => Nat.le_trans B4.out.size (ho5.ge g hg))
  clear ho5 hb5 B4 O4 S4 C4
  have C5 := Lib.hid (CV.out A3 c3 A4 c4 w5 O5.out.at_ S5.out.at_)
  go_wp2_with fail
  ((with_reducible refine C5.out.mono ?_))
  rintro e w6 ⟨rfl, hb6⟩
  have B6 := Lib.hid (below_trans B5.out hb6)
  have O6 := Lib.hid (O5.out.below hb6)
  have S6 := Lib.hid (S5.out.below hb6)
  have Q6 := Lib.hid (Q5.out.below hb6)
  clear hb6 B5 O5 S5 Q5 C5
  have F6 := Lib.hid (TF.out w6)
  go_wp2_with fail
  ((with_reducible refine F6.out.mono ?_))
  rintro e w7 ⟨A7, c7, rfl, hb7⟩
  have B7 := Lib.hid (below_trans B6.out hb7)
  have O7 := Lib.hid (O6.out.below hb7)
  have S7 := Lib.hid (S6.out.below hb7)
  have Q7 := Lib.hid (Q6.out.below hb7)
  clear hb7 B6 O6 S6 Q6 F6 TF
  have SM := same_below ts ts A4 A2 c4 c2 w7.heap.size LT.out.1 LT.out.1 w7 S7.out.at_ (HB.out w7 B7.out)
  rw [decide_eq_true (rfl : ts = ts)] at SM
  have SM := Lib.hid SM
  go_wp2_with fail
  ((with_reducible refine SM.out.mono ?_))
  rintro e w8 ⟨rfl, hb8⟩
  have B8 := Lib.hid (below_trans B7.out hb8)
  have O8 := Lib.hid (O7.out.below hb8)
  have Q8 := Lib.hid (Q7.out.below hb8)
  clear hb8 B7 O7 S7 Q7 SM
  go_wp2_with fail
  go_loopw [17, 18] (fun sv iv wr => ∃ k : Nat, k ≤ l.length ∧ iv = .int .i64 k ∧ sv = .bool true ∧ Hid (OwnB wr w.heap.size A3 c3 l) ∧ Hid (∃ bs, Own wr bs A5 c5 z) ∧ Hid (Below w.heap.size w wr)) (fun _ iv _ => l.length - (intOf iv).toNat)
  case atStart => exact ⟨0, Nat.zero_le _, rfl, rfl, O8.out, Lib.hid ⟨_, Q8.out⟩, B8.out⟩
  case round =>
    clear O8 Q8 B8
    obtain ⟨k, hk, rfl, rfl, ho, hq, hb⟩ := hrel
    by_cases hlt : k < l.length
    · have hki : (k : Int) < l.length := by omega
      obtain ⟨b3, o3, rfl, _, hc3⟩ := ho.out.at_ (by omega)
      obtain ⟨b1, o1, rfl, _, hc1⟩ := HA.out wr hb.out (by omega)
      have k3 := hc3 k hlt
      have k1 := hc1 k hlt
      clear hc3 hc1
      generalize l.getD k false = v at *
      cases v
      all_goals (
        go_wp2_with fail
        go_quiet (fail)
        go_wp2_with fail
        go_roundw
        case rel => exact ⟨k + 1, by omega, by go_num, rfl, ho.out.below (below_drewN wr _), Lib.hid (by obtain ⟨bs, h⟩ := hq.out; exact ⟨bs, h.below (below_drewN wr _)⟩), hb.out.trans (bel_drewN wr _ _)⟩
        case measure => simp [intOf]; omega)
    · obtain ⟨bs, hq1⟩ := hq.out
      have Q9 := Lib.hid hq1
      have QT := Lib.hid (own_lt hq1)
      have I9 := Lib.hid (ints_ok (lc := c5) wr hq1.at_ (by have := ZL.out; omega))
      clear hq hq1 ho
      go_wp2_with fail
      ((with_reducible refine I9.out.mono ?_))
      rintro e wa ⟨Aa, ca, rfl, hoa, hba⟩
      have BA := Lib.hid (below_trans hb.out hba)
      have OA := Lib.hid hoa
      have QA := Lib.hid (Q9.out.below hba)
      have SP := Lib.hid (spoil_ok wa x QA.out (by have := ZL.out; omega))
      have NE := Lib.hid (fun g (h : rowOf Aa = some g) => show rowOf A5 ≠ some g from fun e => by have := hoa.ge g h; have := QT.out g e; omega)
      clear hoa hba hb I9 Q9 QT
      go_wp2_with fail
      ((with_reducible refine SP.out.mono ?_))
      rintro e wb ⟨rfl, hgb⟩
      have BB := Lib.hid (BA.out.grown hgb BA.out.size (fun g hg => GE.out g hg))
      have OB := Lib.hid (OA.out.grown hgb NE.out)
      clear hgb BA OA QA SP NE
      have CB := Lib.hid (TV.out A c wb (HA.out wb BB.out))
      go_wp2_with fail
      ((with_reducible refine CB.out.mono ?_))
      rintro e wc ⟨Ac, cc, rfl, hoc, hbc⟩
      have BC := Lib.hid (below_trans BB.out hbc)
      have OC := Lib.hid (OB.out.below hbc)
      have SC := same_below z z Ac Aa cc ca wc.heap.size (by have := ZL.out; simp only [maxLen]; omega) (by have := ZL.out; simp only [maxLen]; omega) wc hoc.at_ OC.out.at_
      rw [decide_eq_true (rfl : z = z)] at SC
      have SC := Lib.hid SC
      clear hoc hbc BB OB CB
      go_wp2_with fail
      ((with_reducible refine SC.out.mono ?_))
      rintro e wd ⟨rfl, hbd⟩
      have BD := Lib.hid (below_trans BC.out hbd)
      clear hbd BC OC SC
      go_wp2_with fail
      ((with_reducible refine (T1.out _ BD.out).mono ?_))
      rintro e we ⟨rfl, hbe⟩
      have BE := Lib.hid (below_trans BD.out hbe)
      clear hbe BD T1
      have CE := Lib.hid (CV.out A c A2 c2 we (HA.out we BE.out) (HB.out we BE.out))
      go_wp2_with fail
      ((with_reducible refine CE.out.mono ?_))
      rintro e wf ⟨rfl, hbf⟩
      have BF := Lib.hid (below_trans BE.out hbf)
      clear hbf BE CE
      go_wp2_with fail
      ((with_reducible refine (T2.out _ BF.out).mono ?_))
      rintro e wg ⟨rfl, hbg⟩
      have BG := Lib.hid (below_trans BF.out hbg)
      clear hbg BF T2
      go_wp2_with fail
      go_ret
      exact ⟨ret_b (by simp), BG.out⟩
end Go.Proofs.YtdmoigompmeacaaDoor.CondOwnLaw
