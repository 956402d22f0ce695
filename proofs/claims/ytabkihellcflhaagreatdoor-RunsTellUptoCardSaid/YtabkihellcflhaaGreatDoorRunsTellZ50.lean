/- RunsTell, part 50 of the proof: A generator without parts, in memory. · The statements' own 'coin' and 'made'. · RunsTell: the walk. Conditions: the sizes; the program's table, the library's variable that errors.As reads. Made by wip/tools/gen_runtell.py. -/
import Derived.Test.YtabkihellcflhaaGreatDoorRunsTellZ2
import Derived.Test.YtabkihellcflhaaGreatDoorRunsTellZ23
import Derived.Test.YtabkihellcflhaaGreatDoorRunsTellZ31
import Derived.Test.YtabkihellcflhaaGreatDoorRunsTellZ48
import Derived.Test.YtabkihellcflhaaGreatDoorRunsTellZ49
import Derived.Test.YtabkihellcflhaaGreatDoorRunsTellZ33
/- A generator without parts, in memory. -/
namespace Go.Proofs.YtabkihellcflhaaGreatDoor.Gens
open Go.RowKit
set_option linter.unusedVariables false
theorem gat_leaf {w : World} {B : Nat} {k a b : Int} (hk : Wf k) (ha : Wf a) (hb : Wf b) : GAt w (GBel B) 1 (.agg #[.int .i64 k, .int .i64 a, .int .i64 b, .slice none 0 0]) (.node k a b []) :=
  ⟨⟨hk, ha, hb⟩, none, 0, rfl, Nat.le_refl _, fun hp => by simp [Gn.subs] at hp⟩
end Go.Proofs.YtabkihellcflhaaGreatDoor.Gens

/- The statements' own 'coin' and 'made'. -/
namespace Go.Proofs.YtabkihellcflhaaGreatDoor.Gens
open Go.RowKit Lists Ints Vals
set_option linter.unusedVariables false

theorem coin_ok (w : World) : Calls Tryz.prog 19 #[] w fun e w' => e = .returned (.agg #[.int .i64 2, .int .i64 3, .int .i64 4, .slice none 0 0]) ∧ Below w.heap.size w w' := by
  go_enter Tryz.func19, Tryz.ntmps19
  go_wp2_with fail
  refine bodyPost_ret (v := .agg #[.int .i64 2, .int .i64 3, .int .i64 4, .slice none 0 0]) (by simp [results, Tryz.results19, go_sem]) rfl ⟨rfl, ?_⟩
  repeat (first | exact Below.refl _ _ | refine Below.alloc ?_ (Nat.le_refl _) _ | refine Below.setCell ?_ (Nat.le_refl w.heap.size) _)

set_option maxHeartbeats 2000000 in
set_option maxRecDepth 100000 in
theorem made_ok (w : World) : Calls Tryz.prog 5 #[] w fun e w' => e = .returned (.bool true) ∧ Below w.heap.size w w' := by
  have CC := Lib.hid (coin_ok w)
  have RR := Lib.hid (fun (W : World) (hb : Below w.heap.size w W) (L : Option Addr) (lc : Nat) (ha : At W W.heap.size L [1]) (hc : 1 ≤ lc) => replay_prog (n := 1) (g := .node 2 3 4 []) (l := [1]) W (gat_leaf (by decide) (by decide) (by decide)) ha hc (by decide) (by decide))
  rw [show repV (.node 2 3 4 []) [1] = .ok (.node false 4 []) by rfl] at RR
  go_enter Tryz.func5, Tryz.ntmps5
  go_wp2_with fail
  refine CC.out.mono ?_
  rintro e w1 ⟨rfl, hb1⟩
  have B1 := Lib.hid hb1
  have A1 := Lib.hid (At.one_new w1 1)
  have B2 := Lib.hid (hb1.trans ((Below.refl w1.heap.size w1).alloc (Nat.le_refl _) (.cells #[.int .i64 1] 3) |>.mono hb1.size))
  clear hb1 CC
  go_wp2_with fail
  have z1 : (w1.alloc (.cells #[.int .i64 1] 3)).heap.size = w1.heap.size + 1 := by simp
  refine (RR.out (w1.alloc (.cells #[.int .i64 1] 3)) B2.out (some ⟨w1.heap.size, 0, none⟩) 1 (by rw [z1]; exact A1.out) (Nat.le_refl _)).mono ?_
  rintro e w3 ⟨A3, c3, rfl, ht, hn, hb3⟩
  have B3 := Lib.hid (below_trans B2.out hb3)
  clear RR ht hn hb3 z1
  simp only [trOf, errI, tval, Tr.list, Tr.num, Tr.items, List.length_nil, errOf_ok]
  go_wp2_with fail
  go_ret
  exact ⟨rfl, Below.alloc B3.out (by have := B3.out.size; omega) _⟩
end Go.Proofs.YtabkihellcflhaaGreatDoor.Gens

/- RunsTell: the walk. Conditions: the sizes; the program's table, the library's variable that errors.As reads. Made by wip/tools/gen_runtell.py. -/
namespace Go.Proofs.YtabkihellcflhaaGreatDoor.RunTellLaw
open Go.RowKit Lists Ints Vals Gens Exprs Owns
set_option linter.unusedVariables false

set_option maxHeartbeats 16000000 in
set_option maxRecDepth 100000 in
theorem walk (t : Gn) (A : Option Addr) (c n : Nat) (x : Gn) (XA : Option Addr) (xc nx : Nat) (num many : Int) (hbulk : t.size + x.size ≤ 1048576) (w : World) (hg : GAt w (GBel w.heap.size) n (gv t A c) t) (hx : EAt w (EBel w.heap.size) nx (ev x XA xc) x) (wn : (Lit.int .i64 num).wf = true) (wm : (Lit.int .i64 many).wf = true) (hsub : Subs w) (hh : Told.Handle w) :
    Calls Tryz.prog 3 #[gv t A c, ev x XA xc, .int .i64 num, .int .i64 many] w fun e w' => e = .returned (.bool true) ∧ Below w.heap.size w w' := by
  have HB := Lib.hid (gx_boxes w t x A XA c xc)
  have MD := Lib.hid (fun (w : World) => made_ok w)
  have AC := Lib.hid (fun (W : World) (hb : Below w.heap.size w W) => asked_ok W (hsub.below hb))
  have GF := Lib.hid (fun (W : World) (hb : Below w.heap.size w W) => gen_any n t A c w.heap.size W (hg.below hb) hb.size (by omega))
  have XF := Lib.hid (fun (W : World) (hb : Below w.heap.size w W) => efault_any nx x XA xc w.heap.size W (hx.below hb) hb.size (by omega))
  have RO := Lib.hid (fun (h0 : genV t = 0) (hf : faultE x = 0) (k : Nat) (hk : k ≤ 50) (W : World) (hb : Below w.heap.size w W) => runof_any num k W ((hg.below hb).more hb.size) ((hx.below hb).more hb.size) h0 hf hk)
  have RN := Lib.hid (fun (r : Rep) (q : Int) (hr : runR t x num many = r) (hq : runE t x many = q) (W : World) (hb : Below w.heap.size w W) => show Calls Tryz.prog 10 #[gv t A c, ev x XA xc, .int .i64 num, .int .i64 many] W (RnPost r q W) by
    subst hr hq
    exact run_prog num many W ((hg.below hb).more hb.size) ((hx.below hb).more hb.size) (hsub.below hb) (by omega) (by omega))
  have ET := Lib.hid (fun (f : Int) (W : World) (hb : Below w.heap.size w W) => err_ok f W (hh.below hb))
  have RL := Lib.hid (rep_len (t := t) (x := x) (n := num) (many := many))
  clear hg hx hbulk hh hsub wn wm
  go_enter Tryz.func3, Tryz.ntmps3
  go_wp2_with fail
  generalize (w.alloc (gc t A c)).alloc (ec x XA xc) = W0 at *
  refine (MD.out _).mono ?_
  rintro e w1 ⟨rfl, hb1⟩
  have B1 := Lib.hid (HB.out.2.2.1.trans (hb1.mono HB.out.2.2.1.size))
  have X1 := Lib.hid (HB.out.2.1.below hb1)
  have G1 := Lib.hid (HB.out.1.below hb1)
  clear hb1
  go_wp2_with fail
  refine (AC.out w1 B1.out).mono ?_
  rintro e w2 ⟨rfl, hb2⟩
  have B2 := Lib.hid (below_trans B1.out hb2)
  have X2 := Lib.hid (X1.out.below hb2)
  have G2 := Lib.hid (G1.out.below hb2)
  clear hb2 X1 G1 B1
  obtain ⟨k0, k1, k2, k3⟩ := G2.out.facts
  obtain ⟨x0, x1, x2⟩ := X2.out.facts
  go_wp2_with fail
  ((with_reducible refine (GF.out w2 B2.out).mono ?_))
  rintro e w3 ⟨rfl, hb3⟩
  clear k0 k1 k2 k3 x0 x1 x2
  have B3 := Lib.hid (below_trans B2.out hb3)
  have X3 := Lib.hid (X2.out.below hb3)
  have G3 := Lib.hid (G2.out.below hb3)
  clear hb3 X2 G2 B2
  obtain ⟨k0, k1, k2, k3⟩ := G3.out.facts
  obtain ⟨x0, x1, x2⟩ := X3.out.facts
  by_cases h0 : genV t = 0
  · have RO := Lib.hid (RO.out h0)
    have RE0 := Lib.hid (show runE t x many = if faultE x = 0 then (if many < 0 ∨ 50 < many then 1 else 0) else faultE x by unfold runE; rw [if_pos h0])
    rw [h0]
    clear h0 GF
    go_wp2_with fail
    ((with_reducible refine (XF.out w3 B3.out).mono ?_))
    rintro e w4 ⟨rfl, hb4⟩
    clear k0 k1 k2 k3 x0 x1 x2
    have B4 := Lib.hid (below_trans B3.out hb4)
    have X4 := Lib.hid (X3.out.below hb4)
    have G4' := Lib.hid (G3.out.below hb4)
    clear hb4 X3 G3 B3 XF
    by_cases hf : faultE x = 0
    · have RO := Lib.hid (RO.out hf)
      have RE1 := Lib.hid (show runE t x many = if many < 0 ∨ 50 < many then 1 else 0 by rw [RE0.out, if_pos hf])
      rw [hf]
      clear hf RE0
      by_cases hm : many < 0 ∨ 50 < many
      · have HQ := Lib.hid (show runE t x many = 1 by rw [RE1.out, if_pos hm])
        have HNE := Lib.hid (show ¬ (1 : Int) = 0 by decide)
        have RN2 := Lib.hid (RN.out ⟨0, false, [], 0⟩ (1) (runR_no (by rw [HQ.out]; exact HNE.out)) HQ.out)
        clear RN RO RL
        have NW := Lib.hid (bel1 w4 (.cells #[.int .i64 0, .bool false, .slice none 0 0, .int .i64 0] 34))
        have HW := Lib.hid (show R4 w4.heap.size (.int .i64 0) (.bool false) (.slice none 0 0) (.int .i64 0) (w4.alloc (.cells #[.int .i64 0, .bool false, .slice none 0 0, .int .i64 0] 34)) from new_obj w4 _)
        have BN := Lib.hid (below_trans B4.out NW.out)
        have XN := Lib.hid (X4.out.below NW.out)
        have GN := Lib.hid (G4'.out.below NW.out)
        clear NW
        obtain ⟨k0, k1, k2, k3⟩ := GN.out.facts
        obtain ⟨x0, x1, x2⟩ := XN.out.facts
        clear HQ HNE RE1
        rcases hm with hm | hm
        · go_wp2_with fail
          generalize w4.alloc (.cells #[.int .i64 0, .bool false, .slice none 0 0, .int .i64 0] 34) = wp at *
          have BP := Lib.hid BN.out
          have HWP := Lib.hid HW.out
          have AWP := Lib.hid (show At wp wp.heap.size none ([] : List Int) from fun h => by simp at h)
          have RM := Lib.hid (show ([] : List Int).length ≤ maxLen by simp)
          obtain ⟨r, hr⟩ : ∃ r : Rep, r = ⟨0, false, [], 0⟩ := ⟨_, rfl⟩
          have E0 := Lib.hid (show (0 : Int) = r.runs ∧ false = r.failed ∧ (none : Option Addr) = none ∧ r.tape = [] ∧ (0 : Int) = r.steps by rw [hr]; exact ⟨rfl, rfl, rfl, rfl, rfl⟩)
          have HWP := Lib.hid (show R4 w4.heap.size (.int .i64 r.runs) (.bool r.failed) (.slice none r.tape.length 0) (.int .i64 r.steps) wp by rw [hr]; exact HWP.out)
          have AWP := Lib.hid (show At wp wp.heap.size none r.tape by rw [hr]; exact AWP.out)
          have RM := Lib.hid (show r.tape.length ≤ maxLen by rw [hr]; exact RM.out)
          rw [← hr] at RN2
          clear hr E0
          have CR := Lib.hid (RN2.out wp BP.out)
          ((with_reducible refine CR.out.mono ?_))
          rintro e wa ⟨Aa, ca, rfl, haa, hca, hba⟩
          have NR := bel1 wa (rc r Aa ca)
          have BA := Lib.hid (below_trans (below_trans BP.out hba) NR)
          have HR := Lib.hid (show R4 wa.heap.size (.int .i64 r.runs) (.bool r.failed) (.slice Aa r.tape.length ca) (.int .i64 r.steps) (wa.alloc (rc r Aa ca)) from new_obj wa _)
          have HP := Lib.hid ((HWP.out.below hba).below NR)
          have AA := Lib.hid ((haa.below NR).more NR.size)
          have AW := Lib.hid ((((AWP.out.below hba).more hba.size).below NR).more NR.size)
          have EA := Lib.hid (ET.out 1 (wa.alloc (rc r Aa ca)) BA.out)
          clear NR hba haa hca CR k0 k1 k2 k3 x0 x1 x2
          generalize errOf 1 = ev at *
          go_wp2_with fail
          generalize wa.alloc (rc r Aa ca) = wb at *
          generalize wa.heap.size = pr at *
          ((with_reducible refine EA.out.mono ?_))
          rintro e wc ⟨rfl, hbc⟩
          have BC := Lib.hid (below_trans BA.out hbc)
          obtain ⟨⟨a0, a1, a2, a3⟩, _⟩ := (HR.out.below hbc).facts
          obtain ⟨⟨b0, b1, b2, b3⟩, _⟩ := (HP.out.below hbc).facts
          have SR := Lib.hid (report_same r Aa none ca 0 wc ((AA.out.below hbc).more hbc.size) ((AW.out.below hbc).more hbc.size) RM.out)
          clear hbc EA
          go_wp2_with fail
          ((with_reducible refine SR.out.mono ?_))
          rintro e wd ⟨rfl, hbd⟩
          have BD := Lib.hid (below_trans BC.out hbd)
          clear hbd SR a0 a1 a2 a3 b0 b1 b2 b3
          go_wp2_with fail
          go_ret
          exact ⟨rfl, BD.out⟩
        · go_wp2_with fail
          generalize w4.alloc (.cells #[.int .i64 0, .bool false, .slice none 0 0, .int .i64 0] 34) = wp at *
          have BP := Lib.hid BN.out
          have HWP := Lib.hid HW.out
          have AWP := Lib.hid (show At wp wp.heap.size none ([] : List Int) from fun h => by simp at h)
          have RM := Lib.hid (show ([] : List Int).length ≤ maxLen by simp)
          obtain ⟨r, hr⟩ : ∃ r : Rep, r = ⟨0, false, [], 0⟩ := ⟨_, rfl⟩
          have E0 := Lib.hid (show (0 : Int) = r.runs ∧ false = r.failed ∧ (none : Option Addr) = none ∧ r.tape = [] ∧ (0 : Int) = r.steps by rw [hr]; exact ⟨rfl, rfl, rfl, rfl, rfl⟩)
          have HWP := Lib.hid (show R4 w4.heap.size (.int .i64 r.runs) (.bool r.failed) (.slice none r.tape.length 0) (.int .i64 r.steps) wp by rw [hr]; exact HWP.out)
          have AWP := Lib.hid (show At wp wp.heap.size none r.tape by rw [hr]; exact AWP.out)
          have RM := Lib.hid (show r.tape.length ≤ maxLen by rw [hr]; exact RM.out)
          rw [← hr] at RN2
          clear hr E0
          have CR := Lib.hid (RN2.out wp BP.out)
          ((with_reducible refine CR.out.mono ?_))
          rintro e wa ⟨Aa, ca, rfl, haa, hca, hba⟩
          have NR := bel1 wa (rc r Aa ca)
          have BA := Lib.hid (below_trans (below_trans BP.out hba) NR)
          have HR := Lib.hid (show R4 wa.heap.size (.int .i64 r.runs) (.bool r.failed) (.slice Aa r.tape.length ca) (.int .i64 r.steps) (wa.alloc (rc r Aa ca)) from new_obj wa _)
          have HP := Lib.hid ((HWP.out.below hba).below NR)
          have AA := Lib.hid ((haa.below NR).more NR.size)
          have AW := Lib.hid ((((AWP.out.below hba).more hba.size).below NR).more NR.size)
          have EA := Lib.hid (ET.out 1 (wa.alloc (rc r Aa ca)) BA.out)
          clear NR hba haa hca CR k0 k1 k2 k3 x0 x1 x2
          generalize errOf 1 = ev at *
          go_wp2_with fail
          generalize wa.alloc (rc r Aa ca) = wb at *
          generalize wa.heap.size = pr at *
          ((with_reducible refine EA.out.mono ?_))
          rintro e wc ⟨rfl, hbc⟩
          have BC := Lib.hid (below_trans BA.out hbc)
          obtain ⟨⟨a0, a1, a2, a3⟩, _⟩ := (HR.out.below hbc).facts
          obtain ⟨⟨b0, b1, b2, b3⟩, _⟩ := (HP.out.below hbc).facts
          have SR := Lib.hid (report_same r Aa none ca 0 wc ((AA.out.below hbc).more hbc.size) ((AW.out.below hbc).more hbc.size) RM.out)
          clear hbc EA
          go_wp2_with fail
          ((with_reducible refine SR.out.mono ?_))
          rintro e wd ⟨rfl, hbd⟩
          have BD := Lib.hid (below_trans BC.out hbd)
          clear hbd SR a0 a1 a2 a3 b0 b1 b2 b3
          go_wp2_with fail
          go_ret
          exact ⟨rfl, BD.out⟩
      · have HQ := Lib.hid (show runE t x many = 0 by rw [RE1.out, if_neg hm])
        have m0 : 0 ≤ many := by omega
        have m1 : many ≤ 50 := by omega
        obtain ⟨k, rfl⟩ := Int.eq_ofNat_of_zero_le m0
        have RO2 := Lib.hid (fun W hb => RO.out k (by omega) W hb)
        have RN2 := Lib.hid (RN.out (repK t x (Rng.u64of num, Rng.gold) k) 0 (by rw [runR_ok HQ.out]; rfl) HQ.out)
        have RM := Lib.hid (show (repK t x (Rng.u64of num, Rng.gold) k).tape.length ≤ maxLen by have := RL.out.1; rw [runR_ok HQ.out] at this; have h2 : (repK t x (Rng.u64of num, Rng.gold) k).tape.length ≤ 1399680 := this; simp only [maxLen]; omega)
        clear RN RO RL HQ RE1 hm
        generalize repK t x (Rng.u64of num, Rng.gold) k = r at *
        have NW := Lib.hid (bel1 w4 (.cells #[.int .i64 0, .bool false, .slice none 0 0, .int .i64 0] 34))
        have HW := Lib.hid (show R4 w4.heap.size (.int .i64 0) (.bool false) (.slice none 0 0) (.int .i64 0) (w4.alloc (.cells #[.int .i64 0, .bool false, .slice none 0 0, .int .i64 0] 34)) from new_obj w4 _)
        have BN := Lib.hid (below_trans B4.out NW.out)
        have XN := Lib.hid (X4.out.below NW.out)
        have GN := Lib.hid (G4'.out.below NW.out)
        clear NW
        obtain ⟨k0, k1, k2, k3⟩ := GN.out.facts
        obtain ⟨x0, x1, x2⟩ := XN.out.facts
        go_wp2_with fail
        have Z5 := Lib.hid (show (w4.alloc (.cells #[.int .i64 0, .bool false, .slice none 0 0, .int .i64 0] 34)).heap.size = w4.heap.size + 1 by simp)
        generalize w4.alloc (.cells #[.int .i64 0, .bool false, .slice none 0 0, .int .i64 0] 34) = w5 at *
        ((with_reducible refine (RO2.out w5 BN.out).mono ?_))
        rintro e w6 ⟨A6, c6, rfl, ha6, hc6, hb6⟩
        have B6 := Lib.hid (below_trans BN.out hb6)
        have TB := Lib.hid (told_box (HW.out.below hb6) (.int .i64 r.runs) (.bool r.failed) (.slice A6 r.tape.length c6) (.int .i64 r.steps))
        have X6 := XN.out.below hb6
        have G6 := GN.out.below hb6
        have ltw := hb6.size
        have gl := GN.out.lt
        have pw : w.heap.size + 1 < w4.heap.size := X4.out.lt
        have XP := Lib.hid (show E3 (w.heap.size + 1) (.int .i64 x.kind) (.int .i64 x.a) (.slice XA x.subs.length xc) _ from (TB.out.2.2 _ (by omega)).trans X6)
        have GP := Lib.hid (show G4 w.heap.size (.int .i64 t.kind) (.int .i64 t.a) (.int .i64 t.b) (.slice A t.subs.length c) _ from (TB.out.2.2 _ (by omega)).trans G6)
        have BP := Lib.hid (show Below w.heap.size w _ from B6.out.trans (TB.out.2.1.mono (by omega)))
        have HWP := Lib.hid TB.out.1
        have lt5 : w5.heap.size = w4.heap.size + 1 := Z5.out
        have AWP := Lib.hid (show At _ w6.heap.size A6 r.tape from ha6.keep fun b hb => ⟨hb.2, fun o => World.cell?_of_block (TB.out.2.2 b (by have := hb.1; omega))⟩)
        have SW := Lib.hid TB.out.2.1.size
        obtain ⟨⟨r0, r1, r2, r3⟩, rf0, rf1, rf2, rf3⟩ := (HW.out.below hb6).facts
        clear X6 G6 hb6 ha6 k0 k1 k2 k3 x0 x1 x2
        obtain ⟨k0, k1, k2, k3⟩ := GP.out.facts
        obtain ⟨x0, x1, x2⟩ := XP.out.facts
        go_wp2_with fail
        generalize (((w6.setCell ⟨w4.heap.size, 0, none⟩ (.int .i64 r.runs)).setCell ⟨w4.heap.size, 1, none⟩ (.bool r.failed)).setCell ⟨w4.heap.size, 2, none⟩ (.slice A6 r.tape.length c6)).setCell ⟨w4.heap.size, 3, none⟩ (.int .i64 r.steps) = wp at *
        have AWP := Lib.hid (show At wp wp.heap.size A6 r.tape from At.more AWP.out SW.out)
        clear r0 r1 r2 r3 rf0 rf1 rf2 rf3
        have CR := Lib.hid (RN2.out wp BP.out)
        ((with_reducible refine CR.out.mono ?_))
        rintro e wa ⟨Aa, ca, rfl, haa, hca, hba⟩
        have NR := bel1 wa (rc r Aa ca)
        have BA := Lib.hid (below_trans (below_trans BP.out hba) NR)
        have HR := Lib.hid (show R4 wa.heap.size (.int .i64 r.runs) (.bool r.failed) (.slice Aa r.tape.length ca) (.int .i64 r.steps) (wa.alloc (rc r Aa ca)) from new_obj wa _)
        have HP := Lib.hid ((HWP.out.below hba).below NR)
        have AA := Lib.hid ((haa.below NR).more NR.size)
        have AW := Lib.hid ((((AWP.out.below hba).more hba.size).below NR).more NR.size)
        have EA := Lib.hid (ET.out 0 (wa.alloc (rc r Aa ca)) BA.out)
        clear NR hba haa hca CR k0 k1 k2 k3 x0 x1 x2
        generalize errOf 0 = ev at *
        go_wp2_with fail
        generalize wa.alloc (rc r Aa ca) = wb at *
        generalize wa.heap.size = pr at *
        ((with_reducible refine EA.out.mono ?_))
        rintro e wc ⟨rfl, hbc⟩
        have BC := Lib.hid (below_trans BA.out hbc)
        obtain ⟨⟨a0, a1, a2, a3⟩, _⟩ := (HR.out.below hbc).facts
        obtain ⟨⟨b0, b1, b2, b3⟩, _⟩ := (HP.out.below hbc).facts
        have SR := Lib.hid (report_same r Aa A6 ca c6 wc ((AA.out.below hbc).more hbc.size) ((AW.out.below hbc).more hbc.size) RM.out)
        clear hbc EA
        go_wp2_with fail
        ((with_reducible refine SR.out.mono ?_))
        rintro e wd ⟨rfl, hbd⟩
        have BD := Lib.hid (below_trans BC.out hbd)
        clear hbd SR a0 a1 a2 a3 b0 b1 b2 b3
        go_wp2_with fail
        go_ret
        exact ⟨rfl, BD.out⟩
    · have HQ := Lib.hid (show runE t x many = faultE x by rw [RE0.out, if_neg hf])
      have HNE := Lib.hid hf
      have re : (faultE x == 0) = false := by rw [beq_eq_false_iff_ne]; exact hf
      generalize hq : faultE x = q at *
      have RN2 := Lib.hid (RN.out ⟨0, false, [], 0⟩ (q) (runR_no (by rw [HQ.out]; exact HNE.out)) HQ.out)
      clear RN RO RL
      have NW := Lib.hid (bel1 w4 (.cells #[.int .i64 0, .bool false, .slice none 0 0, .int .i64 0] 34))
      have HW := Lib.hid (show R4 w4.heap.size (.int .i64 0) (.bool false) (.slice none 0 0) (.int .i64 0) (w4.alloc (.cells #[.int .i64 0, .bool false, .slice none 0 0, .int .i64 0] 34)) from new_obj w4 _)
      have BN := Lib.hid (below_trans B4.out NW.out)
      have XN := Lib.hid (X4.out.below NW.out)
      have GN := Lib.hid (G4'.out.below NW.out)
      clear NW
      obtain ⟨k0, k1, k2, k3⟩ := GN.out.facts
      obtain ⟨x0, x1, x2⟩ := XN.out.facts
      clear HQ HNE RE0 hf hq
      go_wp2_with fail
      generalize w4.alloc (.cells #[.int .i64 0, .bool false, .slice none 0 0, .int .i64 0] 34) = wp at *
      have BP := Lib.hid BN.out
      have HWP := Lib.hid HW.out
      have AWP := Lib.hid (show At wp wp.heap.size none ([] : List Int) from fun h => by simp at h)
      have RM := Lib.hid (show ([] : List Int).length ≤ maxLen by simp)
      obtain ⟨r, hr⟩ : ∃ r : Rep, r = ⟨0, false, [], 0⟩ := ⟨_, rfl⟩
      have E0 := Lib.hid (show (0 : Int) = r.runs ∧ false = r.failed ∧ (none : Option Addr) = none ∧ r.tape = [] ∧ (0 : Int) = r.steps by rw [hr]; exact ⟨rfl, rfl, rfl, rfl, rfl⟩)
      have HWP := Lib.hid (show R4 w4.heap.size (.int .i64 r.runs) (.bool r.failed) (.slice none r.tape.length 0) (.int .i64 r.steps) wp by rw [hr]; exact HWP.out)
      have AWP := Lib.hid (show At wp wp.heap.size none r.tape by rw [hr]; exact AWP.out)
      have RM := Lib.hid (show r.tape.length ≤ maxLen by rw [hr]; exact RM.out)
      rw [← hr] at RN2
      clear hr E0
      have CR := Lib.hid (RN2.out wp BP.out)
      ((with_reducible refine CR.out.mono ?_))
      rintro e wa ⟨Aa, ca, rfl, haa, hca, hba⟩
      have NR := bel1 wa (rc r Aa ca)
      have BA := Lib.hid (below_trans (below_trans BP.out hba) NR)
      have HR := Lib.hid (show R4 wa.heap.size (.int .i64 r.runs) (.bool r.failed) (.slice Aa r.tape.length ca) (.int .i64 r.steps) (wa.alloc (rc r Aa ca)) from new_obj wa _)
      have HP := Lib.hid ((HWP.out.below hba).below NR)
      have AA := Lib.hid ((haa.below NR).more NR.size)
      have AW := Lib.hid ((((AWP.out.below hba).more hba.size).below NR).more NR.size)
      have EA := Lib.hid (ET.out q (wa.alloc (rc r Aa ca)) BA.out)
      clear NR hba haa hca CR k0 k1 k2 k3 x0 x1 x2
      generalize errOf q = ev at *
      go_wp2_with fail
      generalize wa.alloc (rc r Aa ca) = wb at *
      generalize wa.heap.size = pr at *
      ((with_reducible refine EA.out.mono ?_))
      rintro e wc ⟨rfl, hbc⟩
      have BC := Lib.hid (below_trans BA.out hbc)
      obtain ⟨⟨a0, a1, a2, a3⟩, _⟩ := (HR.out.below hbc).facts
      obtain ⟨⟨b0, b1, b2, b3⟩, _⟩ := (HP.out.below hbc).facts
      have SR := Lib.hid (report_same r Aa none ca 0 wc ((AA.out.below hbc).more hbc.size) ((AW.out.below hbc).more hbc.size) RM.out)
      clear hbc EA
      go_wp2_with fail
      ((with_reducible refine SR.out.mono ?_))
      rintro e wd ⟨rfl, hbd⟩
      have BD := Lib.hid (below_trans BC.out hbd)
      clear hbd SR a0 a1 a2 a3 b0 b1 b2 b3
      go_wp2_with fail
      go_ret
      exact ⟨rfl, BD.out⟩
  · have HQ := Lib.hid (show runE t x many = genV t by unfold runE; rw [if_neg h0])
    have HNE := Lib.hid h0
    have re : (genV t == 0) = false := by rw [beq_eq_false_iff_ne]; exact h0
    generalize hq : genV t = q at *
    clear k0 k1 k2 k3 x0 x1 x2
    have RN2 := Lib.hid (RN.out ⟨0, false, [], 0⟩ (q) (runR_no (by rw [HQ.out]; exact HNE.out)) HQ.out)
    clear RN RO RL
    have NW := Lib.hid (bel1 w3 (.cells #[.int .i64 0, .bool false, .slice none 0 0, .int .i64 0] 34))
    have HW := Lib.hid (show R4 w3.heap.size (.int .i64 0) (.bool false) (.slice none 0 0) (.int .i64 0) (w3.alloc (.cells #[.int .i64 0, .bool false, .slice none 0 0, .int .i64 0] 34)) from new_obj w3 _)
    have BN := Lib.hid (below_trans B3.out NW.out)
    have XN := Lib.hid (X3.out.below NW.out)
    have GN := Lib.hid (G3.out.below NW.out)
    clear NW
    obtain ⟨k0, k1, k2, k3⟩ := GN.out.facts
    obtain ⟨x0, x1, x2⟩ := XN.out.facts
    clear HQ HNE h0 hq GF XF
    go_wp2_with fail
    generalize w3.alloc (.cells #[.int .i64 0, .bool false, .slice none 0 0, .int .i64 0] 34) = wp at *
    have BP := Lib.hid BN.out
    have HWP := Lib.hid HW.out
    have AWP := Lib.hid (show At wp wp.heap.size none ([] : List Int) from fun h => by simp at h)
    have RM := Lib.hid (show ([] : List Int).length ≤ maxLen by simp)
    obtain ⟨r, hr⟩ : ∃ r : Rep, r = ⟨0, false, [], 0⟩ := ⟨_, rfl⟩
    have E0 := Lib.hid (show (0 : Int) = r.runs ∧ false = r.failed ∧ (none : Option Addr) = none ∧ r.tape = [] ∧ (0 : Int) = r.steps by rw [hr]; exact ⟨rfl, rfl, rfl, rfl, rfl⟩)
    have HWP := Lib.hid (show R4 w3.heap.size (.int .i64 r.runs) (.bool r.failed) (.slice none r.tape.length 0) (.int .i64 r.steps) wp by rw [hr]; exact HWP.out)
    have AWP := Lib.hid (show At wp wp.heap.size none r.tape by rw [hr]; exact AWP.out)
    have RM := Lib.hid (show r.tape.length ≤ maxLen by rw [hr]; exact RM.out)
    rw [← hr] at RN2
    clear hr E0
    have CR := Lib.hid (RN2.out wp BP.out)
    ((with_reducible refine CR.out.mono ?_))
    rintro e wa ⟨Aa, ca, rfl, haa, hca, hba⟩
    have NR := bel1 wa (rc r Aa ca)
    have BA := Lib.hid (below_trans (below_trans BP.out hba) NR)
    have HR := Lib.hid (show R4 wa.heap.size (.int .i64 r.runs) (.bool r.failed) (.slice Aa r.tape.length ca) (.int .i64 r.steps) (wa.alloc (rc r Aa ca)) from new_obj wa _)
    have HP := Lib.hid ((HWP.out.below hba).below NR)
    have AA := Lib.hid ((haa.below NR).more NR.size)
    have AW := Lib.hid ((((AWP.out.below hba).more hba.size).below NR).more NR.size)
    have EA := Lib.hid (ET.out q (wa.alloc (rc r Aa ca)) BA.out)
    clear NR hba haa hca CR k0 k1 k2 k3 x0 x1 x2
    generalize errOf q = ev at *
    go_wp2_with fail
    generalize wa.alloc (rc r Aa ca) = wb at *
    generalize wa.heap.size = pr at *
    ((with_reducible refine EA.out.mono ?_))
    rintro e wc ⟨rfl, hbc⟩
    have BC := Lib.hid (below_trans BA.out hbc)
    obtain ⟨⟨a0, a1, a2, a3⟩, _⟩ := (HR.out.below hbc).facts
    obtain ⟨⟨b0, b1, b2, b3⟩, _⟩ := (HP.out.below hbc).facts
    have SR := Lib.hid (report_same r Aa none ca 0 wc ((AA.out.below hbc).more hbc.size) ((AW.out.below hbc).more hbc.size) RM.out)
    clear hbc EA
    go_wp2_with fail
    ((with_reducible refine SR.out.mono ?_))
    rintro e wd ⟨rfl, hbd⟩
    have BD := Lib.hid (below_trans BC.out hbd)
    clear hbd SR a0 a1 a2 a3 b0 b1 b2 b3
    go_wp2_with fail
    go_ret
    exact ⟨rfl, BD.out⟩
end Go.Proofs.YtabkihellcflhaaGreatDoor.RunTellLaw
