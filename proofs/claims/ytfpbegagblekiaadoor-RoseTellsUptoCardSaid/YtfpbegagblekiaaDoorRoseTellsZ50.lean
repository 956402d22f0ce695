/- RoseTells, part 50 of the proof: What a row's list gives of the library's variable errors.errorType. · The statements' own Error of an error and its own number. Conditions: the library's variable that errors.As reads. · A generator without parts, in memory. · The statements' own 'coin' and 'made'. · RoseTells: the walk. Conditions: the sizes; the library's variable that errors.As reads. -/
import Derived.Test.YtfpbegagblekiaaDoorRoseTellsZ49
import Derived.Test.YtfpbegagblekiaaDoorRows
import Derived.LaidHandle
import Derived.Below
import Derived.Test.YtfpbegagblekiaaDoorRoseTellsZ8
import Derived.Test.YtfpbegagblekiaaDoorRoseTellsZ6
import Derived.Test.YtfpbegagblekiaaDoorRoseTellsZ42
import Derived.Test.YtfpbegagblekiaaDoorRoseTellsZ45
import Derived.Test.YtfpbegagblekiaaDoorRoseTellsZ47
import Derived.Test.YtfpbegagblekiaaDoorRoseTellsZ28
import Derived.Test.YtfpbegagblekiaaDoorRoseTellsZ48
/- What a row's list gives of the library's variable errors.errorType. -/
namespace Go.Proofs.YtfpbegagblekiaaDoor.Told
open Go.RowKit
theorem et : Tryd.prog.globalNamed "errors.errorType" = some 0 := by kernel_rfl
theorem rt : (Tryd.prog.cutTypes.find? (·.1 == "internal/reflectlite.rtype")).map (·.2) = some 127 := by kernel_rfl
theorem oneRow : ((List.range 189).filter fun t => Tryd.prog.rowNamed t [101, 114, 114, 111, 114]) = [37] := by kernel_rfl
theorem size : Tryd.prog.types.size = 189 := by kernel_rfl
theorem handle_of_met {W : World} (h : handlesMet Tryd.prog [("errors.errorType", Rows.laid_errors_errorType)] W) : Handle W := by
  obtain ⟨name, u, ty, e1, e2, e3, e4, e5⟩ := h _ (List.mem_singleton.2 rfl)
  have en : name = [101, 114, 114, 111, 114] := (Option.some.inj e1).symm
  subst en
  obtain rfl := Option.some.inj (rt.symm.trans e2)
  have hm : ty ∈ (List.range 189).filter fun t => Tryd.prog.rowNamed t [101, 114, 114, 111, 114] := List.mem_filter.2 ⟨List.mem_range.2 (by rw [← size]; exact e3), e4⟩
  rw [oneRow] at hm
  obtain rfl := List.mem_singleton.1 hm
  have hh : typeHandle Tryd.prog 37 = .pointer (some ⟨2, 37, none⟩) := by kernel_rfl
  rw [hh] at e5
  simpa [Handle] using World.var?_cell et e5 0
theorem Handle.below {w w' : World} (h : Handle w) (hb : Below w.heap.size w w') : Handle w' := by
  have hlt : 0 < w.heap.size := World.block_lt_of_cell? _ _ h
  exact (hb.cell (p := ⟨0, 0, none⟩) hlt).trans h
end Go.Proofs.YtfpbegagblekiaaDoor.Told

/- The statements' own Error of an error and its own number. Conditions: the library's variable that errors.As reads. -/
namespace Go.Proofs.YtfpbegagblekiaaDoor.Owns
open Go.RowKit Vals
set_option linter.unusedVariables false
theorem err_ok (f : Int) (w : World) (h : Told.Handle w) : Calls Tryd.prog 15 #[errOf f, .int .i64 f] w fun e w' => e = .returned (.bool true) ∧ Below w.heap.size w w' := by
  by_cases hf : f = 0
  · subst hf
    refine (Told.error_nil 0 w).mono ?_
    rintro e w' ⟨rfl, hb⟩
    exact ⟨by simp, hb⟩
  · rw [errOf_no hf]
    refine (Told.error_errno f f w h).mono ?_
    rintro e w' ⟨rfl, hb⟩
    exact ⟨by simp, hb⟩
end Go.Proofs.YtfpbegagblekiaaDoor.Owns

/- A generator without parts, in memory. -/
namespace Go.Proofs.YtfpbegagblekiaaDoor.Gens
open Go.RowKit
set_option linter.unusedVariables false
theorem gat_leaf {w : World} {B : Nat} {k a b : Int} (hk : Wf k) (ha : Wf a) (hb : Wf b) : GAt w (GBel B) 1 (.agg #[.int .i64 k, .int .i64 a, .int .i64 b, .slice none 0 0]) (.node k a b []) :=
  ⟨⟨hk, ha, hb⟩, none, 0, rfl, Nat.le_refl _, fun hp => by simp [Gn.subs] at hp⟩
end Go.Proofs.YtfpbegagblekiaaDoor.Gens

/- The statements' own 'coin' and 'made'. -/
namespace Go.Proofs.YtfpbegagblekiaaDoor.Gens
open Go.RowKit Lists Ints Vals
set_option linter.unusedVariables false

theorem coin_ok (w : World) : Calls Tryd.prog 33 #[] w fun e w' => e = .returned (.agg #[.int .i64 2, .int .i64 3, .int .i64 4, .slice none 0 0]) ∧ Below w.heap.size w w' := by
  go_enter Tryd.func33, Tryd.ntmps33
  go_wp2_with fail
  refine bodyPost_ret (v := .agg #[.int .i64 2, .int .i64 3, .int .i64 4, .slice none 0 0]) (by simp [results, Tryd.results33, go_sem]) rfl ⟨rfl, ?_⟩
  repeat (first | exact Below.refl _ _ | refine Below.alloc ?_ (Nat.le_refl _) _ | refine Below.setCell ?_ (Nat.le_refl w.heap.size) _)

set_option maxHeartbeats 2000000 in
set_option maxRecDepth 100000 in
theorem made_ok (w : World) : Calls Tryd.prog 10 #[] w fun e w' => e = .returned (.bool true) ∧ Below w.heap.size w w' := by
  have CC := Lib.hid (coin_ok w)
  have RR := Lib.hid (fun (W : World) (hb : Below w.heap.size w W) (L : Option Addr) (lc : Nat) (ha : At W W.heap.size L [1]) (hc : 1 ≤ lc) => replay_prog (n := 1) (g := .node 2 3 4 []) (l := [1]) W (gat_leaf (by decide) (by decide) (by decide)) ha hc (by decide) (by decide))
  rw [show repV (.node 2 3 4 []) [1] = .ok (.node false 4 []) by rfl] at RR
  go_enter Tryd.func10, Tryd.ntmps10
  go_wp2_with fail
  refine CC.out.mono ?_
  rintro e w1 ⟨rfl, hb1⟩
  have B1 := Lib.hid hb1
  have A1 := Lib.hid (At.one_new w1 1)
  have B2 := Lib.hid (hb1.trans ((Below.refl w1.heap.size w1).alloc (Nat.le_refl _) (.cells #[.int .i64 1] 3) |>.mono hb1.size))
  clear hb1 CC
  go_wp2_with fail
  have z1 : (w1.alloc (.cells #[.int .i64 1] 3)).heap.size = w1.heap.size + 1 := by simp
  refine (RR.out (w1.alloc (.cells #[.int .i64 1] 3)) B2.out (some ⟨w1.heap.size, 0, none⟩) 1 (by rw [z1]; exact A1.out) (Nat.le_refl _)).mono ?_
  rintro e w3 ⟨A3, c3, rfl, ht, hn, hb3⟩
  have B3 := Lib.hid (below_trans B2.out hb3)
  clear RR ht hn hb3 z1
  simp only [trOf, errI, tval, Tr.list, Tr.num, Tr.items, List.length_nil, errOf_ok]
  go_wp2_with fail
  go_ret
  exact ⟨rfl, Below.alloc B3.out (by have := B3.out.size; omega) _⟩
end Go.Proofs.YtfpbegagblekiaaDoor.Gens

/- RoseTells: the walk. Conditions: the sizes; the library's variable that errors.As reads. -/
namespace Go.Proofs.YtfpbegagblekiaaDoor.RoTellsLaw
open Go.RowKit Lists Ints Vals Gens Owns
set_option linter.unusedVariables false

/-- what the document's ReplayOf tells, one way -/
def RdE (w : World) (q : Int) (e : Ending) (w' : World) : Prop := ∃ v : Value, e = .returned (.tuple #[v, .int .i64 q]) ∧ Below w.heap.size w w'
theorem rde_of {w w' : World} {r : Except Int Tr} {e : Ending} (h : RpPost w r e w') : RdE w (errI r) e w' := by
  cases r with
  | ok v =>
    obtain ⟨hb, VA, vc, n, he, ht⟩ := h
    exact ⟨_, he, hb⟩
  | error er =>
    obtain ⟨hb, hne, he⟩ := h
    exact ⟨_, he, hb⟩
theorem roseE_of {t : Gn} {l : List Int} (h0 : genV t = 0) : errI (replayG t l) = roseE t l := by
  unfold roseE repV; rw [if_pos h0]; rfl
theorem roseE_bad {t : Gn} {l : List Int} (h0 : ¬ genV t = 0) : roseE t l = genV t := by
  unfold roseE repV; rw [if_neg h0]; rfl
theorem nil_rows (A B : Option Addr) (c d : Nat) (w : World) : Calls Tryd.prog 16 #[.slice A 0 c, .slice B 0 d] w fun e w' => e = .returned (.bool true) ∧ Below w.heap.size w w' :=
  samerows [] [] A B c d w.heap.size w (fun h => by simp at h) (fun h => by simp at h) (Nat.le_refl _) (by simp) (by simp) (by simp) (by simp)

set_option maxHeartbeats 8000000 in
set_option maxRecDepth 100000 in
theorem walk (t : Gn) (A : Option Addr) (c n : Nat) (l : List Int) (L : Option Addr) (lc : Nat) (hbulk : t.size + l.length ≤ 1048576) (w : World) (hg : GAt w (GBel w.heap.size) n (gv t A c) t) (hl : At w w.heap.size L l) (hcap : l.length ≤ lc) (hh : Told.Handle w) :
    Calls Tryd.prog 3 #[gv t A c, .slice L l.length lc] w fun e w' => e = .returned (.bool true) ∧ Below w.heap.size w w' := by
  have hb0 : Below w.heap.size w (w.alloc (gc t A c)) := (Below.refl _ _).alloc (Nat.le_refl _) _
  have g0 : G4 w.heap.size (.int .i64 t.kind) (.int .i64 t.a) (.int .i64 t.b) (.slice A t.subs.length c) (w.alloc (gc t A c)) := new_obj w _
  have JC := Lib.hid (fun (w : World) => made_ok w)
  have GF := Lib.hid (fun (W : World) (hb : Below w.heap.size w W) => gen_any n t A c w.heap.size W (hg.below hb) hb.size (by omega))
  have RD := Lib.hid (fun (h0 : genV t = 0) (W : World) (hb : Below w.heap.size w W) => show Calls Tryd.prog 12 #[gv t A c, .slice L l.length lc] W (RdE W (roseE t l)) by
    refine (replayof_any n t A c l L lc w.heap.size W (hg.below hb) (gen_right h0).1 (by omega) (hl.below hb) hb.size (by have := small_long (gen_right h0).2; omega) (by omega)).mono ?_
    intro e w' h
    rw [← roseE_of h0]
    exact rde_of h)
  have LT := Lib.hid (fun (hz : roseE t l = 0) (W : World) (hb : Below w.heap.size w W) => lesstapes_any W ((hg.below hb).more hb.size) (rep_facts hz).1 ((hl.below hb).more hb.size) hcap (rep_facts hz).2.1 (rep_facts hz).2.2)
  have RO := Lib.hid (fun (W : World) (hb : Below w.heap.size w W) => rose_prog (L := L) (l := l) (lc := lc) W ((hg.below hb).more hb.size) ((hl.below hb).more hb.size) hcap (by omega) (by omega))
  have ET := Lib.hid (fun (f : Int) (W : World) (hb : Below w.heap.size w W) => err_ok f W (hh.below hb))
  have RF := Lib.hid (fun (h0 : genV t = 0) => rose_facts h0 l)
  have LN := Lib.hid (show l.length ≤ 1048576 by omega)
  have RB := Lib.hid (fun (h0 : ¬ genV t = 0) => roseE_bad (l := l) h0)
  have RV0 := Lib.hid (fun (hz : roseE t l = 0) => show roseV t l = roseL t l by unfold roseV; rw [if_pos hz])
  have RV1 := Lib.hid (fun (hz : ¬ roseE t l = 0) => show roseV t l = [] by unfold roseV; rw [if_neg hz])
  have B0 := Lib.hid hb0
  have G0 := Lib.hid g0
  clear hb0 g0 hg hl hcap hbulk hh
  go_enter Tryd.func3, Tryd.ntmps3
  go_wp2_with fail
  generalize w.alloc (gc t A c) = W0 at *
  refine (JC.out _).mono ?_
  rintro e w1 ⟨rfl, hb1⟩
  have B1 := Lib.hid (below_trans B0.out hb1)
  have G1 := Lib.hid (G0.out.below hb1)
  obtain ⟨k0, k1, k2, k3⟩ := G1.out.facts
  clear hb1
  go_wp2_with fail
  ((with_reducible refine (GF.out w1 B1.out).mono ?_))
  rintro e w2 ⟨rfl, hb2⟩
  have B2 := Lib.hid (below_trans B1.out hb2)
  have G2 := Lib.hid (G1.out.below hb2)
  clear hb2 k0 k1 k2 k3
  obtain ⟨k0, k1, k2, k3⟩ := G2.out.facts
  by_cases h0 : genV t = 0
  · by_cases hz : roseE t l = 0
    · have RD2 := Lib.hid (fun W hb => RD.out h0 W hb)
      have LT2 := Lib.hid (fun W hb => LT.out hz W hb)
      have RF2 := Lib.hid (RF.out h0)
      have RO2 := Lib.hid (fun W hb => show Calls Tryd.prog 14 #[gv t A c, .slice L l.length lc] W (RsOk (roseL t l) W) by
        refine (RO.out W hb).mono ?_
        rintro e w' ⟨A5, c5, rfl, h5, h6⟩
        rw [RV0.out hz] at h5 ⊢
        rw [hz, errOf_ok]
        exact ⟨A5, c5, rfl, h5.weak, h6⟩)
      rw [h0]
      rw [hz] at RD2
      clear h0 hz GF RD LT RF RB RV0 RV1 RO
      generalize roseL t l = z at *
      have ZL := Lib.hid (show z.length ≤ 1099511627776 from by have := RF2.out.1; have := LN.out; omega)
      have ZI := Lib.hid (show ∀ x ∈ z, x.length ≤ maxLen from fun x hx => by have := (RF2.out.2 x hx).2.2; simp only [maxLen]; omega)
      go_wp2_with fail
      ((with_reducible refine (RD2.out w2 B2.out).mono ?_))
      rintro e w3 ⟨v3, rfl, hb3⟩
      have B3 := Lib.hid (below_trans B2.out hb3)
      have G3 := Lib.hid (G2.out.below hb3)
      clear hb3 k0 k1 k2 k3
      obtain ⟨k0, k1, k2, k3⟩ := G3.out.facts
      go_wp2_with fail
      ((with_reducible refine (LT2.out w3 B3.out).mono ?_))
      rintro e w4 ⟨A4, c4, rfl, hr4, hb4⟩
      have B4 := Lib.hid (below_trans B3.out hb4)
      have G4' := Lib.hid (G3.out.below hb4)
      have R4 := Lib.hid hr4
      clear hb4 hr4 k0 k1 k2 k3
      obtain ⟨k0, k1, k2, k3⟩ := G4'.out.facts
      go_wp2_with fail
      ((with_reducible refine (RO2.out w4 B4.out).mono ?_))
      rintro e w5 ⟨A5, c5, rfl, ho5, hb5⟩
      have B5 := Lib.hid (below_trans B4.out hb5)
      have R5 := Lib.hid (show RowsWAt w5 w5.heap.size A4 z from (RowsP.more (RowsP.below R4.out hb5) hb5.size).weak)
      have S5 := Lib.hid (show RowsWAt w5 w5.heap.size A5 z from ho5.at_.weak)
      clear hb5 ho5 k0 k1 k2 k3
      have E5 := Lib.hid (ET.out 0 w5 B5.out)
      rw [errOf_ok] at E5
      go_wp2_with fail
      ((with_reducible refine E5.out.mono ?_))
      rintro e w6 ⟨rfl, hb6⟩
      have B6 := Lib.hid (below_trans B5.out hb6)
      have SR := samerows z z A5 A4 c5 c4 w6.heap.size w6 ((S5.out.below hb6).more hb6.size) ((R5.out.below hb6).more hb6.size) (Nat.le_refl _) ZL.out ZL.out ZI.out ZI.out
      rw [decide_eq_true (rfl : z = z)] at SR
      have SR := Lib.hid SR
      clear hb6
      go_wp2_with fail
      ((with_reducible refine SR.out.mono ?_))
      rintro e w7 ⟨rfl, hb7⟩
      have B7 := Lib.hid (below_trans B6.out hb7)
      clear hb7
      go_wp2_with fail
      go_ret
      exact ⟨rfl, B7.out⟩
    · have RD2 := Lib.hid (fun W hb => RD.out h0 W hb)
      have RV := Lib.hid (RV1.out hz)
      have RO2 := Lib.hid (fun W hb => show Calls Tryd.prog 14 #[gv t A c, .slice L l.length lc] W (fun e w' => ∃ (A5 : Option Addr) (c5 : Nat), e = .returned (.tuple #[.slice A5 0 c5, errOf (roseE t l)]) ∧ Below W.heap.size W w') by
        refine (RO.out W hb).mono ?_
        rintro e w' ⟨A5, c5, rfl, h5, h6⟩
        rw [RV.out]
        exact ⟨A5, c5, rfl, h6⟩)
      have RE := Lib.hid (show (roseE t l == 0) = false from by rw [beq_eq_false_iff_ne]; exact hz)
      have NR := Lib.hid nil_rows
      rw [h0]
      clear h0 hz GF RD LT RF RB RV0 RV1 RO
      generalize roseE t l = q at *
      have re := RE.out
      go_wp2_with fail
      ((with_reducible refine (RD2.out w2 B2.out).mono ?_))
      rintro e w3 ⟨v3, rfl, hb3⟩
      have B3 := Lib.hid (below_trans B2.out hb3)
      have G3 := Lib.hid (G2.out.below hb3)
      clear hb3 k0 k1 k2 k3
      obtain ⟨k0, k1, k2, k3⟩ := G3.out.facts
      go_wp2_with fail
      ((with_reducible refine (RO2.out w3 B3.out).mono ?_))
      rintro e w5 ⟨A5, c5, rfl, hb5⟩
      have B5 := Lib.hid (below_trans B3.out hb5)
      clear hb5 k0 k1 k2 k3
      have E5 := Lib.hid (ET.out q w5 B5.out)
      generalize errOf q = ev at *
      go_wp2_with fail
      ((with_reducible refine E5.out.mono ?_))
      rintro e w6 ⟨rfl, hb6⟩
      have B6 := Lib.hid (below_trans B5.out hb6)
      clear hb6
      go_wp2_with fail
      refine (NR.out _ _ _ _ _).mono ?_
      rintro e w7 ⟨rfl, hb7⟩
      have B7 := Lib.hid (below_trans B6.out hb7)
      clear hb7
      go_wp2_with fail
      go_ret
      exact ⟨rfl, B7.out⟩
  · have E1 := RB.out h0
    have hz : ¬ roseE t l = 0 := by rw [E1]; exact h0
    have RV := Lib.hid (RV1.out hz)
    have RO2 := Lib.hid (fun W hb => show Calls Tryd.prog 14 #[gv t A c, .slice L l.length lc] W (fun e w' => ∃ (A5 : Option Addr) (c5 : Nat), e = .returned (.tuple #[.slice A5 0 c5, errOf (genV t)]) ∧ Below W.heap.size W w') by
      refine (RO.out W hb).mono ?_
      rintro e w' ⟨A5, c5, rfl, h5, h6⟩
      rw [RV.out, E1]
      exact ⟨A5, c5, rfl, h6⟩)
    have RE := Lib.hid (show (genV t == 0) = false from by rw [beq_eq_false_iff_ne]; exact h0)
    have NR := Lib.hid nil_rows
    clear h0 hz E1 GF RD LT RF RB RV0 RV1 RO
    generalize genV t = q at *
    have re := RE.out
    go_wp2_with fail
    ((with_reducible refine (RO2.out w2 B2.out).mono ?_))
    rintro e w5 ⟨A5, c5, rfl, hb5⟩
    have B5 := Lib.hid (below_trans B2.out hb5)
    clear hb5 k0 k1 k2 k3
    have E5 := Lib.hid (ET.out q w5 B5.out)
    generalize errOf q = ev at *
    go_wp2_with fail
    ((with_reducible refine E5.out.mono ?_))
    rintro e w6 ⟨rfl, hb6⟩
    have B6 := Lib.hid (below_trans B5.out hb6)
    clear hb6
    go_wp2_with fail
    refine (NR.out _ _ _ _ _).mono ?_
    rintro e w7 ⟨rfl, hb7⟩
    have B7 := Lib.hid (below_trans B6.out hb7)
    clear hb7
    go_wp2_with fail
    go_ret
    exact ⟨rfl, B7.out⟩
end Go.Proofs.YtfpbegagblekiaaDoor.RoTellsLaw
