/- TopFails, part 32 of the proof: The program's fails (package shrink). Conditions: the sizes; the program's table. · The program's checkStart (package shrink). Conditions: the sizes; the program's table. · append of a slice of numbers onto a row of the call's own, as one step of a region that draws its order. Conditions: the sizes. -/
import Derived.Test.YtabkihellcflhaaGreatDoorTopFailsZ24
import Derived.Test.YtabkihellcflhaaGreatDoorTopFailsZ29
import Derived.Test.YtabkihellcflhaaGreatDoorTopFailsZ31
import Derived.Test.YtabkihellcflhaaGreatDoorTopFailsZ10
import Derived.Deep.RegionLaw
/- The program's fails (package shrink). Conditions: the sizes; the program's table. -/
namespace Go.Proofs.YtabkihellcflhaaGreatDoor.Gens
open Go.RowKit Lists Ints Vals Exprs
set_option linter.unusedVariables false

theorem rep_of {t : Gn} {l : List Int} (h : roseE t l = 0) : ∃ v, repV t l = .ok v := by
  obtain ⟨h0, h1⟩ := rep_own h
  obtain ⟨v, h2⟩ := rep_mend h0 l
  rw [h1] at h2
  exact ⟨v, h2⟩
set_option maxHeartbeats 4000000 in
set_option maxRecDepth 100000 in
theorem shfails_ok {t x : Gn} {GA XA L : Option Addr} {gcap xcap lc n nx : Nat} {l : List Int} (w : World) (hg : GAt w (GBel w.heap.size) n (gv t GA gcap) t) (hx : EAt w (EBel w.heap.size) nx (ev x XA xcap) x) (hf : faultE x = 0) (hsub : Subs w) (hl : At w w.heap.size L l) (hcap : l.length ≤ lc) (hll : l.length ≤ 4294967296) (hsz : t.size ≤ 4294967296) (hxz : x.size ≤ 4294967296) :
    Calls Tryz.prog 91 #[gv t GA gcap, ev x XA xcap, .slice L l.length lc] w fun e w' => e = .returned (.tuple #[.bool (badT t x l), errOf (roseE t l)]) ∧ Below w.heap.size w w' := by
  have HB := Lib.hid (gx_boxes w t x GA XA gcap xcap)
  have RP := Lib.hid (fun (W : World) (hb : Below w.heap.size w W) => replay_prog W ((hg.below hb).more hb.size) ((hl.below hb).more hb.size) hcap hll hsz)
  have FA := Lib.hid (fun (v : Tr) (A : Option Addr) (c m : Nat) (hs : v.size ≤ 1399680) (W : World) (hb : Below w.heap.size w W) (hv : TAt W (Bel W.heap.size) m (vv v A c) v) => fails_any W ((hx.below hb).more hb.size) hv (Nat.le_refl _) hxz (by omega) (hsub.below hb))
  clear hg hx hsub hl hcap hll hsz hxz
  go_enter Tryz.func91, Tryz.ntmps91
  obtain ⟨k0, k1, k2, k3⟩ := HB.out.1.facts
  go_wp2_with fail
  generalize (w.alloc (gc t GA gcap)).alloc (ec x XA xcap) = W0 at *
  have R1 := RP.out W0 HB.out.2.2.1
  clear RP
  cases hr : repV t l with
  | error er =>
    have EV := Lib.hid (show badT t x l = false by unfold badT; rw [hr])
    have RE := Lib.hid (show roseE t l = er by unfold roseE; rw [hr]; rfl)
    have hne : er ≠ 0 := fun h => by
      have h1 : roseE t l = 0 := by rw [RE.out, h]
      have := rep_of h1
      obtain ⟨v, hv⟩ := this
      rw [hr] at hv
      cases hv
    have NE := Lib.hid (errOf_no hne)
    rw [hr] at R1
    have R1 := Lib.hid R1
    clear hr hne
    ((with_reducible refine R1.out.mono ?_))
    rintro e w1 ⟨A1, c1, rfl, _, _, hb1⟩
    have B1 := Lib.hid (HB.out.2.2.1.trans (hb1.mono HB.out.2.2.1.size))
    have N1 := Lib.hid (bel1 w1 (.cells #[.bool false, .int .i64 0, .slice A1 0 c1] 47))
    clear hb1 R1 k0 k1 k2 k3
    rw [show errI (.error er : Except Int Tr) = er from rfl, NE.out]
    simp only [trOf]
    go_wp2_with fail
    go_ret2
    exact ⟨by rw [EV.out, RE.out, NE.out]; rfl, below_trans B1.out N1.out⟩
  | ok v =>
    have EV := Lib.hid (show badT t x l = badN (numE v x) by unfold badT; rw [hr])
    have RE := Lib.hid (show roseE t l = 0 by unfold roseE; rw [hr]; rfl)
    obtain ⟨vs, vf⟩ := rep_size hr
    have FF := Lib.hid (show failF x v = 0 by unfold failF; rw [if_pos hf]; exact vf)
    have FBB := Lib.hid (show failB x v = badN (numE v x) by unfold failB; rw [if_pos FF.out])
    rw [hr] at R1
    have R1 := Lib.hid R1
    clear hr vf
    ((with_reducible refine R1.out.mono ?_))
    rintro e w1 ⟨A1, c1, rfl, ht, _, hb1⟩
    rw [show errI (.ok v : Except Int Tr) = 0 from rfl, errOf_ok]
    simp only [show trOf (.ok v : Except Int Tr) = v from rfl] at ht ⊢
    have B1 := Lib.hid (HB.out.2.2.1.trans (hb1.mono HB.out.2.2.1.size))
    have X1 := Lib.hid (HB.out.2.1.below hb1)
    have N1 := Lib.hid (bel1 w1 (.cells #[.bool v.list, .int .i64 v.num, .slice A1 v.items.length c1] 47))
    have NV := Lib.hid (show V3 w1.heap.size (.bool v.list) (.int .i64 v.num) (.slice A1 v.items.length c1) (w1.alloc (.cells #[.bool v.list, .int .i64 v.num, .slice A1 v.items.length c1] 47)) from new_obj w1 _)
    have CB := FA.out v A1 c1 n vs (w1.alloc (.cells #[.bool v.list, .int .i64 v.num, .slice A1 v.items.length c1] 47)) (below_trans B1.out N1.out) (ht.keep fun b hb => ⟨Nat.lt_of_lt_of_le hb.2 N1.out.size, fun o => N1.out.cell (p := ⟨b, o, none⟩) hb.2⟩)
    rw [FF.out, FBB.out, errOf_ok] at CB
    have CB := Lib.hid CB
    obtain ⟨x0, x1, x2⟩ := (X1.out.below N1.out).facts
    obtain ⟨v0, v1, v2, _⟩ := NV.out.facts
    clear hb1 ht R1 FA k0 k1 k2 k3
    generalize badN (numE v x) = q at *
    go_wp2_with fail
    ((with_reducible refine CB.out.mono ?_))
    rintro e w2 ⟨rfl, hb2⟩
    have B2 := Lib.hid (below_trans (below_trans B1.out N1.out) hb2)
    clear hb2
    go_wp2_with fail
    go_ret2
    exact ⟨by rw [EV.out, RE.out, errOf_ok]; rfl, B2.out⟩
end Go.Proofs.YtabkihellcflhaaGreatDoor.Gens

/- The program's checkStart (package shrink). Conditions: the sizes; the program's table. -/
namespace Go.Proofs.YtabkihellcflhaaGreatDoor.Gens
open Go.RowKit Lists Ints Vals Exprs
set_option linter.unusedVariables false

/-- the error of a walk -/
def startE (t x : Gn) (l : List Int) : Int := if genV t = 0 then (if faultE x = 0 then (if roseE t l = 0 then (if badT t x l = true then 0 else 2) else roseE t l) else faultE x) else genV t
theorem start_ok {t x : Gn} {l : List Int} (h : startE t x l = 0) : genV t = 0 ∧ faultE x = 0 ∧ roseE t l = 0 ∧ badT t x l = true := by
  unfold startE at h
  by_cases h0 : genV t = 0
  · rw [if_pos h0] at h
    by_cases h1 : faultE x = 0
    · rw [if_pos h1] at h
      by_cases h2 : roseE t l = 0
      · rw [if_pos h2] at h
        by_cases h3 : badT t x l = true
        · exact ⟨h0, h1, h2, h3⟩
        · rw [if_neg h3] at h; cases h
      · rw [if_neg h2] at h; exact absurd h h2
    · rw [if_neg h1] at h; exact absurd h h1
  · rw [if_neg h0] at h; exact absurd h h0

set_option maxHeartbeats 4000000 in
set_option maxRecDepth 100000 in
theorem start_prog {t x : Gn} {GA XA L : Option Addr} {gcap xcap lc n nx : Nat} {l : List Int} (w : World) (hg : GAt w (GBel w.heap.size) n (gv t GA gcap) t) (hx : EAt w (EBel w.heap.size) nx (ev x XA xcap) x) (hsub : Subs w) (hl : At w w.heap.size L l) (hcap : l.length ≤ lc) (hll : l.length ≤ 4294967296) (hsz : t.size ≤ 4294967296) (hxz : x.size ≤ 4294967296) :
    Calls Tryz.prog 59 #[gv t GA gcap, ev x XA xcap, .slice L l.length lc] w fun e w' => e = .returned (errOf (startE t x l)) ∧ Below w.heap.size w w' := by
  have HB := Lib.hid (gx_boxes w t x GA XA gcap xcap)
  have GC := Lib.hid (fun (W : World) (hb : Below w.heap.size w W) => gcheck W (hg.below hb) hb.size hsz)
  have EC := Lib.hid (fun (W : World) (hb : Below w.heap.size w W) => echeck W (hx.below hb) hb.size hxz (hsub.below hb))
  have FA := Lib.hid (fun (hf : faultE x = 0) (W : World) (hb : Below w.heap.size w W) => shfails_ok W ((hg.below hb).more hb.size) ((hx.below hb).more hb.size) hf (hsub.below hb) ((hl.below hb).more hb.size) hcap hll hsz hxz)
  have SE := Lib.hid (show startE t x l = if genV t = 0 then (if faultE x = 0 then (if roseE t l = 0 then (if badT t x l = true then 0 else 2) else roseE t l) else faultE x) else genV t from rfl)
  clear hg hx hsub hl hcap hll hsz hxz
  obtain ⟨k0, k1, k2, k3⟩ := HB.out.1.facts
  by_cases h0 : genV t = 0
  · rw [if_pos h0] at SE
    rw [h0, errOf_ok] at GC
    clear h0
    by_cases h1 : faultE x = 0
    · rw [if_pos h1] at SE
      have FB := Lib.hid (FA.out h1)
      rw [h1, errOf_ok] at EC
      clear h1 FA
      by_cases h2 : roseE t l = 0
      · rw [if_pos h2] at SE
        rw [h2, errOf_ok] at FB
        clear h2
        generalize badT t x l = q at *
        cases q
        all_goals
          go_enter Tryz.func59, Tryz.ntmps59
          go_wp2_with fail
          generalize (w.alloc (gc t GA gcap)).alloc (ec x XA xcap) = W0 at *
          ((with_reducible refine (GC.out W0 HB.out.2.2.1).mono ?_))
          rintro e w1 ⟨rfl, hb1⟩
          have B1 := Lib.hid (HB.out.2.2.1.trans (hb1.mono HB.out.2.2.1.size))
          have X1 := Lib.hid (HB.out.2.1.below hb1)
          have G1 := Lib.hid (HB.out.1.below hb1)
          obtain ⟨x0, x1, x2⟩ := X1.out.facts
          clear k0 k1 k2 k3 hb1
          go_wp2_with fail
          ((with_reducible refine (EC.out w1 B1.out).mono ?_))
          rintro e w2 ⟨rfl, hb2⟩
          clear x0 x1 x2
          have B2 := Lib.hid (below_trans B1.out hb2)
          obtain ⟨x0, x1, x2⟩ := (X1.out.below hb2).facts
          obtain ⟨k0, k1, k2, k3⟩ := (G1.out.below hb2).facts
          clear hb2 X1 G1
          go_wp2_with fail
          ((with_reducible refine (FB.out w2 B2.out).mono ?_))
          rintro e w3 ⟨rfl, hb3⟩
          have B3 := Lib.hid (below_trans B2.out hb3)
          clear hb3 x0 x1 x2 k0 k1 k2 k3
          go_wp2_with fail
          go_ret
          exact ⟨by rw [SE.out]; rfl, B3.out⟩
      · rw [if_neg h2] at SE
        have RE := Lib.hid (errOf_no h2)
        rw [errOf_no h2] at FB
        clear h2
        generalize roseE t l = f at *
        generalize badT t x l = q at *
        go_enter Tryz.func59, Tryz.ntmps59
        go_wp2_with fail
        generalize (w.alloc (gc t GA gcap)).alloc (ec x XA xcap) = W0 at *
        ((with_reducible refine (GC.out W0 HB.out.2.2.1).mono ?_))
        rintro e w1 ⟨rfl, hb1⟩
        have B1 := Lib.hid (HB.out.2.2.1.trans (hb1.mono HB.out.2.2.1.size))
        have X1 := Lib.hid (HB.out.2.1.below hb1)
        have G1 := Lib.hid (HB.out.1.below hb1)
        obtain ⟨x0, x1, x2⟩ := X1.out.facts
        clear k0 k1 k2 k3 hb1
        go_wp2_with fail
        ((with_reducible refine (EC.out w1 B1.out).mono ?_))
        rintro e w2 ⟨rfl, hb2⟩
        clear x0 x1 x2
        have B2 := Lib.hid (below_trans B1.out hb2)
        obtain ⟨x0, x1, x2⟩ := (X1.out.below hb2).facts
        obtain ⟨k0, k1, k2, k3⟩ := (G1.out.below hb2).facts
        clear hb2 X1 G1
        go_wp2_with fail
        ((with_reducible refine (FB.out w2 B2.out).mono ?_))
        rintro e w3 ⟨rfl, hb3⟩
        have B3 := Lib.hid (below_trans B2.out hb3)
        clear hb3 x0 x1 x2 k0 k1 k2 k3
        go_wp2_with fail
        go_ret
        exact ⟨by rw [SE.out, RE.out]; rfl, B3.out⟩
    · rw [if_neg h1] at SE
      have RE := Lib.hid (errOf_no h1)
      rw [errOf_no h1] at EC
      clear h1 FA
      generalize faultE x = f at *
      go_enter Tryz.func59, Tryz.ntmps59
      go_wp2_with fail
      generalize (w.alloc (gc t GA gcap)).alloc (ec x XA xcap) = W0 at *
      ((with_reducible refine (GC.out W0 HB.out.2.2.1).mono ?_))
      rintro e w1 ⟨rfl, hb1⟩
      have B1 := Lib.hid (HB.out.2.2.1.trans (hb1.mono HB.out.2.2.1.size))
      have X1 := Lib.hid (HB.out.2.1.below hb1)
      obtain ⟨x0, x1, x2⟩ := X1.out.facts
      clear k0 k1 k2 k3 hb1
      go_wp2_with fail
      ((with_reducible refine (EC.out w1 B1.out).mono ?_))
      rintro e w2 ⟨rfl, hb2⟩
      clear x0 x1 x2
      have B2 := Lib.hid (below_trans B1.out hb2)
      clear hb2 X1
      go_wp2_with fail
      go_ret
      exact ⟨by rw [SE.out, RE.out]; rfl, B2.out⟩
  · rw [if_neg h0] at SE
    have RE := Lib.hid (errOf_no h0)
    rw [errOf_no h0] at GC
    clear h0 FA EC
    generalize genV t = f at *
    go_enter Tryz.func59, Tryz.ntmps59
    go_wp2_with fail
    generalize (w.alloc (gc t GA gcap)).alloc (ec x XA xcap) = W0 at *
    ((with_reducible refine (GC.out W0 HB.out.2.2.1).mono ?_))
    rintro e w1 ⟨rfl, hb1⟩
    have B1 := Lib.hid (HB.out.2.2.1.trans (hb1.mono HB.out.2.2.1.size))
    clear k0 k1 k2 k3 hb1
    go_wp2_with fail
    go_ret
    exact ⟨by rw [SE.out, RE.out]; rfl, B1.out⟩
end Go.Proofs.YtabkihellcflhaaGreatDoor.Gens

/- append of a slice of numbers onto a row of the call's own, as one step of a region that draws its order. Conditions: the sizes. -/
namespace Go.Proofs.YtabkihellcflhaaGreatDoor.Ints
open Go.RowKit Go.WideShapes Go.ChangeShapes
set_option linter.unusedVariables false
theorem step_append_ints {ops : Array Oper} {o : Oper} {a : Act} {w : World} {K : Act → World → Prop} {Q : Exit → Act → World → Prop} {E : Prop} (hgd : o.guard = none) (s x : Operand)
    (ho : o.op = .call { callee := .builtin .append, args := #[s, x], argTypes := #[32, 32] })
    (base c : Nat) (A : Option Addr) (z : List Int) (hown : Own w base A c z) (B : Nat) (A2 : Option Addr) (c2 : Nat) (l : List Int) (hr : At w B A2 l)
    (hs : a.eval s = .slice A z.length c) (hx : a.eval x = .slice A2 l.length c2)
    (h63 : z.length + l.length ≤ 17592186044416) (hbase : base ≤ w.heap.size)
    (h : ∀ A' c' w' (zl : List Int), Hid (zl = z ++ l) → Own w' base A' c' zl → w.grownBy w' (rowOf A) → (rowOf A' = rowOf A ∨ rowOf A' = some w.heap.size) → K (a.put o.dst (.slice A' zl.length c')) w') :
    if Region.wanted o (yielded ops a.tmps) = true then Oper.wp Tryz.prog o a w K Q else E := by
  have hw : Region.wanted o (yielded ops a.tmps) = true := by simp [Region.wanted, hgd]
  rw [if_pos hw]
  obtain ⟨A', c', w', hrun, h2, h3, h4⟩ := run_append_ints w base c A z hown B A2 c2 l hr h63 hbase o.type
  unfold Oper.wp execOp
  simp only [ho, resolve, invoke, builtin, Sem.run_bind, Sem.run_pure, Result.andThen_ok, List.map_toArray, List.map_cons, List.map_nil, hs, hx, hrun]
  exact h A' c' w' _ rfl h2 h3 h4
theorem Own.cap_ {w : World} {base c : Nat} {A : Option Addr} {z : List Int} (h : Own w base A c z) : z.length ≤ c := by
  rcases h.2 with ⟨he, h0⟩ | ⟨g, cap, cur, he, _, _, hnc, _⟩
  · omega
  · injection he with _ _ h3; omega
end Go.Proofs.YtabkihellcflhaaGreatDoor.Ints
