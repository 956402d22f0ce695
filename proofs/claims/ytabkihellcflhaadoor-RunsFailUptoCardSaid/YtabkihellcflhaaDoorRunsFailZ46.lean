/- RunsFail, part 46 of the proof: A walk on its way: the mathematics. No program. · The program's Walk (package shrink). Conditions: the sizes; the program's table. · What a walk tells: the mathematics. No program. -/
import Derived.Test.YtabkihellcflhaaDoorRunsFailZ26
import Derived.Test.YtabkihellcflhaaDoorRunsFailZ36
import Derived.Test.YtabkihellcflhaaDoorRunsFailZ45
import Derived.Deep.LoopGhost
import Derived.Test.YtabkihellcflhaaDoorRunsFailZ23
/- A walk on its way: the mathematics. No program. -/
namespace Go.Proofs.YtabkihellcflhaaDoor.Gens
open Go.RowKit Lists Ints Vals Exprs
set_option linter.unusedVariables false

/-- where the walk stands at the tape y, behind so many steps -/
def Along (t x : Gn) (l y : List Int) (st : Nat) : Prop := roseE t y = 0 ∧ walkT t x l = ((walkT t x y).1, (walkT t x y).2 + st) ∧ st + measL y ≤ measL l
theorem along_start {t x : Gn} {l : List Int} (h : roseE t l = 0) : Along t x l l 0 := ⟨h, by simp, by omega⟩
theorem along_step {t x : Gn} {l y y2 : List Int} {st : Nat} (h : Along t x l y st) (hs : stepT t x y = some y2) : Along t x l y2 (st + 1) ∧ measL y2 < measL y := by
  obtain ⟨h1, h2, h3⟩ := h
  obtain ⟨s1, s2, _, _⟩ := step_facts h1 hs
  refine ⟨⟨s2, ?_, by omega⟩, s1⟩
  rw [h2, walk_step h1 hs]
  simp only [Prod.mk.injEq, true_and]
  omega
theorem along_end {t x : Gn} {l y : List Int} {st : Nat} (h : Along t x l y st) (hs : stepT t x y = none) : walkT t x l = (y, st) := by
  obtain ⟨h1, h2, _⟩ := h
  rw [h2, walk_stop h1 hs]
  simp
end Go.Proofs.YtabkihellcflhaaDoor.Gens

/- The program's Walk (package shrink). Conditions: the sizes; the program's table. -/
namespace Go.Proofs.YtabkihellcflhaaDoor.Gens
open Go.RowKit Lists Ints Vals Exprs
set_option linter.unusedVariables false

/-- what a walk tells: where it ends, and its steps -/
def walkV (t x : Gn) (l : List Int) : List Int × Nat := if startE t x l = 0 then walkT t x l else ([], 0)
def WlPost (t x : Gn) (l : List Int) (w : World) (e : Ending) (w' : World) : Prop :=
  ∃ (A : Option Addr) (c : Nat), e = .returned (.tuple #[.slice A (walkV t x l).1.length c, .int .i64 (walkV t x l).2, errOf (startE t x l)]) ∧ Own w' w.heap.size A c (walkV t x l).1 ∧ Below w.heap.size w w'

set_option maxHeartbeats 4000000 in
set_option maxRecDepth 100000 in
theorem walk_prog {t x : Gn} {GA XA L : Option Addr} {gcap xcap lc n nx : Nat} {l : List Int} (w : World) (hg : GAt w (GBel w.heap.size) n (gv t GA gcap) t) (hx : EAt w (EBel w.heap.size) nx (ev x XA xcap) x) (hsub : Subs w) (hl : At w w.heap.size L l) (hcap : l.length ≤ lc) (hll : l.length ≤ 4294967296) (hsz : t.size ≤ 4294967296) (hxz : x.size ≤ 4294967296) :
    Calls Tryd.prog 9 #[gv t GA gcap, ev x XA xcap, .slice L l.length lc] w (WlPost t x l w) := by
  have HB := Lib.hid (gx_boxes w t x GA XA gcap xcap)
  have SP := Lib.hid (fun (W : World) (hb : Below w.heap.size w W) => start_prog W ((hg.below hb).more hb.size) ((hx.below hb).more hb.size) (hsub.below hb) ((hl.below hb).more hb.size) hcap hll hsz hxz)
  have CL := Lib.hid (fun (W : World) (hb : Below w.heap.size w W) => clone_ok (lc := lc) W ((hl.below hb).more hb.size) (Nat.le_refl _) hll)
  have FI := Lib.hid (fun (hf : faultE x = 0) (y : List Int) (Y : Option Addr) (yc : Nat) (hy : roseE t y = 0) (W : World) (hb : Below w.heap.size w W) (ho : Own W w.heap.size Y yc y) => first_ok W ((hg.below hb).more hb.size) ((hx.below hb).more hb.size) hf (hsub.below hb) ho.at_ ho.cap_ hy hxz)
  clear hg hx hsub hl hcap hll hsz hxz
  obtain ⟨k0, k1, k2, k3⟩ := HB.out.1.facts
  obtain ⟨x0, x1, x2⟩ := HB.out.2.1.facts
  by_cases hs : startE t x l = 0
  · obtain ⟨_, hf, hz, hbad⟩ := start_ok hs
    have FF := Lib.hid (FI.out hf)
    have A0 := Lib.hid (along_start (x := x) hz)
    have MB := Lib.hid (meas_bound hz)
    have WV := Lib.hid (show walkV t x l = walkT t x l by unfold walkV; rw [if_pos hs])
    have SE := Lib.hid hs
    rw [hs, errOf_ok] at SP
    clear hs hf hz hbad FI
    go_enter Tryd.func9, Tryd.ntmps9
    go_wp2_with fail
    generalize (w.alloc (gc t GA gcap)).alloc (ec x XA xcap) = W0 at *
    ((with_reducible refine (SP.out W0 HB.out.2.2.1).mono ?_))
    rintro e w1 ⟨rfl, hb1⟩
    have B1 := Lib.hid (HB.out.2.2.1.trans (hb1.mono HB.out.2.2.1.size))
    have X1 := Lib.hid (HB.out.2.1.below hb1)
    have G1 := Lib.hid (HB.out.1.below hb1)
    clear k0 k1 k2 k3 x0 x1 x2 hb1 SP
    go_wp2_with fail
    ((with_reducible refine (CL.out w1 B1.out).mono ?_))
    rintro e w2 ⟨A2, c2, rfl, own2, hb2⟩
    have B2 := Lib.hid (below_trans B1.out hb2)
    have X2 := Lib.hid (X1.out.below hb2)
    have G2 := Lib.hid (G1.out.below hb2)
    have O2 := Lib.hid (own_less own2 B1.out.size)
    clear own2 hb2 X1 G1 CL
    go_wp2_with fail
    go_loopg [10, 11] (measL l) (fun g v s wr => ∃ (y : List Int) (Y : Option Addr) (yc st : Nat), g = measL y ∧ v = .slice Y y.length yc ∧ s = .int .i64 st ∧ Hid (Along t x l y st) ∧ Hid (Own wr w.heap.size Y yc y) ∧ Hid (Below w2.heap.size w2 wr))
    case atStart => exact ⟨l, A2, c2, 0, rfl, rfl, rfl, A0.out, O2.out, Below.refl _ _⟩
    case round =>
      obtain ⟨y, Y, yc, st, rfl, rfl, rfl, hal, hyo, hbb⟩ := hrel
      have B3 := Lib.hid (below_trans B2.out hbb.out)
      obtain ⟨k0, k1, k2, k3⟩ := (G2.out.below hbb.out).facts
      obtain ⟨x0, x1, x2⟩ := (X2.out.below hbb.out).facts
      have C := FF.out y Y yc hal.out.1 wr B3.out hyo.out
      unfold FirstPost at C
      have SB := Lib.hid (show st + measL y ≤ 1401079680 from Nat.le_trans hal.out.2.2 MB.out)
      cases hs : stepT t x y with
      | none =>
        rw [hs] at C
        have C := Lib.hid C
        have EQ := Lib.hid (along_end hal.out hs)
        clear hs
        go_wp2_with fail
        ((with_reducible refine C.out.mono ?_))
        rintro e w4 ⟨rfl, hb4⟩
        have B4 := Lib.hid (below_trans B3.out hb4)
        have O4 := Lib.hid (hyo.out.below hb4)
        clear hb4 C k0 k1 k2 k3 x0 x1 x2
        go_wp2_with fail
        go_ret3
        refine ⟨Y, yc, ?_, ?_, B4.out⟩
        · rw [WV.out, EQ.out, SE.out, errOf_ok]; rfl
        · rw [WV.out, EQ.out]; exact O4.out
      | some y2 =>
        rw [hs] at C
        have C := Lib.hid C
        have AN := Lib.hid (along_step hal.out hs)
        clear hs
        go_wp2_with fail
        ((with_reducible refine C.out.mono ?_))
        rintro e w4 ⟨Y4, yc4, rfl, own4, hb4⟩
        have B4 := Lib.hid (below_trans hbb.out hb4)
        have O4 := Lib.hid (own_less own4 B3.out.size)
        have sb := SB.out
        clear own4 hb4 C k0 k1 k2 k3 x0 x1 x2
        go_wp2_with fail
        go_roundg (measL y2)
        case measure => exact AN.out.2
        case rel => exact ⟨y2, Y4, yc4, st + 1, rfl, rfl, by go_num, AN.out.1, O4.out, B4.out⟩
  · have WV := Lib.hid (show walkV t x l = ([], 0) by unfold walkV; rw [if_neg hs])
    have SE := Lib.hid (errOf_no hs)
    rw [errOf_no hs] at SP
    clear hs FI CL
    generalize hq : startE t x l = q at *
    have QH := Lib.hid hq
    clear hq
    go_enter Tryd.func9, Tryd.ntmps9
    go_wp2_with fail
    generalize (w.alloc (gc t GA gcap)).alloc (ec x XA xcap) = W0 at *
    ((with_reducible refine (SP.out W0 HB.out.2.2.1).mono ?_))
    rintro e w1 ⟨rfl, hb1⟩
    have B1 := Lib.hid (HB.out.2.2.1.trans (hb1.mono HB.out.2.2.1.size))
    clear k0 k1 k2 k3 x0 x1 x2 hb1 SP
    go_wp2_with fail
    go_ret3
    exact ⟨none, 0, by rw [WV.out, QH.out, SE.out]; rfl, by rw [WV.out]; exact Own.none, B1.out⟩
end Go.Proofs.YtabkihellcflhaaDoor.Gens

/- What a walk tells: the mathematics. No program. -/
namespace Go.Proofs.YtabkihellcflhaaDoor.Gens
open Go.RowKit Lists Ints Vals Exprs
set_option linter.unusedVariables false

theorem walkV_ok {t x : Gn} {l : List Int} (h : startE t x l = 0) : walkV t x l = walkT t x l := by unfold walkV; rw [if_pos h]
theorem walkV_no {t x : Gn} {l : List Int} (h : ¬ startE t x l = 0) : walkV t x l = ([], 0) := by unfold walkV; rw [if_neg h]
theorem walkV_len (t x : Gn) (l : List Int) : (walkV t x l).1.length ≤ 1399680 := by
  by_cases h : startE t x l = 0
  · obtain ⟨_, _, hz, hb⟩ := start_ok h
    rw [walkV_ok h]
    exact (rep_facts (walk_facts (measL l) l (Nat.le_refl _) hz hb).1).2.1
  · rw [walkV_no h]; simp
theorem start_of {t x : Gn} {l : List Int} (hx : faultE x = 0) (hz : roseE t l = 0) (hb : badT t x l = true) : startE t x l = 0 := by
  unfold startE
  rw [if_pos (rep_facts hz).1, if_pos hx, if_pos hz, if_pos hb]
theorem start_none {t x : Gn} {l : List Int} (hx : faultE x = 0) (hz : roseE t l = 0) (hb : badT t x l = false) : startE t x l = 2 := by
  unfold startE
  rw [if_pos (rep_facts hz).1, if_pos hx, if_pos hz, if_neg (by rw [hb]; decide)]
/-- a number of its own -/
theorem lit_bad (k : Int) {t : Gn} {l : List Int} (hz : roseE t l = 0) : badT t (.node 1 k 0 []) l = (k == 0) := by
  obtain ⟨v, hv⟩ := rep_of hz
  unfold badT
  rw [hv]
  rfl
theorem lit_ok (k : Int) : faultE (.node 1 k 0 []) = 0 := by unfold faultE; rfl
/-- where all fail, it ends where there is no candidate -/
theorem never_end {t : Gn} {l : List Int} (hz : roseE t l = 0) : startE t (.node 1 0 0 []) l = 0 ∧ roseE t (walkT t (.node 1 0 0 []) l).1 = 0 ∧ roseL t (walkT t (.node 1 0 0 []) l).1 = [] := by
  have hb : badT t (.node 1 0 0 []) l = true := lit_bad 0 hz
  obtain ⟨h1, h2, h3, _⟩ := walk_facts (measL l) l (Nat.le_refl _) hz hb
  refine ⟨start_of (lit_ok 0) hz hb, h1, ?_⟩
  cases hr : roseL t (walkT t (.node 1 0 0 []) l).1 with
  | nil => rfl
  | cons y r =>
    have hm := none_fails h3 y (by rw [hr]; simp)
    obtain ⟨v, hv⟩ := ((rose_facts (rep_facts h1).1 (walkT t (.node 1 0 0 []) l).1).2 y (by rw [hr]; simp)).1
    have hy : roseE t y = 0 := by unfold roseE; rw [hv]; rfl
    rw [lit_bad 0 hy] at hm
    cases hm
theorem stay_end {t x : Gn} {l : List Int} (hx : faultE x = 0) (hz : roseE t l = 0) (hb : badT t x l = true) (hr : roseL t l = []) : walkV t x l = (l, 0) := by
  rw [walkV_ok (start_of hx hz hb), walk_stop hz]
  unfold stepT
  rw [hr]
  rfl
def WkOk (z : List Int) (k : Nat) (q : Int) (w : World) (e : Ending) (w' : World) : Prop :=
  ∃ (A : Option Addr) (c : Nat), e = .returned (.tuple #[.slice A z.length c, .int .i64 k, errOf q]) ∧ Own w' w.heap.size A c z ∧ Below w.heap.size w w'
/-- Walk at values: what it tells is known -/
theorem walk_is {t x : Gn} {GA XA L : Option Addr} {gcap xcap lc n nx : Nat} {l z : List Int} {k : Nat} {q : Int} (w : World) (hg : GAt w (GBel w.heap.size) n (gv t GA gcap) t) (hx : EAt w (EBel w.heap.size) nx (ev x XA xcap) x) (hsub : Subs w) (hl : At w w.heap.size L l) (hcap : l.length ≤ lc) (hll : l.length ≤ 4294967296) (hsz : t.size ≤ 4294967296) (hxz : x.size ≤ 4294967296) (hs : startE t x l = q) (hv : walkV t x l = (z, k)) :
    Calls Tryd.prog 9 #[gv t GA gcap, ev x XA xcap, .slice L l.length lc] w (WkOk z k q w) := by
  refine (walk_prog w hg hx hsub hl hcap hll hsz hxz).mono ?_
  rintro e w' ⟨A, c, rfl, ho, hb⟩
  rw [hv] at ho ⊢
  rw [hs]
  exact ⟨A, c, rfl, ho, hb⟩
end Go.Proofs.YtabkihellcflhaaDoor.Gens
