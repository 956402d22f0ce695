/- ShrinkTells, part 34 of the proof: The program's Walk (package shrink). Conditions: the sizes; the program's table. · What a walk tells: the mathematics. No program. · Expressions that the statements build, of constants. Conditions: the program's table. · Contracts of the document's own Large, PartFault and GenFault. Condition: the size. -/
import Derived.Test.YtfpbegagblekiaaGreatDoorShrinkTellsZ26
import Derived.Test.YtfpbegagblekiaaGreatDoorShrinkTellsZ33
import Derived.Deep.LoopGhost
import Derived.Test.YtfpbegagblekiaaGreatDoorShrinkTellsZ15
import Derived.Test.YtfpbegagblekiaaGreatDoorShrinkTellsZ23
import Derived.Test.YtfpbegagblekiaaGreatDoorShrinkTellsZ3
/- The program's Walk (package shrink). Conditions: the sizes; the program's table. -/
namespace Go.Proofs.YtfpbegagblekiaaGreatDoor.Gens
open Go.RowKit Lists Ints Vals Exprs
set_option linter.unusedVariables false

/-- what a walk tells: where it ends, and its steps -/
def walkV (t x : Gn) (l : List Int) : List Int × Nat := if startE t x l = 0 then walkT t x l else ([], 0)
def WlPost (t x : Gn) (l : List Int) (w : World) (e : Ending) (w' : World) : Prop :=
  ∃ (A : Option Addr) (c : Nat), e = .returned (.tuple #[.slice A (walkV t x l).1.length c, .int .i64 (walkV t x l).2, errOf (startE t x l)]) ∧ Own w' w.heap.size A c (walkV t x l).1 ∧ Below w.heap.size w w'

set_option maxHeartbeats 4000000 in
set_option maxRecDepth 100000 in
theorem walk_prog {t x : Gn} {GA XA L : Option Addr} {gcap xcap lc n nx : Nat} {l : List Int} (w : World) (hg : GAt w (GBel w.heap.size) n (gv t GA gcap) t) (hx : EAt w (EBel w.heap.size) nx (ev x XA xcap) x) (hsub : Subs w) (hl : At w w.heap.size L l) (hcap : l.length ≤ lc) (hll : l.length ≤ 4294967296) (hsz : t.size ≤ 4294967296) (hxz : x.size ≤ 4294967296) :
    Calls Tryz.prog 11 #[gv t GA gcap, ev x XA xcap, .slice L l.length lc] w (WlPost t x l w) := by
  have HB := Lib.hid (gx_boxes w t x GA XA gcap xcap)
  have SP := Lib.hid (fun (W : World) (hb : Below w.heap.size w W) => start_prog W ((hg.below hb).more hb.size) ((hx.below hb).more hb.size) (hsub.below hb) ((hl.below hb).more hb.size) hcap hll hsz hxz)
  have CL := Lib.hid (fun (W : World) (hb : Below w.heap.size w W) => clone_ok (lc := lc) W ((hl.below hb).more hb.size) (Nat.le_refl _) hll)
  have FI := Lib.hid (fun (hf : faultE x = 0) (y : List Int) (Y : Option Addr) (yc : Nat) (hy : roseE t y = 0) (W : World) (hb : Below w.heap.size w W) (ho : Own W w.heap.size Y yc y) => first_ok W ((hg.below hb).more hb.size) ((hx.below hb).more hb.size) hf (hsub.below hb) ho.at_ ho.cap_ hy hxz)
  clear hg hx hsub hl hcap hll hsz hxz
  obtain ⟨k0, k1, k2, k3⟩ := HB.out.1.facts
  obtain ⟨x0, x1, x2⟩ := HB.out.2.1.facts
  by_cases hs : startE t x l = 0
  · obtain ⟨_, hf, hz, hbad⟩ := start_ok hs
    have FF := Lib.hid (FI.out hf)
    have A0 := Lib.hid (along_start (x := x) hz)
    have MB := Lib.hid (meas_bound hz)
    have WV := Lib.hid (show walkV t x l = walkT t x l by unfold walkV; rw [if_pos hs])
    have SE := Lib.hid hs
    rw [hs, errOf_ok] at SP
    clear hs hf hz hbad FI
    go_enter Tryz.func11, Tryz.ntmps11
    go_wp2_with fail
    generalize (w.alloc (gc t GA gcap)).alloc (ec x XA xcap) = W0 at *
    ((with_reducible refine (SP.out W0 HB.out.2.2.1).mono ?_))
    rintro e w1 ⟨rfl, hb1⟩
    have B1 := Lib.hid (HB.out.2.2.1.trans (hb1.mono HB.out.2.2.1.size))
    have X1 := Lib.hid (HB.out.2.1.below hb1)
    have G1 := Lib.hid (HB.out.1.below hb1)
    clear k0 k1 k2 k3 x0 x1 x2 hb1 SP
    go_wp2_with fail
    ((with_reducible refine (CL.out w1 B1.out).mono ?_))
    rintro e w2 ⟨A2, c2, rfl, own2, hb2⟩
    have B2 := Lib.hid (below_trans B1.out hb2)
    have X2 := Lib.hid (X1.out.below hb2)
    have G2 := Lib.hid (G1.out.below hb2)
    have O2 := Lib.hid (own_less own2 B1.out.size)
    clear own2 hb2 X1 G1 CL
    go_wp2_with fail
    go_loopg [10, 11] (measL l) (fun g v s wr => ∃ (y : List Int) (Y : Option Addr) (yc st : Nat), g = measL y ∧ v = .slice Y y.length yc ∧ s = .int .i64 st ∧ Hid (Along t x l y st) ∧ Hid (Own wr w.heap.size Y yc y) ∧ Hid (Below w2.heap.size w2 wr))
    case atStart => exact ⟨l, A2, c2, 0, rfl, rfl, rfl, A0.out, O2.out, Below.refl _ _⟩
    case round =>
      obtain ⟨y, Y, yc, st, rfl, rfl, rfl, hal, hyo, hbb⟩ := hrel
      have B3 := Lib.hid (below_trans B2.out hbb.out)
      obtain ⟨k0, k1, k2, k3⟩ := (G2.out.below hbb.out).facts
      obtain ⟨x0, x1, x2⟩ := (X2.out.below hbb.out).facts
      have C := FF.out y Y yc hal.out.1 wr B3.out hyo.out
      unfold FirstPost at C
      have SB := Lib.hid (show st + measL y ≤ 1401079680 from Nat.le_trans hal.out.2.2 MB.out)
      cases hs : stepT t x y with
      | none =>
        rw [hs] at C
        have C := Lib.hid C
        have EQ := Lib.hid (along_end hal.out hs)
        clear hs
        go_wp2_with fail
        ((with_reducible refine C.out.mono ?_))
        rintro e w4 ⟨rfl, hb4⟩
        have B4 := Lib.hid (below_trans B3.out hb4)
        have O4 := Lib.hid (hyo.out.below hb4)
        clear hb4 C k0 k1 k2 k3 x0 x1 x2
        go_wp2_with fail
        go_ret3
        refine ⟨Y, yc, ?_, ?_, B4.out⟩
        · rw [WV.out, EQ.out, SE.out, errOf_ok]; rfl
        · rw [WV.out, EQ.out]; exact O4.out
      | some y2 =>
        rw [hs] at C
        have C := Lib.hid C
        have AN := Lib.hid (along_step hal.out hs)
        clear hs
        go_wp2_with fail
        ((with_reducible refine C.out.mono ?_))
        rintro e w4 ⟨Y4, yc4, rfl, own4, hb4⟩
        have B4 := Lib.hid (below_trans hbb.out hb4)
        have O4 := Lib.hid (own_less own4 B3.out.size)
        have sb := SB.out
        clear own4 hb4 C k0 k1 k2 k3 x0 x1 x2
        go_wp2_with fail
        go_roundg (measL y2)
        case measure => exact AN.out.2
        case rel => exact ⟨y2, Y4, yc4, st + 1, rfl, rfl, by go_num, AN.out.1, O4.out, B4.out⟩
  · have WV := Lib.hid (show walkV t x l = ([], 0) by unfold walkV; rw [if_neg hs])
    have SE := Lib.hid (errOf_no hs)
    rw [errOf_no hs] at SP
    clear hs FI CL
    generalize hq : startE t x l = q at *
    have QH := Lib.hid hq
    clear hq
    go_enter Tryz.func11, Tryz.ntmps11
    go_wp2_with fail
    generalize (w.alloc (gc t GA gcap)).alloc (ec x XA xcap) = W0 at *
    ((with_reducible refine (SP.out W0 HB.out.2.2.1).mono ?_))
    rintro e w1 ⟨rfl, hb1⟩
    have B1 := Lib.hid (HB.out.2.2.1.trans (hb1.mono HB.out.2.2.1.size))
    clear k0 k1 k2 k3 x0 x1 x2 hb1 SP
    go_wp2_with fail
    go_ret3
    exact ⟨none, 0, by rw [WV.out, QH.out, SE.out]; rfl, by rw [WV.out]; exact Own.none, B1.out⟩
end Go.Proofs.YtfpbegagblekiaaGreatDoor.Gens

/- What a walk tells: the mathematics. No program. -/
namespace Go.Proofs.YtfpbegagblekiaaGreatDoor.Gens
open Go.RowKit Lists Ints Vals Exprs
set_option linter.unusedVariables false

theorem walkV_ok {t x : Gn} {l : List Int} (h : startE t x l = 0) : walkV t x l = walkT t x l := by unfold walkV; rw [if_pos h]
theorem walkV_no {t x : Gn} {l : List Int} (h : ¬ startE t x l = 0) : walkV t x l = ([], 0) := by unfold walkV; rw [if_neg h]
theorem walkV_len (t x : Gn) (l : List Int) : (walkV t x l).1.length ≤ 1399680 := by
  by_cases h : startE t x l = 0
  · obtain ⟨_, _, hz, hb⟩ := start_ok h
    rw [walkV_ok h]
    exact (rep_facts (walk_facts (measL l) l (Nat.le_refl _) hz hb).1).2.1
  · rw [walkV_no h]; simp
theorem start_of {t x : Gn} {l : List Int} (hx : faultE x = 0) (hz : roseE t l = 0) (hb : badT t x l = true) : startE t x l = 0 := by
  unfold startE
  rw [if_pos (rep_facts hz).1, if_pos hx, if_pos hz, if_pos hb]
theorem start_none {t x : Gn} {l : List Int} (hx : faultE x = 0) (hz : roseE t l = 0) (hb : badT t x l = false) : startE t x l = 2 := by
  unfold startE
  rw [if_pos (rep_facts hz).1, if_pos hx, if_pos hz, if_neg (by rw [hb]; decide)]
/-- a number of its own -/
theorem lit_bad (k : Int) {t : Gn} {l : List Int} (hz : roseE t l = 0) : badT t (.node 1 k 0 []) l = (k == 0) := by
  obtain ⟨v, hv⟩ := rep_of hz
  unfold badT
  rw [hv]
  rfl
theorem lit_ok (k : Int) : faultE (.node 1 k 0 []) = 0 := by unfold faultE; rfl
/-- where all fail, it ends where there is no candidate -/
theorem never_end {t : Gn} {l : List Int} (hz : roseE t l = 0) : startE t (.node 1 0 0 []) l = 0 ∧ roseE t (walkT t (.node 1 0 0 []) l).1 = 0 ∧ roseL t (walkT t (.node 1 0 0 []) l).1 = [] := by
  have hb : badT t (.node 1 0 0 []) l = true := lit_bad 0 hz
  obtain ⟨h1, h2, h3, _⟩ := walk_facts (measL l) l (Nat.le_refl _) hz hb
  refine ⟨start_of (lit_ok 0) hz hb, h1, ?_⟩
  cases hr : roseL t (walkT t (.node 1 0 0 []) l).1 with
  | nil => rfl
  | cons y r =>
    have hm := none_fails h3 y (by rw [hr]; simp)
    obtain ⟨v, hv⟩ := ((rose_facts (rep_facts h1).1 (walkT t (.node 1 0 0 []) l).1).2 y (by rw [hr]; simp)).1
    have hy : roseE t y = 0 := by unfold roseE; rw [hv]; rfl
    rw [lit_bad 0 hy] at hm
    cases hm
theorem stay_end {t x : Gn} {l : List Int} (hx : faultE x = 0) (hz : roseE t l = 0) (hb : badT t x l = true) (hr : roseL t l = []) : walkV t x l = (l, 0) := by
  rw [walkV_ok (start_of hx hz hb), walk_stop hz]
  unfold stepT
  rw [hr]
  rfl
def WkOk (z : List Int) (k : Nat) (q : Int) (w : World) (e : Ending) (w' : World) : Prop :=
  ∃ (A : Option Addr) (c : Nat), e = .returned (.tuple #[.slice A z.length c, .int .i64 k, errOf q]) ∧ Own w' w.heap.size A c z ∧ Below w.heap.size w w'
/-- Walk at values: what it tells is known -/
theorem walk_is {t x : Gn} {GA XA L : Option Addr} {gcap xcap lc n nx : Nat} {l z : List Int} {k : Nat} {q : Int} (w : World) (hg : GAt w (GBel w.heap.size) n (gv t GA gcap) t) (hx : EAt w (EBel w.heap.size) nx (ev x XA xcap) x) (hsub : Subs w) (hl : At w w.heap.size L l) (hcap : l.length ≤ lc) (hll : l.length ≤ 4294967296) (hsz : t.size ≤ 4294967296) (hxz : x.size ≤ 4294967296) (hs : startE t x l = q) (hv : walkV t x l = (z, k)) :
    Calls Tryz.prog 11 #[gv t GA gcap, ev x XA xcap, .slice L l.length lc] w (WkOk z k q w) := by
  refine (walk_prog w hg hx hsub hl hcap hll hsz hxz).mono ?_
  rintro e w' ⟨A, c, rfl, ho, hb⟩
  rw [hv] at ho ⊢
  rw [hs]
  exact ⟨A, c, rfl, ho, hb⟩
end Go.Proofs.YtfpbegagblekiaaGreatDoor.Gens

/- Expressions that the statements build, of constants. Conditions: the program's table. -/
namespace Go.Proofs.YtfpbegagblekiaaGreatDoor.Exprs
open Go.RowKit Go.ChangeShapes Go.WideShapes Lists Gens Rng Vals
set_option linter.unusedVariables false

theorem eat_leaf {w : World} {S : Nat → Prop} {n : Nat} (k a b : Int) (hk : EWf k) (ha : EWf a) (c : Nat) : EAt w S (n + 1) (.agg #[.int .i64 k, .int .i64 a, .slice none 0 c]) (.node k a b []) :=
  ⟨⟨hk, ha⟩, none, c, rfl, Nat.zero_le _, fun hp => by simp [Gn.subs] at hp⟩
/-- a new row of one part, or two -/
theorem eat_one {w : World} {b n : Nat} {x : Gn} {A : Option Addr} {c cc : Nat} {T : TypeId} (k a : Int) (hk : EWf k) (ha : EWf a) (hr : w.heap[b]? = some (.cells #[.int .i64 x.kind, .int .i64 x.a, .slice A x.subs.length c] T (0, 0)))
    (hx : EAt w (EBel w.heap.size) n (ev x A c) x) (hc : 1 ≤ cc) : EAt w (EBel w.heap.size) (n + 1) (.agg #[.int .i64 k, .int .i64 a, .slice (some ⟨b, 0, none⟩) 1 cc]) (.node k a 0 [x]) := by
  refine ⟨⟨hk, ha⟩, some ⟨b, 0, none⟩, cc, rfl, hc, fun _ => ⟨b, 0, rfl, (Array.getElem?_eq_some_iff.1 hr).1, fun j hj => ?_⟩⟩
  obtain rfl : j = 0 := by simp [Gn.subs] at hj; exact hj
  exact ⟨_, _, _, by rw [Lib.cell_of_heap hr]; rfl, by rw [Lib.cell_of_heap hr]; rfl, by rw [Lib.cell_of_heap hr]; rfl, hx⟩
theorem eat_two {w : World} {b n : Nat} {x y : Gn} {A D : Option Addr} {c d cc : Nat} {T : TypeId} (k a : Int) (hk : EWf k) (ha : EWf a) (hr : w.heap[b]? = some (.cells #[.int .i64 x.kind, .int .i64 x.a, .slice A x.subs.length c, .int .i64 y.kind, .int .i64 y.a, .slice D y.subs.length d] T (0, 0)))
    (hx : EAt w (EBel w.heap.size) n (ev x A c) x) (hy : EAt w (EBel w.heap.size) n (ev y D d) y) (hc : 2 ≤ cc) : EAt w (EBel w.heap.size) (n + 1) (.agg #[.int .i64 k, .int .i64 a, .slice (some ⟨b, 0, none⟩) 2 cc]) (.node k a 0 [x, y]) := by
  refine ⟨⟨hk, ha⟩, some ⟨b, 0, none⟩, cc, rfl, hc, fun _ => ⟨b, 0, rfl, (Array.getElem?_eq_some_iff.1 hr).1, fun j hj => ?_⟩⟩
  have : j = 0 ∨ j = 1 := by simp [Gn.subs] at hj; omega
  rcases this with rfl | rfl
  · exact ⟨_, _, _, by rw [Lib.cell_of_heap hr]; rfl, by rw [Lib.cell_of_heap hr]; rfl, by rw [Lib.cell_of_heap hr]; rfl, hx⟩
  · exact ⟨_, _, _, by rw [Lib.cell_of_heap hr]; rfl, by rw [Lib.cell_of_heap hr]; rfl, by rw [Lib.cell_of_heap hr]; rfl, hy⟩
set_option maxHeartbeats 1000000 in
set_option maxRecDepth 100000 in
theorem asked_ok (w : World) (hsub : Subs w) : Calls Tryz.prog 5 #[] w fun e w' => e = .returned (.bool true) ∧ Below w.heap.size w w' := by
  have hb : Below w.heap.size w (w.alloc (.cells #[.int .i64 2, .int .i64 0, .slice none 0 0, .int .i64 1, .int .i64 2, .slice none 0 0] 27)) := (Below.refl _ _).alloc (Nat.le_refl _) _
  have hr := eheap_new w (.cells #[.int .i64 2, .int .i64 0, .slice none 0 0, .int .i64 1, .int .i64 2, .slice none 0 0] 27)
  have hx := eat_two (x := .node 2 0 0 []) (y := .node 1 2 0 []) (n := 1) 5 0 (by decide) (by decide) hr (eat_leaf 2 0 0 (by decide) (by decide) 0) (eat_leaf 1 2 0 (by decide) (by decide) 0) (Nat.le_refl 2)
  have hv : TAt (w.alloc (.cells #[.int .i64 2, .int .i64 0, .slice none 0 0, .int .i64 1, .int .i64 2, .slice none 0 0] 27)) (Bel (w.alloc (.cells #[.int .i64 2, .int .i64 0, .slice none 0 0, .int .i64 1, .int .i64 2, .slice none 0 0] 27)).heap.size) 1 (vv (.node false 3 []) none 0) (.node false 3 []) := ⟨by decide, none, 0, rfl, fun hp => by simp [Tr.items] at hp⟩
  have E1 := eval_any (g := .node 5 0 0 [.node 2 0 0 [], .node 1 2 0 []]) (t := .node false 3 []) _ hx hv (Nat.le_refl _) (by decide) (by decide) (hsub.below hb)
  rw [show evalN (.node 5 0 0 [.node 2 0 0 [], .node 1 2 0 []]) (.node false 3 []) = 5 by decide +kernel, show evalF (.node 5 0 0 [.node 2 0 0 [], .node 1 2 0 []]) (.node false 3 []) = 0 by decide +kernel, errOf_ok] at E1
  have E1 := Lib.hid E1
  have HB := Lib.hid hb
  clear hb hr hx hv hsub
  go_enter Tryz.func5, Tryz.ntmps5
  go_wp2_with fail
  refine E1.out.mono ?_
  rintro e w1 ⟨rfl, b1⟩
  have B1 := Lib.hid (on HB.out b1)
  clear b1
  go_wp2_with fail
  go_ret
  exact ⟨rfl, B1.out⟩
/-- a number of its own, of the value of nothing -/
theorem seven_ok (w : World) (hsub : Subs w) : Calls Tryz.prog 16 #[.agg #[.int .i64 1, .int .i64 7, .slice none 0 0], .agg #[.bool false, .int .i64 0, .slice none 0 0]] w fun e w' => e = .returned (.tuple #[.int .i64 7, .nilIface]) ∧ Below w.heap.size w w' := by
  have hv : TAt w (Bel w.heap.size) 1 (vv (.node false 0 []) none 0) (.node false 0 []) := ⟨by decide, none, 0, rfl, fun hp => by simp [Tr.items] at hp⟩
  have hx : EAt w (EBel w.heap.size) 1 (ev (.node 1 7 0 []) none 0) (.node 1 7 0 []) := eat_leaf 1 7 0 (by decide) (by decide) 0
  have E1 := eval_any (g := .node 1 7 0 []) (t := .node false 0 []) w hx hv (Nat.le_refl _) (by decide) (by decide) hsub
  rw [show evalN (.node 1 7 0 []) (.node false 0 []) = 7 by decide +kernel, show evalF (.node 1 7 0 []) (.node false 0 []) = 0 by decide +kernel, errOf_ok] at E1
  exact E1
end Go.Proofs.YtfpbegagblekiaaGreatDoor.Exprs

/- Contracts of the document's own Large, PartFault and GenFault. Condition: the size. -/
namespace Go.Proofs.YtfpbegagblekiaaGreatDoor.Gens
open Go.RowKit Lists Ints
set_option linter.unusedVariables false

set_option maxHeartbeats 2000000 in
set_option maxRecDepth 100000 in
theorem large_any : ∀ (n : Nat) (t : Gn) (v : Value) (B : Nat) (deep : Int) (dn : Nat) (w : World), GAt w (GBel B) n v t → B ≤ w.heap.size → t.size ≤ 4294967296 → deep = dn → dn ≤ 6 →
    Calls Tryz.prog 17 #[v, .int .i64 deep] w fun e w' => e = .returned (.tuple #[.int .i64 (largeG t dn).1, .bool (largeG t dn).2]) ∧ Below w.heap.size w w' := by
  intro n
  induction n with
  | zero => intro t v B deep dn w h; exact h.elim
  | succ n ih =>
    intro t v B deep dn w h hB hsz hd hdn
    obtain ⟨m, A, c, e, hw, rfl, hit⟩ := h.open_
    obtain rfl : n = m := by omega
    have IH := Lib.hid ih
    have HIT := Lib.hid hit
    have HB := Lib.hid hB
    have HS := Lib.hid hsz
    have hln : t.subs.length ≤ 4294967296 := by have := glen_sizes t.subs; have := gsize_subs t; omega
    have EQ := Lib.hid (largeG_eq t dn)
    have H0 : Below w.heap.size w (w.alloc (gc t A c)) := (Below.refl _ _).alloc (Nat.le_refl _) _
    have H0 := Lib.hid H0
    have SB := Lib.hid (gsize_subs t)
    have dlo : 0 ≤ deep := by omega
    have dhi : deep ≤ 6 := by omega
    have HD := Lib.hid hd
    clear ih hit h hB hsz e hw hd
    by_cases h6 : 6 ≤ dn
    · have h6' : (6 : Int) ≤ deep := by have := HD.out; omega
      have EQ := Lib.hid (show largeG t dn = (1, true) by rw [EQ.out, if_pos h6])
      go_enter Tryz.func17, Tryz.ntmps17
      go_wp2_with fail
      go_ret2
      exact ⟨by rw [EQ.out]; rfl, H0.out⟩
    · have h6' : ¬ (6 : Int) ≤ deep := by have := HD.out; omega
      have EQ := Lib.hid (show largeG t dn = largeGs t.subs (dn + 1) 1 by rw [EQ.out, if_neg h6])
      go_enter Tryz.func17, Tryz.ntmps17
      go_wp2_with fail
      go_loopw [6, 7] (fun a i wr => ∃ (k o : Nat), k ≤ t.subs.length ∧ i = .int .i64 k ∧ a = .int .i64 o ∧ o ≤ 30 ∧ Below (w.alloc (gc t A c)).heap.size (w.alloc (gc t A c)) wr ∧ Hid (largeG t dn = largeGs (t.subs.drop k) (dn + 1) o)) (fun _ i _ => t.subs.length - (intOf i).toNat)
      case atStart => exact ⟨0, 1, Nat.zero_le _, rfl, rfl, by omega, Below.refl _ _, (show largeG t dn = largeGs (t.subs.drop 0) (dn + 1) 1 from EQ.out)⟩
      case round =>
        obtain ⟨k, o, hk, rfl, rfl, ho, hb, hz⟩ := hrel
        obtain ⟨_, _, _, cb⟩ := gbox w wr _ _ _ _ hb
        have hw : Below w.heap.size w wr := on H0.out hb
        have HBW := Lib.hid hb
        have HWW := Lib.hid hw
        clear hb hw
        by_cases hlt : k < t.subs.length
        · obtain ⟨ib, off, D, d, rfl, c0, c1, c2, c3, hti⟩ := sub_as HIT.out (HWW.out.mono HB.out) k hlt
          have hsi : (t.subs[k]'hlt).size ≤ 4294967296 := by have := gsize_mem t.subs _ (List.getElem_mem hlt); have h3 := HS.out; have := SB.out; omega
          have C1 := IH.out (t.subs[k]'hlt) _ B (deep + 1) (dn + 1) wr hti (Nat.le_trans HB.out HWW.out.size) hsi (by have := HD.out; omega) (by omega)
          have DR := Lib.hid (largeGs_drop t.subs k (dn + 1) o hlt)
          have KL := largeG_le (t.subs[k]'hlt) (dn + 1) (by omega)
          clear hti hsi
          generalize hgl : largeG (t.subs[k]'hlt) (dn + 1) = q at C1 DR KL
          clear hgl
          obtain ⟨j, is⟩ := q
          simp only [] at C1 KL
          have j300 : j ≤ 300 := by omega
          clear KL
          have DR := Lib.hid (show largeGs (t.subs.drop k) (dn + 1) o = if is = true ∨ 30 < o + j then (o + j, true) else largeGs (t.subs.drop (k + 1)) (dn + 1) (o + j) from DR.out)
          generalize t.subs[k]'hlt = y at C1 c0 c1 c2 c3
          have HC1 := Lib.hid C1
          clear C1
          cases is with
          | true =>
            have EV := Lib.hid (show largeG t dn = (o + j, true) by rw [hz.out, DR.out, if_pos (.inl rfl)])
            go_wp2_with fail
            refine HC1.out.mono ?_
            rintro e w2 ⟨rfl, hb2⟩
            have B2 := Lib.hid (on HWW.out hb2)
            clear hb2
            go_wp2_with fail
            go_ret2
            exact ⟨ret_p (a := .int .i64 (o + j : Nat)) (b := .bool true) (by rw [EV.out]) (by rw [EV.out]), B2.out⟩
          | false =>
            by_cases hq : 30 < o + j
            · have EV := Lib.hid (show largeG t dn = (o + j, true) by rw [hz.out, DR.out, if_pos (.inr hq)])
              have g1 : decide (30 < (o : Int) + (j : Int)) = true := by rw [decide_eq_true_eq]; omega
              go_wp2_with fail
              refine HC1.out.mono ?_
              rintro e w2 ⟨rfl, hb2⟩
              have B2 := Lib.hid (on HWW.out hb2)
              clear hb2
              go_wp2_with fail
              go_ret2
              exact ⟨ret_p (a := .int .i64 (o + j : Nat)) (b := .bool true) (by rw [EV.out]) (by rw [EV.out]), B2.out⟩
            · have EV := Lib.hid (show largeG t dn = largeGs (t.subs.drop (k + 1)) (dn + 1) (o + j) by rw [hz.out, DR.out, if_neg (by simp; omega)])
              have g1 : decide (30 < (o : Int) + (j : Int)) = false := by rw [decide_eq_false_iff_not]; omega
              go_wp2_with fail
              refine HC1.out.mono ?_
              rintro e w2 ⟨rfl, hb2⟩
              have B2 := Lib.hid (on HBW.out hb2)
              clear hb2
              go_wp2_with fail
              go_roundw
              case rel => exact ⟨k + 1, o + j, hlt, by go_num, by go_num, by omega, B2.out, EV.out⟩
              case measure => simp [intOf]; omega
        · have g1 : decide (30 < (o : Int)) = false := by rw [decide_eq_false_iff_not]; omega
          have EV := Lib.hid (show largeG t dn = (o, false) by
            rw [hz.out, List.drop_eq_nil_of_le (by omega), largeGs]
            congr 1
            rw [decide_eq_false_iff_not]; omega)
          go_wp2_with fail
          go_ret2
          exact ⟨ret_p (a := .int .i64 (o : Nat)) (b := .bool false) (by rw [EV.out]) (by rw [EV.out]), HWW.out⟩
end Go.Proofs.YtfpbegagblekiaaGreatDoor.Gens
