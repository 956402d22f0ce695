/- TopFails, part 41 of the proof: The program's Walk (package shrink). Conditions: the sizes; the program's table. · What a walk tells: the mathematics. No program. · Runs: what is drawn one after the other, and the first that fails. The mathematics. -/
import Derived.Test.YtabkihellcflhaaGreatDoorTopFailsZ32
import Derived.Test.YtabkihellcflhaaGreatDoorTopFailsZ40
import Derived.Deep.LoopGhost
import Derived.Test.YtabkihellcflhaaGreatDoorTopFailsZ20
import Derived.Test.YtabkihellcflhaaGreatDoorTopFailsZ19
/- The program's Walk (package shrink). Conditions: the sizes; the program's table. -/
namespace Go.Proofs.YtabkihellcflhaaGreatDoor.Gens
open Go.RowKit Lists Ints Vals Exprs
set_option linter.unusedVariables false

/-- what a walk tells: where it ends, and its steps -/
def walkV (t x : Gn) (l : List Int) : List Int × Nat := if startE t x l = 0 then walkT t x l else ([], 0)
def WlPost (t x : Gn) (l : List Int) (w : World) (e : Ending) (w' : World) : Prop :=
  ∃ (A : Option Addr) (c : Nat), e = .returned (.tuple #[.slice A (walkV t x l).1.length c, .int .i64 (walkV t x l).2, errOf (startE t x l)]) ∧ Own w' w.heap.size A c (walkV t x l).1 ∧ Below w.heap.size w w'

set_option maxHeartbeats 4000000 in
set_option maxRecDepth 100000 in
theorem walk_prog {t x : Gn} {GA XA L : Option Addr} {gcap xcap lc n nx : Nat} {l : List Int} (w : World) (hg : GAt w (GBel w.heap.size) n (gv t GA gcap) t) (hx : EAt w (EBel w.heap.size) nx (ev x XA xcap) x) (hsub : Subs w) (hl : At w w.heap.size L l) (hcap : l.length ≤ lc) (hll : l.length ≤ 4294967296) (hsz : t.size ≤ 4294967296) (hxz : x.size ≤ 4294967296) :
    Calls Tryz.prog 33 #[gv t GA gcap, ev x XA xcap, .slice L l.length lc] w (WlPost t x l w) := by
  have HB := Lib.hid (gx_boxes w t x GA XA gcap xcap)
  have SP := Lib.hid (fun (W : World) (hb : Below w.heap.size w W) => start_prog W ((hg.below hb).more hb.size) ((hx.below hb).more hb.size) (hsub.below hb) ((hl.below hb).more hb.size) hcap hll hsz hxz)
  have CL := Lib.hid (fun (W : World) (hb : Below w.heap.size w W) => clone_ok (lc := lc) W ((hl.below hb).more hb.size) (Nat.le_refl _) hll)
  have FI := Lib.hid (fun (hf : faultE x = 0) (y : List Int) (Y : Option Addr) (yc : Nat) (hy : roseE t y = 0) (W : World) (hb : Below w.heap.size w W) (ho : Own W w.heap.size Y yc y) => first_ok W ((hg.below hb).more hb.size) ((hx.below hb).more hb.size) hf (hsub.below hb) ho.at_ ho.cap_ hy hxz)
  clear hg hx hsub hl hcap hll hsz hxz
  obtain ⟨k0, k1, k2, k3⟩ := HB.out.1.facts
  obtain ⟨x0, x1, x2⟩ := HB.out.2.1.facts
  by_cases hs : startE t x l = 0
  · obtain ⟨_, hf, hz, hbad⟩ := start_ok hs
    have FF := Lib.hid (FI.out hf)
    have A0 := Lib.hid (along_start (x := x) hz)
    have MB := Lib.hid (meas_bound hz)
    have WV := Lib.hid (show walkV t x l = walkT t x l by unfold walkV; rw [if_pos hs])
    have SE := Lib.hid hs
    rw [hs, errOf_ok] at SP
    clear hs hf hz hbad FI
    go_enter Tryz.func33, Tryz.ntmps33
    go_wp2_with fail
    generalize (w.alloc (gc t GA gcap)).alloc (ec x XA xcap) = W0 at *
    ((with_reducible refine (SP.out W0 HB.out.2.2.1).mono ?_))
    rintro e w1 ⟨rfl, hb1⟩
    have B1 := Lib.hid (HB.out.2.2.1.trans (hb1.mono HB.out.2.2.1.size))
    have X1 := Lib.hid (HB.out.2.1.below hb1)
    have G1 := Lib.hid (HB.out.1.below hb1)
    clear k0 k1 k2 k3 x0 x1 x2 hb1 SP
    go_wp2_with fail
    ((with_reducible refine (CL.out w1 B1.out).mono ?_))
    rintro e w2 ⟨A2, c2, rfl, own2, hb2⟩
    have B2 := Lib.hid (below_trans B1.out hb2)
    have X2 := Lib.hid (X1.out.below hb2)
    have G2 := Lib.hid (G1.out.below hb2)
    have O2 := Lib.hid (own_less own2 B1.out.size)
    clear own2 hb2 X1 G1 CL
    go_wp2_with fail
    go_loopg [10, 11] (measL l) (fun g v s wr => ∃ (y : List Int) (Y : Option Addr) (yc st : Nat), g = measL y ∧ v = .slice Y y.length yc ∧ s = .int .i64 st ∧ Hid (Along t x l y st) ∧ Hid (Own wr w.heap.size Y yc y) ∧ Hid (Below w2.heap.size w2 wr))
    case atStart => exact ⟨l, A2, c2, 0, rfl, rfl, rfl, A0.out, O2.out, Below.refl _ _⟩
    case round =>
      obtain ⟨y, Y, yc, st, rfl, rfl, rfl, hal, hyo, hbb⟩ := hrel
      have B3 := Lib.hid (below_trans B2.out hbb.out)
      obtain ⟨k0, k1, k2, k3⟩ := (G2.out.below hbb.out).facts
      obtain ⟨x0, x1, x2⟩ := (X2.out.below hbb.out).facts
      have C := FF.out y Y yc hal.out.1 wr B3.out hyo.out
      unfold FirstPost at C
      have SB := Lib.hid (show st + measL y ≤ 1401079680 from Nat.le_trans hal.out.2.2 MB.out)
      cases hs : stepT t x y with
      | none =>
        rw [hs] at C
        have C := Lib.hid C
        have EQ := Lib.hid (along_end hal.out hs)
        clear hs
        go_wp2_with fail
        ((with_reducible refine C.out.mono ?_))
        rintro e w4 ⟨rfl, hb4⟩
        have B4 := Lib.hid (below_trans B3.out hb4)
        have O4 := Lib.hid (hyo.out.below hb4)
        clear hb4 C k0 k1 k2 k3 x0 x1 x2
        go_wp2_with fail
        go_ret3
        refine ⟨Y, yc, ?_, ?_, B4.out⟩
        · rw [WV.out, EQ.out, SE.out, errOf_ok]; rfl
        · rw [WV.out, EQ.out]; exact O4.out
      | some y2 =>
        rw [hs] at C
        have C := Lib.hid C
        have AN := Lib.hid (along_step hal.out hs)
        clear hs
        go_wp2_with fail
        ((with_reducible refine C.out.mono ?_))
        rintro e w4 ⟨Y4, yc4, rfl, own4, hb4⟩
        have B4 := Lib.hid (below_trans hbb.out hb4)
        have O4 := Lib.hid (own_less own4 B3.out.size)
        have sb := SB.out
        clear own4 hb4 C k0 k1 k2 k3 x0 x1 x2
        go_wp2_with fail
        go_roundg (measL y2)
        case measure => exact AN.out.2
        case rel => exact ⟨y2, Y4, yc4, st + 1, rfl, rfl, by go_num, AN.out.1, O4.out, B4.out⟩
  · have WV := Lib.hid (show walkV t x l = ([], 0) by unfold walkV; rw [if_neg hs])
    have SE := Lib.hid (errOf_no hs)
    rw [errOf_no hs] at SP
    clear hs FI CL
    generalize hq : startE t x l = q at *
    have QH := Lib.hid hq
    clear hq
    go_enter Tryz.func33, Tryz.ntmps33
    go_wp2_with fail
    generalize (w.alloc (gc t GA gcap)).alloc (ec x XA xcap) = W0 at *
    ((with_reducible refine (SP.out W0 HB.out.2.2.1).mono ?_))
    rintro e w1 ⟨rfl, hb1⟩
    have B1 := Lib.hid (HB.out.2.2.1.trans (hb1.mono HB.out.2.2.1.size))
    clear k0 k1 k2 k3 x0 x1 x2 hb1 SP
    go_wp2_with fail
    go_ret3
    exact ⟨none, 0, by rw [WV.out, QH.out, SE.out]; rfl, by rw [WV.out]; exact Own.none, B1.out⟩
end Go.Proofs.YtabkihellcflhaaGreatDoor.Gens

/- What a walk tells: the mathematics. No program. -/
namespace Go.Proofs.YtabkihellcflhaaGreatDoor.Gens
open Go.RowKit Lists Ints Vals Exprs
set_option linter.unusedVariables false

theorem walkV_ok {t x : Gn} {l : List Int} (h : startE t x l = 0) : walkV t x l = walkT t x l := by unfold walkV; rw [if_pos h]
theorem walkV_no {t x : Gn} {l : List Int} (h : ¬ startE t x l = 0) : walkV t x l = ([], 0) := by unfold walkV; rw [if_neg h]
theorem walkV_len (t x : Gn) (l : List Int) : (walkV t x l).1.length ≤ 1399680 := by
  by_cases h : startE t x l = 0
  · obtain ⟨_, _, hz, hb⟩ := start_ok h
    rw [walkV_ok h]
    exact (rep_facts (walk_facts (measL l) l (Nat.le_refl _) hz hb).1).2.1
  · rw [walkV_no h]; simp
theorem start_of {t x : Gn} {l : List Int} (hx : faultE x = 0) (hz : roseE t l = 0) (hb : badT t x l = true) : startE t x l = 0 := by
  unfold startE
  rw [if_pos (rep_facts hz).1, if_pos hx, if_pos hz, if_pos hb]
theorem start_none {t x : Gn} {l : List Int} (hx : faultE x = 0) (hz : roseE t l = 0) (hb : badT t x l = false) : startE t x l = 2 := by
  unfold startE
  rw [if_pos (rep_facts hz).1, if_pos hx, if_pos hz, if_neg (by rw [hb]; decide)]
/-- a number of its own -/
theorem lit_bad (k : Int) {t : Gn} {l : List Int} (hz : roseE t l = 0) : badT t (.node 1 k 0 []) l = (k == 0) := by
  obtain ⟨v, hv⟩ := rep_of hz
  unfold badT
  rw [hv]
  rfl
theorem lit_ok (k : Int) : faultE (.node 1 k 0 []) = 0 := by unfold faultE; rfl
/-- where all fail, it ends where there is no candidate -/
theorem never_end {t : Gn} {l : List Int} (hz : roseE t l = 0) : startE t (.node 1 0 0 []) l = 0 ∧ roseE t (walkT t (.node 1 0 0 []) l).1 = 0 ∧ roseL t (walkT t (.node 1 0 0 []) l).1 = [] := by
  have hb : badT t (.node 1 0 0 []) l = true := lit_bad 0 hz
  obtain ⟨h1, h2, h3, _⟩ := walk_facts (measL l) l (Nat.le_refl _) hz hb
  refine ⟨start_of (lit_ok 0) hz hb, h1, ?_⟩
  cases hr : roseL t (walkT t (.node 1 0 0 []) l).1 with
  | nil => rfl
  | cons y r =>
    have hm := none_fails h3 y (by rw [hr]; simp)
    obtain ⟨v, hv⟩ := ((rose_facts (rep_facts h1).1 (walkT t (.node 1 0 0 []) l).1).2 y (by rw [hr]; simp)).1
    have hy : roseE t y = 0 := by unfold roseE; rw [hv]; rfl
    rw [lit_bad 0 hy] at hm
    cases hm
theorem stay_end {t x : Gn} {l : List Int} (hx : faultE x = 0) (hz : roseE t l = 0) (hb : badT t x l = true) (hr : roseL t l = []) : walkV t x l = (l, 0) := by
  rw [walkV_ok (start_of hx hz hb), walk_stop hz]
  unfold stepT
  rw [hr]
  rfl
def WkOk (z : List Int) (k : Nat) (q : Int) (w : World) (e : Ending) (w' : World) : Prop :=
  ∃ (A : Option Addr) (c : Nat), e = .returned (.tuple #[.slice A z.length c, .int .i64 k, errOf q]) ∧ Own w' w.heap.size A c z ∧ Below w.heap.size w w'
/-- Walk at values: what it tells is known -/
theorem walk_is {t x : Gn} {GA XA L : Option Addr} {gcap xcap lc n nx : Nat} {l z : List Int} {k : Nat} {q : Int} (w : World) (hg : GAt w (GBel w.heap.size) n (gv t GA gcap) t) (hx : EAt w (EBel w.heap.size) nx (ev x XA xcap) x) (hsub : Subs w) (hl : At w w.heap.size L l) (hcap : l.length ≤ lc) (hll : l.length ≤ 4294967296) (hsz : t.size ≤ 4294967296) (hxz : x.size ≤ 4294967296) (hs : startE t x l = q) (hv : walkV t x l = (z, k)) :
    Calls Tryz.prog 33 #[gv t GA gcap, ev x XA xcap, .slice L l.length lc] w (WkOk z k q w) := by
  refine (walk_prog w hg hx hsub hl hcap hll hsz hxz).mono ?_
  rintro e w' ⟨A, c, rfl, ho, hb⟩
  rw [hv] at ho ⊢
  rw [hs]
  exact ⟨A, c, rfl, ho, hb⟩
end Go.Proofs.YtabkihellcflhaaGreatDoor.Gens

/- Runs: what is drawn one after the other, and the first that fails. The mathematics. -/
namespace Go.Proofs.YtabkihellcflhaaGreatDoor.Gens
open Go.RowKit Lists Ints Vals Exprs Rng
set_option linter.unusedVariables false

/-- the two seeds of one -/
def fstS (s : Int × Int) : Int × Int := (plus (plus s.1 s.2) s.2, s.2)
def sndS (s : Int × Int) : Int × Int := (mixI (plus s.1 s.2), odd (mixI (plus (plus s.1 s.2) s.2)))
/-- the seed ahead of the k-th value -/
def seedK (s : Int × Int) : Nat → Int × Int
  | 0 => s
  | k + 1 => fstS (seedK s k)
def tapeK (t : Gn) (s : Int × Int) (k : Nat) : List Int := drawL t (sndS (seedK s k))
/-- the first that fails -/
def firstK (t x : Gn) (s : Int × Int) (many : Nat) : Option Nat := (List.range many).find? (fun k => badT t x (tapeK t s k))
/-- a report: runs, failed, tape, steps -/
structure Rep where
  runs : Nat
  failed : Bool
  tape : List Int
  steps : Nat
def repK (t x : Gn) (s : Int × Int) (many : Nat) : Rep := match firstK t x s many with
  | none => ⟨many, false, [], 0⟩
  | some k => ⟨k + 1, true, (walkT t x (tapeK t s k)).1, (walkT t x (tapeK t s k)).2⟩
def runE (t x : Gn) (many : Int) : Int := if genV t = 0 then (if faultE x = 0 then (if many < 0 ∨ 50 < many then 1 else 0) else faultE x) else genV t
def runR (t x : Gn) (n many : Int) : Rep := if runE t x many = 0 then repK t x (u64of n, gold) many.toNat else ⟨0, false, [], 0⟩
theorem run_ok {t x : Gn} {many : Int} (h : runE t x many = 0) : genV t = 0 ∧ faultE x = 0 ∧ 0 ≤ many ∧ many ≤ 50 := by
  unfold runE at h
  by_cases h0 : genV t = 0
  · rw [if_pos h0] at h
    by_cases h1 : faultE x = 0
    · rw [if_pos h1] at h
      by_cases h2 : many < 0 ∨ 50 < many
      · rw [if_pos h2] at h; cases h
      · exact ⟨h0, h1, by omega, by omega⟩
    · rw [if_neg h1] at h; exact absurd h h1
  · rw [if_neg h0] at h; exact absurd h h0
/-- what is drawn is a tape -/
theorem draw_rose {t : Gn} (s : Int × Int) (h0 : genV t = 0) : roseE t (drawL t s) = 0 := by
  obtain ⟨v, r, h1, _⟩ := draw_run (t := t) s h0
  have h2 := play_again draw_bounded read_reads t (gen_right h0).1 _ _ _ _ h1 []
  rw [List.append_nil] at h2
  unfold roseE repV repG
  rw [if_pos h0, h2]
  rfl
theorem first_some {t x : Gn} {s : Int × Int} {many k : Nat} (h : firstK t x s many = some k) : k < many ∧ badT t x (tapeK t s k) = true ∧ ∀ j, j < k → badT t x (tapeK t s j) = false := by
  unfold firstK at h
  rw [List.find?_range_eq_some] at h
  obtain ⟨h1, h2, h3⟩ := h
  exact ⟨by simpa using h2, h1, fun j hj => by simpa using h3 j hj⟩
theorem first_none {t x : Gn} {s : Int × Int} {many : Nat} (h : firstK t x s many = none) : ∀ j, j < many → badT t x (tapeK t s j) = false := fun j hj => by
  unfold firstK at h
  have := List.find?_eq_none.1 h j (by simpa using hj)
  simpa using this
theorem first_is {t x : Gn} {s : Int × Int} {many k : Nat} (hk : k < many) (hb : badT t x (tapeK t s k) = true) (hn : ∀ j, j < k → badT t x (tapeK t s j) = false) : firstK t x s many = some k := by
  unfold firstK
  rw [List.find?_range_eq_some]
  exact ⟨hb, by simpa using hk, fun j hj => by simpa using hn j hj⟩
theorem first_no {t x : Gn} {s : Int × Int} {many : Nat} (hn : ∀ j, j < many → badT t x (tapeK t s j) = false) : firstK t x s many = none := by
  unfold firstK
  rw [List.find?_eq_none]
  intro j hj
  rw [hn j (by simpa using hj)]
  simp
/-- with more, or fewer -/
theorem first_more {t x : Gn} {s : Int × Int} {many more k : Nat} (h : firstK t x s many = some k) (hm : k < more) : firstK t x s more = some k := by
  obtain ⟨_, h2, h3⟩ := first_some h
  exact first_is hm h2 h3
theorem first_fewer {t x : Gn} {s : Int × Int} {many more k : Nat} (h : firstK t x s many = some k) (hm : more ≤ k) : firstK t x s more = none := by
  obtain ⟨_, _, h3⟩ := first_some h
  exact first_no fun j hj => h3 j (by omega)
theorem first_none_fewer {t x : Gn} {s : Int × Int} {many more : Nat} (h : firstK t x s many = none) (hm : more ≤ many) : firstK t x s more = none := first_no fun j hj => first_none h j (by omega)
theorem rep_some {t x : Gn} {s : Int × Int} {many k : Nat} (h : firstK t x s many = some k) : repK t x s many = ⟨k + 1, true, (walkT t x (tapeK t s k)).1, (walkT t x (tapeK t s k)).2⟩ := by unfold repK; rw [h]
theorem rep_none {t x : Gn} {s : Int × Int} {many : Nat} (h : firstK t x s many = none) : repK t x s many = ⟨many, false, [], 0⟩ := by unfold repK; rw [h]
/-- what is told, of a run that failed -/
theorem rep_fails {t x : Gn} {s : Int × Int} {many : Nat} (h0 : genV t = 0) (hf : faultE x = 0) (h : (repK t x s many).failed = true) : let r := repK t x s many
    1 ≤ r.runs ∧ r.runs ≤ many ∧ roseE t r.tape = 0 ∧ badT t x r.tape = true ∧ stepT t x r.tape = none ∧ r.steps ≤ 1401079680 := by
  intro r
  cases hk : firstK t x s many with
  | none => rw [rep_none hk] at h; cases h
  | some k =>
    obtain ⟨h1, h2, _⟩ := first_some hk
    have hz := draw_rose (t := t) (sndS (seedK s k)) h0
    obtain ⟨w1, w2, w3, w4, _⟩ := walk_facts (measL (tapeK t s k)) (tapeK t s k) (Nat.le_refl _) hz h2
    have e : r = ⟨k + 1, true, (walkT t x (tapeK t s k)).1, (walkT t x (tapeK t s k)).2⟩ := rep_some hk
    rw [e]
    exact ⟨by show 1 ≤ k + 1; omega, by show k + 1 ≤ many; omega, w1, w2, w3, Nat.le_trans w4 (meas_bound hz)⟩
/-- what the program's Run tells -/
def RnPost (r : Rep) (q : Int) (w : World) (e : Ending) (w' : World) : Prop :=
  ∃ (A : Option Addr) (c : Nat), e = .returned (.tuple #[.agg #[.int .i64 r.runs, .bool r.failed, .slice A r.tape.length c, .int .i64 r.steps], errOf q]) ∧ At w' w'.heap.size A r.tape ∧ r.tape.length ≤ c ∧ Below w.heap.size w w'
theorem runR_ok {t x : Gn} {n many : Int} (h : runE t x many = 0) : runR t x n many = repK t x (u64of n, gold) many.toNat := by unfold runR; rw [if_pos h]
theorem runR_no {t x : Gn} {n many : Int} (h : ¬ runE t x many = 0) : runR t x n many = ⟨0, false, [], 0⟩ := by unfold runR; rw [if_neg h]
theorem rep_len {t x : Gn} {n many : Int} : (runR t x n many).tape.length ≤ 1399680 ∧ (runR t x n many).steps ≤ 1401079680 ∧ (runR t x n many).runs ≤ 50 := by
  by_cases h : runE t x many = 0
  · obtain ⟨h0, hf, h1, h2⟩ := run_ok h
    rw [runR_ok h]
    cases hk : firstK t x (u64of n, gold) many.toNat with
    | none => rw [rep_none hk]; exact ⟨by simp, by simp, by show many.toNat ≤ 50; omega⟩
    | some k =>
      have hr := rep_fails (s := (u64of n, gold)) (many := many.toNat) h0 hf (by rw [rep_some hk])
      exact ⟨(rep_facts hr.2.2.1).2.1, hr.2.2.2.2.2, by have := hr.2.1; omega⟩
  · rw [runR_no h]; exact ⟨by simp, by simp, by simp⟩
end Go.Proofs.YtabkihellcflhaaGreatDoor.Gens
