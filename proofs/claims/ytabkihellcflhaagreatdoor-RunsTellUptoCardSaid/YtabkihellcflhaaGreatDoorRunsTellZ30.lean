/- RunsTell, part 30 of the proof: What a walk tells: the mathematics. No program. · Runs: what is drawn one after the other, and the first that fails. The mathematics. · Boxes of reports. Conditions: none. · Contracts of package rng's New and Split, and of the statements' own function 'known'. Conditions: none. -/
import Derived.Test.YtabkihellcflhaaGreatDoorRunsTellZ29
import Derived.Test.YtabkihellcflhaaGreatDoorRunsTellZ15
import Derived.Test.YtabkihellcflhaaGreatDoorRunsTellZ14
import Derived.Test.YtabkihellcflhaaGreatDoorRunsTellZ17
/- What a walk tells: the mathematics. No program. -/
namespace Go.Proofs.YtabkihellcflhaaGreatDoor.Gens
open Go.RowKit Lists Ints Vals Exprs
set_option linter.unusedVariables false

theorem walkV_ok {t x : Gn} {l : List Int} (h : startE t x l = 0) : walkV t x l = walkT t x l := by unfold walkV; rw [if_pos h]
theorem walkV_no {t x : Gn} {l : List Int} (h : ¬ startE t x l = 0) : walkV t x l = ([], 0) := by unfold walkV; rw [if_neg h]
theorem walkV_len (t x : Gn) (l : List Int) : (walkV t x l).1.length ≤ 1399680 := by
  by_cases h : startE t x l = 0
  · obtain ⟨_, _, hz, hb⟩ := start_ok h
    rw [walkV_ok h]
    exact (rep_facts (walk_facts (measL l) l (Nat.le_refl _) hz hb).1).2.1
  · rw [walkV_no h]; simp
theorem start_of {t x : Gn} {l : List Int} (hx : faultE x = 0) (hz : roseE t l = 0) (hb : badT t x l = true) : startE t x l = 0 := by
  unfold startE
  rw [if_pos (rep_facts hz).1, if_pos hx, if_pos hz, if_pos hb]
theorem start_none {t x : Gn} {l : List Int} (hx : faultE x = 0) (hz : roseE t l = 0) (hb : badT t x l = false) : startE t x l = 2 := by
  unfold startE
  rw [if_pos (rep_facts hz).1, if_pos hx, if_pos hz, if_neg (by rw [hb]; decide)]
/-- a number of its own -/
theorem lit_bad (k : Int) {t : Gn} {l : List Int} (hz : roseE t l = 0) : badT t (.node 1 k 0 []) l = (k == 0) := by
  obtain ⟨v, hv⟩ := rep_of hz
  unfold badT
  rw [hv]
  rfl
theorem lit_ok (k : Int) : faultE (.node 1 k 0 []) = 0 := by unfold faultE; rfl
/-- where all fail, it ends where there is no candidate -/
theorem never_end {t : Gn} {l : List Int} (hz : roseE t l = 0) : startE t (.node 1 0 0 []) l = 0 ∧ roseE t (walkT t (.node 1 0 0 []) l).1 = 0 ∧ roseL t (walkT t (.node 1 0 0 []) l).1 = [] := by
  have hb : badT t (.node 1 0 0 []) l = true := lit_bad 0 hz
  obtain ⟨h1, h2, h3, _⟩ := walk_facts (measL l) l (Nat.le_refl _) hz hb
  refine ⟨start_of (lit_ok 0) hz hb, h1, ?_⟩
  cases hr : roseL t (walkT t (.node 1 0 0 []) l).1 with
  | nil => rfl
  | cons y r =>
    have hm := none_fails h3 y (by rw [hr]; simp)
    obtain ⟨v, hv⟩ := ((rose_facts (rep_facts h1).1 (walkT t (.node 1 0 0 []) l).1).2 y (by rw [hr]; simp)).1
    have hy : roseE t y = 0 := by unfold roseE; rw [hv]; rfl
    rw [lit_bad 0 hy] at hm
    cases hm
theorem stay_end {t x : Gn} {l : List Int} (hx : faultE x = 0) (hz : roseE t l = 0) (hb : badT t x l = true) (hr : roseL t l = []) : walkV t x l = (l, 0) := by
  rw [walkV_ok (start_of hx hz hb), walk_stop hz]
  unfold stepT
  rw [hr]
  rfl
def WkOk (z : List Int) (k : Nat) (q : Int) (w : World) (e : Ending) (w' : World) : Prop :=
  ∃ (A : Option Addr) (c : Nat), e = .returned (.tuple #[.slice A z.length c, .int .i64 k, errOf q]) ∧ Own w' w.heap.size A c z ∧ Below w.heap.size w w'
/-- Walk at values: what it tells is known -/
theorem walk_is {t x : Gn} {GA XA L : Option Addr} {gcap xcap lc n nx : Nat} {l z : List Int} {k : Nat} {q : Int} (w : World) (hg : GAt w (GBel w.heap.size) n (gv t GA gcap) t) (hx : EAt w (EBel w.heap.size) nx (ev x XA xcap) x) (hsub : Subs w) (hl : At w w.heap.size L l) (hcap : l.length ≤ lc) (hll : l.length ≤ 4294967296) (hsz : t.size ≤ 4294967296) (hxz : x.size ≤ 4294967296) (hs : startE t x l = q) (hv : walkV t x l = (z, k)) :
    Calls Tryz.prog 33 #[gv t GA gcap, ev x XA xcap, .slice L l.length lc] w (WkOk z k q w) := by
  refine (walk_prog w hg hx hsub hl hcap hll hsz hxz).mono ?_
  rintro e w' ⟨A, c, rfl, ho, hb⟩
  rw [hv] at ho ⊢
  rw [hs]
  exact ⟨A, c, rfl, ho, hb⟩
end Go.Proofs.YtabkihellcflhaaGreatDoor.Gens

/- Runs: what is drawn one after the other, and the first that fails. The mathematics. -/
namespace Go.Proofs.YtabkihellcflhaaGreatDoor.Gens
open Go.RowKit Lists Ints Vals Exprs Rng
set_option linter.unusedVariables false

/-- the two seeds of one -/
def fstS (s : Int × Int) : Int × Int := (plus (plus s.1 s.2) s.2, s.2)
def sndS (s : Int × Int) : Int × Int := (mixI (plus s.1 s.2), odd (mixI (plus (plus s.1 s.2) s.2)))
/-- the seed ahead of the k-th value -/
def seedK (s : Int × Int) : Nat → Int × Int
  | 0 => s
  | k + 1 => fstS (seedK s k)
def tapeK (t : Gn) (s : Int × Int) (k : Nat) : List Int := drawL t (sndS (seedK s k))
/-- the first that fails -/
def firstK (t x : Gn) (s : Int × Int) (many : Nat) : Option Nat := (List.range many).find? (fun k => badT t x (tapeK t s k))
/-- a report: runs, failed, tape, steps -/
structure Rep where
  runs : Nat
  failed : Bool
  tape : List Int
  steps : Nat
def repK (t x : Gn) (s : Int × Int) (many : Nat) : Rep := match firstK t x s many with
  | none => ⟨many, false, [], 0⟩
  | some k => ⟨k + 1, true, (walkT t x (tapeK t s k)).1, (walkT t x (tapeK t s k)).2⟩
def runE (t x : Gn) (many : Int) : Int := if genV t = 0 then (if faultE x = 0 then (if many < 0 ∨ 50 < many then 1 else 0) else faultE x) else genV t
def runR (t x : Gn) (n many : Int) : Rep := if runE t x many = 0 then repK t x (u64of n, gold) many.toNat else ⟨0, false, [], 0⟩
theorem run_ok {t x : Gn} {many : Int} (h : runE t x many = 0) : genV t = 0 ∧ faultE x = 0 ∧ 0 ≤ many ∧ many ≤ 50 := by
  unfold runE at h
  by_cases h0 : genV t = 0
  · rw [if_pos h0] at h
    by_cases h1 : faultE x = 0
    · rw [if_pos h1] at h
      by_cases h2 : many < 0 ∨ 50 < many
      · rw [if_pos h2] at h; cases h
      · exact ⟨h0, h1, by omega, by omega⟩
    · rw [if_neg h1] at h; exact absurd h h1
  · rw [if_neg h0] at h; exact absurd h h0
/-- what is drawn is a tape -/
theorem draw_rose {t : Gn} (s : Int × Int) (h0 : genV t = 0) : roseE t (drawL t s) = 0 := by
  obtain ⟨v, r, h1, _⟩ := draw_run (t := t) s h0
  have h2 := play_again draw_bounded read_reads t (gen_right h0).1 _ _ _ _ h1 []
  rw [List.append_nil] at h2
  unfold roseE repV repG
  rw [if_pos h0, h2]
  rfl
theorem first_some {t x : Gn} {s : Int × Int} {many k : Nat} (h : firstK t x s many = some k) : k < many ∧ badT t x (tapeK t s k) = true ∧ ∀ j, j < k → badT t x (tapeK t s j) = false := by
  unfold firstK at h
  rw [List.find?_range_eq_some] at h
  obtain ⟨h1, h2, h3⟩ := h
  exact ⟨by simpa using h2, h1, fun j hj => by simpa using h3 j hj⟩
theorem first_none {t x : Gn} {s : Int × Int} {many : Nat} (h : firstK t x s many = none) : ∀ j, j < many → badT t x (tapeK t s j) = false := fun j hj => by
  unfold firstK at h
  have := List.find?_eq_none.1 h j (by simpa using hj)
  simpa using this
theorem first_is {t x : Gn} {s : Int × Int} {many k : Nat} (hk : k < many) (hb : badT t x (tapeK t s k) = true) (hn : ∀ j, j < k → badT t x (tapeK t s j) = false) : firstK t x s many = some k := by
  unfold firstK
  rw [List.find?_range_eq_some]
  exact ⟨hb, by simpa using hk, fun j hj => by simpa using hn j hj⟩
theorem first_no {t x : Gn} {s : Int × Int} {many : Nat} (hn : ∀ j, j < many → badT t x (tapeK t s j) = false) : firstK t x s many = none := by
  unfold firstK
  rw [List.find?_eq_none]
  intro j hj
  rw [hn j (by simpa using hj)]
  simp
/-- with more, or fewer -/
theorem first_more {t x : Gn} {s : Int × Int} {many more k : Nat} (h : firstK t x s many = some k) (hm : k < more) : firstK t x s more = some k := by
  obtain ⟨_, h2, h3⟩ := first_some h
  exact first_is hm h2 h3
theorem first_fewer {t x : Gn} {s : Int × Int} {many more k : Nat} (h : firstK t x s many = some k) (hm : more ≤ k) : firstK t x s more = none := by
  obtain ⟨_, _, h3⟩ := first_some h
  exact first_no fun j hj => h3 j (by omega)
theorem first_none_fewer {t x : Gn} {s : Int × Int} {many more : Nat} (h : firstK t x s many = none) (hm : more ≤ many) : firstK t x s more = none := first_no fun j hj => first_none h j (by omega)
theorem rep_some {t x : Gn} {s : Int × Int} {many k : Nat} (h : firstK t x s many = some k) : repK t x s many = ⟨k + 1, true, (walkT t x (tapeK t s k)).1, (walkT t x (tapeK t s k)).2⟩ := by unfold repK; rw [h]
theorem rep_none {t x : Gn} {s : Int × Int} {many : Nat} (h : firstK t x s many = none) : repK t x s many = ⟨many, false, [], 0⟩ := by unfold repK; rw [h]
/-- what is told, of a run that failed -/
theorem rep_fails {t x : Gn} {s : Int × Int} {many : Nat} (h0 : genV t = 0) (hf : faultE x = 0) (h : (repK t x s many).failed = true) : let r := repK t x s many
    1 ≤ r.runs ∧ r.runs ≤ many ∧ roseE t r.tape = 0 ∧ badT t x r.tape = true ∧ stepT t x r.tape = none ∧ r.steps ≤ 1401079680 := by
  intro r
  cases hk : firstK t x s many with
  | none => rw [rep_none hk] at h; cases h
  | some k =>
    obtain ⟨h1, h2, _⟩ := first_some hk
    have hz := draw_rose (t := t) (sndS (seedK s k)) h0
    obtain ⟨w1, w2, w3, w4, _⟩ := walk_facts (measL (tapeK t s k)) (tapeK t s k) (Nat.le_refl _) hz h2
    have e : r = ⟨k + 1, true, (walkT t x (tapeK t s k)).1, (walkT t x (tapeK t s k)).2⟩ := rep_some hk
    rw [e]
    exact ⟨by show 1 ≤ k + 1; omega, by show k + 1 ≤ many; omega, w1, w2, w3, Nat.le_trans w4 (meas_bound hz)⟩
/-- what the program's Run tells -/
def RnPost (r : Rep) (q : Int) (w : World) (e : Ending) (w' : World) : Prop :=
  ∃ (A : Option Addr) (c : Nat), e = .returned (.tuple #[.agg #[.int .i64 r.runs, .bool r.failed, .slice A r.tape.length c, .int .i64 r.steps], errOf q]) ∧ At w' w'.heap.size A r.tape ∧ r.tape.length ≤ c ∧ Below w.heap.size w w'
theorem runR_ok {t x : Gn} {n many : Int} (h : runE t x many = 0) : runR t x n many = repK t x (u64of n, gold) many.toNat := by unfold runR; rw [if_pos h]
theorem runR_no {t x : Gn} {n many : Int} (h : ¬ runE t x many = 0) : runR t x n many = ⟨0, false, [], 0⟩ := by unfold runR; rw [if_neg h]
theorem rep_len {t x : Gn} {n many : Int} : (runR t x n many).tape.length ≤ 1399680 ∧ (runR t x n many).steps ≤ 1401079680 ∧ (runR t x n many).runs ≤ 50 := by
  by_cases h : runE t x many = 0
  · obtain ⟨h0, hf, h1, h2⟩ := run_ok h
    rw [runR_ok h]
    cases hk : firstK t x (u64of n, gold) many.toNat with
    | none => rw [rep_none hk]; exact ⟨by simp, by simp, by show many.toNat ≤ 50; omega⟩
    | some k =>
      have hr := rep_fails (s := (u64of n, gold)) (many := many.toNat) h0 hf (by rw [rep_some hk])
      exact ⟨(rep_facts hr.2.2.1).2.1, hr.2.2.2.2.2, by have := hr.2.1; omega⟩
  · rw [runR_no h]; exact ⟨by simp, by simp, by simp⟩
end Go.Proofs.YtabkihellcflhaaGreatDoor.Gens

/- Boxes of reports. Conditions: none. -/
namespace Go.Proofs.YtabkihellcflhaaGreatDoor.Gens
open Go.RowKit Lists Ints Vals Exprs
set_option linter.unusedVariables false

/-- a box of a report -/
def R4 (b : Nat) (x0 x1 x2 x3 : Value) (w : World) : Prop := w.heap[b]? = some (.cells #[x0, x1, x2, x3] 34 (0, 0))
theorem R4.facts {b : Nat} {x0 x1 x2 x3 : Value} {w : World} (h : R4 b x0 x1 x2 x3 w) : (w.cell? ⟨b, 0, none⟩ = some x0 ∧ w.cell? ⟨b, 1, none⟩ = some x1 ∧ w.cell? ⟨b, 2, none⟩ = some x2 ∧ w.cell? ⟨b, 3, none⟩ = some x3) ∧ w.frozen? ⟨b, 0, none⟩ = false ∧ w.frozen? ⟨b, 1, none⟩ = false ∧ w.frozen? ⟨b, 2, none⟩ = false ∧ w.frozen? ⟨b, 3, none⟩ = false :=
  ⟨⟨by rw [Lib.cell_of_heap h]; rfl, by rw [Lib.cell_of_heap h]; rfl, by rw [Lib.cell_of_heap h]; rfl, by rw [Lib.cell_of_heap h]; rfl⟩, Lib.frozen_of_heap h 0, Lib.frozen_of_heap h 1, Lib.frozen_of_heap h 2, Lib.frozen_of_heap h 3⟩
theorem R4.lt {b : Nat} {x0 x1 x2 x3 : Value} {w : World} (h : R4 b x0 x1 x2 x3 w) : b < w.heap.size := (Array.getElem?_eq_some_iff.1 h).1
theorem R4.below {b : Nat} {x0 x1 x2 x3 : Value} {w w' : World} (h : R4 b x0 x1 x2 x3 w) (hb : Below w.heap.size w w') : R4 b x0 x1 x2 x3 w' := (hb.block b h.lt).trans h
theorem R4.other {b : Nat} {x0 x1 x2 x3 : Value} {w : World} (h : R4 b x0 x1 x2 x3 w) {c : Nat} (hn : b ≠ c) (o : Nat) (u : Value) : R4 b x0 x1 x2 x3 (w.setCell ⟨c, o, none⟩ u) := (Below.heap_setCell w ⟨c, o, none⟩ u b hn).trans h
theorem R4.put0 {b : Nat} {x0 x1 x2 x3 : Value} {w : World} (h : R4 b x0 x1 x2 x3 w) (y : Value) : R4 b y x1 x2 x3 (w.setCell ⟨b, 0, none⟩ y) := by
  unfold R4 at h ⊢
  simp [World.setCell, Array.getElem?_modify, h]
theorem R4.put1 {b : Nat} {x0 x1 x2 x3 : Value} {w : World} (h : R4 b x0 x1 x2 x3 w) (y : Value) : R4 b x0 y x2 x3 (w.setCell ⟨b, 1, none⟩ y) := by
  unfold R4 at h ⊢
  simp [World.setCell, Array.getElem?_modify, h]
theorem R4.put23 {b : Nat} {x0 x1 x2 x3 : Value} {w : World} (h : R4 b x0 x1 x2 x3 w) (y z : Value) : R4 b x0 x1 y z ((w.setCell ⟨b, 2, none⟩ y).setCell ⟨b, 3, none⟩ z) := by
  unfold R4 at h ⊢
  simp [World.setCell, Array.getElem?_modify, h]
theorem R4.put4 {b : Nat} {x0 x1 x2 x3 : Value} {w : World} (h : R4 b x0 x1 x2 x3 w) (y0 y1 y2 y3 : Value) : R4 b y0 y1 y2 y3 ((((w.setCell ⟨b, 0, none⟩ y0).setCell ⟨b, 1, none⟩ y1).setCell ⟨b, 2, none⟩ y2).setCell ⟨b, 3, none⟩ y3) := by
  unfold R4 at h ⊢
  simp [World.setCell, Array.getElem?_modify, h]
/-- what is told is laid into its box -/
theorem told_box {w : World} {p : Nat} {x0 x1 x2 x3 : Value} (h : R4 p x0 x1 x2 x3 w) (y0 y1 y2 y3 : Value) :
    let W := (((w.setCell ⟨p, 0, none⟩ y0).setCell ⟨p, 1, none⟩ y1).setCell ⟨p, 2, none⟩ y2).setCell ⟨p, 3, none⟩ y3
    R4 p y0 y1 y2 y3 W ∧ Below p w W ∧ ∀ b, b ≠ p → W.heap[b]? = w.heap[b]? := by
  intro W
  refine ⟨h.put4 y0 y1 y2 y3, ?_, fun b hb => ?_⟩
  · exact Below.setCell (p := ⟨p, 3, none⟩) (Below.setCell (p := ⟨p, 2, none⟩) (Below.setCell (p := ⟨p, 1, none⟩) (Below.setCell (p := ⟨p, 0, none⟩) (Below.refl _ _) (Nat.le_refl _) _) (Nat.le_refl _) _) (Nat.le_refl _) _) (Nat.le_refl _) _
  · exact (Below.heap_setCell _ ⟨p, 3, none⟩ _ b hb).trans ((Below.heap_setCell _ ⟨p, 2, none⟩ _ b hb).trans ((Below.heap_setCell _ ⟨p, 1, none⟩ _ b hb).trans (Below.heap_setCell _ ⟨p, 0, none⟩ _ b hb)))
end Go.Proofs.YtabkihellcflhaaGreatDoor.Gens

/- Contracts of package rng's New and Split, and of the statements' own function 'known'. Conditions: none. -/
namespace Go.Proofs.YtabkihellcflhaaGreatDoor.Rng
open Go.RowKit

theorem new_any (n : Int) (w : World) :
    Calls Tryz.prog 30 #[.int .i64 n] w fun e w' => e = .returned (.agg #[.int .u64 (u64of n), .int .u64 gold]) ∧ Below w.heap.size w w' := by
  go_enter Tryz.func30, Tryz.ntmps30
  go_wp2
  exact bodyPost_ret (v := .agg #[.int .u64 (u64of n), .int .u64 gold]) (by simp [results, Tryz.results30, go_sem, u64of, gold]) rfl ⟨rfl, ((Below.refl _ _).alloc (Nat.le_refl _) _)⟩

theorem split_any (a g : Int) (w : World) :
    Calls Tryz.prog 31 #[.agg #[.int .u64 a, .int .u64 g]] w fun e w' => e = .returned (.tuple #[.agg #[.int .u64 (plus (plus a g) g), .int .u64 g], .agg #[.int .u64 (mixI (plus a g)), .int .u64 (odd (mixI (plus (plus a g) g)))]]) ∧ Below w.heap.size w w' := by
  go_enter Tryz.func31, Tryz.ntmps31
  go_wp2_with fail
  refine (next_exact _ _ _).mono ?_
  rintro e w1 ⟨rfl, rfl⟩
  unfold nextW
  go_wp2_with fail
  refine (next_exact _ _ _).mono ?_
  rintro e w2 ⟨rfl, rfl⟩
  unfold nextW
  go_wp2
  exact bodyPost_ret (v := .tuple #[.agg #[.int .u64 (plus (plus a g) g), .int .u64 g], .agg #[.int .u64 (mixI (plus a g)), .int .u64 (odd (mixI (plus (plus a g) g)))]]) (by simp [results, Tryz.results31, go_sem, odd]) rfl
    ⟨rfl, by repeat (first | exact Below.refl _ _ | refine Below.drew ?_ | refine Below.alloc ?_ (by simp <;> omega) _)⟩

end Go.Proofs.YtabkihellcflhaaGreatDoor.Rng
