/- RankTells, part 13 of the proof: The program's Mend. Conditions: the sizes. · The program's Draw: its closure as a source of choices; what Draw tells. Conditions: none but the generator's size. · What comes next in a draw: the greatest choice there. Without a program. · The document's MostOf along a draw. · The document's own answers on random numbers, as the statements write them: Mix, Step, BelowOf (for seats without SplitOf). Conditions: none. · Contract of the document's own DrawOf. Condition: the sizes. · The program's Replay: its closure as a source of choices, that may panic. Conditions: the size of the list. · The program's deferred closure in replay: a panic with an error's number is caught; else nothing. · Plain laws: what Replay tells. No program. -/
import Derived.Test.YtffkppjmdelajaaDoorRankTellsZ11
import Derived.Test.YtffkppjmdelajaaDoorRankTellsZ12
import Derived.Test.YtffkppjmdelajaaDoorRankTellsZ4
import Derived.Test.YtffkppjmdelajaaDoorRankTellsZ7
import Derived.Deep.RegionHeld3
import Derived.StillTailTactics
import Derived.WalkSmall
import Derived.Tactics
import Derived.Tactics2
import Derived.Defers
import Derived.Recover
import Derived.Laws.Pointers
import Derived.Test.YtffkppjmdelajaaDoorRankTellsZ3
/- The program's Mend. Conditions: the sizes. -/
namespace Go.Proofs.YtffkppjmdelajaaDoor.Gens
open Go.RowKit Lists Ints Vals
set_option linter.unusedVariables false

/-- what Mend tells -/
def mendL (t : Gn) (l : List Int) : List Int := if genV t = 0 then (match play mendC t l with | .ok (c, _, _) => c | .error _ => []) else []
theorem mendL_of {t : Gn} {l c r : List Int} {v : Tr} (h0 : genV t = 0) (h : play mendC t l = .ok (c, v, r)) : mendL t l = c := by
  unfold mendL; rw [if_pos h0, h]
theorem mend_run {t : Gn} (l : List Int) (h0 : genV t = 0) : ∃ v r, play mendC t l = .ok (mendL t l, v, r) ∧ (mendL t l).length ≤ 1399680 := by
  obtain ⟨hr, hl⟩ := gen_right h0
  obtain ⟨c, v, r, h⟩ := mend_ex hr l
  refine ⟨v, r, ?_, ?_⟩
  · rw [mendL_of h0 h, h]
  · rw [mendL_of h0 h]
    exact Nat.le_trans (play_long mend_bounded t hr l c v r h) (small_long hl)
theorem small30 {t : Gn} (h0 : genV t = 0) : t.size ≤ 30 := small_size (gen_right h0).2

set_option maxHeartbeats 2000000 in
set_option maxRecDepth 100000 in
theorem mend_prog {n : Nat} {t : Gn} {v : Value} {L : Option Addr} {l : List Int} {lc : Nat} (w : World) (h : GAt w (GBel w.heap.size) n v t) (hat : At w w.heap.size L l) (hcap : l.length ≤ lc) (hl : l.length ≤ 4294967296) (hsz : t.size ≤ 4294967296) :
    Calls Tryd.prog 22 #[v, .slice L l.length lc] w fun e w' => ∃ (A' : Option Addr) (c' : Nat), e = .returned (.tuple #[.slice A' (mendL t l).length c', errOf (genV t)]) ∧ Own w' w.heap.size A' c' (mendL t l) ∧ Below w.heap.size w w' := by
  obtain ⟨m, A, c, e, hw, rfl, _⟩ := h.open_
  have b1 : Below w.heap.size w ((w.alloc (gc t A c)).alloc (.cells #[.slice L l.length lc] 25)) := ((Below.refl _ _).alloc (Nat.le_refl _) _).alloc (by simp) _
  have s1 : (w.alloc (gc t A c)).heap.size = w.heap.size + 1 := by simp
  have g1 : G4 w.heap.size (.int .i64 t.kind) (.int .i64 t.a) (.int .i64 t.b) (.slice A t.subs.length c) ((w.alloc (gc t A c)).alloc (.cells #[.slice L l.length lc] 25)) := (Below.heap_alloc _ _ _ (by omega)).trans (new_obj w _)
  have l1 : LB (w.heap.size + 1) L l.length lc ((w.alloc (gc t A c)).alloc (.cells #[.slice L l.length lc] 25)) := by
    have := new_obj (w.alloc (gc t A c)) (.cells #[.slice L l.length lc] 25)
    rw [s1] at this; exact this
  have z1 : ((w.alloc (gc t A c)).alloc (.cells #[.slice L l.length lc] 25)).heap.size = w.heap.size + 2 := by simp
  have C1 := gcheck _ (h.below b1) (by simp; omega) hsz
  have HB := Lib.hid (And.intro b1 (And.intro g1 (And.intro l1 z1)))
  have HT := Lib.hid (And.intro h (And.intro hat (And.intro hcap hl)))
  clear h hat hcap hl hsz e hw b1 s1 g1 l1 z1
  by_cases hz : genV t = 0
  · obtain ⟨v', r, hp, hlen⟩ := mend_run l hz
    have HR := Lib.hid (And.intro (gen_right hz).1 (And.intro (small30 hz) (And.intro hp hlen)))
    rw [hz, errOf_ok] at C1 ⊢
    have C1 := Lib.hid C1
    clear hz hp hlen
    generalize mendL t l = cs at HR ⊢
    go_enter Tryd.func22, Tryd.ntmps22
    go_wp2_with fail
    generalize (w.alloc (gc t A c)).alloc (.cells #[.slice L l.length lc] 25) = W1 at *
    refine C1.out.mono ?_
    rintro e w2 ⟨rfl, hb2⟩
    have B2 := Lib.hid (HB.out.1.trans (hb2.mono HB.out.1.size))
    obtain ⟨k0, k1, k2, k3⟩ := (HB.out.2.1.below hb2).facts
    have IS := Lib.hid (show IL w.heap.size (w.heap.size + 1) l (fun b => b = w.heap.size + 1) w2 from ⟨fun b => Iff.rfl, by omega, HT.out.2.2.2, B2.out.size, L, lc, (hb2.block _ HB.out.2.2.1.lt).trans HB.out.2.2.1, HT.out.2.1.below B2.out, HT.out.2.2.1⟩)
    have RC := record_ok (src_mend w.heap.size (w.heap.size + 1)) (HT.out.1.below B2.out) HR.out.1 HR.out.2.1 IS.out HR.out.2.2.1 (by have := HR.out.2.2.2; omega)
    have RC := Lib.hid RC
    clear hb2 C1
    go_wp2_with fail
    refine RC.out.mono ?_
    rintro e w3 ⟨A', c', X', rfl, hown, hmv⟩
    have HO := Lib.hid (own_less hown B2.out.size)
    have B3 := Lib.hid (B2.out.trans (Mv.below hmv (fun b hb => by show w.heap.size ≤ b; have : b = w.heap.size + 1 := hb; omega) B2.out.size))
    clear hown hmv RC
    go_wp2_with fail
    go_ret2
    exact ⟨A', c', rfl, HO.out, B3.out⟩
  · have RE := Lib.hid (errOf_no hz)
    have HL := Lib.hid (show mendL t l = [] by unfold mendL; rw [if_neg hz])
    rw [errOf_no hz] at C1
    generalize genV t = q at C1 RE
    have C1 := Lib.hid C1
    clear hz
    go_enter Tryd.func22, Tryd.ntmps22
    go_wp2_with fail
    generalize (w.alloc (gc t A c)).alloc (.cells #[.slice L l.length lc] 25) = W1 at *
    refine C1.out.mono ?_
    rintro e w2 ⟨rfl, hb2⟩
    have B2 := Lib.hid (HB.out.1.trans (hb2.mono HB.out.1.size))
    clear hb2
    go_wp2_with fail
    go_ret2
    exact ⟨none, 0, by rw [HL.out, RE.out]; rfl, by rw [HL.out]; exact Own.none, B2.out⟩
end Go.Proofs.YtffkppjmdelajaaDoor.Gens

/- The program's Draw: its closure as a source of choices; what Draw tells. Conditions: none but the generator's size. -/
namespace Go.Proofs.YtffkppjmdelajaaDoor.Gens
open Go.RowKit Lists Ints Vals Rng
set_option linter.unusedVariables false

/-- a random choice -/
def drawC (s : Int × Int) (m : Int) : Except Int (Int × (Int × Int)) := if m ≤ 1000 then .ok (belowK s.1 s.2 (m + 1), (plus s.1 s.2, s.2)) else .ok (0, s)
theorem draw_bounded : Bounded drawC := by
  intro s m x s' h0 h
  unfold drawC at h
  split at h
  · simp only [Except.ok.injEq, Prod.mk.injEq] at h
    have := belowK_bounds s.1 s.2 (m + 1) (by omega) (by omega)
    omega
  · simp only [Except.ok.injEq, Prod.mk.injEq] at h
    omega
theorem draw_total : Total drawC := fun s m _ => by unfold drawC; split <;> exact ⟨_, _, rfl⟩
/-- the box of a seed -/
def SB (p : Nat) (s : Int × Int) (w : World) : Prop := w.heap[p]? = some (.cells #[.int .u64 s.1, .int .u64 s.2] 28 (0, 0))
theorem SB.facts {p : Nat} {s : Int × Int} {w : World} (h : SB p s w) : w.cell? ⟨p, 0, none⟩ = some (.int .u64 s.1) ∧ w.cell? ⟨p, 1, none⟩ = some (.int .u64 s.2) ∧ w.frozen? ⟨p, 0, none⟩ = false ∧ w.frozen? ⟨p, 1, none⟩ = false :=
  ⟨by rw [Lib.cell_of_heap h]; rfl, by rw [Lib.cell_of_heap h]; rfl, Lib.frozen_of_heap h 0, Lib.frozen_of_heap h 1⟩
theorem SB.lt {p : Nat} {s : Int × Int} {w : World} (h : SB p s w) : p < w.heap.size := (Array.getElem?_eq_some_iff.1 h).1
theorem SB.put {p : Nat} {s : Int × Int} {w : World} (h : SB p s w) (a g : Int) : SB p (a, g) ((w.setCell ⟨p, 0, none⟩ (.int .u64 a)).setCell ⟨p, 1, none⟩ (.int .u64 g)) := by
  unfold SB at h ⊢
  simp [World.setCell, Array.getElem?_modify, h]
def IS (B p : Nat) (s : Int × Int) (X : Nat → Prop) (w : World) : Prop := (∀ b, X b ↔ b = p) ∧ B ≤ p ∧ B ≤ w.heap.size ∧ SB p s w

set_option maxHeartbeats 1000000 in
set_option maxRecDepth 100000 in
theorem src_draw (B p : Nat) : Src drawC 55 #[.pointer (some ⟨p, 0, none⟩)] B (IS B p) := by
  refine ⟨fun s X w w' h hk hs => ?_, fun s X w h => ?_, draw_bounded, fun args w => ?_, fun s X w m h0 h1 hI _ => ?_⟩
  · obtain ⟨h1, h2, h3, h4⟩ := h
    exact ⟨h1, h2, Nat.le_trans h3 hs, (hk p (.inr ((h1 p).2 rfl))).trans h4⟩
  · obtain ⟨h1, h2, h3, h4⟩ := h
    exact ⟨h3, fun b hb => by rw [h1] at hb; subst hb; exact ⟨h2, h4.lt⟩⟩
  · rfl
  · obtain ⟨a, g⟩ := s
    obtain ⟨hX, hBp, hBw, hbox⟩ := hI
    have HX := Lib.hid hX
    have HBX := Lib.hid hbox
    obtain ⟨f0, f1, _, _⟩ := hbox.facts
    simp only at f0 f1
    have CB := Lib.hid (below_ok a g (m + 1) (by omega) (by omega) w)
    have HR := Lib.hid (show drawC (a, g) m = .ok (belowK a g (m + 1), (plus a g, g)) by unfold drawC; rw [if_pos h1])
    clear hX hbox
    show Calls Tryd.prog 55 #[.int .i64 m, .pointer (some ⟨p, 0, none⟩)] w _
    go_enter Tryd.func55, Tryd.ntmps55
    go_wp2_with fail
    refine CB.out.mono ?_
    rintro e w1 ⟨rfl, hb⟩
    have HB1 := Lib.hid (show SB p (a, g) w1 from (hb.block p HBX.out.lt).trans HBX.out)
    have BB := Lib.hid hb
    clear hb CB f0 f1
    obtain ⟨f0, f1, z0, z1⟩ := HB1.out.facts
    simp only at f0 f1
    generalize belowK a g (m + 1) = x at *
    go_wp2_with fail
    go_ret
    show SPost _ (drawC (a, g) m) _ _ _ _
    rw [HR.out]
    refine ⟨rfl, X, ⟨HX.out, hBp, by have := BB.out.size; simp [World.setCell]; omega, HB1.out.put _ _⟩, ?_⟩
    refine ⟨BB.out.os, BB.out.tape, BB.out.output, by have := BB.out.size; simp [World.setCell]; omega, fun b hb hx => ?_, fun b hb => .inl hb⟩
    have hne : b ≠ p := fun e => hx ((HX.out b).2 e)
    exact (Below.heap_setCell _ ⟨p, 1, none⟩ _ b hne).trans ((Below.heap_setCell _ ⟨p, 0, none⟩ _ b hne).trans (BB.out.block b hb))

/-- what Draw tells -/
def drawL (t : Gn) (s : Int × Int) : List Int := if genV t = 0 then (match play drawC t s with | .ok (c, _, _) => c | .error _ => []) else []
theorem draw_run {t : Gn} (s : Int × Int) (h0 : genV t = 0) : ∃ v r, play drawC t s = .ok (drawL t s, v, r) ∧ (drawL t s).length ≤ 1399680 := by
  obtain ⟨hr, hl⟩ := gen_right h0
  obtain ⟨c, v, r, h⟩ := play_total draw_total t hr s
  have e : drawL t s = c := by unfold drawL; rw [if_pos h0, h]
  exact ⟨v, r, by rw [e, h], by rw [e]; exact Nat.le_trans (play_long draw_bounded t hr s c v r h) (small_long hl)⟩

set_option maxHeartbeats 2000000 in
set_option maxRecDepth 100000 in
theorem draw_prog {n : Nat} {t : Gn} {v : Value} {a g : Int} (w : World) (h : GAt w (GBel w.heap.size) n v t) (hsz : t.size ≤ 4294967296) :
    Calls Tryd.prog 24 #[v, .agg #[.int .u64 a, .int .u64 g]] w fun e w' => ∃ (A' : Option Addr) (c' : Nat), e = .returned (.tuple #[.slice A' (drawL t (a, g)).length c', errOf (genV t)]) ∧ Own w' w.heap.size A' c' (drawL t (a, g)) ∧ Below w.heap.size w w' := by
  obtain ⟨m, A, c, e, hw, rfl, _⟩ := h.open_
  have b1 : Below w.heap.size w ((w.alloc (gc t A c)).alloc (.cells #[.int .u64 a, .int .u64 g] 28)) := ((Below.refl _ _).alloc (Nat.le_refl _) _).alloc (by simp) _
  have s1 : (w.alloc (gc t A c)).heap.size = w.heap.size + 1 := by simp
  have g1 : G4 w.heap.size (.int .i64 t.kind) (.int .i64 t.a) (.int .i64 t.b) (.slice A t.subs.length c) ((w.alloc (gc t A c)).alloc (.cells #[.int .u64 a, .int .u64 g] 28)) := (Below.heap_alloc _ _ _ (by omega)).trans (new_obj w _)
  have l1 : SB (w.heap.size + 1) (a, g) ((w.alloc (gc t A c)).alloc (.cells #[.int .u64 a, .int .u64 g] 28)) := by
    have := new_obj (w.alloc (gc t A c)) (.cells #[.int .u64 a, .int .u64 g] 28)
    rw [s1] at this; exact this
  have z1 : ((w.alloc (gc t A c)).alloc (.cells #[.int .u64 a, .int .u64 g] 28)).heap.size = w.heap.size + 2 := by simp
  have C1 := gcheck _ (h.below b1) (by simp; omega) hsz
  have HB := Lib.hid (And.intro b1 (And.intro g1 (And.intro l1 z1)))
  have HT := Lib.hid h
  clear h hsz e hw b1 s1 g1 l1 z1
  by_cases hz : genV t = 0
  · obtain ⟨v', r, hp, hlen⟩ := draw_run (a, g) hz
    have HR := Lib.hid (And.intro (gen_right hz).1 (And.intro (small30 hz) (And.intro hp hlen)))
    rw [hz, errOf_ok] at C1 ⊢
    have C1 := Lib.hid C1
    clear hz hp hlen
    generalize drawL t (a, g) = cs at HR ⊢
    go_enter Tryd.func24, Tryd.ntmps24
    go_wp2_with fail
    generalize (w.alloc (gc t A c)).alloc (.cells #[.int .u64 a, .int .u64 g] 28) = W1 at *
    refine C1.out.mono ?_
    rintro e w2 ⟨rfl, hb2⟩
    have B2 := Lib.hid (HB.out.1.trans (hb2.mono HB.out.1.size))
    obtain ⟨k0, k1, k2, k3⟩ := (HB.out.2.1.below hb2).facts
    have IS0 := Lib.hid (show IS w.heap.size (w.heap.size + 1) (a, g) (fun b => b = w.heap.size + 1) w2 from ⟨fun b => Iff.rfl, by omega, B2.out.size, (hb2.block _ HB.out.2.2.1.lt).trans HB.out.2.2.1⟩)
    have RC := record_ok (src_draw w.heap.size (w.heap.size + 1)) (HT.out.below B2.out) HR.out.1 HR.out.2.1 IS0.out HR.out.2.2.1 (by have := HR.out.2.2.2; omega)
    have RC := Lib.hid RC
    clear hb2 C1
    go_wp2_with fail
    refine RC.out.mono ?_
    rintro e w3 ⟨A', c', X', rfl, hown, hmv⟩
    have HO := Lib.hid (own_less hown B2.out.size)
    have B3 := Lib.hid (B2.out.trans (Mv.below hmv (fun b hb => by show w.heap.size ≤ b; have : b = w.heap.size + 1 := hb; omega) B2.out.size))
    clear hown hmv RC
    go_wp2_with fail
    go_ret2
    exact ⟨A', c', rfl, HO.out, B3.out⟩
  · have RE := Lib.hid (errOf_no hz)
    have HL := Lib.hid (show drawL t (a, g) = [] by unfold drawL; rw [if_neg hz])
    rw [errOf_no hz] at C1
    generalize genV t = q at C1 RE
    have C1 := Lib.hid C1
    clear hz
    go_enter Tryd.func24, Tryd.ntmps24
    go_wp2_with fail
    generalize (w.alloc (gc t A c)).alloc (.cells #[.int .u64 a, .int .u64 g] 28) = W1 at *
    refine C1.out.mono ?_
    rintro e w2 ⟨rfl, hb2⟩
    have B2 := Lib.hid (HB.out.1.trans (hb2.mono HB.out.1.size))
    clear hb2
    go_wp2_with fail
    go_ret2
    exact ⟨none, 0, by rw [HL.out, RE.out]; rfl, by rw [HL.out]; exact Own.none, B2.out⟩
end Go.Proofs.YtffkppjmdelajaaDoor.Gens

/- What comes next in a draw: the greatest choice there. Without a program. -/
namespace Go.Proofs.YtffkppjmdelajaaDoor.Gens
open Go.RowKit Lists Ints Vals Rng
set_option linter.unusedVariables false

/-- the seed after so many choices -/
def adv : Nat → Int × Int → Int × Int
  | 0, s => s
  | n + 1, s => adv n (plus s.1 s.2, s.2)
theorem adv_add : ∀ (m n : Nat) (s : Int × Int), adv (m + n) s = adv n (adv m s)
  | 0, n, s => by rw [Nat.zero_add]; rfl
  | m + 1, n, s => by rw [Nat.succ_add]; exact adv_add m n _
theorem mend_top {m : Int} (h0 : 0 ≤ m) (h1 : m ≤ 1000) (r : List Int) : mendC (1001 :: r) m = .ok (m, r) := by
  unfold mendC mendX
  have e : max 0 (min 1001 m) = m := by omega
  rw [List.tail_cons]
  exact congrArg (fun z => Except.ok (z, r)) e
theorem draw_eq {s s1 : Int × Int} {m x : Int} (h1 : m ≤ 1000) (h : drawC s m = .ok (x, s1)) : x = belowK s.1 s.2 (m + 1) ∧ s1 = adv 1 s := by
  unfold drawC at h
  rw [if_pos h1] at h
  simp only [Except.ok.injEq, Prod.mk.injEq] at h
  exact ⟨h.1.symm, h.2.symm⟩
/-- of each place: the choice is of the greatest that a mended tape has there -/
def NxC {α : Type} (f : List Int → Except Int (List Int × α × List Int)) (s : Int × Int) (c : List Int) : Prop :=
  ∀ i, i < c.length → ∀ r, ∃ m c' v' r', 0 ≤ m ∧ m ≤ 1000 ∧ c.getD i 0 = belowK (adv i s).1 (adv i s).2 (m + 1) ∧ f (c.take i ++ 1001 :: r) = .ok (c.take i ++ m :: c', v', r')
theorem NxC.nil {α : Type} {f : List Int → Except Int (List Int × α × List Int)} {s : Int × Int} : NxC f s [] := fun i h => by simp at h
theorem NxC.cons {α β : Type} {f : List Int → Except Int (List Int × α × List Int)} {F : List Int → Except Int (List Int × β × List Int)} {s : Int × Int} {x m : Int} {c : List Int}
    (hm0 : 0 ≤ m) (hm1 : m ≤ 1000) (hx : x = belowK s.1 s.2 (m + 1)) (h0 : ∀ r, ∃ c' v' r', f (1001 :: r) = .ok (m :: c', v', r'))
    (h1 : ∀ z c' v' r', F z = .ok (c', v', r') → ∃ v2, f (x :: z) = .ok (x :: c', v2, r')) (hF : NxC F (adv 1 s) c) : NxC f s (x :: c) := by
  intro i hi r
  cases i with
  | zero =>
    obtain ⟨c', v', r', h⟩ := h0 r
    exact ⟨m, c', v', r', hm0, hm1, hx, h⟩
  | succ i =>
    obtain ⟨m2, c', v', r', q0, q1, q2, q3⟩ := hF i (by simpa using hi) r
    obtain ⟨v2, h⟩ := h1 _ _ _ _ q3
    exact ⟨m2, c', v2, r', q0, q1, q2, h⟩
def NxM (g : Gn) (s : Int × Int) (c : List Int) (v : Tr) (s' : Int × Int) : Prop :=
  g.size ≤ 30 → Right g ∧ s' = adv c.length s ∧ (∀ r, play mendC g (c ++ r) = .ok (c, v, r)) ∧ NxC (play mendC g) s c
def NxL (l : List Gn) (s : Int × Int) (c : List Int) (vs : List Tr) (s' : Int × Int) : Prop :=
  (∀ g ∈ l, g.size ≤ 30) → (∀ g ∈ l, Right g) ∧ s' = adv c.length s ∧ (∀ r, playAll mendC l (c ++ r) = .ok (c, vs, r)) ∧ NxC (playAll mendC l) s c
theorem nx_cons (g : Gn) (l : List Gn) (s : Int × Int) (c : List Int) (v : Tr) (s1 : Int × Int) (c2 : List Int) (vs : List Tr) (s2 : Int × Int) (h1 : NxM g s c v s1) (h2 : NxL l s1 c2 vs s2) : NxL (g :: l) s (c ++ c2) (v :: vs) s2 := by
  intro hz
  obtain ⟨a1, a2, a3, a4⟩ := h1 (hz g (by simp))
  obtain ⟨b1, b2, b3, b4⟩ := h2 (fun x hx => hz x (by simp [hx]))
  refine ⟨fun x hx => ?_, ?_, fun r => ?_, fun i hi r => ?_⟩
  · rcases List.mem_cons.1 hx with rfl | hx
    · exact a1
    · exact b1 x hx
  · rw [List.length_append, adv_add, ← a2]; exact b2
  · rw [List.append_assoc, playAll, a3]
    simp only [b3]
  · by_cases hlt : i < c.length
    · obtain ⟨m, c', v', r', q0, q1, q2, q3⟩ := a4 i hlt r
      obtain ⟨c3, vs3, r3, h3⟩ := all_total mend_total l b1 r'
      refine ⟨m, c' ++ c3, v' :: vs3, r3, q0, q1, ?_, ?_⟩
      · rw [← q2, List.getD, List.getD, List.getElem?_append_left hlt]
      · rw [List.take_append_of_le_length (by omega), playAll, q3]
        simp only [h3, List.append_assoc, List.cons_append]
    · obtain ⟨m, c', v', r', q0, q1, q2, q3⟩ := b4 (i - c.length) (by rw [List.length_append] at hi; omega) r
      refine ⟨m, c', v :: v', r', q0, q1, ?_, ?_⟩
      · have e : adv i s = adv (i - c.length) s1 := by rw [a2, ← adv_add]; congr 1; omega
        rw [e, ← q2, List.getD, List.getD, List.getElem?_append_right (by omega)]
      · have e : (c ++ c2).take i = c ++ c2.take (i - c.length) := by rw [List.take_append, List.take_of_length_le (by omega)]
        rw [e, List.append_assoc, playAll, a3]
        simp only [q3, List.append_assoc]
theorem draw_ind : Ind drawC NxM NxL where
  just := fun a b subs s hr hz => ⟨hr, rfl, fun r => by simp [play], NxC.nil⟩
  int := fun a b subs s x s1 hr hx0 hx1 h hz => by
    obtain ⟨m0, m1⟩ := (right_max hr).1 rfl
    obtain ⟨e1, e2⟩ := draw_eq m1 h
    refine ⟨hr, e2, fun r => ?_, NxC.cons (F := fun z => .ok ([], (), z)) m0 m1 e1 (fun r => ⟨[], _, r, by simp [play, mend_top m0 m1]; rfl⟩) (fun z c' v' r' hz => ?_) NxC.nil⟩
    · simp [play, mend_reads x _ r hx0 hx1]
    · simp only [Except.ok.injEq, Prod.mk.injEq] at hz
      obtain ⟨rfl, _, rfl⟩ := hz
      exact ⟨_, by simp [play, mend_reads x _ z hx0 hx1]; rfl⟩
  any := fun a b subs s x s1 c v s2 hlt hr hx0 h hM hz => by
    have m0 := (right_max hr).2.1 rfl
    have hsz : 1 + gsizes subs ≤ 30 := hz
    have m1 : (subs.length : Int) - 1 ≤ 1000 := by have := glen_sizes subs; omega
    obtain ⟨e1, e2⟩ := draw_eq m1 h
    have hmem := List.getElem_mem hlt
    obtain ⟨a1, a2, a3, a4⟩ := hM (by have := gsize_mem subs _ hmem; omega)
    have hx1 : x ≤ (subs.length : Int) - 1 := by omega
    refine ⟨hr, ?_, fun r => ?_, NxC.cons (F := play mendC (subs[x.toNat]'hlt)) m0 m1 e1 (fun r => ?_) (fun z c' v' r' hz => ?_) (by rw [← e2]; exact a4)⟩
    · rw [a2, e2]; rfl
    · simp [play, mend_reads x _ (c ++ r) hx0 hx1, at_get subs _ _ hlt, a3]
    · have hl2 : subs.length - 1 < subs.length := by omega
      have el : ((subs.length : Int) - 1).toNat = subs.length - 1 := by omega
      obtain ⟨c', v', r', h4⟩ := play_total mend_total (subs[subs.length - 1]'hl2) (hr.subs _ (List.getElem_mem hl2)) r
      exact ⟨c', v', r', by simp [play, mend_top m0 m1, el, at_get subs _ _ hl2, h4]⟩
    · exact ⟨v', by simp [play, mend_reads x _ z hx0 hx1, at_get subs _ _ hlt, hz]⟩
  both := fun a b subs s c vs s1 hr hL hz => by
    have hsz : 1 + gsizes subs ≤ 30 := hz
    obtain ⟨a1, a2, a3, a4⟩ := hL (fun x hx => by have := gsize_mem subs x hx; omega)
    refine ⟨hr, a2, fun r => by simp [play, a3], fun i hi r => ?_⟩
    obtain ⟨m, c', v', r', q0, q1, q2, q3⟩ := a4 i hi r
    exact ⟨m, c', .node true 0 v', r', q0, q1, q2, by simp [play, q3]⟩
  many := fun a b g s x s1 c vs s2 hr hx0 hx1 ha5 h hL hz => by
    obtain ⟨m0, _, _⟩ := (right_max hr).2.2.1 rfl
    have m1 : a ≤ 1000 := by omega
    have hsz : 1 + (g.size + 0) ≤ 30 := by simpa [Gn.size, gsizes] using hz
    obtain ⟨e1, e2⟩ := draw_eq m1 h
    have hrg : Right g := hr.subs g (by simp [Gn.subs])
    obtain ⟨a1, a2, a3, a4⟩ := hL (fun x hx => by rw [List.eq_of_mem_replicate hx]; omega)
    refine ⟨hr, ?_, fun r => ?_, NxC.cons (F := playAll mendC (List.replicate x.toNat g)) m0 m1 e1 (fun r => ?_) (fun z c' v' r' hz => ?_) (by rw [← e2]; exact a4)⟩
    · rw [a2, e2]; rfl
    · simp [play, mend_reads x _ (c ++ r) hx0 hx1, rep_all', a3]
    · obtain ⟨c', v', r', h4⟩ := all_total mend_total (List.replicate a.toNat g) (fun y hy => by rw [List.eq_of_mem_replicate hy]; exact hrg) r
      exact ⟨c', .node true 0 v', r', by simp [play, mend_top m0 m1, rep_all', h4]⟩
    · exact ⟨.node true 0 v', by simp [play, mend_reads x _ z hx0 hx1, rep_all', hz]⟩
  nil := fun s hz => ⟨fun g hg => by simp at hg, rfl, fun r => by simp [playAll], NxC.nil⟩
  cons := fun g r s c v s1 c2 vs s2 h1 h2 => nx_cons g r s c v s1 c2 vs s2 h1 h2
/-- what a draw has, place by place -/
theorem draw_next {g : Gn} (hr : Right g) (hz : g.size ≤ 30) {s s' : Int × Int} {c : List Int} {v : Tr} (h : play drawC g s = .ok (c, v, s')) :
    s' = adv c.length s ∧ (∀ r, play mendC g (c ++ r) = .ok (c, v, r)) ∧ NxC (play mendC g) s c :=
  (play_ind draw_bounded draw_ind g hr s c v s' h hz).2
end Go.Proofs.YtffkppjmdelajaaDoor.Gens

/- The document's MostOf along a draw. -/
namespace Go.Proofs.YtffkppjmdelajaaDoor.Gens
open Go.RowKit Lists Ints Vals Rng
set_option linter.unusedVariables false

theorem most_at {g : Gn} {s : Int × Int} {c : List Int} (h : NxC (play mendC g) s c) (i : Nat) (hi : i < c.length) :
    ∃ m : Int, 0 ≤ m ∧ m ≤ 1000 ∧ mostG g (c.take i) i = m ∧ c.getD i 0 = belowK (adv i s).1 (adv i s).2 (m + 1) := by
  obtain ⟨m, c', v', r', q0, q1, q2, q3⟩ := h i hi []
  refine ⟨m, q0, q1, ?_, q2⟩
  have ht : (c.take i).take i = c.take i := by rw [List.take_take, Nat.min_self]
  have hl : (c.take i).length = i := by rw [List.length_take]; omega
  unfold mostG
  rw [ht, q3]
  have hn : ¬ (c.take i ++ m :: c').length ≤ i := by rw [List.length_append, hl, List.length_cons]; omega
  simp only [if_neg hn]
  rw [List.getD, List.getElem?_append_right (by omega), hl, Nat.sub_self]
  rfl
theorem most_end {g : Gn} {c : List Int} {v : Tr} (h : ∀ r, play mendC g (c ++ r) = .ok (c, v, r)) : mostG g c c.length = -1 := by
  unfold mostG
  rw [List.take_length, h]
  simp
end Go.Proofs.YtffkppjmdelajaaDoor.Gens

/- The document's own answers on random numbers, as the statements write them: Mix, Step, BelowOf (for seats without SplitOf). Conditions: none. -/
namespace Go.Proofs.YtffkppjmdelajaaDoor.Rng
open Go.RowKit

theorem mixR_any (x : Int) (w : World) :
    Calls Tryd.prog 72 #[.int .u64 x] w fun e w' => e = .returned (.int .u64 (mixI x)) ∧ w = w' := by
  go_enter Tryd.func72, Tryd.ntmps72
  go_wp2
  go_ret
  exact ⟨rfl, rfl⟩

theorem mixR_same (x : Int) (w : World) :
    Calls Tryd.prog 72 #[.int .u64 x] w fun e w' => e = .returned (.int .u64 (mixI x)) ∧ w' = w :=
  (mixR_any x w).mono fun _ _ ⟨h1, h2⟩ => ⟨h1, h2.symm⟩

def stepW (a g : Int) (w : World) : World := (w.alloc (.cells #[.int .u64 a, .int .u64 g] 28)).alloc (.cells #[.int .u64 (plus a g), .int .u64 g] 28)
theorem step_exact (a g : Int) (w : World) :
    Calls Tryd.prog 50 #[.agg #[.int .u64 a, .int .u64 g]] w fun e w' => e = .returned (.agg #[.int .u64 (plus a g), .int .u64 g]) ∧ stepW a g w = w' := by
  go_enter Tryd.func50, Tryd.ntmps50
  go_wp2
  exact bodyPost_ret (v := .agg #[.int .u64 (plus a g), .int .u64 g]) (by simp [results, Tryd.results50, go_sem, plus]) rfl ⟨rfl, rfl⟩
theorem step_any (a g : Int) (w : World) :
    Calls Tryd.prog 50 #[.agg #[.int .u64 a, .int .u64 g]] w fun e w' => e = .returned (.agg #[.int .u64 (plus a g), .int .u64 g]) ∧ Below w.heap.size w w' :=
  (step_exact a g w).mono fun _ _ ⟨h1, h2⟩ => ⟨h1, h2 ▸ ((Below.refl _ _).alloc (Nat.le_refl _) _).alloc (by simp) _⟩

theorem field0 (x y : Int) (w : World) : (Instr.field 28 (.agg #[.int .u64 x, .int .u64 y]) 0).run Tryd.prog w = .ok (.int .u64 x) w := by kernel_rfl
theorem seedEq (x y : Int) (w : World) : (binOp .eql 28 (.agg #[.int .u64 x, .int .u64 y]) (.agg #[.int .u64 x, .int .u64 y])).run Tryd.prog w = .ok (.bool true) w := by simp [go_sem]
theorem belowR_any (a g n : Int) (h1 : 1 ≤ n) (h2 : n ≤ 2147483647) (w : World) :
    Calls Tryd.prog 49 #[.agg #[.int .u64 a, .int .u64 g], .int .i64 n] w fun e w' => e = .returned (.int .i64 (belowK a g n)) ∧ Below w.heap.size w w' := by
  have hf0 := field0
  go_enter Tryd.func49, Tryd.ntmps49
  go_wp2_with fail
  refine (step_any _ _ _).mono ?_
  rintro e w1 ⟨rfl, hb⟩
  go_wp2_with fail
  refine (mixR_any _ _).mono ?_
  rintro e w2 ⟨rfl, rfl⟩
  go_wp2
  go_ret
  exact ⟨rfl, after hb⟩
end Go.Proofs.YtffkppjmdelajaaDoor.Rng

/- Contract of the document's own DrawOf. Condition: the sizes. -/
namespace Go.Proofs.YtffkppjmdelajaaDoor.Gens
open Go.RowKit Lists Ints Vals Rng
set_option linter.unusedVariables false

theorem own_cap {w : World} {base c : Nat} {A : Option Addr} {z : List Int} (h : Own w base A c z) : z.length ≤ c := by
  rcases h.2 with ⟨he, h0⟩ | ⟨g, cap, cur, he, _, _, h1, _⟩
  · omega
  · have e : c = cap := by injection he
    omega
set_option maxHeartbeats 400000 in
set_option maxRecDepth 100000 in
theorem drawof_any (n : Nat) (g : Gn) (A : Option Addr) (c B : Nat) (a gm : Int) (w : World) (hg : GAt w (GBel B) n (gv g A c) g) (hr : Right g) (hs : g.size ≤ 30) (hB : B ≤ w.heap.size)
    (hq : longG g ≤ 4294967294) {cs : List Int} {v : Tr} {s' : Int × Int} (h : play drawC g (a, gm) = .ok (cs, v, s')) :
    Calls Tryd.prog 18 #[gv g A c, .agg #[.int .u64 a, .int .u64 gm]] w fun e w' => ∃ (L : Option Addr) (lc : Nat), e = .returned (.slice L cs.length lc) ∧ Own w' (w.heap.size + 2) L lc cs ∧ Below w.heap.size w w' := by
  obtain ⟨_, d2, d3⟩ := draw_next hr hs h
  have hlen := play_long draw_bounded g hr _ _ _ _ h
  have ME := Lib.hid (most_end d2)
  have MA := Lib.hid (fun i hi => most_at d3 i hi)
  have LN := Lib.hid (show cs.length ≤ 4294967294 by omega)
  have MO := Lib.hid (fun (w1 : World) (b1 : Below w.heap.size w w1) (l : List Int) (L : Option Addr) (lc : Nat) (ho : At w1 w1.heap.size L l) (hl : l.length ≤ 4294967295) (hc : l.length ≤ lc) =>
    mostof_any plays_all n g A c l L lc l.length w1.heap.size w1 ((hg.below (b1.mono hB)).more (Nat.le_trans hB b1.size)) hr (by omega) ho (Nat.le_refl _) (by omega) hl (Nat.le_refl _) hc)
  have H0 := Lib.hid (show Below w.heap.size w ((w.alloc (gc g A c)).alloc (.cells #[.int .u64 a, .int .u64 gm] 28)) from bel2 w _ _ (Nat.le_refl _))
  have G0 := Lib.hid (show G4 w.heap.size (.int .i64 g.kind) (.int .i64 g.a) (.int .i64 g.b) (.slice A g.subs.length c) ((w.alloc (gc g A c)).alloc (.cells #[.int .u64 a, .int .u64 gm] 28)) from new12 w _ _)
  have S0 := Lib.hid (show SB (w.heap.size + 1) (a, gm) ((w.alloc (gc g A c)).alloc (.cells #[.int .u64 a, .int .u64 gm] 28)) from new22 w _ _)
  clear h d2 d3 hg hr hs hB hq hlen
  go_enter Tryd.func18, Tryd.ntmps18
  go_wp2_with fail
  go_loopw [5] (fun s wr => ∃ (i : Nat) (L : Option Addr) (lc : Nat), i ≤ cs.length ∧ s = .slice L i lc ∧ Hid (Own wr (w.heap.size + 2) L lc (cs.take i)) ∧ Hid (SB (w.heap.size + 1) (adv i (a, gm)) wr) ∧ Hid (Below w.heap.size w wr) ∧ Hid (G4 w.heap.size (.int .i64 g.kind) (.int .i64 g.a) (.int .i64 g.b) (.slice A g.subs.length c) wr) ∧ Hid (w.heap.size + 2 ≤ wr.heap.size)) (fun s _ => cs.length - (match s with | .slice _ n _ => n | _ => 0))
  case atStart => exact ⟨0, none, 0, Nat.zero_le _, rfl, Own.none, S0.out, H0.out, G0.out, (show _ ≤ _ by simp)⟩
  case round =>
    obtain ⟨i, L, lc, hi, rfl, HO, HS, HW, HG, HZ⟩ := hrel
    have LT : (cs.take i).length = i := by rw [List.length_take]; omega
    have M1 := MO.out wr HW.out (cs.take i) L lc HO.out.at_ (by have := LN.out; omega) (own_cap HO.out)
    rw [LT] at M1
    obtain ⟨k0, k1, k2, k3⟩ := HG.out.facts
    by_cases hlt : i < cs.length
    · obtain ⟨m, m0, m1, hm, hx⟩ := MA.out i hlt
      have M2 := Lib.hid (fun (w1 : World) (b1 : Below wr.heap.size wr w1) => MO.out w1 (HW.out.trans (b1.mono HW.out.size)) (cs.take i) L lc (HO.out.below b1).at_ (by have := LN.out; omega) (own_cap HO.out))
      rw [LT, hm] at M2
      rw [hm] at M1
      have M1 := Lib.hid M1
      have HX := Lib.hid (And.intro hm hx)
      have LTH := Lib.hid LT
      clear hm hx LT
      go_wp2_with fail
      refine M1.out.mono ?_
      rintro e w1 ⟨rfl, b1⟩
      have B1 := Lib.hid b1
      clear b1 k0 k1 k2 k3
      obtain ⟨k0, k1, k2, k3⟩ := (HG.out.below B1.out).facts
      have gm0 : decide (m ≥ 0) = true := decide_eq_true m0
      have gm1 : m ≥ 0 := m0
      go_wp2_with fail
      refine (M2.out w1 B1.out).mono ?_
      rintro e w2 ⟨rfl, b2⟩
      have B2 := Lib.hid (Ints.on B1.out b2)
      clear b2 k0 k1 k2 k3
      have S2 : Hid (SB _ _ w2) := (B2.out.block _ HS.out.lt).trans HS.out
      obtain ⟨s0, s1, f0, f1⟩ := S2.out.facts
      go_wp2_with fail
      refine (belowR_any _ _ (m + 1) (by omega) (by omega) w2).mono ?_
      rintro e w3 ⟨rfl, b3⟩
      have B3 := Lib.hid (Ints.on B2.out b3)
      clear b3 s0 s1 f0 f1
      obtain ⟨y, hy⟩ : ∃ y, y = cs.getD i 0 := ⟨_, rfl⟩
      rw [← HX.out.2, ← hy]
      have HY := Lib.hid hy
      clear hy
      have ZA := Lib.hid (show (w3.alloc (.cells #[.int .i64 y] 3)).heap.size = w3.heap.size + 1 by simp)
      have O3 := Lib.hid (HO.out.below B3.out)
      have Z3 := Lib.hid (Nat.le_trans HZ.out B3.out.size)
      have LI : i + 1 ≤ 17592186044416 := by have := LN.out; omega
      go_wp2_with (
        at_builtin
        go_loud (
          refine wpList_append_ints rfl (.tmp 19) (.tmp 23) rfl (w.heap.size + 2) lc L (cs.take i) (O3.out.below (bel1 _ _)) (w3.heap.size + 1) (some ⟨w3.heap.size, 0, none⟩) 1 [y]
            (lone_at w3.heap.size _ _ (by simp)) (by rw [LTH.out]; rfl) rfl (by rw [LTH.out]; exact LI) (by have := Z3.out; have := ZA.out; omega) ?_
          intro A4 c4 w4 z4 hz4 own4 g4 r4
          have Z4 := Lib.hid (show z4 = cs.take (i + 1) by rw [hz4.out, HY.out, List.take_add_one, List.getD, List.getElem?_eq_getElem hlt]; rfl)
          have LZ := Lib.hid (show z4.length = i + 1 by rw [Z4.out, List.length_take]; omega)
          have K4 := Lib.hid (show Below wr.heap.size wr w4 ∨ True from .inr trivial)
          have N3 := bel1 w3 (.cells #[.int .i64 y] 3)
          have R4 : ∀ q, q < w.heap.size + 2 → w4.heap[q]? = wr.heap[q]? := fun q hq => by
            have h1 := Z3.out
            have h2 := HZ.out
            exact (g4.block q (by have := ZA.out; omega) (fun e => by have := O3.out.ge q e.symm; omega)).trans ((N3.block q (by omega)).trans (B3.out.block q (by omega)))
          have S4 : Hid (SB (w.heap.size + 1) (adv i (a, gm)) w4) := (R4 _ (by omega)).trans HS.out
          have G4' : Hid (G4 w.heap.size (.int .i64 g.kind) (.int .i64 g.a) (.int .i64 g.b) (.slice A g.subs.length c) w4) := (R4 _ (by omega)).trans HG.out
          have W4 := Lib.hid (((HW.out.trans (B3.out.mono HW.out.size)).trans (N3.mono (Nat.le_trans HW.out.size B3.out.size))).grown g4 (by have := Z3.out; have := ZA.out; omega) (fun q e => by have := O3.out.ge q e; omega))
          have O4 := Lib.hid own4
          have ZZ := Lib.hid (show w.heap.size + 2 ≤ w4.heap.size by have := g4.size; have := Z3.out; have := ZA.out; omega)
          clear own4 g4 r4 N3 R4 hz4
          obtain ⟨s0, s1, f0, f1⟩ := S4.out.facts))
      refine (step_any _ _ w4).mono ?_
      rintro e w5 ⟨rfl, b5⟩
      have B5 := Lib.hid b5
      clear b5 s0 s1 f0 f1
      have S5 : Hid (SB (w.heap.size + 1) (adv i (a, gm)) w5) := (B5.out.block _ S4.out.lt).trans S4.out
      obtain ⟨s0, s1, f0, f1⟩ := S5.out.facts
      have GR : ∀ (x y : Value), w5.grownBy ((w5.setCell ⟨w.heap.size + 1, 0, none⟩ x).setCell ⟨w.heap.size + 1, 1, none⟩ y) (some (w.heap.size + 1)) := fun x y => gr_set (gr_set (gr_refl _ w5) 0 x) 1 y
      have GR := Lib.hid GR
      go_wp2_with fail
      go_roundw
      case rel =>
        have h5 := B5.out.size
        refine ⟨i + 1, A4, c4, by omega, by rw [LZ.out], ?_, ?_, (W4.out.trans (B5.out.mono W4.out.size)).grown (GR.out _ _) (Nat.le_trans W4.out.size B5.out.size) (fun q e => by have e := Option.some.inj e; omega), ?_, ?_⟩
        · rw [← Z4.out]
          exact (O4.out.below B5.out).grown (GR.out _ _) (fun q e e2 => by have h := O4.out.ge q e; have e2 := Option.some.inj e2; omega)
        · rw [adv_add]
          exact S5.out.put _ _
        · have hl := G4'.out.lt
          exact ((GR.out _ _).block w.heap.size (by omega) (fun e => by have e := Option.some.inj e; omega)).trans ((B5.out.block w.heap.size hl).trans G4'.out)
        · have := (GR.out (.int .u64 (plus (adv i (a, gm)).1 (adv i (a, gm)).2)) (.int .u64 (adv i (a, gm)).2)).size
          have := ZZ.out
          show w.heap.size + 2 ≤ _
          omega
      case measure =>
        have := LZ.out
        simp only []
        omega
    · have hie : i = cs.length := by omega
      subst hie
      have hmm : mostG g (cs.take cs.length) cs.length = -1 := by rw [List.take_length]; exact ME.out
      rw [hmm] at M1
      have M1 := Lib.hid M1
      have LTH := Lib.hid LT
      clear LT hmm
      have gq : decide ((-1 : Int) ≥ 0) = false := by decide
      go_wp2_with fail
      refine M1.out.mono ?_
      rintro e w1 ⟨rfl, b1⟩
      have B1 := Lib.hid b1
      clear b1 k0 k1 k2 k3
      go_wp2_with fail
      go_ret
      have OE := HO.out.below B1.out
      rw [List.take_length] at OE
      exact ⟨L, lc, rfl, OE, HW.out.trans (B1.out.mono HW.out.size)⟩
end Go.Proofs.YtffkppjmdelajaaDoor.Gens

/- The program's Replay: its closure as a source of choices, that may panic. Conditions: the size of the list. -/
namespace Go.Proofs.YtffkppjmdelajaaDoor.Gens
open Go.RowKit Lists Ints Vals
set_option linter.unusedVariables false

set_option maxHeartbeats 1000000 in
set_option maxRecDepth 100000 in
theorem src_read (B p : Nat) : Src readC 75 #[.pointer (some ⟨p, 0, none⟩)] B (IL B p) := by
  refine ⟨fun s X w w' h hk hs => h.keep hk hs, fun s X w h => h.lt, read_bounded, fun args w => ?_, fun s X w m h0 h1 hI _ => ?_⟩
  · rfl
  · have HI := Lib.hid hI
    obtain ⟨hX, hBp, hsl, hBw, A, c, hbox, hat, hcap⟩ := hI
    have f0 := hbox.cell
    have f1 := hbox.free
    have HX := Lib.hid hX
    have HAT := Lib.hid hat
    have HBX := Lib.hid hbox
    have hp := hbox.lt
    clear hat hbox hX
    show Calls Tryd.prog 75 #[.int .i64 m, .pointer (some ⟨p, 0, none⟩)] w _
    cases s with
    | nil =>
      simp only [List.length_nil] at f0 hcap hsl
      go_enter Tryd.func75, Tryd.ntmps75
      go_wp2_with fail
      exact ⟨rfl, rfl, X, Mv.refl X w⟩
    | cons x r =>
      obtain ⟨b, off, rfl, hb, hc⟩ := HAT.out (by simp)
      have c0 : w.cell? ⟨b, off, none⟩ = some (.int .i64 x) := hc 0 (by simp)
      clear hc
      have g0 : (((r.length : Int) + 1) == 0) = false := by rw [beq_eq_false_iff_ne]; omega
      simp only [List.length_cons] at f0 hcap hsl
      by_cases hx0 : x < 0
      · have HR := Lib.hid (show readC (x :: r) m = .error 1 by unfold readC; simp only []; rw [if_neg (by omega)])
        have g1 : decide (x < 0) = true := by rw [decide_eq_true_eq]; exact hx0
        go_enter Tryd.func75, Tryd.ntmps75
        go_wp2_with fail
        refine ⟨rfl, ?_⟩
        show SPost _ (readC (x :: r) m) _ _ _ _
        rw [HR.out]
        exact ⟨rfl, X, Mv.refl X w⟩
      · have g1 : decide (x < 0) = false := by rw [decide_eq_false_iff_not]; exact hx0
        by_cases hxm : m < x
        · have HR := Lib.hid (show readC (x :: r) m = .error 1 by unfold readC; simp only []; rw [if_neg (by omega)])
          have g2 : decide (m < x) = true := by rw [decide_eq_true_eq]; exact hxm
          go_enter Tryd.func75, Tryd.ntmps75
          go_wp2_with fail
          refine ⟨rfl, ?_⟩
          show SPost _ (readC (x :: r) m) _ _ _ _
          rw [HR.out]
          exact ⟨rfl, X, Mv.refl X w⟩
        · have g2 : decide (m < x) = false := by rw [decide_eq_false_iff_not]; exact hxm
          have HR := Lib.hid (show readC (x :: r) m = .ok (x, r) by unfold readC; simp only []; rw [if_pos (by omega)])
          by_cases hc1 : c = 1
          · obtain rfl : r = [] := List.eq_nil_of_length_eq_zero (by omega)
            have ST := Lib.hid (IL.step (A' := some ⟨b, off, none⟩) (c' := 0) HX.out hBp hsl hBw HBX.out (r := []) At.nil (by simp))
            subst hc1
            simp only [List.length_nil] at f0
            go_enter Tryd.func75, Tryd.ntmps75
            go_wp2_with fail
            go_ret
            show SPost _ (readC [x] m) _ _ _ _
            rw [HR.out]
            exact ⟨rfl, X, ST.out.1, ST.out.2⟩
          · have ST := Lib.hid (IL.step (A' := some ⟨b, off + 1, none⟩) (c' := c - 1) HX.out hBp hsl hBw HBX.out (r := r) (At.tail HAT.out) (by omega))
            go_enter Tryd.func75, Tryd.ntmps75
            go_wp2_with fail
            go_ret
            show SPost _ (readC (x :: r) m) _ _ _ _
            rw [HR.out]
            exact ⟨rfl, X, ST.out.1, ST.out.2⟩
end Go.Proofs.YtffkppjmdelajaaDoor.Gens

/- The program's deferred closure in replay: a panic with an error's number is caught; else nothing. -/
namespace Go.Proofs.YtffkppjmdelajaaDoor.Gens
open Go.RowKit Go.ChangeShapes Go.WideShapes Lists Ints Vals
set_option linter.unusedVariables false

theorem assert_errno (er : Int) (w : World) : (Instr.typeAssert (.iface 30 (.int .i64 er)) 20 30 true).run Tryd.prog w = .ok (.tuple #[.int .i64 er, .bool true]) w := by
  unfold Instr.typeAssert
  simp [run_underlying Tryd.underlying30]
theorem slots17 (p v : Value) : #[p] ++ ((Array.replicate 16 undef).setIfInBounds 3 v).setIfInBounds 0 v = #[p, v, undef, undef, v, undef, undef, undef, undef, undef, undef, undef, undef, undef, undef, undef, undef] := rfl
set_option maxHeartbeats 1000000 in
theorem catch_panic (p : Addr) (x : Value) (older : List PanicEntry) (w : World) (hc : w.cell? p = some x) (hz : w.frozen? p = false) (er : Int) :
    CallsD Tryd.prog 74 #[.pointer (some p)] (.panicking ({ v := .iface 30 (.int .i64 er), recovered := false } :: older)) w fun e u' w' =>
      e = .returned (.tuple #[]) ∧ u' = .panicking ({ v := .iface 30 (.int .i64 er), recovered := true } :: older) ∧ w' = w.setCell p (.iface 30 (.int .i64 er)) := by
  have ha := assert_errno er w
  refine callsD_of_wpS Tryd.func74 rfl fun c₀ cs hu => ?_
  apply wpS_seq
  apply wpS_region
  simp [wpOpsS, go_sem, recoverD, hu, Tryd.ntmps74, Exit.thenS]
  rw [slots17]
  refine wpS_of_wp ?_
  have HU := Lib.hid hu
  clear hu
  go_wp2_with fail
  simp [bodyPostS, results, Tryd.results74]
set_option maxHeartbeats 1000000 in
theorem catch_idle (p : Addr) (w : World) :
    CallsD Tryd.prog 74 #[.pointer (some p)] .returning w fun e u' w' => e = .returned (.tuple #[]) ∧ u' = .returning ∧ w' = w := by
  refine callsD_of_wpS Tryd.func74 rfl fun c₀ cs hu => ?_
  apply wpS_seq
  apply wpS_region
  simp [wpOpsS, go_sem, recoverD, hu, Tryd.ntmps74, Exit.thenS]
  rw [slots17]
  refine wpS_of_wp ?_
  have HU := Lib.hid hu
  clear hu
  go_wp2_with fail
  cases c₀
  have HU := HU.out
  simp_all [bodyPostS, results, Tryd.results74]
end Go.Proofs.YtffkppjmdelajaaDoor.Gens

/- Plain laws: what Replay tells. No program. -/
namespace Go.Proofs.YtffkppjmdelajaaDoor.Gens
open Vals
set_option linter.unusedVariables false

theorem read_err {l : List Int} {m e : Int} (h : readC l m = .error e) : e = 1 ∨ e = 5 := by
  unfold readC at h
  split at h
  · injection h with h; omega
  · split at h
    · cases h
    · injection h with h; omega
theorem rep_err {f : List Int → Except Int (List Int × Tr × List Int)} (hf : ∀ s e, f s = .error e → e = 1 ∨ e = 5) : ∀ n s e, rep f n s = .error e → e = 1 ∨ e = 5
  | 0, s, e, h => by simp [rep] at h
  | n + 1, s, e, h => by
    simp only [rep] at h
    cases h1 : f s with
    | error e1 => rw [h1] at h; injection h with h; rw [← h]; exact hf s e1 h1
    | ok p =>
      obtain ⟨c1, v, s1⟩ := p
      rw [h1] at h
      cases h2 : rep f n s1 with
      | error e2 => simp only [h2] at h; injection h with h; rw [← h]; exact rep_err hf n s1 e2 h2
      | ok q => simp only [h2] at h; cases h
mutual
theorem play_err : ∀ (g : Gn) (s : List Int) (e : Int), play readC g s = .error e → e = 1 ∨ e = 5
  | .node k a b subs, s, e, h => by
    simp only [play] at h
    split at h
    · cases h
    · split at h
      · cases h1 : readC s (b - a) with
        | error e1 => rw [h1] at h; injection h with h; rw [← h]; exact read_err h1
        | ok p => rw [h1] at h; cases h
      · split at h
        · cases h1 : readC s (subs.length - 1) with
          | error e1 => rw [h1] at h; injection h with h; rw [← h]; exact read_err h1
          | ok p =>
            obtain ⟨x, s1⟩ := p
            simp only [h1] at h
            cases h2 : playAt readC subs x.toNat s1 with
            | error e2 => simp only [h2] at h; injection h with h; rw [← h]; exact at_err subs x.toNat s1 e2 h2
            | ok q => simp only [h2] at h; cases h
        · split at h
          · cases h1 : playAll readC subs s with
            | error e1 => simp only [h1] at h; injection h with h; rw [← h]; exact all_err subs s e1 h1
            | ok q => simp only [h1] at h; cases h
          · cases h1 : readC s a with
            | error e1 => rw [h1] at h; injection h with h; rw [← h]; exact read_err h1
            | ok p =>
              obtain ⟨x, s1⟩ := p
              simp only [h1] at h
              cases h2 : playRep readC subs x.toNat s1 with
              | error e2 => simp only [h2] at h; injection h with h; rw [← h]; exact rep_err' subs x.toNat s1 e2 h2
              | ok q => simp only [h2] at h; cases h
theorem at_err : ∀ (l : List Gn) n s e, playAt readC l n s = .error e → e = 1 ∨ e = 5
  | [], n, s, e, h => by simp [playAt] at h
  | g :: l, 0, s, e, h => by simp only [playAt] at h; exact play_err g s e h
  | g :: l, n + 1, s, e, h => by simp only [playAt] at h; exact at_err l n s e h
theorem all_err : ∀ (l : List Gn) s e, playAll readC l s = .error e → e = 1 ∨ e = 5
  | [], s, e, h => by simp [playAll] at h
  | g :: l, s, e, h => by
    simp only [playAll] at h
    cases h1 : play readC g s with
    | error e1 => rw [h1] at h; injection h with h; rw [← h]; exact play_err g s e1 h1
    | ok p =>
      obtain ⟨c1, v, s1⟩ := p
      simp only [h1] at h
      cases h2 : playAll readC l s1 with
      | error e2 => simp only [h2] at h; injection h with h; rw [← h]; exact all_err l s1 e2 h2
      | ok q => simp only [h2] at h; cases h
theorem rep_err' : ∀ (l : List Gn) n s e, playRep readC l n s = .error e → e = 1 ∨ e = 5
  | [], n, s, e, h => by simp [playRep] at h
  | g :: l, n, s, e, h => by simp only [playRep] at h; exact rep_err (fun s e h => play_err g s e h) n s e h
end
/-- what Replay tells of a right generator -/
def repG (t : Gn) (l : List Int) : Except Int Tr := match play readC t l with
  | .ok (_, v, r) => if r = [] then .ok v else .error 3
  | .error e => .error e
/-- what Replay tells -/
def repV (t : Gn) (l : List Int) : Except Int Tr := if genV t = 0 then repG t l else .error (genV t)
def trOf (r : Except Int Tr) : Tr := match r with | .ok v => v | .error _ => .node false 0 []
def errI (r : Except Int Tr) : Int := match r with | .ok _ => 0 | .error e => e
end Go.Proofs.YtffkppjmdelajaaDoor.Gens
