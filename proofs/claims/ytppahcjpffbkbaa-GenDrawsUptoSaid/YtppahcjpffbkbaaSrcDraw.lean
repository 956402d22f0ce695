/- The program's Draw: its closure as a source of choices; what Draw tells. Conditions: none but the generator's size. -/
import Derived.Test.YtppahcjpffbkbaaGMend
import Derived.Test.YtppahcjpffbkbaaMath
namespace Go.Proofs.Ytppahcjpffbkbaa.Gens
open Go.RowKit Lists Ints Vals Rng
set_option linter.unusedVariables false

/-- a random choice -/
def drawC (s : Int × Int) (m : Int) : Except Int (Int × (Int × Int)) := if m ≤ 1000 then .ok (belowK s.1 s.2 (m + 1), (plus s.1 s.2, s.2)) else .ok (0, s)
theorem draw_bounded : Bounded drawC := by
  intro s m x s' h0 h
  unfold drawC at h
  split at h
  · simp only [Except.ok.injEq, Prod.mk.injEq] at h
    have := belowK_bounds s.1 s.2 (m + 1) (by omega) (by omega)
    omega
  · simp only [Except.ok.injEq, Prod.mk.injEq] at h
    omega
theorem draw_total : Total drawC := fun s m _ => by unfold drawC; split <;> exact ⟨_, _, rfl⟩
/-- the box of a seed -/
def SB (p : Nat) (s : Int × Int) (w : World) : Prop := w.heap[p]? = some (.cells #[.int .u64 s.1, .int .u64 s.2] 27 (0, 0))
theorem SB.facts {p : Nat} {s : Int × Int} {w : World} (h : SB p s w) : w.cell? ⟨p, 0, none⟩ = some (.int .u64 s.1) ∧ w.cell? ⟨p, 1, none⟩ = some (.int .u64 s.2) ∧ w.frozen? ⟨p, 0, none⟩ = false ∧ w.frozen? ⟨p, 1, none⟩ = false :=
  ⟨by rw [Lib.cell_of_heap h]; rfl, by rw [Lib.cell_of_heap h]; rfl, Lib.frozen_of_heap h 0, Lib.frozen_of_heap h 1⟩
theorem SB.lt {p : Nat} {s : Int × Int} {w : World} (h : SB p s w) : p < w.heap.size := (Array.getElem?_eq_some_iff.1 h).1
theorem SB.put {p : Nat} {s : Int × Int} {w : World} (h : SB p s w) (a g : Int) : SB p (a, g) ((w.setCell ⟨p, 0, none⟩ (.int .u64 a)).setCell ⟨p, 1, none⟩ (.int .u64 g)) := by
  unfold SB at h ⊢
  simp [World.setCell, Array.getElem?_modify, h]
def IS (B p : Nat) (s : Int × Int) (X : Nat → Prop) (w : World) : Prop := (∀ b, X b ↔ b = p) ∧ B ≤ p ∧ B ≤ w.heap.size ∧ SB p s w

set_option maxHeartbeats 1000000 in
set_option maxRecDepth 100000 in
theorem src_draw (B p : Nat) : Src drawC 19 #[.pointer (some ⟨p, 0, none⟩)] B (IS B p) := by
  refine ⟨fun s X w w' h hk hs => ?_, fun s X w h => ?_, draw_bounded, fun args w => ?_, fun s X w m h0 h1 hI _ => ?_⟩
  · obtain ⟨h1, h2, h3, h4⟩ := h
    exact ⟨h1, h2, Nat.le_trans h3 hs, (hk p (.inr ((h1 p).2 rfl))).trans h4⟩
  · obtain ⟨h1, h2, h3, h4⟩ := h
    exact ⟨h3, fun b hb => by rw [h1] at hb; subst hb; exact ⟨h2, h4.lt⟩⟩
  · rfl
  · obtain ⟨a, g⟩ := s
    obtain ⟨hX, hBp, hBw, hbox⟩ := hI
    have HX := Lib.hid hX
    have HBX := Lib.hid hbox
    obtain ⟨f0, f1, _, _⟩ := hbox.facts
    simp only at f0 f1
    have CB := Lib.hid (below_ok a g (m + 1) (by omega) (by omega) w)
    have HR := Lib.hid (show drawC (a, g) m = .ok (belowK a g (m + 1), (plus a g, g)) by unfold drawC; rw [if_pos h1])
    clear hX hbox
    show Calls Try.prog 19 #[.int .i64 m, .pointer (some ⟨p, 0, none⟩)] w _
    go_enter Try.func19, Try.ntmps19
    go_wp2_with fail
    refine CB.out.mono ?_
    rintro e w1 ⟨rfl, hb⟩
    have HB1 := Lib.hid (show SB p (a, g) w1 from (hb.block p HBX.out.lt).trans HBX.out)
    have BB := Lib.hid hb
    clear hb CB f0 f1
    obtain ⟨f0, f1, z0, z1⟩ := HB1.out.facts
    simp only at f0 f1
    generalize belowK a g (m + 1) = x at *
    go_wp2_with fail
    go_ret
    show SPost _ (drawC (a, g) m) _ _ _ _
    rw [HR.out]
    refine ⟨rfl, X, ⟨HX.out, hBp, by have := BB.out.size; simp [World.setCell]; omega, HB1.out.put _ _⟩, ?_⟩
    refine ⟨BB.out.os, BB.out.tape, BB.out.output, by have := BB.out.size; simp [World.setCell]; omega, fun b hb hx => ?_, fun b hb => .inl hb⟩
    have hne : b ≠ p := fun e => hx ((HX.out b).2 e)
    exact (Below.heap_setCell _ ⟨p, 1, none⟩ _ b hne).trans ((Below.heap_setCell _ ⟨p, 0, none⟩ _ b hne).trans (BB.out.block b hb))

/-- what Draw tells -/
def drawL (t : Gn) (s : Int × Int) : List Int := if genV t = 0 then (match play drawC t s with | .ok (c, _, _) => c | .error _ => []) else []
theorem draw_run {t : Gn} (s : Int × Int) (h0 : genV t = 0) : ∃ v r, play drawC t s = .ok (drawL t s, v, r) ∧ (drawL t s).length ≤ 1399680 := by
  obtain ⟨hr, hl⟩ := gen_right h0
  obtain ⟨c, v, r, h⟩ := play_total draw_total t hr s
  have e : drawL t s = c := by unfold drawL; rw [if_pos h0, h]
  exact ⟨v, r, by rw [e, h], by rw [e]; exact Nat.le_trans (play_long draw_bounded t hr s c v r h) (small_long hl)⟩

set_option maxHeartbeats 2000000 in
set_option maxRecDepth 100000 in
theorem draw_prog {n : Nat} {t : Gn} {v : Value} {a g : Int} (w : World) (h : GAt w (GBel w.heap.size) n v t) (hsz : t.size ≤ 4294967296) :
    Calls Try.prog 8 #[v, .agg #[.int .u64 a, .int .u64 g]] w fun e w' => ∃ (A' : Option Addr) (c' : Nat), e = .returned (.tuple #[.slice A' (drawL t (a, g)).length c', errOf (genV t)]) ∧ Own w' w.heap.size A' c' (drawL t (a, g)) ∧ Below w.heap.size w w' := by
  obtain ⟨m, A, c, e, hw, rfl, _⟩ := h.open_
  have b1 : Below w.heap.size w ((w.alloc (gc t A c)).alloc (.cells #[.int .u64 a, .int .u64 g] 27)) := ((Below.refl _ _).alloc (Nat.le_refl _) _).alloc (by simp) _
  have s1 : (w.alloc (gc t A c)).heap.size = w.heap.size + 1 := by simp
  have g1 : G4 w.heap.size (.int .i64 t.kind) (.int .i64 t.a) (.int .i64 t.b) (.slice A t.subs.length c) ((w.alloc (gc t A c)).alloc (.cells #[.int .u64 a, .int .u64 g] 27)) := (Below.heap_alloc _ _ _ (by omega)).trans (new_obj w _)
  have l1 : SB (w.heap.size + 1) (a, g) ((w.alloc (gc t A c)).alloc (.cells #[.int .u64 a, .int .u64 g] 27)) := by
    have := new_obj (w.alloc (gc t A c)) (.cells #[.int .u64 a, .int .u64 g] 27)
    rw [s1] at this; exact this
  have z1 : ((w.alloc (gc t A c)).alloc (.cells #[.int .u64 a, .int .u64 g] 27)).heap.size = w.heap.size + 2 := by simp
  have C1 := gcheck _ (h.below b1) (by simp; omega) hsz
  have HB := Lib.hid (And.intro b1 (And.intro g1 (And.intro l1 z1)))
  have HT := Lib.hid h
  clear h hsz e hw b1 s1 g1 l1 z1
  by_cases hz : genV t = 0
  · obtain ⟨v', r, hp, hlen⟩ := draw_run (a, g) hz
    have HR := Lib.hid (And.intro (gen_right hz).1 (And.intro (small30 hz) (And.intro hp hlen)))
    rw [hz, errOf_ok] at C1 ⊢
    have C1 := Lib.hid C1
    clear hz hp hlen
    generalize drawL t (a, g) = cs at HR ⊢
    go_enter Try.func8, Try.ntmps8
    go_wp2_with fail
    generalize (w.alloc (gc t A c)).alloc (.cells #[.int .u64 a, .int .u64 g] 27) = W1 at *
    refine C1.out.mono ?_
    rintro e w2 ⟨rfl, hb2⟩
    have B2 := Lib.hid (HB.out.1.trans (hb2.mono HB.out.1.size))
    obtain ⟨k0, k1, k2, k3⟩ := (HB.out.2.1.below hb2).facts
    have IS0 := Lib.hid (show IS w.heap.size (w.heap.size + 1) (a, g) (fun b => b = w.heap.size + 1) w2 from ⟨fun b => Iff.rfl, by omega, B2.out.size, (hb2.block _ HB.out.2.2.1.lt).trans HB.out.2.2.1⟩)
    have RC := record_ok (src_draw w.heap.size (w.heap.size + 1)) (HT.out.below B2.out) HR.out.1 HR.out.2.1 IS0.out HR.out.2.2.1 (by have := HR.out.2.2.2; omega)
    have RC := Lib.hid RC
    clear hb2 C1
    go_wp2_with fail
    refine RC.out.mono ?_
    rintro e w3 ⟨A', c', X', rfl, hown, hmv⟩
    have HO := Lib.hid (own_less hown B2.out.size)
    have B3 := Lib.hid (B2.out.trans (Mv.below hmv (fun b hb => by show w.heap.size ≤ b; have : b = w.heap.size + 1 := hb; omega) B2.out.size))
    clear hown hmv RC
    go_wp2_with fail
    go_ret2
    exact ⟨A', c', rfl, HO.out, B3.out⟩
  · have RE := Lib.hid (errOf_no hz)
    have HL := Lib.hid (show drawL t (a, g) = [] by unfold drawL; rw [if_neg hz])
    rw [errOf_no hz] at C1
    generalize genV t = q at C1 RE
    have C1 := Lib.hid C1
    clear hz
    go_enter Try.func8, Try.ntmps8
    go_wp2_with fail
    generalize (w.alloc (gc t A c)).alloc (.cells #[.int .u64 a, .int .u64 g] 27) = W1 at *
    refine C1.out.mono ?_
    rintro e w2 ⟨rfl, hb2⟩
    have B2 := Lib.hid (HB.out.1.trans (hb2.mono HB.out.1.size))
    clear hb2
    go_wp2_with fail
    go_ret2
    exact ⟨none, 0, by rw [HL.out, RE.out]; rfl, by rw [HL.out]; exact Own.none, B2.out⟩
end Go.Proofs.Ytppahcjpffbkbaa.Gens
