/- What the walks of the statements on expressions share: the boxes; Eval and Fails as each answers. Conditions: the sizes; the program's table. -/
import Derived.Test.YtffkppjmdelajaaDoorExMake
import Derived.Test.YtffkppjmdelajaaDoorExLawL
namespace Go.Proofs.YtffkppjmdelajaaDoor.Exprs
open Go.RowKit Go.ChangeShapes Go.WideShapes Lists Gens Rng Vals
set_option linter.unusedVariables false

/-- an error of the program's, of its number, one of two ways -/
def EI (E : Value) (f : Int) : Prop := (f = 0 ∧ E = .nilIface) ∨ ∃ q : Int, q ≠ 0 ∧ f = q ∧ E = .iface 30 (.int .i64 q)
theorem ei_of (f : Int) : EI (errOf f) f := by
  by_cases h : f = 0
  · exact .inl ⟨h, by rw [h]; rfl⟩
  · exact .inr ⟨f, h, rfl, errOf_no h⟩
def EvPost (g : Gn) (t : Tr) (w : World) (e : Ending) (w' : World) : Prop := ∃ (x : Int) (E : Value), e = .returned (.tuple #[.int .i64 x, E]) ∧ Hid (x = evalN g t) ∧ Hid (EI E (evalF g t)) ∧ Below w.heap.size w w'
def FaPost (g : Gn) (t : Tr) (w : World) (e : Ending) (w' : World) : Prop := ∃ (x : Bool) (E : Value), e = .returned (.tuple #[.bool x, E]) ∧ Hid (x = failB g t) ∧ Hid (EI E (failF g t)) ∧ Below w.heap.size w w'
theorem eval_ei {n m c vcp B : Nat} {A VA : Option Addr} {g : Gn} {t : Tr} (w : World) (h : EAt w (EBel B) n (ev g A c) g) (hv : TAt w (Bel B) m (vv t VA vcp) t) (hB : B ≤ w.heap.size) (hsz : g.size ≤ 4294967296) (hs : t.size ≤ 1073741824) (hsub : Subs w) :
    Calls Tryd.prog 34 #[ev g A c, vv t VA vcp] w (EvPost g t w) :=
  (eval_any w h hv hB hsz hs hsub).mono fun e w' ⟨h1, h2⟩ => ⟨_, _, h1, rfl, ei_of _, h2⟩
theorem fails_ei {n m c vcp B : Nat} {A VA : Option Addr} {g : Gn} {t : Tr} (w : World) (h : EAt w (EBel B) n (ev g A c) g) (hv : TAt w (Bel B) m (vv t VA vcp) t) (hB : B ≤ w.heap.size) (hsz : g.size ≤ 4294967296) (hs : t.size ≤ 1073741824) (hsub : Subs w) :
    Calls Tryd.prog 35 #[ev g A c, vv t VA vcp] w (FaPost g t w) :=
  (fails_any w h hv hB hsz hs hsub).mono fun e w' ⟨h1, h2⟩ => ⟨_, _, h1, rfl, ei_of _, h2⟩

/-! boxes of three cells -/
def C3 (b : Nat) (x0 x1 x2 : Value) (w : World) : Prop := w.cell? ⟨b, 0, none⟩ = some x0 ∧ w.cell? ⟨b, 1, none⟩ = some x1 ∧ w.cell? ⟨b, 2, none⟩ = some x2
theorem C3.later {b : Nat} {x0 x1 x2 : Value} {w w' : World} (h : C3 b x0 x1 x2 w) (hb : Below w.heap.size w w') : C3 b x0 x1 x2 w' := ⟨cell_later hb h.1, cell_later hb h.2.1, cell_later hb h.2.2⟩
theorem c3_new (w : World) (x0 x1 x2 : Value) (T : TypeId) : C3 w.heap.size x0 x1 x2 (w.alloc (.cells #[x0, x1, x2] T)) := ebox w _ T x0 x1 x2 (Below.refl _ _)
theorem boxes2 (w : World) (a0 a1 a2 b0 b1 b2 : Value) (T U : TypeId) : let W := (w.alloc (.cells #[a0, a1, a2] T)).alloc (.cells #[b0, b1, b2] U)
    (C3 w.heap.size a0 a1 a2 W ∧ C3 (w.heap.size + 1) b0 b1 b2 W) ∧ Below w.heap.size w W := by
  intro W
  have k1 := c3_new w a0 a1 a2 T
  have k2 := c3_new (w.alloc (.cells #[a0, a1, a2] T)) b0 b1 b2 U
  simp only [World.size_alloc] at k2
  have s1 : Below (w.alloc (.cells #[a0, a1, a2] T)).heap.size (w.alloc (.cells #[a0, a1, a2] T)) W := (Below.refl _ _).alloc (Nat.le_refl _) _
  exact ⟨⟨k1.later s1, k2⟩, on ((Below.refl _ _).alloc (Nat.le_refl _) _) s1⟩
theorem boxes3 (w : World) (a0 a1 a2 b0 b1 b2 d0 d1 d2 : Value) (T U V : TypeId) : let W := ((w.alloc (.cells #[a0, a1, a2] T)).alloc (.cells #[b0, b1, b2] U)).alloc (.cells #[d0, d1, d2] V)
    (C3 w.heap.size a0 a1 a2 W ∧ C3 (w.heap.size + 1) b0 b1 b2 W ∧ C3 (w.heap.size + 1 + 1) d0 d1 d2 W) ∧ Below w.heap.size w W := by
  intro W
  have k1 := c3_new w a0 a1 a2 T
  have k2 := c3_new (w.alloc (.cells #[a0, a1, a2] T)) b0 b1 b2 U
  have k3 := c3_new ((w.alloc (.cells #[a0, a1, a2] T)).alloc (.cells #[b0, b1, b2] U)) d0 d1 d2 V
  simp only [World.size_alloc] at k2 k3
  have s1 : Below (w.alloc (.cells #[a0, a1, a2] T)).heap.size (w.alloc (.cells #[a0, a1, a2] T)) ((w.alloc (.cells #[a0, a1, a2] T)).alloc (.cells #[b0, b1, b2] U)) := (Below.refl _ _).alloc (Nat.le_refl _) _
  have s2 : Below ((w.alloc (.cells #[a0, a1, a2] T)).alloc (.cells #[b0, b1, b2] U)).heap.size ((w.alloc (.cells #[a0, a1, a2] T)).alloc (.cells #[b0, b1, b2] U)) W := (Below.refl _ _).alloc (Nat.le_refl _) _
  exact ⟨⟨(k1.later s1).later s2, k2.later s2, k3⟩, on (on ((Below.refl _ _).alloc (Nat.le_refl _) _) s1) s2⟩
theorem boxes4 (w : World) (a0 a1 a2 b0 b1 b2 d0 d1 d2 e0 e1 e2 : Value) (T U V X : TypeId) : let W := (((w.alloc (.cells #[a0, a1, a2] T)).alloc (.cells #[b0, b1, b2] U)).alloc (.cells #[d0, d1, d2] V)).alloc (.cells #[e0, e1, e2] X)
    (C3 w.heap.size a0 a1 a2 W ∧ C3 (w.heap.size + 1) b0 b1 b2 W ∧ C3 (w.heap.size + 1 + 1) d0 d1 d2 W ∧ C3 (w.heap.size + 1 + 1 + 1) e0 e1 e2 W) ∧ Below w.heap.size w W := by
  intro W
  obtain ⟨⟨k1, k2, k3⟩, hb⟩ := boxes3 w a0 a1 a2 b0 b1 b2 d0 d1 d2 T U V
  have k4 := c3_new (((w.alloc (.cells #[a0, a1, a2] T)).alloc (.cells #[b0, b1, b2] U)).alloc (.cells #[d0, d1, d2] V)) e0 e1 e2 X
  simp only [World.size_alloc] at k4
  have s : Below (((w.alloc (.cells #[a0, a1, a2] T)).alloc (.cells #[b0, b1, b2] U)).alloc (.cells #[d0, d1, d2] V)).heap.size (((w.alloc (.cells #[a0, a1, a2] T)).alloc (.cells #[b0, b1, b2] U)).alloc (.cells #[d0, d1, d2] V)) W := (Below.refl _ _).alloc (Nat.le_refl _) _
  exact ⟨⟨k1.later s, k2.later s, k3.later s, k4⟩, on hb s⟩
/-! numbers of 64 bits -/
theorem ewf_b {x : Int} (h : EWf x) : B64 x := by have := ei64_wf h; unfold Lists.I64 at this; exact this
theorem eat_b {w : World} {S : Nat → Prop} : ∀ {n : Nat} {v : Value} {g : Gn}, EAt w S n v g → gI g
  | 0, _, _, h => h.elim
  | n + 1, v, g, h => by
    obtain ⟨⟨_, ha⟩, A, c, rfl, _, hit⟩ := h
    cases g with | node k a b s =>
    refine ⟨ewf_b ha, gIs_mem fun x hx => ?_⟩
    obtain ⟨j, hj, rfl⟩ := List.mem_iff_getElem.1 hx
    obtain ⟨_, _, _, _, hc⟩ := hit (show 0 < s.length by omega)
    obtain ⟨_, _, _, _, _, _, ht⟩ := hc j hj
    exact eat_b ht
theorem tat_b {w : World} {S : Nat → Prop} : ∀ {n : Nat} {v : Value} {t : Tr}, TAt w S n v t → tI t
  | 0, _, _, h => h.elim
  | n + 1, v, t, h => by
    obtain ⟨ha, A, c, rfl, hit⟩ := h
    cases t with | node l x s =>
    refine ⟨ewf_b ha, tIs_mem fun y hy => ?_⟩
    obtain ⟨j, hj, rfl⟩ := List.mem_iff_getElem.1 hy
    obtain ⟨_, _, _, _, hc⟩ := hit (show 0 < s.length by omega)
    obtain ⟨_, _, _, _, _, _, ht⟩ := hc j hj
    exact tat_b ht
/-! of any value that lies there -/
theorem not_w {n B : Nat} {v : Value} {x : Gn} (w : World) (h : EAt w (EBel B) n v x) (hB : B ≤ w.heap.size) : Calls Tryd.prog 36 #[v] w (Made 9 [x] n w) := by
  obtain ⟨m, A, c, _, _, rfl, _⟩ := h.open_
  exact not_ok w h hB
theorem both_w {n B : Nat} {v u : Value} {x y : Gn} (k : Int) (hk : EWf k) (w : World) (h : EAt w (EBel B) n v x) (h' : EAt w (EBel B) n u y) (hB : B ≤ w.heap.size) : Calls Tryd.prog 37 #[.int .i64 k, v, u] w (Made k [x, y] n w) := by
  obtain ⟨_, A, c, _, _, rfl, _⟩ := h.open_
  obtain ⟨_, D, d, _, _, rfl, _⟩ := h'.open_
  exact both_ok k hk w h h' hB
theorem both6_w {n B : Nat} {v u : Value} {x y : Gn} (k : Int) (hk : EWf k) (w : World) (h : EAt w (EBel B) n v x) (h' : EAt w (EBel B) n u y) (hB : B ≤ w.heap.size) : Calls Tryd.prog 38 #[.int .i64 k, v, u] w (Made k [x, y] n w) := by
  obtain ⟨_, A, c, _, _, rfl, _⟩ := h.open_
  obtain ⟨_, D, d, _, _, rfl, _⟩ := h'.open_
  exact both6_ok k hk w h h' hB
theorem eval_w {n m B : Nat} {v u : Value} {g : Gn} {t : Tr} (w : World) (h : EAt w (EBel B) n v g) (hv : TAt w (Bel B) m u t) (hB : B ≤ w.heap.size) (hsz : g.size ≤ 4294967296) (hs : t.size ≤ 1073741824) (hsub : Subs w) : Calls Tryd.prog 34 #[v, u] w (EvPost g t w) := by
  obtain ⟨_, A, c, _, _, rfl, _⟩ := h.open_
  obtain ⟨_, D, d, _, _, rfl, _⟩ := hv.open_
  exact eval_ei w h hv hB hsz hs hsub
theorem fails_w {n m B : Nat} {v u : Value} {g : Gn} {t : Tr} (w : World) (h : EAt w (EBel B) n v g) (hv : TAt w (Bel B) m u t) (hB : B ≤ w.heap.size) (hsz : g.size ≤ 4294967296) (hs : t.size ≤ 1073741824) (hsub : Subs w) : Calls Tryd.prog 35 #[v, u] w (FaPost g t w) := by
  obtain ⟨_, A, c, _, _, rfl, _⟩ := h.open_
  obtain ⟨_, D, d, _, _, rfl, _⟩ := hv.open_
  exact fails_ei w h hv hB hsz hs hsub
theorem ei_one {E : Value} {f : Int} {P : Prop} (h : EI E f) (hp : f = 0 → P) : (E = .nilIface ∧ P) ∨ ∃ q : Int, E = .iface 30 (.int .i64 q) := by
  rcases h with ⟨h, rfl⟩ | ⟨q, _, _, rfl⟩
  · exact .inl ⟨rfl, hp h⟩
  · exact .inr ⟨q, rfl⟩
theorem ei_two {E E' : Value} {f f' : Int} {P : Prop} (h : EI E f) (h' : EI E' f') (hp : f = 0 → f' = 0 → P) : (E = .nilIface ∧ E' = .nilIface ∧ P) ∨ (E = .nilIface ∧ ∃ q : Int, E' = .iface 30 (.int .i64 q)) ∨ ∃ q : Int, E = .iface 30 (.int .i64 q) := by
  rcases h with ⟨h, rfl⟩ | ⟨q, _, _, rfl⟩
  · rcases h' with ⟨h', rfl⟩ | ⟨q, _, _, rfl⟩
    · exact .inl ⟨rfl, rfl, hp h h'⟩
    · exact .inr (.inl ⟨rfl, q, rfl⟩)
  · exact .inr (.inr ⟨q, rfl⟩)
end Go.Proofs.YtffkppjmdelajaaDoor.Exprs
