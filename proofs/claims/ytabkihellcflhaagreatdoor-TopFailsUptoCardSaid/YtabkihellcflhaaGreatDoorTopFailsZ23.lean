/- TopFails, part 23 of the proof: The walk to a tape none of whose candidates fails. The mathematics. No program. · Expressions (two numbers, subs) as trees (of generators, of which the last number is of no matter): how they lie in memory, and what an argument reads as. -/
import Derived.Test.YtabkihellcflhaaGreatDoorTopFailsZ20
import Derived.Test.YtabkihellcflhaaGreatDoorTopFailsZ22
import Derived.Test.YtabkihellcflhaaGreatDoorTopFailsZ1
import Derived.Test.YtabkihellcflhaaGreatDoorTopFailsZ3
import Derived.Lib.Bytealg
import Derived.Lib.Walk
import Derived.Lib.BufferWrite
import Derived.Deep.Slices
import Derived.Deep.Fields
import Derived.Lib.SmallJoins
/- The walk to a tape none of whose candidates fails. The mathematics. No program. -/
namespace Go.Proofs.YtabkihellcflhaaGreatDoor.Gens
open Go.RowKit Lists Ints Vals Exprs
set_option linter.unusedVariables false

/-- does what a tape makes fail? -/
def badT (t x : Gn) (l : List Int) : Bool := match repV t l with
  | .ok v => badN (numE v x)
  | .error _ => false
theorem badT_ok {t x : Gn} {l : List Int} (h : badT t x l = true) : roseE t l = 0 := by
  unfold badT at h
  unfold roseE
  cases e : repV t l with
  | ok v => rfl
  | error q => rw [e] at h; cases h
/-- the first candidate that fails -/
def stepT (t x : Gn) (l : List Int) : Option (List Int) := (roseL t l).find? (badT t x)
/-- the walk, of at most so many steps: where it ends, and the steps -/
def walkN (t x : Gn) : Nat → List Int → List Int × Nat
  | 0, l => (l, 0)
  | n + 1, l => match stepT t x l with
    | none => (l, 0)
    | some y => ((walkN t x n y).1, (walkN t x n y).2 + 1)
def walkT (t x : Gn) (l : List Int) : List Int × Nat := walkN t x (measL l) l
theorem step_some {t x : Gn} {l y : List Int} (h : stepT t x l = some y) : y ∈ roseL t l ∧ badT t x y = true := ⟨List.mem_of_find?_eq_some h, List.find?_some h⟩
theorem step_facts {t x : Gn} {l y : List Int} (hl : roseE t l = 0) (h : stepT t x l = some y) : measL y < measL l ∧ roseE t y = 0 ∧ badT t x y = true ∧ lessL y l = true := by
  obtain ⟨h1, h2⟩ := step_some h
  exact ⟨rose_meas (rep_facts hl).1 (fun a ha => ((rep_facts hl).2.2 a ha).1) h1, badT_ok h2, h2, (rose_mem h1).2⟩
/-- more steps than are needed change nothing -/
theorem walkN_more {t x : Gn} : ∀ (n m : Nat) (l : List Int), roseE t l = 0 → measL l ≤ n → measL l ≤ m → walkN t x n l = walkN t x m l
  | 0, 0, l, _, _, _ => rfl
  | 0, m + 1, l, hl, hn, _ => by
    unfold walkN
    cases h : stepT t x l with
    | none => rfl
    | some y => have := (step_facts hl h).1; omega
  | n + 1, 0, l, hl, _, hm => by
    unfold walkN
    cases h : stepT t x l with
    | none => rfl
    | some y => have := (step_facts hl h).1; omega
  | n + 1, m + 1, l, hl, hn, hm => by
    unfold walkN
    cases h : stepT t x l with
    | none => rfl
    | some y =>
      obtain ⟨h1, h2, _⟩ := step_facts hl h
      simp only
      rw [walkN_more n m y h2 (by omega) (by omega)]
theorem walk_stop {t x : Gn} {l : List Int} (hl : roseE t l = 0) (h : stepT t x l = none) : walkT t x l = (l, 0) := by
  rw [walkT, walkN_more (measL l) (measL l + 1) l hl (Nat.le_refl _) (by omega)]
  unfold walkN
  rw [h]
theorem walk_step {t x : Gn} {l y : List Int} (hl : roseE t l = 0) (h : stepT t x l = some y) : walkT t x l = ((walkT t x y).1, (walkT t x y).2 + 1) := by
  obtain ⟨h1, h2, _⟩ := step_facts hl h
  rw [walkT, walkN_more (measL l) (measL l + 1) l hl (Nat.le_refl _) (by omega)]
  conv => lhs; unfold walkN
  rw [h]
  simp only
  rw [walkT, walkN_more (measL l) (measL y) y h2 (by omega) (Nat.le_refl _)]
/-- what the walk comes to -/
theorem walk_facts {t x : Gn} : ∀ (n : Nat) (l : List Int), measL l ≤ n → roseE t l = 0 → badT t x l = true →
    roseE t (walkT t x l).1 = 0 ∧ badT t x (walkT t x l).1 = true ∧ stepT t x (walkT t x l).1 = none ∧ (walkT t x l).2 ≤ measL l ∧ ((walkT t x l).2 = 0 → (walkT t x l).1 = l) ∧ ((walkT t x l).2 ≠ 0 → lessL (walkT t x l).1 l = true)
  | n, l, hn, hl, hb => by
    cases h : stepT t x l with
    | none =>
      rw [walk_stop hl h]
      exact ⟨hl, hb, h, Nat.zero_le _, fun _ => rfl, fun h => absurd rfl h⟩
    | some y =>
      obtain ⟨h1, h2, h3, h4⟩ := step_facts hl h
      cases n with
      | zero => omega
      | succ n =>
        obtain ⟨r1, r2, r3, r4, r5, r6⟩ := walk_facts n y (by omega) h2 h3
        rw [walk_step hl h]
        refine ⟨r1, r2, r3, ?_, fun h => by simp at h, fun _ => ?_⟩
        · show (walkT t x y).2 + 1 ≤ measL l
          omega
        · show lessL (walkT t x y).1 l = true
          by_cases e : (walkT t x y).2 = 0
          · rw [r5 e]; exact h4
          · exact lessL_trans _ _ _ (r6 e) h4
theorem meas_bound {t : Gn} {l : List Int} (hl : roseE t l = 0) : measL l ≤ 1401079680 := by
  obtain ⟨_, h1, h2⟩ := rep_facts hl
  have h3 : ∀ l : List Int, (∀ x ∈ l, 0 ≤ x ∧ x ≤ 1000) → totL l ≤ 1000 * l.length := by
    intro l
    induction l with
    | nil => intro _; simp [totL]
    | cons a l ih =>
      intro h
      have := ih (fun x hx => h x (by simp [hx]))
      have := h a (by simp)
      rw [tot_cons, List.length_cons]
      omega
  have := h3 l h2
  unfold measL
  omega
/-- none of the candidates fails -/
theorem none_fails {t x : Gn} {l : List Int} (h : stepT t x l = none) : ∀ y ∈ roseL t l, badT t x y = false := fun y hy => by
  have := List.find?_eq_none.1 h y hy
  simpa using this
end Go.Proofs.YtabkihellcflhaaGreatDoor.Gens

/- Expressions (two numbers, subs) as trees (of generators, of which the last number is of no matter): how they lie in memory, and what an argument reads as. -/
namespace Go.Proofs.YtabkihellcflhaaGreatDoor.Exprs
open Go.RowKit Go.WideShapes Go.ChangeShapes Go.Deep Go.Joins Gens
set_option linter.unusedVariables false

abbrev ev (t : Gn) (A : Option Addr) (c : Nat) : Value := .agg #[.int .i64 t.kind, .int .i64 t.a, .slice A t.subs.length c]
abbrev EWf (x : Int) : Prop := (Lit.int .i64 x).wf = true
abbrev ec (t : Gn) (A : Option Addr) (c : Nat) : Obj := .cells #[.int .i64 t.kind, .int .i64 t.a, .slice A t.subs.length c] 27

/-- In world w, in blocks of S, the value v is the generator t of at most so many levels. -/
def EAt (w : World) (S : Nat → Prop) : Nat → Value → Gn → Prop
  | 0, _, _ => False
  | n + 1, v, t => (EWf t.kind ∧ EWf t.a) ∧ ∃ A c, v = ev t A c ∧ t.subs.length ≤ c ∧
      (0 < t.subs.length → ∃ b off, A = some ⟨b, off, none⟩ ∧ S b ∧ ∀ j (h : j < t.subs.length), ∃ x0 x1 x2, w.cell? ⟨b, off + j * 3, none⟩ = some x0 ∧ w.cell? ⟨b, off + j * 3 + 1, none⟩ = some x1 ∧ w.cell? ⟨b, off + j * 3 + 2, none⟩ = some x2 ∧ EAt w S n (.agg #[x0, x1, x2]) (t.subs[j]'h))

theorem EAt.keep {w w' : World} {S S' : Nat → Prop} (hk : ∀ b, S b → S' b ∧ ∀ o, w'.cell? ⟨b, o, none⟩ = w.cell? ⟨b, o, none⟩) : ∀ {n : Nat} {v : Value} {t : Gn}, EAt w S n v t → EAt w' S' n v t
  | 0, _, _, h => h
  | n + 1, v, t, h => by
    obtain ⟨hw, A, c, rfl, hcap, h⟩ := h
    refine ⟨hw, A, c, rfl, hcap, fun hp => ?_⟩
    obtain ⟨b, off, e, hb, hc⟩ := h hp
    obtain ⟨hb', hk'⟩ := hk b hb
    refine ⟨b, off, e, hb', fun j hj => ?_⟩
    obtain ⟨x0, x1, x2, c0, c1, c2, ht⟩ := hc j hj
    exact ⟨x0, x1, x2, (hk' _).trans c0, (hk' _).trans c1, (hk' _).trans c2, EAt.keep hk ht⟩
def EBel (B : Nat) : Nat → Prop := fun b => b < B
theorem EAt.below {w w' : World} {B n : Nat} {v : Value} {t : Gn} (h : EAt w (EBel B) n v t) (hb : Below B w w') : EAt w' (EBel B) n v t :=
  h.keep fun b hB => ⟨hB, fun o => hb.cell (p := ⟨b, o, none⟩) hB⟩
theorem EAt.more {w : World} {B B' n : Nat} {v : Value} {t : Gn} (h : EAt w (EBel B) n v t) (hB : B ≤ B') : EAt w (EBel B') n v t :=
  h.keep fun b hb => ⟨Nat.lt_of_lt_of_le hb hB, fun _ => rfl⟩
theorem EAt.up {w : World} {S : Nat → Prop} : ∀ {n m : Nat} {v : Value} {t : Gn}, n ≤ m → EAt w S n v t → EAt w S m v t
  | 0, _, _, _, _, h => h.elim
  | n + 1, 0, _, _, hm, _ => by omega
  | n + 1, m + 1, v, t, hm, h => by
    obtain ⟨hw, A, c, rfl, hcap, h⟩ := h
    refine ⟨hw, A, c, rfl, hcap, fun hp => ?_⟩
    obtain ⟨b, off, e, hb, hc⟩ := h hp
    refine ⟨b, off, e, hb, fun j hj => ?_⟩
    obtain ⟨x0, x1, x2, c0, c1, c2, ht⟩ := hc j hj
    exact ⟨x0, x1, x2, c0, c1, c2, EAt.up (by omega) ht⟩
/-- opened -/
theorem EAt.open_ {w : World} {S : Nat → Prop} {n : Nat} {v : Value} {t : Gn} (h : EAt w S n v t) : ∃ m A c, n = m + 1 ∧ (EWf t.kind ∧ EWf t.a) ∧ v = ev t A c ∧
    (0 < t.subs.length → ∃ b off, A = some ⟨b, off, none⟩ ∧ S b ∧ ∀ j (h : j < t.subs.length), ∃ x0 x1 x2, w.cell? ⟨b, off + j * 3, none⟩ = some x0 ∧ w.cell? ⟨b, off + j * 3 + 1, none⟩ = some x1 ∧ w.cell? ⟨b, off + j * 3 + 2, none⟩ = some x2 ∧ EAt w S m (.agg #[x0, x1, x2]) (t.subs[j]'h)) := by
  cases n with
  | zero => exact h.elim
  | succ n =>
    obtain ⟨hw, A, c, rfl, hcap, h⟩ := h
    exact ⟨n, A, c, rfl, hw, rfl, h⟩
/-- its capacity -/
theorem EAt.cap_ {w : World} {S : Nat → Prop} {n : Nat} {t : Gn} {A : Option Addr} {c : Nat} (h : EAt w S n (ev t A c) t) : t.subs.length ≤ c := by
  cases n with
  | zero => exact h.elim
  | succ n =>
    obtain ⟨_, A', c', e, hcap, _⟩ := h
    simp only [ev, Value.agg.injEq, Array.mk.injEq, List.cons.injEq, and_true, true_and, Value.slice.injEq] at e
    omega
/-- a sub, read at a later world, its parts in sight -/
theorem esub_as {w wr : World} {B n : Nat} {A : Option Addr} {l : List Gn}
    (hit : 0 < l.length → ∃ b off, A = some ⟨b, off, none⟩ ∧ EBel B b ∧ ∀ j (h : j < l.length), ∃ x0 x1 x2, w.cell? ⟨b, off + j * 3, none⟩ = some x0 ∧ w.cell? ⟨b, off + j * 3 + 1, none⟩ = some x1 ∧ w.cell? ⟨b, off + j * 3 + 2, none⟩ = some x2 ∧ EAt w (EBel B) n (.agg #[x0, x1, x2]) (l[j]'h))
    (hb : Below B w wr) (k : Nat) (h : k < l.length) : ∃ b off D d, A = some ⟨b, off, none⟩ ∧ wr.cell? ⟨b, off + k * 3, none⟩ = some (.int .i64 (l[k]'h).kind) ∧ wr.cell? ⟨b, off + k * 3 + 1, none⟩ = some (.int .i64 (l[k]'h).a) ∧ wr.cell? ⟨b, off + k * 3 + 2, none⟩ = some (.slice D (l[k]'h).subs.length d) ∧
      EAt wr (EBel B) n (ev (l[k]'h) D d) (l[k]'h) := by
  obtain ⟨b, off, e, hB, hc⟩ := hit (by omega)
  obtain ⟨x0, x1, x2, c0, c1, c2, ht⟩ := hc k h
  obtain ⟨_, D, d, _, _, ev, _⟩ := ht.open_
  simp only [Value.agg.injEq, Array.mk.injEq, List.cons.injEq, and_true] at ev
  obtain ⟨rfl, rfl, rfl⟩ := ev
  exact ⟨b, off, D, d, e, (hb.cell (p := ⟨b, _, none⟩) hB).trans c0, (hb.cell (p := ⟨b, _, none⟩) hB).trans c1, (hb.cell (p := ⟨b, _, none⟩) hB).trans c2, ht.below hb⟩

theorem esizes_bulk {H : Type} (f : Nat → Gn) (elems : List (DataW H)) : ∀ (k : Nat), (∀ i (h : i < elems.length), (f (k + i)).size ≤ Rows.uptoBulk (elems[i]'h)) → gsizes ((List.range' k elems.length).map f) ≤ Rows.uptoBulkAll elems := by
  induction elems with
  | nil => intro k _; simp [gsizes, Rows.uptoBulkAll]
  | cons d r ih =>
    intro k h
    simp only [List.length_cons, List.range'_succ, List.map_cons, gsizes, Rows.uptoBulkAll]
    have h0 := h 0 (by simp)
    have h1 := ih (k + 1) (fun i hi => by
      have := h (i + 1) (by simpa using hi)
      simpa [Nat.add_assoc, Nat.add_comm 1 i] using this)
    simp at h0
    omega

set_option maxRecDepth 100000 in
theorem cellsE : Tryz.prog.cellsOf 27 = 3 := by kernel_rfl
set_option maxRecDepth 100000 in
theorem ehone : oneCellFields Tryz.prog #[{ name := "Kind", type := 3, offset := 0, embedded := false, tag := "", pkgPath := "", byteOffset := 0 }, { name := "N", type := 3, offset := 1, embedded := false, tag := "", pkgPath := "", byteOffset := 8 }, { name := "Subs", type := 25, offset := 2, embedded := false, tag := "", pkgPath := "", byteOffset := 16 }] = true := by kernel_rfl

set_option maxRecDepth 100000 in
theorem eread_tree {H : Type} {enc : TypeId × Value → H} {w : World} {base : Nat} {spare : Nat → Bool} {held : Bool} : ∀ (fuel : Nat) (cs : List Value) (x : DataW H × List MemPlace),
    DataW.trod enc Tryz.prog w base spare held fuel 27 cs = some x → ∃ t : Gn, EAt w (EBel w.heap.size) fuel (.agg cs.toArray) t ∧ t.size ≤ Rows.uptoBulk x.1 := by
  intro fuel
  induction fuel using Nat.strongRecOn with
  | ind fuel ih =>
    intro cs x h
    obtain ⟨xs, n, rfl, rfl, hlen, hxl, hf⟩ := DataW.trod_struct Tryz.underlying27 h
    rw [cellsE] at hlen
    match cs, hlen with
    | [c0, c1, c2], _ =>
      obtain ⟨o0, k0⟩ := hone_of ehone 0 _ rfl
      obtain ⟨o1, k1⟩ := hone_of ehone 1 _ rfl
      obtain ⟨o2, k2⟩ := hone_of ehone 2 _ rfl
      match xs, hxl with
      | [y0, y1, y2], _ =>
        have f0 := hf 0 _ rfl
        have f1 := hf 1 _ rfl
        have f2 := hf 2 _ rfl
        rw [o0, k0] at f0
        rw [o1, k1] at f1
        rw [o2, k2] at f2
        obtain ⟨l, e0, rfl, hl⟩ := DataW.trod_int Tryz.underlying3 f0
        obtain ⟨m, e1, rfl, hm⟩ := DataW.trod_int Tryz.underlying3 f1
        simp only [List.drop_zero, List.take_succ_cons, List.take_zero, List.cons.injEq, and_true, List.drop_succ_cons] at e0 e1
        subst e0 e1
        rcases DataW.trod_slice Tryz.underlying25 f2 with ⟨e2, rfl⟩ | ⟨a, len, cap, elems, rest, n', rfl, e2, rfl, _, hlc, _, hel, hat, _, _⟩
        · simp only [List.take_succ_cons, List.take_zero, List.cons.injEq, and_true, List.drop_succ_cons, List.drop_zero] at e2
          subst e2
          exact ⟨.node l m 0 [], ⟨⟨hl, hm⟩, none, 0, rfl, Nat.le_refl _, fun hp => by simp [Gn.subs] at hp⟩, by simp [Gn.size, gsizes, Rows.uptoBulk, Rows.uptoBulkAll]⟩
        · simp only [List.take_succ_cons, List.take_zero, List.cons.injEq, and_true, List.drop_succ_cons, List.drop_zero] at e2
          subst e2
          have each : ∀ i, i < len → ∃ t : Gn, ∃ cs' : List Value, w.cells? base (a.add (i * 3)) 3 = some cs' ∧ EAt w (EBel w.heap.size) n' (.agg cs'.toArray) t ∧ ∀ (hi : i < elems.length), t.size ≤ Rows.uptoBulk (elems[i]'hi).1 := by
            intro i hi
            have h1 := hat i hi
            rw [cellsE] at h1
            have hi' : i < elems.length := by omega
            rw [List.getElem?_eq_getElem hi'] at h1
            obtain ⟨cs', hc, ht⟩ := Option.bind_eq_some_iff.1 h1
            obtain ⟨t, h2, h3⟩ := ih n' (by omega) cs' _ ht
            exact ⟨t, cs', hc, h2, fun _ => h3⟩
          obtain ⟨f, hfx⟩ := choose_lt each
          refine ⟨.node l m 0 ((List.range' 0 len).map f), ⟨⟨hl, hm⟩, some a, cap, ?_, by simpa [Gn.subs] using hlc, fun hp => ?_⟩, ?_⟩
          · simp [Gn.subs, Gn.kind, Gn.a]
          · have hp' : 0 < len := by simpa [Gn.subs] using hp
            obtain ⟨b, off, spot⟩ := a
            have hcell : ∀ i, i < len → ∀ q, q < 3 → ∃ u, w.cell? ((⟨b, off, spot⟩ : Addr).add (i * 3) |>.add q) = some u := by
              intro i hi q hq
              obtain ⟨cs', hc, _⟩ := hfx i hi
              obtain ⟨_, hl', hu⟩ := World.cells?_some hc
              exact ⟨_, (hu q hq).trans (List.getElem?_eq_getElem (by omega))⟩
            have hspot : spot = none := by
              obtain ⟨u, hu⟩ := hcell 0 hp' 0 (by omega)
              simpa [Addr.add] using World.cell?_spot hu
            subst hspot
            refine ⟨b, off, rfl, ?_, fun j hj => ?_⟩
            · obtain ⟨u, hu⟩ := hcell 0 hp' 0 (by omega)
              exact World.block_lt_of_cell? _ _ (by simpa [Addr.add] using hu)
            · have hj' : j < len := by simpa [Gn.subs] using hj
              obtain ⟨cs', hc, ht, _⟩ := hfx j hj'
              obtain ⟨_, hl', hu⟩ := World.cells?_some hc
              match cs', hl' with
              | [x0, x1, x2], _ =>
                have u0 := hu 0 (by omega)
                have u1 := hu 1 (by omega)
                have u2 := hu 2 (by omega)
                rw [add_plain, add_plain] at u0 u1 u2
                refine ⟨x0, x1, x2, by simpa using u0, by simpa using u1, by simpa using u2, ?_⟩
                have e : (Gn.node l m 0 ((List.range' 0 len).map f)).subs[j]'hj = f j := by simp [Gn.subs]
                rw [e]
                exact EAt.up (by omega) ht
          · simp only [Gn.size, List.map_cons, List.map_nil, Rows.uptoBulk, Rows.uptoBulkAll]
            have := esizes_bulk f (elems.map (·.1)) 0 (fun i hi => by
              have hi' : i < elems.length := by simpa using hi
              obtain ⟨_, _, _, hs⟩ := hfx i (by omega)
              have := hs hi'
              simpa using this)
            rw [List.length_map, hel] at this
            omega

set_option maxRecDepth 100000 in
theorem open_expr {H : Type} {enc : TypeId × Value → H} {w : World} {base : Nat} {r : Reach} {b0 : Nat} {spare : Nat → Bool} {held : Bool} {v : Value} {d : DataW H} {ps : List MemPlace}
    (hval : Value.okWide Tryz.prog w r b0 27 v) (hd : DataW.Trod enc Tryz.prog w base spare held 27 v d ps) :
    ∃ (t : Gn) (n : Nat), EAt w (EBel w.heap.size) n v t ∧ t.size ≤ Rows.uptoBulk d := by
  obtain ⟨cs, rfl, _⟩ := okWide_struct Tryz.underlying27 hval
  obtain ⟨fuel, hf⟩ := hd
  obtain ⟨t, h1, h2⟩ := eread_tree fuel _ _ hf
  exact ⟨t, fuel, by simpa [Value.cells] using h1, h2⟩
/-! small laws -/
theorem eheap_new (w : World) (o : Obj) : (w.alloc o).heap[w.heap.size]? = some o := by
  show (w.heap.push o)[w.heap.size]? = _
  simp
theorem ebox (w w' : World) (T : Nat) (x0 x1 x2 : Value) (h : Below (w.alloc (.cells #[x0, x1, x2] T)).heap.size (w.alloc (.cells #[x0, x1, x2] T)) w') :
    w'.cell? ⟨w.heap.size, 0, none⟩ = some x0 ∧ w'.cell? ⟨w.heap.size, 1, none⟩ = some x1 ∧ w'.cell? ⟨w.heap.size, 2, none⟩ = some x2 := by
  have hb := h.block w.heap.size (by simp)
  rw [eheap_new] at hb
  exact ⟨by rw [Lib.cell_of_heap hb]; rfl, by rw [Lib.cell_of_heap hb]; rfl, by rw [Lib.cell_of_heap hb]; rfl⟩
theorem ei64_wf {x : Int} (h : EWf x) : Lists.I64 x := by
  simp only [EWf, Lit.wf, IntKind.min, IntKind.max, IntKind.signed, IntKind.bits, Bool.and_eq_true] at h
  unfold Lists.I64
  simp at h
  omega
theorem eret_p {a b c d : Value} (h : a = c) (h' : b = d) : Ending.returned (.tuple #[a, b]) = .returned (.tuple #[c, d]) := by rw [h, h']
end Go.Proofs.YtabkihellcflhaaGreatDoor.Exprs
