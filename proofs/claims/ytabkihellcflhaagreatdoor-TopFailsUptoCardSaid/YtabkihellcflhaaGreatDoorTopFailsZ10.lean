/- TopFails, part 10 of the proof: Slices of numbers (nil, empty or not) as lists; what such an argument reads as. Conditions: none. · append of a slice of numbers (nil, empty or not) onto a row of the call's own. Conditions: the sizes. · A source of choices that is a function value of the program's: what is asked of it. -/
import Derived.Test.YtabkihellcflhaaGreatDoorTopFailsZ1
import Derived.Maps.AppendAt
import Derived.RegionTactic
import Derived.OwnWalk
import Derived.Test.YtabkihellcflhaaGreatDoorTopFailsZ8
import Derived.Test.YtabkihellcflhaaGreatDoorTopFailsZ2
import Derived.Test.YtabkihellcflhaaGreatDoorTopFailsZ9
/- Slices of numbers (nil, empty or not) as lists; what such an argument reads as. Conditions: none. -/
namespace Go.Proofs.YtabkihellcflhaaGreatDoor.Ints
open Go.RowKit Go.WideShapes Go.ChangeShapes

/-- The slice at A holds the numbers l, below block B. -/
def At (w : World) (B : Nat) (A : Option Addr) (l : List Int) : Prop :=
  0 < l.length → ∃ b off, A = some ⟨b, off, none⟩ ∧ b < B ∧ ∀ j, j < l.length → w.cell? ⟨b, off + j, none⟩ = some (.int .i64 (l.getD j 0))

section
variable {w w' : World} {B : Nat} {A : Option Addr} {l : List Int}
theorem At.nil : At w B A [] := fun h => by simp at h
theorem At.keep (h : At w B A l) (hk : ∀ b o, b < B → w'.cell? ⟨b, o, none⟩ = w.cell? ⟨b, o, none⟩) : At w' B A l := fun hp => by
  obtain ⟨b, off, e, hb, hc⟩ := h hp
  exact ⟨b, off, e, hb, fun j hj => (hk b _ hb).trans (hc j hj)⟩
theorem At.more {B' : Nat} (h : At w B A l) (hB : B ≤ B') : At w B' A l := fun hp => by
  obtain ⟨b, off, e, hb, hc⟩ := h hp
  exact ⟨b, off, e, by omega, hc⟩
theorem At.below (h : At w B A l) (hb : Below B w w') : At w' B A l := h.keep fun b o hp => hb.cell (p := ⟨b, o, none⟩) hp
theorem At.drewN (h : At w B A l) (k : Nat) : At (w.drewN k) B A l := h
theorem At.drew (h : At w B A l) : At w.drew B A l := h
theorem At.alloc (h : At w B A l) (hB : B ≤ w.heap.size) (o : Obj) : At (w.alloc o) B A l := h.keep fun b p hp => World.cell?_alloc_lt w o ⟨b, p, none⟩ (by show b < _; omega)
theorem At.grown {row : Option Nat} (h : At w B A l) (hg : w.grownBy w' row) (hB : B ≤ w.heap.size) (hr : ∀ g, row = some g → B ≤ g) : At w' B A l :=
  h.below ((Below.refl _ _).grown hg hB hr)
theorem At.own {base E c : Nat} (h : w.ownsRow base E 1 (.slice A l.length c) l.length (l.map (Value.int .i64))) : At w w.heap.size A l := fun hp => by
  rcases h.2 with ⟨he, h0⟩ | ⟨g, cap, cur, he, _, hh, _, _, _, ht⟩
  · omega
  · have hA : A = some ⟨g, 0, none⟩ := by injection he
    refine ⟨g, 0, hA, ?_, fun j hj => ?_⟩
    · exact (Array.getElem?_eq_some_iff.1 hh).1
    · have hj' : cur.toList[j]? = some (.int .i64 (l.getD j 0)) := by
        have h1 : (cur.toList.take (l.length * 1))[j]? = some (.int .i64 (l.getD j 0)) := by
          rw [ht, List.getElem?_map, List.getElem?_eq_getElem hj]
          simp [List.getD, List.getElem?_eq_getElem hj]
        rw [List.getElem?_take] at h1
        split at h1
        · exact h1
        · cases h1
      rw [cell_of_row w g (0 + j) cur E (0, 0) hh]
      simpa [Array.getElem?_toList] using hj'
end

/-! A slice of numbers that came in. -/
set_option maxRecDepth 100000 in
theorem cellsInt : Tryz.prog.cellsOf 3 = 1 := by kernel_rfl
theorem bulk_lits {H : Type} (k : IntKind) (zs : List Int) : Rows.uptoBulkAll (lits (H := H) k zs) = zs.length := by
  induction zs with
  | nil => rfl
  | cons z zs ih =>
    show Rows.uptoBulk (DataW.lit (Lit.int k z)) + Rows.uptoBulkAll (lits (H := H) k zs) = _
    rw [ih]
    simp only [Rows.uptoBulk, List.length_cons]
    omega
set_option maxRecDepth 100000 in
theorem open_list {H : Type} {enc : TypeId × Value → H} {w : World} {base : Nat} {r : Reach} {b0 : Nat} {spare : Nat → Bool} {held : Bool} {v : Value} {d : DataW H} {ps : List MemPlace}
    (hval : Value.okWide Tryz.prog w r b0 32 v) (hd : DataW.Trod enc Tryz.prog w base spare held 32 v d ps) :
    ∃ (A : Option Addr) (l : List Int) (c : Nat), v = .slice A l.length c ∧ At w w.heap.size A l ∧ l.length + 1 ≤ Rows.uptoBulk d ∧ (∀ n ∈ l, (Lit.int .i64 n).wf = true) ∧ l.length ≤ c := by
  obtain ⟨a0, len, cap, rfl⟩ := okWide_slice Tryz.underlying32 hval
  obtain ⟨fuel, hf⟩ := hd
  rcases open_ints Tryz.underlying32 Tryz.underlying3 cellsInt hf with ⟨hcs, hx⟩ | ⟨a, len', cap', zs, hcs, _, hl, hm, hz, hx, hcell, hwz⟩
  · simp [Value.cells] at hcs
    obtain ⟨rfl, rfl, rfl⟩ := hcs
    simp only [Prod.mk.injEq] at hx
    obtain ⟨rfl, rfl⟩ := hx
    exact ⟨none, [], 0, rfl, At.nil, by simp [Rows.uptoBulk], by simp, Nat.le_refl _⟩
  · simp [Value.cells] at hcs
    obtain ⟨rfl, rfl, rfl⟩ := hcs
    simp only [Prod.mk.injEq] at hx
    obtain ⟨rfl, rfl⟩ := hx
    have hlen : (zs.take len).length = len := by
      rw [List.length_take]
      split at hz <;> omega
    refine ⟨some a, zs.take len, cap, by rw [hlen], fun hp => ?_, ?_, fun n hn => hwz n (List.mem_of_mem_take hn), by rw [hlen]; exact hl⟩
    · rw [hlen] at hp
      obtain ⟨b, off, rfl, hc⟩ := ints_at hcell (by split at hz <;> omega)
      have hc0 := hc 0 (by split at hz <;> omega)
      refine ⟨b, off, rfl, ?_, fun j hj => ?_⟩
      · rcases Nat.lt_or_ge b w.heap.size with h | h
        · exact h
        · simp [World.cell?, Array.getElem?_eq_none h] at hc0
      · rw [hlen] at hj
        rw [hc j (by split at hz <;> omega)]
        simp [List.getD, hj]
    · simp only [Rows.uptoBulk, bulk_lits, hlen]
      omega

end Go.Proofs.YtabkihellcflhaaGreatDoor.Ints

/- append of a slice of numbers (nil, empty or not) onto a row of the call's own. Conditions: the sizes. -/
namespace Go.Proofs.YtabkihellcflhaaGreatDoor.Ints
open Go.RowKit Go.WideShapes Go.ChangeShapes
set_option linter.unusedVariables false

/-- The row at A, of the call's own from 'base' on, holds the numbers z. -/
def Own (w : World) (base : Nat) (A : Option Addr) (c : Nat) (z : List Int) : Prop :=
  w.ownsRow base 3 1 (.slice A z.length c) z.length (z.map (Value.int .i64))
def rowOf (A : Option Addr) : Option Nat := A.map (·.block)
theorem rowOf_own (A : Option Addr) (n c : Nat) : (Value.slice A n c).ownBlock = rowOf A := by cases A <;> rfl

theorem Own.at_ {w : World} {base c : Nat} {A : Option Addr} {z : List Int} (h : Own w base A c z) : At w w.heap.size A z := At.own h
theorem Own.ge {w : World} {base c : Nat} {A : Option Addr} {z : List Int} (h : Own w base A c z) : ∀ g, rowOf A = some g → base ≤ g := by
  intro g hg
  rcases h.2 with ⟨he, _⟩ | ⟨g', cap, cur, he, hb, _⟩
  · injection he with he; subst he; cases hg
  · injection he with he; subst he
    have : g' = g := by simpa [rowOf] using hg
    omega
theorem Own.empty {w : World} {b : Nat} (h : w.heap[b]? = some (.cells #[] 3 (0, 0))) : Own w b (some ⟨b, 0, none⟩) 0 [] :=
  ⟨rfl, .inr ⟨b, 0, #[], rfl, Nat.le_refl _, h, Nat.le_refl _, Nat.zero_le _, rfl, rfl⟩⟩
theorem Own.none {w : World} {b : Nat} : Own w b none 0 [] := ⟨rfl, .inl ⟨rfl, rfl⟩⟩
theorem Own.grown {w w' : World} {base c : Nat} {A : Option Addr} {z : List Int} {row : Option Nat} (h : Own w base A c z) (hg : w.grownBy w' row) (hne : ∀ g, rowOf A = some g → row ≠ some g) : Own w' base A c z := by
  refine ⟨h.1, ?_⟩
  rcases h.2 with h0 | ⟨g, cap, cur, he, hb, hh, h1⟩
  · exact .inl h0
  · refine .inr ⟨g, cap, cur, he, hb, ?_, h1⟩
    injection he with he; subst he
    rw [hg.block g (Array.getElem?_eq_some_iff.1 hh).1 (fun e => hne g rfl e.symm)]
    exact hh

theorem Own.below {w w' : World} {base c : Nat} {A : Option Addr} {z : List Int} (h : Own w base A c z) (hb : Below w.heap.size w w') : Own w' base A c z :=
  h.grown (row := Option.none) ⟨hb.os, hb.tape, hb.output, hb.size, fun k hk _ => hb.block k hk⟩ (fun _ _ e => by cases e)
theorem int_info : (Tryz.prog.info? 3).map (fun i => (i.zero, i.size, i.bytes)) = some (some (.int .i64 0), 1, 8) := by kernel_rfl

set_option maxRecDepth 100000 in
theorem run_append_ints (w : World) (base c : Nat) (A : Option Addr) (z : List Int) (hown : Own w base A c z) (B : Nat) (A2 : Option Addr) (c2 : Nat) (l : List Int) (hr : At w B A2 l)
    (h63 : z.length + l.length ≤ 17592186044416) (hbase : base ≤ w.heap.size) (ty : TypeId) :
    ∃ A' c' w', (Builtin.append_ #[32, 32] ty #[.slice A z.length c, .slice A2 l.length c2]).run Tryz.prog w = .ok (.slice A' (z ++ l).length c') w' ∧ Own w' base A' c' (z ++ l) ∧ w.grownBy w' (rowOf A) ∧
      (rowOf A' = rowOf A ∨ rowOf A' = some w.heap.size) := by
  obtain ⟨i0, hi, hz, hsz, hby⟩ := info_parts int_info
  have one : ∀ u ∈ l.map (Value.int .i64), u.oneCell' = true := by
    intro u hu
    obtain ⟨n, _, rfl⟩ := List.mem_map.1 hu
    rfl
  cases A2 with
  | none =>
    have h0 : l = [] := by
      rcases Nat.eq_zero_or_pos l.length with h | h
      · exact List.eq_nil_of_length_eq_zero h
      · obtain ⟨b, off, e, _⟩ := hr h; cases e
    subst h0
    refine ⟨A, c, w, ?_, by simpa using hown, World.grownBy.refl w _, .inl rfl⟩
    have e : (z ++ []).length = z.length := by simp
    rw [e]
    rcases hown.2 with ⟨he, hn⟩ | ⟨g, cap, cur, he, _, _, hnc, _⟩
    · injection he with h1 h2 h3
      subst h1
      rw [hn]
      subst h3
      simp [Builtin.append_, run_underlying Tryz.underlying32, sizeOf, typeInfo, hi, Builtin.lenOf, Builtin.firstCells]
    · injection he with h1 h2 h3
      subst h1
      subst h3
      simp [Builtin.append_, run_underlying Tryz.underlying32, sizeOf, typeInfo, hi, Builtin.lenOf, Builtin.firstCells, hnc, storeCells]
  | some ad =>
    have hcells : ∀ j u, (l.map (Value.int .i64))[j]? = some u → w.cell? (ad.add j) = some u := by
      intro j u hu
      have hj : j < l.length := by
        rcases Nat.lt_or_ge j l.length with h | h
        · exact h
        · rw [List.getElem?_eq_none (by simpa using h)] at hu; cases hu
      obtain ⟨b, off, e, _, hc⟩ := hr (by omega)
      injection e with e
      subst e
      rw [Go.WideShapes.add_plain, hc j hj, ← hu, List.getElem?_map, List.getElem?_eq_getElem hj]
      simp [List.getD, List.getElem?_eq_getElem hj]
    obtain ⟨v', w', hrun, h2, h3, _, h5⟩ := run_append_own_at (P := Tryz.prog) w base 32 ty 3 i0 (.int .i64 0) 1 8 Tryz.underlying32 hi hz hsz hby rfl (by decide) _ z.length _ hown
      ad l.length c2 (l.map (Value.int .i64)) (by simp) hcells one (by simp only [maxLen]; omega) (by omega) hbase
    have hf : ∃ A' c', v' = .slice A' (z.length + l.length) c' := by
      rcases h2.2 with ⟨he, hn⟩ | ⟨g, cap, cur, he, _⟩
      · exact ⟨Option.none, 0, by rw [he, hn]⟩
      · exact ⟨_, _, he⟩
    obtain ⟨A', c', rfl⟩ := hf
    have e : (z ++ l).length = z.length + l.length := by simp
    refine ⟨A', c', w', by rw [e]; exact hrun, ?_, by rw [← rowOf_own A z.length c]; exact h3, ?_⟩
    · unfold Own
      rw [e, List.map_append]
      exact h2
    · rw [rowOf_own, rowOf_own] at h5
      exact h5

set_option maxRecDepth 100000 in
theorem wpList_append_ints {ops : Array Oper} {rest : List Oper} {o : Oper} {a : Act} {w : World} {Q : Exit → Act → World → Prop} (hgd : o.guard = none) (s x : Operand)
    (ho : o.op = .call { callee := .builtin .append, args := #[s, x], argTypes := #[32, 32] })
    (base c : Nat) (A : Option Addr) (z : List Int) (hown : Own w base A c z) (B : Nat) (A2 : Option Addr) (c2 : Nat) (l : List Int) (hr : At w B A2 l)
    (hs : a.eval s = .slice A z.length c) (hx : a.eval x = .slice A2 l.length c2)
    (h63 : z.length + l.length ≤ 17592186044416) (hbase : base ≤ w.heap.size)
    (h : ∀ A' c' w' (zl : List Int), Hid (zl = z ++ l) → Own w' base A' c' zl → w.grownBy w' (rowOf A) → (rowOf A' = rowOf A ∨ rowOf A' = some w.heap.size) → wpList Tryz.prog ops Q rest (a.put o.dst (.slice A' zl.length c')) w') : wpList Tryz.prog ops Q (o :: rest) a w := by
  obtain ⟨A', c', w', hrun, h2, h3, h4⟩ := run_append_ints w base c A z hown B A2 c2 l hr h63 hbase o.type
  refine wpList_plain hgd fun K hK => ?_
  unfold Oper.wp execOp
  simp only [ho, resolve, invoke, builtin, Sem.run_bind, Sem.run_pure, Result.andThen_ok, List.map_toArray, List.map_cons, List.map_nil, hs, hx, hrun]
  exact hK _ _ (h A' c' w' _ rfl h2 h3 h4)

end Go.Proofs.YtabkihellcflhaaGreatDoor.Ints

/- A source of choices that is a function value of the program's: what is asked of it. -/
namespace Go.Proofs.YtabkihellcflhaaGreatDoor.Gens
open Go.RowKit Lists Ints Vals
set_option linter.unusedVariables false

/-- a value's cells -/
abbrev tval (t : Tr) (A : Option Addr) (c : Nat) : Value := .agg #[.bool t.list, .int .i64 t.num, .slice A t.items.length c]
/-- the row at A is not frozen -/
def NFr (A : Option Addr) (w : World) : Prop := ∀ g, blockOf A = some g → ∃ cs T, w.heap[g]? = some (.cells cs T (0, 0))
theorem NFr.none_ (w : World) : NFr none w := fun g h => by cases h
abbrev panicV (er : Int) : Value := .iface 29 (.int .i64 er)
abbrev panicE (er : Int) : Ending := .panicked [{ v := panicV er, recovered := false }]
/-- what a call of the source comes to -/
def SPost {σ : Type} (I : σ → (Nat → Prop) → World → Prop) (r : Except Int (Int × σ)) (X : Nat → Prop) (w : World) (e : Ending) (w' : World) : Prop :=
  match r with
  | .ok (x, s') => e = .returned (.int .i64 x) ∧ ∃ X', I s' X' w' ∧ Mv X w w' X'
  | .error er => e = panicE er ∧ ∃ X', Mv X w w' X'
/-- A source: the function k, that holds cap; in state s its blocks are X, from B on. -/
structure Src {σ : Type} (ch : σ → Int → Except Int (Int × σ)) (k : Nat) (cap : Array Value) (B : Nat) (I : σ → (Nat → Prop) → World → Prop) : Prop where
  keep : ∀ s X w w', I s X w → (∀ b, b < B ∨ X b → w'.heap[b]? = w.heap[b]?) → w.heap.size ≤ w'.heap.size → I s X w'
  lt : ∀ s X w, I s X w → B ≤ w.heap.size ∧ ∀ b, X b → B ≤ b ∧ b < w.heap.size
  bnd : Bounded ch
  ent : ∀ args w, (callFunc k args).run Tryz.prog w = .ok (.enter k args) w
  call : ∀ s X w m, 0 ≤ m → m ≤ 1000 → I s X w → ch s m ≠ .error 77 → Calls Tryz.prog k (#[.int .i64 m] ++ cap) w (SPost I (ch s m) X w)
abbrev fv (k : Nat) (cap : Array Value) : Value := .func (.func k) #[] cap
/-- what value comes to -/
def VPost {σ : Type} (I : σ → (Nat → Prop) → World → Prop) (n : Nat) (r : Except Int (List Int × Tr × σ)) (X : Nat → Prop) (w : World) (e : Ending) (w' : World) : Prop :=
  match r with
  | .ok (c, t, s') => ∃ (A : Option Addr) (cc : Nat) (X' : Nat → Prop), e = .returned (tval t A cc) ∧ I s' X' w' ∧ Mv X w w' X' ∧ TAt w' (fun b => w.heap.size ≤ b ∧ b < w'.heap.size ∧ ¬ X' b) n (tval t A cc) t ∧ NFr A w'
  | .error er => e = panicE er ∧ ∃ X', Mv X w w' X'
def ValueOK {σ : Type} (ch : σ → Int → Except Int (Int × σ)) (k : Nat) (cap : Array Value) (B : Nat) (I : σ → (Nat → Prop) → World → Prop) (n : Nat) : Prop :=
  ∀ (g : Gn) (v : Value) (s : σ) (X : Nat → Prop) (w : World), GAt w (GBel B) n v g → Right g → g.size ≤ 30 → I s X w → play ch g s ≠ .error 77 →
    Calls Tryz.prog 68 #[fv k cap, v] w (VPost I n (play ch g s) X w)
theorem Mv.refl (X : Nat → Prop) (w : World) : Mv X w w X := ⟨rfl, rfl, rfl, Nat.le_refl _, fun _ _ _ => rfl, fun _ h => .inl h⟩
theorem Mv.trans {X X' X'' : Nat → Prop} {w w' w'' : World} (h : Mv X w w' X') (h' : Mv X' w' w'' X'') : Mv X w w'' X'' :=
  ⟨h'.os.trans h.os, h'.tape.trans h.tape, h'.output.trans h.output, Nat.le_trans h.size h'.size,
   fun b hb hx => (h'.block b (Nat.lt_of_lt_of_le hb h.size) (fun e => (h.new b e).elim hx (fun e => by omega))).trans (h.block b hb hx),
   fun b e => (h'.new b e).elim (h.new b) (fun e => .inr (Nat.le_trans h.size e))⟩
theorem Mv.below {X X' : Nat → Prop} {w w' : World} {B : Nat} (h : Mv X w w' X') (hX : ∀ b, X b → B ≤ b) (hB : B ≤ w.heap.size) : Below B w w' :=
  ⟨h.os, h.tape, h.output, h.size, fun b hb => h.block b (by omega) (fun e => by have := hX b e; omega)⟩
/-- new memory, and writes to it -/
theorem Mv.of_below {X : Nat → Prop} {w w' : World} (h : Below w.heap.size w w') : Mv X w w' X :=
  ⟨h.os, h.tape, h.output, h.size, fun b hb _ => h.block b hb, fun _ h => .inl h⟩
end Go.Proofs.YtabkihellcflhaaGreatDoor.Gens
