/- Slices of the call's own, of whatever one-celled elements: what is read of them, append. Conditions: the sizes. -/
import Derived.Test.YtjajjadhnfhofaaDoorInts
import Derived.Maps.AppendAt
import Derived.RegionTactic
import Derived.OwnWalk
namespace Go.Proofs.YtjajjadhnfhofaaDoor.Ints
open Go.RowKit Go.WideShapes Go.ChangeShapes
set_option linter.unusedVariables false

/-- The slice at A holds the elements l, below block B. -/
def AtG {α : Type} (f : α → Value) (w : World) (B : Nat) (A : Option Addr) (l : List α) : Prop :=
  0 < l.length → ∃ b off, A = some ⟨b, off, none⟩ ∧ b < B ∧ ∀ j (h : j < l.length), w.cell? ⟨b, off + j, none⟩ = some (f (l[j]'h))
/-- A row of the call's own, from block 'base' on, of elements of type E. -/
def OwnG {α : Type} (E : TypeId) (f : α → Value) (w : World) (base : Nat) (A : Option Addr) (c : Nat) (z : List α) : Prop :=
  w.ownsRow base E 1 (.slice A z.length c) z.length (z.map f)
def rowAt (A : Option Addr) : Option Nat := A.map (·.block)
theorem rowAt_own (A : Option Addr) (n c : Nat) : (Value.slice A n c).ownBlock = rowAt A := by cases A <;> rfl

section
variable {α : Type} {f : α → Value} {E : TypeId} {w w' : World} {base B c : Nat} {A : Option Addr} {z l : List α}
theorem AtG.nil : AtG f w B A [] := fun h => by simp at h
theorem AtG.keep (h : AtG f w B A l) (hk : ∀ b o, b < B → w'.cell? ⟨b, o, none⟩ = w.cell? ⟨b, o, none⟩) : AtG f w' B A l := fun hp => by
  obtain ⟨b, off, e, hb, hc⟩ := h hp
  exact ⟨b, off, e, hb, fun j hj => (hk b _ hb).trans (hc j hj)⟩
theorem AtG.more {B' : Nat} (h : AtG f w B A l) (hB : B ≤ B') : AtG f w B' A l := fun hp => by
  obtain ⟨b, off, e, hb, hc⟩ := h hp
  exact ⟨b, off, e, by omega, hc⟩
theorem AtG.below (h : AtG f w B A l) (hb : Below B w w') : AtG f w' B A l := h.keep fun b o hp => hb.cell (p := ⟨b, o, none⟩) hp
theorem AtG.one (b : Nat) (x : α) (hc : w.cell? ⟨b, 0, none⟩ = some (f x)) : AtG f w (b + 1) (some ⟨b, 0, none⟩) [x] :=
  fun _ => ⟨b, 0, rfl, by omega, fun j hj => by
    obtain rfl : j = 0 := by simpa using hj
    exact hc⟩
theorem OwnG.ge (h : OwnG E f w base A c z) : ∀ g, rowAt A = some g → base ≤ g := by
  intro g hg
  rcases h.2 with ⟨he, _⟩ | ⟨g', cap, cur, he, hb, _⟩
  · injection he with he; subst he; cases hg
  · injection he with he; subst he
    have : g' = g := by simpa [rowAt] using hg
    omega
theorem OwnG.none_ : OwnG E f w base none 0 ([] : List α) := ⟨rfl, .inl ⟨rfl, rfl⟩⟩
theorem OwnG.grown {row : Option Nat} (h : OwnG E f w base A c z) (hg : w.grownBy w' row) (hne : ∀ g, rowAt A = some g → row ≠ some g) : OwnG E f w' base A c z := by
  refine ⟨h.1, ?_⟩
  rcases h.2 with h0 | ⟨g, cap, cur, he, hb, hh, h1⟩
  · exact .inl h0
  · refine .inr ⟨g, cap, cur, he, hb, ?_, h1⟩
    injection he with he; subst he
    rw [hg.block g (Array.getElem?_eq_some_iff.1 hh).1 (fun e => hne g rfl e.symm)]
    exact hh
theorem OwnG.below (h : OwnG E f w base A c z) (hb : Below w.heap.size w w') : OwnG E f w' base A c z :=
  h.grown (row := none) ⟨hb.os, hb.tape, hb.output, hb.size, fun k hk _ => hb.block k hk⟩ (fun _ _ e => by cases e)
theorem OwnG.at_ (h : OwnG E f w base A c z) : AtG f w w.heap.size A z := fun hp => by
  rcases h.2 with ⟨he, h0⟩ | ⟨g, cap, cur, he, _, hh, _, _, _, ht⟩
  · omega
  · have hA : A = some ⟨g, 0, none⟩ := by injection he
    refine ⟨g, 0, hA, (Array.getElem?_eq_some_iff.1 hh).1, fun j hj => ?_⟩
    have hj' : cur.toList[j]? = some (f (z[j]'hj)) := by
      have h1 : (cur.toList.take (z.length * 1))[j]? = some (f (z[j]'hj)) := by
        rw [ht, List.getElem?_map, List.getElem?_eq_getElem hj]; rfl
      rw [List.getElem?_take] at h1
      split at h1
      · exact h1
      · cases h1
    rw [cell_of_row w g (0 + j) cur E (0, 0) hh]
    simpa [Array.getElem?_toList] using hj'
end

theorem run_append_row {α : Type} (f : α → Value) {P : Program} (T E : TypeId) (i : TypeInfo) (zero : Value) (bytes : Nat) (hT : P.underlying T = some (.slice E)) (hi : P.info? E = some i) (hz : i.zero = some zero) (hsz : i.size = 1) (hby : i.bytes = bytes) (hzc : zero.cells.size = 1)
    (hf : ∀ x, (f x).oneCell' = true) (w : World) (base c : Nat) (A : Option Addr) (z : List α) (hown : OwnG E f w base A c z) (B : Nat) (A2 : Option Addr) (c2 : Nat) (l : List α) (hr : AtG f w B A2 l)
    (h63 : z.length + l.length ≤ maxLen) (hb47 : (z.length + l.length) * bytes ≤ 140737488355328) (hbase : base ≤ w.heap.size) (ty : TypeId) :
    ∃ A' c' w', (Builtin.append_ #[T, T] ty #[.slice A z.length c, .slice A2 l.length c2]).run P w = .ok (.slice A' (z ++ l).length c') w' ∧ OwnG E f w' base A' c' (z ++ l) ∧ w.grownBy w' (rowAt A) ∧
      (rowAt A' = rowAt A ∨ rowAt A' = some w.heap.size) := by
  have one : ∀ u ∈ l.map f, u.oneCell' = true := by
    intro u hu
    obtain ⟨n, _, rfl⟩ := List.mem_map.1 hu
    exact hf n
  cases A2 with
  | none =>
    have h0 : l = [] := by
      rcases Nat.eq_zero_or_pos l.length with h | h
      · exact List.eq_nil_of_length_eq_zero h
      · obtain ⟨b, off, e, _⟩ := hr h; cases e
    subst h0
    refine ⟨A, c, w, ?_, by simpa using hown, World.grownBy.refl w _, .inl rfl⟩
    have e : (z ++ []).length = z.length := by simp
    rw [e]
    rcases hown.2 with ⟨he, hn⟩ | ⟨g, cap, cur, he, _, _, hnc, _⟩
    · injection he with h1 h2 h3
      subst h1
      rw [hn]
      subst h3
      simp [Builtin.append_, run_underlying hT, sizeOf, typeInfo, hi, Builtin.lenOf, Builtin.firstCells]
    · injection he with h1 h2 h3
      subst h1
      subst h3
      simp [Builtin.append_, run_underlying hT, sizeOf, typeInfo, hi, Builtin.lenOf, Builtin.firstCells, hnc, storeCells]
  | some ad =>
    have hcells : ∀ j u, (l.map f)[j]? = some u → w.cell? (ad.add j) = some u := by
      intro j u hu
      have hj : j < l.length := by
        rcases Nat.lt_or_ge j l.length with h | h
        · exact h
        · rw [List.getElem?_eq_none (by simpa using h)] at hu; cases hu
      obtain ⟨b, off, e, _, hc⟩ := hr (by omega)
      injection e with e
      subst e
      rw [Go.WideShapes.add_plain, hc j hj, ← hu, List.getElem?_map, List.getElem?_eq_getElem hj]
      rfl
    obtain ⟨v', w', hrun, h2, h3, _, h5⟩ := run_append_own_at (P := P) w base T ty E i zero 1 bytes hT hi hz hsz hby hzc (by decide) _ z.length _ hown
      ad l.length c2 (l.map f) (by simp) hcells one h63 hb47 hbase
    have hv : ∃ A' c', v' = .slice A' (z.length + l.length) c' := by
      rcases h2.2 with ⟨he, hn⟩ | ⟨g, cap, cur, he, _⟩
      · exact ⟨Option.none, 0, by rw [he, hn]⟩
      · exact ⟨_, _, he⟩
    obtain ⟨A', c', rfl⟩ := hv
    have e : (z ++ l).length = z.length + l.length := by simp
    refine ⟨A', c', w', by rw [e]; exact hrun, ?_, by rw [← rowAt_own A z.length c]; exact h3, ?_⟩
    · unfold OwnG
      rw [e, List.map_append]
      exact h2
    · rw [rowAt_own, rowAt_own] at h5
      exact h5

theorem wpList_append_row {α : Type} (f : α → Value) {P : Program} {ops : Array Oper} {rest : List Oper} {o : Oper} {a : Act} {w : World} {Q : Exit → Act → World → Prop} (T E : TypeId) (i : TypeInfo) (zero : Value) (bytes : Nat)
    (hT : P.underlying T = some (.slice E)) (hi : P.info? E = some i) (hz : i.zero = some zero) (hsz : i.size = 1) (hby : i.bytes = bytes) (hzc : zero.cells.size = 1) (hf : ∀ x, (f x).oneCell' = true)
    (hgd : o.guard = none) (s x : Operand) (ho : o.op = .call { callee := .builtin .append, args := #[s, x], argTypes := #[T, T] })
    (base c : Nat) (A : Option Addr) (z : List α) (hown : OwnG E f w base A c z) (B : Nat) (A2 : Option Addr) (c2 : Nat) (l : List α) (hr : AtG f w B A2 l)
    (hs : a.eval s = .slice A z.length c) (hx : a.eval x = .slice A2 l.length c2)
    (h63 : z.length + l.length ≤ maxLen) (hb47 : (z.length + l.length) * bytes ≤ 140737488355328) (hbase : base ≤ w.heap.size)
    (h : ∀ A' c' w' (zl : List α), Hid (zl = z ++ l) → OwnG E f w' base A' c' zl → w.grownBy w' (rowAt A) → (rowAt A' = rowAt A ∨ rowAt A' = some w.heap.size) → wpList P ops Q rest (a.put o.dst (.slice A' zl.length c')) w') : wpList P ops Q (o :: rest) a w := by
  obtain ⟨A', c', w', hrun, h2, h3, h4⟩ := run_append_row f T E i zero bytes hT hi hz hsz hby hzc hf w base c A z hown B A2 c2 l hr h63 hb47 hbase o.type
  refine wpList_plain hgd fun K hK => ?_
  unfold Oper.wp execOp
  simp only [ho, resolve, invoke, builtin, Sem.run_bind, Sem.run_pure, Result.andThen_ok, List.map_toArray, List.map_cons, List.map_nil, hs, hx, hrun]
  exact hK _ _ (h A' c' w' _ rfl h2 h3 h4)
end Go.Proofs.YtjajjadhnfhofaaDoor.Ints
