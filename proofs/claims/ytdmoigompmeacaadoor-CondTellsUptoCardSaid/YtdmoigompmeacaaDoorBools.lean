/- Slices of bools (nil, empty or not) as lists; what such an argument reads as; append. Conditions: the sizes. -/
import Derived.Test.YtdmoigompmeacaaDoorGrow
import Derived.Deep.Grids
namespace Go.Proofs.YtdmoigompmeacaaDoor.Bools
open Go.RowKit Go.WideShapes Go.ChangeShapes Ints
set_option linter.unusedVariables false

/-- The slice at A holds the bools l, below block B. -/
def AtB (w : World) (B : Nat) (A : Option Addr) (l : List Bool) : Prop :=
  0 < l.length → ∃ b off, A = some ⟨b, off, none⟩ ∧ b < B ∧ ∀ j, j < l.length → w.cell? ⟨b, off + j, none⟩ = some (.bool (l.getD j false))
section
variable {w w' : World} {B : Nat} {A : Option Addr} {l : List Bool}
theorem AtB.nil : AtB w B A [] := fun h => by simp at h
theorem AtB.keep (h : AtB w B A l) (hk : ∀ b o, b < B → w'.cell? ⟨b, o, none⟩ = w.cell? ⟨b, o, none⟩) : AtB w' B A l := fun hp => by
  obtain ⟨b, off, e, hb, hc⟩ := h hp
  exact ⟨b, off, e, hb, fun j hj => (hk b _ hb).trans (hc j hj)⟩
theorem AtB.more {B' : Nat} (h : AtB w B A l) (hB : B ≤ B') : AtB w B' A l := fun hp => by
  obtain ⟨b, off, e, hb, hc⟩ := h hp
  exact ⟨b, off, e, by omega, hc⟩
theorem AtB.below (h : AtB w B A l) (hb : Below B w w') : AtB w' B A l := h.keep fun b o hp => hb.cell (p := ⟨b, o, none⟩) hp
theorem AtB.drewN (h : AtB w B A l) (k : Nat) : AtB (w.drewN k) B A l := h
theorem AtB.drew (h : AtB w B A l) : AtB w.drew B A l := h
theorem AtB.alloc (h : AtB w B A l) (hB : B ≤ w.heap.size) (o : Obj) : AtB (w.alloc o) B A l := h.keep fun b p hp => World.cell?_alloc_lt w o ⟨b, p, none⟩ (by show b < _; omega)
theorem AtB.grown {row : Option Nat} (h : AtB w B A l) (hg : w.grownBy w' row) (hB : B ≤ w.heap.size) (hr : ∀ g, row = some g → B ≤ g) : AtB w' B A l :=
  h.below ((Below.refl _ _).grown hg hB hr)
theorem AtB.own {base E c : Nat} (h : w.ownsRow base E 1 (.slice A l.length c) l.length (l.map Value.bool)) : AtB w w.heap.size A l := fun hp => by
  rcases h.2 with ⟨he, h0⟩ | ⟨g, cap, cur, he, _, hh, _, _, _, ht⟩
  · omega
  · have hA : A = some ⟨g, 0, none⟩ := by injection he
    refine ⟨g, 0, hA, ?_, fun j hj => ?_⟩
    · exact (Array.getElem?_eq_some_iff.1 hh).1
    · have hj' : cur.toList[j]? = some (.bool (l.getD j false)) := by
        have h1 : (cur.toList.take (l.length * 1))[j]? = some (.bool (l.getD j false)) := by
          rw [ht, List.getElem?_map, List.getElem?_eq_getElem hj]
          simp [List.getD, List.getElem?_eq_getElem hj]
        rw [List.getElem?_take] at h1
        split at h1
        · exact h1
        · cases h1
      rw [cell_of_row w g (0 + j) cur E (0, 0) hh]
      simpa [Array.getElem?_toList] using hj'
end

/-! A slice of bools that came in. -/
set_option maxRecDepth 100000 in
theorem cellsBool : Tryd.prog.cellsOf 4 = 1 := by kernel_rfl
theorem bulk_bools {H : Type} (B : Nat → Bool) : ∀ zs : List Nat, Rows.uptoBulkAll (zs.map fun i => (DataW.lit (Lit.bool (B i)) : DataW H)) = zs.length
  | [] => rfl
  | z :: zs => by
    show Rows.uptoBulk (DataW.lit (Lit.bool (B z)) : DataW H) + Rows.uptoBulkAll (zs.map fun i => (DataW.lit (Lit.bool (B i)) : DataW H)) = _
    rw [bulk_bools B zs]
    simp only [Rows.uptoBulk, List.length_cons]
    omega
set_option maxRecDepth 100000 in
theorem open_boolsl {H : Type} {enc : TypeId × Value → H} {w : World} {base : Nat} {r : Reach} {b0 : Nat} {held : Bool} {v : Value} {d : DataW H} {ps : List MemPlace}
    (hval : Value.okWide Tryd.prog w r b0 22 v) (hd : DataW.Trod enc Tryd.prog w base (fun _ => true) held 22 v d ps) :
    ∃ (A : Option Addr) (l : List Bool) (c : Nat), v = .slice A l.length c ∧ AtB w w.heap.size A l ∧ l.length + 1 ≤ Rows.uptoBulk d ∧ l.length ≤ c := by
  obtain ⟨a0, len, cap, rfl⟩ := okWide_slice Tryd.underlying22 hval
  obtain ⟨fuel, hf⟩ := hd
  rcases Go.Deep.open_bools Tryd.underlying22 Tryd.underlying4 cellsBool hf with ⟨hcs, hx⟩ | ⟨a, len', cap', Z, hcs, _, hl, hm, hx, hcell⟩
  · simp [Value.cells] at hcs
    obtain ⟨rfl, rfl, rfl⟩ := hcs
    simp only [Prod.mk.injEq] at hx
    obtain ⟨rfl, rfl⟩ := hx
    exact ⟨none, [], 0, rfl, AtB.nil, by simp [Rows.uptoBulk], Nat.le_refl _⟩
  · simp [Value.cells] at hcs
    obtain ⟨rfl, rfl, rfl⟩ := hcs
    simp only [Prod.mk.injEq] at hx
    obtain ⟨rfl, rfl⟩ := hx
    refine ⟨some a, (List.range len).map Z, cap, by simp, fun hp => ?_, ?_, by simpa using hl⟩
    · have hp' : 0 < len := by simpa using hp
      obtain ⟨b, off, spot⟩ := a
      have hspot : spot = none := by
        have hu := hcell 0 (by omega)
        simpa [Addr.add] using World.cell?_spot hu
      subst hspot
      refine ⟨b, off, rfl, ?_, fun j hj => ?_⟩
      · have hu := hcell 0 (by omega)
        exact World.block_lt_of_cell? _ _ (by simpa [Addr.add] using hu)
      · have hj' : j < len := by simpa using hj
        have hu := hcell j (by omega)
        rw [Go.WideShapes.add_plain] at hu
        rw [hu]
        simp [List.getD, hj']
    · unfold Go.Deep.boolRow
      simp only [Rows.uptoBulk, bulk_bools, List.length_map, List.length_range]
      omega

/-! A row of the call's own. -/
/-- The row at A, of the call's own from 'base' on, holds the bools z. -/
def OwnB (w : World) (base : Nat) (A : Option Addr) (c : Nat) (z : List Bool) : Prop :=
  w.ownsRow base 4 1 (.slice A z.length c) z.length (z.map Value.bool)
theorem OwnB.at_ {w : World} {base c : Nat} {A : Option Addr} {z : List Bool} (h : OwnB w base A c z) : AtB w w.heap.size A z := AtB.own h
theorem OwnB.ge {w : World} {base c : Nat} {A : Option Addr} {z : List Bool} (h : OwnB w base A c z) : ∀ g, rowOf A = some g → base ≤ g := by
  intro g hg
  rcases h.2 with ⟨he, _⟩ | ⟨g', cap, cur, he, hb, _⟩
  · injection he with he; subst he; cases hg
  · injection he with he; subst he
    have : g' = g := by simpa [rowOf] using hg
    omega
theorem OwnB.none {w : World} {b : Nat} : OwnB w b none 0 [] := ⟨rfl, .inl ⟨rfl, rfl⟩⟩
theorem OwnB.empty {w : World} {b : Nat} (h : w.heap[b]? = some (.cells #[] 4 (0, 0))) : OwnB w b (some ⟨b, 0, .none⟩) 0 [] :=
  ⟨rfl, .inr ⟨b, 0, #[], rfl, Nat.le_refl _, h, Nat.le_refl _, Nat.zero_le _, rfl, rfl⟩⟩
theorem OwnB.grown {w w' : World} {base c : Nat} {A : Option Addr} {z : List Bool} {row : Option Nat} (h : OwnB w base A c z) (hg : w.grownBy w' row) (hne : ∀ g, rowOf A = some g → row ≠ some g) : OwnB w' base A c z := by
  refine ⟨h.1, ?_⟩
  rcases h.2 with h0 | ⟨g, cap, cur, he, hb, hh, h1⟩
  · exact .inl h0
  · refine .inr ⟨g, cap, cur, he, hb, ?_, h1⟩
    injection he with he; subst he
    rw [hg.block g (Array.getElem?_eq_some_iff.1 hh).1 (fun e => hne g rfl e.symm)]
    exact hh
theorem OwnB.below {w w' : World} {base c : Nat} {A : Option Addr} {z : List Bool} (h : OwnB w base A c z) (hb : Below w.heap.size w w') : OwnB w' base A c z :=
  h.grown (row := Option.none) ⟨hb.os, hb.tape, hb.output, hb.size, fun k hk _ => hb.block k hk⟩ (fun _ _ e => by cases e)
theorem bool_info : (Tryd.prog.info? 4).map (fun i => (i.zero, i.size, i.bytes)) = some (some (.bool false), 1, 1) := by kernel_rfl
set_option maxRecDepth 100000 in
theorem run_append_bools (w : World) (base c : Nat) (A : Option Addr) (z : List Bool) (hown : OwnB w base A c z) (B : Nat) (A2 : Option Addr) (c2 : Nat) (l : List Bool) (hr : AtB w B A2 l)
    (h63 : z.length + l.length ≤ 17592186044416) (hbase : base ≤ w.heap.size) (ty : TypeId) :
    ∃ A' c' w', (Builtin.append_ #[22, 22] ty #[.slice A z.length c, .slice A2 l.length c2]).run Tryd.prog w = .ok (.slice A' (z ++ l).length c') w' ∧ OwnB w' base A' c' (z ++ l) ∧ w.grownBy w' (rowOf A) ∧
      (rowOf A' = rowOf A ∨ rowOf A' = some w.heap.size) := by
  obtain ⟨i0, hi, hz, hsz, hby⟩ := info_parts bool_info
  have one : ∀ u ∈ l.map Value.bool, u.oneCell' = true := by
    intro u hu
    obtain ⟨n, _, rfl⟩ := List.mem_map.1 hu
    rfl
  cases A2 with
  | none =>
    have h0 : l = [] := by
      rcases Nat.eq_zero_or_pos l.length with h | h
      · exact List.eq_nil_of_length_eq_zero h
      · obtain ⟨b, off, e, _⟩ := hr h; cases e
    subst h0
    refine ⟨A, c, w, ?_, by simpa using hown, World.grownBy.refl w _, .inl rfl⟩
    have e : (z ++ []).length = z.length := by simp
    rw [e]
    rcases hown.2 with ⟨he, hn⟩ | ⟨g, cap, cur, he, _, _, hnc, _⟩
    · injection he with h1 h2 h3
      subst h1
      rw [hn]
      subst h3
      simp [Builtin.append_, run_underlying Tryd.underlying22, sizeOf, typeInfo, hi, Builtin.lenOf, Builtin.firstCells]
    · injection he with h1 h2 h3
      subst h1
      subst h3
      simp [Builtin.append_, run_underlying Tryd.underlying22, sizeOf, typeInfo, hi, Builtin.lenOf, Builtin.firstCells, hnc, storeCells]
  | some ad =>
    have hcells : ∀ j u, (l.map Value.bool)[j]? = some u → w.cell? (ad.add j) = some u := by
      intro j u hu
      have hj : j < l.length := by
        rcases Nat.lt_or_ge j l.length with h | h
        · exact h
        · rw [List.getElem?_eq_none (by simpa using h)] at hu; cases hu
      obtain ⟨b, off, e, _, hc⟩ := hr (by omega)
      injection e with e
      subst e
      rw [Go.WideShapes.add_plain, hc j hj, ← hu, List.getElem?_map, List.getElem?_eq_getElem hj]
      simp [List.getD, List.getElem?_eq_getElem hj]
    obtain ⟨v', w', hrun, h2, h3, _, h5⟩ := run_append_own_at (P := Tryd.prog) w base 22 ty 4 i0 (.bool false) 1 1 Tryd.underlying22 hi hz hsz hby rfl (by decide) _ z.length _ hown
      ad l.length c2 (l.map Value.bool) (by simp) hcells one (by simp only [maxLen]; omega) (by omega) hbase
    have hf : ∃ A' c', v' = .slice A' (z.length + l.length) c' := by
      rcases h2.2 with ⟨he, hn⟩ | ⟨g, cap, cur, he, _⟩
      · exact ⟨Option.none, 0, by rw [he, hn]⟩
      · exact ⟨_, _, he⟩
    obtain ⟨A', c', rfl⟩ := hf
    have e : (z ++ l).length = z.length + l.length := by simp
    refine ⟨A', c', w', by rw [e]; exact hrun, ?_, by rw [← rowOf_own A z.length c]; exact h3, ?_⟩
    · unfold OwnB
      rw [e, List.map_append]
      exact h2
    · rw [rowOf_own, rowOf_own] at h5
      exact h5
set_option maxRecDepth 100000 in
theorem wpList_append_bools {ops : Array Oper} {rest : List Oper} {o : Oper} {a : Act} {w : World} {Q : Exit → Act → World → Prop} (hgd : o.guard = none) (s x : Operand)
    (ho : o.op = .call { callee := .builtin .append, args := #[s, x], argTypes := #[22, 22] })
    (base c : Nat) (A : Option Addr) (z : List Bool) (hown : OwnB w base A c z) (B : Nat) (A2 : Option Addr) (c2 : Nat) (l : List Bool) (hr : AtB w B A2 l)
    (hs : a.eval s = .slice A z.length c) (hx : a.eval x = .slice A2 l.length c2)
    (h63 : z.length + l.length ≤ 17592186044416) (hbase : base ≤ w.heap.size)
    (h : ∀ A' c' w' (zl : List Bool), Hid (zl = z ++ l) → OwnB w' base A' c' zl → w.grownBy w' (rowOf A) → (rowOf A' = rowOf A ∨ rowOf A' = some w.heap.size) → wpList Tryd.prog ops Q rest (a.put o.dst (.slice A' zl.length c')) w') : wpList Tryd.prog ops Q (o :: rest) a w := by
  obtain ⟨A', c', w', hrun, h2, h3, h4⟩ := run_append_bools w base c A z hown B A2 c2 l hr h63 hbase o.type
  refine wpList_plain hgd fun K hK => ?_
  unfold Oper.wp execOp
  simp only [ho, resolve, invoke, builtin, Sem.run_bind, Sem.run_pure, Result.andThen_ok, List.map_toArray, List.map_cons, List.map_nil, hs, hx, hrun]
  exact hK _ _ (h A' c' w' _ rfl h2 h3 h4)
end Go.Proofs.YtdmoigompmeacaaDoor.Bools
