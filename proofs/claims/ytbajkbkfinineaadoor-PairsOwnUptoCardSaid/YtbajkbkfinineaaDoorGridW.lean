/- Lists of lists of numbers in memory, nothing said of their capacities: as they are read, and as a call's own that grow. Conditions: the sizes. (Made of XGrid by wip/tools/gen_gridw.py.) -/
import Derived.Test.YtbajkbkfinineaaDoorGrid
import Derived.Test.YtbajkbkfinineaaDoorGrow
import Derived.Test.YtbajkbkfinineaaDoorGrowS
import Derived.Deep.Slices
import Derived.Lib.Builder
namespace Go.Proofs.YtbajkbkfinineaaDoor.Ints
open Go.RowKit Go.WideShapes Go.ChangeShapes
set_option linter.unusedVariables false

/-- The slice at A holds the lists zs: it lies in a block of So, they in blocks of Si. -/
def RowsW (w : World) (So Si : Nat → Prop) (A : Option Addr) (zs : List (List Int)) : Prop :=
  0 < zs.length → ∃ b off, A = some ⟨b, off, none⟩ ∧ So b ∧ ∀ j (h : j < zs.length), ∃ D d, w.cell? ⟨b, off + j, none⟩ = some (.slice D (zs[j]'h).length d) ∧ AtP w Si D (zs[j]'h)
abbrev RowsWAt (w : World) (B : Nat) (A : Option Addr) (zs : List (List Int)) : Prop := RowsW w (· < B) (· < B) A zs

section
variable {w w' : World} {S S' So Si So' Si' : Nat → Prop} {A : Option Addr} {l : List Int} {zs : List (List Int)} {B : Nat}
theorem RowsW.keep (h : RowsW w So Si A zs) (ho : ∀ b, So b → So' b ∧ ∀ o, w'.cell? ⟨b, o, none⟩ = w.cell? ⟨b, o, none⟩) (hi : ∀ b, Si b → Si' b ∧ ∀ o, w'.cell? ⟨b, o, none⟩ = w.cell? ⟨b, o, none⟩) : RowsW w' So' Si' A zs := fun hp => by
  obtain ⟨b, off, e, hb, hc⟩ := h hp
  refine ⟨b, off, e, (ho b hb).1, fun j hj => ?_⟩
  obtain ⟨D, d, h1, h3⟩ := hc j hj
  exact ⟨D, d, ((ho b hb).2 _).trans h1, h3.keep hi⟩
theorem RowsW.nil : RowsW w So Si A [] := fun h => by simp at h
theorem RowsW.below (h : RowsWAt w B A zs) (hb : Below B w w') : RowsWAt w' B A zs :=
  RowsW.keep h (fun b hB => ⟨hB, fun o => hb.cell (p := ⟨b, o, none⟩) hB⟩) (fun b hB => ⟨hB, fun o => hb.cell (p := ⟨b, o, none⟩) hB⟩)
theorem RowsW.more (h : RowsWAt w B A zs) {B' : Nat} (hB : B ≤ B') : RowsWAt w B' A zs :=
  RowsW.keep h (fun b hb => ⟨Nat.lt_of_lt_of_le hb hB, fun _ => rfl⟩) (fun b hb => ⟨Nat.lt_of_lt_of_le hb hB, fun _ => rfl⟩)
end

/-- A list of lists of the call's own: its row from base on; its lists in other blocks, from base on. -/
def OwnRowsW (w : World) (base : Nat) (A : Option Addr) (c : Nat) (zs : List (List Int)) : Prop :=
  ∃ xs : List Value, xs.length = zs.length ∧ w.ownsRow base 22 1 (.slice A zs.length c) zs.length xs ∧
    ∀ j (h : j < zs.length) (h' : j < xs.length), ∃ D d, xs[j]'h' = .slice D (zs[j]'h).length d ∧ AtP w (fun b => base ≤ b ∧ b < w.heap.size ∧ rowOf A ≠ some b) D (zs[j]'h)
section
variable {w w' : World} {base c : Nat} {A : Option Addr} {zs : List (List Int)}
theorem OwnRowsW.zero : OwnRowsW w base none 0 [] := ⟨[], rfl, ⟨rfl, .inl ⟨rfl, rfl⟩⟩, fun j h => by simp at h⟩
theorem OwnRowsW.ge (h : OwnRowsW w base A c zs) : ∀ g, rowOf A = some g → base ≤ g ∧ g < w.heap.size := by
  intro g hg
  obtain ⟨xs, _, h2, _⟩ := h
  rcases h2.2 with ⟨he, _⟩ | ⟨g', cap, cur, he, hb, hh, _⟩
  · injection he with he; subst he; cases hg
  · injection he with he; subst he
    have : g' = g := by simpa [rowOf] using hg
    subst this
    exact ⟨hb, (Array.getElem?_eq_some_iff.1 hh).1⟩
theorem OwnRowsW.below (h : OwnRowsW w base A c zs) (hb : Below w.heap.size w w') : OwnRowsW w' base A c zs := by
  obtain ⟨xs, h1, h2, h3⟩ := h
  refine ⟨xs, h1, ⟨h2.1, ?_⟩, fun j hj hj' => ?_⟩
  · rcases h2.2 with h0 | ⟨g, cap, cur, he, hg, hh, h4⟩
    · exact .inl h0
    · exact .inr ⟨g, cap, cur, he, hg, (hb.block g (Array.getElem?_eq_some_iff.1 hh).1).trans hh, h4⟩
  · obtain ⟨D, d, e, ha⟩ := h3 j hj hj'
    exact ⟨D, d, e, ha.keep fun b hB => ⟨⟨hB.1, Nat.lt_of_lt_of_le hB.2.1 hb.size, hB.2.2⟩, fun o => hb.cell (p := ⟨b, o, none⟩) hB.2.1⟩⟩
theorem OwnRowsW.less (h : OwnRowsW w base A c zs) {base' : Nat} (hb : base' ≤ base) : OwnRowsW w base' A c zs := by
  obtain ⟨xs, h1, h2, h3⟩ := h
  refine ⟨xs, h1, ⟨h2.1, ?_⟩, fun j hj hj' => ?_⟩
  · rcases h2.2 with h0 | ⟨g, cap, cur, he, hg, h4⟩
    · exact .inl h0
    · exact .inr ⟨g, cap, cur, he, Nat.le_trans hb hg, h4⟩
  · obtain ⟨D, d, e, ha⟩ := h3 j hj hj'
    exact ⟨D, d, e, ha.keep fun b hB => ⟨⟨Nat.le_trans hb hB.1, hB.2⟩, fun _ => rfl⟩⟩
/-- as it is read -/
theorem OwnRowsW.rows (h : OwnRowsW w base A c zs) : RowsW w (fun b => base ≤ b ∧ b < w.heap.size ∧ rowOf A = some b) (fun b => base ≤ b ∧ b < w.heap.size ∧ rowOf A ≠ some b) A zs := fun hp => by
  obtain ⟨xs, h1, h2, h3⟩ := h
  rcases h2.2 with ⟨he, h0⟩ | ⟨g, cap, cur, he, hg, hh, _, _, _, ht⟩
  · omega
  · have hA : A = some ⟨g, 0, none⟩ := by injection he
    refine ⟨g, 0, hA, ⟨hg, (Array.getElem?_eq_some_iff.1 hh).1, by rw [hA]; rfl⟩, fun j hj => ?_⟩
    obtain ⟨D, d, e, ha⟩ := h3 j hj (by omega)
    refine ⟨D, d, ?_, ha⟩
    have h4 : (cur.toList.take (zs.length * 1))[j]? = some (.slice D (zs[j]'hj).length d) := by
      rw [ht, List.getElem?_eq_getElem (by omega), e]
    rw [List.getElem?_take] at h4
    split at h4
    · rw [cell_of_row w g (0 + j) cur 22 (0, 0) hh]
      simpa [Array.getElem?_toList] using h4
    · cases h4
theorem OwnRowsW.at_ (h : OwnRowsW w base A c zs) : RowsWAt w w.heap.size A zs := h.rows.keep (fun b hb => ⟨hb.2.1, fun _ => rfl⟩) (fun b hb => ⟨hb.2.1, fun _ => rfl⟩)
theorem OwnRowsW.cap_ (h : OwnRowsW w base A c zs) : zs.length ≤ c := by
  obtain ⟨xs, _, h2, _⟩ := h
  rcases h2.2 with ⟨he, h0⟩ | ⟨g, cap, cur, he, _, _, hnc, _⟩
  · omega
  · injection he with _ _ h3; omega
end
set_option maxRecDepth 100000 in
theorem run_append_rowsw (w : World) (base c : Nat) (A : Option Addr) (zs : List (List Int)) (hown : OwnRowsW w base A c zs) (A2 : Option Addr) (c2 : Nat) (ys : List (List Int))
    (hr : RowsW w (fun _ => True) (fun b => base ≤ b ∧ b < w.heap.size ∧ rowOf A ≠ some b) A2 ys) (h63 : zs.length + ys.length ≤ 4398046511104) (hbase : base ≤ w.heap.size) (ty : TypeId) :
    ∃ A' c' w', (Builtin.append_ #[23, 23] ty #[.slice A zs.length c, .slice A2 ys.length c2]).run Tryd.prog w = .ok (.slice A' (zs ++ ys).length c') w' ∧ OwnRowsW w' base A' c' (zs ++ ys) ∧ w.grownBy w' (rowOf A) ∧
      (rowOf A' = rowOf A ∨ rowOf A' = some w.heap.size) := by
  obtain ⟨i0, hi, hz, hsz, hby⟩ := info_parts rows_info
  cases A2 with
  | none =>
    have h0 : ys = [] := by
      rcases Nat.eq_zero_or_pos ys.length with h | h
      · exact List.eq_nil_of_length_eq_zero h
      · obtain ⟨b, off, e, _⟩ := hr h; cases e
    subst h0
    have e : (zs ++ []).length = zs.length := by simp
    refine ⟨A, c, w, ?_, by simpa using hown, World.grownBy.refl w _, .inl rfl⟩
    rw [e]
    obtain ⟨xs, x1, x2, x3⟩ := hown
    rcases x2.2 with ⟨he, hn⟩ | ⟨g, cap, cur, he, _, _, hnc, _⟩
    · injection he with h1 h2 h3
      subst h1
      rw [hn]
      subst h3
      simp [Builtin.append_, run_underlying Tryd.underlying23, sizeOf, typeInfo, hi, Builtin.lenOf, Builtin.firstCells]
    · injection he with h1 h2 h3
      subst h1
      subst h3
      simp [Builtin.append_, run_underlying Tryd.underlying23, sizeOf, typeInfo, hi, Builtin.lenOf, Builtin.firstCells, hnc, storeCells]
  | some ad =>
    have each : ∀ j, j < ys.length → ∃ v : Value, w.cell? (ad.add j) = some v ∧ ∀ h : j < ys.length, ∃ D d, v = .slice D (ys[j]'h).length d ∧ AtP w (fun b => base ≤ b ∧ b < w.heap.size ∧ rowOf A ≠ some b) D (ys[j]'h) := fun j hj => by
      obtain ⟨b, off, e, _, hc⟩ := hr (by omega)
      injection e with e
      subst e
      obtain ⟨D, d, h1, h3⟩ := hc j hj
      exact ⟨_, by rw [add_plain]; exact h1, fun _ => ⟨D, d, rfl, h3⟩⟩
    obtain ⟨f, hf⟩ := Go.Deep.choose_lt each
    obtain ⟨xs, x1, x2, x3⟩ := hown
    have one : ∀ u ∈ (List.range ys.length).map f, u.oneCell' = true := by
      intro u hu
      obtain ⟨j, hj, rfl⟩ := List.mem_map.1 hu
      obtain ⟨D, d, e, _⟩ := (hf j (List.mem_range.1 hj)).2 (List.mem_range.1 hj)
      rw [e]; rfl
    have hcells : ∀ j u, ((List.range ys.length).map f)[j]? = some u → w.cell? (ad.add j) = some u := by
      intro j u hu
      have hj : j < ys.length := by
        rcases Nat.lt_or_ge j ys.length with h | h
        · exact h
        · rw [List.getElem?_eq_none (by simpa using h)] at hu; cases hu
      rw [(hf j hj).1, ← hu, List.getElem?_map, List.getElem?_range hj]
      rfl
    obtain ⟨v', w', hrun, h2, h3, _, h5⟩ := run_append_own_at (P := Tryd.prog) w base 23 ty 22 i0 (.slice none 0 0) 1 24 Tryd.underlying23 hi hz hsz hby rfl (by decide) _ zs.length _ x2
      ad ys.length c2 ((List.range ys.length).map f) (by simp) hcells one (by simp only [maxLen]; omega) (by omega) hbase
    have hf2 : ∃ A' c', v' = .slice A' (zs.length + ys.length) c' := by
      rcases h2.2 with ⟨he, hn⟩ | ⟨g, cap, cur, he, _⟩
      · exact ⟨Option.none, 0, by rw [he, hn]⟩
      · exact ⟨_, _, he⟩
    obtain ⟨A', c', rfl⟩ := hf2
    have e : (zs ++ ys).length = zs.length + ys.length := by simp
    rw [rowOf_own, rowOf_own] at h5
    rw [rowOf_own] at h3
    refine ⟨A', c', w', by rw [e]; exact hrun, ⟨xs ++ (List.range ys.length).map f, by simp [x1], by rw [e]; exact h2, fun j hj hj' => ?_⟩, h3, h5⟩
    have keep : ∀ (D : Option Addr) (z : List Int), AtP w (fun b => base ≤ b ∧ b < w.heap.size ∧ rowOf A ≠ some b) D z → AtP w' (fun b => base ≤ b ∧ b < w'.heap.size ∧ rowOf A' ≠ some b) D z := fun D z ha => ha.keep fun k hk =>
      ⟨⟨hk.1, Nat.lt_of_lt_of_le hk.2.1 h3.size, by
        rcases h5 with h | h
        · rw [h]; exact hk.2.2
        · rw [h]; intro h; have := Option.some.inj h; omega⟩, fun o => World.cell?_of_block (h3.block k hk.2.1 (fun e => hk.2.2 e.symm))⟩
    by_cases hjz : j < zs.length
    · obtain ⟨D, d, e1, e3⟩ := x3 j hjz (by omega)
      rw [List.getElem_append_left (by omega)]
      rw [List.getElem_append_left hjz]
      exact ⟨D, d, e1, keep D _ e3⟩
    · have hj2 : j - zs.length < ys.length := by simp at hj; omega
      obtain ⟨D, d, e1, e3⟩ := (hf (j - zs.length) hj2).2 hj2
      have q1 : (xs ++ (List.range ys.length).map f)[j]'hj' = f (j - zs.length) := by
        rw [List.getElem_append_right (by omega)]
        simp [x1]
      have q2 : (zs ++ ys)[j]'hj = ys[j - zs.length]'hj2 := List.getElem_append_right (by omega)
      rw [q1, q2]
      exact ⟨D, d, e1, keep D _ e3⟩

theorem wpList_append_rowsw {ops : Array Oper} {rest : List Oper} {o : Oper} {a : Act} {w : World} {Q : Exit → Act → World → Prop} (hgd : o.guard = none) (s x : Operand)
    (ho : o.op = .call { callee := .builtin .append, args := #[s, x], argTypes := #[23, 23] })
    (base c : Nat) (A : Option Addr) (zs : List (List Int)) (hown : OwnRowsW w base A c zs) (A2 : Option Addr) (c2 : Nat) (ys : List (List Int)) (hr : RowsW w (fun _ => True) (fun b => base ≤ b ∧ b < w.heap.size ∧ rowOf A ≠ some b) A2 ys)
    (hs : a.eval s = .slice A zs.length c) (hx : a.eval x = .slice A2 ys.length c2)
    (h63 : zs.length + ys.length ≤ 4398046511104) (hbase : base ≤ w.heap.size)
    (h : ∀ A' c' w' (zl : List (List Int)), Hid (zl = zs ++ ys) → OwnRowsW w' base A' c' zl → w.grownBy w' (rowOf A) → (rowOf A' = rowOf A ∨ rowOf A' = some w.heap.size) → wpList Tryd.prog ops Q rest (a.put o.dst (.slice A' zl.length c')) w') : wpList Tryd.prog ops Q (o :: rest) a w := by
  obtain ⟨A', c', w', hrun, h2, h3, h4⟩ := run_append_rowsw w base c A zs hown A2 c2 ys hr h63 hbase o.type
  refine wpList_plain hgd fun K hK => ?_
  unfold Oper.wp execOp
  simp only [ho, resolve, invoke, builtin, Sem.run_bind, Sem.run_pure, Result.andThen_ok, List.map_toArray, List.map_cons, List.map_nil, hs, hx, hrun]
  exact hK _ _ (h A' c' w' _ rfl h2 h3 h4)
theorem step_append_rowsw {ops : Array Oper} {o : Oper} {a : Act} {w : World} {K : Act → World → Prop} {Q : Exit → Act → World → Prop} {E : Prop} (hgd : o.guard = none) (s x : Operand)
    (ho : o.op = .call { callee := .builtin .append, args := #[s, x], argTypes := #[23, 23] })
    (base c : Nat) (A : Option Addr) (zs : List (List Int)) (hown : OwnRowsW w base A c zs) (A2 : Option Addr) (c2 : Nat) (ys : List (List Int)) (hr : RowsW w (fun _ => True) (fun b => base ≤ b ∧ b < w.heap.size ∧ rowOf A ≠ some b) A2 ys)
    (hs : a.eval s = .slice A zs.length c) (hx : a.eval x = .slice A2 ys.length c2)
    (h63 : zs.length + ys.length ≤ 4398046511104) (hbase : base ≤ w.heap.size)
    (h : ∀ A' c' w' (zl : List (List Int)), Hid (zl = zs ++ ys) → OwnRowsW w' base A' c' zl → w.grownBy w' (rowOf A) → (rowOf A' = rowOf A ∨ rowOf A' = some w.heap.size) → K (a.put o.dst (.slice A' zl.length c')) w') :
    if Region.wanted o (yielded ops a.tmps) = true then Oper.wp Tryd.prog o a w K Q else E := by
  have hw : Region.wanted o (yielded ops a.tmps) = true := by simp [Region.wanted, hgd]
  rw [if_pos hw]
  obtain ⟨A', c', w', hrun, h2, h3, h4⟩ := run_append_rowsw w base c A zs hown A2 c2 ys hr h63 hbase o.type
  unfold Oper.wp execOp
  simp only [ho, resolve, invoke, builtin, Sem.run_bind, Sem.run_pure, Result.andThen_ok, List.map_toArray, List.map_cons, List.map_nil, hs, hx, hrun]
  exact h A' c' w' _ rfl h2 h3 h4
/-- a row of one list, just made -/
theorem rowsw_one {w : World} {b : Nat} {D : Option Addr} {z : List Int} {d : Nat} {T : TypeId} {S : Nat → Prop} (h : w.heap[b]? = some (.cells #[.slice D z.length d] T (0, 0))) (ha : AtP w S D z) : RowsW w (fun _ => True) S (some ⟨b, 0, none⟩) [z] := fun _ =>
  ⟨b, 0, rfl, trivial, fun j hj => by
    obtain rfl : j = 0 := by simp at hj; exact hj
    exact ⟨D, d, by rw [Lib.cell_of_heap h]; rfl, ha⟩⟩
/-- a list of lists of the call's own, of one: just made -/
theorem ownrowsw_one {w : World} {base b : Nat} {D : Option Addr} {z : List Int} {d : Nat} (hb : base ≤ b) (h : w.heap[b]? = some (.cells #[.slice D z.length d] 22 (0, 0))) (ha : AtP w (fun k => base ≤ k ∧ k < w.heap.size ∧ k ≠ b) D z) : OwnRowsW w base (some ⟨b, 0, none⟩) 1 [z] :=
  ⟨[.slice D z.length d], rfl, ⟨rfl, .inr ⟨b, 1, #[.slice D z.length d], rfl, hb, h, Nat.le_refl _, by decide, rfl, rfl⟩⟩, fun j hj hj' => by
    obtain rfl : j = 0 := by simp at hj; exact hj
    exact ⟨D, d, rfl, ha.keep fun k hk => ⟨⟨hk.1, hk.2.1, fun e => hk.2.2 (Option.some.inj e).symm⟩, fun _ => rfl⟩⟩⟩
theorem RowsP.weak {w : World} {So Si : Nat → Prop} {A : Option Addr} {zs : List (List Int)} (h : RowsP w So Si A zs) : RowsW w So Si A zs := fun hp => by
  obtain ⟨b, off, e, hb, hc⟩ := h hp
  refine ⟨b, off, e, hb, fun j hj => ?_⟩
  obtain ⟨D, d, h1, _, h3⟩ := hc j hj
  exact ⟨D, d, h1, h3⟩
end Go.Proofs.YtbajkbkfinineaaDoor.Ints
