/- Lists of lists of numbers of a call's own, each list in a block of its own that may be written. Conditions: the sizes. -/
import Derived.Test.YtbajkbkfinineaaDoorGrid
namespace Go.Proofs.YtbajkbkfinineaaDoor.Ints
open Go.RowKit Go.WideShapes Go.ChangeShapes
set_option linter.unusedVariables false

/-- A list of lists of the call's own: its row from base on; each of its lists in a block of its own, from base on, which may be written. -/
def OwnRowsD (w : World) (base : Nat) (A : Option Addr) (c : Nat) (zs : List (List Int)) : Prop :=
  ∃ xs : List Value, xs.length = zs.length ∧ w.ownsRow base 22 1 (.slice A zs.length c) zs.length xs ∧
    (∀ j (h : j < zs.length) (h' : j < xs.length), ∃ D d, xs[j]'h' = .slice D (zs[j]'h).length d ∧ Own w base D d (zs[j]'h) ∧ ∀ g, rowOf D = some g → rowOf A ≠ some g) ∧
    ∀ i j (hi : i < xs.length) (hj : j < xs.length), i ≠ j → ∀ g, (xs[i]'hi).ownBlock = some g → (xs[j]'hj).ownBlock ≠ some g
section
variable {w w' : World} {base c : Nat} {A : Option Addr} {zs : List (List Int)}
theorem own_rowP2 {z : List Int} {D : Option Addr} {d : Nat} (h : Own w base D d z) : AtP w (fun b => base ≤ b ∧ b < w.heap.size ∧ rowOf D = some b) D z := fun hp => by
  obtain ⟨b, off, e, hb, hc⟩ := h.at_ hp
  exact ⟨b, off, e, ⟨h.ge b (by rw [e]; rfl), hb, by rw [e]; rfl⟩, hc⟩
theorem own_blk {z : List Int} {D : Option Addr} {d : Nat} (h : Own w base D d z) : ∀ g, rowOf D = some g → base ≤ g ∧ g < w.heap.size := by
  intro g hg
  rcases h.2 with ⟨he, _⟩ | ⟨g', cap, cur, he, hb, hh, _⟩
  · injection he with he; subst he; cases hg
  · injection he with he; subst he
    have : g' = g := by simpa [rowOf] using hg
    subst this
    exact ⟨hb, (Array.getElem?_eq_some_iff.1 hh).1⟩
theorem own_mono {z : List Int} {D : Option Addr} {d base' : Nat} (h : Own w base D d z) (hb : base' ≤ base) : Own w base' D d z := by
  refine ⟨h.1, ?_⟩
  rcases h.2 with h0 | ⟨g, cap, cur, he, hb2, hh, h1⟩
  · exact .inl h0
  · exact .inr ⟨g, cap, cur, he, by omega, hh, h1⟩
theorem OwnRowsD.weak (h : OwnRowsD w base A c zs) : OwnRows w base A c zs := by
  obtain ⟨xs, h1, h2, h3, h4⟩ := h
  refine ⟨xs, h1, h2, fun j hj hj' => ?_⟩
  obtain ⟨D, d, e, ho, hn⟩ := h3 j hj hj'
  exact ⟨D, d, e, ho.cap_, (own_rowP2 ho).keep fun b hb => ⟨⟨hb.1, hb.2.1, hn b hb.2.2⟩, fun _ => rfl⟩⟩
theorem OwnRowsD.zero : OwnRowsD w base none 0 [] := ⟨[], rfl, ⟨rfl, .inl ⟨rfl, rfl⟩⟩, fun j h => by simp at h, fun i j hi => by simp at hi⟩
theorem OwnRowsD.ge (h : OwnRowsD w base A c zs) : ∀ g, rowOf A = some g → base ≤ g ∧ g < w.heap.size := h.weak.ge
theorem OwnRowsD.at_ (h : OwnRowsD w base A c zs) : RowsAt w w.heap.size A zs := h.weak.at_
theorem OwnRowsD.cap_ (h : OwnRowsD w base A c zs) : zs.length ≤ c := h.weak.cap_
theorem OwnRowsD.below (h : OwnRowsD w base A c zs) (hb : Below w.heap.size w w') : OwnRowsD w' base A c zs := by
  obtain ⟨xs, h1, h2, h3, h4⟩ := h
  refine ⟨xs, h1, ⟨h2.1, ?_⟩, fun j hj hj' => ?_, h4⟩
  · rcases h2.2 with h0 | ⟨g, cap, cur, he, hg, hh, h5⟩
    · exact .inl h0
    · exact .inr ⟨g, cap, cur, he, hg, (hb.block g (Array.getElem?_eq_some_iff.1 hh).1).trans hh, h5⟩
  · obtain ⟨D, d, e, ho, hn⟩ := h3 j hj hj'
    exact ⟨D, d, e, ho.below hb, hn⟩
theorem OwnRowsD.less (h : OwnRowsD w base A c zs) {base' : Nat} (hb : base' ≤ base) : OwnRowsD w base' A c zs := by
  obtain ⟨xs, h1, h2, h3, h4⟩ := h
  refine ⟨xs, h1, ⟨h2.1, ?_⟩, fun j hj hj' => ?_, h4⟩
  · rcases h2.2 with h0 | ⟨g, cap, cur, he, hg, h5⟩
    · exact .inl h0
    · exact .inr ⟨g, cap, cur, he, Nat.le_trans hb hg, h5⟩
  · obtain ⟨D, d, e, ho, hn⟩ := h3 j hj hj'
    exact ⟨D, d, e, own_mono ho hb, hn⟩
theorem OwnRowsD.set (h : OwnRowsD w base A c zs) {p : Addr} (hp : p.block < base) (v : Value) : OwnRowsD (w.setCell p v) base A c zs := by
  obtain ⟨xs, h1, h2, h3, h4⟩ := h
  refine ⟨xs, h1, ⟨h2.1, ?_⟩, fun j hj hj' => ?_, h4⟩
  · rcases h2.2 with h0 | ⟨g, cap, cur, he, hg, hh, h5⟩
    · exact .inl h0
    · exact .inr ⟨g, cap, cur, he, hg, (Below.heap_setCell w p v g (by omega)).trans hh, h5⟩
  · obtain ⟨D, d, e, ho, hn⟩ := h3 j hj hj'
    refine ⟨D, d, e, ?_, hn⟩
    refine ⟨ho.1, ?_⟩
    rcases ho.2 with h0 | ⟨g, cap, cur, he, hg, hh, h5⟩
    · exact .inl h0
    · exact .inr ⟨g, cap, cur, he, hg, (Below.heap_setCell w p v g (by omega)).trans hh, h5⟩
/-- opened: the lists by their places -/
theorem OwnRowsD.open_ (h : OwnRowsD w base A c zs) : ∃ (Ds : Nat → Option Addr) (ds : Nat → Nat),
    (∀ k (hk : k < zs.length), (∃ g, A = some ⟨g, 0, none⟩ ∧ base ≤ g ∧ g < w.heap.size ∧ w.cell? ⟨g, k, none⟩ = some (.slice (Ds k) (zs[k]'hk).length (ds k))) ∧ Own w base (Ds k) (ds k) (zs[k]'hk) ∧ ∀ g, rowOf (Ds k) = some g → rowOf A ≠ some g) ∧
    ∀ i j, i < zs.length → j < zs.length → i ≠ j → ∀ g, rowOf (Ds i) = some g → rowOf (Ds j) ≠ some g := by
  obtain ⟨xs, h1, h2, h3, h4⟩ := h
  have each : ∀ k, k < zs.length → ∃ p : Option Addr × Nat, ∀ (hk : k < zs.length) (hk' : k < xs.length), xs[k]'hk' = .slice p.1 (zs[k]'hk).length p.2 ∧ Own w base p.1 p.2 (zs[k]'hk) ∧ ∀ g, rowOf p.1 = some g → rowOf A ≠ some g := fun k hk => by
    obtain ⟨D, d, e, ho, hn⟩ := h3 k hk (by omega)
    exact ⟨(D, d), fun _ _ => ⟨e, ho, hn⟩⟩
  obtain ⟨f, hf⟩ := Go.Deep.choose_lt each
  refine ⟨fun k => (f k).1, fun k => (f k).2, fun k hk => ⟨?_, (hf k hk hk (by omega)).2⟩, fun i j hi hj hij g hg => ?_⟩
  · rcases h2.2 with ⟨he, h0⟩ | ⟨g, cap, cur, he, hg, hh, _, _, _, ht⟩
    · omega
    · have hA : A = some ⟨g, 0, none⟩ := by injection he
      refine ⟨g, hA, hg, (Array.getElem?_eq_some_iff.1 hh).1, ?_⟩
      have h5 : (cur.toList.take (zs.length * 1))[k]? = some (.slice (f k).1 (zs[k]'hk).length (f k).2) := by
        rw [ht, List.getElem?_eq_getElem (by omega), (hf k hk hk (by omega)).1]
      rw [List.getElem?_take] at h5
      split at h5
      · rw [cell_of_row w g k cur 22 (0, 0) hh]
        simpa [Array.getElem?_toList] using h5
      · cases h5
  · have hh := h4 i j (by omega) (by omega) hij g
    rw [(hf i hi hi (by omega)).1, (hf j hj hj (by omega)).1, rowOf_own, rowOf_own] at hh
    exact hh hg
end

set_option maxRecDepth 100000 in
theorem run_append_rowsd (w0 w : World) (base c : Nat) (A : Option Addr) (zs : List (List Int)) (h0 : OwnRowsD w0 base A c zs) (hb0 : Below w0.heap.size w0 w) (b : Nat) (y : List Int) (D : Option Addr) (d : Nat) (T : TypeId) (hy : Own w w0.heap.size D d y)
    (hc : w.heap[b]? = some (.cells #[.slice D y.length d] T (0, 0))) (h63 : zs.length + 1 ≤ 4398046511104) (hbase : base ≤ w0.heap.size) (ty : TypeId) :
    ∃ A' c' w', (Builtin.append_ #[23, 23] ty #[.slice A zs.length c, .slice (some ⟨b, 0, none⟩) 1 1]).run Tryd.prog w = .ok (.slice A' (zs ++ [y]).length c') w' ∧ OwnRowsD w' base A' c' (zs ++ [y]) ∧ w.grownBy w' (rowOf A) ∧
      (rowOf A' = rowOf A ∨ rowOf A' = some w.heap.size) := by
  obtain ⟨i0, hi, hz, hsz, hby⟩ := info_parts rows_info
  have hw := h0.below hb0
  have hlt0 := fun g hg => (h0.ge g hg).2
  obtain ⟨xs0, x01, x02, x03, x04⟩ := h0
  obtain ⟨v', w', hrun, h2, h3, _, h5⟩ := run_append_own_at (P := Tryd.prog) w base 23 ty 22 i0 (.slice none 0 0) 1 24 Tryd.underlying23 hi hz hsz hby rfl (by decide) (.slice A zs.length c) zs.length xs0 (by
      refine ⟨x02.1, ?_⟩
      rcases x02.2 with h | ⟨g, cap, cur, he, hg, hh, h6⟩
      · exact .inl h
      · exact .inr ⟨g, cap, cur, he, hg, (hb0.block g (Array.getElem?_eq_some_iff.1 hh).1).trans hh, h6⟩)
    ⟨b, 0, none⟩ 1 1 [.slice D y.length d] (by simp) (by
      intro j u hu
      cases j with
      | zero =>
        have hu : Value.slice D y.length d = u := by simpa using hu
        subst hu
        rw [add_plain, Lib.cell_of_heap hc]; rfl
      | succ j => simp at hu) (by intro u hu; rw [List.mem_singleton.1 hu]; rfl) (by simp only [maxLen]; omega) (by omega) (Nat.le_trans hbase hb0.size)
  have hf2 : ∃ A' c', v' = .slice A' (zs.length + 1) c' := by
    rcases h2.2 with ⟨he, hn⟩ | ⟨g, cap, cur, he, _⟩
    · omega
    · exact ⟨_, _, he⟩
  obtain ⟨A', c', rfl⟩ := hf2
  have e : (zs ++ [y]).length = zs.length + 1 := by simp
  rw [rowOf_own, rowOf_own] at h5
  rw [rowOf_own] at h3
  have hyb := own_blk hy
  have hnA : ∀ g, rowOf D = some g → rowOf A ≠ some g := fun g hg ha => by have := hlt0 g ha; have := (hyb g hg).1; omega
  have newA : ∀ g, g < w.heap.size → rowOf A ≠ some g → rowOf A' ≠ some g := fun g hg ha => by
    rcases h5 with h | h
    · rw [h]; exact ha
    · rw [h]; intro h; have := Option.some.inj h; omega
  refine ⟨A', c', w', by rw [e]; exact hrun, ⟨xs0 ++ [.slice D y.length d], by simp [x01], by rw [e]; exact h2, fun j hj hj' => ?_, fun i j hi hj hij g hg => ?_⟩, h3, h5⟩
  · by_cases hjz : j < zs.length
    · obtain ⟨E, k, e1, e2, e3⟩ := x03 j hjz (by omega)
      rw [List.getElem_append_left (by omega), List.getElem_append_left hjz]
      refine ⟨E, k, e1, (e2.below hb0).grown h3 (fun g hg => e3 g hg), fun g hg => newA g ?_ (e3 g hg)⟩
      exact Nat.lt_of_lt_of_le (own_blk e2 g hg).2 hb0.size
    · obtain rfl : j = zs.length := by simp at hj; omega
      have q1 : (xs0 ++ [.slice D y.length d])[zs.length]'hj' = .slice D y.length d := by
        rw [List.getElem_append_right (by omega)]; simp
      have q2 : (zs ++ [y])[zs.length]'hj = y := by
        rw [List.getElem_append_right (by omega)]; simp
      rw [q1, q2]
      exact ⟨D, d, rfl, own_mono (hy.grown h3 (fun g hg => hnA g hg)) hbase, fun g hg => newA g (hyb g hg).2 (hnA g hg)⟩
  · have old : ∀ k (hk : k < zs.length) (hk' : k < xs0.length) g, (xs0[k]'hk').ownBlock = some g → g < w0.heap.size := fun k hk hk' g hg => by
      obtain ⟨E, n, e1, e2, e3⟩ := x03 k hk hk'
      rw [e1, rowOf_own] at hg
      exact (own_blk e2 g hg).2
    have len : (xs0 ++ [Value.slice D y.length d]).length = zs.length + 1 := by simp [x01]
    by_cases hiz : i < zs.length
    · rw [List.getElem_append_left (by omega)] at hg
      by_cases hjz : j < zs.length
      · rw [List.getElem_append_left (by omega)]
        exact x04 i j (by omega) (by omega) hij g hg
      · have q1 : (xs0 ++ [.slice D y.length d])[j]'hj = .slice D y.length d := by
          have : j = zs.length := by omega
          subst this
          rw [List.getElem_append_right (by omega)]; simp
        rw [q1, rowOf_own]
        intro hd
        have := old i hiz (by omega) g hg
        have := (hyb g hd).1
        omega
    · have q1 : (xs0 ++ [.slice D y.length d])[i]'hi = .slice D y.length d := by
        have : i = zs.length := by omega
        subst this
        rw [List.getElem_append_right (by omega)]; simp
      rw [q1, rowOf_own] at hg
      have hjz : j < zs.length := by omega
      rw [List.getElem_append_left (by omega)]
      intro hd
      have := old j hjz (by omega) g hd
      have := (hyb g hg).1
      omega
theorem wpList_append_rowsd {ops : Array Oper} {rest : List Oper} {o : Oper} {a : Act} {w : World} {Q : Exit → Act → World → Prop} (hgd : o.guard = none) (s x : Operand)
    (ho : o.op = .call { callee := .builtin .append, args := #[s, x], argTypes := #[23, 23] })
    (w0 : World) (base c : Nat) (A : Option Addr) (zs : List (List Int)) (h0 : OwnRowsD w0 base A c zs) (hb0 : Below w0.heap.size w0 w) (b : Nat) (y : List Int) (D : Option Addr) (d : Nat) (T : TypeId) (hy : Own w w0.heap.size D d y)
    (hc : w.heap[b]? = some (.cells #[.slice D y.length d] T (0, 0))) (hs : a.eval s = .slice A zs.length c) (hx : a.eval x = .slice (some ⟨b, 0, none⟩) 1 1)
    (h63 : zs.length + 1 ≤ 4398046511104) (hbase : base ≤ w0.heap.size)
    (h : ∀ A' c' w' (zl : List (List Int)), Hid (zl = zs ++ [y]) → OwnRowsD w' base A' c' zl → w.grownBy w' (rowOf A) → (rowOf A' = rowOf A ∨ rowOf A' = some w.heap.size) → wpList Tryd.prog ops Q rest (a.put o.dst (.slice A' zl.length c')) w') : wpList Tryd.prog ops Q (o :: rest) a w := by
  obtain ⟨A', c', w', hrun, h2, h3, h4⟩ := run_append_rowsd w0 w base c A zs h0 hb0 b y D d T hy hc h63 hbase o.type
  refine wpList_plain hgd fun K hK => ?_
  unfold Oper.wp execOp
  simp only [ho, resolve, invoke, builtin, Sem.run_bind, Sem.run_pure, Result.andThen_ok, List.map_toArray, List.map_cons, List.map_nil, hs, hx, hrun]
  exact hK _ _ (h A' c' w' _ rfl h2 h3 h4)
end Go.Proofs.YtbajkbkfinineaaDoor.Ints
