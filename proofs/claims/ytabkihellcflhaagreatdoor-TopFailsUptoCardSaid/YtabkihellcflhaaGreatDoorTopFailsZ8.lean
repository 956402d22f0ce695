/- TopFails, part 8 of the proof: A row of values that the call itself makes, apart from a source's blocks: append of one value. Conditions: the size. -/
import Derived.Test.YtabkihellcflhaaGreatDoorTopFailsZ7
/- A row of values that the call itself makes, apart from a source's blocks: append of one value. Conditions: the size. -/
namespace Go.Proofs.YtabkihellcflhaaGreatDoor.Vals
open Go.RowKit Go.WideShapes Go.ChangeShapes
set_option linter.unusedVariables false

/-- New memory of the call's own, the row's block and the blocks of X aside. -/
def MineX (w : World) (base : Nat) (A : Option Addr) (X : Nat → Prop) : Nat → Prop := fun b => base ≤ b ∧ b < w.heap.size ∧ blockOf A ≠ some b ∧ ¬ X b
/-- The row at A, of the call's own, none of X, holds the values acc, each of at most d levels. -/
def OwnX (w : World) (base : Nat) (A : Option Addr) (c : Nat) (acc : List Tr) (d : Nat) (X : Nat → Prop) : Prop :=
  (∀ g, blockOf A = some g → ¬ X g) ∧ ∃ xs : List (Value × Value × Value), xs.length = acc.length ∧ w.ownsRow base 47 3 (.slice A acc.length c) acc.length (xs.flatMap three) ∧
    ∀ j (h : j < acc.length) (h' : j < xs.length), TAt w (MineX w base A X) d (.agg #[(xs[j]'h').1, (xs[j]'h').2.1, (xs[j]'h').2.2]) (acc[j]'h)
theorem OwnX.none_ {w : World} {base d : Nat} {X : Nat → Prop} : OwnX w base none 0 [] d X := ⟨(fun g h => by cases h), [], rfl, ⟨rfl, .inl ⟨rfl, rfl⟩⟩, fun j h => by simp at h⟩
theorem OwnX.t {w : World} {base c d : Nat} {A : Option Addr} {acc : List Tr} {X : Nat → Prop} (h : OwnX w base A c acc d X) : OwnT w base A c acc d := by
  obtain ⟨_, xs, h1, h2, h3⟩ := h
  exact ⟨xs, h1, h2, fun j hj hj' => (h3 j hj hj').keep fun b hm => ⟨⟨hm.1, hm.2.1, hm.2.2.1⟩, fun _ => rfl⟩⟩
/-- what was there, X aside, is as it was; and what is new is none of X' but by being new -/
structure Mv (X : Nat → Prop) (w w' : World) (X' : Nat → Prop) : Prop where
  os : w'.os = w.os
  tape : w'.tape = w.tape
  output : w'.output = w.output
  size : w.heap.size ≤ w'.heap.size
  block : ∀ b, b < w.heap.size → ¬ X b → w'.heap[b]? = w.heap[b]?
  new : ∀ b, X' b → X b ∨ w.heap.size ≤ b
theorem OwnX.mv {w w' : World} {base c d : Nat} {A : Option Addr} {acc : List Tr} {X X' : Nat → Prop} (h : OwnX w base A c acc d X) (hm : Mv X w w' X') : OwnX w' base A c acc d X' := by
  have hg := h.t.ge
  obtain ⟨hn, xs, h1, h2, h3⟩ := h
  refine ⟨fun g e hx => ?_, xs, h1, ⟨h2.1, ?_⟩, fun j hj hj' => (h3 j hj hj').keep fun b hb => ⟨⟨hb.1, Nat.lt_of_lt_of_le hb.2.1 hm.size, hb.2.2.1, fun hx => ?_⟩, fun o => World.cell?_of_block (hm.block b hb.2.1 hb.2.2.2)⟩⟩
  · rcases hm.new g hx with h | h
    · exact hn g e h
    · have := (hg g e).2; omega
  · rcases h2.2 with h0 | ⟨g, cap, cur, he, hbg, hh, r⟩
    · exact .inl h0
    · refine .inr ⟨g, cap, cur, he, hbg, (hm.block g (Array.getElem?_eq_some_iff.1 hh).1 (hn g ?_)).trans hh, r⟩
      injection he with he; subst he; rfl
  · rcases hm.new b hx with h | h
    · exact hb.2.2.2 h
    · have := hb.2.1; omega
set_option maxRecDepth 100000 in
theorem run_append_x (w : World) (base c d : Nat) (A : Option Addr) (acc : List Tr) (X : Nat → Prop) (hX : ∀ b, X b → b < w.heap.size) (hown : OwnX w base A c acc d X) (b : Nat) (x0 x1 x2 : Value) (c2 : Nat) (t : Tr)
    (k0 : w.cell? ⟨b, 0, none⟩ = some x0) (k1 : w.cell? ⟨b, 1, none⟩ = some x1) (k2 : w.cell? ⟨b, 2, none⟩ = some x2) (one : x0.oneCell' = true ∧ x1.oneCell' = true ∧ x2.oneCell' = true)
    (ht : TAt w (MineX w base A X) d (.agg #[x0, x1, x2]) t)
    (h63 : acc.length + 1 ≤ 1099511627776) (hbase : base ≤ w.heap.size) (ty : TypeId) :
    ∃ A' c' w', (Builtin.append_ #[45, 45] ty #[.slice A acc.length c, .slice (some ⟨b, 0, none⟩) 1 c2]).run Tryz.prog w = .ok (.slice A' (acc ++ [t]).length c') w' ∧ OwnX w' base A' c' (acc ++ [t]) d X ∧ w.grownBy w' (blockOf A) := by
  obtain ⟨i0, hi, hz, hsz, hby⟩ := info_parts val_info
  obtain ⟨hnx, xs, h1, h2, h3⟩ := hown
  have hcells : ∀ j u, ([x0, x1, x2] : List Value)[j]? = some u → w.cell? ((⟨b, 0, none⟩ : Addr).add j) = some u := by
    intro j u hu
    rw [Go.WideShapes.add_plain, Nat.zero_add]
    match j, hu with
    | 0, hu => rw [k0]; simpa using hu
    | 1, hu => rw [k1]; simpa using hu
    | 2, hu => rw [k2]; simpa using hu
    | j + 3, hu => simp at hu
  obtain ⟨v', w', hrun, r2, r3, _, r5⟩ := run_append_own_at (P := Tryz.prog) w base 45 ty 47 i0 _ 3 40 Tryz.underlying45 hi hz hsz hby rfl (by decide) _ acc.length _ h2
    ⟨b, 0, none⟩ 1 c2 [x0, x1, x2] rfl hcells (by
      intro u hu
      simp only [List.mem_cons, List.not_mem_nil, or_false] at hu
      rcases hu with rfl | rfl | rfl
      · exact one.1
      · exact one.2.1
      · exact one.2.2) (by simp only [maxLen]; omega) (by omega) hbase
  have hv : ∃ A' c', v' = .slice A' (acc.length + 1) c' := by
    rcases r2.2 with ⟨he, hn⟩ | ⟨g, cap, cur, he, _⟩
    · omega
    · exact ⟨_, _, he⟩
  obtain ⟨A', c', rfl⟩ := hv
  rw [blockOf_own] at r3
  rw [blockOf_own, blockOf_own] at r5
  have e : (acc ++ [t]).length = acc.length + 1 := by simp
  have keep : ∀ b, MineX w base A X b → MineX w' base A' X b ∧ ∀ o, w'.cell? ⟨b, o, none⟩ = w.cell? ⟨b, o, none⟩ := by
    intro q hq
    refine ⟨⟨hq.1, Nat.lt_of_lt_of_le hq.2.1 r3.size, fun e => ?_, hq.2.2.2⟩, fun o => World.cell?_of_block (r3.block q hq.2.1 (fun e => hq.2.2.1 e.symm))⟩
    rcases r5 with h | h
    · rw [h] at e; exact hq.2.2.1 e
    · rw [h] at e
      have := hq.2.1
      injection e with e
      omega
  have hnx' : ∀ g, blockOf A' = some g → ¬ X g := by
    intro g hg hx
    rcases r5 with h | h
    · rw [h] at hg; exact hnx g hg hx
    · rw [h] at hg
      injection hg with hg
      have := hX g hx
      omega
  refine ⟨A', c', w', by rw [e]; exact hrun, ⟨hnx', xs ++ [(x0, x1, x2)], by simp [h1], ?_, fun j hj hj' => ?_⟩, r3⟩
  · rw [e, List.flatMap_append]
    exact r2
  · by_cases hlt : j < acc.length
    · rw [List.getElem_append_left hlt]
      have hlt' : j < xs.length := by omega
      rw [List.getElem_append_left hlt']
      exact (h3 j hlt hlt').keep keep
    · obtain rfl : j = acc.length := by rw [e] at hj; omega
      rw [List.getElem_append_right (by omega), List.getElem_append_right (by omega)]
      simp only [h1, Nat.sub_self, List.getElem_cons_zero]
      exact ht.keep keep

theorem wpList_append_x {ops : Array Oper} {rest : List Oper} {o : Oper} {a : Act} {w : World} {Q : Exit → Act → World → Prop} (hgd : o.guard = none) (s x : Operand)
    (ho : o.op = .call { callee := .builtin .append, args := #[s, x], argTypes := #[45, 45] })
    (base c d : Nat) (A : Option Addr) (acc : List Tr) (X : Nat → Prop) (hX : ∀ b, X b → b < w.heap.size) (hown : OwnX w base A c acc d X) (b : Nat) (x0 x1 x2 : Value) (c2 : Nat) (t : Tr)
    (k0 : w.cell? ⟨b, 0, none⟩ = some x0) (k1 : w.cell? ⟨b, 1, none⟩ = some x1) (k2 : w.cell? ⟨b, 2, none⟩ = some x2) (one : x0.oneCell' = true ∧ x1.oneCell' = true ∧ x2.oneCell' = true)
    (ht : TAt w (MineX w base A X) d (.agg #[x0, x1, x2]) t)
    (hs : a.eval s = .slice A acc.length c) (hx : a.eval x = .slice (some ⟨b, 0, none⟩) 1 c2)
    (h63 : acc.length + 1 ≤ 1099511627776) (hbase : base ≤ w.heap.size)
    (h : ∀ A' c' w' (zl : List Tr), Hid (zl = acc ++ [t]) → OwnX w' base A' c' zl d X → w.grownBy w' (blockOf A) → wpList Tryz.prog ops Q rest (a.put o.dst (.slice A' zl.length c')) w') : wpList Tryz.prog ops Q (o :: rest) a w := by
  obtain ⟨A', c', w', hrun, h2, h3⟩ := run_append_x w base c d A acc X hX hown b x0 x1 x2 c2 t k0 k1 k2 one ht h63 hbase o.type
  refine wpList_plain hgd fun K hK => ?_
  unfold Oper.wp execOp
  simp only [ho, resolve, invoke, builtin, Sem.run_bind, Sem.run_pure, Result.andThen_ok, List.map_toArray, List.map_cons, List.map_nil, hs, hx, hrun]
  exact hK _ _ (h A' c' w' _ rfl h2 h3)
end Go.Proofs.YtabkihellcflhaaGreatDoor.Vals
