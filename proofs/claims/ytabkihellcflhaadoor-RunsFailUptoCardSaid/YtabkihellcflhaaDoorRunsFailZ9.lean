/- RunsFail, part 9 of the proof: A row of values that the call itself makes: append of one value. Conditions: the size. -/
import Derived.Test.YtabkihellcflhaaDoorRunsFailZ8
import Derived.Maps.AppendAt
import Derived.RegionTactic
import Derived.OwnWalk
/- A row of values that the call itself makes: append of one value. Conditions: the size. -/
namespace Go.Proofs.YtabkihellcflhaaDoor.Vals
open Go.RowKit Go.WideShapes Go.ChangeShapes
set_option linter.unusedVariables false

def blockOf (A : Option Addr) : Option Nat := A.map (·.block)
theorem blockOf_own (A : Option Addr) (n c : Nat) : (Value.slice A n c).ownBlock = blockOf A := by cases A <;> rfl
def three (x : Value × Value × Value) : List Value := [x.1, x.2.1, x.2.2]
/-- New memory of the call's own, the row's block aside. -/
def Mine (w : World) (base : Nat) (A : Option Addr) : Nat → Prop := fun b => base ≤ b ∧ b < w.heap.size ∧ blockOf A ≠ some b
/-- The row at A, of the call's own, holds the values acc, each of at most d levels. -/
def OwnT (w : World) (base : Nat) (A : Option Addr) (c : Nat) (acc : List Tr) (d : Nat) : Prop :=
  ∃ xs : List (Value × Value × Value), xs.length = acc.length ∧ w.ownsRow base 44 3 (.slice A acc.length c) acc.length (xs.flatMap three) ∧
    ∀ j (h : j < acc.length) (h' : j < xs.length), TAt w (Mine w base A) d (.agg #[(xs[j]'h').1, (xs[j]'h').2.1, (xs[j]'h').2.2]) (acc[j]'h)

theorem OwnT.none_ {w : World} {base d : Nat} : OwnT w base none 0 [] d := ⟨[], rfl, ⟨rfl, .inl ⟨rfl, rfl⟩⟩, fun j h => by simp at h⟩
theorem OwnT.ge {w : World} {base c d : Nat} {A : Option Addr} {acc : List Tr} (h : OwnT w base A c acc d) : ∀ g, blockOf A = some g → base ≤ g ∧ g < w.heap.size := by
  obtain ⟨xs, _, h, _⟩ := h
  intro g hg
  rcases h.2 with ⟨he, _⟩ | ⟨g', cap, cur, he, hb, hh, _⟩
  · injection he with he; subst he; cases hg
  · injection he with he; subst he
    have : g' = g := by simpa [blockOf] using hg
    subst this
    exact ⟨hb, (Array.getElem?_eq_some_iff.1 hh).1⟩
theorem OwnT.below {w w' : World} {base c d : Nat} {A : Option Addr} {acc : List Tr} (h : OwnT w base A c acc d) (hb : Below w.heap.size w w') : OwnT w' base A c acc d := by
  obtain ⟨xs, h1, h2, h3⟩ := h
  refine ⟨xs, h1, ⟨h2.1, ?_⟩, fun j hj hj' => (h3 j hj hj').keep fun b hm => ⟨⟨hm.1, Nat.lt_of_lt_of_le hm.2.1 hb.size, hm.2.2⟩, fun o => hb.cell (p := ⟨b, o, none⟩) hm.2.1⟩⟩
  rcases h2.2 with h0 | ⟨g, cap, cur, he, hbg, hh, r⟩
  · exact .inl h0
  · exact .inr ⟨g, cap, cur, he, hbg, (hb.block g (Array.getElem?_eq_some_iff.1 hh).1).trans hh, r⟩

theorem flat_len (xs : List (Value × Value × Value)) : (xs.flatMap three).length = xs.length * 3 := by
  induction xs with
  | nil => rfl
  | cons x r ih => simp only [List.flatMap_cons, List.length_append, ih, List.length_cons, three, List.length_nil]; omega
theorem flat_get : ∀ (xs : List (Value × Value × Value)) (j q : Nat) (h : j < xs.length), q < 3 → (xs.flatMap three)[j * 3 + q]? = (three (xs[j]'h))[q]?
  | [], j, q, h, _ => by simp at h
  | x :: r, 0, q, h, hq => by
    simp only [List.flatMap_cons, Nat.zero_mul, Nat.zero_add, List.getElem_cons_zero]
    rw [List.getElem?_append_left (by simp [three]; omega)]
  | x :: r, j + 1, q, h, hq => by
    have ih := flat_get r j q (by simpa using h) hq
    simp only [List.flatMap_cons, List.getElem_cons_succ]
    rw [List.getElem?_append_right (by simp [three]; omega), ← ih]
    congr 1
    simp [three]; omega
/-- what the row holds, as a value of one level more -/
theorem OwnT.at_ {w : World} {base c d : Nat} {A : Option Addr} {acc : List Tr} {l : Bool} {n : Int} (h : OwnT w base A c acc d) (hn : (Lit.int .i64 n).wf = true) :
    TAt w (fun b => base ≤ b ∧ b < w.heap.size) (d + 1) (.agg #[.bool l, .int .i64 n, .slice A acc.length c]) (.node l n acc) := by
  obtain ⟨xs, h1, h2, h3⟩ := h
  refine ⟨hn, A, c, rfl, fun hp => ?_⟩
  rcases h2.2 with ⟨he, h0⟩ | ⟨g, cap, cur, he, hbg, hh, _, _, _, ht⟩
  · simp only [Tr.items] at hp; omega
  · have hA : A = some ⟨g, 0, none⟩ := by injection he
    refine ⟨g, 0, hA, ⟨hbg, (Array.getElem?_eq_some_iff.1 hh).1⟩, fun j hj => ?_⟩
    have hj' : j < xs.length := by rw [h1]; exact hj
    have hcell : ∀ q, q < 3 → w.cell? ⟨g, 0 + j * 3 + q, none⟩ = (three (xs[j]'hj'))[q]? := by
      intro q hq
      rw [cell_of_row w g _ cur 44 (0, 0) hh]
      have e := flat_get xs j q hj' hq
      rw [← ht, List.getElem?_take] at e
      have hlt : j * 3 + q < acc.length * 3 := by
        have : j < acc.length := hj
        omega
      rw [if_pos hlt] at e
      rw [← e, Array.getElem?_toList]
      congr 1
      omega
    exact ⟨_, _, _, hcell 0 (by omega), hcell 1 (by omega), hcell 2 (by omega), (h3 j hj hj').keep fun b hm => ⟨⟨hm.1, hm.2.1⟩, fun _ => rfl⟩⟩

theorem val_info : (Tryd.prog.info? 44).map (fun i => (i.zero, i.size, i.bytes)) = some (some (.agg #[.bool false, .int .i64 0, .slice none 0 0]), 3, 40) := by kernel_rfl

set_option maxRecDepth 100000 in
theorem run_append_tree (w : World) (base c d : Nat) (A : Option Addr) (acc : List Tr) (hown : OwnT w base A c acc d) (b : Nat) (x0 x1 x2 : Value) (c2 : Nat) (t : Tr)
    (k0 : w.cell? ⟨b, 0, none⟩ = some x0) (k1 : w.cell? ⟨b, 1, none⟩ = some x1) (k2 : w.cell? ⟨b, 2, none⟩ = some x2) (one : x0.oneCell' = true ∧ x1.oneCell' = true ∧ x2.oneCell' = true)
    (ht : TAt w (Mine w base A) d (.agg #[x0, x1, x2]) t)
    (h63 : acc.length + 1 ≤ 1099511627776) (hbase : base ≤ w.heap.size) (ty : TypeId) :
    ∃ A' c' w', (Builtin.append_ #[42, 42] ty #[.slice A acc.length c, .slice (some ⟨b, 0, none⟩) 1 c2]).run Tryd.prog w = .ok (.slice A' (acc ++ [t]).length c') w' ∧ OwnT w' base A' c' (acc ++ [t]) d ∧ w.grownBy w' (blockOf A) := by
  obtain ⟨i0, hi, hz, hsz, hby⟩ := info_parts val_info
  obtain ⟨xs, h1, h2, h3⟩ := hown
  have hcells : ∀ j u, ([x0, x1, x2] : List Value)[j]? = some u → w.cell? ((⟨b, 0, none⟩ : Addr).add j) = some u := by
    intro j u hu
    rw [Go.WideShapes.add_plain, Nat.zero_add]
    match j, hu with
    | 0, hu => rw [k0]; simpa using hu
    | 1, hu => rw [k1]; simpa using hu
    | 2, hu => rw [k2]; simpa using hu
    | j + 3, hu => simp at hu
  obtain ⟨v', w', hrun, r2, r3, _, r5⟩ := run_append_own_at (P := Tryd.prog) w base 42 ty 44 i0 _ 3 40 Tryd.underlying42 hi hz hsz hby rfl (by decide) _ acc.length _ h2
    ⟨b, 0, none⟩ 1 c2 [x0, x1, x2] rfl hcells (by
      intro u hu
      simp only [List.mem_cons, List.not_mem_nil, or_false] at hu
      rcases hu with rfl | rfl | rfl
      · exact one.1
      · exact one.2.1
      · exact one.2.2) (by simp only [maxLen]; omega) (by omega) hbase
  have hv : ∃ A' c', v' = .slice A' (acc.length + 1) c' := by
    rcases r2.2 with ⟨he, hn⟩ | ⟨g, cap, cur, he, _⟩
    · omega
    · exact ⟨_, _, he⟩
  obtain ⟨A', c', rfl⟩ := hv
  rw [blockOf_own] at r3
  rw [blockOf_own, blockOf_own] at r5
  have e : (acc ++ [t]).length = acc.length + 1 := by simp
  have keep : ∀ b, Mine w base A b → Mine w' base A' b ∧ ∀ o, w'.cell? ⟨b, o, none⟩ = w.cell? ⟨b, o, none⟩ := by
    intro q hq
    refine ⟨⟨hq.1, Nat.lt_of_lt_of_le hq.2.1 r3.size, fun e => ?_⟩, fun o => World.cell?_of_block (r3.block q hq.2.1 (fun e => hq.2.2 e.symm))⟩
    rcases r5 with h | h
    · rw [h] at e; exact hq.2.2 e
    · rw [h] at e
      have := hq.2.1
      injection e with e
      omega
  refine ⟨A', c', w', by rw [e]; exact hrun, ⟨xs ++ [(x0, x1, x2)], by simp [h1], ?_, fun j hj hj' => ?_⟩, r3⟩
  · rw [e, List.flatMap_append]
    exact r2
  · by_cases hlt : j < acc.length
    · rw [List.getElem_append_left hlt]
      have hlt' : j < xs.length := by omega
      rw [List.getElem_append_left hlt']
      exact (h3 j hlt hlt').keep keep
    · obtain rfl : j = acc.length := by rw [e] at hj; omega
      rw [List.getElem_append_right (by omega), List.getElem_append_right (by omega)]
      simp only [h1, Nat.sub_self, List.getElem_cons_zero]
      exact ht.keep keep

theorem wpList_append_tree {ops : Array Oper} {rest : List Oper} {o : Oper} {a : Act} {w : World} {Q : Exit → Act → World → Prop} (hgd : o.guard = none) (s x : Operand)
    (ho : o.op = .call { callee := .builtin .append, args := #[s, x], argTypes := #[42, 42] })
    (base c d : Nat) (A : Option Addr) (acc : List Tr) (hown : OwnT w base A c acc d) (b : Nat) (x0 x1 x2 : Value) (c2 : Nat) (t : Tr)
    (k0 : w.cell? ⟨b, 0, none⟩ = some x0) (k1 : w.cell? ⟨b, 1, none⟩ = some x1) (k2 : w.cell? ⟨b, 2, none⟩ = some x2) (one : x0.oneCell' = true ∧ x1.oneCell' = true ∧ x2.oneCell' = true)
    (ht : TAt w (Mine w base A) d (.agg #[x0, x1, x2]) t)
    (hs : a.eval s = .slice A acc.length c) (hx : a.eval x = .slice (some ⟨b, 0, none⟩) 1 c2)
    (h63 : acc.length + 1 ≤ 1099511627776) (hbase : base ≤ w.heap.size)
    (h : ∀ A' c' w' (zl : List Tr), Hid (zl = acc ++ [t]) → OwnT w' base A' c' zl d → w.grownBy w' (blockOf A) → wpList Tryd.prog ops Q rest (a.put o.dst (.slice A' zl.length c')) w') : wpList Tryd.prog ops Q (o :: rest) a w := by
  obtain ⟨A', c', w', hrun, h2, h3⟩ := run_append_tree w base c d A acc hown b x0 x1 x2 c2 t k0 k1 k2 one ht h63 hbase o.type
  refine wpList_plain hgd fun K hK => ?_
  unfold Oper.wp execOp
  simp only [ho, resolve, invoke, builtin, Sem.run_bind, Sem.run_pure, Result.andThen_ok, List.map_toArray, List.map_cons, List.map_nil, hs, hx, hrun]
  exact hK _ _ (h A' c' w' _ rfl h2 h3)
end Go.Proofs.YtabkihellcflhaaDoor.Vals
