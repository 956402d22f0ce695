/- RoseTells, part 32 of the proof: Rows of one generator, so often: append. -/
import Derived.Test.YtfpbegagblekiaaDoorRoseTellsZ30
/- Rows of one generator, so often: append. -/
namespace Go.Proofs.YtfpbegagblekiaaDoor.Gens
open Go.RowKit Lists Ints Vals Go.ChangeShapes
set_option linter.unusedVariables false

/-- a row of one generator, so often -/
def OwnQ (w : World) (base : Nat) (A : Option Addr) (c : Nat) (X : List Value) (m : Nat) : Prop :=
  w.ownsRow base 24 4 (.slice A m c) m (List.replicate m X).flatten
theorem OwnQ.none_ {w : World} {base : Nat} {X : List Value} : OwnQ w base none 0 X 0 := ⟨rfl, .inl ⟨rfl, rfl⟩⟩
theorem OwnQ.below {w w' : World} {base c m : Nat} {A : Option Addr} {X : List Value} (h : OwnQ w base A c X m) (hb : Below w.heap.size w w') : OwnQ w' base A c X m := by
  refine ⟨h.1, ?_⟩
  rcases h.2 with h0 | ⟨g, cap, cur, he, hbg, hh, r⟩
  · exact .inl h0
  · exact .inr ⟨g, cap, cur, he, hbg, (hb.block g (Array.getElem?_eq_some_iff.1 hh).1).trans hh, r⟩
theorem OwnQ.ge {w : World} {base c m : Nat} {A : Option Addr} {X : List Value} (h : OwnQ w base A c X m) : ∀ g, blockOf A = some g → base ≤ g ∧ g < w.heap.size := by
  intro g hg
  rcases h.2 with ⟨he, _⟩ | ⟨g', cap, cur, he, hb, hh, _⟩
  · injection he with he; subst he; cases hg
  · injection he with he; subst he
    have : g' = g := by simpa [blockOf] using hg
    subst this
    exact ⟨hb, (Array.getElem?_eq_some_iff.1 hh).1⟩
theorem gen_info : (Tryd.prog.info? 24).map (fun i => (i.zero, i.size, i.bytes)) = some (some (.agg #[.int .i64 0, .int .i64 0, .int .i64 0, .slice none 0 0]), 4, 48) := by kernel_rfl
set_option maxRecDepth 100000 in
theorem run_append_q (w : World) (base c m : Nat) (A : Option Addr) (x0 x1 x2 x3 : Value) (hown : OwnQ w base A c [x0, x1, x2, x3] m) (b c2 : Nat)
    (k0 : w.cell? ⟨b, 0, none⟩ = some x0) (k1 : w.cell? ⟨b, 1, none⟩ = some x1) (k2 : w.cell? ⟨b, 2, none⟩ = some x2) (k3 : w.cell? ⟨b, 3, none⟩ = some x3) (one : x0.oneCell' = true ∧ x1.oneCell' = true ∧ x2.oneCell' = true ∧ x3.oneCell' = true)
    (h63 : m + 1 ≤ 1099511627776) (hbase : base ≤ w.heap.size) (ty : TypeId) :
    ∃ A' c' w', (Builtin.append_ #[22, 22] ty #[.slice A m c, .slice (some ⟨b, 0, none⟩) 1 c2]).run Tryd.prog w = .ok (.slice A' (m + 1) c') w' ∧ OwnQ w' base A' c' [x0, x1, x2, x3] (m + 1) ∧ w.grownBy w' (blockOf A) := by
  obtain ⟨i0, hi, hz, hsz, hby⟩ := info_parts gen_info
  have hcells : ∀ j u, ([x0, x1, x2, x3] : List Value)[j]? = some u → w.cell? ((⟨b, 0, none⟩ : Addr).add j) = some u := by
    intro j u hu
    rw [Go.WideShapes.add_plain, Nat.zero_add]
    match j, hu with
    | 0, hu => rw [k0]; simpa using hu
    | 1, hu => rw [k1]; simpa using hu
    | 2, hu => rw [k2]; simpa using hu
    | 3, hu => rw [k3]; simpa using hu
    | j + 4, hu => simp at hu
  obtain ⟨v', w', hrun, r2, r3, _, r5⟩ := run_append_own_at (P := Tryd.prog) w base 22 ty 24 i0 _ 4 48 Tryd.underlying22 hi hz hsz hby rfl (by decide) _ m _ hown
    ⟨b, 0, none⟩ 1 c2 [x0, x1, x2, x3] rfl hcells (by
      intro u hu
      simp only [List.mem_cons, List.not_mem_nil, or_false] at hu
      rcases hu with rfl | rfl | rfl | rfl
      · exact one.1
      · exact one.2.1
      · exact one.2.2.1
      · exact one.2.2.2) (by simp only [maxLen]; omega) (by omega) hbase
  have hv : ∃ A' c', v' = .slice A' (m + 1) c' := by
    rcases r2.2 with ⟨he, hn⟩ | ⟨g, cap, cur, he, _⟩
    · omega
    · exact ⟨_, _, he⟩
  obtain ⟨A', c', rfl⟩ := hv
  rw [blockOf_own] at r3
  refine ⟨A', c', w', hrun, ?_, r3⟩
  unfold OwnQ
  rw [← List.replicate_append_replicate, List.flatten_append]
  simpa using r2
theorem wpList_append_q {ops : Array Oper} {rest : List Oper} {o : Oper} {a : Act} {w : World} {Q : Exit → Act → World → Prop} (hgd : o.guard = none) (s x : Operand)
    (ho : o.op = .call { callee := .builtin .append, args := #[s, x], argTypes := #[22, 22] })
    (base c m : Nat) (A : Option Addr) (x0 x1 x2 x3 : Value) (hown : OwnQ w base A c [x0, x1, x2, x3] m) (b c2 : Nat)
    (k0 : w.cell? ⟨b, 0, none⟩ = some x0) (k1 : w.cell? ⟨b, 1, none⟩ = some x1) (k2 : w.cell? ⟨b, 2, none⟩ = some x2) (k3 : w.cell? ⟨b, 3, none⟩ = some x3) (one : x0.oneCell' = true ∧ x1.oneCell' = true ∧ x2.oneCell' = true ∧ x3.oneCell' = true)
    (hs : a.eval s = .slice A m c) (hx : a.eval x = .slice (some ⟨b, 0, none⟩) 1 c2)
    (h63 : m + 1 ≤ 1099511627776) (hbase : base ≤ w.heap.size)
    (h : ∀ A' c' w', OwnQ w' base A' c' [x0, x1, x2, x3] (m + 1) → w.grownBy w' (blockOf A) → wpList Tryd.prog ops Q rest (a.put o.dst (.slice A' (m + 1) c')) w') : wpList Tryd.prog ops Q (o :: rest) a w := by
  obtain ⟨A', c', w', hrun, h2, h3⟩ := run_append_q w base c m A x0 x1 x2 x3 hown b c2 k0 k1 k2 k3 one h63 hbase o.type
  refine wpList_plain hgd fun K hK => ?_
  unfold Oper.wp execOp
  simp only [ho, resolve, invoke, builtin, Sem.run_bind, Sem.run_pure, Result.andThen_ok, List.map_toArray, List.map_cons, List.map_nil, hs, hx, hrun]
  exact hK _ _ (h A' c' w' h2 h3)
/-- the row as a list of generators -/
theorem OwnQ.gs {w : World} {base c m n : Nat} {A : Option Addr} {y : Gn} {D : Option Addr} {d : Nat} {S : Nat → Prop} (h : OwnQ w base A c [.int .i64 y.kind, .int .i64 y.a, .int .i64 y.b, .slice D y.subs.length d] m) (hA : ∀ g, blockOf A = some g → S g) (ht : GAt w S n (gv y D d) y) :
    GsS w S n A (List.replicate m y) := fun hp => by
  have hm : 0 < m := by simpa using hp
  rcases h.2 with ⟨he, h0⟩ | ⟨g, cap, cur, he, hbg, hh, hmc, _, hcs, htk⟩
  · omega
  · have hA' : A = some ⟨g, 0, none⟩ := by injection he
    subst hA'
    refine ⟨g, 0, rfl, hA g rfl, fun j hj => ?_⟩
    have hj : j < m := by simpa using hj
    have hcell : ∀ q, q < 4 → w.cell? ⟨g, 0 + j * 4 + q, none⟩ = ([.int .i64 y.kind, .int .i64 y.a, .int .i64 y.b, .slice D y.subs.length d] : List Value)[q]? := fun q hq => by
      have e : (List.replicate m ([.int .i64 y.kind, .int .i64 y.a, .int .i64 y.b, .slice D y.subs.length d] : List Value)).flatten[j * 4 + q]? = ([.int .i64 y.kind, .int .i64 y.a, .int .i64 y.b, .slice D y.subs.length d] : List Value)[q]? := by
        rw [show m = j + (1 + (m - j - 1)) by omega, ← List.replicate_append_replicate, List.flatten_append, List.getElem?_append_right (by simp [List.length_flatten]), ← List.replicate_append_replicate, List.flatten_append, List.getElem?_append_left (by simp [List.length_flatten]; omega)]
        simp [List.length_flatten]
      rw [cell_of_row w g _ cur 24 (0, 0) hh]
      rw [← htk, List.getElem?_take, if_pos (by omega)] at e
      rw [← e, Array.getElem?_toList]
      congr 1
      omega
    exact ⟨_, _, _, _, hcell 0 (by omega), hcell 1 (by omega), hcell 2 (by omega), hcell 3 (by omega), by simpa using ht⟩
end Go.Proofs.YtfpbegagblekiaaDoor.Gens
