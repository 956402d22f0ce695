/- Rows of items of k cells each (arrays of numbers), of the call's own or read; append of one item. Conditions: the size. -/
import Derived.Test.YteaicmjihckbjaaDoorGrow
import Derived.Maps.AppendAt
import Derived.RegionTactic
import Derived.Deep.Slices
import Derived.Lib.Builder
import Derived.Lib.AppendZeros
import Derived.Lib.SliceRun
import Derived.OwnWalk
namespace Go.Proofs.YteaicmjihckbjaaDoor.Arr
open Go.RowKit Go.WideShapes Go.ChangeShapes Ints
set_option linter.unusedVariables false

section
variable {α : Type} (k : Nat) (enc : α → List Value)
/-- each item is k cells -/
def Even : Prop := 0 < k ∧ ∀ x, (enc x).length = k ∧ ∀ u ∈ enc x, u.oneCell' = true
variable {k enc}
theorem flat_len (he : Even k enc) (xs : List α) : (xs.flatMap enc).length = xs.length * k := by
  induction xs with
  | nil => simp
  | cons x r ih => simp only [List.flatMap_cons, List.length_append, ih, List.length_cons, (he.2 x).1, Nat.add_mul]; omega
theorem flat_get (he : Even k enc) : ∀ (xs : List α) (j q : Nat) (h : j < xs.length), q < k → (xs.flatMap enc)[j * k + q]? = (enc (xs[j]'h))[q]?
  | [], j, q, h, _ => by simp at h
  | x :: r, 0, q, h, hq => by
    simp only [List.flatMap_cons, Nat.zero_mul, Nat.zero_add, List.getElem_cons_zero]
    rw [List.getElem?_append_left (by rw [(he.2 x).1]; exact hq)]
  | x :: r, j + 1, q, h, hq => by
    have ih := flat_get he r j q (by simpa using h) hq
    simp only [List.flatMap_cons, List.getElem_cons_succ]
    rw [List.getElem?_append_right (by rw [(he.2 x).1, Nat.add_mul]; omega), ← ih]
    congr 1
    rw [(he.2 x).1, Nat.add_mul]
    omega
variable (k enc)
/-- The row at A, of the call's own, holds the items zs. -/
def OwnE (E : TypeId) (w : World) (base : Nat) (A : Option Addr) (c : Nat) (zs : List α) : Prop :=
  w.ownsRow base E k (.slice A zs.length c) zs.length (zs.flatMap enc)
/-- The row at A, in a block of S, holds the items zs. -/
def AtE (w : World) (S : Nat → Prop) (A : Option Addr) (zs : List α) : Prop :=
  0 < zs.length → ∃ b off, A = some ⟨b, off, none⟩ ∧ S b ∧ ∀ j (h : j < zs.length) q, q < k → w.cell? ⟨b, off + (j * k + q), none⟩ = (enc (zs[j]'h))[q]?
variable {k enc}
theorem AtE.keep {w w' : World} {S S' : Nat → Prop} {A : Option Addr} {zs : List α} (h : AtE k enc w S A zs) (hk : ∀ b, S b → S' b ∧ ∀ o, w'.cell? ⟨b, o, none⟩ = w.cell? ⟨b, o, none⟩) : AtE k enc w' S' A zs := fun hp => by
  obtain ⟨b, off, e, hb, hc⟩ := h hp
  exact ⟨b, off, e, (hk b hb).1, fun j hj q hq => ((hk b hb).2 _).trans (hc j hj q hq)⟩
theorem AtE.below {w w' : World} {S : Nat → Prop} {A : Option Addr} {zs : List α} (h : AtE k enc w S A zs) (hs : ∀ b, S b → b < w.heap.size) (hb : Below w.heap.size w w') : AtE k enc w' S A zs :=
  h.keep fun b hS => ⟨hS, fun o => hb.cell (p := ⟨b, o, none⟩) (hs b hS)⟩
theorem OwnE.none_ {E : TypeId} {w : World} {base : Nat} : OwnE k enc E w base none 0 [] := ⟨by simp, .inl ⟨rfl, rfl⟩⟩
theorem OwnE.ge {E : TypeId} {w : World} {base c : Nat} {A : Option Addr} {zs : List α} (h : OwnE k enc E w base A c zs) : ∀ g, rowOf A = some g → base ≤ g ∧ g < w.heap.size := by
  intro g hg
  rcases h.2 with ⟨he, _⟩ | ⟨g', cap, cur, he, hb, hh, _⟩
  · injection he with he; subst he; cases hg
  · injection he with he; subst he
    have : g' = g := by simpa [rowOf] using hg
    subst this
    exact ⟨hb, (Array.getElem?_eq_some_iff.1 hh).1⟩
theorem OwnE.grown {E : TypeId} {w w' : World} {base c : Nat} {A : Option Addr} {zs : List α} {row : Option Nat} (h : OwnE k enc E w base A c zs) (hg : w.grownBy w' row) (hne : ∀ g, rowOf A = some g → row ≠ some g) : OwnE k enc E w' base A c zs := by
  refine ⟨h.1, ?_⟩
  rcases h.2 with h0 | ⟨g, cap, cur, he, hb, hh, h1⟩
  · exact .inl h0
  · refine .inr ⟨g, cap, cur, he, hb, ?_, h1⟩
    injection he with he; subst he
    rw [hg.block g (Array.getElem?_eq_some_iff.1 hh).1 (fun e => hne g rfl e.symm)]
    exact hh
theorem OwnE.below {E : TypeId} {w w' : World} {base c : Nat} {A : Option Addr} {zs : List α} (h : OwnE k enc E w base A c zs) (hb : Below w.heap.size w w') : OwnE k enc E w' base A c zs :=
  h.grown (row := Option.none) ⟨hb.os, hb.tape, hb.output, hb.size, fun k hk _ => hb.block k hk⟩ (fun _ _ e => by cases e)
theorem OwnE.at_ {E : TypeId} {w : World} {base c : Nat} {A : Option Addr} {zs : List α} (he : Even k enc) (h : OwnE k enc E w base A c zs) : AtE k enc w (fun b => base ≤ b ∧ b < w.heap.size) A zs := fun hp => by
  rcases h.2 with ⟨e0, h0⟩ | ⟨g, cap, cur, e0, hbg, hh, _, _, _, ht⟩
  · omega
  · have hA : A = some ⟨g, 0, none⟩ := by injection e0
    refine ⟨g, 0, hA, ⟨hbg, (Array.getElem?_eq_some_iff.1 hh).1⟩, fun j hj q hq => ?_⟩
    rw [Lib.cell_of_heap hh]
    have e := flat_get he zs j q hj hq
    rw [← ht, List.getElem?_take] at e
    have hlt : j * k + q < zs.length * k := by
      have : (j + 1) * k ≤ zs.length * k := Nat.mul_le_mul_right k hj
      rw [Nat.add_mul] at this
      omega
    rw [if_pos hlt] at e
    rw [← e, Array.getElem?_toList]
    congr 1
    omega

set_option maxRecDepth 100000 in
/-- append of one item that lies at b -/
theorem run_append_arr (he : Even k enc) {T E : TypeId} {bytes : Nat} {z : Value} (hT : Tryd.prog.underlying T = some (.slice E)) (hI : (Tryd.prog.info? E).map (fun i => (i.zero, i.size, i.bytes)) = some (some z, k, bytes)) (hz : z.cells.size = k) (w : World) (base c : Nat) (A : Option Addr) (zs : List α) (hown : OwnE k enc E w base A c zs) (b o c2 : Nat) (x : α)
    (hc : ∀ q, q < k → w.cell? ⟨b, o + q, none⟩ = (enc x)[q]?) (h63 : (zs.length + 1) * (bytes + 1) ≤ 140737488355328) (hbase : base ≤ w.heap.size) (ty : TypeId) :
    ∃ A' c' w', (Builtin.append_ #[T, T] ty #[.slice A zs.length c, .slice (some ⟨b, o, none⟩) 1 c2]).run Tryd.prog w = .ok (.slice A' (zs ++ [x]).length c') w' ∧ OwnE k enc E w' base A' c' (zs ++ [x]) ∧ w.grownBy w' (rowOf A) ∧ (rowOf A' = rowOf A ∨ rowOf A' = some w.heap.size) := by
  obtain ⟨i0, hi, hzz, hsz, hby⟩ := info_parts hI
  have hl1 : zs.length + 1 ≤ (zs.length + 1) * (bytes + 1) := Nat.le_mul_of_pos_right _ (by omega)
  have hl2 : (zs.length + 1) * bytes ≤ (zs.length + 1) * (bytes + 1) := Nat.mul_le_mul_left _ (by omega)
  obtain ⟨v', w', hrun, r2, r3, _, r5⟩ := run_append_own_at (P := Tryd.prog) w base T ty E i0 _ k bytes hT hi hzz hsz hby hz he.1 _ zs.length _ hown
    ⟨b, o, none⟩ 1 c2 (enc x) (by rw [(he.2 x).1]; omega) (by
      intro j u hu
      rw [Go.WideShapes.add_plain]
      have hj : j < k := by
        rcases Nat.lt_or_ge j k with h | h
        · exact h
        · rw [List.getElem?_eq_none (by rw [(he.2 x).1]; exact h)] at hu; cases hu
      rw [hc j hj, hu]) (he.2 x).2 (by simp only [maxLen]; omega) (by omega) hbase
  have hv : ∃ A' c', v' = .slice A' (zs.length + 1) c' := by
    rcases r2.2 with ⟨he, hn⟩ | ⟨g, cap, cur, he, _⟩
    · omega
    · exact ⟨_, _, he⟩
  obtain ⟨A', c', rfl⟩ := hv
  rw [rowOf_own] at r3
  rw [rowOf_own, rowOf_own] at r5
  have e : (zs ++ [x]).length = zs.length + 1 := by simp
  refine ⟨A', c', w', by rw [e]; exact hrun, ?_, r3, r5⟩
  unfold OwnE
  rw [e, List.flatMap_append]
  simpa using r2
theorem wpList_append_arr (he : Even k enc) {T E : TypeId} {bytes : Nat} {z : Value} (hT : Tryd.prog.underlying T = some (.slice E)) (hI : (Tryd.prog.info? E).map (fun i => (i.zero, i.size, i.bytes)) = some (some z, k, bytes)) (hz : z.cells.size = k)
    {ops : Array Oper} {rest : List Oper} {o : Oper} {a : Act} {w : World} {Q : Exit → Act → World → Prop} (hgd : o.guard = none) (s x : Operand)
    (ho : o.op = .call { callee := .builtin .append, args := #[s, x], argTypes := #[T, T] })
    (base c : Nat) (A : Option Addr) (zs : List α) (hown : OwnE k enc E w base A c zs) (b of c2 : Nat) (y : α)
    (hc : ∀ q, q < k → w.cell? ⟨b, of + q, none⟩ = (enc y)[q]?)
    (hs : a.eval s = .slice A zs.length c) (hx : a.eval x = .slice (some ⟨b, of, none⟩) 1 c2)
    (h63 : (zs.length + 1) * (bytes + 1) ≤ 140737488355328) (hbase : base ≤ w.heap.size)
    (h : ∀ A' c' w' (zl : List α), Hid (zl = zs ++ [y]) → OwnE k enc E w' base A' c' zl → w.grownBy w' (rowOf A) → (rowOf A' = rowOf A ∨ rowOf A' = some w.heap.size) → wpList Tryd.prog ops Q rest (a.put o.dst (.slice A' zl.length c')) w') : wpList Tryd.prog ops Q (o :: rest) a w := by
  obtain ⟨A', c', w', hrun, h2, h3, h4⟩ := run_append_arr he hT hI hz w base c A zs hown b of c2 y hc h63 hbase o.type
  refine wpList_plain hgd fun K hK => ?_
  unfold Oper.wp execOp
  simp only [ho, resolve, invoke, builtin, Sem.run_bind, Sem.run_pure, Result.andThen_ok, List.map_toArray, List.map_cons, List.map_nil, hs, hx, hrun]
  exact hK _ _ (h A' c' w' _ rfl h2 h3 h4)
end
end Go.Proofs.YteaicmjihckbjaaDoor.Arr
