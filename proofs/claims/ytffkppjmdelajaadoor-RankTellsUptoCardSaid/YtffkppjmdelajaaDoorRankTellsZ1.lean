/- RankTells, part 1 of the proof: Small laws that every text leans on. No program but the given rows' measure. · Slices of numbers (nil, empty or not) as lists; what such an argument reads as. Conditions: none. · append of a slice of numbers (nil, empty or not) onto a row of the call's own. Conditions: the sizes. · append of a slice of numbers onto a row of the call's own, as one step of a region that draws its order. Conditions: the sizes. · Lists of lists of numbers in memory: as they are read, and as a call's own that grow. Conditions: the sizes. · Generators as trees. No program. · Plain laws on generators: what is wrong with one, as the document's own functions ask. No program. · Values (a bool, a number, items) as trees: how they lie in memory, and what an argument reads as. · Plain laws on lists of numbers: which is less, where both first differ. No program. · Plain laws on a tape's text. No program. -/
import Derived.Test.YtffkppjmdelajaaDoorRows
import Derived.WalkKit
import Derived.Deep.RegionWith
import Derived.Deep.QuietTactic
import Derived.BigQuiet
import Derived.Lib.Hide
import Derived.IntWalk
import Derived.ProofKit
import Derived.OpenShut
import Derived.ChangeOld
import Derived.Below
import Derived.Deep.Draws
import Derived.Maps.AppendAt
import Derived.RegionTactic
import Derived.OwnWalk
import Derived.Deep.RegionLaw
import Derived.Deep.Slices
import Derived.Lib.Builder
import Derived.Deep.Fields
import Derived.Lib.SmallJoins
import Derived.Lib.ItoaNum
import Derived.Lib.ItoaLen
/- Small laws that every text leans on. No program but the given rows' measure. -/
namespace Go.Proofs.YtffkppjmdelajaaDoor.Ints
open Go.RowKit Go.WideShapes Go.ChangeShapes
set_option linter.unusedVariables false

theorem ret_int {k : IntKind} {a b : Int} (h : a = b) : Ending.returned (.int k a) = .returned (.int k b) := by rw [h]
theorem ret_v {a b : Value} (h : a = b) : Ending.returned a = .returned b := by rw [h]
theorem ret_b {a b : Bool} (h : a = b) : Ending.returned (.bool a) = .returned (.bool b) := by rw [h]
theorem on {a b c : World} (h : Below a.heap.size a b) (k : Below b.heap.size b c) : Below a.heap.size a c := h.trans (k.mono h.size)
theorem after2 {w w1 : World} {o p : Obj} (h : Below ((w.alloc o).alloc p).heap.size ((w.alloc o).alloc p) w1) : Below w.heap.size w w1 :=
  Below.trans (((Below.refl _ _).alloc (Nat.le_refl _) o).alloc (by simp) p) (h.mono (by simp; omega))
theorem after1 {w w1 : World} {o : Obj} (h : Below (w.alloc o).heap.size (w.alloc o) w1) : Below w.heap.size w w1 :=
  Below.trans ((Below.refl _ _).alloc (Nat.le_refl _) o) (h.mono (by simp))
theorem below_drewN (w : World) (n : Nat) : Below w.heap.size w (w.drewN n) := ⟨rfl, rfl, rfl, Nat.le_refl _, fun _ _ => rfl⟩
theorem below_trans {w a b : World} (h : Below w.heap.size w a) (k : Below a.heap.size a b) : Below w.heap.size w b := h.trans (k.mono h.size)
theorem size_toList (s : ByteArray) : s.size = s.data.toList.length := by rw [Array.length_toList]; rfl
theorem string_bulk {H : Type} (s : ByteArray) : Rows.uptoBulk (DataW.lit (H := H) (.string s.data.toList)) = s.size + 1 := by
  rw [size_toList]; simp only [Rows.uptoBulk]
theorem one_le_bulk {H : Type} (d : DataW H) : 1 ≤ Rows.uptoBulk d := by
  cases d with
  | lit l => cases l <;> simp [Rows.uptoBulk]
  | nil => simp [Rows.uptoBulk]
  | ptr d => simp [Rows.uptoBulk]
  | slice elems spare => simp [Rows.uptoBulk]
  | agg parts => simp [Rows.uptoBulk]
  | iface t d => simp [Rows.uptoBulk]
  | map entries => simp [Rows.uptoBulk]
  | held h => simp [Rows.uptoBulk]
end Go.Proofs.YtffkppjmdelajaaDoor.Ints

/- Slices of numbers (nil, empty or not) as lists; what such an argument reads as. Conditions: none. -/
namespace Go.Proofs.YtffkppjmdelajaaDoor.Ints
open Go.RowKit Go.WideShapes Go.ChangeShapes

/-- The slice at A holds the numbers l, below block B. -/
def At (w : World) (B : Nat) (A : Option Addr) (l : List Int) : Prop :=
  0 < l.length → ∃ b off, A = some ⟨b, off, none⟩ ∧ b < B ∧ ∀ j, j < l.length → w.cell? ⟨b, off + j, none⟩ = some (.int .i64 (l.getD j 0))

section
variable {w w' : World} {B : Nat} {A : Option Addr} {l : List Int}
theorem At.nil : At w B A [] := fun h => by simp at h
theorem At.keep (h : At w B A l) (hk : ∀ b o, b < B → w'.cell? ⟨b, o, none⟩ = w.cell? ⟨b, o, none⟩) : At w' B A l := fun hp => by
  obtain ⟨b, off, e, hb, hc⟩ := h hp
  exact ⟨b, off, e, hb, fun j hj => (hk b _ hb).trans (hc j hj)⟩
theorem At.more {B' : Nat} (h : At w B A l) (hB : B ≤ B') : At w B' A l := fun hp => by
  obtain ⟨b, off, e, hb, hc⟩ := h hp
  exact ⟨b, off, e, by omega, hc⟩
theorem At.below (h : At w B A l) (hb : Below B w w') : At w' B A l := h.keep fun b o hp => hb.cell (p := ⟨b, o, none⟩) hp
theorem At.drewN (h : At w B A l) (k : Nat) : At (w.drewN k) B A l := h
theorem At.drew (h : At w B A l) : At w.drew B A l := h
theorem At.alloc (h : At w B A l) (hB : B ≤ w.heap.size) (o : Obj) : At (w.alloc o) B A l := h.keep fun b p hp => World.cell?_alloc_lt w o ⟨b, p, none⟩ (by show b < _; omega)
theorem At.grown {row : Option Nat} (h : At w B A l) (hg : w.grownBy w' row) (hB : B ≤ w.heap.size) (hr : ∀ g, row = some g → B ≤ g) : At w' B A l :=
  h.below ((Below.refl _ _).grown hg hB hr)
theorem At.own {base E c : Nat} (h : w.ownsRow base E 1 (.slice A l.length c) l.length (l.map (Value.int .i64))) : At w w.heap.size A l := fun hp => by
  rcases h.2 with ⟨he, h0⟩ | ⟨g, cap, cur, he, _, hh, _, _, _, ht⟩
  · omega
  · have hA : A = some ⟨g, 0, none⟩ := by injection he
    refine ⟨g, 0, hA, ?_, fun j hj => ?_⟩
    · exact (Array.getElem?_eq_some_iff.1 hh).1
    · have hj' : cur.toList[j]? = some (.int .i64 (l.getD j 0)) := by
        have h1 : (cur.toList.take (l.length * 1))[j]? = some (.int .i64 (l.getD j 0)) := by
          rw [ht, List.getElem?_map, List.getElem?_eq_getElem hj]
          simp [List.getD, List.getElem?_eq_getElem hj]
        rw [List.getElem?_take] at h1
        split at h1
        · exact h1
        · cases h1
      rw [cell_of_row w g (0 + j) cur E (0, 0) hh]
      simpa [Array.getElem?_toList] using hj'
end

/-! A slice of numbers that came in. -/
set_option maxRecDepth 100000 in
theorem cellsInt : Tryd.prog.cellsOf 3 = 1 := by kernel_rfl
theorem bulk_lits {H : Type} (k : IntKind) (zs : List Int) : Rows.uptoBulkAll (lits (H := H) k zs) = zs.length := by
  induction zs with
  | nil => rfl
  | cons z zs ih =>
    show Rows.uptoBulk (DataW.lit (Lit.int k z)) + Rows.uptoBulkAll (lits (H := H) k zs) = _
    rw [ih]
    simp only [Rows.uptoBulk, List.length_cons]
    omega
set_option maxRecDepth 100000 in
theorem open_list {H : Type} {enc : TypeId × Value → H} {w : World} {base : Nat} {r : Reach} {b0 : Nat} {spare : Nat → Bool} {held : Bool} {v : Value} {d : DataW H} {ps : List MemPlace}
    (hval : Value.okWide Tryd.prog w r b0 25 v) (hd : DataW.Trod enc Tryd.prog w base spare held 25 v d ps) :
    ∃ (A : Option Addr) (l : List Int) (c : Nat), v = .slice A l.length c ∧ At w w.heap.size A l ∧ l.length + 1 ≤ Rows.uptoBulk d ∧ (∀ n ∈ l, (Lit.int .i64 n).wf = true) ∧ l.length ≤ c := by
  obtain ⟨a0, len, cap, rfl⟩ := okWide_slice Tryd.underlying25 hval
  obtain ⟨fuel, hf⟩ := hd
  rcases open_ints Tryd.underlying25 Tryd.underlying3 cellsInt hf with ⟨hcs, hx⟩ | ⟨a, len', cap', zs, hcs, _, hl, hm, hz, hx, hcell, hwz⟩
  · simp [Value.cells] at hcs
    obtain ⟨rfl, rfl, rfl⟩ := hcs
    simp only [Prod.mk.injEq] at hx
    obtain ⟨rfl, rfl⟩ := hx
    exact ⟨none, [], 0, rfl, At.nil, by simp [Rows.uptoBulk], by simp, Nat.le_refl _⟩
  · simp [Value.cells] at hcs
    obtain ⟨rfl, rfl, rfl⟩ := hcs
    simp only [Prod.mk.injEq] at hx
    obtain ⟨rfl, rfl⟩ := hx
    have hlen : (zs.take len).length = len := by
      rw [List.length_take]
      split at hz <;> omega
    refine ⟨some a, zs.take len, cap, by rw [hlen], fun hp => ?_, ?_, fun n hn => hwz n (List.mem_of_mem_take hn), by rw [hlen]; exact hl⟩
    · rw [hlen] at hp
      obtain ⟨b, off, rfl, hc⟩ := ints_at hcell (by split at hz <;> omega)
      have hc0 := hc 0 (by split at hz <;> omega)
      refine ⟨b, off, rfl, ?_, fun j hj => ?_⟩
      · rcases Nat.lt_or_ge b w.heap.size with h | h
        · exact h
        · simp [World.cell?, Array.getElem?_eq_none h] at hc0
      · rw [hlen] at hj
        rw [hc j (by split at hz <;> omega)]
        simp [List.getD, hj]
    · simp only [Rows.uptoBulk, bulk_lits, hlen]
      omega

end Go.Proofs.YtffkppjmdelajaaDoor.Ints

/- append of a slice of numbers (nil, empty or not) onto a row of the call's own. Conditions: the sizes. -/
namespace Go.Proofs.YtffkppjmdelajaaDoor.Ints
open Go.RowKit Go.WideShapes Go.ChangeShapes
set_option linter.unusedVariables false

/-- The row at A, of the call's own from 'base' on, holds the numbers z. -/
def Own (w : World) (base : Nat) (A : Option Addr) (c : Nat) (z : List Int) : Prop :=
  w.ownsRow base 3 1 (.slice A z.length c) z.length (z.map (Value.int .i64))
def rowOf (A : Option Addr) : Option Nat := A.map (·.block)
theorem rowOf_own (A : Option Addr) (n c : Nat) : (Value.slice A n c).ownBlock = rowOf A := by cases A <;> rfl

theorem Own.at_ {w : World} {base c : Nat} {A : Option Addr} {z : List Int} (h : Own w base A c z) : At w w.heap.size A z := At.own h
theorem Own.ge {w : World} {base c : Nat} {A : Option Addr} {z : List Int} (h : Own w base A c z) : ∀ g, rowOf A = some g → base ≤ g := by
  intro g hg
  rcases h.2 with ⟨he, _⟩ | ⟨g', cap, cur, he, hb, _⟩
  · injection he with he; subst he; cases hg
  · injection he with he; subst he
    have : g' = g := by simpa [rowOf] using hg
    omega
theorem Own.empty {w : World} {b : Nat} (h : w.heap[b]? = some (.cells #[] 3 (0, 0))) : Own w b (some ⟨b, 0, none⟩) 0 [] :=
  ⟨rfl, .inr ⟨b, 0, #[], rfl, Nat.le_refl _, h, Nat.le_refl _, Nat.zero_le _, rfl, rfl⟩⟩
theorem Own.none {w : World} {b : Nat} : Own w b none 0 [] := ⟨rfl, .inl ⟨rfl, rfl⟩⟩
theorem Own.grown {w w' : World} {base c : Nat} {A : Option Addr} {z : List Int} {row : Option Nat} (h : Own w base A c z) (hg : w.grownBy w' row) (hne : ∀ g, rowOf A = some g → row ≠ some g) : Own w' base A c z := by
  refine ⟨h.1, ?_⟩
  rcases h.2 with h0 | ⟨g, cap, cur, he, hb, hh, h1⟩
  · exact .inl h0
  · refine .inr ⟨g, cap, cur, he, hb, ?_, h1⟩
    injection he with he; subst he
    rw [hg.block g (Array.getElem?_eq_some_iff.1 hh).1 (fun e => hne g rfl e.symm)]
    exact hh

theorem Own.below {w w' : World} {base c : Nat} {A : Option Addr} {z : List Int} (h : Own w base A c z) (hb : Below w.heap.size w w') : Own w' base A c z :=
  h.grown (row := Option.none) ⟨hb.os, hb.tape, hb.output, hb.size, fun k hk _ => hb.block k hk⟩ (fun _ _ e => by cases e)
theorem int_info : (Tryd.prog.info? 3).map (fun i => (i.zero, i.size, i.bytes)) = some (some (.int .i64 0), 1, 8) := by kernel_rfl

set_option maxRecDepth 100000 in
theorem run_append_ints (w : World) (base c : Nat) (A : Option Addr) (z : List Int) (hown : Own w base A c z) (B : Nat) (A2 : Option Addr) (c2 : Nat) (l : List Int) (hr : At w B A2 l)
    (h63 : z.length + l.length ≤ 17592186044416) (hbase : base ≤ w.heap.size) (ty : TypeId) :
    ∃ A' c' w', (Builtin.append_ #[25, 25] ty #[.slice A z.length c, .slice A2 l.length c2]).run Tryd.prog w = .ok (.slice A' (z ++ l).length c') w' ∧ Own w' base A' c' (z ++ l) ∧ w.grownBy w' (rowOf A) ∧
      (rowOf A' = rowOf A ∨ rowOf A' = some w.heap.size) := by
  obtain ⟨i0, hi, hz, hsz, hby⟩ := info_parts int_info
  have one : ∀ u ∈ l.map (Value.int .i64), u.oneCell' = true := by
    intro u hu
    obtain ⟨n, _, rfl⟩ := List.mem_map.1 hu
    rfl
  cases A2 with
  | none =>
    have h0 : l = [] := by
      rcases Nat.eq_zero_or_pos l.length with h | h
      · exact List.eq_nil_of_length_eq_zero h
      · obtain ⟨b, off, e, _⟩ := hr h; cases e
    subst h0
    refine ⟨A, c, w, ?_, by simpa using hown, World.grownBy.refl w _, .inl rfl⟩
    have e : (z ++ []).length = z.length := by simp
    rw [e]
    rcases hown.2 with ⟨he, hn⟩ | ⟨g, cap, cur, he, _, _, hnc, _⟩
    · injection he with h1 h2 h3
      subst h1
      rw [hn]
      subst h3
      simp [Builtin.append_, run_underlying Tryd.underlying25, sizeOf, typeInfo, hi, Builtin.lenOf, Builtin.firstCells]
    · injection he with h1 h2 h3
      subst h1
      subst h3
      simp [Builtin.append_, run_underlying Tryd.underlying25, sizeOf, typeInfo, hi, Builtin.lenOf, Builtin.firstCells, hnc, storeCells]
  | some ad =>
    have hcells : ∀ j u, (l.map (Value.int .i64))[j]? = some u → w.cell? (ad.add j) = some u := by
      intro j u hu
      have hj : j < l.length := by
        rcases Nat.lt_or_ge j l.length with h | h
        · exact h
        · rw [List.getElem?_eq_none (by simpa using h)] at hu; cases hu
      obtain ⟨b, off, e, _, hc⟩ := hr (by omega)
      injection e with e
      subst e
      rw [Go.WideShapes.add_plain, hc j hj, ← hu, List.getElem?_map, List.getElem?_eq_getElem hj]
      simp [List.getD, List.getElem?_eq_getElem hj]
    obtain ⟨v', w', hrun, h2, h3, _, h5⟩ := run_append_own_at (P := Tryd.prog) w base 25 ty 3 i0 (.int .i64 0) 1 8 Tryd.underlying25 hi hz hsz hby rfl (by decide) _ z.length _ hown
      ad l.length c2 (l.map (Value.int .i64)) (by simp) hcells one (by simp only [maxLen]; omega) (by omega) hbase
    have hf : ∃ A' c', v' = .slice A' (z.length + l.length) c' := by
      rcases h2.2 with ⟨he, hn⟩ | ⟨g, cap, cur, he, _⟩
      · exact ⟨Option.none, 0, by rw [he, hn]⟩
      · exact ⟨_, _, he⟩
    obtain ⟨A', c', rfl⟩ := hf
    have e : (z ++ l).length = z.length + l.length := by simp
    refine ⟨A', c', w', by rw [e]; exact hrun, ?_, by rw [← rowOf_own A z.length c]; exact h3, ?_⟩
    · unfold Own
      rw [e, List.map_append]
      exact h2
    · rw [rowOf_own, rowOf_own] at h5
      exact h5

set_option maxRecDepth 100000 in
theorem wpList_append_ints {ops : Array Oper} {rest : List Oper} {o : Oper} {a : Act} {w : World} {Q : Exit → Act → World → Prop} (hgd : o.guard = none) (s x : Operand)
    (ho : o.op = .call { callee := .builtin .append, args := #[s, x], argTypes := #[25, 25] })
    (base c : Nat) (A : Option Addr) (z : List Int) (hown : Own w base A c z) (B : Nat) (A2 : Option Addr) (c2 : Nat) (l : List Int) (hr : At w B A2 l)
    (hs : a.eval s = .slice A z.length c) (hx : a.eval x = .slice A2 l.length c2)
    (h63 : z.length + l.length ≤ 17592186044416) (hbase : base ≤ w.heap.size)
    (h : ∀ A' c' w' (zl : List Int), Hid (zl = z ++ l) → Own w' base A' c' zl → w.grownBy w' (rowOf A) → (rowOf A' = rowOf A ∨ rowOf A' = some w.heap.size) → wpList Tryd.prog ops Q rest (a.put o.dst (.slice A' zl.length c')) w') : wpList Tryd.prog ops Q (o :: rest) a w := by
  obtain ⟨A', c', w', hrun, h2, h3, h4⟩ := run_append_ints w base c A z hown B A2 c2 l hr h63 hbase o.type
  refine wpList_plain hgd fun K hK => ?_
  unfold Oper.wp execOp
  simp only [ho, resolve, invoke, builtin, Sem.run_bind, Sem.run_pure, Result.andThen_ok, List.map_toArray, List.map_cons, List.map_nil, hs, hx, hrun]
  exact hK _ _ (h A' c' w' _ rfl h2 h3 h4)

end Go.Proofs.YtffkppjmdelajaaDoor.Ints

/- append of a slice of numbers onto a row of the call's own, as one step of a region that draws its order. Conditions: the sizes. -/
namespace Go.Proofs.YtffkppjmdelajaaDoor.Ints
open Go.RowKit Go.WideShapes Go.ChangeShapes
set_option linter.unusedVariables false
theorem step_append_ints {ops : Array Oper} {o : Oper} {a : Act} {w : World} {K : Act → World → Prop} {Q : Exit → Act → World → Prop} {E : Prop} (hgd : o.guard = none) (s x : Operand)
    (ho : o.op = .call { callee := .builtin .append, args := #[s, x], argTypes := #[25, 25] })
    (base c : Nat) (A : Option Addr) (z : List Int) (hown : Own w base A c z) (B : Nat) (A2 : Option Addr) (c2 : Nat) (l : List Int) (hr : At w B A2 l)
    (hs : a.eval s = .slice A z.length c) (hx : a.eval x = .slice A2 l.length c2)
    (h63 : z.length + l.length ≤ 17592186044416) (hbase : base ≤ w.heap.size)
    (h : ∀ A' c' w' (zl : List Int), Hid (zl = z ++ l) → Own w' base A' c' zl → w.grownBy w' (rowOf A) → (rowOf A' = rowOf A ∨ rowOf A' = some w.heap.size) → K (a.put o.dst (.slice A' zl.length c')) w') :
    if Region.wanted o (yielded ops a.tmps) = true then Oper.wp Tryd.prog o a w K Q else E := by
  have hw : Region.wanted o (yielded ops a.tmps) = true := by simp [Region.wanted, hgd]
  rw [if_pos hw]
  obtain ⟨A', c', w', hrun, h2, h3, h4⟩ := run_append_ints w base c A z hown B A2 c2 l hr h63 hbase o.type
  unfold Oper.wp execOp
  simp only [ho, resolve, invoke, builtin, Sem.run_bind, Sem.run_pure, Result.andThen_ok, List.map_toArray, List.map_cons, List.map_nil, hs, hx, hrun]
  exact h A' c' w' _ rfl h2 h3 h4
theorem Own.cap_ {w : World} {base c : Nat} {A : Option Addr} {z : List Int} (h : Own w base A c z) : z.length ≤ c := by
  rcases h.2 with ⟨he, h0⟩ | ⟨g, cap, cur, he, _, _, hnc, _⟩
  · omega
  · injection he with _ _ h3; omega
end Go.Proofs.YtffkppjmdelajaaDoor.Ints

/- Lists of lists of numbers in memory: as they are read, and as a call's own that grow. Conditions: the sizes. -/
namespace Go.Proofs.YtffkppjmdelajaaDoor.Ints
open Go.RowKit Go.WideShapes Go.ChangeShapes
set_option linter.unusedVariables false

/-- The slice at A holds the numbers l, in a block of S. -/
def AtP (w : World) (S : Nat → Prop) (A : Option Addr) (l : List Int) : Prop :=
  0 < l.length → ∃ b off, A = some ⟨b, off, none⟩ ∧ S b ∧ ∀ j, j < l.length → w.cell? ⟨b, off + j, none⟩ = some (.int .i64 (l.getD j 0))
/-- The slice at A holds the lists zs: it lies in a block of So, they in blocks of Si. -/
def RowsP (w : World) (So Si : Nat → Prop) (A : Option Addr) (zs : List (List Int)) : Prop :=
  0 < zs.length → ∃ b off, A = some ⟨b, off, none⟩ ∧ So b ∧ ∀ j (h : j < zs.length), ∃ D d, w.cell? ⟨b, off + j, none⟩ = some (.slice D (zs[j]'h).length d) ∧ (zs[j]'h).length ≤ d ∧ AtP w Si D (zs[j]'h)
abbrev RowsAt (w : World) (B : Nat) (A : Option Addr) (zs : List (List Int)) : Prop := RowsP w (· < B) (· < B) A zs

section
variable {w w' : World} {S S' So Si So' Si' : Nat → Prop} {A : Option Addr} {l : List Int} {zs : List (List Int)} {B : Nat}
theorem AtP.at_ (h : AtP w (· < B) A l) : At w B A l := h
theorem AtP.of_at (h : At w B A l) : AtP w (· < B) A l := h
theorem AtP.keep (h : AtP w S A l) (hk : ∀ b, S b → S' b ∧ ∀ o, w'.cell? ⟨b, o, none⟩ = w.cell? ⟨b, o, none⟩) : AtP w' S' A l := fun hp => by
  obtain ⟨b, off, e, hb, hc⟩ := h hp
  exact ⟨b, off, e, (hk b hb).1, fun j hj => ((hk b hb).2 _).trans (hc j hj)⟩
theorem RowsP.keep (h : RowsP w So Si A zs) (ho : ∀ b, So b → So' b ∧ ∀ o, w'.cell? ⟨b, o, none⟩ = w.cell? ⟨b, o, none⟩) (hi : ∀ b, Si b → Si' b ∧ ∀ o, w'.cell? ⟨b, o, none⟩ = w.cell? ⟨b, o, none⟩) : RowsP w' So' Si' A zs := fun hp => by
  obtain ⟨b, off, e, hb, hc⟩ := h hp
  refine ⟨b, off, e, (ho b hb).1, fun j hj => ?_⟩
  obtain ⟨D, d, h1, h2, h3⟩ := hc j hj
  exact ⟨D, d, ((ho b hb).2 _).trans h1, h2, h3.keep hi⟩
theorem RowsP.nil : RowsP w So Si A [] := fun h => by simp at h
theorem RowsP.below (h : RowsAt w B A zs) (hb : Below B w w') : RowsAt w' B A zs :=
  RowsP.keep h (fun b hB => ⟨hB, fun o => hb.cell (p := ⟨b, o, none⟩) hB⟩) (fun b hB => ⟨hB, fun o => hb.cell (p := ⟨b, o, none⟩) hB⟩)
theorem RowsP.more (h : RowsAt w B A zs) {B' : Nat} (hB : B ≤ B') : RowsAt w B' A zs :=
  RowsP.keep h (fun b hb => ⟨Nat.lt_of_lt_of_le hb hB, fun _ => rfl⟩) (fun b hb => ⟨Nat.lt_of_lt_of_le hb hB, fun _ => rfl⟩)
end

/-- A list of lists of the call's own: its row from base on; its lists in other blocks, from base on. -/
def OwnRows (w : World) (base : Nat) (A : Option Addr) (c : Nat) (zs : List (List Int)) : Prop :=
  ∃ xs : List Value, xs.length = zs.length ∧ w.ownsRow base 25 1 (.slice A zs.length c) zs.length xs ∧
    ∀ j (h : j < zs.length) (h' : j < xs.length), ∃ D d, xs[j]'h' = .slice D (zs[j]'h).length d ∧ (zs[j]'h).length ≤ d ∧ AtP w (fun b => base ≤ b ∧ b < w.heap.size ∧ rowOf A ≠ some b) D (zs[j]'h)
section
variable {w w' : World} {base c : Nat} {A : Option Addr} {zs : List (List Int)}
theorem OwnRows.zero : OwnRows w base none 0 [] := ⟨[], rfl, ⟨rfl, .inl ⟨rfl, rfl⟩⟩, fun j h => by simp at h⟩
theorem OwnRows.ge (h : OwnRows w base A c zs) : ∀ g, rowOf A = some g → base ≤ g ∧ g < w.heap.size := by
  intro g hg
  obtain ⟨xs, _, h2, _⟩ := h
  rcases h2.2 with ⟨he, _⟩ | ⟨g', cap, cur, he, hb, hh, _⟩
  · injection he with he; subst he; cases hg
  · injection he with he; subst he
    have : g' = g := by simpa [rowOf] using hg
    subst this
    exact ⟨hb, (Array.getElem?_eq_some_iff.1 hh).1⟩
theorem OwnRows.below (h : OwnRows w base A c zs) (hb : Below w.heap.size w w') : OwnRows w' base A c zs := by
  obtain ⟨xs, h1, h2, h3⟩ := h
  refine ⟨xs, h1, ⟨h2.1, ?_⟩, fun j hj hj' => ?_⟩
  · rcases h2.2 with h0 | ⟨g, cap, cur, he, hg, hh, h4⟩
    · exact .inl h0
    · exact .inr ⟨g, cap, cur, he, hg, (hb.block g (Array.getElem?_eq_some_iff.1 hh).1).trans hh, h4⟩
  · obtain ⟨D, d, e, hd, ha⟩ := h3 j hj hj'
    exact ⟨D, d, e, hd, ha.keep fun b hB => ⟨⟨hB.1, Nat.lt_of_lt_of_le hB.2.1 hb.size, hB.2.2⟩, fun o => hb.cell (p := ⟨b, o, none⟩) hB.2.1⟩⟩
theorem OwnRows.less (h : OwnRows w base A c zs) {base' : Nat} (hb : base' ≤ base) : OwnRows w base' A c zs := by
  obtain ⟨xs, h1, h2, h3⟩ := h
  refine ⟨xs, h1, ⟨h2.1, ?_⟩, fun j hj hj' => ?_⟩
  · rcases h2.2 with h0 | ⟨g, cap, cur, he, hg, h4⟩
    · exact .inl h0
    · exact .inr ⟨g, cap, cur, he, Nat.le_trans hb hg, h4⟩
  · obtain ⟨D, d, e, hd, ha⟩ := h3 j hj hj'
    exact ⟨D, d, e, hd, ha.keep fun b hB => ⟨⟨Nat.le_trans hb hB.1, hB.2⟩, fun _ => rfl⟩⟩
/-- as it is read -/
theorem OwnRows.rows (h : OwnRows w base A c zs) : RowsP w (fun b => base ≤ b ∧ b < w.heap.size ∧ rowOf A = some b) (fun b => base ≤ b ∧ b < w.heap.size ∧ rowOf A ≠ some b) A zs := fun hp => by
  obtain ⟨xs, h1, h2, h3⟩ := h
  rcases h2.2 with ⟨he, h0⟩ | ⟨g, cap, cur, he, hg, hh, _, _, _, ht⟩
  · omega
  · have hA : A = some ⟨g, 0, none⟩ := by injection he
    refine ⟨g, 0, hA, ⟨hg, (Array.getElem?_eq_some_iff.1 hh).1, by rw [hA]; rfl⟩, fun j hj => ?_⟩
    obtain ⟨D, d, e, hd, ha⟩ := h3 j hj (by omega)
    refine ⟨D, d, ?_, hd, ha⟩
    have h4 : (cur.toList.take (zs.length * 1))[j]? = some (.slice D (zs[j]'hj).length d) := by
      rw [ht, List.getElem?_eq_getElem (by omega), e]
    rw [List.getElem?_take] at h4
    split at h4
    · rw [cell_of_row w g (0 + j) cur 25 (0, 0) hh]
      simpa [Array.getElem?_toList] using h4
    · cases h4
theorem OwnRows.at_ (h : OwnRows w base A c zs) : RowsAt w w.heap.size A zs := h.rows.keep (fun b hb => ⟨hb.2.1, fun _ => rfl⟩) (fun b hb => ⟨hb.2.1, fun _ => rfl⟩)
theorem OwnRows.cap_ (h : OwnRows w base A c zs) : zs.length ≤ c := by
  obtain ⟨xs, _, h2, _⟩ := h
  rcases h2.2 with ⟨he, h0⟩ | ⟨g, cap, cur, he, _, _, hnc, _⟩
  · omega
  · injection he with _ _ h3; omega
end
theorem rows_info : (Tryd.prog.info? 25).map (fun i => (i.zero, i.size, i.bytes)) = some (some (.slice none 0 0), 1, 24) := by kernel_rfl

set_option maxRecDepth 100000 in
theorem run_append_rows (w : World) (base c : Nat) (A : Option Addr) (zs : List (List Int)) (hown : OwnRows w base A c zs) (A2 : Option Addr) (c2 : Nat) (ys : List (List Int))
    (hr : RowsP w (fun _ => True) (fun b => base ≤ b ∧ b < w.heap.size ∧ rowOf A ≠ some b) A2 ys) (h63 : zs.length + ys.length ≤ 4398046511104) (hbase : base ≤ w.heap.size) (ty : TypeId) :
    ∃ A' c' w', (Builtin.append_ #[54, 54] ty #[.slice A zs.length c, .slice A2 ys.length c2]).run Tryd.prog w = .ok (.slice A' (zs ++ ys).length c') w' ∧ OwnRows w' base A' c' (zs ++ ys) ∧ w.grownBy w' (rowOf A) ∧
      (rowOf A' = rowOf A ∨ rowOf A' = some w.heap.size) := by
  obtain ⟨i0, hi, hz, hsz, hby⟩ := info_parts rows_info
  cases A2 with
  | none =>
    have h0 : ys = [] := by
      rcases Nat.eq_zero_or_pos ys.length with h | h
      · exact List.eq_nil_of_length_eq_zero h
      · obtain ⟨b, off, e, _⟩ := hr h; cases e
    subst h0
    have e : (zs ++ []).length = zs.length := by simp
    refine ⟨A, c, w, ?_, by simpa using hown, World.grownBy.refl w _, .inl rfl⟩
    rw [e]
    obtain ⟨xs, x1, x2, x3⟩ := hown
    rcases x2.2 with ⟨he, hn⟩ | ⟨g, cap, cur, he, _, _, hnc, _⟩
    · injection he with h1 h2 h3
      subst h1
      rw [hn]
      subst h3
      simp [Builtin.append_, run_underlying Tryd.underlying54, sizeOf, typeInfo, hi, Builtin.lenOf, Builtin.firstCells]
    · injection he with h1 h2 h3
      subst h1
      subst h3
      simp [Builtin.append_, run_underlying Tryd.underlying54, sizeOf, typeInfo, hi, Builtin.lenOf, Builtin.firstCells, hnc, storeCells]
  | some ad =>
    have each : ∀ j, j < ys.length → ∃ v : Value, w.cell? (ad.add j) = some v ∧ ∀ h : j < ys.length, ∃ D d, v = .slice D (ys[j]'h).length d ∧ (ys[j]'h).length ≤ d ∧ AtP w (fun b => base ≤ b ∧ b < w.heap.size ∧ rowOf A ≠ some b) D (ys[j]'h) := fun j hj => by
      obtain ⟨b, off, e, _, hc⟩ := hr (by omega)
      injection e with e
      subst e
      obtain ⟨D, d, h1, h2, h3⟩ := hc j hj
      exact ⟨_, by rw [add_plain]; exact h1, fun _ => ⟨D, d, rfl, h2, h3⟩⟩
    obtain ⟨f, hf⟩ := Go.Deep.choose_lt each
    obtain ⟨xs, x1, x2, x3⟩ := hown
    have one : ∀ u ∈ (List.range ys.length).map f, u.oneCell' = true := by
      intro u hu
      obtain ⟨j, hj, rfl⟩ := List.mem_map.1 hu
      obtain ⟨D, d, e, _⟩ := (hf j (List.mem_range.1 hj)).2 (List.mem_range.1 hj)
      rw [e]; rfl
    have hcells : ∀ j u, ((List.range ys.length).map f)[j]? = some u → w.cell? (ad.add j) = some u := by
      intro j u hu
      have hj : j < ys.length := by
        rcases Nat.lt_or_ge j ys.length with h | h
        · exact h
        · rw [List.getElem?_eq_none (by simpa using h)] at hu; cases hu
      rw [(hf j hj).1, ← hu, List.getElem?_map, List.getElem?_range hj]
      rfl
    obtain ⟨v', w', hrun, h2, h3, _, h5⟩ := run_append_own_at (P := Tryd.prog) w base 54 ty 25 i0 (.slice none 0 0) 1 24 Tryd.underlying54 hi hz hsz hby rfl (by decide) _ zs.length _ x2
      ad ys.length c2 ((List.range ys.length).map f) (by simp) hcells one (by simp only [maxLen]; omega) (by omega) hbase
    have hf2 : ∃ A' c', v' = .slice A' (zs.length + ys.length) c' := by
      rcases h2.2 with ⟨he, hn⟩ | ⟨g, cap, cur, he, _⟩
      · exact ⟨Option.none, 0, by rw [he, hn]⟩
      · exact ⟨_, _, he⟩
    obtain ⟨A', c', rfl⟩ := hf2
    have e : (zs ++ ys).length = zs.length + ys.length := by simp
    rw [rowOf_own, rowOf_own] at h5
    rw [rowOf_own] at h3
    refine ⟨A', c', w', by rw [e]; exact hrun, ⟨xs ++ (List.range ys.length).map f, by simp [x1], by rw [e]; exact h2, fun j hj hj' => ?_⟩, h3, h5⟩
    have keep : ∀ (D : Option Addr) (z : List Int), AtP w (fun b => base ≤ b ∧ b < w.heap.size ∧ rowOf A ≠ some b) D z → AtP w' (fun b => base ≤ b ∧ b < w'.heap.size ∧ rowOf A' ≠ some b) D z := fun D z ha => ha.keep fun k hk =>
      ⟨⟨hk.1, Nat.lt_of_lt_of_le hk.2.1 h3.size, by
        rcases h5 with h | h
        · rw [h]; exact hk.2.2
        · rw [h]; intro h; have := Option.some.inj h; omega⟩, fun o => World.cell?_of_block (h3.block k hk.2.1 (fun e => hk.2.2 e.symm))⟩
    by_cases hjz : j < zs.length
    · obtain ⟨D, d, e1, e2, e3⟩ := x3 j hjz (by omega)
      rw [List.getElem_append_left (by omega)]
      rw [List.getElem_append_left hjz]
      exact ⟨D, d, e1, e2, keep D _ e3⟩
    · have hj2 : j - zs.length < ys.length := by simp at hj; omega
      obtain ⟨D, d, e1, e2, e3⟩ := (hf (j - zs.length) hj2).2 hj2
      have q1 : (xs ++ (List.range ys.length).map f)[j]'hj' = f (j - zs.length) := by
        rw [List.getElem_append_right (by omega)]
        simp [x1]
      have q2 : (zs ++ ys)[j]'hj = ys[j - zs.length]'hj2 := List.getElem_append_right (by omega)
      rw [q1, q2]
      exact ⟨D, d, e1, e2, keep D _ e3⟩

theorem wpList_append_rows {ops : Array Oper} {rest : List Oper} {o : Oper} {a : Act} {w : World} {Q : Exit → Act → World → Prop} (hgd : o.guard = none) (s x : Operand)
    (ho : o.op = .call { callee := .builtin .append, args := #[s, x], argTypes := #[54, 54] })
    (base c : Nat) (A : Option Addr) (zs : List (List Int)) (hown : OwnRows w base A c zs) (A2 : Option Addr) (c2 : Nat) (ys : List (List Int)) (hr : RowsP w (fun _ => True) (fun b => base ≤ b ∧ b < w.heap.size ∧ rowOf A ≠ some b) A2 ys)
    (hs : a.eval s = .slice A zs.length c) (hx : a.eval x = .slice A2 ys.length c2)
    (h63 : zs.length + ys.length ≤ 4398046511104) (hbase : base ≤ w.heap.size)
    (h : ∀ A' c' w' (zl : List (List Int)), Hid (zl = zs ++ ys) → OwnRows w' base A' c' zl → w.grownBy w' (rowOf A) → (rowOf A' = rowOf A ∨ rowOf A' = some w.heap.size) → wpList Tryd.prog ops Q rest (a.put o.dst (.slice A' zl.length c')) w') : wpList Tryd.prog ops Q (o :: rest) a w := by
  obtain ⟨A', c', w', hrun, h2, h3, h4⟩ := run_append_rows w base c A zs hown A2 c2 ys hr h63 hbase o.type
  refine wpList_plain hgd fun K hK => ?_
  unfold Oper.wp execOp
  simp only [ho, resolve, invoke, builtin, Sem.run_bind, Sem.run_pure, Result.andThen_ok, List.map_toArray, List.map_cons, List.map_nil, hs, hx, hrun]
  exact hK _ _ (h A' c' w' _ rfl h2 h3 h4)
theorem step_append_rows {ops : Array Oper} {o : Oper} {a : Act} {w : World} {K : Act → World → Prop} {Q : Exit → Act → World → Prop} {E : Prop} (hgd : o.guard = none) (s x : Operand)
    (ho : o.op = .call { callee := .builtin .append, args := #[s, x], argTypes := #[54, 54] })
    (base c : Nat) (A : Option Addr) (zs : List (List Int)) (hown : OwnRows w base A c zs) (A2 : Option Addr) (c2 : Nat) (ys : List (List Int)) (hr : RowsP w (fun _ => True) (fun b => base ≤ b ∧ b < w.heap.size ∧ rowOf A ≠ some b) A2 ys)
    (hs : a.eval s = .slice A zs.length c) (hx : a.eval x = .slice A2 ys.length c2)
    (h63 : zs.length + ys.length ≤ 4398046511104) (hbase : base ≤ w.heap.size)
    (h : ∀ A' c' w' (zl : List (List Int)), Hid (zl = zs ++ ys) → OwnRows w' base A' c' zl → w.grownBy w' (rowOf A) → (rowOf A' = rowOf A ∨ rowOf A' = some w.heap.size) → K (a.put o.dst (.slice A' zl.length c')) w') :
    if Region.wanted o (yielded ops a.tmps) = true then Oper.wp Tryd.prog o a w K Q else E := by
  have hw : Region.wanted o (yielded ops a.tmps) = true := by simp [Region.wanted, hgd]
  rw [if_pos hw]
  obtain ⟨A', c', w', hrun, h2, h3, h4⟩ := run_append_rows w base c A zs hown A2 c2 ys hr h63 hbase o.type
  unfold Oper.wp execOp
  simp only [ho, resolve, invoke, builtin, Sem.run_bind, Sem.run_pure, Result.andThen_ok, List.map_toArray, List.map_cons, List.map_nil, hs, hx, hrun]
  exact h A' c' w' _ rfl h2 h3 h4
/-- a row of one list, just made -/
theorem rows_one {w : World} {b : Nat} {D : Option Addr} {z : List Int} {d : Nat} {T : TypeId} {S : Nat → Prop} (h : w.heap[b]? = some (.cells #[.slice D z.length d] T (0, 0))) (hd : z.length ≤ d) (ha : AtP w S D z) : RowsP w (fun _ => True) S (some ⟨b, 0, none⟩) [z] := fun _ =>
  ⟨b, 0, rfl, trivial, fun j hj => by
    obtain rfl : j = 0 := by simp at hj; exact hj
    exact ⟨D, d, by rw [Lib.cell_of_heap h]; rfl, hd, ha⟩⟩
/-- a list of lists of the call's own, of one: just made -/
theorem ownrows_one {w : World} {base b : Nat} {D : Option Addr} {z : List Int} {d : Nat} (hb : base ≤ b) (h : w.heap[b]? = some (.cells #[.slice D z.length d] 25 (0, 0))) (hd : z.length ≤ d) (ha : AtP w (fun k => base ≤ k ∧ k < w.heap.size ∧ k ≠ b) D z) : OwnRows w base (some ⟨b, 0, none⟩) 1 [z] :=
  ⟨[.slice D z.length d], rfl, ⟨rfl, .inr ⟨b, 1, #[.slice D z.length d], rfl, hb, h, Nat.le_refl _, by decide, rfl, rfl⟩⟩, fun j hj hj' => by
    obtain rfl : j = 0 := by simp at hj; exact hj
    exact ⟨D, d, rfl, hd, ha.keep fun k hk => ⟨⟨hk.1, hk.2.1, fun e => hk.2.2 (Option.some.inj e).symm⟩, fun _ => rfl⟩⟩⟩
end Go.Proofs.YtffkppjmdelajaaDoor.Ints

/- Generators as trees. No program. -/
namespace Go.Proofs.YtffkppjmdelajaaDoor.Gens
set_option linter.unusedVariables false

inductive Gn where
  | node (kind a b : Int) (subs : List Gn)
instance instGn : Inhabited Gn := ⟨.node 0 0 0 []⟩
def Gn.kind : Gn → Int | .node k _ _ _ => k
def Gn.a : Gn → Int | .node _ a _ _ => a
def Gn.b : Gn → Int | .node _ _ b _ => b
def Gn.subs : Gn → List Gn | .node _ _ _ s => s
mutual
def Gn.size : Gn → Nat
  | .node _ _ _ i => 1 + gsizes i
def gsizes : List Gn → Nat
  | [] => 0
  | t :: r => t.size + gsizes r
end
end Go.Proofs.YtffkppjmdelajaaDoor.Gens

/- Plain laws on generators: what is wrong with one, as the document's own functions ask. No program. -/
namespace Go.Proofs.YtffkppjmdelajaaDoor.Gens
set_option linter.unusedVariables false

/-! too many parts, or one too deep -/
mutual
def largeG : Gn → Nat → Nat × Bool
  | .node _ _ _ subs, deep => if 6 ≤ deep then (1, true) else largeGs subs (deep + 1) 1
def largeGs : List Gn → Nat → Nat → Nat × Bool
  | [], _, n => (n, decide (30 < n))
  | g :: r, deep, n => if (largeG g deep).2 = true ∨ 30 < n + (largeG g deep).1 then (n + (largeG g deep).1, true) else largeGs r deep (n + (largeG g deep).1)
end
theorem largeG_eq (g : Gn) (deep : Nat) : largeG g deep = if 6 ≤ deep then (1, true) else largeGs g.subs (deep + 1) 1 := by
  cases g with | node k a b s => simp only [largeG, Gn.subs]
mutual
theorem largeG_le : ∀ (g : Gn) (deep : Nat), deep ≤ 6 → (largeG g deep).1 ≤ 31 + 31 * (6 - deep)
  | .node k a b subs, deep, h => by
    simp only [largeG]
    split
    · simp only; omega
    · have := largeGs_le subs (deep + 1) 1 (by omega) (by omega)
      omega
theorem largeGs_le : ∀ (l : List Gn) (deep n : Nat), deep ≤ 6 → n ≤ 30 → (largeGs l deep n).1 ≤ 30 + 31 + 31 * (6 - deep)
  | [], deep, n, h, hn => by simp only [largeGs]; omega
  | g :: r, deep, n, h, hn => by
    have h1 := largeG_le g deep h
    simp only [largeGs]
    split
    · simp only; omega
    · rename_i hc
      exact largeGs_le r deep _ h (by omega)
end
/-- what is left of the subs, so many parts being counted -/
theorem largeGs_drop (l : List Gn) (k deep n : Nat) (h : k < l.length) : largeGs (l.drop k) deep n = if (largeG (l[k]'h) deep).2 = true ∨ 30 < n + (largeG (l[k]'h) deep).1 then (n + (largeG (l[k]'h) deep).1, true) else largeGs (l.drop (k + 1)) deep (n + (largeG (l[k]'h) deep).1) := by
  rw [List.drop_eq_getElem_cons h, largeGs]
mutual
/-- in all parts, a generator that is not too large has so many parts, and so deep -/
theorem large_size : ∀ (g : Gn) (deep : Nat), (largeG g deep).2 = false → g.size = (largeG g deep).1
  | .node k a b subs, deep, h => by
    simp only [largeG] at h ⊢
    split at h
    · cases h
    · rename_i h6
      rw [if_neg h6]
      rw [Gn.size, larges_size subs (deep + 1) 1 h]
theorem larges_size : ∀ (l : List Gn) (deep n : Nat), (largeGs l deep n).2 = false → n + gsizes l = (largeGs l deep n).1
  | [], deep, n, h => by simp [largeGs, gsizes]
  | g :: r, deep, n, h => by
    simp only [largeGs] at h ⊢
    split at h
    · cases h
    · rename_i hc
      rw [if_neg hc]
      have h1 : (largeG g deep).2 = false := by
        cases hb : (largeG g deep).2 with
        | false => rfl
        | true => exact absurd (.inl hb) hc
      have := large_size g deep h1
      rw [← larges_size r deep _ h, gsizes]
      omega
end
theorem larges_small : ∀ (l : List Gn) (deep n : Nat), (largeGs l deep n).2 = false → (largeGs l deep n).1 ≤ 30
  | [], deep, n, h => by simp [largeGs] at h ⊢; exact h
  | g :: r, deep, n, h => by
    simp only [largeGs] at h ⊢
    split at h
    · cases h
    · rename_i hc
      rw [if_neg hc]
      exact larges_small r deep _ h
theorem small_size {g : Gn} {deep : Nat} (h : (largeG g deep).2 = false) : g.size ≤ 30 := by
  rw [large_size g deep h, largeG_eq]
  rw [largeG_eq] at h
  split at h
  · cases h
  · rename_i h6
    rw [if_neg h6]
    exact larges_small _ _ _ h

/-! what is wrong with the parts -/
def farB (n : Int) : Bool := decide (n < -1073741824) || decide (1073741824 < n)
def kindBad (g : Gn) : Bool := decide (g.kind < 1) || decide (5 < g.kind)
def rangeBad (g : Gn) : Bool :=
  (g.kind == 1 && farB g.a) || (g.kind == 2 && (farB g.a || farB g.b || decide (g.b < g.a) || decide (1000 < g.b - g.a))) || (g.kind == 4 && (decide (g.a < 0) || decide (5 < g.a)))
def subsBad (g : Gn) : Bool :=
  (decide (g.kind ≤ 2) && !g.subs.isEmpty) || (g.kind == 4 && (g.subs.length != 1)) || (g.kind == 5 && g.subs.isEmpty)
mutual
def partV : Gn → Int
  | .node k a b subs => if kindBad (.node k a b subs) = true then 3 else if rangeBad (.node k a b subs) = true then 1 else if subsBad (.node k a b subs) = true then 3 else partVs subs
def partVs : List Gn → Int
  | [] => 0
  | g :: r => if partV g ≠ 0 then partV g else partVs r
end
theorem partV_eq (g : Gn) : partV g = if kindBad g = true then 3 else if rangeBad g = true then 1 else if subsBad g = true then 3 else partVs g.subs := by
  cases g with | node k a b s => simp only [partV, Gn.subs]
theorem partVs_app (l m : List Gn) : partVs (l ++ m) = if partVs l ≠ 0 then partVs l else partVs m := by
  induction l with
  | nil => simp [partVs]
  | cons t r ih =>
    simp only [List.cons_append, partVs, ih]
    by_cases h : partV t = 0 <;> simp [h]
theorem part_step0 (l : List Gn) (k : Nat) (hk : k < l.length) (hz : partVs (l.take k) = 0) (h : partV (l[k]'hk) = 0) : partVs (l.take (k + 1)) = 0 := by
  rw [List.take_succ_eq_append_getElem hk, partVs_app, hz]; simp [partVs, h]
theorem part_step1 (l : List Gn) (k : Nat) (hk : k < l.length) (hz : partVs (l.take k) = 0) (h : partV (l[k]'hk) ≠ 0) : partV (l[k]'hk) = partVs l := by
  have h1 : partVs (l.take (k + 1)) = partV (l[k]'hk) := by
    rw [List.take_succ_eq_append_getElem hk, partVs_app, hz]; simp [partVs, h]
  have h2 := partVs_app (l.take (k + 1)) (l.drop (k + 1))
  rw [List.take_append_drop, h1, if_pos h] at h2
  exact h2.symm
def genV (g : Gn) : Int := if (largeG g 0).2 = true then 4 else partV g
/-- right -/
def Right (g : Gn) : Prop := partV g = 0
theorem right_of {g : Gn} (h : Right g) : kindBad g = false ∧ rangeBad g = false ∧ subsBad g = false ∧ partVs g.subs = 0 := by
  unfold Right at h
  rw [partV_eq] at h
  split at h
  · cases h
  · split at h
    · cases h
    · split at h
      · cases h
      · rename_i h1 h2 h3
        exact ⟨by simpa using h1, by simpa using h2, by simpa using h3, h⟩
theorem rights_of : ∀ {l : List Gn}, partVs l = 0 → ∀ x ∈ l, Right x
  | [], _, x, hx => by cases hx
  | g :: r, h, x, hx => by
    simp only [partVs] at h
    split at h
    · rename_i h1; exact absurd h h1
    · rename_i h1
      rcases List.mem_cons.1 hx with rfl | hx
      · unfold Right; simpa using h1
      · exact rights_of h x hx
theorem Right.subs {g : Gn} (h : Right g) : ∀ x ∈ g.subs, Right x := rights_of (right_of h).2.2.2
theorem gsize_mem : ∀ (l : List Gn) (g : Gn), g ∈ l → g.size ≤ gsizes l
  | [], g, h => by simp at h
  | x :: r, g, h => by
    rcases List.mem_cons.1 h with rfl | h
    · rw [gsizes]; omega
    · have := gsize_mem r g h; rw [gsizes]; omega
theorem gsize_pos (g : Gn) : 1 ≤ g.size := by cases g with | node k a b s => rw [Gn.size]; omega
theorem glen_sizes : ∀ l : List Gn, l.length ≤ gsizes l
  | [] => by simp
  | x :: r => by have := glen_sizes r; have := gsize_pos x; rw [gsizes, List.length_cons]; omega
theorem gsize_subs (t : Gn) : t.size = 1 + gsizes t.subs := by cases t with | node k a b s => rfl
end Go.Proofs.YtffkppjmdelajaaDoor.Gens

/- Values (a bool, a number, items) as trees: how they lie in memory, and what an argument reads as. -/
namespace Go.Proofs.YtffkppjmdelajaaDoor.Vals
open Go.RowKit Go.WideShapes Go.ChangeShapes Go.Deep Go.Joins
set_option linter.unusedVariables false

inductive Tr where
  | node (list : Bool) (num : Int) (items : List Tr)
instance instTr : Inhabited Tr := ⟨.node false 0 []⟩
def Tr.list : Tr → Bool | .node l _ _ => l
def Tr.num : Tr → Int | .node _ n _ => n
def Tr.items : Tr → List Tr | .node _ _ i => i
mutual
def Tr.size : Tr → Nat
  | .node _ _ i => 1 + sizes i
def sizes : List Tr → Nat
  | [] => 0
  | t :: r => t.size + sizes r
end

/-- In world w, in blocks of S, the value v is the tree t of at most so many levels. -/
def TAt (w : World) (S : Nat → Prop) : Nat → Value → Tr → Prop
  | 0, _, _ => False
  | n + 1, v, t => (Lit.int .i64 t.num).wf = true ∧ ∃ A c, v = .agg #[.bool t.list, .int .i64 t.num, .slice A t.items.length c] ∧
      (0 < t.items.length → ∃ b off, A = some ⟨b, off, none⟩ ∧ S b ∧ ∀ j (h : j < t.items.length), ∃ x0 x1 x2, w.cell? ⟨b, off + j * 3, none⟩ = some x0 ∧ w.cell? ⟨b, off + j * 3 + 1, none⟩ = some x1 ∧ w.cell? ⟨b, off + j * 3 + 2, none⟩ = some x2 ∧ TAt w S n (.agg #[x0, x1, x2]) (t.items[j]'h))

theorem TAt.keep {w w' : World} {S S' : Nat → Prop} (hk : ∀ b, S b → S' b ∧ ∀ o, w'.cell? ⟨b, o, none⟩ = w.cell? ⟨b, o, none⟩) : ∀ {n : Nat} {v : Value} {t : Tr}, TAt w S n v t → TAt w' S' n v t
  | 0, _, _, h => h
  | n + 1, v, t, h => by
    obtain ⟨hw, A, c, rfl, h⟩ := h
    refine ⟨hw, A, c, rfl, fun hp => ?_⟩
    obtain ⟨b, off, e, hb, hc⟩ := h hp
    obtain ⟨hb', hk'⟩ := hk b hb
    refine ⟨b, off, e, hb', fun j hj => ?_⟩
    obtain ⟨x0, x1, x2, c0, c1, c2, ht⟩ := hc j hj
    exact ⟨x0, x1, x2, (hk' _).trans c0, (hk' _).trans c1, (hk' _).trans c2, TAt.keep hk ht⟩
def Bel (B : Nat) : Nat → Prop := fun b => b < B
theorem TAt.below {w w' : World} {B n : Nat} {v : Value} {t : Tr} (h : TAt w (Bel B) n v t) (hb : Below B w w') : TAt w' (Bel B) n v t :=
  h.keep fun b hB => ⟨hB, fun o => hb.cell (p := ⟨b, o, none⟩) hB⟩
theorem TAt.more {w : World} {B B' n : Nat} {v : Value} {t : Tr} (h : TAt w (Bel B) n v t) (hB : B ≤ B') : TAt w (Bel B') n v t :=
  h.keep fun b hb => ⟨Nat.lt_of_lt_of_le hb hB, fun _ => rfl⟩
theorem TAt.drew {w : World} {S : Nat → Prop} {n : Nat} {v : Value} {t : Tr} (h : TAt w S n v t) : TAt w.drew S n v t := h.keep (w := w) (w' := w.drew) fun b hb => ⟨hb, fun _ => rfl⟩
theorem TAt.drewN {w : World} {S : Nat → Prop} {n : Nat} {v : Value} {t : Tr} (h : TAt w S n v t) (k : Nat) : TAt (w.drewN k) S n v t := h.keep (w := w) (w' := w.drewN k) fun b hb => ⟨hb, fun _ => rfl⟩
theorem TAt.up {w : World} {S : Nat → Prop} : ∀ {n m : Nat} {v : Value} {t : Tr}, n ≤ m → TAt w S n v t → TAt w S m v t
  | 0, _, _, _, _, h => h.elim
  | n + 1, 0, _, _, hm, _ => by omega
  | n + 1, m + 1, v, t, hm, h => by
    obtain ⟨hw, A, c, rfl, h⟩ := h
    refine ⟨hw, A, c, rfl, fun hp => ?_⟩
    obtain ⟨b, off, e, hb, hc⟩ := h hp
    refine ⟨b, off, e, hb, fun j hj => ?_⟩
    obtain ⟨x0, x1, x2, c0, c1, c2, ht⟩ := hc j hj
    exact ⟨x0, x1, x2, c0, c1, c2, TAt.up (by omega) ht⟩
/-- opened -/
theorem TAt.open_ {w : World} {S : Nat → Prop} {n : Nat} {v : Value} {t : Tr} (h : TAt w S n v t) : ∃ m A c, n = m + 1 ∧ (Lit.int .i64 t.num).wf = true ∧ v = .agg #[.bool t.list, .int .i64 t.num, .slice A t.items.length c] ∧
    (0 < t.items.length → ∃ b off, A = some ⟨b, off, none⟩ ∧ S b ∧ ∀ j (h : j < t.items.length), ∃ x0 x1 x2, w.cell? ⟨b, off + j * 3, none⟩ = some x0 ∧ w.cell? ⟨b, off + j * 3 + 1, none⟩ = some x1 ∧ w.cell? ⟨b, off + j * 3 + 2, none⟩ = some x2 ∧ TAt w S m (.agg #[x0, x1, x2]) (t.items[j]'h)) := by
  cases n with
  | zero => exact h.elim
  | succ n =>
    obtain ⟨hw, A, c, rfl, h⟩ := h
    exact ⟨n, A, c, rfl, hw, rfl, h⟩

theorem sizes_bulk {H : Type} (f : Nat → Tr) (elems : List (DataW H)) : ∀ (k : Nat), (∀ i (h : i < elems.length), (f (k + i)).size ≤ Rows.uptoBulk (elems[i]'h)) → sizes ((List.range' k elems.length).map f) ≤ Rows.uptoBulkAll elems := by
  induction elems with
  | nil => intro k _; simp [sizes, Rows.uptoBulkAll]
  | cons d r ih =>
    intro k h
    simp only [List.length_cons, List.range'_succ, List.map_cons, sizes, Rows.uptoBulkAll]
    have h0 := h 0 (by simp)
    have h1 := ih (k + 1) (fun i hi => by
      have := h (i + 1) (by simpa using hi)
      simpa [Nat.add_assoc, Nat.add_comm 1 i] using this)
    simp at h0
    omega

set_option maxRecDepth 100000 in
theorem cells3 : Tryd.prog.cellsOf 38 = 3 := by kernel_rfl
set_option maxRecDepth 100000 in
theorem hone : oneCellFields Tryd.prog #[{ name := "List", type := 4, offset := 0, embedded := false, tag := "", pkgPath := "", byteOffset := 0 }, { name := "Num", type := 3, offset := 1, embedded := false, tag := "", pkgPath := "", byteOffset := 8 }, { name := "Items", type := 36, offset := 2, embedded := false, tag := "", pkgPath := "", byteOffset := 16 }] = true := by kernel_rfl

set_option maxRecDepth 100000 in
theorem read_tree {H : Type} {enc : TypeId × Value → H} {w : World} {base : Nat} {spare : Nat → Bool} {held : Bool} : ∀ (fuel : Nat) (cs : List Value) (x : DataW H × List MemPlace),
    DataW.trod enc Tryd.prog w base spare held fuel 38 cs = some x → ∃ t : Tr, TAt w (Bel w.heap.size) fuel (.agg cs.toArray) t ∧ t.size ≤ Rows.uptoBulk x.1 := by
  intro fuel
  induction fuel using Nat.strongRecOn with
  | ind fuel ih =>
    intro cs x h
    obtain ⟨xs, n, rfl, rfl, hlen, hxl, hf⟩ := DataW.trod_struct Tryd.underlying38 h
    rw [cells3] at hlen
    match cs, hlen with
    | [c0, c1, c2], _ =>
      obtain ⟨o0, k0⟩ := hone_of hone 0 _ rfl
      obtain ⟨o1, k1⟩ := hone_of hone 1 _ rfl
      obtain ⟨o2, k2⟩ := hone_of hone 2 _ rfl
      match xs, hxl with
      | [y0, y1, y2], _ =>
        have f0 := hf 0 _ rfl
        have f1 := hf 1 _ rfl
        have f2 := hf 2 _ rfl
        rw [o0, k0] at f0
        rw [o1, k1] at f1
        rw [o2, k2] at f2
        obtain ⟨l, e0, rfl⟩ := DataW.trod_bool Tryd.underlying4 f0
        obtain ⟨m, e1, rfl, hm⟩ := DataW.trod_int Tryd.underlying3 f1
        simp only [List.drop_zero, List.take_succ_cons, List.take_zero, List.cons.injEq, and_true, List.drop_succ_cons] at e0 e1
        subst e0 e1
        rcases DataW.trod_slice Tryd.underlying36 f2 with ⟨e2, rfl⟩ | ⟨a, len, cap, elems, rest, n', rfl, e2, rfl, _, _, _, hel, hat, _, _⟩
        · simp only [List.take_succ_cons, List.take_zero, List.cons.injEq, and_true, List.drop_succ_cons, List.drop_zero] at e2
          subst e2
          exact ⟨.node l m [], ⟨hm, none, 0, rfl, fun hp => by simp [Tr.items] at hp⟩, by simp [Tr.size, sizes, Rows.uptoBulk, Rows.uptoBulkAll]⟩
        · simp only [List.take_succ_cons, List.take_zero, List.cons.injEq, and_true, List.drop_succ_cons, List.drop_zero] at e2
          subst e2
          have each : ∀ i, i < len → ∃ t : Tr, ∃ cs' : List Value, w.cells? base (a.add (i * 3)) 3 = some cs' ∧ TAt w (Bel w.heap.size) n' (.agg cs'.toArray) t ∧ ∀ (hi : i < elems.length), t.size ≤ Rows.uptoBulk (elems[i]'hi).1 := by
            intro i hi
            have h1 := hat i hi
            rw [cells3] at h1
            have hi' : i < elems.length := by omega
            rw [List.getElem?_eq_getElem hi'] at h1
            obtain ⟨cs', hc, ht⟩ := Option.bind_eq_some_iff.1 h1
            obtain ⟨t, h2, h3⟩ := ih n' (by omega) cs' _ ht
            exact ⟨t, cs', hc, h2, fun _ => h3⟩
          obtain ⟨f, hfx⟩ := choose_lt each
          refine ⟨.node l m ((List.range' 0 len).map f), ⟨hm, some a, cap, ?_, fun hp => ?_⟩, ?_⟩
          · simp [Tr.items, Tr.list, Tr.num]
          · have hp' : 0 < len := by simpa [Tr.items] using hp
            obtain ⟨cs0, hc0, _⟩ := hfx 0 hp'
            obtain ⟨b, off, spot⟩ := a
            have hcell : ∀ i, i < len → ∀ q, q < 3 → ∃ u, w.cell? ((⟨b, off, spot⟩ : Addr).add (i * 3) |>.add q) = some u := by
              intro i hi q hq
              obtain ⟨cs', hc, _⟩ := hfx i hi
              obtain ⟨_, hl', hu⟩ := World.cells?_some hc
              exact ⟨_, (hu q hq).trans (List.getElem?_eq_getElem (by omega))⟩
            have hspot : spot = none := by
              obtain ⟨u, hu⟩ := hcell 0 hp' 0 (by omega)
              simpa [Addr.add] using World.cell?_spot hu
            subst hspot
            refine ⟨b, off, rfl, ?_, fun j hj => ?_⟩
            · obtain ⟨u, hu⟩ := hcell 0 hp' 0 (by omega)
              exact World.block_lt_of_cell? _ _ (by simpa [Addr.add] using hu)
            · have hj' : j < len := by simpa [Tr.items] using hj
              obtain ⟨cs', hc, ht, _⟩ := hfx j hj'
              obtain ⟨_, hl', hu⟩ := World.cells?_some hc
              match cs', hl' with
              | [x0, x1, x2], _ =>
                have u0 := hu 0 (by omega)
                have u1 := hu 1 (by omega)
                have u2 := hu 2 (by omega)
                rw [add_plain, add_plain] at u0 u1 u2
                refine ⟨x0, x1, x2, by simpa using u0, by simpa using u1, by simpa using u2, ?_⟩
                have e : (Tr.node l m ((List.range' 0 len).map f)).items[j]'hj = f j := by simp [Tr.items]
                rw [e]
                exact TAt.up (by omega) ht
          · simp only [Tr.size, List.map_cons, List.map_nil, Rows.uptoBulk, Rows.uptoBulkAll]
            have := sizes_bulk f (elems.map (·.1)) 0 (fun i hi => by
              have hi' : i < elems.length := by simpa using hi
              obtain ⟨_, _, _, hs⟩ := hfx i (by omega)
              have := hs hi'
              simpa using this)
            rw [List.length_map, hel] at this
            omega

set_option maxRecDepth 100000 in
theorem open_value {H : Type} {enc : TypeId × Value → H} {w : World} {base : Nat} {r : Reach} {b0 : Nat} {spare : Nat → Bool} {held : Bool} {v : Value} {d : DataW H} {ps : List MemPlace}
    (hval : Value.okWide Tryd.prog w r b0 38 v) (hd : DataW.Trod enc Tryd.prog w base spare held 38 v d ps) :
    ∃ (t : Tr) (n : Nat), TAt w (Bel w.heap.size) n v t ∧ t.size ≤ Rows.uptoBulk d := by
  obtain ⟨cs, rfl, _⟩ := okWide_struct Tryd.underlying38 hval
  obtain ⟨fuel, hf⟩ := hd
  obtain ⟨t, h1, h2⟩ := read_tree fuel _ _ hf
  exact ⟨t, fuel, by simpa [Value.cells] using h1, h2⟩
end Go.Proofs.YtffkppjmdelajaaDoor.Vals

/- Plain laws on lists of numbers: which is less, where both first differ. No program. -/
namespace Go.Proofs.YtffkppjmdelajaaDoor.Lists

/-- the sign of the first difference -/
def cmpL : List Int → List Int → Int
  | [], [] => 0
  | [], _ :: _ => -1
  | _ :: _, [] => 1
  | a :: l, b :: m => if a < b then -1 else if b < a then 1 else cmpL l m
def lessL (l m : List Int) : Bool := if l.length = m.length then decide (cmpL l m < 0) else decide (l.length < m.length)

theorem cmpL_refl : ∀ l, cmpL l l = 0
  | [] => rfl
  | a :: l => by simp [cmpL, cmpL_refl l]
theorem cmpL_swap : ∀ l m, cmpL m l = - cmpL l m
  | [], [] => rfl
  | [], _ :: _ => rfl
  | _ :: _, [] => rfl
  | a :: l, b :: m => by
    simp only [cmpL]
    rcases Int.lt_trichotomy a b with h | h | h
    · rw [if_pos h, if_neg (by omega), if_pos h]; rfl
    · subst h; simp [cmpL_swap l m]
    · rw [if_pos h, if_neg (by omega), if_pos h]
theorem cmpL_three : ∀ l m, cmpL l m = -1 ∨ cmpL l m = 0 ∨ cmpL l m = 1
  | [], [] => .inr (.inl rfl)
  | [], _ :: _ => .inl rfl
  | _ :: _, [] => .inr (.inr rfl)
  | a :: l, b :: m => by
    simp only [cmpL]
    split
    · exact .inl rfl
    · split
      · exact .inr (.inr rfl)
      · exact cmpL_three l m
theorem cmpL_zero : ∀ l m, cmpL l m = 0 → l = m
  | [], [], _ => rfl
  | [], _ :: _, h => by simp [cmpL] at h
  | _ :: _, [], h => by simp [cmpL] at h
  | a :: l, b :: m, h => by
    simp only [cmpL] at h
    by_cases h1 : a < b
    · rw [if_pos h1] at h; omega
    · rw [if_neg h1] at h
      by_cases h2 : b < a
      · rw [if_pos h2] at h; omega
      · rw [if_neg h2] at h
        have : a = b := by omega
        rw [this, cmpL_zero l m h]
theorem cmpL_trans : ∀ l m n, cmpL l m < 0 → cmpL m n < 0 → cmpL l n < 0
  | [], [], _, h, _ => by simp [cmpL] at h
  | [], _ :: _, [], _, h => by simp [cmpL] at h
  | [], _ :: _, _ :: _, _, _ => by simp [cmpL]
  | _ :: _, [], _, h, _ => by simp [cmpL] at h
  | _ :: _, _ :: _, [], _, h => by simp [cmpL] at h
  | a :: l, b :: m, c :: n, h, k => by
    simp only [cmpL] at h k ⊢
    by_cases h1 : a < b
    · by_cases k1 : b < c
      · rw [if_pos (by omega)]; omega
      · rw [if_neg k1] at k
        by_cases k2 : c < b
        · rw [if_pos k2] at k; omega
        · rw [if_pos (by omega)]; omega
    · rw [if_neg h1] at h
      by_cases h2 : b < a
      · rw [if_pos h2] at h; omega
      · rw [if_neg h2] at h
        by_cases k1 : b < c
        · rw [if_pos (by omega)]; omega
        · rw [if_neg k1] at k
          by_cases k2 : c < b
          · rw [if_pos k2] at k; omega
          · rw [if_neg k2] at k
            rw [if_neg (by omega), if_neg (by omega)]
            exact cmpL_trans l m n h k
theorem cmpL_append : ∀ l m n, l.length = m.length → cmpL (l ++ n) (m ++ n) = cmpL l m
  | [], [], n, _ => by simp [cmpL, cmpL_refl]
  | [], _ :: _, _, h => by simp at h
  | _ :: _, [], _, h => by simp at h
  | a :: l, b :: m, n, h => by
    simp only [List.cons_append, cmpL]
    rw [cmpL_append l m n (by simpa using h)]
theorem drop_getD (l : List Int) (k : Nat) (h : k < l.length) : l.drop k = l.getD k 0 :: l.drop (k + 1) := by
  rw [List.drop_eq_getElem_cons h]; simp [List.getD, List.getElem?_eq_getElem h]
theorem take_getD (l : List Int) (k : Nat) (h : k < l.length) : l.take (k + 1) = l.take k ++ [l.getD k 0] := by
  rw [List.take_succ_eq_append_getElem h]; simp [List.getD, List.getElem?_eq_getElem h]
theorem cmpL_step (l m : List Int) (k : Nat) (h1 : k < l.length) (h2 : k < m.length) :
    cmpL (l.drop k) (m.drop k) = if l.getD k 0 < m.getD k 0 then -1 else if m.getD k 0 < l.getD k 0 then 1 else cmpL (l.drop (k + 1)) (m.drop (k + 1)) := by
  rw [drop_getD l k h1, drop_getD m k h2]; rfl
theorem cmpL_out (l m : List Int) (k : Nat) (h1 : k < l.length) (h2 : m.length ≤ k) : cmpL (l.drop k) (m.drop k) = 1 := by
  rw [drop_getD l k h1, List.drop_eq_nil_of_le h2]; rfl
theorem cmpL_less (l m : List Int) (k : Nat) (h1 : l.length ≤ k) (h2 : k < m.length) : cmpL (l.drop k) (m.drop k) = -1 := by
  rw [drop_getD m k h2, List.drop_eq_nil_of_le h1]; rfl
theorem cmpL_done (l m : List Int) (k : Nat) (h1 : l.length ≤ k) (h2 : m.length ≤ k) : cmpL (l.drop k) (m.drop k) = 0 := by
  rw [List.drop_eq_nil_of_le h1, List.drop_eq_nil_of_le h2]; rfl

/-! which tape is less -/
theorem lessL_irrefl (l : List Int) : lessL l l = false := by simp [lessL, cmpL_refl]
theorem lessL_one (l m : List Int) (h : l ≠ m) : lessL m l = !lessL l m := by
  unfold lessL
  by_cases e : l.length = m.length
  · rw [if_pos e, if_pos e.symm, cmpL_swap l m]
    have h0 : cmpL l m ≠ 0 := fun z => h (cmpL_zero l m z)
    rcases Int.lt_or_gt_of_ne h0 with g | g
    · rw [decide_eq_false (by omega), decide_eq_true g]; rfl
    · rw [decide_eq_true (by omega), decide_eq_false (by omega)]; rfl
  · rw [if_neg e, if_neg (fun z => e z.symm)]
    by_cases g : l.length < m.length
    · rw [decide_eq_false (by omega), decide_eq_true g]; rfl
    · rw [decide_eq_true (by omega), decide_eq_false g]; rfl
theorem lessL_trans (l m n : List Int) (h : lessL l m = true) (k : lessL m n = true) : lessL l n = true := by
  unfold lessL at *
  by_cases e : l.length = m.length
  · rw [if_pos e] at h
    by_cases f : m.length = n.length
    · rw [if_pos f] at k
      rw [if_pos (by omega)]
      exact decide_eq_true (cmpL_trans l m n (of_decide_eq_true h) (of_decide_eq_true k))
    · rw [if_neg f] at k
      have := of_decide_eq_true k
      rw [if_neg (by omega)]
      exact decide_eq_true (by omega)
  · rw [if_neg e] at h
    have h' := of_decide_eq_true h
    by_cases f : m.length = n.length
    · rw [if_neg (by omega)]; exact decide_eq_true (by omega)
    · rw [if_neg f] at k
      have := of_decide_eq_true k
      rw [if_neg (by omega)]; exact decide_eq_true (by omega)
theorem lessL_append (l m n : List Int) : lessL (l ++ n) (m ++ n) = lessL l m := by
  unfold lessL
  by_cases e : l.length = m.length
  · rw [if_pos (by simp [e]), if_pos e, cmpL_append l m n e]
  · rw [if_neg (by simpa using e), if_neg e]; simp
theorem lessL_longer (l n : List Int) : lessL (l ++ n) l = false := by
  unfold lessL
  by_cases e : n = []
  · subst e; simp [cmpL_refl]
  · have : 0 < n.length := List.length_pos_iff.2 e
    rw [if_neg (by simp; omega)]; simp
theorem lessL_shorter (l n : List Int) : lessL l (l ++ n) = decide (0 < n.length) := by
  unfold lessL
  by_cases e : n = []
  · subst e; simp [cmpL_refl]
  · have : 0 < n.length := List.length_pos_iff.2 e
    rw [if_neg (by simp; omega)]; simp
end Go.Proofs.YtffkppjmdelajaaDoor.Lists

/- Plain laws on a tape's text. No program. -/
namespace Go.Proofs.YtffkppjmdelajaaDoor.Lists
open Go.Lib (itoa decDigits nDigits)

def textL : List Int → List UInt8
  | [] => []
  | [n] => itoa n
  | n :: m :: r => itoa n ++ 46 :: textL (m :: r)
def I64 (n : Int) : Prop := -9223372036854775808 ≤ n ∧ n ≤ 9223372036854775807

theorem textL_cons (n : Int) (l : List Int) : textL (n :: l) = itoa n ++ (if l = [] then [] else 46 :: textL l) := by
  cases l with
  | nil => simp [textL]
  | cons m r => simp [textL]
theorem textL_snoc : ∀ (l : List Int) (n : Int), textL (l ++ [n]) = (if l = [] then [] else textL l ++ [46]) ++ itoa n
  | [], n => by simp [textL]
  | [a], n => by simp [textL]
  | a :: b :: r, n => by
    have ih := textL_snoc (b :: r) n
    rw [List.cons_append, textL_cons, if_neg (by simp), ih, textL_cons a (b :: r), if_neg (by simp), if_neg (by simp), if_neg (by simp)]
    simp
theorem decDigits_pos (u : Nat) : 1 ≤ (decDigits u).length := by rw [Lib.decDigits_length]; exact Lib.nDigits_pos u
theorem itoa_pos (n : Int) : 1 ≤ (itoa n).length := by
  unfold itoa
  split
  · simp
  · exact decDigits_pos _
theorem textL_le : ∀ (l : List Int), (∀ n ∈ l, I64 n) → (textL l).length ≤ 22 * l.length
  | [], _ => by simp [textL]
  | [n], h => by
    have := Lib.itoa_length_le n (h n (by simp)).1 (h n (by simp)).2
    simp [textL]; omega
  | n :: m :: r, h => by
    have h1 := Lib.itoa_length_le n (h n (by simp)).1 (h n (by simp)).2
    have h2 := textL_le (m :: r) (fun x hx => h x (by simp at hx ⊢; right; exact hx))
    simp only [textL, List.length_append, List.length_cons] at h2 ⊢
    omega
theorem textL_one (l : List Int) (n : Int) : (textL l).length + 1 ≤ (textL (l ++ [n])).length := by
  rw [textL_snoc]
  have := itoa_pos n
  split
  · rename_i h; subst h; simp [textL]; omega
  · simp only [List.length_append, List.length_cons, List.length_nil]; omega
theorem textL_grow : ∀ (m l : List Int), (textL l).length + m.length ≤ (textL (l ++ m)).length
  | [], l => by simp
  | n :: m, l => by
    have h1 := textL_grow m (l ++ [n])
    have h2 := textL_one l n
    rw [List.append_assoc] at h1
    simp only [List.cons_append, List.nil_append, List.length_cons] at h1 ⊢
    omega
theorem textL_take (l : List Int) (k : Nat) (h : k < l.length) : textL (l.take (k + 1)) = (if k = 0 then [] else textL (l.take k) ++ [46]) ++ itoa (l.getD k 0) := by
  rw [take_getD l k h, textL_snoc]
  by_cases hk : k = 0
  · subst hk; simp
  · rw [if_neg hk, if_neg]
    intro e
    have h2 : (l.take k).length = 0 := by rw [e]; rfl
    rw [List.length_take] at h2
    omega
end Go.Proofs.YtffkppjmdelajaaDoor.Lists
