/- RoseTells, part 1 of the proof: Small laws that every text leans on. No program but the given rows' measure. · Slices of numbers (nil, empty or not) as lists; what such an argument reads as. Conditions: none. · append of a slice of numbers (nil, empty or not) onto a row of the call's own. Conditions: the sizes. · append of a slice of numbers onto a row of the call's own, as one step of a region that draws its order. Conditions: the sizes. · Lists of lists of numbers in memory: as they are read, and as a call's own that grow. Conditions: the sizes. · slices.Clone, slices.Grow of nil, slices.Concat of lists of numbers. Conditions: the sizes. · slices.Concat of lists of numbers. Conditions: the sizes. · Generators as trees. No program. · Plain laws on generators: what is wrong with one, as the document's own functions ask. No program. · Plain laws: what the program's fits counts, against the document's own Large. No program. -/
import Derived.Test.YtplladlodgfloaaDoorRows
import Derived.WalkKit
import Derived.Deep.RegionWith
import Derived.Deep.QuietTactic
import Derived.BigQuiet
import Derived.Lib.Hide
import Derived.IntWalk
import Derived.ProofKit
import Derived.OpenShut
import Derived.ChangeOld
import Derived.Below
import Derived.Deep.Draws
import Derived.Maps.AppendAt
import Derived.RegionTactic
import Derived.OwnWalk
import Derived.Deep.RegionLaw
import Derived.Deep.Slices
import Derived.Lib.Builder
import Derived.Lib.AppendZeros
import Derived.Lib.SliceRun
/- Small laws that every text leans on. No program but the given rows' measure. -/
namespace Go.Proofs.YtplladlodgfloaaDoor.Ints
open Go.RowKit Go.WideShapes Go.ChangeShapes
set_option linter.unusedVariables false

theorem ret_int {k : IntKind} {a b : Int} (h : a = b) : Ending.returned (.int k a) = .returned (.int k b) := by rw [h]
theorem ret_v {a b : Value} (h : a = b) : Ending.returned a = .returned b := by rw [h]
theorem ret_b {a b : Bool} (h : a = b) : Ending.returned (.bool a) = .returned (.bool b) := by rw [h]
theorem on {a b c : World} (h : Below a.heap.size a b) (k : Below b.heap.size b c) : Below a.heap.size a c := h.trans (k.mono h.size)
theorem after2 {w w1 : World} {o p : Obj} (h : Below ((w.alloc o).alloc p).heap.size ((w.alloc o).alloc p) w1) : Below w.heap.size w w1 :=
  Below.trans (((Below.refl _ _).alloc (Nat.le_refl _) o).alloc (by simp) p) (h.mono (by simp; omega))
theorem after1 {w w1 : World} {o : Obj} (h : Below (w.alloc o).heap.size (w.alloc o) w1) : Below w.heap.size w w1 :=
  Below.trans ((Below.refl _ _).alloc (Nat.le_refl _) o) (h.mono (by simp))
theorem below_drewN (w : World) (n : Nat) : Below w.heap.size w (w.drewN n) := ⟨rfl, rfl, rfl, Nat.le_refl _, fun _ _ => rfl⟩
theorem below_trans {w a b : World} (h : Below w.heap.size w a) (k : Below a.heap.size a b) : Below w.heap.size w b := h.trans (k.mono h.size)
theorem size_toList (s : ByteArray) : s.size = s.data.toList.length := by rw [Array.length_toList]; rfl
theorem string_bulk {H : Type} (s : ByteArray) : Rows.uptoBulk (DataW.lit (H := H) (.string s.data.toList)) = s.size + 1 := by
  rw [size_toList]; simp only [Rows.uptoBulk]
theorem one_le_bulk {H : Type} (d : DataW H) : 1 ≤ Rows.uptoBulk d := by
  cases d with
  | lit l => cases l <;> simp [Rows.uptoBulk]
  | nil => simp [Rows.uptoBulk]
  | ptr d => simp [Rows.uptoBulk]
  | slice elems spare => simp [Rows.uptoBulk]
  | agg parts => simp [Rows.uptoBulk]
  | iface t d => simp [Rows.uptoBulk]
  | map entries => simp [Rows.uptoBulk]
  | held h => simp [Rows.uptoBulk]
end Go.Proofs.YtplladlodgfloaaDoor.Ints

/- Slices of numbers (nil, empty or not) as lists; what such an argument reads as. Conditions: none. -/
namespace Go.Proofs.YtplladlodgfloaaDoor.Ints
open Go.RowKit Go.WideShapes Go.ChangeShapes

/-- The slice at A holds the numbers l, below block B. -/
def At (w : World) (B : Nat) (A : Option Addr) (l : List Int) : Prop :=
  0 < l.length → ∃ b off, A = some ⟨b, off, none⟩ ∧ b < B ∧ ∀ j, j < l.length → w.cell? ⟨b, off + j, none⟩ = some (.int .i64 (l.getD j 0))

section
variable {w w' : World} {B : Nat} {A : Option Addr} {l : List Int}
theorem At.nil : At w B A [] := fun h => by simp at h
theorem At.keep (h : At w B A l) (hk : ∀ b o, b < B → w'.cell? ⟨b, o, none⟩ = w.cell? ⟨b, o, none⟩) : At w' B A l := fun hp => by
  obtain ⟨b, off, e, hb, hc⟩ := h hp
  exact ⟨b, off, e, hb, fun j hj => (hk b _ hb).trans (hc j hj)⟩
theorem At.more {B' : Nat} (h : At w B A l) (hB : B ≤ B') : At w B' A l := fun hp => by
  obtain ⟨b, off, e, hb, hc⟩ := h hp
  exact ⟨b, off, e, by omega, hc⟩
theorem At.below (h : At w B A l) (hb : Below B w w') : At w' B A l := h.keep fun b o hp => hb.cell (p := ⟨b, o, none⟩) hp
theorem At.drewN (h : At w B A l) (k : Nat) : At (w.drewN k) B A l := h
theorem At.drew (h : At w B A l) : At w.drew B A l := h
theorem At.alloc (h : At w B A l) (hB : B ≤ w.heap.size) (o : Obj) : At (w.alloc o) B A l := h.keep fun b p hp => World.cell?_alloc_lt w o ⟨b, p, none⟩ (by show b < _; omega)
theorem At.grown {row : Option Nat} (h : At w B A l) (hg : w.grownBy w' row) (hB : B ≤ w.heap.size) (hr : ∀ g, row = some g → B ≤ g) : At w' B A l :=
  h.below ((Below.refl _ _).grown hg hB hr)
theorem At.own {base E c : Nat} (h : w.ownsRow base E 1 (.slice A l.length c) l.length (l.map (Value.int .i64))) : At w w.heap.size A l := fun hp => by
  rcases h.2 with ⟨he, h0⟩ | ⟨g, cap, cur, he, _, hh, _, _, _, ht⟩
  · omega
  · have hA : A = some ⟨g, 0, none⟩ := by injection he
    refine ⟨g, 0, hA, ?_, fun j hj => ?_⟩
    · exact (Array.getElem?_eq_some_iff.1 hh).1
    · have hj' : cur.toList[j]? = some (.int .i64 (l.getD j 0)) := by
        have h1 : (cur.toList.take (l.length * 1))[j]? = some (.int .i64 (l.getD j 0)) := by
          rw [ht, List.getElem?_map, List.getElem?_eq_getElem hj]
          simp [List.getD, List.getElem?_eq_getElem hj]
        rw [List.getElem?_take] at h1
        split at h1
        · exact h1
        · cases h1
      rw [cell_of_row w g (0 + j) cur E (0, 0) hh]
      simpa [Array.getElem?_toList] using hj'
end

/-! A slice of numbers that came in. -/
set_option maxRecDepth 100000 in
theorem cellsInt : Tryd.prog.cellsOf 3 = 1 := by kernel_rfl
theorem bulk_lits {H : Type} (k : IntKind) (zs : List Int) : Rows.uptoBulkAll (lits (H := H) k zs) = zs.length := by
  induction zs with
  | nil => rfl
  | cons z zs ih =>
    show Rows.uptoBulk (DataW.lit (Lit.int k z)) + Rows.uptoBulkAll (lits (H := H) k zs) = _
    rw [ih]
    simp only [Rows.uptoBulk, List.length_cons]
    omega
set_option maxRecDepth 100000 in
theorem open_list {H : Type} {enc : TypeId × Value → H} {w : World} {base : Nat} {r : Reach} {b0 : Nat} {spare : Nat → Bool} {held : Bool} {v : Value} {d : DataW H} {ps : List MemPlace}
    (hval : Value.okWide Tryd.prog w r b0 25 v) (hd : DataW.Trod enc Tryd.prog w base spare held 25 v d ps) :
    ∃ (A : Option Addr) (l : List Int) (c : Nat), v = .slice A l.length c ∧ At w w.heap.size A l ∧ l.length + 1 ≤ Rows.uptoBulk d ∧ (∀ n ∈ l, (Lit.int .i64 n).wf = true) ∧ l.length ≤ c := by
  obtain ⟨a0, len, cap, rfl⟩ := okWide_slice Tryd.underlying25 hval
  obtain ⟨fuel, hf⟩ := hd
  rcases open_ints Tryd.underlying25 Tryd.underlying3 cellsInt hf with ⟨hcs, hx⟩ | ⟨a, len', cap', zs, hcs, _, hl, hm, hz, hx, hcell, hwz⟩
  · simp [Value.cells] at hcs
    obtain ⟨rfl, rfl, rfl⟩ := hcs
    simp only [Prod.mk.injEq] at hx
    obtain ⟨rfl, rfl⟩ := hx
    exact ⟨none, [], 0, rfl, At.nil, by simp [Rows.uptoBulk], by simp, Nat.le_refl _⟩
  · simp [Value.cells] at hcs
    obtain ⟨rfl, rfl, rfl⟩ := hcs
    simp only [Prod.mk.injEq] at hx
    obtain ⟨rfl, rfl⟩ := hx
    have hlen : (zs.take len).length = len := by
      rw [List.length_take]
      split at hz <;> omega
    refine ⟨some a, zs.take len, cap, by rw [hlen], fun hp => ?_, ?_, fun n hn => hwz n (List.mem_of_mem_take hn), by rw [hlen]; exact hl⟩
    · rw [hlen] at hp
      obtain ⟨b, off, rfl, hc⟩ := ints_at hcell (by split at hz <;> omega)
      have hc0 := hc 0 (by split at hz <;> omega)
      refine ⟨b, off, rfl, ?_, fun j hj => ?_⟩
      · rcases Nat.lt_or_ge b w.heap.size with h | h
        · exact h
        · simp [World.cell?, Array.getElem?_eq_none h] at hc0
      · rw [hlen] at hj
        rw [hc j (by split at hz <;> omega)]
        simp [List.getD, hj]
    · simp only [Rows.uptoBulk, bulk_lits, hlen]
      omega

end Go.Proofs.YtplladlodgfloaaDoor.Ints

/- append of a slice of numbers (nil, empty or not) onto a row of the call's own. Conditions: the sizes. -/
namespace Go.Proofs.YtplladlodgfloaaDoor.Ints
open Go.RowKit Go.WideShapes Go.ChangeShapes
set_option linter.unusedVariables false

/-- The row at A, of the call's own from 'base' on, holds the numbers z. -/
def Own (w : World) (base : Nat) (A : Option Addr) (c : Nat) (z : List Int) : Prop :=
  w.ownsRow base 3 1 (.slice A z.length c) z.length (z.map (Value.int .i64))
def rowOf (A : Option Addr) : Option Nat := A.map (·.block)
theorem rowOf_own (A : Option Addr) (n c : Nat) : (Value.slice A n c).ownBlock = rowOf A := by cases A <;> rfl

theorem Own.at_ {w : World} {base c : Nat} {A : Option Addr} {z : List Int} (h : Own w base A c z) : At w w.heap.size A z := At.own h
theorem Own.ge {w : World} {base c : Nat} {A : Option Addr} {z : List Int} (h : Own w base A c z) : ∀ g, rowOf A = some g → base ≤ g := by
  intro g hg
  rcases h.2 with ⟨he, _⟩ | ⟨g', cap, cur, he, hb, _⟩
  · injection he with he; subst he; cases hg
  · injection he with he; subst he
    have : g' = g := by simpa [rowOf] using hg
    omega
theorem Own.empty {w : World} {b : Nat} (h : w.heap[b]? = some (.cells #[] 3 (0, 0))) : Own w b (some ⟨b, 0, none⟩) 0 [] :=
  ⟨rfl, .inr ⟨b, 0, #[], rfl, Nat.le_refl _, h, Nat.le_refl _, Nat.zero_le _, rfl, rfl⟩⟩
theorem Own.none {w : World} {b : Nat} : Own w b none 0 [] := ⟨rfl, .inl ⟨rfl, rfl⟩⟩
theorem Own.grown {w w' : World} {base c : Nat} {A : Option Addr} {z : List Int} {row : Option Nat} (h : Own w base A c z) (hg : w.grownBy w' row) (hne : ∀ g, rowOf A = some g → row ≠ some g) : Own w' base A c z := by
  refine ⟨h.1, ?_⟩
  rcases h.2 with h0 | ⟨g, cap, cur, he, hb, hh, h1⟩
  · exact .inl h0
  · refine .inr ⟨g, cap, cur, he, hb, ?_, h1⟩
    injection he with he; subst he
    rw [hg.block g (Array.getElem?_eq_some_iff.1 hh).1 (fun e => hne g rfl e.symm)]
    exact hh

theorem Own.below {w w' : World} {base c : Nat} {A : Option Addr} {z : List Int} (h : Own w base A c z) (hb : Below w.heap.size w w') : Own w' base A c z :=
  h.grown (row := Option.none) ⟨hb.os, hb.tape, hb.output, hb.size, fun k hk _ => hb.block k hk⟩ (fun _ _ e => by cases e)
theorem int_info : (Tryd.prog.info? 3).map (fun i => (i.zero, i.size, i.bytes)) = some (some (.int .i64 0), 1, 8) := by kernel_rfl

set_option maxRecDepth 100000 in
theorem run_append_ints (w : World) (base c : Nat) (A : Option Addr) (z : List Int) (hown : Own w base A c z) (B : Nat) (A2 : Option Addr) (c2 : Nat) (l : List Int) (hr : At w B A2 l)
    (h63 : z.length + l.length ≤ 17592186044416) (hbase : base ≤ w.heap.size) (ty : TypeId) :
    ∃ A' c' w', (Builtin.append_ #[25, 25] ty #[.slice A z.length c, .slice A2 l.length c2]).run Tryd.prog w = .ok (.slice A' (z ++ l).length c') w' ∧ Own w' base A' c' (z ++ l) ∧ w.grownBy w' (rowOf A) ∧
      (rowOf A' = rowOf A ∨ rowOf A' = some w.heap.size) := by
  obtain ⟨i0, hi, hz, hsz, hby⟩ := info_parts int_info
  have one : ∀ u ∈ l.map (Value.int .i64), u.oneCell' = true := by
    intro u hu
    obtain ⟨n, _, rfl⟩ := List.mem_map.1 hu
    rfl
  cases A2 with
  | none =>
    have h0 : l = [] := by
      rcases Nat.eq_zero_or_pos l.length with h | h
      · exact List.eq_nil_of_length_eq_zero h
      · obtain ⟨b, off, e, _⟩ := hr h; cases e
    subst h0
    refine ⟨A, c, w, ?_, by simpa using hown, World.grownBy.refl w _, .inl rfl⟩
    have e : (z ++ []).length = z.length := by simp
    rw [e]
    rcases hown.2 with ⟨he, hn⟩ | ⟨g, cap, cur, he, _, _, hnc, _⟩
    · injection he with h1 h2 h3
      subst h1
      rw [hn]
      subst h3
      simp [Builtin.append_, run_underlying Tryd.underlying25, sizeOf, typeInfo, hi, Builtin.lenOf, Builtin.firstCells]
    · injection he with h1 h2 h3
      subst h1
      subst h3
      simp [Builtin.append_, run_underlying Tryd.underlying25, sizeOf, typeInfo, hi, Builtin.lenOf, Builtin.firstCells, hnc, storeCells]
  | some ad =>
    have hcells : ∀ j u, (l.map (Value.int .i64))[j]? = some u → w.cell? (ad.add j) = some u := by
      intro j u hu
      have hj : j < l.length := by
        rcases Nat.lt_or_ge j l.length with h | h
        · exact h
        · rw [List.getElem?_eq_none (by simpa using h)] at hu; cases hu
      obtain ⟨b, off, e, _, hc⟩ := hr (by omega)
      injection e with e
      subst e
      rw [Go.WideShapes.add_plain, hc j hj, ← hu, List.getElem?_map, List.getElem?_eq_getElem hj]
      simp [List.getD, List.getElem?_eq_getElem hj]
    obtain ⟨v', w', hrun, h2, h3, _, h5⟩ := run_append_own_at (P := Tryd.prog) w base 25 ty 3 i0 (.int .i64 0) 1 8 Tryd.underlying25 hi hz hsz hby rfl (by decide) _ z.length _ hown
      ad l.length c2 (l.map (Value.int .i64)) (by simp) hcells one (by simp only [maxLen]; omega) (by omega) hbase
    have hf : ∃ A' c', v' = .slice A' (z.length + l.length) c' := by
      rcases h2.2 with ⟨he, hn⟩ | ⟨g, cap, cur, he, _⟩
      · exact ⟨Option.none, 0, by rw [he, hn]⟩
      · exact ⟨_, _, he⟩
    obtain ⟨A', c', rfl⟩ := hf
    have e : (z ++ l).length = z.length + l.length := by simp
    refine ⟨A', c', w', by rw [e]; exact hrun, ?_, by rw [← rowOf_own A z.length c]; exact h3, ?_⟩
    · unfold Own
      rw [e, List.map_append]
      exact h2
    · rw [rowOf_own, rowOf_own] at h5
      exact h5

set_option maxRecDepth 100000 in
theorem wpList_append_ints {ops : Array Oper} {rest : List Oper} {o : Oper} {a : Act} {w : World} {Q : Exit → Act → World → Prop} (hgd : o.guard = none) (s x : Operand)
    (ho : o.op = .call { callee := .builtin .append, args := #[s, x], argTypes := #[25, 25] })
    (base c : Nat) (A : Option Addr) (z : List Int) (hown : Own w base A c z) (B : Nat) (A2 : Option Addr) (c2 : Nat) (l : List Int) (hr : At w B A2 l)
    (hs : a.eval s = .slice A z.length c) (hx : a.eval x = .slice A2 l.length c2)
    (h63 : z.length + l.length ≤ 17592186044416) (hbase : base ≤ w.heap.size)
    (h : ∀ A' c' w' (zl : List Int), Hid (zl = z ++ l) → Own w' base A' c' zl → w.grownBy w' (rowOf A) → (rowOf A' = rowOf A ∨ rowOf A' = some w.heap.size) → wpList Tryd.prog ops Q rest (a.put o.dst (.slice A' zl.length c')) w') : wpList Tryd.prog ops Q (o :: rest) a w := by
  obtain ⟨A', c', w', hrun, h2, h3, h4⟩ := run_append_ints w base c A z hown B A2 c2 l hr h63 hbase o.type
  refine wpList_plain hgd fun K hK => ?_
  unfold Oper.wp execOp
  simp only [ho, resolve, invoke, builtin, Sem.run_bind, Sem.run_pure, Result.andThen_ok, List.map_toArray, List.map_cons, List.map_nil, hs, hx, hrun]
  exact hK _ _ (h A' c' w' _ rfl h2 h3 h4)

end Go.Proofs.YtplladlodgfloaaDoor.Ints

/- append of a slice of numbers onto a row of the call's own, as one step of a region that draws its order. Conditions: the sizes. -/
namespace Go.Proofs.YtplladlodgfloaaDoor.Ints
open Go.RowKit Go.WideShapes Go.ChangeShapes
set_option linter.unusedVariables false
theorem step_append_ints {ops : Array Oper} {o : Oper} {a : Act} {w : World} {K : Act → World → Prop} {Q : Exit → Act → World → Prop} {E : Prop} (hgd : o.guard = none) (s x : Operand)
    (ho : o.op = .call { callee := .builtin .append, args := #[s, x], argTypes := #[25, 25] })
    (base c : Nat) (A : Option Addr) (z : List Int) (hown : Own w base A c z) (B : Nat) (A2 : Option Addr) (c2 : Nat) (l : List Int) (hr : At w B A2 l)
    (hs : a.eval s = .slice A z.length c) (hx : a.eval x = .slice A2 l.length c2)
    (h63 : z.length + l.length ≤ 17592186044416) (hbase : base ≤ w.heap.size)
    (h : ∀ A' c' w' (zl : List Int), Hid (zl = z ++ l) → Own w' base A' c' zl → w.grownBy w' (rowOf A) → (rowOf A' = rowOf A ∨ rowOf A' = some w.heap.size) → K (a.put o.dst (.slice A' zl.length c')) w') :
    if Region.wanted o (yielded ops a.tmps) = true then Oper.wp Tryd.prog o a w K Q else E := by
  have hw : Region.wanted o (yielded ops a.tmps) = true := by simp [Region.wanted, hgd]
  rw [if_pos hw]
  obtain ⟨A', c', w', hrun, h2, h3, h4⟩ := run_append_ints w base c A z hown B A2 c2 l hr h63 hbase o.type
  unfold Oper.wp execOp
  simp only [ho, resolve, invoke, builtin, Sem.run_bind, Sem.run_pure, Result.andThen_ok, List.map_toArray, List.map_cons, List.map_nil, hs, hx, hrun]
  exact h A' c' w' _ rfl h2 h3 h4
theorem Own.cap_ {w : World} {base c : Nat} {A : Option Addr} {z : List Int} (h : Own w base A c z) : z.length ≤ c := by
  rcases h.2 with ⟨he, h0⟩ | ⟨g, cap, cur, he, _, _, hnc, _⟩
  · omega
  · injection he with _ _ h3; omega
end Go.Proofs.YtplladlodgfloaaDoor.Ints

/- Lists of lists of numbers in memory: as they are read, and as a call's own that grow. Conditions: the sizes. -/
namespace Go.Proofs.YtplladlodgfloaaDoor.Ints
open Go.RowKit Go.WideShapes Go.ChangeShapes
set_option linter.unusedVariables false

/-- The slice at A holds the numbers l, in a block of S. -/
def AtP (w : World) (S : Nat → Prop) (A : Option Addr) (l : List Int) : Prop :=
  0 < l.length → ∃ b off, A = some ⟨b, off, none⟩ ∧ S b ∧ ∀ j, j < l.length → w.cell? ⟨b, off + j, none⟩ = some (.int .i64 (l.getD j 0))
/-- The slice at A holds the lists zs: it lies in a block of So, they in blocks of Si. -/
def RowsP (w : World) (So Si : Nat → Prop) (A : Option Addr) (zs : List (List Int)) : Prop :=
  0 < zs.length → ∃ b off, A = some ⟨b, off, none⟩ ∧ So b ∧ ∀ j (h : j < zs.length), ∃ D d, w.cell? ⟨b, off + j, none⟩ = some (.slice D (zs[j]'h).length d) ∧ (zs[j]'h).length ≤ d ∧ AtP w Si D (zs[j]'h)
abbrev RowsAt (w : World) (B : Nat) (A : Option Addr) (zs : List (List Int)) : Prop := RowsP w (· < B) (· < B) A zs

section
variable {w w' : World} {S S' So Si So' Si' : Nat → Prop} {A : Option Addr} {l : List Int} {zs : List (List Int)} {B : Nat}
theorem AtP.at_ (h : AtP w (· < B) A l) : At w B A l := h
theorem AtP.of_at (h : At w B A l) : AtP w (· < B) A l := h
theorem AtP.keep (h : AtP w S A l) (hk : ∀ b, S b → S' b ∧ ∀ o, w'.cell? ⟨b, o, none⟩ = w.cell? ⟨b, o, none⟩) : AtP w' S' A l := fun hp => by
  obtain ⟨b, off, e, hb, hc⟩ := h hp
  exact ⟨b, off, e, (hk b hb).1, fun j hj => ((hk b hb).2 _).trans (hc j hj)⟩
theorem RowsP.keep (h : RowsP w So Si A zs) (ho : ∀ b, So b → So' b ∧ ∀ o, w'.cell? ⟨b, o, none⟩ = w.cell? ⟨b, o, none⟩) (hi : ∀ b, Si b → Si' b ∧ ∀ o, w'.cell? ⟨b, o, none⟩ = w.cell? ⟨b, o, none⟩) : RowsP w' So' Si' A zs := fun hp => by
  obtain ⟨b, off, e, hb, hc⟩ := h hp
  refine ⟨b, off, e, (ho b hb).1, fun j hj => ?_⟩
  obtain ⟨D, d, h1, h2, h3⟩ := hc j hj
  exact ⟨D, d, ((ho b hb).2 _).trans h1, h2, h3.keep hi⟩
theorem RowsP.nil : RowsP w So Si A [] := fun h => by simp at h
theorem RowsP.below (h : RowsAt w B A zs) (hb : Below B w w') : RowsAt w' B A zs :=
  RowsP.keep h (fun b hB => ⟨hB, fun o => hb.cell (p := ⟨b, o, none⟩) hB⟩) (fun b hB => ⟨hB, fun o => hb.cell (p := ⟨b, o, none⟩) hB⟩)
theorem RowsP.more (h : RowsAt w B A zs) {B' : Nat} (hB : B ≤ B') : RowsAt w B' A zs :=
  RowsP.keep h (fun b hb => ⟨Nat.lt_of_lt_of_le hb hB, fun _ => rfl⟩) (fun b hb => ⟨Nat.lt_of_lt_of_le hb hB, fun _ => rfl⟩)
end

/-- A list of lists of the call's own: its row from base on; its lists in other blocks, from base on. -/
def OwnRows (w : World) (base : Nat) (A : Option Addr) (c : Nat) (zs : List (List Int)) : Prop :=
  ∃ xs : List Value, xs.length = zs.length ∧ w.ownsRow base 25 1 (.slice A zs.length c) zs.length xs ∧
    ∀ j (h : j < zs.length) (h' : j < xs.length), ∃ D d, xs[j]'h' = .slice D (zs[j]'h).length d ∧ (zs[j]'h).length ≤ d ∧ AtP w (fun b => base ≤ b ∧ b < w.heap.size ∧ rowOf A ≠ some b) D (zs[j]'h)
section
variable {w w' : World} {base c : Nat} {A : Option Addr} {zs : List (List Int)}
theorem OwnRows.zero : OwnRows w base none 0 [] := ⟨[], rfl, ⟨rfl, .inl ⟨rfl, rfl⟩⟩, fun j h => by simp at h⟩
theorem OwnRows.ge (h : OwnRows w base A c zs) : ∀ g, rowOf A = some g → base ≤ g ∧ g < w.heap.size := by
  intro g hg
  obtain ⟨xs, _, h2, _⟩ := h
  rcases h2.2 with ⟨he, _⟩ | ⟨g', cap, cur, he, hb, hh, _⟩
  · injection he with he; subst he; cases hg
  · injection he with he; subst he
    have : g' = g := by simpa [rowOf] using hg
    subst this
    exact ⟨hb, (Array.getElem?_eq_some_iff.1 hh).1⟩
theorem OwnRows.below (h : OwnRows w base A c zs) (hb : Below w.heap.size w w') : OwnRows w' base A c zs := by
  obtain ⟨xs, h1, h2, h3⟩ := h
  refine ⟨xs, h1, ⟨h2.1, ?_⟩, fun j hj hj' => ?_⟩
  · rcases h2.2 with h0 | ⟨g, cap, cur, he, hg, hh, h4⟩
    · exact .inl h0
    · exact .inr ⟨g, cap, cur, he, hg, (hb.block g (Array.getElem?_eq_some_iff.1 hh).1).trans hh, h4⟩
  · obtain ⟨D, d, e, hd, ha⟩ := h3 j hj hj'
    exact ⟨D, d, e, hd, ha.keep fun b hB => ⟨⟨hB.1, Nat.lt_of_lt_of_le hB.2.1 hb.size, hB.2.2⟩, fun o => hb.cell (p := ⟨b, o, none⟩) hB.2.1⟩⟩
theorem OwnRows.less (h : OwnRows w base A c zs) {base' : Nat} (hb : base' ≤ base) : OwnRows w base' A c zs := by
  obtain ⟨xs, h1, h2, h3⟩ := h
  refine ⟨xs, h1, ⟨h2.1, ?_⟩, fun j hj hj' => ?_⟩
  · rcases h2.2 with h0 | ⟨g, cap, cur, he, hg, h4⟩
    · exact .inl h0
    · exact .inr ⟨g, cap, cur, he, Nat.le_trans hb hg, h4⟩
  · obtain ⟨D, d, e, hd, ha⟩ := h3 j hj hj'
    exact ⟨D, d, e, hd, ha.keep fun b hB => ⟨⟨Nat.le_trans hb hB.1, hB.2⟩, fun _ => rfl⟩⟩
/-- as it is read -/
theorem OwnRows.rows (h : OwnRows w base A c zs) : RowsP w (fun b => base ≤ b ∧ b < w.heap.size ∧ rowOf A = some b) (fun b => base ≤ b ∧ b < w.heap.size ∧ rowOf A ≠ some b) A zs := fun hp => by
  obtain ⟨xs, h1, h2, h3⟩ := h
  rcases h2.2 with ⟨he, h0⟩ | ⟨g, cap, cur, he, hg, hh, _, _, _, ht⟩
  · omega
  · have hA : A = some ⟨g, 0, none⟩ := by injection he
    refine ⟨g, 0, hA, ⟨hg, (Array.getElem?_eq_some_iff.1 hh).1, by rw [hA]; rfl⟩, fun j hj => ?_⟩
    obtain ⟨D, d, e, hd, ha⟩ := h3 j hj (by omega)
    refine ⟨D, d, ?_, hd, ha⟩
    have h4 : (cur.toList.take (zs.length * 1))[j]? = some (.slice D (zs[j]'hj).length d) := by
      rw [ht, List.getElem?_eq_getElem (by omega), e]
    rw [List.getElem?_take] at h4
    split at h4
    · rw [cell_of_row w g (0 + j) cur 25 (0, 0) hh]
      simpa [Array.getElem?_toList] using h4
    · cases h4
theorem OwnRows.at_ (h : OwnRows w base A c zs) : RowsAt w w.heap.size A zs := h.rows.keep (fun b hb => ⟨hb.2.1, fun _ => rfl⟩) (fun b hb => ⟨hb.2.1, fun _ => rfl⟩)
theorem OwnRows.cap_ (h : OwnRows w base A c zs) : zs.length ≤ c := by
  obtain ⟨xs, _, h2, _⟩ := h
  rcases h2.2 with ⟨he, h0⟩ | ⟨g, cap, cur, he, _, _, hnc, _⟩
  · omega
  · injection he with _ _ h3; omega
end
theorem rows_info : (Tryd.prog.info? 25).map (fun i => (i.zero, i.size, i.bytes)) = some (some (.slice none 0 0), 1, 24) := by kernel_rfl

set_option maxRecDepth 100000 in
theorem run_append_rows (w : World) (base c : Nat) (A : Option Addr) (zs : List (List Int)) (hown : OwnRows w base A c zs) (A2 : Option Addr) (c2 : Nat) (ys : List (List Int))
    (hr : RowsP w (fun _ => True) (fun b => base ≤ b ∧ b < w.heap.size ∧ rowOf A ≠ some b) A2 ys) (h63 : zs.length + ys.length ≤ 4398046511104) (hbase : base ≤ w.heap.size) (ty : TypeId) :
    ∃ A' c' w', (Builtin.append_ #[29, 29] ty #[.slice A zs.length c, .slice A2 ys.length c2]).run Tryd.prog w = .ok (.slice A' (zs ++ ys).length c') w' ∧ OwnRows w' base A' c' (zs ++ ys) ∧ w.grownBy w' (rowOf A) ∧
      (rowOf A' = rowOf A ∨ rowOf A' = some w.heap.size) := by
  obtain ⟨i0, hi, hz, hsz, hby⟩ := info_parts rows_info
  cases A2 with
  | none =>
    have h0 : ys = [] := by
      rcases Nat.eq_zero_or_pos ys.length with h | h
      · exact List.eq_nil_of_length_eq_zero h
      · obtain ⟨b, off, e, _⟩ := hr h; cases e
    subst h0
    have e : (zs ++ []).length = zs.length := by simp
    refine ⟨A, c, w, ?_, by simpa using hown, World.grownBy.refl w _, .inl rfl⟩
    rw [e]
    obtain ⟨xs, x1, x2, x3⟩ := hown
    rcases x2.2 with ⟨he, hn⟩ | ⟨g, cap, cur, he, _, _, hnc, _⟩
    · injection he with h1 h2 h3
      subst h1
      rw [hn]
      subst h3
      simp [Builtin.append_, run_underlying Tryd.underlying29, sizeOf, typeInfo, hi, Builtin.lenOf, Builtin.firstCells]
    · injection he with h1 h2 h3
      subst h1
      subst h3
      simp [Builtin.append_, run_underlying Tryd.underlying29, sizeOf, typeInfo, hi, Builtin.lenOf, Builtin.firstCells, hnc, storeCells]
  | some ad =>
    have each : ∀ j, j < ys.length → ∃ v : Value, w.cell? (ad.add j) = some v ∧ ∀ h : j < ys.length, ∃ D d, v = .slice D (ys[j]'h).length d ∧ (ys[j]'h).length ≤ d ∧ AtP w (fun b => base ≤ b ∧ b < w.heap.size ∧ rowOf A ≠ some b) D (ys[j]'h) := fun j hj => by
      obtain ⟨b, off, e, _, hc⟩ := hr (by omega)
      injection e with e
      subst e
      obtain ⟨D, d, h1, h2, h3⟩ := hc j hj
      exact ⟨_, by rw [add_plain]; exact h1, fun _ => ⟨D, d, rfl, h2, h3⟩⟩
    obtain ⟨f, hf⟩ := Go.Deep.choose_lt each
    obtain ⟨xs, x1, x2, x3⟩ := hown
    have one : ∀ u ∈ (List.range ys.length).map f, u.oneCell' = true := by
      intro u hu
      obtain ⟨j, hj, rfl⟩ := List.mem_map.1 hu
      obtain ⟨D, d, e, _⟩ := (hf j (List.mem_range.1 hj)).2 (List.mem_range.1 hj)
      rw [e]; rfl
    have hcells : ∀ j u, ((List.range ys.length).map f)[j]? = some u → w.cell? (ad.add j) = some u := by
      intro j u hu
      have hj : j < ys.length := by
        rcases Nat.lt_or_ge j ys.length with h | h
        · exact h
        · rw [List.getElem?_eq_none (by simpa using h)] at hu; cases hu
      rw [(hf j hj).1, ← hu, List.getElem?_map, List.getElem?_range hj]
      rfl
    obtain ⟨v', w', hrun, h2, h3, _, h5⟩ := run_append_own_at (P := Tryd.prog) w base 29 ty 25 i0 (.slice none 0 0) 1 24 Tryd.underlying29 hi hz hsz hby rfl (by decide) _ zs.length _ x2
      ad ys.length c2 ((List.range ys.length).map f) (by simp) hcells one (by simp only [maxLen]; omega) (by omega) hbase
    have hf2 : ∃ A' c', v' = .slice A' (zs.length + ys.length) c' := by
      rcases h2.2 with ⟨he, hn⟩ | ⟨g, cap, cur, he, _⟩
      · exact ⟨Option.none, 0, by rw [he, hn]⟩
      · exact ⟨_, _, he⟩
    obtain ⟨A', c', rfl⟩ := hf2
    have e : (zs ++ ys).length = zs.length + ys.length := by simp
    rw [rowOf_own, rowOf_own] at h5
    rw [rowOf_own] at h3
    refine ⟨A', c', w', by rw [e]; exact hrun, ⟨xs ++ (List.range ys.length).map f, by simp [x1], by rw [e]; exact h2, fun j hj hj' => ?_⟩, h3, h5⟩
    have keep : ∀ (D : Option Addr) (z : List Int), AtP w (fun b => base ≤ b ∧ b < w.heap.size ∧ rowOf A ≠ some b) D z → AtP w' (fun b => base ≤ b ∧ b < w'.heap.size ∧ rowOf A' ≠ some b) D z := fun D z ha => ha.keep fun k hk =>
      ⟨⟨hk.1, Nat.lt_of_lt_of_le hk.2.1 h3.size, by
        rcases h5 with h | h
        · rw [h]; exact hk.2.2
        · rw [h]; intro h; have := Option.some.inj h; omega⟩, fun o => World.cell?_of_block (h3.block k hk.2.1 (fun e => hk.2.2 e.symm))⟩
    by_cases hjz : j < zs.length
    · obtain ⟨D, d, e1, e2, e3⟩ := x3 j hjz (by omega)
      rw [List.getElem_append_left (by omega)]
      rw [List.getElem_append_left hjz]
      exact ⟨D, d, e1, e2, keep D _ e3⟩
    · have hj2 : j - zs.length < ys.length := by simp at hj; omega
      obtain ⟨D, d, e1, e2, e3⟩ := (hf (j - zs.length) hj2).2 hj2
      have q1 : (xs ++ (List.range ys.length).map f)[j]'hj' = f (j - zs.length) := by
        rw [List.getElem_append_right (by omega)]
        simp [x1]
      have q2 : (zs ++ ys)[j]'hj = ys[j - zs.length]'hj2 := List.getElem_append_right (by omega)
      rw [q1, q2]
      exact ⟨D, d, e1, e2, keep D _ e3⟩

theorem wpList_append_rows {ops : Array Oper} {rest : List Oper} {o : Oper} {a : Act} {w : World} {Q : Exit → Act → World → Prop} (hgd : o.guard = none) (s x : Operand)
    (ho : o.op = .call { callee := .builtin .append, args := #[s, x], argTypes := #[29, 29] })
    (base c : Nat) (A : Option Addr) (zs : List (List Int)) (hown : OwnRows w base A c zs) (A2 : Option Addr) (c2 : Nat) (ys : List (List Int)) (hr : RowsP w (fun _ => True) (fun b => base ≤ b ∧ b < w.heap.size ∧ rowOf A ≠ some b) A2 ys)
    (hs : a.eval s = .slice A zs.length c) (hx : a.eval x = .slice A2 ys.length c2)
    (h63 : zs.length + ys.length ≤ 4398046511104) (hbase : base ≤ w.heap.size)
    (h : ∀ A' c' w' (zl : List (List Int)), Hid (zl = zs ++ ys) → OwnRows w' base A' c' zl → w.grownBy w' (rowOf A) → (rowOf A' = rowOf A ∨ rowOf A' = some w.heap.size) → wpList Tryd.prog ops Q rest (a.put o.dst (.slice A' zl.length c')) w') : wpList Tryd.prog ops Q (o :: rest) a w := by
  obtain ⟨A', c', w', hrun, h2, h3, h4⟩ := run_append_rows w base c A zs hown A2 c2 ys hr h63 hbase o.type
  refine wpList_plain hgd fun K hK => ?_
  unfold Oper.wp execOp
  simp only [ho, resolve, invoke, builtin, Sem.run_bind, Sem.run_pure, Result.andThen_ok, List.map_toArray, List.map_cons, List.map_nil, hs, hx, hrun]
  exact hK _ _ (h A' c' w' _ rfl h2 h3 h4)
theorem step_append_rows {ops : Array Oper} {o : Oper} {a : Act} {w : World} {K : Act → World → Prop} {Q : Exit → Act → World → Prop} {E : Prop} (hgd : o.guard = none) (s x : Operand)
    (ho : o.op = .call { callee := .builtin .append, args := #[s, x], argTypes := #[29, 29] })
    (base c : Nat) (A : Option Addr) (zs : List (List Int)) (hown : OwnRows w base A c zs) (A2 : Option Addr) (c2 : Nat) (ys : List (List Int)) (hr : RowsP w (fun _ => True) (fun b => base ≤ b ∧ b < w.heap.size ∧ rowOf A ≠ some b) A2 ys)
    (hs : a.eval s = .slice A zs.length c) (hx : a.eval x = .slice A2 ys.length c2)
    (h63 : zs.length + ys.length ≤ 4398046511104) (hbase : base ≤ w.heap.size)
    (h : ∀ A' c' w' (zl : List (List Int)), Hid (zl = zs ++ ys) → OwnRows w' base A' c' zl → w.grownBy w' (rowOf A) → (rowOf A' = rowOf A ∨ rowOf A' = some w.heap.size) → K (a.put o.dst (.slice A' zl.length c')) w') :
    if Region.wanted o (yielded ops a.tmps) = true then Oper.wp Tryd.prog o a w K Q else E := by
  have hw : Region.wanted o (yielded ops a.tmps) = true := by simp [Region.wanted, hgd]
  rw [if_pos hw]
  obtain ⟨A', c', w', hrun, h2, h3, h4⟩ := run_append_rows w base c A zs hown A2 c2 ys hr h63 hbase o.type
  unfold Oper.wp execOp
  simp only [ho, resolve, invoke, builtin, Sem.run_bind, Sem.run_pure, Result.andThen_ok, List.map_toArray, List.map_cons, List.map_nil, hs, hx, hrun]
  exact h A' c' w' _ rfl h2 h3 h4
/-- a row of one list, just made -/
theorem rows_one {w : World} {b : Nat} {D : Option Addr} {z : List Int} {d : Nat} {T : TypeId} {S : Nat → Prop} (h : w.heap[b]? = some (.cells #[.slice D z.length d] T (0, 0))) (hd : z.length ≤ d) (ha : AtP w S D z) : RowsP w (fun _ => True) S (some ⟨b, 0, none⟩) [z] := fun _ =>
  ⟨b, 0, rfl, trivial, fun j hj => by
    obtain rfl : j = 0 := by simp at hj; exact hj
    exact ⟨D, d, by rw [Lib.cell_of_heap h]; rfl, hd, ha⟩⟩
/-- a list of lists of the call's own, of one: just made -/
theorem ownrows_one {w : World} {base b : Nat} {D : Option Addr} {z : List Int} {d : Nat} (hb : base ≤ b) (h : w.heap[b]? = some (.cells #[.slice D z.length d] 25 (0, 0))) (hd : z.length ≤ d) (ha : AtP w (fun k => base ≤ k ∧ k < w.heap.size ∧ k ≠ b) D z) : OwnRows w base (some ⟨b, 0, none⟩) 1 [z] :=
  ⟨[.slice D z.length d], rfl, ⟨rfl, .inr ⟨b, 1, #[.slice D z.length d], rfl, hb, h, Nat.le_refl _, by decide, rfl, rfl⟩⟩, fun j hj hj' => by
    obtain rfl : j = 0 := by simp at hj; exact hj
    exact ⟨D, d, rfl, hd, ha.keep fun k hk => ⟨⟨hk.1, hk.2.1, fun e => hk.2.2 (Option.some.inj e).symm⟩, fun _ => rfl⟩⟩⟩
end Go.Proofs.YtplladlodgfloaaDoor.Ints

/- slices.Clone, slices.Grow of nil, slices.Concat of lists of numbers. Conditions: the sizes. -/
namespace Go.Proofs.YtplladlodgfloaaDoor.Ints
open Go.RowKit Go.WideShapes Go.ChangeShapes
set_option linter.unusedVariables false

theorem heap_new2 (w : World) (o : Obj) : (w.alloc o).heap[w.heap.size]? = some o := by
  show (w.heap.push o)[w.heap.size]? = _
  simp
/-- what hands a new list back -/
def NewL (z : List Int) (w : World) (e : Ending) (w' : World) : Prop := ∃ (A : Option Addr) (c : Nat), e = .returned (.slice A z.length c) ∧ Own w' w.heap.size A c z ∧ Below w.heap.size w w'

set_option maxHeartbeats 2000000 in
set_option maxRecDepth 100000 in
theorem clone_ok {L : Option Addr} {l : List Int} {lc N : Nat} (w : World) (hat : At w N L l) (hN : N ≤ w.heap.size) (hln : l.length ≤ 4294967296) :
    Calls Tryd.prog 45 #[.slice L l.length lc] w (NewL l w) := by
  have q : ∀ (w : World) (a : Option Addr) (n c n' c' : Nat), (binOp .eql 25 (.slice a n c) (.slice none n' c')).run Tryd.prog w = .ok (.bool a.isNone) w := fun w a n c n' c' => Lib.run_eql_slice_nil w _ _ a n c n' c' Tryd.underlying25
  cases L with
  | none =>
    have h0 : l = [] := by
      rcases Nat.eq_zero_or_pos l.length with h | h
      · exact List.eq_nil_of_length_eq_zero h
      · obtain ⟨b, off, e, _⟩ := hat h; cases e
    subst h0
    clear hat
    go_enter Tryd.func45, Tryd.ntmps45
    go_wp2
    go_ret
    exact ⟨none, 0, rfl, Own.none, Below.refl _ _⟩
  | some a =>
    have HA := Lib.hid hat
    have HN := Lib.hid hN
    have HB := Lib.hid ((Below.refl w.heap.size w).alloc (Nat.le_refl _) (.cells #[] 3))
    have HE := Lib.hid (heap_new2 w (.cells #[] 3))
    clear hat hN
    go_enter Tryd.func45, Tryd.ntmps45
    go_wp2_with (at_builtin; refine wpList_append_ints rfl (.tmp 5) (.tmp 6) rfl w.heap.size 0 (some ⟨w.heap.size, 0, none⟩) [] (Own.empty HE.out) N (some a) lc l (HA.out.below (HB.out.mono HN.out)) rfl rfl (by simp; omega) HB.out.size ?_; intro A5 c5 w5 z5 hz5 own5 g5 r5)
    go_ret
    have e : z5 = l := hz5.out
    subst e
    exact ⟨A5, c5, rfl, own5, HB.out.grown g5 HB.out.size (by intro k hk; simp [rowOf] at hk; omega)⟩

set_option maxHeartbeats 2000000 in
set_option maxRecDepth 100000 in
theorem grow_ok (n : Nat) (w : World) (hn : n ≤ 17592186044416) :
    Calls Tryd.prog 54 #[.slice none 0 0, .int .i64 n] w (NewL [] w) := by
  by_cases h0 : n = 0
  · subst h0
    go_enter Tryd.func54, Tryd.ntmps54
    go_wp2
    go_ret
    exact ⟨none, 0, rfl, Own.none, Below.refl _ _⟩
  · obtain ⟨i0, hi, hz, hsz, hby⟩ := info_parts int_info
    have hrz := fun ty => Lib.run_append_nil_zeros (P := Tryd.prog) w 25 3 ty 3 i0 (.int .i64 0) .i64 .i64 Tryd.underlying25 Tryd.underlying3 hi hz n (by omega) (by omega) (by omega) (by rw [hby]; omega)
    have hG := grownCap_ge w n 0 3
    have hG2 := grownCap_le_maxLen w n 0 3 (by unfold maxLen; omega)
    generalize grownCap w n 0 3 = G at hrz hG hG2
    have HO : Own (w.drew.alloc (.cells (Builtin.zeroCells (Value.int .i64 0).cells n ++ Builtin.zeroCells (Value.int .i64 0).cells (G - n)) 3)) w.heap.size (some ⟨w.heap.size, 0, none⟩) G [] := by
      refine ⟨rfl, .inr ⟨w.heap.size, G, _, rfl, Nat.le_refl _, heap_new2 w.drew _, Nat.zero_le _, hG2, ?_, rfl⟩⟩
      simp [Builtin.zeroCells, Value.cells]
      omega
    have HB : Below w.heap.size w (w.drew.alloc (.cells (Builtin.zeroCells (Value.int .i64 0).cells n ++ Builtin.zeroCells (Value.int .i64 0).cells (G - n)) 3)) := (Below.refl _ _).drew.alloc (Nat.le_refl _) _
    have HO := Lib.hid HO
    have HB := Lib.hid HB
    have HG := Lib.hid (And.intro hG hG2)
    have hn' : 0 < n := by omega
    clear hG hG2 hz hsz hby hi h0
    unfold maxLen at HG
    have g63 : G ≤ 9223372036854775807 := HG.out.2
    have gn : n ≤ G := HG.out.1
    generalize w.drew.alloc (.cells (Builtin.zeroCells (Value.int .i64 0).cells n ++ Builtin.zeroCells (Value.int .i64 0).cells (G - n)) 3) = W1 at *
    go_enter Tryd.func54, Tryd.ntmps54
    go_wp2_with (at_builtin; refine Lib.wpList_append_run _ rfl _ _ _ _ rfl _ _ rfl rfl _ _ (hrz _) ?_)
    all_goals (go_ret; exact ⟨some ⟨w.heap.size, 0, none⟩, G, rfl, HO.out, HB.out⟩)
end Go.Proofs.YtplladlodgfloaaDoor.Ints

/- slices.Concat of lists of numbers. Conditions: the sizes. -/
namespace Go.Proofs.YtplladlodgfloaaDoor.Ints
open Go.RowKit Go.WideShapes Go.ChangeShapes
set_option linter.unusedVariables false

theorem flat_take (zs : List (List Int)) (k : Nat) (hk : k < zs.length) : (zs.take (k + 1)).flatten = (zs.take k).flatten ++ zs[k]'hk := by
  rw [List.take_succ_eq_append_getElem hk, List.flatten_append]; simp
theorem flat_take_len (zs : List (List Int)) (k : Nat) : (zs.take k).flatten.length ≤ zs.flatten.length := by
  have := congrArg (fun l => l.flatten.length) (List.take_append_drop k zs)
  simp only [List.flatten_append, List.length_append] at this
  omega

set_option maxHeartbeats 4000000 in
set_option maxRecDepth 100000 in
theorem concat_ok (zs : List (List Int)) (A : Option Addr) (ca N : Nat) (w : World) (hr : RowsAt w N A zs) (hN : N ≤ w.heap.size) (hl : zs.length ≤ 4294967296) (hz : zs.flatten.length ≤ 4294967296) :
    Calls Tryd.prog 46 #[.slice A zs.length ca] w (NewL zs.flatten w) := by
  have HR := Lib.hid hr
  have HN := Lib.hid hN
  have HZ := Lib.hid hz
  have HT := Lib.hid (flat_take_len zs)
  clear hr hN hz
  go_enter Tryd.func46, Tryd.ntmps46
  go_wp2_with fail
  go_loop [3, 11] (fun s i => ∃ k : Nat, k ≤ zs.length ∧ i = .int .i64 k ∧ s = .int .i64 ((zs.take k).flatten.length : Nat)) (fun _ i => zs.length - (intOf i).toNat)
  case atStart => exact ⟨0, Nat.zero_le _, rfl, rfl⟩
  case round =>
    obtain ⟨k, hk, rfl, rfl⟩ := hrel
    by_cases hlt : k < zs.length
    · obtain ⟨b, off, rfl, hb, hc⟩ := HR.out (by omega)
      obtain ⟨D, d, c0, c1, c2⟩ := hc k hlt
      clear hc c2
      have FT := Lib.hid (show (zs.take (k + 1)).flatten.length = (zs.take k).flatten.length + (zs[k]'hlt).length by rw [flat_take zs k hlt, List.length_append])
      have TL := Lib.hid (Nat.le_trans (HT.out (k + 1)) HZ.out)
      generalize zs[k]'hlt = x at *
      generalize (zs.take k).flatten.length = m at *
      have hm : m + x.length ≤ 4294967296 := by have h1 := TL.out; rw [FT.out] at h1; exact h1
      go_wp2
      go_round
      case rel => exact ⟨k + 1, by omega, by go_num, by rw [FT.out]; go_num⟩
      case measure => simp [intOf]; omega
    · have e : (zs.take k).flatten.length = zs.flatten.length := by rw [List.take_of_length_le (by omega)]
      rw [e]
      have G := Lib.hid (fun w' => grow_ok zs.flatten.length w' (by have := HZ.out; omega))
      clear e HT hk
      generalize hM : zs.flatten.length = M at *
      have HM := Lib.hid hM
      clear hM
      go_wp2_with fail
      ((with_reducible refine (G.out _).mono ?_))
      rintro e w1 ⟨A1, c1, rfl, own1, hb1⟩
      have O1 := Lib.hid own1
      have B1 := Lib.hid hb1
      clear own1 hb1 G
      simp only [List.length_nil]
      go_wp2_with fail
      go_loopw [6, 27] (fun v i wr => ∃ (j : Nat) (A2 : Option Addr) (c2 : Nat) (z : List Int), j ≤ zs.length ∧ i = .int .i64 j ∧ v = .slice A2 z.length c2 ∧ Hid (z = (zs.take j).flatten) ∧ Hid (Own wr w.heap.size A2 c2 z) ∧ Hid (Below w.heap.size w wr)) (fun _ i _ => zs.length - (intOf i).toNat)
      case atStart => exact ⟨0, A1, c1, [], Nat.zero_le _, rfl, rfl, (rfl : [] = (zs.take 0).flatten), O1.out, B1.out⟩
      case round =>
        obtain ⟨j, A2, c2, z, hj, rfl, rfl, hzz, ho, hbb⟩ := hrel
        by_cases hlt2 : j < zs.length
        · obtain ⟨b, off, rfl, hb, hc⟩ := HR.out (by omega)
          obtain ⟨D, d, q0, q1, q2⟩ := hc j hlt2
          have q0 : wr.cell? ⟨b, off + j, none⟩ = some (.slice D (zs[j]'hlt2).length d) := (hbb.out.cell (p := ⟨b, off + j, none⟩) (Nat.lt_of_lt_of_le hb HN.out)).trans q0
          have QA := Lib.hid (show At wr N D (zs[j]'hlt2) from q2.keep fun k hk => ⟨hk, fun o => hbb.out.cell (p := ⟨k, o, none⟩) (Nat.lt_of_lt_of_le hk HN.out)⟩)
          clear hc q2
          have FT := Lib.hid (flat_take zs j hlt2)
          have TL := Lib.hid (flat_take_len zs (j + 1))
          generalize zs[j]'hlt2 = x at *
          have BS := Lib.hid (show z.length + x.length ≤ 17592186044416 by
            have h1 := TL.out
            have h2 := HZ.out
            rw [FT.out, ← hzz.out, List.length_append, HM.out] at h1
            omega)
          have WS := Lib.hid hbb.out.size
          go_wp2_with (at_builtin; refine wpList_append_ints rfl (.tmp 31) (.tmp 32) rfl w.heap.size c2 A2 z ho.out N D d x QA.out rfl rfl BS.out WS.out ?_; intro A5 c5 w5 z5 hz5 own5 g5 r5)
          have EZ := Lib.hid (show z5 = (zs.take (j + 1)).flatten by rw [hz5.out, hzz.out, FT.out])
          have B5 := Lib.hid (hbb.out.grown g5 WS.out ho.out.ge)
          have O5 := Lib.hid own5
          clear own5 g5 r5
          go_roundw
          case rel => exact ⟨j + 1, A5, c5, z5, by omega, by go_num, rfl, EZ.out, O5.out, B5.out⟩
          case measure => simp [intOf]; omega
        · have EV := Lib.hid (show z = zs.flatten by rw [hzz.out, List.take_of_length_le (by omega)])
          go_wp2_with fail
          go_ret
          exact ⟨A2, c2, (by rw [← EV.out]; rfl), (by rw [← EV.out]; exact ho.out), hbb.out⟩
end Go.Proofs.YtplladlodgfloaaDoor.Ints

/- Generators as trees. No program. -/
namespace Go.Proofs.YtplladlodgfloaaDoor.Gens
set_option linter.unusedVariables false

inductive Gn where
  | node (kind a b : Int) (subs : List Gn)
instance instGn : Inhabited Gn := ⟨.node 0 0 0 []⟩
def Gn.kind : Gn → Int | .node k _ _ _ => k
def Gn.a : Gn → Int | .node _ a _ _ => a
def Gn.b : Gn → Int | .node _ _ b _ => b
def Gn.subs : Gn → List Gn | .node _ _ _ s => s
mutual
def Gn.size : Gn → Nat
  | .node _ _ _ i => 1 + gsizes i
def gsizes : List Gn → Nat
  | [] => 0
  | t :: r => t.size + gsizes r
end
end Go.Proofs.YtplladlodgfloaaDoor.Gens

/- Plain laws on generators: what is wrong with one, as the document's own functions ask. No program. -/
namespace Go.Proofs.YtplladlodgfloaaDoor.Gens
set_option linter.unusedVariables false

/-! too many parts, or one too deep -/
mutual
def largeG : Gn → Nat → Nat × Bool
  | .node _ _ _ subs, deep => if 6 ≤ deep then (1, true) else largeGs subs (deep + 1) 1
def largeGs : List Gn → Nat → Nat → Nat × Bool
  | [], _, n => (n, decide (30 < n))
  | g :: r, deep, n => if (largeG g deep).2 = true ∨ 30 < n + (largeG g deep).1 then (n + (largeG g deep).1, true) else largeGs r deep (n + (largeG g deep).1)
end
theorem largeG_eq (g : Gn) (deep : Nat) : largeG g deep = if 6 ≤ deep then (1, true) else largeGs g.subs (deep + 1) 1 := by
  cases g with | node k a b s => simp only [largeG, Gn.subs]
mutual
theorem largeG_le : ∀ (g : Gn) (deep : Nat), deep ≤ 6 → (largeG g deep).1 ≤ 31 + 31 * (6 - deep)
  | .node k a b subs, deep, h => by
    simp only [largeG]
    split
    · simp only; omega
    · have := largeGs_le subs (deep + 1) 1 (by omega) (by omega)
      omega
theorem largeGs_le : ∀ (l : List Gn) (deep n : Nat), deep ≤ 6 → n ≤ 30 → (largeGs l deep n).1 ≤ 30 + 31 + 31 * (6 - deep)
  | [], deep, n, h, hn => by simp only [largeGs]; omega
  | g :: r, deep, n, h, hn => by
    have h1 := largeG_le g deep h
    simp only [largeGs]
    split
    · simp only; omega
    · rename_i hc
      exact largeGs_le r deep _ h (by omega)
end
/-- what is left of the subs, so many parts being counted -/
theorem largeGs_drop (l : List Gn) (k deep n : Nat) (h : k < l.length) : largeGs (l.drop k) deep n = if (largeG (l[k]'h) deep).2 = true ∨ 30 < n + (largeG (l[k]'h) deep).1 then (n + (largeG (l[k]'h) deep).1, true) else largeGs (l.drop (k + 1)) deep (n + (largeG (l[k]'h) deep).1) := by
  rw [List.drop_eq_getElem_cons h, largeGs]
mutual
/-- in all parts, a generator that is not too large has so many parts, and so deep -/
theorem large_size : ∀ (g : Gn) (deep : Nat), (largeG g deep).2 = false → g.size = (largeG g deep).1
  | .node k a b subs, deep, h => by
    simp only [largeG] at h ⊢
    split at h
    · cases h
    · rename_i h6
      rw [if_neg h6]
      rw [Gn.size, larges_size subs (deep + 1) 1 h]
theorem larges_size : ∀ (l : List Gn) (deep n : Nat), (largeGs l deep n).2 = false → n + gsizes l = (largeGs l deep n).1
  | [], deep, n, h => by simp [largeGs, gsizes]
  | g :: r, deep, n, h => by
    simp only [largeGs] at h ⊢
    split at h
    · cases h
    · rename_i hc
      rw [if_neg hc]
      have h1 : (largeG g deep).2 = false := by
        cases hb : (largeG g deep).2 with
        | false => rfl
        | true => exact absurd (.inl hb) hc
      have := large_size g deep h1
      rw [← larges_size r deep _ h, gsizes]
      omega
end
theorem larges_small : ∀ (l : List Gn) (deep n : Nat), (largeGs l deep n).2 = false → (largeGs l deep n).1 ≤ 30
  | [], deep, n, h => by simp [largeGs] at h ⊢; exact h
  | g :: r, deep, n, h => by
    simp only [largeGs] at h ⊢
    split at h
    · cases h
    · rename_i hc
      rw [if_neg hc]
      exact larges_small r deep _ h
theorem small_size {g : Gn} {deep : Nat} (h : (largeG g deep).2 = false) : g.size ≤ 30 := by
  rw [large_size g deep h, largeG_eq]
  rw [largeG_eq] at h
  split at h
  · cases h
  · rename_i h6
    rw [if_neg h6]
    exact larges_small _ _ _ h

/-! what is wrong with the parts -/
def farB (n : Int) : Bool := decide (n < -1073741824) || decide (1073741824 < n)
def kindBad (g : Gn) : Bool := decide (g.kind < 1) || decide (5 < g.kind)
def rangeBad (g : Gn) : Bool :=
  (g.kind == 1 && farB g.a) || (g.kind == 2 && (farB g.a || farB g.b || decide (g.b < g.a) || decide (1000 < g.b - g.a))) || (g.kind == 4 && (decide (g.a < 0) || decide (5 < g.a)))
def subsBad (g : Gn) : Bool :=
  (decide (g.kind ≤ 2) && !g.subs.isEmpty) || (g.kind == 4 && (g.subs.length != 1)) || (g.kind == 5 && g.subs.isEmpty)
mutual
def partV : Gn → Int
  | .node k a b subs => if kindBad (.node k a b subs) = true then 3 else if rangeBad (.node k a b subs) = true then 1 else if subsBad (.node k a b subs) = true then 3 else partVs subs
def partVs : List Gn → Int
  | [] => 0
  | g :: r => if partV g ≠ 0 then partV g else partVs r
end
theorem partV_eq (g : Gn) : partV g = if kindBad g = true then 3 else if rangeBad g = true then 1 else if subsBad g = true then 3 else partVs g.subs := by
  cases g with | node k a b s => simp only [partV, Gn.subs]
theorem partVs_app (l m : List Gn) : partVs (l ++ m) = if partVs l ≠ 0 then partVs l else partVs m := by
  induction l with
  | nil => simp [partVs]
  | cons t r ih =>
    simp only [List.cons_append, partVs, ih]
    by_cases h : partV t = 0 <;> simp [h]
theorem part_step0 (l : List Gn) (k : Nat) (hk : k < l.length) (hz : partVs (l.take k) = 0) (h : partV (l[k]'hk) = 0) : partVs (l.take (k + 1)) = 0 := by
  rw [List.take_succ_eq_append_getElem hk, partVs_app, hz]; simp [partVs, h]
theorem part_step1 (l : List Gn) (k : Nat) (hk : k < l.length) (hz : partVs (l.take k) = 0) (h : partV (l[k]'hk) ≠ 0) : partV (l[k]'hk) = partVs l := by
  have h1 : partVs (l.take (k + 1)) = partV (l[k]'hk) := by
    rw [List.take_succ_eq_append_getElem hk, partVs_app, hz]; simp [partVs, h]
  have h2 := partVs_app (l.take (k + 1)) (l.drop (k + 1))
  rw [List.take_append_drop, h1, if_pos h] at h2
  exact h2.symm
def genV (g : Gn) : Int := if (largeG g 0).2 = true then 4 else partV g
/-- right -/
def Right (g : Gn) : Prop := partV g = 0
theorem right_of {g : Gn} (h : Right g) : kindBad g = false ∧ rangeBad g = false ∧ subsBad g = false ∧ partVs g.subs = 0 := by
  unfold Right at h
  rw [partV_eq] at h
  split at h
  · cases h
  · split at h
    · cases h
    · split at h
      · cases h
      · rename_i h1 h2 h3
        exact ⟨by simpa using h1, by simpa using h2, by simpa using h3, h⟩
theorem rights_of : ∀ {l : List Gn}, partVs l = 0 → ∀ x ∈ l, Right x
  | [], _, x, hx => by cases hx
  | g :: r, h, x, hx => by
    simp only [partVs] at h
    split at h
    · rename_i h1; exact absurd h h1
    · rename_i h1
      rcases List.mem_cons.1 hx with rfl | hx
      · unfold Right; simpa using h1
      · exact rights_of h x hx
theorem Right.subs {g : Gn} (h : Right g) : ∀ x ∈ g.subs, Right x := rights_of (right_of h).2.2.2
theorem gsize_mem : ∀ (l : List Gn) (g : Gn), g ∈ l → g.size ≤ gsizes l
  | [], g, h => by simp at h
  | x :: r, g, h => by
    rcases List.mem_cons.1 h with rfl | h
    · rw [gsizes]; omega
    · have := gsize_mem r g h; rw [gsizes]; omega
theorem gsize_pos (g : Gn) : 1 ≤ g.size := by cases g with | node k a b s => rw [Gn.size]; omega
theorem glen_sizes : ∀ l : List Gn, l.length ≤ gsizes l
  | [] => by simp
  | x :: r => by have := glen_sizes r; have := gsize_pos x; rw [gsizes, List.length_cons]; omega
theorem gsize_subs (t : Gn) : t.size = 1 + gsizes t.subs := by cases t with | node k a b s => rfl
end Go.Proofs.YtplladlodgfloaaDoor.Gens

/- Plain laws: what the program's fits counts, against the document's own Large. No program. -/
namespace Go.Proofs.YtplladlodgfloaaDoor.Gens
set_option linter.unusedVariables false

mutual
def fitsG : Gn → Nat → Nat → Bool × Nat
  | .node _ _ _ subs, deep, p => if 30 < p + 1 ∨ 6 ≤ deep then (false, p + 1) else fitsGs subs (deep + 1) (p + 1)
def fitsGs : List Gn → Nat → Nat → Bool × Nat
  | [], _, p => (true, p)
  | g :: r, deep, p => if (fitsG g deep p).1 = true then fitsGs r deep (fitsG g deep p).2 else (false, (fitsG g deep p).2)
end
theorem fitsG_eq (g : Gn) (deep p : Nat) : fitsG g deep p = if 30 < p + 1 ∨ 6 ≤ deep then (false, p + 1) else fitsGs g.subs (deep + 1) (p + 1) := by
  cases g with | node k a b s => simp only [fitsG, Gn.subs]
theorem fitsGs_drop (l : List Gn) (k deep p : Nat) (h : k < l.length) : fitsGs (l.drop k) deep p = if (fitsG (l[k]'h) deep p).1 = true then fitsGs (l.drop (k + 1)) deep (fitsG (l[k]'h) deep p).2 else (false, (fitsG (l[k]'h) deep p).2) := by
  rw [List.drop_eq_getElem_cons h, fitsGs]
mutual
def okD : Gn → Nat → Bool
  | .node _ _ _ subs, deep => decide (deep < 6) && okDs subs (deep + 1)
def okDs : List Gn → Nat → Bool
  | [], _ => true
  | g :: r, deep => okD g deep && okDs r deep
end
mutual
theorem fits_ok : ∀ (g : Gn) (deep p : Nat), (okD g deep = true → p + g.size ≤ 30 → fitsG g deep p = (true, p + g.size)) ∧ (¬ (okD g deep = true ∧ p + g.size ≤ 30) → (fitsG g deep p).1 = false)
  | .node k a b subs, deep, p => by
    have ih := fitss_ok subs (deep + 1) (p + 1)
    refine ⟨fun h1 h2 => ?_, fun h => ?_⟩
    · simp only [okD, Bool.and_eq_true, decide_eq_true_eq] at h1
      rw [Gn.size] at h2 ⊢
      rw [fitsG, if_neg (by omega), ih.1 h1.2 (by omega)]
      simp only [Prod.mk.injEq, true_and]; omega
    · rw [fitsG]
      split
      · rfl
      · rename_i hc
        refine ih.2 (fun h3 => h ⟨?_, ?_⟩) (by omega)
        · simp only [okD, Bool.and_eq_true, decide_eq_true_eq]; exact ⟨by omega, h3.1⟩
        · rw [Gn.size]; omega
theorem fitss_ok : ∀ (l : List Gn) (deep p : Nat), (okDs l deep = true → p + gsizes l ≤ 30 → fitsGs l deep p = (true, p + gsizes l)) ∧ (¬ (okDs l deep = true ∧ p + gsizes l ≤ 30) → p ≤ 30 → (fitsGs l deep p).1 = false)
  | [], deep, p => by
    refine ⟨fun h1 h2 => by simp [fitsGs, gsizes], fun h hp => absurd ⟨by simp [okDs], by simpa [gsizes] using hp⟩ h⟩
  | g :: r, deep, p => by
    have i1 := fits_ok g deep p
    have i2 := fitss_ok r deep (p + g.size)
    refine ⟨fun h1 h2 => ?_, fun h hp => ?_⟩
    · simp only [okDs, Bool.and_eq_true] at h1
      rw [gsizes] at h2
      rw [fitsGs, i1.1 h1.1 (by omega), if_pos rfl, i2.1 h1.2 (by omega), gsizes, Nat.add_assoc]
    · rw [fitsGs]
      by_cases hg : okD g deep = true ∧ p + g.size ≤ 30
      · rw [i1.1 hg.1 hg.2, if_pos rfl]
        refine i2.2 (fun h3 => h ⟨?_, ?_⟩) hg.2
        · simp only [okDs, Bool.and_eq_true]; exact ⟨hg.1, h3.1⟩
        · rw [gsizes]; omega
      · have := i1.2 hg
        rw [if_neg (by rw [this]; simp)]
end
mutual
theorem large_ok : ∀ (g : Gn) (deep : Nat), ((largeG g deep).2 = false ↔ okD g deep = true ∧ g.size ≤ 30)
  | .node k a b subs, deep => by
    have ih := larges_ok subs (deep + 1) 1 (by omega)
    rw [largeG]
    split
    · rename_i h
      simp only [okD, Bool.and_eq_true, decide_eq_true_eq, Gn.size]
      constructor
      · intro h; cases h
      · intro h; omega
    · rename_i h
      rw [ih]
      simp only [okD, Bool.and_eq_true, decide_eq_true_eq, Gn.size]
      constructor
      · intro h3; exact ⟨⟨by omega, h3.1⟩, h3.2⟩
      · intro h3; exact ⟨h3.1.2, h3.2⟩
theorem larges_ok : ∀ (l : List Gn) (deep n : Nat), n ≤ 30 → ((largeGs l deep n).2 = false ↔ okDs l deep = true ∧ n + gsizes l ≤ 30)
  | [], deep, n, hn => by simp [largeGs, okDs, gsizes, hn]
  | g :: r, deep, n, hn => by
    have i1 := large_ok g deep
    rw [largeGs]
    split
    · rename_i hc
      constructor
      · intro h; cases h
      · intro h
        simp only [okDs, Bool.and_eq_true, gsizes] at h
        have h1 : (largeG g deep).2 = false := i1.2 ⟨h.1.1, by omega⟩
        have h2 := large_size g deep h1
        rcases hc with hc | hc
        · rw [h1] at hc; cases hc
        · omega
    · rename_i hc
      have h1 : (largeG g deep).2 = false := by
        cases hb : (largeG g deep).2 with
        | false => rfl
        | true => exact absurd (.inl hb) hc
      have h2 := large_size g deep h1
      have h3 := i1.1 h1
      rw [larges_ok r deep _ (by omega)]
      simp only [okDs, Bool.and_eq_true, gsizes]
      constructor
      · intro h; exact ⟨⟨h3.1, h.1⟩, by omega⟩
      · intro h; exact ⟨h.1.2, by omega⟩
end
/-- the program's measure is the document's -/
theorem fits_large (g : Gn) : (fitsG g 0 0).1 = !(largeG g 0).2 := by
  cases h : (largeG g 0).2 with
  | false =>
    obtain ⟨h1, h2⟩ := (large_ok g 0).1 h
    rw [(fits_ok g 0 0).1 h1 (by omega)]; rfl
  | true =>
    rw [(fits_ok g 0 0).2 (fun h3 => ?_)]; · rfl
    have := (large_ok g 0).2 ⟨h3.1, by omega⟩
    rw [h] at this; cases this
theorem fits_few (g : Gn) (deep p : Nat) (h : (fitsG g deep p).1 = true) : (fitsG g deep p).2 ≤ 30 := by
  by_cases hg : okD g deep = true ∧ p + g.size ≤ 30
  · rw [(fits_ok g deep p).1 hg.1 hg.2]; exact hg.2
  · rw [(fits_ok g deep p).2 hg] at h; cases h
end Go.Proofs.YtplladlodgfloaaDoor.Gens
