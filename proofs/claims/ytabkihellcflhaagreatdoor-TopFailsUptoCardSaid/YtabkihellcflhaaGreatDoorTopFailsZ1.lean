/- TopFails, part 1 of the proof: Small laws that every text leans on. No program but the given rows' measure. · Generators as trees. No program. · Plain laws on generators: what is wrong with one, as the document's own functions ask. No program. · Plain laws: what the program's fits counts, against the document's own Large. No program. -/
import Derived.Test.YtabkihellcflhaaGreatDoorRows
import Derived.WalkKit
import Derived.Deep.RegionWith
import Derived.Deep.QuietTactic
import Derived.BigQuiet
import Derived.Lib.Hide
import Derived.IntWalk
import Derived.ProofKit
import Derived.OpenShut
import Derived.ChangeOld
import Derived.Below
import Derived.Deep.Draws
/- Small laws that every text leans on. No program but the given rows' measure. -/
namespace Go.Proofs.YtabkihellcflhaaGreatDoor.Ints
open Go.RowKit Go.WideShapes Go.ChangeShapes
set_option linter.unusedVariables false

theorem ret_int {k : IntKind} {a b : Int} (h : a = b) : Ending.returned (.int k a) = .returned (.int k b) := by rw [h]
theorem ret_v {a b : Value} (h : a = b) : Ending.returned a = .returned b := by rw [h]
theorem ret_b {a b : Bool} (h : a = b) : Ending.returned (.bool a) = .returned (.bool b) := by rw [h]
theorem on {a b c : World} (h : Below a.heap.size a b) (k : Below b.heap.size b c) : Below a.heap.size a c := h.trans (k.mono h.size)
theorem after2 {w w1 : World} {o p : Obj} (h : Below ((w.alloc o).alloc p).heap.size ((w.alloc o).alloc p) w1) : Below w.heap.size w w1 :=
  Below.trans (((Below.refl _ _).alloc (Nat.le_refl _) o).alloc (by simp) p) (h.mono (by simp; omega))
theorem after1 {w w1 : World} {o : Obj} (h : Below (w.alloc o).heap.size (w.alloc o) w1) : Below w.heap.size w w1 :=
  Below.trans ((Below.refl _ _).alloc (Nat.le_refl _) o) (h.mono (by simp))
theorem below_drewN (w : World) (n : Nat) : Below w.heap.size w (w.drewN n) := ⟨rfl, rfl, rfl, Nat.le_refl _, fun _ _ => rfl⟩
theorem below_trans {w a b : World} (h : Below w.heap.size w a) (k : Below a.heap.size a b) : Below w.heap.size w b := h.trans (k.mono h.size)
theorem size_toList (s : ByteArray) : s.size = s.data.toList.length := by rw [Array.length_toList]; rfl
theorem string_bulk {H : Type} (s : ByteArray) : Rows.uptoBulk (DataW.lit (H := H) (.string s.data.toList)) = s.size + 1 := by
  rw [size_toList]; simp only [Rows.uptoBulk]
theorem one_le_bulk {H : Type} (d : DataW H) : 1 ≤ Rows.uptoBulk d := by
  cases d with
  | lit l => cases l <;> simp [Rows.uptoBulk]
  | nil => simp [Rows.uptoBulk]
  | ptr d => simp [Rows.uptoBulk]
  | slice elems spare => simp [Rows.uptoBulk]
  | agg parts => simp [Rows.uptoBulk]
  | iface t d => simp [Rows.uptoBulk]
  | map entries => simp [Rows.uptoBulk]
  | held h => simp [Rows.uptoBulk]
end Go.Proofs.YtabkihellcflhaaGreatDoor.Ints

/- Generators as trees. No program. -/
namespace Go.Proofs.YtabkihellcflhaaGreatDoor.Gens
set_option linter.unusedVariables false

inductive Gn where
  | node (kind a b : Int) (subs : List Gn)
instance instGn : Inhabited Gn := ⟨.node 0 0 0 []⟩
def Gn.kind : Gn → Int | .node k _ _ _ => k
def Gn.a : Gn → Int | .node _ a _ _ => a
def Gn.b : Gn → Int | .node _ _ b _ => b
def Gn.subs : Gn → List Gn | .node _ _ _ s => s
mutual
def Gn.size : Gn → Nat
  | .node _ _ _ i => 1 + gsizes i
def gsizes : List Gn → Nat
  | [] => 0
  | t :: r => t.size + gsizes r
end
end Go.Proofs.YtabkihellcflhaaGreatDoor.Gens

/- Plain laws on generators: what is wrong with one, as the document's own functions ask. No program. -/
namespace Go.Proofs.YtabkihellcflhaaGreatDoor.Gens
set_option linter.unusedVariables false

/-! too many parts, or one too deep -/
mutual
def largeG : Gn → Nat → Nat × Bool
  | .node _ _ _ subs, deep => if 6 ≤ deep then (1, true) else largeGs subs (deep + 1) 1
def largeGs : List Gn → Nat → Nat → Nat × Bool
  | [], _, n => (n, decide (30 < n))
  | g :: r, deep, n => if (largeG g deep).2 = true ∨ 30 < n + (largeG g deep).1 then (n + (largeG g deep).1, true) else largeGs r deep (n + (largeG g deep).1)
end
theorem largeG_eq (g : Gn) (deep : Nat) : largeG g deep = if 6 ≤ deep then (1, true) else largeGs g.subs (deep + 1) 1 := by
  cases g with | node k a b s => simp only [largeG, Gn.subs]
mutual
theorem largeG_le : ∀ (g : Gn) (deep : Nat), deep ≤ 6 → (largeG g deep).1 ≤ 31 + 31 * (6 - deep)
  | .node k a b subs, deep, h => by
    simp only [largeG]
    split
    · simp only; omega
    · have := largeGs_le subs (deep + 1) 1 (by omega) (by omega)
      omega
theorem largeGs_le : ∀ (l : List Gn) (deep n : Nat), deep ≤ 6 → n ≤ 30 → (largeGs l deep n).1 ≤ 30 + 31 + 31 * (6 - deep)
  | [], deep, n, h, hn => by simp only [largeGs]; omega
  | g :: r, deep, n, h, hn => by
    have h1 := largeG_le g deep h
    simp only [largeGs]
    split
    · simp only; omega
    · rename_i hc
      exact largeGs_le r deep _ h (by omega)
end
/-- what is left of the subs, so many parts being counted -/
theorem largeGs_drop (l : List Gn) (k deep n : Nat) (h : k < l.length) : largeGs (l.drop k) deep n = if (largeG (l[k]'h) deep).2 = true ∨ 30 < n + (largeG (l[k]'h) deep).1 then (n + (largeG (l[k]'h) deep).1, true) else largeGs (l.drop (k + 1)) deep (n + (largeG (l[k]'h) deep).1) := by
  rw [List.drop_eq_getElem_cons h, largeGs]
mutual
/-- in all parts, a generator that is not too large has so many parts, and so deep -/
theorem large_size : ∀ (g : Gn) (deep : Nat), (largeG g deep).2 = false → g.size = (largeG g deep).1
  | .node k a b subs, deep, h => by
    simp only [largeG] at h ⊢
    split at h
    · cases h
    · rename_i h6
      rw [if_neg h6]
      rw [Gn.size, larges_size subs (deep + 1) 1 h]
theorem larges_size : ∀ (l : List Gn) (deep n : Nat), (largeGs l deep n).2 = false → n + gsizes l = (largeGs l deep n).1
  | [], deep, n, h => by simp [largeGs, gsizes]
  | g :: r, deep, n, h => by
    simp only [largeGs] at h ⊢
    split at h
    · cases h
    · rename_i hc
      rw [if_neg hc]
      have h1 : (largeG g deep).2 = false := by
        cases hb : (largeG g deep).2 with
        | false => rfl
        | true => exact absurd (.inl hb) hc
      have := large_size g deep h1
      rw [← larges_size r deep _ h, gsizes]
      omega
end
theorem larges_small : ∀ (l : List Gn) (deep n : Nat), (largeGs l deep n).2 = false → (largeGs l deep n).1 ≤ 30
  | [], deep, n, h => by simp [largeGs] at h ⊢; exact h
  | g :: r, deep, n, h => by
    simp only [largeGs] at h ⊢
    split at h
    · cases h
    · rename_i hc
      rw [if_neg hc]
      exact larges_small r deep _ h
theorem small_size {g : Gn} {deep : Nat} (h : (largeG g deep).2 = false) : g.size ≤ 30 := by
  rw [large_size g deep h, largeG_eq]
  rw [largeG_eq] at h
  split at h
  · cases h
  · rename_i h6
    rw [if_neg h6]
    exact larges_small _ _ _ h

/-! what is wrong with the parts -/
def farB (n : Int) : Bool := decide (n < -1073741824) || decide (1073741824 < n)
def kindBad (g : Gn) : Bool := decide (g.kind < 1) || decide (5 < g.kind)
def rangeBad (g : Gn) : Bool :=
  (g.kind == 1 && farB g.a) || (g.kind == 2 && (farB g.a || farB g.b || decide (g.b < g.a) || decide (1000 < g.b - g.a))) || (g.kind == 4 && (decide (g.a < 0) || decide (5 < g.a)))
def subsBad (g : Gn) : Bool :=
  (decide (g.kind ≤ 2) && !g.subs.isEmpty) || (g.kind == 4 && (g.subs.length != 1)) || (g.kind == 5 && g.subs.isEmpty)
mutual
def partV : Gn → Int
  | .node k a b subs => if kindBad (.node k a b subs) = true then 3 else if rangeBad (.node k a b subs) = true then 1 else if subsBad (.node k a b subs) = true then 3 else partVs subs
def partVs : List Gn → Int
  | [] => 0
  | g :: r => if partV g ≠ 0 then partV g else partVs r
end
theorem partV_eq (g : Gn) : partV g = if kindBad g = true then 3 else if rangeBad g = true then 1 else if subsBad g = true then 3 else partVs g.subs := by
  cases g with | node k a b s => simp only [partV, Gn.subs]
theorem partVs_app (l m : List Gn) : partVs (l ++ m) = if partVs l ≠ 0 then partVs l else partVs m := by
  induction l with
  | nil => simp [partVs]
  | cons t r ih =>
    simp only [List.cons_append, partVs, ih]
    by_cases h : partV t = 0 <;> simp [h]
theorem part_step0 (l : List Gn) (k : Nat) (hk : k < l.length) (hz : partVs (l.take k) = 0) (h : partV (l[k]'hk) = 0) : partVs (l.take (k + 1)) = 0 := by
  rw [List.take_succ_eq_append_getElem hk, partVs_app, hz]; simp [partVs, h]
theorem part_step1 (l : List Gn) (k : Nat) (hk : k < l.length) (hz : partVs (l.take k) = 0) (h : partV (l[k]'hk) ≠ 0) : partV (l[k]'hk) = partVs l := by
  have h1 : partVs (l.take (k + 1)) = partV (l[k]'hk) := by
    rw [List.take_succ_eq_append_getElem hk, partVs_app, hz]; simp [partVs, h]
  have h2 := partVs_app (l.take (k + 1)) (l.drop (k + 1))
  rw [List.take_append_drop, h1, if_pos h] at h2
  exact h2.symm
def genV (g : Gn) : Int := if (largeG g 0).2 = true then 4 else partV g
/-- right -/
def Right (g : Gn) : Prop := partV g = 0
theorem right_of {g : Gn} (h : Right g) : kindBad g = false ∧ rangeBad g = false ∧ subsBad g = false ∧ partVs g.subs = 0 := by
  unfold Right at h
  rw [partV_eq] at h
  split at h
  · cases h
  · split at h
    · cases h
    · split at h
      · cases h
      · rename_i h1 h2 h3
        exact ⟨by simpa using h1, by simpa using h2, by simpa using h3, h⟩
theorem rights_of : ∀ {l : List Gn}, partVs l = 0 → ∀ x ∈ l, Right x
  | [], _, x, hx => by cases hx
  | g :: r, h, x, hx => by
    simp only [partVs] at h
    split at h
    · rename_i h1; exact absurd h h1
    · rename_i h1
      rcases List.mem_cons.1 hx with rfl | hx
      · unfold Right; simpa using h1
      · exact rights_of h x hx
theorem Right.subs {g : Gn} (h : Right g) : ∀ x ∈ g.subs, Right x := rights_of (right_of h).2.2.2
theorem gsize_mem : ∀ (l : List Gn) (g : Gn), g ∈ l → g.size ≤ gsizes l
  | [], g, h => by simp at h
  | x :: r, g, h => by
    rcases List.mem_cons.1 h with rfl | h
    · rw [gsizes]; omega
    · have := gsize_mem r g h; rw [gsizes]; omega
theorem gsize_pos (g : Gn) : 1 ≤ g.size := by cases g with | node k a b s => rw [Gn.size]; omega
theorem glen_sizes : ∀ l : List Gn, l.length ≤ gsizes l
  | [] => by simp
  | x :: r => by have := glen_sizes r; have := gsize_pos x; rw [gsizes, List.length_cons]; omega
theorem gsize_subs (t : Gn) : t.size = 1 + gsizes t.subs := by cases t with | node k a b s => rfl
end Go.Proofs.YtabkihellcflhaaGreatDoor.Gens

/- Plain laws: what the program's fits counts, against the document's own Large. No program. -/
namespace Go.Proofs.YtabkihellcflhaaGreatDoor.Gens
set_option linter.unusedVariables false

mutual
def fitsG : Gn → Nat → Nat → Bool × Nat
  | .node _ _ _ subs, deep, p => if 30 < p + 1 ∨ 6 ≤ deep then (false, p + 1) else fitsGs subs (deep + 1) (p + 1)
def fitsGs : List Gn → Nat → Nat → Bool × Nat
  | [], _, p => (true, p)
  | g :: r, deep, p => if (fitsG g deep p).1 = true then fitsGs r deep (fitsG g deep p).2 else (false, (fitsG g deep p).2)
end
theorem fitsG_eq (g : Gn) (deep p : Nat) : fitsG g deep p = if 30 < p + 1 ∨ 6 ≤ deep then (false, p + 1) else fitsGs g.subs (deep + 1) (p + 1) := by
  cases g with | node k a b s => simp only [fitsG, Gn.subs]
theorem fitsGs_drop (l : List Gn) (k deep p : Nat) (h : k < l.length) : fitsGs (l.drop k) deep p = if (fitsG (l[k]'h) deep p).1 = true then fitsGs (l.drop (k + 1)) deep (fitsG (l[k]'h) deep p).2 else (false, (fitsG (l[k]'h) deep p).2) := by
  rw [List.drop_eq_getElem_cons h, fitsGs]
mutual
def okD : Gn → Nat → Bool
  | .node _ _ _ subs, deep => decide (deep < 6) && okDs subs (deep + 1)
def okDs : List Gn → Nat → Bool
  | [], _ => true
  | g :: r, deep => okD g deep && okDs r deep
end
mutual
theorem fits_ok : ∀ (g : Gn) (deep p : Nat), (okD g deep = true → p + g.size ≤ 30 → fitsG g deep p = (true, p + g.size)) ∧ (¬ (okD g deep = true ∧ p + g.size ≤ 30) → (fitsG g deep p).1 = false)
  | .node k a b subs, deep, p => by
    have ih := fitss_ok subs (deep + 1) (p + 1)
    refine ⟨fun h1 h2 => ?_, fun h => ?_⟩
    · simp only [okD, Bool.and_eq_true, decide_eq_true_eq] at h1
      rw [Gn.size] at h2 ⊢
      rw [fitsG, if_neg (by omega), ih.1 h1.2 (by omega)]
      simp only [Prod.mk.injEq, true_and]; omega
    · rw [fitsG]
      split
      · rfl
      · rename_i hc
        refine ih.2 (fun h3 => h ⟨?_, ?_⟩) (by omega)
        · simp only [okD, Bool.and_eq_true, decide_eq_true_eq]; exact ⟨by omega, h3.1⟩
        · rw [Gn.size]; omega
theorem fitss_ok : ∀ (l : List Gn) (deep p : Nat), (okDs l deep = true → p + gsizes l ≤ 30 → fitsGs l deep p = (true, p + gsizes l)) ∧ (¬ (okDs l deep = true ∧ p + gsizes l ≤ 30) → p ≤ 30 → (fitsGs l deep p).1 = false)
  | [], deep, p => by
    refine ⟨fun h1 h2 => by simp [fitsGs, gsizes], fun h hp => absurd ⟨by simp [okDs], by simpa [gsizes] using hp⟩ h⟩
  | g :: r, deep, p => by
    have i1 := fits_ok g deep p
    have i2 := fitss_ok r deep (p + g.size)
    refine ⟨fun h1 h2 => ?_, fun h hp => ?_⟩
    · simp only [okDs, Bool.and_eq_true] at h1
      rw [gsizes] at h2
      rw [fitsGs, i1.1 h1.1 (by omega), if_pos rfl, i2.1 h1.2 (by omega), gsizes, Nat.add_assoc]
    · rw [fitsGs]
      by_cases hg : okD g deep = true ∧ p + g.size ≤ 30
      · rw [i1.1 hg.1 hg.2, if_pos rfl]
        refine i2.2 (fun h3 => h ⟨?_, ?_⟩) hg.2
        · simp only [okDs, Bool.and_eq_true]; exact ⟨hg.1, h3.1⟩
        · rw [gsizes]; omega
      · have := i1.2 hg
        rw [if_neg (by rw [this]; simp)]
end
mutual
theorem large_ok : ∀ (g : Gn) (deep : Nat), ((largeG g deep).2 = false ↔ okD g deep = true ∧ g.size ≤ 30)
  | .node k a b subs, deep => by
    have ih := larges_ok subs (deep + 1) 1 (by omega)
    rw [largeG]
    split
    · rename_i h
      simp only [okD, Bool.and_eq_true, decide_eq_true_eq, Gn.size]
      constructor
      · intro h; cases h
      · intro h; omega
    · rename_i h
      rw [ih]
      simp only [okD, Bool.and_eq_true, decide_eq_true_eq, Gn.size]
      constructor
      · intro h3; exact ⟨⟨by omega, h3.1⟩, h3.2⟩
      · intro h3; exact ⟨h3.1.2, h3.2⟩
theorem larges_ok : ∀ (l : List Gn) (deep n : Nat), n ≤ 30 → ((largeGs l deep n).2 = false ↔ okDs l deep = true ∧ n + gsizes l ≤ 30)
  | [], deep, n, hn => by simp [largeGs, okDs, gsizes, hn]
  | g :: r, deep, n, hn => by
    have i1 := large_ok g deep
    rw [largeGs]
    split
    · rename_i hc
      constructor
      · intro h; cases h
      · intro h
        simp only [okDs, Bool.and_eq_true, gsizes] at h
        have h1 : (largeG g deep).2 = false := i1.2 ⟨h.1.1, by omega⟩
        have h2 := large_size g deep h1
        rcases hc with hc | hc
        · rw [h1] at hc; cases hc
        · omega
    · rename_i hc
      have h1 : (largeG g deep).2 = false := by
        cases hb : (largeG g deep).2 with
        | false => rfl
        | true => exact absurd (.inl hb) hc
      have h2 := large_size g deep h1
      have h3 := i1.1 h1
      rw [larges_ok r deep _ (by omega)]
      simp only [okDs, Bool.and_eq_true, gsizes]
      constructor
      · intro h; exact ⟨⟨h3.1, h.1⟩, by omega⟩
      · intro h; exact ⟨h.1.2, by omega⟩
end
/-- the program's measure is the document's -/
theorem fits_large (g : Gn) : (fitsG g 0 0).1 = !(largeG g 0).2 := by
  cases h : (largeG g 0).2 with
  | false =>
    obtain ⟨h1, h2⟩ := (large_ok g 0).1 h
    rw [(fits_ok g 0 0).1 h1 (by omega)]; rfl
  | true =>
    rw [(fits_ok g 0 0).2 (fun h3 => ?_)]; · rfl
    have := (large_ok g 0).2 ⟨h3.1, by omega⟩
    rw [h] at this; cases this
theorem fits_few (g : Gn) (deep p : Nat) (h : (fitsG g deep p).1 = true) : (fitsG g deep p).2 ≤ 30 := by
  by_cases hg : okD g deep = true ∧ p + g.size ≤ 30
  · rw [(fits_ok g deep p).1 hg.1 hg.2]; exact hg.2
  · rw [(fits_ok g deep p).2 hg] at h; cases h
end Go.Proofs.YtabkihellcflhaaGreatDoor.Gens
