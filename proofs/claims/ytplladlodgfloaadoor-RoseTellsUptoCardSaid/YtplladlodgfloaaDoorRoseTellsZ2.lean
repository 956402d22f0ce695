/- RoseTells, part 2 of the proof: Generators (three numbers, subs) as trees: how they lie in memory, and what an argument reads as. · Plain laws on lists of numbers: which is less, where both first differ. No program. · Plain laws on a tape's text. No program. · A generator's box; small laws. No program but the types. · The program's fits: a contract. Conditions: the size. · An error of the program's, of its number. · The program's Check of generators, but for fits: contracts. Conditions: the size. · The program's Check of generators. Conditions: the size. -/
import Derived.Test.YtplladlodgfloaaDoorRoseTellsZ1
import Derived.Deep.Slices
import Derived.Deep.Fields
import Derived.Lib.SmallJoins
import Derived.Test.YtplladlodgfloaaDoorRows
import Derived.Lib.ItoaNum
import Derived.Lib.ItoaLen
import Derived.Lib.Bytealg
import Derived.Lib.Walk
import Derived.Lib.BufferWrite
import Derived.Maps.AppendAt
/- Generators (three numbers, subs) as trees: how they lie in memory, and what an argument reads as. -/
namespace Go.Proofs.YtplladlodgfloaaDoor.Gens
open Go.RowKit Go.WideShapes Go.ChangeShapes Go.Deep Go.Joins
set_option linter.unusedVariables false

abbrev gv (t : Gn) (A : Option Addr) (c : Nat) : Value := .agg #[.int .i64 t.kind, .int .i64 t.a, .int .i64 t.b, .slice A t.subs.length c]
abbrev Wf (x : Int) : Prop := (Lit.int .i64 x).wf = true

/-- In world w, in blocks of S, the value v is the generator t of at most so many levels. -/
def GAt (w : World) (S : Nat → Prop) : Nat → Value → Gn → Prop
  | 0, _, _ => False
  | n + 1, v, t => (Wf t.kind ∧ Wf t.a ∧ Wf t.b) ∧ ∃ A c, v = gv t A c ∧ t.subs.length ≤ c ∧
      (0 < t.subs.length → ∃ b off, A = some ⟨b, off, none⟩ ∧ S b ∧ ∀ j (h : j < t.subs.length), ∃ x0 x1 x2 x3, w.cell? ⟨b, off + j * 4, none⟩ = some x0 ∧ w.cell? ⟨b, off + j * 4 + 1, none⟩ = some x1 ∧ w.cell? ⟨b, off + j * 4 + 2, none⟩ = some x2 ∧ w.cell? ⟨b, off + j * 4 + 3, none⟩ = some x3 ∧ GAt w S n (.agg #[x0, x1, x2, x3]) (t.subs[j]'h))

theorem GAt.keep {w w' : World} {S S' : Nat → Prop} (hk : ∀ b, S b → S' b ∧ ∀ o, w'.cell? ⟨b, o, none⟩ = w.cell? ⟨b, o, none⟩) : ∀ {n : Nat} {v : Value} {t : Gn}, GAt w S n v t → GAt w' S' n v t
  | 0, _, _, h => h
  | n + 1, v, t, h => by
    obtain ⟨hw, A, c, rfl, hcap, h⟩ := h
    refine ⟨hw, A, c, rfl, hcap, fun hp => ?_⟩
    obtain ⟨b, off, e, hb, hc⟩ := h hp
    obtain ⟨hb', hk'⟩ := hk b hb
    refine ⟨b, off, e, hb', fun j hj => ?_⟩
    obtain ⟨x0, x1, x2, x3, c0, c1, c2, c3, ht⟩ := hc j hj
    exact ⟨x0, x1, x2, x3, (hk' _).trans c0, (hk' _).trans c1, (hk' _).trans c2, (hk' _).trans c3, GAt.keep hk ht⟩
def GBel (B : Nat) : Nat → Prop := fun b => b < B
theorem GAt.below {w w' : World} {B n : Nat} {v : Value} {t : Gn} (h : GAt w (GBel B) n v t) (hb : Below B w w') : GAt w' (GBel B) n v t :=
  h.keep fun b hB => ⟨hB, fun o => hb.cell (p := ⟨b, o, none⟩) hB⟩
theorem GAt.more {w : World} {B B' n : Nat} {v : Value} {t : Gn} (h : GAt w (GBel B) n v t) (hB : B ≤ B') : GAt w (GBel B') n v t :=
  h.keep fun b hb => ⟨Nat.lt_of_lt_of_le hb hB, fun _ => rfl⟩
theorem GAt.up {w : World} {S : Nat → Prop} : ∀ {n m : Nat} {v : Value} {t : Gn}, n ≤ m → GAt w S n v t → GAt w S m v t
  | 0, _, _, _, _, h => h.elim
  | n + 1, 0, _, _, hm, _ => by omega
  | n + 1, m + 1, v, t, hm, h => by
    obtain ⟨hw, A, c, rfl, hcap, h⟩ := h
    refine ⟨hw, A, c, rfl, hcap, fun hp => ?_⟩
    obtain ⟨b, off, e, hb, hc⟩ := h hp
    refine ⟨b, off, e, hb, fun j hj => ?_⟩
    obtain ⟨x0, x1, x2, x3, c0, c1, c2, c3, ht⟩ := hc j hj
    exact ⟨x0, x1, x2, x3, c0, c1, c2, c3, GAt.up (by omega) ht⟩
/-- opened -/
theorem GAt.open_ {w : World} {S : Nat → Prop} {n : Nat} {v : Value} {t : Gn} (h : GAt w S n v t) : ∃ m A c, n = m + 1 ∧ (Wf t.kind ∧ Wf t.a ∧ Wf t.b) ∧ v = gv t A c ∧
    (0 < t.subs.length → ∃ b off, A = some ⟨b, off, none⟩ ∧ S b ∧ ∀ j (h : j < t.subs.length), ∃ x0 x1 x2 x3, w.cell? ⟨b, off + j * 4, none⟩ = some x0 ∧ w.cell? ⟨b, off + j * 4 + 1, none⟩ = some x1 ∧ w.cell? ⟨b, off + j * 4 + 2, none⟩ = some x2 ∧ w.cell? ⟨b, off + j * 4 + 3, none⟩ = some x3 ∧ GAt w S m (.agg #[x0, x1, x2, x3]) (t.subs[j]'h)) := by
  cases n with
  | zero => exact h.elim
  | succ n =>
    obtain ⟨hw, A, c, rfl, hcap, h⟩ := h
    exact ⟨n, A, c, rfl, hw, rfl, h⟩
/-- its capacity -/
theorem GAt.cap_ {w : World} {S : Nat → Prop} {n : Nat} {t : Gn} {A : Option Addr} {c : Nat} (h : GAt w S n (gv t A c) t) : t.subs.length ≤ c := by
  cases n with
  | zero => exact h.elim
  | succ n =>
    obtain ⟨_, A', c', e, hcap, _⟩ := h
    simp only [gv, Value.agg.injEq, Array.mk.injEq, List.cons.injEq, and_true, true_and, Value.slice.injEq] at e
    omega
/-- a sub, read at a later world, its parts in sight -/
theorem sub_as {w wr : World} {B n : Nat} {A : Option Addr} {l : List Gn}
    (hit : 0 < l.length → ∃ b off, A = some ⟨b, off, none⟩ ∧ GBel B b ∧ ∀ j (h : j < l.length), ∃ x0 x1 x2 x3, w.cell? ⟨b, off + j * 4, none⟩ = some x0 ∧ w.cell? ⟨b, off + j * 4 + 1, none⟩ = some x1 ∧ w.cell? ⟨b, off + j * 4 + 2, none⟩ = some x2 ∧ w.cell? ⟨b, off + j * 4 + 3, none⟩ = some x3 ∧ GAt w (GBel B) n (.agg #[x0, x1, x2, x3]) (l[j]'h))
    (hb : Below B w wr) (k : Nat) (h : k < l.length) : ∃ b off D d, A = some ⟨b, off, none⟩ ∧ wr.cell? ⟨b, off + k * 4, none⟩ = some (.int .i64 (l[k]'h).kind) ∧ wr.cell? ⟨b, off + k * 4 + 1, none⟩ = some (.int .i64 (l[k]'h).a) ∧ wr.cell? ⟨b, off + k * 4 + 2, none⟩ = some (.int .i64 (l[k]'h).b) ∧ wr.cell? ⟨b, off + k * 4 + 3, none⟩ = some (.slice D (l[k]'h).subs.length d) ∧
      GAt wr (GBel B) n (gv (l[k]'h) D d) (l[k]'h) := by
  obtain ⟨b, off, e, hB, hc⟩ := hit (by omega)
  obtain ⟨x0, x1, x2, x3, c0, c1, c2, c3, ht⟩ := hc k h
  obtain ⟨_, D, d, _, _, ev, _⟩ := ht.open_
  simp only [Value.agg.injEq, Array.mk.injEq, List.cons.injEq, and_true] at ev
  obtain ⟨rfl, rfl, rfl, rfl⟩ := ev
  exact ⟨b, off, D, d, e, (hb.cell (p := ⟨b, _, none⟩) hB).trans c0, (hb.cell (p := ⟨b, _, none⟩) hB).trans c1, (hb.cell (p := ⟨b, _, none⟩) hB).trans c2, (hb.cell (p := ⟨b, _, none⟩) hB).trans c3, ht.below hb⟩

theorem gsizes_bulk {H : Type} (f : Nat → Gn) (elems : List (DataW H)) : ∀ (k : Nat), (∀ i (h : i < elems.length), (f (k + i)).size ≤ Rows.uptoBulk (elems[i]'h)) → gsizes ((List.range' k elems.length).map f) ≤ Rows.uptoBulkAll elems := by
  induction elems with
  | nil => intro k _; simp [gsizes, Rows.uptoBulkAll]
  | cons d r ih =>
    intro k h
    simp only [List.length_cons, List.range'_succ, List.map_cons, gsizes, Rows.uptoBulkAll]
    have h0 := h 0 (by simp)
    have h1 := ih (k + 1) (fun i hi => by
      have := h (i + 1) (by simpa using hi)
      simpa [Nat.add_assoc, Nat.add_comm 1 i] using this)
    simp at h0
    omega

set_option maxRecDepth 100000 in
theorem cells4 : Tryd.prog.cellsOf 24 = 4 := by kernel_rfl
set_option maxRecDepth 100000 in
theorem ghone : oneCellFields Tryd.prog #[{ name := "Kind", type := 3, offset := 0, embedded := false, tag := "", pkgPath := "", byteOffset := 0 }, { name := "A", type := 3, offset := 1, embedded := false, tag := "", pkgPath := "", byteOffset := 8 }, { name := "B", type := 3, offset := 2, embedded := false, tag := "", pkgPath := "", byteOffset := 16 }, { name := "Subs", type := 22, offset := 3, embedded := false, tag := "", pkgPath := "", byteOffset := 24 }] = true := by kernel_rfl

set_option maxRecDepth 100000 in
theorem gread_tree {H : Type} {enc : TypeId × Value → H} {w : World} {base : Nat} {spare : Nat → Bool} {held : Bool} : ∀ (fuel : Nat) (cs : List Value) (x : DataW H × List MemPlace),
    DataW.trod enc Tryd.prog w base spare held fuel 24 cs = some x → ∃ t : Gn, GAt w (GBel w.heap.size) fuel (.agg cs.toArray) t ∧ t.size ≤ Rows.uptoBulk x.1 := by
  intro fuel
  induction fuel using Nat.strongRecOn with
  | ind fuel ih =>
    intro cs x h
    obtain ⟨xs, n, rfl, rfl, hlen, hxl, hf⟩ := DataW.trod_struct Tryd.underlying24 h
    rw [cells4] at hlen
    match cs, hlen with
    | [c0, c1, c2, c3], _ =>
      obtain ⟨o0, k0⟩ := hone_of ghone 0 _ rfl
      obtain ⟨o1, k1⟩ := hone_of ghone 1 _ rfl
      obtain ⟨o2, k2⟩ := hone_of ghone 2 _ rfl
      obtain ⟨o3, k3⟩ := hone_of ghone 3 _ rfl
      match xs, hxl with
      | [y0, y1, y2, y3], _ =>
        have f0 := hf 0 _ rfl
        have f1 := hf 1 _ rfl
        have f2 := hf 2 _ rfl
        have f3 := hf 3 _ rfl
        rw [o0, k0] at f0
        rw [o1, k1] at f1
        rw [o2, k2] at f2
        rw [o3, k3] at f3
        obtain ⟨l, e0, rfl, hl⟩ := DataW.trod_int Tryd.underlying3 f0
        obtain ⟨m, e1, rfl, hm⟩ := DataW.trod_int Tryd.underlying3 f1
        obtain ⟨q, e2, rfl, hq⟩ := DataW.trod_int Tryd.underlying3 f2
        simp only [List.drop_zero, List.take_succ_cons, List.take_zero, List.cons.injEq, and_true, List.drop_succ_cons] at e0 e1 e2
        subst e0 e1 e2
        rcases DataW.trod_slice Tryd.underlying22 f3 with ⟨e2, rfl⟩ | ⟨a, len, cap, elems, rest, n', rfl, e2, rfl, _, hlc, _, hel, hat, _, _⟩
        · simp only [List.take_succ_cons, List.take_zero, List.cons.injEq, and_true, List.drop_succ_cons, List.drop_zero] at e2
          subst e2
          exact ⟨.node l m q [], ⟨⟨hl, hm, hq⟩, none, 0, rfl, Nat.le_refl _, fun hp => by simp [Gn.subs] at hp⟩, by simp [Gn.size, gsizes, Rows.uptoBulk, Rows.uptoBulkAll]⟩
        · simp only [List.take_succ_cons, List.take_zero, List.cons.injEq, and_true, List.drop_succ_cons, List.drop_zero] at e2
          subst e2
          have each : ∀ i, i < len → ∃ t : Gn, ∃ cs' : List Value, w.cells? base (a.add (i * 4)) 4 = some cs' ∧ GAt w (GBel w.heap.size) n' (.agg cs'.toArray) t ∧ ∀ (hi : i < elems.length), t.size ≤ Rows.uptoBulk (elems[i]'hi).1 := by
            intro i hi
            have h1 := hat i hi
            rw [cells4] at h1
            have hi' : i < elems.length := by omega
            rw [List.getElem?_eq_getElem hi'] at h1
            obtain ⟨cs', hc, ht⟩ := Option.bind_eq_some_iff.1 h1
            obtain ⟨t, h2, h3⟩ := ih n' (by omega) cs' _ ht
            exact ⟨t, cs', hc, h2, fun _ => h3⟩
          obtain ⟨f, hfx⟩ := choose_lt each
          refine ⟨.node l m q ((List.range' 0 len).map f), ⟨⟨hl, hm, hq⟩, some a, cap, ?_, by simpa [Gn.subs] using hlc, fun hp => ?_⟩, ?_⟩
          · simp [Gn.subs, Gn.kind, Gn.a, Gn.b]
          · have hp' : 0 < len := by simpa [Gn.subs] using hp
            obtain ⟨b, off, spot⟩ := a
            have hcell : ∀ i, i < len → ∀ q, q < 4 → ∃ u, w.cell? ((⟨b, off, spot⟩ : Addr).add (i * 4) |>.add q) = some u := by
              intro i hi q hq
              obtain ⟨cs', hc, _⟩ := hfx i hi
              obtain ⟨_, hl', hu⟩ := World.cells?_some hc
              exact ⟨_, (hu q hq).trans (List.getElem?_eq_getElem (by omega))⟩
            have hspot : spot = none := by
              obtain ⟨u, hu⟩ := hcell 0 hp' 0 (by omega)
              simpa [Addr.add] using World.cell?_spot hu
            subst hspot
            refine ⟨b, off, rfl, ?_, fun j hj => ?_⟩
            · obtain ⟨u, hu⟩ := hcell 0 hp' 0 (by omega)
              exact World.block_lt_of_cell? _ _ (by simpa [Addr.add] using hu)
            · have hj' : j < len := by simpa [Gn.subs] using hj
              obtain ⟨cs', hc, ht, _⟩ := hfx j hj'
              obtain ⟨_, hl', hu⟩ := World.cells?_some hc
              match cs', hl' with
              | [x0, x1, x2, x3], _ =>
                have u0 := hu 0 (by omega)
                have u1 := hu 1 (by omega)
                have u2 := hu 2 (by omega)
                have u3 := hu 3 (by omega)
                rw [add_plain, add_plain] at u0 u1 u2 u3
                refine ⟨x0, x1, x2, x3, by simpa using u0, by simpa using u1, by simpa using u2, by simpa using u3, ?_⟩
                have e : (Gn.node l m q ((List.range' 0 len).map f)).subs[j]'hj = f j := by simp [Gn.subs]
                rw [e]
                exact GAt.up (by omega) ht
          · simp only [Gn.size, List.map_cons, List.map_nil, Rows.uptoBulk, Rows.uptoBulkAll]
            have := gsizes_bulk f (elems.map (·.1)) 0 (fun i hi => by
              have hi' : i < elems.length := by simpa using hi
              obtain ⟨_, _, _, hs⟩ := hfx i (by omega)
              have := hs hi'
              simpa using this)
            rw [List.length_map, hel] at this
            omega

set_option maxRecDepth 100000 in
theorem open_gen {H : Type} {enc : TypeId × Value → H} {w : World} {base : Nat} {r : Reach} {b0 : Nat} {spare : Nat → Bool} {held : Bool} {v : Value} {d : DataW H} {ps : List MemPlace}
    (hval : Value.okWide Tryd.prog w r b0 24 v) (hd : DataW.Trod enc Tryd.prog w base spare held 24 v d ps) :
    ∃ (t : Gn) (n : Nat), GAt w (GBel w.heap.size) n v t ∧ t.size ≤ Rows.uptoBulk d := by
  obtain ⟨cs, rfl, _⟩ := okWide_struct Tryd.underlying24 hval
  obtain ⟨fuel, hf⟩ := hd
  obtain ⟨t, h1, h2⟩ := gread_tree fuel _ _ hf
  exact ⟨t, fuel, by simpa [Value.cells] using h1, h2⟩
end Go.Proofs.YtplladlodgfloaaDoor.Gens

/- Plain laws on lists of numbers: which is less, where both first differ. No program. -/
namespace Go.Proofs.YtplladlodgfloaaDoor.Lists

/-- the sign of the first difference -/
def cmpL : List Int → List Int → Int
  | [], [] => 0
  | [], _ :: _ => -1
  | _ :: _, [] => 1
  | a :: l, b :: m => if a < b then -1 else if b < a then 1 else cmpL l m
def lessL (l m : List Int) : Bool := if l.length = m.length then decide (cmpL l m < 0) else decide (l.length < m.length)

theorem cmpL_refl : ∀ l, cmpL l l = 0
  | [] => rfl
  | a :: l => by simp [cmpL, cmpL_refl l]
theorem cmpL_swap : ∀ l m, cmpL m l = - cmpL l m
  | [], [] => rfl
  | [], _ :: _ => rfl
  | _ :: _, [] => rfl
  | a :: l, b :: m => by
    simp only [cmpL]
    rcases Int.lt_trichotomy a b with h | h | h
    · rw [if_pos h, if_neg (by omega), if_pos h]; rfl
    · subst h; simp [cmpL_swap l m]
    · rw [if_pos h, if_neg (by omega), if_pos h]
theorem cmpL_three : ∀ l m, cmpL l m = -1 ∨ cmpL l m = 0 ∨ cmpL l m = 1
  | [], [] => .inr (.inl rfl)
  | [], _ :: _ => .inl rfl
  | _ :: _, [] => .inr (.inr rfl)
  | a :: l, b :: m => by
    simp only [cmpL]
    split
    · exact .inl rfl
    · split
      · exact .inr (.inr rfl)
      · exact cmpL_three l m
theorem cmpL_zero : ∀ l m, cmpL l m = 0 → l = m
  | [], [], _ => rfl
  | [], _ :: _, h => by simp [cmpL] at h
  | _ :: _, [], h => by simp [cmpL] at h
  | a :: l, b :: m, h => by
    simp only [cmpL] at h
    by_cases h1 : a < b
    · rw [if_pos h1] at h; omega
    · rw [if_neg h1] at h
      by_cases h2 : b < a
      · rw [if_pos h2] at h; omega
      · rw [if_neg h2] at h
        have : a = b := by omega
        rw [this, cmpL_zero l m h]
theorem cmpL_trans : ∀ l m n, cmpL l m < 0 → cmpL m n < 0 → cmpL l n < 0
  | [], [], _, h, _ => by simp [cmpL] at h
  | [], _ :: _, [], _, h => by simp [cmpL] at h
  | [], _ :: _, _ :: _, _, _ => by simp [cmpL]
  | _ :: _, [], _, h, _ => by simp [cmpL] at h
  | _ :: _, _ :: _, [], _, h => by simp [cmpL] at h
  | a :: l, b :: m, c :: n, h, k => by
    simp only [cmpL] at h k ⊢
    by_cases h1 : a < b
    · by_cases k1 : b < c
      · rw [if_pos (by omega)]; omega
      · rw [if_neg k1] at k
        by_cases k2 : c < b
        · rw [if_pos k2] at k; omega
        · rw [if_pos (by omega)]; omega
    · rw [if_neg h1] at h
      by_cases h2 : b < a
      · rw [if_pos h2] at h; omega
      · rw [if_neg h2] at h
        by_cases k1 : b < c
        · rw [if_pos (by omega)]; omega
        · rw [if_neg k1] at k
          by_cases k2 : c < b
          · rw [if_pos k2] at k; omega
          · rw [if_neg k2] at k
            rw [if_neg (by omega), if_neg (by omega)]
            exact cmpL_trans l m n h k
theorem cmpL_append : ∀ l m n, l.length = m.length → cmpL (l ++ n) (m ++ n) = cmpL l m
  | [], [], n, _ => by simp [cmpL, cmpL_refl]
  | [], _ :: _, _, h => by simp at h
  | _ :: _, [], _, h => by simp at h
  | a :: l, b :: m, n, h => by
    simp only [List.cons_append, cmpL]
    rw [cmpL_append l m n (by simpa using h)]
theorem drop_getD (l : List Int) (k : Nat) (h : k < l.length) : l.drop k = l.getD k 0 :: l.drop (k + 1) := by
  rw [List.drop_eq_getElem_cons h]; simp [List.getD, List.getElem?_eq_getElem h]
theorem take_getD (l : List Int) (k : Nat) (h : k < l.length) : l.take (k + 1) = l.take k ++ [l.getD k 0] := by
  rw [List.take_succ_eq_append_getElem h]; simp [List.getD, List.getElem?_eq_getElem h]
theorem cmpL_step (l m : List Int) (k : Nat) (h1 : k < l.length) (h2 : k < m.length) :
    cmpL (l.drop k) (m.drop k) = if l.getD k 0 < m.getD k 0 then -1 else if m.getD k 0 < l.getD k 0 then 1 else cmpL (l.drop (k + 1)) (m.drop (k + 1)) := by
  rw [drop_getD l k h1, drop_getD m k h2]; rfl
theorem cmpL_out (l m : List Int) (k : Nat) (h1 : k < l.length) (h2 : m.length ≤ k) : cmpL (l.drop k) (m.drop k) = 1 := by
  rw [drop_getD l k h1, List.drop_eq_nil_of_le h2]; rfl
theorem cmpL_less (l m : List Int) (k : Nat) (h1 : l.length ≤ k) (h2 : k < m.length) : cmpL (l.drop k) (m.drop k) = -1 := by
  rw [drop_getD m k h2, List.drop_eq_nil_of_le h1]; rfl
theorem cmpL_done (l m : List Int) (k : Nat) (h1 : l.length ≤ k) (h2 : m.length ≤ k) : cmpL (l.drop k) (m.drop k) = 0 := by
  rw [List.drop_eq_nil_of_le h1, List.drop_eq_nil_of_le h2]; rfl

/-! which tape is less -/
theorem lessL_irrefl (l : List Int) : lessL l l = false := by simp [lessL, cmpL_refl]
theorem lessL_one (l m : List Int) (h : l ≠ m) : lessL m l = !lessL l m := by
  unfold lessL
  by_cases e : l.length = m.length
  · rw [if_pos e, if_pos e.symm, cmpL_swap l m]
    have h0 : cmpL l m ≠ 0 := fun z => h (cmpL_zero l m z)
    rcases Int.lt_or_gt_of_ne h0 with g | g
    · rw [decide_eq_false (by omega), decide_eq_true g]; rfl
    · rw [decide_eq_true (by omega), decide_eq_false (by omega)]; rfl
  · rw [if_neg e, if_neg (fun z => e z.symm)]
    by_cases g : l.length < m.length
    · rw [decide_eq_false (by omega), decide_eq_true g]; rfl
    · rw [decide_eq_true (by omega), decide_eq_false g]; rfl
theorem lessL_trans (l m n : List Int) (h : lessL l m = true) (k : lessL m n = true) : lessL l n = true := by
  unfold lessL at *
  by_cases e : l.length = m.length
  · rw [if_pos e] at h
    by_cases f : m.length = n.length
    · rw [if_pos f] at k
      rw [if_pos (by omega)]
      exact decide_eq_true (cmpL_trans l m n (of_decide_eq_true h) (of_decide_eq_true k))
    · rw [if_neg f] at k
      have := of_decide_eq_true k
      rw [if_neg (by omega)]
      exact decide_eq_true (by omega)
  · rw [if_neg e] at h
    have h' := of_decide_eq_true h
    by_cases f : m.length = n.length
    · rw [if_neg (by omega)]; exact decide_eq_true (by omega)
    · rw [if_neg f] at k
      have := of_decide_eq_true k
      rw [if_neg (by omega)]; exact decide_eq_true (by omega)
theorem lessL_append (l m n : List Int) : lessL (l ++ n) (m ++ n) = lessL l m := by
  unfold lessL
  by_cases e : l.length = m.length
  · rw [if_pos (by simp [e]), if_pos e, cmpL_append l m n e]
  · rw [if_neg (by simpa using e), if_neg e]; simp
theorem lessL_longer (l n : List Int) : lessL (l ++ n) l = false := by
  unfold lessL
  by_cases e : n = []
  · subst e; simp [cmpL_refl]
  · have : 0 < n.length := List.length_pos_iff.2 e
    rw [if_neg (by simp; omega)]; simp
theorem lessL_shorter (l n : List Int) : lessL l (l ++ n) = decide (0 < n.length) := by
  unfold lessL
  by_cases e : n = []
  · subst e; simp [cmpL_refl]
  · have : 0 < n.length := List.length_pos_iff.2 e
    rw [if_neg (by simp; omega)]; simp
end Go.Proofs.YtplladlodgfloaaDoor.Lists

/- Plain laws on a tape's text. No program. -/
namespace Go.Proofs.YtplladlodgfloaaDoor.Lists
open Go.Lib (itoa decDigits nDigits)

def textL : List Int → List UInt8
  | [] => []
  | [n] => itoa n
  | n :: m :: r => itoa n ++ 46 :: textL (m :: r)
def I64 (n : Int) : Prop := -9223372036854775808 ≤ n ∧ n ≤ 9223372036854775807

theorem textL_cons (n : Int) (l : List Int) : textL (n :: l) = itoa n ++ (if l = [] then [] else 46 :: textL l) := by
  cases l with
  | nil => simp [textL]
  | cons m r => simp [textL]
theorem textL_snoc : ∀ (l : List Int) (n : Int), textL (l ++ [n]) = (if l = [] then [] else textL l ++ [46]) ++ itoa n
  | [], n => by simp [textL]
  | [a], n => by simp [textL]
  | a :: b :: r, n => by
    have ih := textL_snoc (b :: r) n
    rw [List.cons_append, textL_cons, if_neg (by simp), ih, textL_cons a (b :: r), if_neg (by simp), if_neg (by simp), if_neg (by simp)]
    simp
theorem decDigits_pos (u : Nat) : 1 ≤ (decDigits u).length := by rw [Lib.decDigits_length]; exact Lib.nDigits_pos u
theorem itoa_pos (n : Int) : 1 ≤ (itoa n).length := by
  unfold itoa
  split
  · simp
  · exact decDigits_pos _
theorem textL_le : ∀ (l : List Int), (∀ n ∈ l, I64 n) → (textL l).length ≤ 22 * l.length
  | [], _ => by simp [textL]
  | [n], h => by
    have := Lib.itoa_length_le n (h n (by simp)).1 (h n (by simp)).2
    simp [textL]; omega
  | n :: m :: r, h => by
    have h1 := Lib.itoa_length_le n (h n (by simp)).1 (h n (by simp)).2
    have h2 := textL_le (m :: r) (fun x hx => h x (by simp at hx ⊢; right; exact hx))
    simp only [textL, List.length_append, List.length_cons] at h2 ⊢
    omega
theorem textL_one (l : List Int) (n : Int) : (textL l).length + 1 ≤ (textL (l ++ [n])).length := by
  rw [textL_snoc]
  have := itoa_pos n
  split
  · rename_i h; subst h; simp [textL]; omega
  · simp only [List.length_append, List.length_cons, List.length_nil]; omega
theorem textL_grow : ∀ (m l : List Int), (textL l).length + m.length ≤ (textL (l ++ m)).length
  | [], l => by simp
  | n :: m, l => by
    have h1 := textL_grow m (l ++ [n])
    have h2 := textL_one l n
    rw [List.append_assoc] at h1
    simp only [List.cons_append, List.nil_append, List.length_cons] at h1 ⊢
    omega
theorem textL_take (l : List Int) (k : Nat) (h : k < l.length) : textL (l.take (k + 1)) = (if k = 0 then [] else textL (l.take k) ++ [46]) ++ itoa (l.getD k 0) := by
  rw [take_getD l k h, textL_snoc]
  by_cases hk : k = 0
  · subst hk; simp
  · rw [if_neg hk, if_neg]
    intro e
    have h2 : (l.take k).length = 0 := by rw [e]; rfl
    rw [List.length_take] at h2
    omega
end Go.Proofs.YtplladlodgfloaaDoor.Lists

/- A generator's box; small laws. No program but the types. -/
namespace Go.Proofs.YtplladlodgfloaaDoor.Gens
open Go.RowKit Lists Ints
set_option linter.unusedVariables false

abbrev gc (t : Gn) (A : Option Addr) (c : Nat) : Obj := .cells #[.int .i64 t.kind, .int .i64 t.a, .int .i64 t.b, .slice A t.subs.length c] 24
theorem gheap_new (w : World) (o : Obj) : (w.alloc o).heap[w.heap.size]? = some o := by
  show (w.heap.push o)[w.heap.size]? = _
  simp
/-- a box of a generator -/
theorem gbox (w w' : World) (x0 x1 x2 x3 : Value) (h : Below (w.alloc (.cells #[x0, x1, x2, x3] 24)).heap.size (w.alloc (.cells #[x0, x1, x2, x3] 24)) w') :
    w'.cell? ⟨w.heap.size, 0, none⟩ = some x0 ∧ w'.cell? ⟨w.heap.size, 1, none⟩ = some x1 ∧ w'.cell? ⟨w.heap.size, 2, none⟩ = some x2 ∧ w'.cell? ⟨w.heap.size, 3, none⟩ = some x3 := by
  have hb := h.block w.heap.size (by simp)
  rw [gheap_new] at hb
  exact ⟨by rw [Lib.cell_of_heap hb]; rfl, by rw [Lib.cell_of_heap hb]; rfl, by rw [Lib.cell_of_heap hb]; rfl, by rw [Lib.cell_of_heap hb]; rfl⟩
theorem i64_wf {x : Int} (h : Wf x) : I64 x := by
  simp only [Wf, Lit.wf, IntKind.min, IntKind.max, IntKind.signed, IntKind.bits, Bool.and_eq_true] at h
  unfold I64
  simp at h
  omega
theorem ret_p {a b c d : Value} (h : a = c) (h' : b = d) : Ending.returned (.tuple #[a, b]) = .returned (.tuple #[c, d]) := by rw [h, h']
end Go.Proofs.YtplladlodgfloaaDoor.Gens

/- The program's fits: a contract. Conditions: the size. -/
namespace Go.Proofs.YtplladlodgfloaaDoor.Gens
open Go.RowKit Lists Ints
set_option linter.unusedVariables false

/-- a box of a number -/
def PB (b : Nat) (k : Int) (w : World) : Prop := w.heap[b]? = some (.cells #[.int .i64 k] 3 (0, 0))
theorem PB.cell {b : Nat} {k : Int} {w : World} (h : PB b k w) : w.cell? ⟨b, 0, none⟩ = some (.int .i64 k) := by rw [Lib.cell_of_heap h]; rfl
theorem PB.free {b : Nat} {k : Int} {w : World} (h : PB b k w) : w.frozen? ⟨b, 0, none⟩ = false := Lib.frozen_of_heap h 0
theorem PB.lt {b : Nat} {k : Int} {w : World} (h : PB b k w) : b < w.heap.size := (Array.getElem?_eq_some_iff.1 h).1
theorem PB.below {b : Nat} {k : Int} {w w' : World} (h : PB b k w) (hb : Below w.heap.size w w') : PB b k w' := (hb.block b h.lt).trans h
theorem PB.put {b : Nat} {k : Int} {w : World} (h : PB b k w) (j : Int) : PB b j (w.setCell ⟨b, 0, none⟩ (.int .i64 j)) := by
  unfold PB at h ⊢
  simp [World.setCell, Array.getElem?_modify, h]
/-- All but block rb is as it was. -/
abbrev Gr (rb : Nat) (w w' : World) : Prop := w.grownBy w' (some rb)
theorem gr_refl (rb : Nat) (w : World) : Gr rb w w := ⟨rfl, rfl, rfl, Nat.le_refl _, fun _ _ _ => rfl⟩
theorem gr_below {rb : Nat} {w w' : World} (h : Below w.heap.size w w') : Gr rb w w' := ⟨h.os, h.tape, h.output, h.size, fun i hi _ => h.block i hi⟩
theorem gr_set {rb : Nat} {w w' : World} (h : Gr rb w w') (o : Nat) (v : Value) : Gr rb w (w'.setCell ⟨rb, o, none⟩ v) :=
  h.trans ⟨rfl, rfl, rfl, by simp [World.setCell], fun i hi hne => Below.heap_setCell _ _ _ _ (fun e => hne (by rw [e]))⟩
theorem gr_alloc {rb : Nat} {w w' : World} (h : Gr rb w w') (o : Obj) : Gr rb w (w'.alloc o) := h.trans (World.grownBy_alloc _ _ _)
theorem gr_to {rb B : Nat} {w w' : World} (h : Gr rb w w') (hB : B ≤ rb) (hr : rb < w.heap.size) : Below B w w' :=
  ⟨h.os, h.tape, h.output, h.size, fun k hk => h.block k (by omega) (by simp; omega)⟩

set_option maxHeartbeats 4000000 in
set_option maxRecDepth 100000 in
theorem fits_any : ∀ (n : Nat) (t : Gn) (v : Value) (B pb dn kn : Nat) (deep k : Int) (w : World), GAt w (GBel B) n v t → B ≤ pb → PB pb k w → t.size ≤ 4294967296 → deep = dn → dn ≤ 6 → k = kn → kn ≤ 30 →
    Calls Tryd.prog 37 #[v, .int .i64 deep, .pointer (some ⟨pb, 0, none⟩)] w fun e w' => e = .returned (.bool (fitsG t dn kn).1) ∧ PB pb ((fitsG t dn kn).2 : Nat) w' ∧ Gr pb w w' := by
  intro n
  induction n with
  | zero => intro t v B pb dn kn deep k w h; exact h.elim
  | succ n ih =>
    intro t v B pb dn kn deep k w h hB hp hsz hd hdn hk hkn
    obtain ⟨m, A, c, e, hw, rfl, hit⟩ := h.open_
    obtain rfl : n = m := by omega
    have IH := Lib.hid ih
    have HIT := Lib.hid hit
    have HB := Lib.hid hB
    have HS := Lib.hid hsz
    have hln : t.subs.length ≤ 4294967296 := by have := glen_sizes t.subs; have := gsize_subs t; omega
    have EQ := Lib.hid (fitsG_eq t dn kn)
    have SB := Lib.hid (gsize_subs t)
    have b0 : Below w.heap.size w (w.alloc (gc t A c)) := (Below.refl _ _).alloc (Nat.le_refl _) _
    have P0 := Lib.hid (hp.below b0)
    have B0 := Lib.hid b0
    have PL := Lib.hid hp.lt
    have hne : pb ≠ w.heap.size := by have := hp.lt; omega
    have hne2 : w.heap.size ≠ pb := hne.symm
    have dlo : 0 ≤ deep := by omega
    have dhi : deep ≤ 6 := by omega
    have klo : 0 ≤ k := by omega
    have khi : k ≤ 30 := by omega
    have HD := Lib.hid (And.intro hd hk)
    obtain ⟨p0, q0⟩ := And.intro P0.out.cell P0.out.free
    have P1 := Lib.hid (show PB pb (k + 1) ((w.alloc (gc t A c)).setCell ⟨pb, 0, none⟩ (.int .i64 (k + 1))) from P0.out.put _)
    have G1 := Lib.hid (show Gr pb w ((w.alloc (gc t A c)).setCell ⟨pb, 0, none⟩ (.int .i64 (k + 1))) from gr_set (gr_below b0) 0 _)
    clear ih hit h hB hsz e hw hp b0 hd hk
    by_cases h1 : 30 < kn + 1
    · have EQ := Lib.hid (show fitsG t dn kn = (false, kn + 1) by rw [EQ.out, if_pos (.inl h1)])
      have g1 : decide ((30 : Int) < k + 1) = true := by have := HD.out; rw [decide_eq_true_eq]; omega
      go_enter Tryd.func37, Tryd.ntmps37
      go_wp2_with fail
      go_ret
      exact ⟨by rw [EQ.out]; rfl, by rw [EQ.out]; have := HD.out; rw [show ((kn + 1 : Nat) : Int) = k + 1 by omega]; exact P1.out, G1.out⟩
    · have g1 : decide ((30 : Int) < k + 1) = false := by have := HD.out; rw [decide_eq_false_iff_not]; omega
      by_cases h6 : 6 ≤ dn
      · have EQ := Lib.hid (show fitsG t dn kn = (false, kn + 1) by rw [EQ.out, if_pos (.inr h6)])
        have g2 : decide ((6 : Int) ≤ deep) = true := by have := HD.out; rw [decide_eq_true_eq]; omega
        go_enter Tryd.func37, Tryd.ntmps37
        go_wp2_with fail
        go_ret
        exact ⟨by rw [EQ.out]; rfl, by rw [EQ.out]; have := HD.out; rw [show ((kn + 1 : Nat) : Int) = k + 1 by omega]; exact P1.out, G1.out⟩
      · have EQ := Lib.hid (show fitsG t dn kn = fitsGs t.subs (dn + 1) (kn + 1) by rw [EQ.out, if_neg (by omega)])
        have g2 : decide ((6 : Int) ≤ deep) = false := by have := HD.out; rw [decide_eq_false_iff_not]; omega
        go_enter Tryd.func37, Tryd.ntmps37
        go_wp2_with fail
        have K1 := Lib.hid (show PB pb ((kn + 1 : Nat) : Int) ((w.alloc (gc t A c)).setCell ⟨pb, 0, none⟩ (.int .i64 (k + 1))) by have := HD.out; rw [show ((kn + 1 : Nat) : Int) = k + 1 by omega]; exact P1.out)
        clear P0 P1 B0 p0 q0 g1 g2
        generalize (w.alloc (gc t A c)).setCell ⟨pb, 0, none⟩ (.int .i64 (k + 1)) = W1 at *
        go_loopw [25] (fun i wr => ∃ (j o : Nat), j ≤ t.subs.length ∧ i = .int .i64 j ∧ o ≤ 30 ∧ Hid (PB pb o wr) ∧ Hid (Gr pb w wr) ∧ Hid (fitsG t dn kn = fitsGs (t.subs.drop j) (dn + 1) o)) (fun i _ => t.subs.length - (intOf i).toNat)
        case atStart => exact ⟨0, kn + 1, Nat.zero_le _, rfl, by omega, K1.out, G1.out, EQ.out⟩
        case round =>
          obtain ⟨j, o, hj, rfl, ho, hp, hg, hz⟩ := hrel
          clear K1 G1 EQ
          by_cases hlt : j < t.subs.length
          · have BW := Lib.hid (gr_to hg.out HB.out PL.out)
            obtain ⟨ib, off, D, d, rfl, c0, c1, c2, c3, hti⟩ := sub_as HIT.out BW.out j hlt
            have hsi : (t.subs[j]'hlt).size ≤ 4294967296 := by have := gsize_mem t.subs _ (List.getElem_mem hlt); have h3 := HS.out; have := SB.out; omega
            have DR := Lib.hid (fitsGs_drop t.subs j (dn + 1) o hlt)
            have FW := Lib.hid (fits_few (t.subs[j]'hlt) (dn + 1) o)
            have ba : Below wr.heap.size wr (wr.alloc (gc (t.subs[j]'hlt) D d)) := (Below.refl _ _).alloc (Nat.le_refl _) _
            have bsz : B ≤ wr.heap.size := by have := hg.out.size; have := PL.out; have := HB.out; omega
            have C1 := IH.out (t.subs[j]'hlt) _ B pb (dn + 1) o (deep + 1) o (wr.alloc (gc (t.subs[j]'hlt) D d)) (hti.below (ba.mono bsz)) HB.out (hp.out.below ba) hsi (by have := HD.out; omega) (by omega) rfl ho
            have BA := Lib.hid ba
            clear hti hsi ba
            generalize hgl : fitsG (t.subs[j]'hlt) (dn + 1) o = q at C1 DR FW
            clear hgl
            obtain ⟨is, o2⟩ := q
            simp only [] at C1
            have DR := Lib.hid (show fitsGs (t.subs.drop j) (dn + 1) o = if is = true then fitsGs (t.subs.drop (j + 1)) (dn + 1) o2 else (false, o2) from DR.out)
            have FW := Lib.hid (show is = true → o2 ≤ 30 from FW.out)
            generalize t.subs[j]'hlt = y at C1 c0 c1 c2 c3 BA
            have HC1 := Lib.hid C1
            clear C1
            cases is with
            | false =>
              have EV := Lib.hid (show fitsG t dn kn = (false, o2) by rw [hz.out, DR.out, if_neg (by simp)])
              go_wp2_with fail
              refine HC1.out.mono ?_
              rintro e w2 ⟨rfl, hp2, hg2⟩
              have P2 := Lib.hid hp2
              have G2 := Lib.hid ((hg.out.trans (gr_below BA.out)).trans hg2)
              clear hp2 hg2
              go_wp2_with fail
              go_ret
              exact ⟨by rw [EV.out]; rfl, by rw [EV.out]; exact P2.out, G2.out⟩
            | true =>
              have EV := Lib.hid (show fitsG t dn kn = fitsGs (t.subs.drop (j + 1)) (dn + 1) o2 by rw [hz.out, DR.out, if_pos rfl])
              go_wp2_with fail
              refine HC1.out.mono ?_
              rintro e w2 ⟨rfl, hp2, hg2⟩
              have P2 := Lib.hid hp2
              have G2 := Lib.hid ((hg.out.trans (gr_below BA.out)).trans hg2)
              clear hp2 hg2
              go_wp2_with fail
              go_roundw
              case rel => exact ⟨j + 1, o2, hlt, by go_num, (by have := FW.out; simpa using this), P2.out, G2.out, EV.out⟩
              case measure => simp [intOf]; omega
          · have EV := Lib.hid (show fitsG t dn kn = (true, o) by rw [hz.out, List.drop_eq_nil_of_le (by omega), fitsGs])
            go_wp2_with fail
            go_ret
            exact ⟨by rw [EV.out]; rfl, by rw [EV.out]; exact hp.out, hg.out⟩
end Go.Proofs.YtplladlodgfloaaDoor.Gens

/- An error of the program's, of its number. -/
namespace Go.Proofs.YtplladlodgfloaaDoor.Vals
set_option linter.unusedVariables false
/-- an error of the program's, of its number -/
def errOf (f : Int) : Value := if f = 0 then .nilIface else .iface 27 (.int .i64 f)
theorem errOf_ok : errOf 0 = .nilIface := rfl
theorem errOf_no {f : Int} (h : ¬ f = 0) : errOf f = .iface 27 (.int .i64 f) := if_neg h
end Go.Proofs.YtplladlodgfloaaDoor.Vals

/- The program's Check of generators, but for fits: contracts. Conditions: the size. -/
namespace Go.Proofs.YtplladlodgfloaaDoor.Gens
open Go.RowKit Lists Ints Vals
set_option linter.unusedVariables false

theorem inrange_any (x : Int) (w : World) : Calls Tryd.prog 61 #[.int .i64 x] w fun e w' => e = .returned (.bool (!farB x)) ∧ w = w' := by
  by_cases a : -1073741824 ≤ x
  · have g : decide (-1073741824 ≤ x) = true := by rw [decide_eq_true_eq]; exact a
    have HV := Lib.hid (show (!farB x) = decide (x ≤ 1073741824) by
      unfold farB
      rw [show decide (x < -1073741824) = false by rw [decide_eq_false_iff_not]; omega, Bool.false_or]
      by_cases h : 1073741824 < x
      · rw [decide_eq_true h, show decide (x ≤ 1073741824) = false by rw [decide_eq_false_iff_not]; omega]; rfl
      · rw [decide_eq_false h, show decide (x ≤ 1073741824) = true by rw [decide_eq_true_eq]; omega]; rfl)
    go_enter Tryd.func61, Tryd.ntmps61
    go_wp2
    go_ret
    exact ⟨ret_b HV.out.symm, rfl⟩
  · have g : decide (-1073741824 ≤ x) = false := by rw [decide_eq_false_iff_not]; exact a
    have HV := Lib.hid (show (!farB x) = false by
      unfold farB
      rw [show decide (x < -1073741824) = true by rw [decide_eq_true_eq]; omega]; rfl)
    go_enter Tryd.func61, Tryd.ntmps61
    go_wp2
    go_ret
    exact ⟨ret_b HV.out.symm, rfl⟩
theorem near_of {x : Int} (h : farB x = false) : -1073741824 ≤ x ∧ x ≤ 1073741824 := by
  simp only [farB, Bool.or_eq_false_iff] at h
  have := of_decide_eq_false h.1
  have := of_decide_eq_false h.2
  omega

set_option maxHeartbeats 2000000 in
set_option maxRecDepth 100000 in
theorem numbers_any (k a b : Int) (subs : List Gn) (A : Option Addr) (c : Nat) (w : World) (hk : 1 ≤ k) (hk5 : k ≤ 5) :
    Calls Tryd.prog 58 #[.agg #[.int .i64 k, .int .i64 a, .int .i64 b, .slice A subs.length c]] w fun e w' => e = .returned (.bool (!rangeBad (.node k a b subs))) ∧ Below w.heap.size w w' := by
  have H0 := Lib.hid (show Below w.heap.size w (w.alloc (.cells #[.int .i64 k, .int .i64 a, .int .i64 b, .slice A subs.length c] 24)) from (Below.refl _ _).alloc (Nat.le_refl _) _)
  have FA := Lib.hid (fun w => inrange_any a w)
  have FB := Lib.hid (fun w => inrange_any b w)
  have RB := Lib.hid (show rangeBad (.node k a b subs) = ((k == 1 && farB a) || (k == 2 && (farB a || farB b || decide (b < a) || decide (1000 < b - a))) || (k == 4 && (decide (a < 0) || decide (5 < a)))) from rfl)
  rcases (show k = 1 ∨ k = 2 ∨ k = 3 ∨ k = 4 ∨ k = 5 by omega) with rfl | rfl | rfl | rfl | rfl
  · have EV := Lib.hid (show rangeBad (.node 1 a b subs) = farB a by rw [RB.out]; simp)
    go_enter Tryd.func58, Tryd.ntmps58
    go_wp2_with fail
    refine (FA.out _).mono ?_
    rintro e w9 ⟨rfl, rfl⟩
    go_wp2_with fail
    go_ret
    exact ⟨ret_b (by rw [EV.out]), H0.out⟩
  · cases hfa : farB a with
    | true =>
      rw [hfa] at FA
      have EV := Lib.hid (show rangeBad (.node 2 a b subs) = true by rw [RB.out, hfa]; simp)
      clear hfa
      simp only [Bool.not_true] at FA
      go_enter Tryd.func58, Tryd.ntmps58
      go_wp2_with fail
      refine (FA.out _).mono ?_
      rintro e w9 ⟨rfl, rfl⟩
      go_wp2_with fail
      go_ret
      exact ⟨ret_b (by rw [EV.out]; rfl), H0.out⟩
    | false =>
      obtain ⟨a1, a2⟩ := near_of hfa
      rw [hfa] at FA
      simp only [Bool.not_false] at FA
      cases hfb : farB b with
      | true =>
        rw [hfb] at FB
        have EV := Lib.hid (show rangeBad (.node 2 a b subs) = true by rw [RB.out, hfa, hfb]; simp)
        clear hfa hfb
        simp only [Bool.not_true] at FB
        go_enter Tryd.func58, Tryd.ntmps58
        go_wp2_with fail
        refine (FA.out _).mono ?_
        rintro e w9 ⟨rfl, rfl⟩
        go_wp2_with fail
        refine (FB.out _).mono ?_
        rintro e w9 ⟨rfl, rfl⟩
        go_wp2_with fail
        go_ret
        exact ⟨ret_b (by rw [EV.out]; rfl), H0.out⟩
      | false =>
        obtain ⟨b1, b2⟩ := near_of hfb
        rw [hfb] at FB
        simp only [Bool.not_false] at FB
        have EV := Lib.hid (show (!rangeBad (.node 2 a b subs)) = (decide (a ≤ b) && decide (b - a ≤ 1000)) by
          rw [RB.out, hfa, hfb, show decide (b < a) = !decide (a ≤ b) by rw [← decide_not]; exact decide_eq_decide.2 (by omega), show decide (1000 < b - a) = !decide (b - a ≤ 1000) by rw [← decide_not]; exact decide_eq_decide.2 (by omega)]
          cases decide (a ≤ b) <;> cases decide (b - a ≤ 1000) <;> rfl)
        clear hfa hfb
        by_cases hab : a ≤ b
        · have g1 : decide (a ≤ b) = true := by rw [decide_eq_true_eq]; exact hab
          have EV := Lib.hid (show (!rangeBad (.node 2 a b subs)) = decide (b - a ≤ 1000) by rw [EV.out, g1, Bool.true_and])
          go_enter Tryd.func58, Tryd.ntmps58
          go_wp2_with fail
          refine (FA.out _).mono ?_
          rintro e w9 ⟨rfl, rfl⟩
          go_wp2_with fail
          refine (FB.out _).mono ?_
          rintro e w9 ⟨rfl, rfl⟩
          go_wp2_with fail
          go_ret
          exact ⟨ret_b EV.out.symm, H0.out⟩
        · have g1 : decide (a ≤ b) = false := by rw [decide_eq_false_iff_not]; exact hab
          have EV := Lib.hid (show (!rangeBad (.node 2 a b subs)) = false by rw [EV.out, g1, Bool.false_and])
          go_enter Tryd.func58, Tryd.ntmps58
          go_wp2_with fail
          refine (FA.out _).mono ?_
          rintro e w9 ⟨rfl, rfl⟩
          go_wp2_with fail
          refine (FB.out _).mono ?_
          rintro e w9 ⟨rfl, rfl⟩
          go_wp2_with fail
          go_ret
          exact ⟨ret_b EV.out.symm, H0.out⟩
  · have EV := Lib.hid (show rangeBad (.node 3 a b subs) = false by rw [RB.out]; simp)
    go_enter Tryd.func58, Tryd.ntmps58
    go_wp2_with fail
    go_ret
    exact ⟨ret_b (by rw [EV.out]; rfl), H0.out⟩
  · have EV := Lib.hid (show (!rangeBad (.node 4 a b subs)) = (decide (0 ≤ a) && decide (a ≤ 5)) by
      rw [RB.out, show decide (a < 0) = !decide (0 ≤ a) by rw [← decide_not]; exact decide_eq_decide.2 (by omega), show decide (5 < a) = !decide (a ≤ 5) by rw [← decide_not]; exact decide_eq_decide.2 (by omega)]
      cases decide (0 ≤ a) <;> cases decide (a ≤ 5) <;> rfl)
    by_cases hab : 0 ≤ a
    · have g1 : decide (0 ≤ a) = true := by rw [decide_eq_true_eq]; exact hab
      have EV := Lib.hid (show (!rangeBad (.node 4 a b subs)) = decide (a ≤ 5) by rw [EV.out, g1, Bool.true_and])
      go_enter Tryd.func58, Tryd.ntmps58
      go_wp2_with fail
      go_ret
      exact ⟨ret_b EV.out.symm, H0.out⟩
    · have g1 : decide (0 ≤ a) = false := by rw [decide_eq_false_iff_not]; exact hab
      have EV := Lib.hid (show (!rangeBad (.node 4 a b subs)) = false by rw [EV.out, g1, Bool.false_and])
      go_enter Tryd.func58, Tryd.ntmps58
      go_wp2_with fail
      go_ret
      exact ⟨ret_b EV.out.symm, H0.out⟩
  · have EV := Lib.hid (show rangeBad (.node 5 a b subs) = false by rw [RB.out]; simp)
    go_enter Tryd.func58, Tryd.ntmps58
    go_wp2_with fail
    go_ret
    exact ⟨ret_b (by rw [EV.out]; rfl), H0.out⟩

set_option maxHeartbeats 2000000 in
set_option maxRecDepth 100000 in
theorem subsfit_any (k a b : Int) (subs : List Gn) (A : Option Addr) (c : Nat) (w : World) (hk : 1 ≤ k) (hk5 : k ≤ 5) (hln : subs.length ≤ 4294967296) :
    Calls Tryd.prog 59 #[.agg #[.int .i64 k, .int .i64 a, .int .i64 b, .slice A subs.length c]] w fun e w' => e = .returned (.bool (!subsBad (.node k a b subs))) ∧ Below w.heap.size w w' := by
  have H0 := Lib.hid (show Below w.heap.size w (w.alloc (.cells #[.int .i64 k, .int .i64 a, .int .i64 b, .slice A subs.length c] 24)) from (Below.refl _ _).alloc (Nat.le_refl _) _)
  have RB := Lib.hid (show subsBad (.node k a b subs) = ((decide (k ≤ 2) && !subs.isEmpty) || (k == 4 && (subs.length != 1)) || (k == 5 && subs.isEmpty)) from rfl)
  have IE : subs.isEmpty = decide (subs.length = 0) := by cases subs <;> simp
  have EV := Lib.hid (show (!subsBad (.node k a b subs)) = if k = 1 ∨ k = 2 then ((subs.length : Int) == 0) else if k = 4 then ((subs.length : Int) == 1) else if k = 5 then decide (0 < (subs.length : Int)) else true by
    rw [RB.out, IE]
    by_cases z : subs.length = 0
    · rw [z]
      rcases (show k = 1 ∨ k = 2 ∨ k = 3 ∨ k = 4 ∨ k = 5 by omega) with rfl | rfl | rfl | rfl | rfl <;> simp
    · have z1 : ((subs.length : Int) == 0) = false := by rw [beq_eq_false_iff_ne]; omega
      have z2 : decide (0 < (subs.length : Int)) = true := by rw [decide_eq_true_eq]; omega
      by_cases y : subs.length = 1
      · rw [z1, z2, y]
        rcases (show k = 1 ∨ k = 2 ∨ k = 3 ∨ k = 4 ∨ k = 5 by omega) with rfl | rfl | rfl | rfl | rfl <;> simp
      · have y1 : ((subs.length : Int) == 1) = false := by rw [beq_eq_false_iff_ne]; omega
        have y2 : (subs.length != 1) = true := by rw [bne_iff_ne]; exact y
        rw [z1, z2, y1, y2]
        rcases (show k = 1 ∨ k = 2 ∨ k = 3 ∨ k = 4 ∨ k = 5 by omega) with rfl | rfl | rfl | rfl | rfl <;> simp [z])
  clear IE
  rcases (show k = 1 ∨ k = 2 ∨ k = 3 ∨ k = 4 ∨ k = 5 by omega) with rfl | rfl | rfl | rfl | rfl
  all_goals
    simp at EV
    go_enter Tryd.func59, Tryd.ntmps59
    go_wp2_with fail
    go_ret
    exact ⟨ret_b (by rw [EV.out]; simp), H0.out⟩

/-- what is wrong with a part by itself -/
def partOne (t : Gn) : Int := if kindBad t = true then 3 else if rangeBad t = true then 1 else if subsBad t = true then 3 else 0
theorem partV_one (t : Gn) : partV t = if partOne t = 0 then partVs t.subs else partOne t := by
  rw [partV_eq]; unfold partOne
  split
  · simp
  · split
    · simp
    · split <;> simp

set_option maxHeartbeats 2000000 in
set_option maxRecDepth 100000 in
theorem part_one (k a b : Int) (subs : List Gn) (A : Option Addr) (c : Nat) (w : World) (hwk : I64 k) (hln : subs.length ≤ 4294967296) :
    Calls Tryd.prog 51 #[.agg #[.int .i64 k, .int .i64 a, .int .i64 b, .slice A subs.length c]] w fun e w' => e = .returned (errOf (partOne (.node k a b subs))) ∧ Below w.heap.size w w' := by
  have hh : Below w.heap.size w (w.alloc (.cells #[.int .i64 k, .int .i64 a, .int .i64 b, .slice A subs.length c] 24)) := (Below.refl _ _).alloc (Nat.le_refl _) _
  have H0 := Lib.hid hh
  clear hh
  by_cases h1 : k < 1
  · have EV := Lib.hid (show partOne (.node k a b subs) = 3 by unfold partOne; rw [if_pos (by show (decide (k < 1) || decide (5 < k)) = true; rw [decide_eq_true h1]; rfl)])
    have g : decide (k < 1) = true := by rw [decide_eq_true_eq]; exact h1
    go_enter Tryd.func51, Tryd.ntmps51
    go_wp2_with fail
    go_ret
    exact ⟨ret_v (by rw [EV.out]; rfl), H0.out⟩
  · have g : decide (k < 1) = false := by rw [decide_eq_false_iff_not]; exact h1
    by_cases h5 : 5 < k
    · have EV := Lib.hid (show partOne (.node k a b subs) = 3 by unfold partOne; rw [if_pos (by show (decide (k < 1) || decide (5 < k)) = true; rw [decide_eq_true h5]; simp)])
      have g' : decide (5 < k) = true := by rw [decide_eq_true_eq]; exact h5
      go_enter Tryd.func51, Tryd.ntmps51
      go_wp2_with fail
      go_ret
      exact ⟨ret_v (by rw [EV.out]; rfl), H0.out⟩
    · have g' : decide (5 < k) = false := by rw [decide_eq_false_iff_not]; exact h5
      have EV := Lib.hid (show partOne (.node k a b subs) = if rangeBad (.node k a b subs) = true then 1 else if subsBad (.node k a b subs) = true then 3 else 0 by unfold partOne; rw [if_neg (by show ¬ (decide (k < 1) || decide (5 < k)) = true; rw [decide_eq_false h1, decide_eq_false h5]; simp)])
      have N1 := numbers_any k a b subs A c (w.alloc (.cells #[.int .i64 k, .int .i64 a, .int .i64 b, .slice A subs.length c] 24)) (by omega) (by omega)
      have S1 := Lib.hid (fun w => subsfit_any k a b subs A c w (by omega) (by omega) hln)
      cases hr : rangeBad (.node k a b subs) with
      | true =>
        rw [hr] at N1 EV
        simp only [Bool.not_true] at N1
        have N1 := Lib.hid N1
        go_enter Tryd.func51, Tryd.ntmps51
        go_wp2_with fail
        refine N1.out.mono ?_
        rintro e w2 ⟨rfl, hb2⟩
        have B2 := Lib.hid (on H0.out hb2)
        clear hb2
        go_wp2_with fail
        go_ret
        exact ⟨ret_v (by rw [EV.out]; rfl), B2.out⟩
      | false =>
        rw [hr] at N1 EV
        simp only [Bool.not_false] at N1
        have N1 := Lib.hid N1
        cases hs : subsBad (.node k a b subs) with
        | true =>
          rw [hs] at S1 EV
          simp only [Bool.not_true] at S1
          go_enter Tryd.func51, Tryd.ntmps51
          go_wp2_with fail
          refine N1.out.mono ?_
          rintro e w2 ⟨rfl, hb2⟩
          have B2 := Lib.hid (on H0.out hb2)
          obtain ⟨c0, c1, c2, c3⟩ := gbox w w2 _ _ _ _ hb2
          clear hb2
          go_wp2_with fail
          refine (S1.out w2).mono ?_
          rintro e w3 ⟨rfl, hb3⟩
          have B3 := Lib.hid (on B2.out hb3)
          clear hb3
          go_wp2_with fail
          go_ret
          exact ⟨ret_v (by rw [EV.out]; rfl), B3.out⟩
        | false =>
          rw [hs] at S1 EV
          simp only [Bool.not_false] at S1
          go_enter Tryd.func51, Tryd.ntmps51
          go_wp2_with fail
          refine N1.out.mono ?_
          rintro e w2 ⟨rfl, hb2⟩
          have B2 := Lib.hid (on H0.out hb2)
          obtain ⟨c0, c1, c2, c3⟩ := gbox w w2 _ _ _ _ hb2
          clear hb2
          go_wp2_with fail
          refine (S1.out w2).mono ?_
          rintro e w3 ⟨rfl, hb3⟩
          have B3 := Lib.hid (on B2.out hb3)
          clear hb3
          go_wp2_with fail
          go_ret
          exact ⟨ret_v (by rw [EV.out]; rfl), B3.out⟩

set_option maxHeartbeats 2000000 in
set_option maxRecDepth 100000 in
theorem parts_any : ∀ (n : Nat) (t : Gn) (v : Value) (B : Nat) (w : World), GAt w (GBel B) n v t → B ≤ w.heap.size → t.size ≤ 4294967296 →
    Calls Tryd.prog 38 #[v] w fun e w' => e = .returned (errOf (partV t)) ∧ Below w.heap.size w w' := by
  intro n
  induction n with
  | zero => intro t v B w h; exact h.elim
  | succ n ih =>
    intro t v B w h hB hsz
    obtain ⟨m, A, c, e, hw, rfl, hit⟩ := h.open_
    obtain rfl : n = m := by omega
    have IH := Lib.hid ih
    have HIT := Lib.hid hit
    have HB := Lib.hid hB
    have HS := Lib.hid hsz
    have hln : t.subs.length ≤ 4294967296 := by have := glen_sizes t.subs; have := gsize_subs t; omega
    have EQ := Lib.hid (partV_one t)
    have b0 : Below w.heap.size w (w.alloc (gc t A c)) := (Below.refl _ _).alloc (Nat.le_refl _) _
    have H0 := Lib.hid b0
    have SB := Lib.hid (gsize_subs t)
    have P1 := part_one t.kind t.a t.b t.subs A c (w.alloc (gc t A c)) (i64_wf hw.1) hln
    rw [show Gn.node t.kind t.a t.b t.subs = t by cases t; rfl] at P1
    clear ih hit h hB hsz e hw b0
    by_cases hz : partOne t = 0
    · rw [hz, errOf_ok] at P1
      have P1 := Lib.hid P1
      have EQ := Lib.hid (show partV t = partVs t.subs by rw [EQ.out, if_pos hz])
      clear hz
      go_enter Tryd.func38, Tryd.ntmps38
      go_wp2_with fail
      refine P1.out.mono ?_
      rintro e w2 ⟨rfl, hb2⟩
      have B2 := Lib.hid (on H0.out hb2)
      obtain ⟨c0, c1, c2, c3⟩ := gbox w w2 _ _ _ _ hb2
      clear hb2 P1
      go_wp2_with fail
      clear c0 c1 c2 c3
      go_loopw [15] (fun i wr => ∃ k : Nat, k ≤ t.subs.length ∧ i = .int .i64 k ∧ Hid (Below w.heap.size w wr) ∧ Hid (partVs (t.subs.take k) = 0)) (fun i _ => t.subs.length - (intOf i).toNat)
      case atStart => exact ⟨0, Nat.zero_le _, rfl, B2.out, (show partVs (t.subs.take 0) = 0 from rfl)⟩
      case round =>
        obtain ⟨k, hk, rfl, hw, hz⟩ := hrel
        have hs2 := Lib.hid hw.out.size
        by_cases hlt : k < t.subs.length
        · obtain ⟨ib, off, D, d, rfl, c0, c1, c2, c3, hti⟩ := sub_as HIT.out (hw.out.mono HB.out) k hlt
          have hsi : (t.subs[k]'hlt).size ≤ 4294967296 := by have := gsize_mem t.subs _ (List.getElem_mem hlt); have h3 := HS.out; have := SB.out; omega
          have ba : Below wr.heap.size wr (wr.alloc (gc (t.subs[k]'hlt) D d)) := (Below.refl _ _).alloc (Nat.le_refl _) _
          have bsz : B ≤ wr.heap.size := Nat.le_trans HB.out hs2.out
          have C1 := IH.out (t.subs[k]'hlt) _ B _ (hti.below (ba.mono bsz)) (by have := HB.out; have := hs2.out; simp; omega) hsi
          clear hti hsi
          by_cases hf : partV (t.subs[k]'hlt) = 0
          · have hz2 := Lib.hid (part_step0 t.subs k hlt hz.out hf)
            rw [hf, errOf_ok] at C1
            have HC1 := Lib.hid C1
            have HA := Lib.hid ba
            clear C1 hf ba
            generalize t.subs[k]'hlt = y at HC1 c0 c1 c2 c3 HA
            go_wp2_with fail
            refine HC1.out.mono ?_
            rintro e w3 ⟨rfl, hb3⟩
            have B3 := Lib.hid (hw.out.trans ((on HA.out hb3).mono hs2.out))
            clear hb3
            go_wp2_with fail
            go_roundw
            case rel => exact ⟨k + 1, hlt, by go_num, B3.out, hz2.out⟩
            case measure => simp [intOf]; omega
          · have hr := Lib.hid (part_step1 t.subs k hlt hz.out hf)
            rw [errOf_no hf] at C1
            have RE := Lib.hid (errOf_no hf)
            generalize partV (t.subs[k]'hlt) = q at C1 hr RE
            have HC1 := Lib.hid C1
            have HA := Lib.hid ba
            clear C1 hf ba
            generalize t.subs[k]'hlt = y at HC1 c0 c1 c2 c3 HA
            go_wp2_with fail
            refine HC1.out.mono ?_
            rintro e w3 ⟨rfl, hb3⟩
            have B3 := Lib.hid (hw.out.trans ((on HA.out hb3).mono hs2.out))
            clear hb3
            go_wp2_with fail
            go_ret
            exact ⟨ret_v (a := .iface 27 (.int .i64 q)) (by rw [EQ.out, ← hr.out, RE.out]), B3.out⟩
        · have hr := Lib.hid (show partVs t.subs = 0 by rw [← List.take_of_length_le (show t.subs.length ≤ k by omega)]; exact hz.out)
          go_wp2_with fail
          go_ret
          exact ⟨by rw [EQ.out, hr.out]; rfl, hw.out⟩
    · have RE := Lib.hid (errOf_no hz)
      rw [errOf_no hz] at P1
      have EQ := Lib.hid (show partV t = partOne t by rw [EQ.out, if_neg hz])
      generalize partOne t = q at P1 EQ RE
      have P1 := Lib.hid P1
      clear hz
      go_enter Tryd.func38, Tryd.ntmps38
      go_wp2_with fail
      refine P1.out.mono ?_
      rintro e w2 ⟨rfl, hb2⟩
      have B2 := Lib.hid (on H0.out hb2)
      clear hb2 P1
      go_wp2_with fail
      go_ret
      exact ⟨ret_v (a := .iface 27 (.int .i64 q)) (by rw [EQ.out, RE.out]), B2.out⟩
end Go.Proofs.YtplladlodgfloaaDoor.Gens

/- The program's Check of generators. Conditions: the size. -/
namespace Go.Proofs.YtplladlodgfloaaDoor.Gens
open Go.RowKit Lists Ints Vals
set_option linter.unusedVariables false

theorem gen_right {t : Gn} (h : genV t = 0) : Right t ∧ (largeG t 0).2 = false := by
  unfold genV at h
  by_cases hl : (largeG t 0).2 = true
  · rw [if_pos hl] at h; cases h
  · rw [if_neg hl] at h
    exact ⟨h, by simpa using hl⟩
set_option maxHeartbeats 2000000 in
set_option maxRecDepth 100000 in
theorem gcheck {n : Nat} {t : Gn} {v : Value} {B : Nat} (w : World) (h : GAt w (GBel B) n v t) (hB : B ≤ w.heap.size) (hsz : t.size ≤ 4294967296) :
    Calls Tryd.prog 27 #[v] w fun e w' => e = .returned (errOf (genV t)) ∧ Below w.heap.size w w' := by
  obtain ⟨m, A, c, e, hw, rfl, _⟩ := h.open_
  have b1 : Below w.heap.size w (w.alloc (gc t A c)) := (Below.refl _ _).alloc (Nat.le_refl _) _
  have s1 : (w.alloc (gc t A c)).heap.size = w.heap.size + 1 := by simp
  have b2 : Below (w.alloc (gc t A c)).heap.size (w.alloc (gc t A c)) ((w.alloc (gc t A c)).alloc (.cells #[.int .i64 0] 3)) := (Below.refl _ _).alloc (Nat.le_refl _) _
  have p2 : PB (w.heap.size + 1) 0 ((w.alloc (gc t A c)).alloc (.cells #[.int .i64 0] 3)) := by
    have := gheap_new (w.alloc (gc t A c)) (.cells #[.int .i64 0] 3)
    rw [s1] at this; exact this
  have g0 : (w.alloc (gc t A c)).heap[w.heap.size]? = some (gc t A c) := gheap_new w _
  have HH := Lib.hid (fun (W : World) (hb : Below (w.alloc (gc t A c)).heap.size (w.alloc (gc t A c)) W) => gbox w W _ _ _ _ hb)
  have hh2 := h.below (b1.mono hB)
  have C1 := fits_any n t _ B (w.heap.size + 1) 0 0 0 0 _ (hh2.below (b2.mono (by omega))) (by omega) p2 hsz rfl (by omega) rfl (by omega)
  rw [fits_large] at C1
  have C2 := Lib.hid (fun (W : World) (hb : Below w.heap.size w W) => parts_any n t _ B W (h.below (hb.mono hB)) (Nat.le_trans hB hb.size) hsz)
  have EV := Lib.hid (show genV t = if (largeG t 0).2 = true then 4 else partV t from rfl)
  have BB := Lib.hid (And.intro b1 b2)
  clear h hB hsz e hw hh2 p2 g0 b1 b2
  cases hl : (largeG t 0).2 with
  | true =>
    rw [hl] at C1 EV
    simp only [Bool.not_true] at C1
    have C1 := Lib.hid C1
    clear hl
    go_enter Tryd.func27, Tryd.ntmps27
    go_wp2_with fail
    refine C1.out.mono ?_
    rintro e w2 ⟨rfl, hp2, hg2⟩
    have B3 := Lib.hid (on BB.out.1 (BB.out.2.trans (gr_to hg2 (show (w.alloc (gc t A c)).heap.size ≤ w.heap.size + 1 by omega) (by simp))))
    clear hp2 hg2
    go_wp2_with fail
    go_ret
    exact ⟨ret_v (by rw [EV.out]; rfl), B3.out⟩
  | false =>
    rw [hl] at C1 EV
    simp only [Bool.not_false] at C1
    have C1 := Lib.hid C1
    clear hl
    go_enter Tryd.func27, Tryd.ntmps27
    go_wp2_with fail
    refine C1.out.mono ?_
    rintro e w2 ⟨rfl, hp2, hg2⟩
    have b3 := BB.out.2.trans (gr_to hg2 (show (w.alloc (gc t A c)).heap.size ≤ w.heap.size + 1 by omega) (by simp))
    obtain ⟨k0, k1, k2, k3⟩ := HH.out w2 b3
    have B3 := Lib.hid (on BB.out.1 b3)
    have C2 := Lib.hid (C2.out w2 B3.out)
    clear hp2 hg2 b3
    go_wp2_with fail
    refine C2.out.mono ?_
    rintro e w3 ⟨rfl, hb3⟩
    have B4 := Lib.hid (on B3.out hb3)
    clear hb3
    go_wp2_with fail
    go_ret
    exact ⟨ret_v (by rw [EV.out]; rfl), B4.out⟩
end Go.Proofs.YtplladlodgfloaaDoor.Gens
