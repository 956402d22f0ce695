/- TopFails, part 2 of the proof: Generators (three numbers, subs) as trees: how they lie in memory, and what an argument reads as. · Plain laws on lists of numbers: which is less, where both first differ. No program. -/
import Derived.Test.YtabkihellcflhaaGreatDoorTopFailsZ1
import Derived.Deep.Slices
import Derived.Deep.Fields
import Derived.Lib.SmallJoins
import Derived.Test.YtabkihellcflhaaGreatDoorRows
/- Generators (three numbers, subs) as trees: how they lie in memory, and what an argument reads as. -/
namespace Go.Proofs.YtabkihellcflhaaGreatDoor.Gens
open Go.RowKit Go.WideShapes Go.ChangeShapes Go.Deep Go.Joins
set_option linter.unusedVariables false

abbrev gv (t : Gn) (A : Option Addr) (c : Nat) : Value := .agg #[.int .i64 t.kind, .int .i64 t.a, .int .i64 t.b, .slice A t.subs.length c]
abbrev Wf (x : Int) : Prop := (Lit.int .i64 x).wf = true

/-- In world w, in blocks of S, the value v is the generator t of at most so many levels. -/
def GAt (w : World) (S : Nat → Prop) : Nat → Value → Gn → Prop
  | 0, _, _ => False
  | n + 1, v, t => (Wf t.kind ∧ Wf t.a ∧ Wf t.b) ∧ ∃ A c, v = gv t A c ∧ t.subs.length ≤ c ∧
      (0 < t.subs.length → ∃ b off, A = some ⟨b, off, none⟩ ∧ S b ∧ ∀ j (h : j < t.subs.length), ∃ x0 x1 x2 x3, w.cell? ⟨b, off + j * 4, none⟩ = some x0 ∧ w.cell? ⟨b, off + j * 4 + 1, none⟩ = some x1 ∧ w.cell? ⟨b, off + j * 4 + 2, none⟩ = some x2 ∧ w.cell? ⟨b, off + j * 4 + 3, none⟩ = some x3 ∧ GAt w S n (.agg #[x0, x1, x2, x3]) (t.subs[j]'h))

theorem GAt.keep {w w' : World} {S S' : Nat → Prop} (hk : ∀ b, S b → S' b ∧ ∀ o, w'.cell? ⟨b, o, none⟩ = w.cell? ⟨b, o, none⟩) : ∀ {n : Nat} {v : Value} {t : Gn}, GAt w S n v t → GAt w' S' n v t
  | 0, _, _, h => h
  | n + 1, v, t, h => by
    obtain ⟨hw, A, c, rfl, hcap, h⟩ := h
    refine ⟨hw, A, c, rfl, hcap, fun hp => ?_⟩
    obtain ⟨b, off, e, hb, hc⟩ := h hp
    obtain ⟨hb', hk'⟩ := hk b hb
    refine ⟨b, off, e, hb', fun j hj => ?_⟩
    obtain ⟨x0, x1, x2, x3, c0, c1, c2, c3, ht⟩ := hc j hj
    exact ⟨x0, x1, x2, x3, (hk' _).trans c0, (hk' _).trans c1, (hk' _).trans c2, (hk' _).trans c3, GAt.keep hk ht⟩
def GBel (B : Nat) : Nat → Prop := fun b => b < B
theorem GAt.below {w w' : World} {B n : Nat} {v : Value} {t : Gn} (h : GAt w (GBel B) n v t) (hb : Below B w w') : GAt w' (GBel B) n v t :=
  h.keep fun b hB => ⟨hB, fun o => hb.cell (p := ⟨b, o, none⟩) hB⟩
theorem GAt.more {w : World} {B B' n : Nat} {v : Value} {t : Gn} (h : GAt w (GBel B) n v t) (hB : B ≤ B') : GAt w (GBel B') n v t :=
  h.keep fun b hb => ⟨Nat.lt_of_lt_of_le hb hB, fun _ => rfl⟩
theorem GAt.up {w : World} {S : Nat → Prop} : ∀ {n m : Nat} {v : Value} {t : Gn}, n ≤ m → GAt w S n v t → GAt w S m v t
  | 0, _, _, _, _, h => h.elim
  | n + 1, 0, _, _, hm, _ => by omega
  | n + 1, m + 1, v, t, hm, h => by
    obtain ⟨hw, A, c, rfl, hcap, h⟩ := h
    refine ⟨hw, A, c, rfl, hcap, fun hp => ?_⟩
    obtain ⟨b, off, e, hb, hc⟩ := h hp
    refine ⟨b, off, e, hb, fun j hj => ?_⟩
    obtain ⟨x0, x1, x2, x3, c0, c1, c2, c3, ht⟩ := hc j hj
    exact ⟨x0, x1, x2, x3, c0, c1, c2, c3, GAt.up (by omega) ht⟩
/-- opened -/
theorem GAt.open_ {w : World} {S : Nat → Prop} {n : Nat} {v : Value} {t : Gn} (h : GAt w S n v t) : ∃ m A c, n = m + 1 ∧ (Wf t.kind ∧ Wf t.a ∧ Wf t.b) ∧ v = gv t A c ∧
    (0 < t.subs.length → ∃ b off, A = some ⟨b, off, none⟩ ∧ S b ∧ ∀ j (h : j < t.subs.length), ∃ x0 x1 x2 x3, w.cell? ⟨b, off + j * 4, none⟩ = some x0 ∧ w.cell? ⟨b, off + j * 4 + 1, none⟩ = some x1 ∧ w.cell? ⟨b, off + j * 4 + 2, none⟩ = some x2 ∧ w.cell? ⟨b, off + j * 4 + 3, none⟩ = some x3 ∧ GAt w S m (.agg #[x0, x1, x2, x3]) (t.subs[j]'h)) := by
  cases n with
  | zero => exact h.elim
  | succ n =>
    obtain ⟨hw, A, c, rfl, hcap, h⟩ := h
    exact ⟨n, A, c, rfl, hw, rfl, h⟩
/-- its capacity -/
theorem GAt.cap_ {w : World} {S : Nat → Prop} {n : Nat} {t : Gn} {A : Option Addr} {c : Nat} (h : GAt w S n (gv t A c) t) : t.subs.length ≤ c := by
  cases n with
  | zero => exact h.elim
  | succ n =>
    obtain ⟨_, A', c', e, hcap, _⟩ := h
    simp only [gv, Value.agg.injEq, Array.mk.injEq, List.cons.injEq, and_true, true_and, Value.slice.injEq] at e
    omega
/-- a sub, read at a later world, its parts in sight -/
theorem sub_as {w wr : World} {B n : Nat} {A : Option Addr} {l : List Gn}
    (hit : 0 < l.length → ∃ b off, A = some ⟨b, off, none⟩ ∧ GBel B b ∧ ∀ j (h : j < l.length), ∃ x0 x1 x2 x3, w.cell? ⟨b, off + j * 4, none⟩ = some x0 ∧ w.cell? ⟨b, off + j * 4 + 1, none⟩ = some x1 ∧ w.cell? ⟨b, off + j * 4 + 2, none⟩ = some x2 ∧ w.cell? ⟨b, off + j * 4 + 3, none⟩ = some x3 ∧ GAt w (GBel B) n (.agg #[x0, x1, x2, x3]) (l[j]'h))
    (hb : Below B w wr) (k : Nat) (h : k < l.length) : ∃ b off D d, A = some ⟨b, off, none⟩ ∧ wr.cell? ⟨b, off + k * 4, none⟩ = some (.int .i64 (l[k]'h).kind) ∧ wr.cell? ⟨b, off + k * 4 + 1, none⟩ = some (.int .i64 (l[k]'h).a) ∧ wr.cell? ⟨b, off + k * 4 + 2, none⟩ = some (.int .i64 (l[k]'h).b) ∧ wr.cell? ⟨b, off + k * 4 + 3, none⟩ = some (.slice D (l[k]'h).subs.length d) ∧
      GAt wr (GBel B) n (gv (l[k]'h) D d) (l[k]'h) := by
  obtain ⟨b, off, e, hB, hc⟩ := hit (by omega)
  obtain ⟨x0, x1, x2, x3, c0, c1, c2, c3, ht⟩ := hc k h
  obtain ⟨_, D, d, _, _, ev, _⟩ := ht.open_
  simp only [Value.agg.injEq, Array.mk.injEq, List.cons.injEq, and_true] at ev
  obtain ⟨rfl, rfl, rfl, rfl⟩ := ev
  exact ⟨b, off, D, d, e, (hb.cell (p := ⟨b, _, none⟩) hB).trans c0, (hb.cell (p := ⟨b, _, none⟩) hB).trans c1, (hb.cell (p := ⟨b, _, none⟩) hB).trans c2, (hb.cell (p := ⟨b, _, none⟩) hB).trans c3, ht.below hb⟩

theorem gsizes_bulk {H : Type} (f : Nat → Gn) (elems : List (DataW H)) : ∀ (k : Nat), (∀ i (h : i < elems.length), (f (k + i)).size ≤ Rows.uptoBulk (elems[i]'h)) → gsizes ((List.range' k elems.length).map f) ≤ Rows.uptoBulkAll elems := by
  induction elems with
  | nil => intro k _; simp [gsizes, Rows.uptoBulkAll]
  | cons d r ih =>
    intro k h
    simp only [List.length_cons, List.range'_succ, List.map_cons, gsizes, Rows.uptoBulkAll]
    have h0 := h 0 (by simp)
    have h1 := ih (k + 1) (fun i hi => by
      have := h (i + 1) (by simpa using hi)
      simpa [Nat.add_assoc, Nat.add_comm 1 i] using this)
    simp at h0
    omega

set_option maxRecDepth 100000 in
theorem cells4 : Tryz.prog.cellsOf 24 = 4 := by kernel_rfl
set_option maxRecDepth 100000 in
theorem ghone : oneCellFields Tryz.prog #[{ name := "Kind", type := 3, offset := 0, embedded := false, tag := "", pkgPath := "", byteOffset := 0 }, { name := "A", type := 3, offset := 1, embedded := false, tag := "", pkgPath := "", byteOffset := 8 }, { name := "B", type := 3, offset := 2, embedded := false, tag := "", pkgPath := "", byteOffset := 16 }, { name := "Subs", type := 22, offset := 3, embedded := false, tag := "", pkgPath := "", byteOffset := 24 }] = true := by kernel_rfl

set_option maxRecDepth 100000 in
theorem gread_tree {H : Type} {enc : TypeId × Value → H} {w : World} {base : Nat} {spare : Nat → Bool} {held : Bool} : ∀ (fuel : Nat) (cs : List Value) (x : DataW H × List MemPlace),
    DataW.trod enc Tryz.prog w base spare held fuel 24 cs = some x → ∃ t : Gn, GAt w (GBel w.heap.size) fuel (.agg cs.toArray) t ∧ t.size ≤ Rows.uptoBulk x.1 := by
  intro fuel
  induction fuel using Nat.strongRecOn with
  | ind fuel ih =>
    intro cs x h
    obtain ⟨xs, n, rfl, rfl, hlen, hxl, hf⟩ := DataW.trod_struct Tryz.underlying24 h
    rw [cells4] at hlen
    match cs, hlen with
    | [c0, c1, c2, c3], _ =>
      obtain ⟨o0, k0⟩ := hone_of ghone 0 _ rfl
      obtain ⟨o1, k1⟩ := hone_of ghone 1 _ rfl
      obtain ⟨o2, k2⟩ := hone_of ghone 2 _ rfl
      obtain ⟨o3, k3⟩ := hone_of ghone 3 _ rfl
      match xs, hxl with
      | [y0, y1, y2, y3], _ =>
        have f0 := hf 0 _ rfl
        have f1 := hf 1 _ rfl
        have f2 := hf 2 _ rfl
        have f3 := hf 3 _ rfl
        rw [o0, k0] at f0
        rw [o1, k1] at f1
        rw [o2, k2] at f2
        rw [o3, k3] at f3
        obtain ⟨l, e0, rfl, hl⟩ := DataW.trod_int Tryz.underlying3 f0
        obtain ⟨m, e1, rfl, hm⟩ := DataW.trod_int Tryz.underlying3 f1
        obtain ⟨q, e2, rfl, hq⟩ := DataW.trod_int Tryz.underlying3 f2
        simp only [List.drop_zero, List.take_succ_cons, List.take_zero, List.cons.injEq, and_true, List.drop_succ_cons] at e0 e1 e2
        subst e0 e1 e2
        rcases DataW.trod_slice Tryz.underlying22 f3 with ⟨e2, rfl⟩ | ⟨a, len, cap, elems, rest, n', rfl, e2, rfl, _, hlc, _, hel, hat, _, _⟩
        · simp only [List.take_succ_cons, List.take_zero, List.cons.injEq, and_true, List.drop_succ_cons, List.drop_zero] at e2
          subst e2
          exact ⟨.node l m q [], ⟨⟨hl, hm, hq⟩, none, 0, rfl, Nat.le_refl _, fun hp => by simp [Gn.subs] at hp⟩, by simp [Gn.size, gsizes, Rows.uptoBulk, Rows.uptoBulkAll]⟩
        · simp only [List.take_succ_cons, List.take_zero, List.cons.injEq, and_true, List.drop_succ_cons, List.drop_zero] at e2
          subst e2
          have each : ∀ i, i < len → ∃ t : Gn, ∃ cs' : List Value, w.cells? base (a.add (i * 4)) 4 = some cs' ∧ GAt w (GBel w.heap.size) n' (.agg cs'.toArray) t ∧ ∀ (hi : i < elems.length), t.size ≤ Rows.uptoBulk (elems[i]'hi).1 := by
            intro i hi
            have h1 := hat i hi
            rw [cells4] at h1
            have hi' : i < elems.length := by omega
            rw [List.getElem?_eq_getElem hi'] at h1
            obtain ⟨cs', hc, ht⟩ := Option.bind_eq_some_iff.1 h1
            obtain ⟨t, h2, h3⟩ := ih n' (by omega) cs' _ ht
            exact ⟨t, cs', hc, h2, fun _ => h3⟩
          obtain ⟨f, hfx⟩ := choose_lt each
          refine ⟨.node l m q ((List.range' 0 len).map f), ⟨⟨hl, hm, hq⟩, some a, cap, ?_, by simpa [Gn.subs] using hlc, fun hp => ?_⟩, ?_⟩
          · simp [Gn.subs, Gn.kind, Gn.a, Gn.b]
          · have hp' : 0 < len := by simpa [Gn.subs] using hp
            obtain ⟨b, off, spot⟩ := a
            have hcell : ∀ i, i < len → ∀ q, q < 4 → ∃ u, w.cell? ((⟨b, off, spot⟩ : Addr).add (i * 4) |>.add q) = some u := by
              intro i hi q hq
              obtain ⟨cs', hc, _⟩ := hfx i hi
              obtain ⟨_, hl', hu⟩ := World.cells?_some hc
              exact ⟨_, (hu q hq).trans (List.getElem?_eq_getElem (by omega))⟩
            have hspot : spot = none := by
              obtain ⟨u, hu⟩ := hcell 0 hp' 0 (by omega)
              simpa [Addr.add] using World.cell?_spot hu
            subst hspot
            refine ⟨b, off, rfl, ?_, fun j hj => ?_⟩
            · obtain ⟨u, hu⟩ := hcell 0 hp' 0 (by omega)
              exact World.block_lt_of_cell? _ _ (by simpa [Addr.add] using hu)
            · have hj' : j < len := by simpa [Gn.subs] using hj
              obtain ⟨cs', hc, ht, _⟩ := hfx j hj'
              obtain ⟨_, hl', hu⟩ := World.cells?_some hc
              match cs', hl' with
              | [x0, x1, x2, x3], _ =>
                have u0 := hu 0 (by omega)
                have u1 := hu 1 (by omega)
                have u2 := hu 2 (by omega)
                have u3 := hu 3 (by omega)
                rw [add_plain, add_plain] at u0 u1 u2 u3
                refine ⟨x0, x1, x2, x3, by simpa using u0, by simpa using u1, by simpa using u2, by simpa using u3, ?_⟩
                have e : (Gn.node l m q ((List.range' 0 len).map f)).subs[j]'hj = f j := by simp [Gn.subs]
                rw [e]
                exact GAt.up (by omega) ht
          · simp only [Gn.size, List.map_cons, List.map_nil, Rows.uptoBulk, Rows.uptoBulkAll]
            have := gsizes_bulk f (elems.map (·.1)) 0 (fun i hi => by
              have hi' : i < elems.length := by simpa using hi
              obtain ⟨_, _, _, hs⟩ := hfx i (by omega)
              have := hs hi'
              simpa using this)
            rw [List.length_map, hel] at this
            omega

set_option maxRecDepth 100000 in
theorem open_gen {H : Type} {enc : TypeId × Value → H} {w : World} {base : Nat} {r : Reach} {b0 : Nat} {spare : Nat → Bool} {held : Bool} {v : Value} {d : DataW H} {ps : List MemPlace}
    (hval : Value.okWide Tryz.prog w r b0 24 v) (hd : DataW.Trod enc Tryz.prog w base spare held 24 v d ps) :
    ∃ (t : Gn) (n : Nat), GAt w (GBel w.heap.size) n v t ∧ t.size ≤ Rows.uptoBulk d := by
  obtain ⟨cs, rfl, _⟩ := okWide_struct Tryz.underlying24 hval
  obtain ⟨fuel, hf⟩ := hd
  obtain ⟨t, h1, h2⟩ := gread_tree fuel _ _ hf
  exact ⟨t, fuel, by simpa [Value.cells] using h1, h2⟩
end Go.Proofs.YtabkihellcflhaaGreatDoor.Gens

/- Plain laws on lists of numbers: which is less, where both first differ. No program. -/
namespace Go.Proofs.YtabkihellcflhaaGreatDoor.Lists

/-- the sign of the first difference -/
def cmpL : List Int → List Int → Int
  | [], [] => 0
  | [], _ :: _ => -1
  | _ :: _, [] => 1
  | a :: l, b :: m => if a < b then -1 else if b < a then 1 else cmpL l m
def lessL (l m : List Int) : Bool := if l.length = m.length then decide (cmpL l m < 0) else decide (l.length < m.length)

theorem cmpL_refl : ∀ l, cmpL l l = 0
  | [] => rfl
  | a :: l => by simp [cmpL, cmpL_refl l]
theorem cmpL_swap : ∀ l m, cmpL m l = - cmpL l m
  | [], [] => rfl
  | [], _ :: _ => rfl
  | _ :: _, [] => rfl
  | a :: l, b :: m => by
    simp only [cmpL]
    rcases Int.lt_trichotomy a b with h | h | h
    · rw [if_pos h, if_neg (by omega), if_pos h]; rfl
    · subst h; simp [cmpL_swap l m]
    · rw [if_pos h, if_neg (by omega), if_pos h]
theorem cmpL_three : ∀ l m, cmpL l m = -1 ∨ cmpL l m = 0 ∨ cmpL l m = 1
  | [], [] => .inr (.inl rfl)
  | [], _ :: _ => .inl rfl
  | _ :: _, [] => .inr (.inr rfl)
  | a :: l, b :: m => by
    simp only [cmpL]
    split
    · exact .inl rfl
    · split
      · exact .inr (.inr rfl)
      · exact cmpL_three l m
theorem cmpL_zero : ∀ l m, cmpL l m = 0 → l = m
  | [], [], _ => rfl
  | [], _ :: _, h => by simp [cmpL] at h
  | _ :: _, [], h => by simp [cmpL] at h
  | a :: l, b :: m, h => by
    simp only [cmpL] at h
    by_cases h1 : a < b
    · rw [if_pos h1] at h; omega
    · rw [if_neg h1] at h
      by_cases h2 : b < a
      · rw [if_pos h2] at h; omega
      · rw [if_neg h2] at h
        have : a = b := by omega
        rw [this, cmpL_zero l m h]
theorem cmpL_trans : ∀ l m n, cmpL l m < 0 → cmpL m n < 0 → cmpL l n < 0
  | [], [], _, h, _ => by simp [cmpL] at h
  | [], _ :: _, [], _, h => by simp [cmpL] at h
  | [], _ :: _, _ :: _, _, _ => by simp [cmpL]
  | _ :: _, [], _, h, _ => by simp [cmpL] at h
  | _ :: _, _ :: _, [], _, h => by simp [cmpL] at h
  | a :: l, b :: m, c :: n, h, k => by
    simp only [cmpL] at h k ⊢
    by_cases h1 : a < b
    · by_cases k1 : b < c
      · rw [if_pos (by omega)]; omega
      · rw [if_neg k1] at k
        by_cases k2 : c < b
        · rw [if_pos k2] at k; omega
        · rw [if_pos (by omega)]; omega
    · rw [if_neg h1] at h
      by_cases h2 : b < a
      · rw [if_pos h2] at h; omega
      · rw [if_neg h2] at h
        by_cases k1 : b < c
        · rw [if_pos (by omega)]; omega
        · rw [if_neg k1] at k
          by_cases k2 : c < b
          · rw [if_pos k2] at k; omega
          · rw [if_neg k2] at k
            rw [if_neg (by omega), if_neg (by omega)]
            exact cmpL_trans l m n h k
theorem cmpL_append : ∀ l m n, l.length = m.length → cmpL (l ++ n) (m ++ n) = cmpL l m
  | [], [], n, _ => by simp [cmpL, cmpL_refl]
  | [], _ :: _, _, h => by simp at h
  | _ :: _, [], _, h => by simp at h
  | a :: l, b :: m, n, h => by
    simp only [List.cons_append, cmpL]
    rw [cmpL_append l m n (by simpa using h)]
theorem drop_getD (l : List Int) (k : Nat) (h : k < l.length) : l.drop k = l.getD k 0 :: l.drop (k + 1) := by
  rw [List.drop_eq_getElem_cons h]; simp [List.getD, List.getElem?_eq_getElem h]
theorem take_getD (l : List Int) (k : Nat) (h : k < l.length) : l.take (k + 1) = l.take k ++ [l.getD k 0] := by
  rw [List.take_succ_eq_append_getElem h]; simp [List.getD, List.getElem?_eq_getElem h]
theorem cmpL_step (l m : List Int) (k : Nat) (h1 : k < l.length) (h2 : k < m.length) :
    cmpL (l.drop k) (m.drop k) = if l.getD k 0 < m.getD k 0 then -1 else if m.getD k 0 < l.getD k 0 then 1 else cmpL (l.drop (k + 1)) (m.drop (k + 1)) := by
  rw [drop_getD l k h1, drop_getD m k h2]; rfl
theorem cmpL_out (l m : List Int) (k : Nat) (h1 : k < l.length) (h2 : m.length ≤ k) : cmpL (l.drop k) (m.drop k) = 1 := by
  rw [drop_getD l k h1, List.drop_eq_nil_of_le h2]; rfl
theorem cmpL_less (l m : List Int) (k : Nat) (h1 : l.length ≤ k) (h2 : k < m.length) : cmpL (l.drop k) (m.drop k) = -1 := by
  rw [drop_getD m k h2, List.drop_eq_nil_of_le h1]; rfl
theorem cmpL_done (l m : List Int) (k : Nat) (h1 : l.length ≤ k) (h2 : m.length ≤ k) : cmpL (l.drop k) (m.drop k) = 0 := by
  rw [List.drop_eq_nil_of_le h1, List.drop_eq_nil_of_le h2]; rfl

/-! which tape is less -/
theorem lessL_irrefl (l : List Int) : lessL l l = false := by simp [lessL, cmpL_refl]
theorem lessL_one (l m : List Int) (h : l ≠ m) : lessL m l = !lessL l m := by
  unfold lessL
  by_cases e : l.length = m.length
  · rw [if_pos e, if_pos e.symm, cmpL_swap l m]
    have h0 : cmpL l m ≠ 0 := fun z => h (cmpL_zero l m z)
    rcases Int.lt_or_gt_of_ne h0 with g | g
    · rw [decide_eq_false (by omega), decide_eq_true g]; rfl
    · rw [decide_eq_true (by omega), decide_eq_false (by omega)]; rfl
  · rw [if_neg e, if_neg (fun z => e z.symm)]
    by_cases g : l.length < m.length
    · rw [decide_eq_false (by omega), decide_eq_true g]; rfl
    · rw [decide_eq_true (by omega), decide_eq_false g]; rfl
theorem lessL_trans (l m n : List Int) (h : lessL l m = true) (k : lessL m n = true) : lessL l n = true := by
  unfold lessL at *
  by_cases e : l.length = m.length
  · rw [if_pos e] at h
    by_cases f : m.length = n.length
    · rw [if_pos f] at k
      rw [if_pos (by omega)]
      exact decide_eq_true (cmpL_trans l m n (of_decide_eq_true h) (of_decide_eq_true k))
    · rw [if_neg f] at k
      have := of_decide_eq_true k
      rw [if_neg (by omega)]
      exact decide_eq_true (by omega)
  · rw [if_neg e] at h
    have h' := of_decide_eq_true h
    by_cases f : m.length = n.length
    · rw [if_neg (by omega)]; exact decide_eq_true (by omega)
    · rw [if_neg f] at k
      have := of_decide_eq_true k
      rw [if_neg (by omega)]; exact decide_eq_true (by omega)
theorem lessL_append (l m n : List Int) : lessL (l ++ n) (m ++ n) = lessL l m := by
  unfold lessL
  by_cases e : l.length = m.length
  · rw [if_pos (by simp [e]), if_pos e, cmpL_append l m n e]
  · rw [if_neg (by simpa using e), if_neg e]; simp
theorem lessL_longer (l n : List Int) : lessL (l ++ n) l = false := by
  unfold lessL
  by_cases e : n = []
  · subst e; simp [cmpL_refl]
  · have : 0 < n.length := List.length_pos_iff.2 e
    rw [if_neg (by simp; omega)]; simp
theorem lessL_shorter (l n : List Int) : lessL l (l ++ n) = decide (0 < n.length) := by
  unfold lessL
  by_cases e : n = []
  · subst e; simp [cmpL_refl]
  · have : 0 < n.length := List.length_pos_iff.2 e
    rw [if_neg (by simp; omega)]; simp
end Go.Proofs.YtabkihellcflhaaGreatDoor.Lists
