/- RoseTells, part 3 of the proof: Values (a bool, a number, items) as trees: how they lie in memory, and what an argument reads as. · Plain laws on texts of tapes: cut at points, read number by number. No program. · Plain laws on digits: how a number's text is made of its tenth's; no program. · Plain laws on numbers' texts: what a text of digits is worth. No program. · Plain laws on values as trees: what is wrong with one, its text, sameness. No program. · A row of values that the call itself makes: append of one value. Conditions: the size. · A row of values that the call itself makes, apart from a source's blocks: append of one value. Conditions: the size. -/
import Derived.Test.YtplladlodgfloaaDoorRoseTellsZ1
import Derived.Deep.Slices
import Derived.Deep.Fields
import Derived.Lib.SmallJoins
import Derived.Test.YtplladlodgfloaaDoorRoseTellsZ2
import Derived.Lib.AtoiAll
import Derived.Lib.IndexMore
import Derived.IntWalk
import Derived.Maps.AppendAt
import Derived.RegionTactic
import Derived.OwnWalk
/- Values (a bool, a number, items) as trees: how they lie in memory, and what an argument reads as. -/
namespace Go.Proofs.YtplladlodgfloaaDoor.Vals
open Go.RowKit Go.WideShapes Go.ChangeShapes Go.Deep Go.Joins
set_option linter.unusedVariables false

inductive Tr where
  | node (list : Bool) (num : Int) (items : List Tr)
instance instTr : Inhabited Tr := ⟨.node false 0 []⟩
def Tr.list : Tr → Bool | .node l _ _ => l
def Tr.num : Tr → Int | .node _ n _ => n
def Tr.items : Tr → List Tr | .node _ _ i => i
mutual
def Tr.size : Tr → Nat
  | .node _ _ i => 1 + sizes i
def sizes : List Tr → Nat
  | [] => 0
  | t :: r => t.size + sizes r
end

/-- In world w, in blocks of S, the value v is the tree t of at most so many levels. -/
def TAt (w : World) (S : Nat → Prop) : Nat → Value → Tr → Prop
  | 0, _, _ => False
  | n + 1, v, t => (Lit.int .i64 t.num).wf = true ∧ ∃ A c, v = .agg #[.bool t.list, .int .i64 t.num, .slice A t.items.length c] ∧
      (0 < t.items.length → ∃ b off, A = some ⟨b, off, none⟩ ∧ S b ∧ ∀ j (h : j < t.items.length), ∃ x0 x1 x2, w.cell? ⟨b, off + j * 3, none⟩ = some x0 ∧ w.cell? ⟨b, off + j * 3 + 1, none⟩ = some x1 ∧ w.cell? ⟨b, off + j * 3 + 2, none⟩ = some x2 ∧ TAt w S n (.agg #[x0, x1, x2]) (t.items[j]'h))

theorem TAt.keep {w w' : World} {S S' : Nat → Prop} (hk : ∀ b, S b → S' b ∧ ∀ o, w'.cell? ⟨b, o, none⟩ = w.cell? ⟨b, o, none⟩) : ∀ {n : Nat} {v : Value} {t : Tr}, TAt w S n v t → TAt w' S' n v t
  | 0, _, _, h => h
  | n + 1, v, t, h => by
    obtain ⟨hw, A, c, rfl, h⟩ := h
    refine ⟨hw, A, c, rfl, fun hp => ?_⟩
    obtain ⟨b, off, e, hb, hc⟩ := h hp
    obtain ⟨hb', hk'⟩ := hk b hb
    refine ⟨b, off, e, hb', fun j hj => ?_⟩
    obtain ⟨x0, x1, x2, c0, c1, c2, ht⟩ := hc j hj
    exact ⟨x0, x1, x2, (hk' _).trans c0, (hk' _).trans c1, (hk' _).trans c2, TAt.keep hk ht⟩
def Bel (B : Nat) : Nat → Prop := fun b => b < B
theorem TAt.below {w w' : World} {B n : Nat} {v : Value} {t : Tr} (h : TAt w (Bel B) n v t) (hb : Below B w w') : TAt w' (Bel B) n v t :=
  h.keep fun b hB => ⟨hB, fun o => hb.cell (p := ⟨b, o, none⟩) hB⟩
theorem TAt.more {w : World} {B B' n : Nat} {v : Value} {t : Tr} (h : TAt w (Bel B) n v t) (hB : B ≤ B') : TAt w (Bel B') n v t :=
  h.keep fun b hb => ⟨Nat.lt_of_lt_of_le hb hB, fun _ => rfl⟩
theorem TAt.drew {w : World} {S : Nat → Prop} {n : Nat} {v : Value} {t : Tr} (h : TAt w S n v t) : TAt w.drew S n v t := h.keep (w := w) (w' := w.drew) fun b hb => ⟨hb, fun _ => rfl⟩
theorem TAt.drewN {w : World} {S : Nat → Prop} {n : Nat} {v : Value} {t : Tr} (h : TAt w S n v t) (k : Nat) : TAt (w.drewN k) S n v t := h.keep (w := w) (w' := w.drewN k) fun b hb => ⟨hb, fun _ => rfl⟩
theorem TAt.up {w : World} {S : Nat → Prop} : ∀ {n m : Nat} {v : Value} {t : Tr}, n ≤ m → TAt w S n v t → TAt w S m v t
  | 0, _, _, _, _, h => h.elim
  | n + 1, 0, _, _, hm, _ => by omega
  | n + 1, m + 1, v, t, hm, h => by
    obtain ⟨hw, A, c, rfl, h⟩ := h
    refine ⟨hw, A, c, rfl, fun hp => ?_⟩
    obtain ⟨b, off, e, hb, hc⟩ := h hp
    refine ⟨b, off, e, hb, fun j hj => ?_⟩
    obtain ⟨x0, x1, x2, c0, c1, c2, ht⟩ := hc j hj
    exact ⟨x0, x1, x2, c0, c1, c2, TAt.up (by omega) ht⟩
/-- opened -/
theorem TAt.open_ {w : World} {S : Nat → Prop} {n : Nat} {v : Value} {t : Tr} (h : TAt w S n v t) : ∃ m A c, n = m + 1 ∧ (Lit.int .i64 t.num).wf = true ∧ v = .agg #[.bool t.list, .int .i64 t.num, .slice A t.items.length c] ∧
    (0 < t.items.length → ∃ b off, A = some ⟨b, off, none⟩ ∧ S b ∧ ∀ j (h : j < t.items.length), ∃ x0 x1 x2, w.cell? ⟨b, off + j * 3, none⟩ = some x0 ∧ w.cell? ⟨b, off + j * 3 + 1, none⟩ = some x1 ∧ w.cell? ⟨b, off + j * 3 + 2, none⟩ = some x2 ∧ TAt w S m (.agg #[x0, x1, x2]) (t.items[j]'h)) := by
  cases n with
  | zero => exact h.elim
  | succ n =>
    obtain ⟨hw, A, c, rfl, h⟩ := h
    exact ⟨n, A, c, rfl, hw, rfl, h⟩

theorem sizes_bulk {H : Type} (f : Nat → Tr) (elems : List (DataW H)) : ∀ (k : Nat), (∀ i (h : i < elems.length), (f (k + i)).size ≤ Rows.uptoBulk (elems[i]'h)) → sizes ((List.range' k elems.length).map f) ≤ Rows.uptoBulkAll elems := by
  induction elems with
  | nil => intro k _; simp [sizes, Rows.uptoBulkAll]
  | cons d r ih =>
    intro k h
    simp only [List.length_cons, List.range'_succ, List.map_cons, sizes, Rows.uptoBulkAll]
    have h0 := h 0 (by simp)
    have h1 := ih (k + 1) (fun i hi => by
      have := h (i + 1) (by simpa using hi)
      simpa [Nat.add_assoc, Nat.add_comm 1 i] using this)
    simp at h0
    omega

set_option maxRecDepth 100000 in
theorem cells3 : Tryd.prog.cellsOf 32 = 3 := by kernel_rfl
set_option maxRecDepth 100000 in
theorem hone : oneCellFields Tryd.prog #[{ name := "List", type := 4, offset := 0, embedded := false, tag := "", pkgPath := "", byteOffset := 0 }, { name := "Num", type := 3, offset := 1, embedded := false, tag := "", pkgPath := "", byteOffset := 8 }, { name := "Items", type := 30, offset := 2, embedded := false, tag := "", pkgPath := "", byteOffset := 16 }] = true := by kernel_rfl

set_option maxRecDepth 100000 in
theorem read_tree {H : Type} {enc : TypeId × Value → H} {w : World} {base : Nat} {spare : Nat → Bool} {held : Bool} : ∀ (fuel : Nat) (cs : List Value) (x : DataW H × List MemPlace),
    DataW.trod enc Tryd.prog w base spare held fuel 32 cs = some x → ∃ t : Tr, TAt w (Bel w.heap.size) fuel (.agg cs.toArray) t ∧ t.size ≤ Rows.uptoBulk x.1 := by
  intro fuel
  induction fuel using Nat.strongRecOn with
  | ind fuel ih =>
    intro cs x h
    obtain ⟨xs, n, rfl, rfl, hlen, hxl, hf⟩ := DataW.trod_struct Tryd.underlying32 h
    rw [cells3] at hlen
    match cs, hlen with
    | [c0, c1, c2], _ =>
      obtain ⟨o0, k0⟩ := hone_of hone 0 _ rfl
      obtain ⟨o1, k1⟩ := hone_of hone 1 _ rfl
      obtain ⟨o2, k2⟩ := hone_of hone 2 _ rfl
      match xs, hxl with
      | [y0, y1, y2], _ =>
        have f0 := hf 0 _ rfl
        have f1 := hf 1 _ rfl
        have f2 := hf 2 _ rfl
        rw [o0, k0] at f0
        rw [o1, k1] at f1
        rw [o2, k2] at f2
        obtain ⟨l, e0, rfl⟩ := DataW.trod_bool Tryd.underlying4 f0
        obtain ⟨m, e1, rfl, hm⟩ := DataW.trod_int Tryd.underlying3 f1
        simp only [List.drop_zero, List.take_succ_cons, List.take_zero, List.cons.injEq, and_true, List.drop_succ_cons] at e0 e1
        subst e0 e1
        rcases DataW.trod_slice Tryd.underlying30 f2 with ⟨e2, rfl⟩ | ⟨a, len, cap, elems, rest, n', rfl, e2, rfl, _, _, _, hel, hat, _, _⟩
        · simp only [List.take_succ_cons, List.take_zero, List.cons.injEq, and_true, List.drop_succ_cons, List.drop_zero] at e2
          subst e2
          exact ⟨.node l m [], ⟨hm, none, 0, rfl, fun hp => by simp [Tr.items] at hp⟩, by simp [Tr.size, sizes, Rows.uptoBulk, Rows.uptoBulkAll]⟩
        · simp only [List.take_succ_cons, List.take_zero, List.cons.injEq, and_true, List.drop_succ_cons, List.drop_zero] at e2
          subst e2
          have each : ∀ i, i < len → ∃ t : Tr, ∃ cs' : List Value, w.cells? base (a.add (i * 3)) 3 = some cs' ∧ TAt w (Bel w.heap.size) n' (.agg cs'.toArray) t ∧ ∀ (hi : i < elems.length), t.size ≤ Rows.uptoBulk (elems[i]'hi).1 := by
            intro i hi
            have h1 := hat i hi
            rw [cells3] at h1
            have hi' : i < elems.length := by omega
            rw [List.getElem?_eq_getElem hi'] at h1
            obtain ⟨cs', hc, ht⟩ := Option.bind_eq_some_iff.1 h1
            obtain ⟨t, h2, h3⟩ := ih n' (by omega) cs' _ ht
            exact ⟨t, cs', hc, h2, fun _ => h3⟩
          obtain ⟨f, hfx⟩ := choose_lt each
          refine ⟨.node l m ((List.range' 0 len).map f), ⟨hm, some a, cap, ?_, fun hp => ?_⟩, ?_⟩
          · simp [Tr.items, Tr.list, Tr.num]
          · have hp' : 0 < len := by simpa [Tr.items] using hp
            obtain ⟨cs0, hc0, _⟩ := hfx 0 hp'
            obtain ⟨b, off, spot⟩ := a
            have hcell : ∀ i, i < len → ∀ q, q < 3 → ∃ u, w.cell? ((⟨b, off, spot⟩ : Addr).add (i * 3) |>.add q) = some u := by
              intro i hi q hq
              obtain ⟨cs', hc, _⟩ := hfx i hi
              obtain ⟨_, hl', hu⟩ := World.cells?_some hc
              exact ⟨_, (hu q hq).trans (List.getElem?_eq_getElem (by omega))⟩
            have hspot : spot = none := by
              obtain ⟨u, hu⟩ := hcell 0 hp' 0 (by omega)
              simpa [Addr.add] using World.cell?_spot hu
            subst hspot
            refine ⟨b, off, rfl, ?_, fun j hj => ?_⟩
            · obtain ⟨u, hu⟩ := hcell 0 hp' 0 (by omega)
              exact World.block_lt_of_cell? _ _ (by simpa [Addr.add] using hu)
            · have hj' : j < len := by simpa [Tr.items] using hj
              obtain ⟨cs', hc, ht, _⟩ := hfx j hj'
              obtain ⟨_, hl', hu⟩ := World.cells?_some hc
              match cs', hl' with
              | [x0, x1, x2], _ =>
                have u0 := hu 0 (by omega)
                have u1 := hu 1 (by omega)
                have u2 := hu 2 (by omega)
                rw [add_plain, add_plain] at u0 u1 u2
                refine ⟨x0, x1, x2, by simpa using u0, by simpa using u1, by simpa using u2, ?_⟩
                have e : (Tr.node l m ((List.range' 0 len).map f)).items[j]'hj = f j := by simp [Tr.items]
                rw [e]
                exact TAt.up (by omega) ht
          · simp only [Tr.size, List.map_cons, List.map_nil, Rows.uptoBulk, Rows.uptoBulkAll]
            have := sizes_bulk f (elems.map (·.1)) 0 (fun i hi => by
              have hi' : i < elems.length := by simpa using hi
              obtain ⟨_, _, _, hs⟩ := hfx i (by omega)
              have := hs hi'
              simpa using this)
            rw [List.length_map, hel] at this
            omega

set_option maxRecDepth 100000 in
theorem open_value {H : Type} {enc : TypeId × Value → H} {w : World} {base : Nat} {r : Reach} {b0 : Nat} {spare : Nat → Bool} {held : Bool} {v : Value} {d : DataW H} {ps : List MemPlace}
    (hval : Value.okWide Tryd.prog w r b0 32 v) (hd : DataW.Trod enc Tryd.prog w base spare held 32 v d ps) :
    ∃ (t : Tr) (n : Nat), TAt w (Bel w.heap.size) n v t ∧ t.size ≤ Rows.uptoBulk d := by
  obtain ⟨cs, rfl, _⟩ := okWide_struct Tryd.underlying32 hval
  obtain ⟨fuel, hf⟩ := hd
  obtain ⟨t, h1, h2⟩ := read_tree fuel _ _ hf
  exact ⟨t, fuel, by simpa [Value.cells] using h1, h2⟩
end Go.Proofs.YtplladlodgfloaaDoor.Vals

/- Plain laws on texts of tapes: cut at points, read number by number. No program. -/
namespace Go.Proofs.YtplladlodgfloaaDoor.Lists
open Go.Lib (itoa decDigits nDigits atoiAll parseUint10 NumEnd)

/-- up to the first point; behind it; is there one? -/
def cutL : List UInt8 → List UInt8 × List UInt8 × Bool
  | [] => ([], [], false)
  | c :: r => if c = 46 then ([], r, true) else (c :: (cutL r).1, (cutL r).2.1, (cutL r).2.2)
def splitL : List UInt8 → List (List UInt8)
  | [] => [[]]
  | c :: r => if c = 46 then [] :: splitL r else match splitL r with
    | [] => [[c]]
    | p :: ps => (c :: p) :: ps

theorem splitL_cut : ∀ l, splitL l = (cutL l).1 :: (if (cutL l).2.2 = true then splitL (cutL l).2.1 else [])
  | [] => by simp [splitL, cutL]
  | c :: r => by
    by_cases h : c = 46
    · simp [splitL, cutL, h]
    · simp only [splitL, cutL, if_neg h]
      rw [splitL_cut r]
theorem cutL_len : ∀ l, (cutL l).1.length ≤ l.length ∧ (cutL l).2.1.length ≤ l.length ∧ ((cutL l).2.2 = true → (cutL l).2.1.length + 1 ≤ l.length) ∧ ((cutL l).2.2 = false → (cutL l).2.1 = [])
  | [] => by simp [cutL]
  | c :: r => by
    by_cases h : c = 46
    · simp [cutL, h]
    · have ih := cutL_len r
      simp only [cutL, if_neg h, List.length_cons]
      exact ⟨by omega, by omega, fun g => by have := ih.2.2.1 g; omega, ih.2.2.2⟩
theorem cut_eq : ∀ l, Lib.cut l [46] = cutL l
  | [] => by simp [Lib.cut, Lib.index, cutL]
  | c :: r => by
    have ih := cut_eq r
    by_cases h : c = 46
    · subst h
      simp [Lib.cut, Lib.index, cutL]
    · have hp : ([46] : List UInt8).isPrefixOf (c :: r) = false := by
        simp only [List.isPrefixOf_cons_cons, List.isPrefixOf_nil_left, Bool.and_true, beq_eq_false_iff_ne]
        exact fun e => h e.symm
      have hi : Lib.index (c :: r) [46] = if Lib.index r [46] == -1 then -1 else Lib.index r [46] + 1 := by
        rw [Lib.index, hp]; rfl
      have hge := Lib.index_ge r [46]
      simp only [cutL, if_neg h]
      rw [← ih]
      unfold Lib.cut
      rw [hi]
      by_cases h0 : Lib.index r [46] = -1
      · simp [h0]
      · have hb : (Lib.index r [46] == -1) = false := by rw [beq_eq_false_iff_ne]; exact h0
        have g0 : 0 ≤ Lib.index r [46] := by omega
        rw [hb]
        simp only [Bool.false_eq_true, if_false]
        rw [if_pos (by omega), if_pos g0]
        have e1 : (Lib.index r [46] + 1).toNat = (Lib.index r [46]).toNat + 1 := by omega
        rw [e1]
        simp only [List.take_succ_cons, List.length_cons, List.length_nil, Nat.zero_add, List.drop_succ_cons]

/-- the number of a part: one of a tape's -/
def numOf (p : List UInt8) : Option Int := match atoiAll p with
  | .ok v => if 0 ≤ v ∧ v ≤ 1000 then some v else none
  | _ => none
def numsOf : List (List UInt8) → Option (List Int)
  | [] => some []
  | p :: ps => match numOf p with
    | none => none
    | some v => (numsOf ps).map (v :: ·)
def numL (l : List UInt8) : Option (List Int) := if l = [] then some [] else numsOf (splitL l)
def parseL (l : List UInt8) : Option (List Int) := match numL l with
  | none => none
  | some t => if textL t = l then some t else none
def Valid (l : List Int) : Prop := ∀ n ∈ l, 0 ≤ n ∧ n ≤ 1000

def validB (l : List Int) : Bool := l.all fun n => decide (0 ≤ n ∧ n ≤ 1000)
theorem validB_iff (l : List Int) : validB l = true ↔ Valid l := by
  unfold validB Valid
  rw [List.all_eq_true]
  exact ⟨fun h n hn => of_decide_eq_true (h n hn), fun h n hn => decide_eq_true (h n hn)⟩
theorem validB_no (l : List Int) : validB l = false ↔ ¬ Valid l := by
  rw [← validB_iff]; simp
theorem numOf_range {p : List UInt8} {v : Int} (h : numOf p = some v) : 0 ≤ v ∧ v ≤ 1000 := by
  unfold numOf at h
  split at h
  · split at h
    · rename_i g; injection h with h; subst h; exact g
    · cases h
  · cases h
theorem numsOf_valid : ∀ (ps : List (List UInt8)) (l : List Int), numsOf ps = some l → Valid l
  | [], l, h => by simp only [numsOf] at h; injection h with h; subst h; intro n hn; cases hn
  | p :: ps, l, h => by
    simp only [numsOf] at h
    split at h
    · cases h
    · rename_i v hv
      rcases hq : numsOf ps with _ | q
      · rw [hq] at h; cases h
      · rw [hq] at h
        simp only [Option.map_some] at h
        injection h with h
        subst h
        intro n hn
        rcases List.mem_cons.1 hn with rfl | hn
        · exact numOf_range hv
        · exact numsOf_valid ps q hq n hn
theorem numL_valid {s : List UInt8} {l : List Int} (h : numL s = some l) : Valid l := by
  unfold numL at h
  split at h
  · injection h with h; subst h; intro n hn; cases hn
  · exact numsOf_valid _ _ h
theorem parseL_sound {s : List UInt8} {l : List Int} (h : parseL s = some l) : textL l = s ∧ Valid l := by
  unfold parseL at h
  split at h
  · cases h
  · rename_i t ht
    split at h
    · rename_i g
      injection h with h
      subst h
      exact ⟨g, numL_valid ht⟩
    · cases h

/-! a number's digits, read again -/
theorem dig_toNat (d : Nat) (h : d < 10) : (UInt8.ofNat (48 + d)).toNat = 48 + d := by
  rw [UInt8.toNat_ofNat']; omega
theorem parse_dec : ∀ (u acc : Nat) (r : List UInt8), acc * 10 ^ nDigits u + u < 9223372036854775808 → parseUint10 acc (decDigits u ++ r) = parseUint10 (acc * 10 ^ nDigits u + u) r := by
  intro u
  induction u using Nat.strongRecOn with
  | ind u ih =>
    intro acc r h
    by_cases h10 : u < 10
    · rw [Lib.nDigits_small h10] at h ⊢
      rw [Lib.decDigits_one h10]
      simp only [List.cons_append, List.nil_append, parseUint10]
      rw [dig_toNat u h10]
      rw [if_pos ⟨by omega, by omega⟩, if_neg (by omega), if_neg (by omega)]
      have e : acc * 10 + (48 + u - 48) = acc * 10 ^ 1 + u := by omega
      rw [e]
    · rw [Lib.nDigits_big h10] at h ⊢
      have e0 : decDigits u = decDigits (u / 10) ++ [UInt8.ofNat (48 + u % 10)] := by
        rw [decDigits, dif_neg h10]
      have e1 : acc * 10 ^ (nDigits (u / 10) + 1) + u = (acc * 10 ^ nDigits (u / 10) + u / 10) * 10 + u % 10 := by
        rw [Nat.pow_succ, ← Nat.mul_assoc]; omega
      rw [e1] at h ⊢
      rw [e0, List.append_assoc, ih (u / 10) (by omega) acc _ (by omega)]
      simp only [List.cons_append, List.nil_append, parseUint10]
      rw [dig_toNat (u % 10) (by omega)]
      rw [if_pos ⟨by omega, by omega⟩, if_neg (by omega), if_neg (by omega)]
      have e2 : (acc * 10 ^ nDigits (u / 10) + u / 10) * 10 + (48 + u % 10 - 48) = (acc * 10 ^ nDigits (u / 10) + u / 10) * 10 + u % 10 := by omega
      rw [e2]
theorem dec_digit : ∀ (u : Nat), ∀ c ∈ decDigits u, 48 ≤ c.toNat ∧ c.toNat ≤ 57 := by
  intro u
  induction u using Nat.strongRecOn with
  | ind u ih =>
    intro c hc
    by_cases h10 : u < 10
    · rw [Lib.decDigits_one h10] at hc
      have : c = UInt8.ofNat (48 + u) := by simpa using hc
      subst this
      rw [dig_toNat u h10]; omega
    · rw [decDigits, dif_neg h10] at hc
      rcases List.mem_append.1 hc with h | h
      · exact ih (u / 10) (by omega) c h
      · have : c = UInt8.ofNat (48 + u % 10) := by simpa using h
        subst this
        rw [dig_toNat (u % 10) (by omega)]; omega
theorem dec_ne (u : Nat) : decDigits u ≠ [] := by
  intro e
  have := decDigits_pos u
  rw [e] at this
  simp at this
theorem atoi_dec (u : Nat) (h : u < 9223372036854775808) : atoiAll (decDigits u) = .ok (u : Int) := by
  have hd := dec_digit u
  have hp := parse_dec u 0 [] (by omega)
  rw [List.append_nil] at hp
  rcases hl : decDigits u with _ | ⟨c, r⟩
  · exact absurd hl (dec_ne u)
  · rw [hl] at hd hp
    have hc := hd c (by simp)
    have n43 : ¬ c.toNat = 43 := by omega
    have n45 : ¬ c.toNat = 45 := by omega
    have hm : Lib.parseMag (c :: r) = .ok u := by
      unfold Lib.parseMag
      rw [if_neg (by simp), hp]
      simp only [parseUint10]
      congr 1
      omega
    have hb : ¬ 9223372036854775808 ≤ u := by omega
    unfold atoiAll
    simp only [n43, n45, or_self, if_false, hm, hb, not_false_eq_true, and_false, false_and]
theorem itoa_nat (n : Int) (h : 0 ≤ n) : itoa n = decDigits n.toNat := by unfold itoa; rw [if_neg (by omega)]
theorem numOf_itoa (n : Int) (h : 0 ≤ n ∧ n ≤ 1000) : numOf (itoa n) = some n := by
  unfold numOf
  rw [itoa_nat n h.1, atoi_dec n.toNat (by omega)]
  simp only
  rw [if_pos ⟨by omega, by omega⟩]
  congr 1
  omega
theorem itoa_nodot (n : Int) : ∀ c ∈ itoa n, c ≠ 46 := by
  intro c hc e
  subst e
  unfold itoa at hc
  split at hc
  · rcases List.mem_cons.1 hc with h | h
    · exact absurd h (by decide)
    · have := dec_digit _ _ h; simp at this
  · have := dec_digit _ _ hc; simp at this
theorem cutL_nodot : ∀ (a r : List UInt8), (∀ c ∈ a, c ≠ 46) → cutL (a ++ 46 :: r) = (a, r, true)
  | [], r, _ => by simp [cutL]
  | c :: a, r, h => by
    simp only [List.cons_append, cutL]
    rw [if_neg (h c (by simp)), cutL_nodot a r (fun x hx => h x (by simp [hx]))]
theorem cutL_none : ∀ (a : List UInt8), (∀ c ∈ a, c ≠ 46) → cutL a = (a, [], false)
  | [], _ => by simp [cutL]
  | c :: a, h => by
    simp only [cutL]
    rw [if_neg (h c (by simp)), cutL_none a (fun x hx => h x (by simp [hx]))]
theorem split_text : ∀ (l : List Int), l ≠ [] → splitL (textL l) = l.map itoa
  | [], h => absurd rfl h
  | [n], _ => by
    rw [splitL_cut, textL, cutL_none _ (itoa_nodot n)]
    simp
  | n :: m :: r, _ => by
    rw [splitL_cut, textL, cutL_nodot _ _ (itoa_nodot n)]
    simp only [if_true]
    rw [split_text (m :: r) (by simp)]
    simp
theorem numsOf_map : ∀ (l : List Int), Valid l → numsOf (l.map itoa) = some l
  | [], _ => rfl
  | n :: l, h => by
    simp only [List.map_cons, numsOf]
    rw [numOf_itoa n (h n (by simp)), numsOf_map l (fun x hx => h x (by simp [hx]))]
    rfl
theorem itoa_ne (n : Int) : itoa n ≠ [] := by
  intro e
  have := itoa_pos n
  rw [e] at this
  simp at this
theorem textL_ne (l : List Int) (h : l ≠ []) : textL l ≠ [] := by
  cases l with
  | nil => exact absurd rfl h
  | cons n r =>
    rw [textL_cons]
    intro e
    exact itoa_ne n (List.append_eq_nil_iff.1 e).1
theorem parse_text (l : List Int) (h : Valid l) : parseL (textL l) = some l := by
  unfold parseL numL
  by_cases e : l = []
  · subst e; simp [textL]
  · rw [if_neg (textL_ne l e), split_text l e, numsOf_map l h]
    simp
end Go.Proofs.YtplladlodgfloaaDoor.Lists

/- Plain laws on digits: how a number's text is made of its tenth's; no program. -/
namespace Go.Proofs.YtplladlodgfloaaDoor.Lists
open Go.Lib (itoa decDigits nDigits)

theorem dec_step (u : Nat) (h : 10 ≤ u) : decDigits u = decDigits (u / 10) ++ decDigits (u % 10) := by
  rw [decDigits, dif_neg (by omega), Lib.decDigits_one (show u % 10 < 10 by omega)]
theorem itoa_neg_one (n : Int) (h : n < 0) (h10 : n.tdiv 10 = 0) : itoa n = 45 :: itoa (0 - n.tmod 10) := by
  have e1 : n.tmod 10 = n := by have := Int.tmod_add_mul_tdiv n 10; rw [h10] at this; omega
  have hneg : 0 ≤ 0 - n := by omega
  rw [e1, itoa_nat (0 - n) hneg]
  unfold itoa
  rw [if_pos h]
  congr 2
  omega
theorem tdiv_neg (n : Int) (h : n < 0) : (n.tdiv 10).natAbs = n.natAbs / 10 ∧ (n.tmod 10).natAbs = n.natAbs % 10 ∧ n.tdiv 10 ≤ 0 ∧ n.tmod 10 ≤ 0 := by
  have e : n = -((n.natAbs : Nat) : Int) := by omega
  have h1 : n.tdiv 10 = -(((n.natAbs / 10 : Nat) : Int)) := by
    rw [e, Int.neg_tdiv, ← e]
    congr 1
  have h2 : n.tmod 10 = -(((n.natAbs % 10 : Nat) : Int)) := by
    rw [e, Int.neg_tmod, ← e]
    congr 1
  rw [h1, h2]
  omega
theorem itoa_neg_step (n : Int) (h : n < 0) (h10 : n.tdiv 10 ≠ 0) : itoa n = itoa (n.tdiv 10) ++ itoa (0 - n.tmod 10) := by
  obtain ⟨a, b, c, d⟩ := tdiv_neg n h
  have hq : n.tdiv 10 < 0 := by omega
  rw [itoa_nat (0 - n.tmod 10) (by omega)]
  unfold itoa
  rw [if_pos h, if_pos hq, a, dec_step n.natAbs (by omega)]
  have e : (0 - n.tmod 10).toNat = n.natAbs % 10 := by omega
  rw [e]; rfl
theorem itoa_pos_step (n : Int) (h : 10 ≤ n) : itoa n = itoa (n / 10) ++ itoa (n % 10) := by
  rw [itoa_nat n (by omega), itoa_nat (n / 10) (by omega), itoa_nat (n % 10) (by omega), dec_step n.toNat (by omega)]
  have e1 : (n / 10).toNat = n.toNat / 10 := by omega
  have e2 : (n % 10).toNat = n.toNat % 10 := by omega
  rw [e1, e2]
theorem itoa_one (n : Int) (h : 0 ≤ n) (h' : n < 10) : itoa n = [UInt8.ofNat (48 + n.toNat)] := by
  rw [itoa_nat n h, Lib.decDigits_one (by omega)]
end Go.Proofs.YtplladlodgfloaaDoor.Lists

/- Plain laws on numbers' texts: what a text of digits is worth. No program. -/
namespace Go.Proofs.YtplladlodgfloaaDoor.Lists
open Go.Lib (itoa decDigits nDigits)

def AllDig (d : List UInt8) : Prop := ∀ c ∈ d, 48 ≤ c.toNat ∧ c.toNat ≤ 57
def valD (d : List UInt8) : Int := d.foldl (fun a c => 10 * a + ((c.toNat : Int) - 48)) 0
theorem valD_snoc (d : List UInt8) (c : UInt8) : valD (d ++ [c]) = 10 * valD d + ((c.toNat : Int) - 48) := by
  unfold valD; rw [List.foldl_append]; rfl
theorem valD_dec : ∀ (u : Nat), valD (decDigits u) = u := by
  intro u
  induction u using Nat.strongRecOn with
  | ind u ih =>
    by_cases h10 : u < 10
    · rw [Lib.decDigits_one h10]
      show 10 * 0 + (((UInt8.ofNat (48 + u)).toNat : Int) - 48) = u
      rw [dig_toNat u h10]; omega
    · rw [decDigits, dif_neg h10, valD_snoc, ih (u / 10) (by omega), dig_toNat (u % 10) (by omega)]
      omega
theorem nd_le : ∀ (k u : Nat), u < 10 ^ (k + 1) → nDigits u ≤ k + 1
  | 0, u, h => by rw [Lib.nDigits_small (by omega)]; omega
  | k + 1, u, h => by
    by_cases h10 : u < 10
    · rw [Lib.nDigits_small h10]; omega
    · rw [Lib.nDigits_big h10]
      have h2 : u / 10 < 10 ^ (k + 1) := by rw [Nat.pow_succ] at h; omega
      have := nd_le k (u / 10) h2
      omega
theorem itoa_len20 (v : Int) (h : I64 v) : (itoa v).length ≤ 20 := by
  obtain ⟨h1, h2⟩ := h
  have hp : (10 : Nat) ^ (18 + 1) = 10000000000000000000 := by decide
  unfold itoa
  split
  · rw [List.length_cons, Lib.decDigits_length]
    have := nd_le 18 v.natAbs (by rw [hp]; omega)
    omega
  · rw [Lib.decDigits_length]
    have := nd_le 18 v.toNat (by rw [hp]; omega)
    omega
/-- a text that begins with '-' -/
def isNeg (l : List UInt8) : Bool := match l with | [] => false | c :: _ => c == 45
def startOf (l : List UInt8) : Nat := if isNeg l = true then 1 else 0
def signOf (l : List UInt8) : Int := if isNeg l = true then -1 else 1
theorem dec_head (u : Nat) : isNeg (decDigits u) = false := by
  have hd := dec_digit u
  cases h : decDigits u with
  | nil => rfl
  | cons c r =>
    rw [h] at hd
    have := hd c (by simp)
    show (c == 45) = false
    rw [beq_eq_false_iff_ne]
    intro e
    subst e
    simp at this
theorem itoa_read (v : Int) : AllDig ((itoa v).drop (startOf (itoa v))) ∧ signOf (itoa v) * valD ((itoa v).drop (startOf (itoa v))) = v := by
  by_cases h : v < 0
  · have e : itoa v = 45 :: decDigits v.natAbs := by unfold itoa; rw [if_pos h]
    have hn : isNeg (45 :: decDigits v.natAbs) = true := rfl
    rw [e]
    unfold startOf signOf
    rw [if_pos hn, if_pos hn]
    simp only [List.drop_succ_cons, List.drop_zero]
    refine ⟨dec_digit _, ?_⟩
    rw [valD_dec]; omega
  · have e : itoa v = decDigits v.toNat := itoa_nat v (by omega)
    rw [e]
    unfold startOf signOf
    rw [dec_head]
    simp only [Bool.false_eq_true, if_false, List.drop_zero]
    refine ⟨dec_digit _, ?_⟩
    rw [valD_dec]; omega
theorem itoa_inj {v u : Int} (h : itoa v = itoa u) : v = u := by
  have h1 := (itoa_read v).2
  rw [h, (itoa_read u).2] at h1
  exact h1.symm

/-! with wrap-around -/
def w64 (x : Int) : Int := (x + 9223372036854775808) % 18446744073709551616 - 9223372036854775808
theorem w64_id {x : Int} (h : I64 x) : w64 x = x := by unfold I64 at h; unfold w64; omega
theorem w64_i64 (x : Int) : I64 (w64 x) := by unfold I64 w64; omega
theorem w64_add (x d : Int) : w64 (w64 (10 * w64 x) + d) = w64 (10 * x + d) := by unfold w64; omega
theorem w64_sub (x d : Int) : w64 (w64 (10 * w64 (-x)) - d) = w64 (-(10 * x + d)) := by unfold w64; omega

def NumIs (l : List UInt8) (n : Int) (b : Bool) : Prop := I64 n ∧ (b = true → itoa n = l) ∧ ∀ v, I64 v → itoa v = l → n = v ∧ b = true
theorem num_no {l : List UInt8} (h : ∀ v, I64 v → itoa v ≠ l) : NumIs l 0 false :=
  ⟨by unfold I64; omega, (fun e => by cases e), fun v hv e => absurd e (h v hv)⟩
theorem num_long {l : List UInt8} (h : 20 < l.length) : NumIs l 0 false := num_no fun v hv e => by
  have := itoa_len20 v hv
  rw [e] at this
  omega
theorem num_bad {l : List UInt8} (k : Nat) (h : k < l.length) (hk : startOf l ≤ k) (hc : ¬ (48 ≤ (l[k]'h).toNat ∧ (l[k]'h).toNat ≤ 57)) : NumIs l 0 false := num_no fun v _ e => by
  have h1 := (itoa_read v).1
  rw [e] at h1
  refine hc (h1 _ ?_)
  have h2 : (l.drop (startOf l))[k - startOf l]? = some (l[k]'h) := by
    rw [List.getElem?_drop, List.getElem?_eq_getElem (by omega)]
    congr 2
    omega
  exact List.mem_of_getElem? h2
theorem num_end {l r : List UInt8} {n : Int} (hn : n = w64 (signOf l * valD (l.drop (startOf l)))) (hr : r = itoa n) : NumIs l n (r == l) := by
  refine ⟨by rw [hn]; exact w64_i64 _, fun e => by rw [← hr]; exact beq_iff_eq.1 e, fun v hv e => ?_⟩
  have h1 := (itoa_read v).2
  rw [e] at h1
  have h2 : n = v := by rw [hn, h1, w64_id hv]
  refine ⟨h2, ?_⟩
  rw [hr, h2, e]
  exact beq_self_eq_true l
/-- what a reading has come to behind k bytes -/
def ReadTo (l : List UInt8) (k : Nat) (n : Int) : Prop := startOf l ≤ k ∧ n = w64 (signOf l * valD ((l.take k).drop (startOf l)))
theorem take_drop_snoc (l : List UInt8) (k st : Nat) (h : k < l.length) (hs : st ≤ k) : (l.take (k + 1)).drop st = (l.take k).drop st ++ [l[k]'h] := by
  rw [List.take_succ_eq_append_getElem h, List.drop_append]
  have e : (l.take k).length = k := by rw [List.length_take]; omega
  rw [e, Nat.sub_eq_zero_of_le hs]
  rfl
theorem read_plus {l : List UInt8} {k : Nat} {n : Int} (h : ReadTo l k n) (hk : k < l.length) (hs : signOf l = 1) : ReadTo l (k + 1) (w64 (w64 (10 * n) + (((l[k]'hk).toNat : Int) - 48))) := by
  obtain ⟨h1, h2⟩ := h
  refine ⟨by omega, ?_⟩
  rw [take_drop_snoc l k _ hk h1, valD_snoc, h2, hs]
  simp only [Int.one_mul]
  exact w64_add _ _
theorem read_minus {l : List UInt8} {k : Nat} {n : Int} (h : ReadTo l k n) (hk : k < l.length) (hs : signOf l = -1) : ReadTo l (k + 1) (w64 (w64 (10 * n) - (((l[k]'hk).toNat : Int) - 48))) := by
  obtain ⟨h1, h2⟩ := h
  refine ⟨by omega, ?_⟩
  rw [take_drop_snoc l k _ hk h1, valD_snoc, h2, hs]
  have e1 : ∀ x : Int, (-1) * x = -x := fun x => by omega
  rw [e1, e1]
  exact w64_sub _ _
theorem read_start (l : List UInt8) : ReadTo l (startOf l) 0 := by
  refine ⟨Nat.le_refl _, ?_⟩
  have e : (l.take (startOf l)).drop (startOf l) = [] := List.drop_eq_nil_of_le (by rw [List.length_take]; omega)
  rw [e]
  show (0 : Int) = w64 (signOf l * 0)
  rw [Int.mul_zero]; rfl
theorem read_done {l r : List UInt8} {k : Nat} {n : Int} (h : ReadTo l k n) (hk : l.length ≤ k) (hr : r = itoa n) : NumIs l n (r == l) := by
  obtain ⟨h1, h2⟩ := h
  rw [List.take_of_length_le hk] at h2
  exact num_end h2 hr
end Go.Proofs.YtplladlodgfloaaDoor.Lists

/- Plain laws on values as trees: what is wrong with one, its text, sameness. No program. -/
namespace Go.Proofs.YtplladlodgfloaaDoor.Vals
open Go.Lib (itoa)
open Lists

/-! what is wrong with a value that lies in so many lists -/
def formBad (t : Tr) : Bool := (t.list && (t.num != 0)) || (!t.list && !t.items.isEmpty)
mutual
def faultV : Tr → Nat → Int
  | .node l n its, deep => if formBad (.node l n its) = true then 3 else if 6 ≤ deep then 4 else faultVs its (deep + 1)
def faultVs : List Tr → Nat → Int
  | [], _ => 0
  | t :: r, deep => if faultV t deep ≠ 0 then faultV t deep else faultVs r deep
end
theorem faultV_eq (t : Tr) (deep : Nat) : faultV t deep = if formBad t = true then 3 else if 6 ≤ deep then 4 else faultVs t.items (deep + 1) := by
  cases t with | node l n its => simp only [faultV, Tr.items]
theorem faultVs_app (l m : List Tr) (d : Nat) : faultVs (l ++ m) d = if faultVs l d ≠ 0 then faultVs l d else faultVs m d := by
  induction l with
  | nil => simp [faultVs]
  | cons t r ih =>
    simp only [List.cons_append, faultVs, ih]
    by_cases h : faultV t d = 0 <;> simp [h]
theorem fault_step0 (l : List Tr) (k d : Nat) (hk : k < l.length) (hz : faultVs (l.take k) d = 0) (h : faultV (l[k]'hk) d = 0) : faultVs (l.take (k + 1)) d = 0 := by
  rw [List.take_succ_eq_append_getElem hk, faultVs_app, hz]; simp [faultVs, h]
theorem fault_step1 (l : List Tr) (k d : Nat) (hk : k < l.length) (hz : faultVs (l.take k) d = 0) (h : faultV (l[k]'hk) d ≠ 0) : faultV (l[k]'hk) d = faultVs l d := by
  have h1 : faultVs (l.take (k + 1)) d = faultV (l[k]'hk) d := by
    rw [List.take_succ_eq_append_getElem hk, faultVs_app, hz]; simp [faultVs, h]
  have h2 := faultVs_app (l.take (k + 1)) (l.drop (k + 1)) d
  rw [List.take_append_drop, h1, if_pos h] at h2
  exact h2.symm
/-! right: of d levels at most -/
def okB : Nat → Tr → Bool
  | 0, _ => false
  | d + 1, t => !formBad t && t.items.all (okB d)
theorem formBad_list {t : Tr} (h : formBad t = false) (hl : t.list = true) : t.num = 0 := by
  unfold formBad at h; rw [hl] at h; simpa using h
theorem formBad_num {t : Tr} (h : formBad t = false) (hl : t.list = false) : t.items = [] := by
  unfold formBad at h; rw [hl] at h; simpa using h
theorem fault_ok : ∀ (k : Nat) (t : Tr) (deep : Nat), deep + k = 6 → (faultV t deep = 0 ↔ okB k t = true)
  | 0, t, deep, h => by
    rw [faultV_eq]
    by_cases hf : formBad t = true
    · simp [hf, okB]
    · rw [if_neg hf, if_pos (by omega)]; simp [okB]
  | k + 1, t, deep, h => by
    rw [faultV_eq]
    by_cases hf : formBad t = true
    · simp [hf, okB]
    · have hf' : formBad t = false := by simpa using hf
      rw [if_neg hf, if_neg (by omega)]
      have hs : ∀ its : List Tr, faultVs its (deep + 1) = 0 ↔ its.all (okB k) = true := by
        intro its
        induction its with
        | nil => simp [faultVs]
        | cons x r ih =>
          simp only [faultVs, List.all_cons, Bool.and_eq_true]
          have := fault_ok k x (deep + 1) (by omega)
          by_cases hx : faultV x (deep + 1) = 0
          · rw [if_neg (by simpa using hx), ih]; simp [this.1 hx]
          · rw [if_pos hx]
            exact ⟨fun e => absurd e hx, fun e => absurd (this.2 e.1) hx⟩
      simp only [okB, hf', Bool.not_false, Bool.true_and]
      exact hs t.items

/-! its text -/
mutual
def textV : Tr → List UInt8
  | .node l n its => if l = true then 40 :: (textVs its ++ [41]) else itoa n
def textVs : List Tr → List UInt8
  | [] => []
  | t :: r => textV t ++ textTail r
def textTail : List Tr → List UInt8
  | [] => []
  | t :: r => 32 :: (textV t ++ textTail r)
end
theorem textV_num (t : Tr) (h : t.list = false) : textV t = itoa t.num := by
  cases t with | node l n its => simp only [Tr.list] at h; subst h; simp [textV, Tr.num]
theorem textV_list (t : Tr) (h : t.list = true) : textV t = 40 :: (textVs t.items ++ [41]) := by
  cases t with | node l n its => simp only [Tr.list] at h; subst h; simp [textV, Tr.items]
theorem textTail_snoc (l : List Tr) (t : Tr) : textTail (l ++ [t]) = textTail l ++ 32 :: textV t := by
  induction l with
  | nil => simp [textTail]
  | cons x r ih => simp [textTail, ih]
theorem textVs_snoc (l : List Tr) (t : Tr) : textVs (l ++ [t]) = textVs l ++ (if l = [] then [] else [32]) ++ textV t := by
  cases l with
  | nil => simp [textVs, textTail]
  | cons x r => simp [textVs, textTail_snoc]
theorem textVs_take (l : List Tr) (k : Nat) (h : k < l.length) : textVs (l.take (k + 1)) = textVs (l.take k) ++ (if k = 0 then [] else [32]) ++ textV (l[k]'h) := by
  rw [List.take_succ_eq_append_getElem h, textVs_snoc]
  by_cases hk : k = 0
  · subst hk; simp
  · have : l.take k ≠ [] := by
      intro e
      have h2 : (l.take k).length = 0 := by rw [e]; rfl
      rw [List.length_take] at h2
      omega
    rw [if_neg hk, if_neg this]
mutual
def Tr.i64 : Tr → Prop
  | .node _ n its => I64 n ∧ i64s its
def i64s : List Tr → Prop
  | [] => True
  | t :: r => t.i64 ∧ i64s r
end
theorem i64s_iff (l : List Tr) : i64s l ↔ ∀ x ∈ l, x.i64 := by
  induction l with
  | nil => simp [i64s]
  | cons t r ih => simp [i64s, ih]
theorem Tr.i64_num {t : Tr} (h : t.i64) : I64 t.num := by cases t with | node l n its => exact h.1
theorem Tr.i64_items {t : Tr} (h : t.i64) : ∀ x ∈ t.items, x.i64 := by cases t with | node l n its => exact (i64s_iff its).1 h.2
mutual
theorem textV_le : ∀ t : Tr, t.i64 → (textV t).length + 1 ≤ 24 * t.size
  | .node l n its, h => by
    simp only [Tr.i64] at h
    simp only [textV, Tr.size]
    split
    · have := textVs_le its h.2
      simp only [List.length_cons, List.length_append, List.length_nil]
      omega
    · have := Lib.itoa_length_le n h.1.1 h.1.2
      omega
theorem textVs_le : ∀ l : List Tr, i64s l → (textVs l).length ≤ 24 * sizes l
  | [], _ => by simp [textVs]
  | t :: r, h => by
    simp only [i64s] at h
    have h1 := textV_le t h.1
    have h2 := textTail_le r h.2
    simp only [textVs, sizes, List.length_append]
    omega
theorem textTail_le : ∀ l : List Tr, i64s l → (textTail l).length ≤ 24 * sizes l
  | [], _ => by simp [textTail]
  | t :: r, h => by
    simp only [i64s] at h
    have h1 := textV_le t h.1
    have h2 := textTail_le r h.2
    simp only [textTail, sizes, List.length_cons, List.length_append]
    omega
end
theorem size_items (t : Tr) : t.size = 1 + sizes t.items := by cases t with | node l n its => rfl
theorem size_mem : ∀ (l : List Tr) (x : Tr), x ∈ l → x.size ≤ sizes l
  | [], x, h => by cases h
  | t :: r, x, h => by
    simp only [sizes]
    rcases List.mem_cons.1 h with rfl | h
    · omega
    · have := size_mem r x h; omega
theorem sizes_take : ∀ (l : List Tr) (k : Nat), sizes (l.take k) ≤ sizes l
  | [], k => by simp
  | t :: r, 0 => by simp [sizes]
  | t :: r, k + 1 => by
    have := sizes_take r k
    simp only [List.take_succ_cons, sizes]
    omega
theorem len_sizes : ∀ l : List Tr, l.length ≤ sizes l
  | [] => by simp
  | t :: r => by
    have := len_sizes r
    have h := size_items t
    simp only [sizes, List.length_cons]
    omega
theorem i64_of_wf {x : Int} (h : (Lit.int .i64 x).wf = true) : I64 x := by
  simp only [Lit.wf, IntKind.min, IntKind.max, IntKind.signed, IntKind.bits, Bool.and_eq_true] at h
  unfold I64
  simp at h
  omega
theorem TAt.i64 {w : World} {S : Nat → Prop} : ∀ {n : Nat} {v : Value} {t : Tr}, TAt w S n v t → t.i64
  | 0, _, _, h => h.elim
  | n + 1, v, t, h => by
    obtain ⟨hw, A, c, rfl, h⟩ := h
    have hi : i64s t.items := by
      rw [i64s_iff]
      intro x hx
      obtain ⟨j, hj, rfl⟩ := List.mem_iff_getElem.1 hx
      obtain ⟨b, off, _, _, hc⟩ := h (by omega)
      obtain ⟨x0, x1, x2, _, _, _, ht⟩ := hc j hj
      exact TAt.i64 ht
    cases t with | node l m its => exact ⟨i64_of_wf hw, hi⟩

/-! the same -/
mutual
def sameV : Tr → Tr → Bool
  | .node l n i, .node l' n' i' => l == l' && n == n' && sameVs i i'
def sameVs : List Tr → List Tr → Bool
  | [], [] => true
  | [], _ :: _ => false
  | _ :: _, [] => false
  | t :: r, t' :: r' => sameV t t' && sameVs r r'
end
mutual
theorem sameV_iff : ∀ t u : Tr, sameV t u = true ↔ t = u
  | .node l n i, .node l' n' i' => by
    simp only [sameV, Bool.and_eq_true, beq_iff_eq, sameVs_iff i i', Tr.node.injEq, and_assoc]
theorem sameVs_iff : ∀ l m : List Tr, sameVs l m = true ↔ l = m
  | [], [] => by simp [sameVs]
  | [], _ :: _ => by simp [sameVs]
  | _ :: _, [] => by simp [sameVs]
  | t :: r, t' :: r' => by simp only [sameVs, Bool.and_eq_true, sameV_iff t t', sameVs_iff r r', List.cons.injEq]
end
theorem sameV_at {l l' : Bool} {x x' : Int} {i i' : List Tr} (k : Nat) (h : k < i.length) (h' : k < i'.length) (hs : ¬ sameV (i[k]'h) (i'[k]'h') = true) : sameV (.node l x i) (.node l' x' i') = false := by
  rw [Bool.eq_false_iff]
  intro e
  have h2 := (sameV_iff _ _).1 e
  simp only [Tr.node.injEq] at h2
  obtain ⟨_, _, rfl⟩ := h2
  exact hs ((sameV_iff _ _).2 rfl)
end Go.Proofs.YtplladlodgfloaaDoor.Vals

/- A row of values that the call itself makes: append of one value. Conditions: the size. -/
namespace Go.Proofs.YtplladlodgfloaaDoor.Vals
open Go.RowKit Go.WideShapes Go.ChangeShapes
set_option linter.unusedVariables false

def blockOf (A : Option Addr) : Option Nat := A.map (·.block)
theorem blockOf_own (A : Option Addr) (n c : Nat) : (Value.slice A n c).ownBlock = blockOf A := by cases A <;> rfl
def three (x : Value × Value × Value) : List Value := [x.1, x.2.1, x.2.2]
/-- New memory of the call's own, the row's block aside. -/
def Mine (w : World) (base : Nat) (A : Option Addr) : Nat → Prop := fun b => base ≤ b ∧ b < w.heap.size ∧ blockOf A ≠ some b
/-- The row at A, of the call's own, holds the values acc, each of at most d levels. -/
def OwnT (w : World) (base : Nat) (A : Option Addr) (c : Nat) (acc : List Tr) (d : Nat) : Prop :=
  ∃ xs : List (Value × Value × Value), xs.length = acc.length ∧ w.ownsRow base 32 3 (.slice A acc.length c) acc.length (xs.flatMap three) ∧
    ∀ j (h : j < acc.length) (h' : j < xs.length), TAt w (Mine w base A) d (.agg #[(xs[j]'h').1, (xs[j]'h').2.1, (xs[j]'h').2.2]) (acc[j]'h)

theorem OwnT.none_ {w : World} {base d : Nat} : OwnT w base none 0 [] d := ⟨[], rfl, ⟨rfl, .inl ⟨rfl, rfl⟩⟩, fun j h => by simp at h⟩
theorem OwnT.ge {w : World} {base c d : Nat} {A : Option Addr} {acc : List Tr} (h : OwnT w base A c acc d) : ∀ g, blockOf A = some g → base ≤ g ∧ g < w.heap.size := by
  obtain ⟨xs, _, h, _⟩ := h
  intro g hg
  rcases h.2 with ⟨he, _⟩ | ⟨g', cap, cur, he, hb, hh, _⟩
  · injection he with he; subst he; cases hg
  · injection he with he; subst he
    have : g' = g := by simpa [blockOf] using hg
    subst this
    exact ⟨hb, (Array.getElem?_eq_some_iff.1 hh).1⟩
theorem OwnT.below {w w' : World} {base c d : Nat} {A : Option Addr} {acc : List Tr} (h : OwnT w base A c acc d) (hb : Below w.heap.size w w') : OwnT w' base A c acc d := by
  obtain ⟨xs, h1, h2, h3⟩ := h
  refine ⟨xs, h1, ⟨h2.1, ?_⟩, fun j hj hj' => (h3 j hj hj').keep fun b hm => ⟨⟨hm.1, Nat.lt_of_lt_of_le hm.2.1 hb.size, hm.2.2⟩, fun o => hb.cell (p := ⟨b, o, none⟩) hm.2.1⟩⟩
  rcases h2.2 with h0 | ⟨g, cap, cur, he, hbg, hh, r⟩
  · exact .inl h0
  · exact .inr ⟨g, cap, cur, he, hbg, (hb.block g (Array.getElem?_eq_some_iff.1 hh).1).trans hh, r⟩

theorem flat_len (xs : List (Value × Value × Value)) : (xs.flatMap three).length = xs.length * 3 := by
  induction xs with
  | nil => rfl
  | cons x r ih => simp only [List.flatMap_cons, List.length_append, ih, List.length_cons, three, List.length_nil]; omega
theorem flat_get : ∀ (xs : List (Value × Value × Value)) (j q : Nat) (h : j < xs.length), q < 3 → (xs.flatMap three)[j * 3 + q]? = (three (xs[j]'h))[q]?
  | [], j, q, h, _ => by simp at h
  | x :: r, 0, q, h, hq => by
    simp only [List.flatMap_cons, Nat.zero_mul, Nat.zero_add, List.getElem_cons_zero]
    rw [List.getElem?_append_left (by simp [three]; omega)]
  | x :: r, j + 1, q, h, hq => by
    have ih := flat_get r j q (by simpa using h) hq
    simp only [List.flatMap_cons, List.getElem_cons_succ]
    rw [List.getElem?_append_right (by simp [three]; omega), ← ih]
    congr 1
    simp [three]; omega
/-- what the row holds, as a value of one level more -/
theorem OwnT.at_ {w : World} {base c d : Nat} {A : Option Addr} {acc : List Tr} {l : Bool} {n : Int} (h : OwnT w base A c acc d) (hn : (Lit.int .i64 n).wf = true) :
    TAt w (fun b => base ≤ b ∧ b < w.heap.size) (d + 1) (.agg #[.bool l, .int .i64 n, .slice A acc.length c]) (.node l n acc) := by
  obtain ⟨xs, h1, h2, h3⟩ := h
  refine ⟨hn, A, c, rfl, fun hp => ?_⟩
  rcases h2.2 with ⟨he, h0⟩ | ⟨g, cap, cur, he, hbg, hh, _, _, _, ht⟩
  · simp only [Tr.items] at hp; omega
  · have hA : A = some ⟨g, 0, none⟩ := by injection he
    refine ⟨g, 0, hA, ⟨hbg, (Array.getElem?_eq_some_iff.1 hh).1⟩, fun j hj => ?_⟩
    have hj' : j < xs.length := by rw [h1]; exact hj
    have hcell : ∀ q, q < 3 → w.cell? ⟨g, 0 + j * 3 + q, none⟩ = (three (xs[j]'hj'))[q]? := by
      intro q hq
      rw [cell_of_row w g _ cur 32 (0, 0) hh]
      have e := flat_get xs j q hj' hq
      rw [← ht, List.getElem?_take] at e
      have hlt : j * 3 + q < acc.length * 3 := by
        have : j < acc.length := hj
        omega
      rw [if_pos hlt] at e
      rw [← e, Array.getElem?_toList]
      congr 1
      omega
    exact ⟨_, _, _, hcell 0 (by omega), hcell 1 (by omega), hcell 2 (by omega), (h3 j hj hj').keep fun b hm => ⟨⟨hm.1, hm.2.1⟩, fun _ => rfl⟩⟩

theorem val_info : (Tryd.prog.info? 32).map (fun i => (i.zero, i.size, i.bytes)) = some (some (.agg #[.bool false, .int .i64 0, .slice none 0 0]), 3, 40) := by kernel_rfl

set_option maxRecDepth 100000 in
theorem run_append_tree (w : World) (base c d : Nat) (A : Option Addr) (acc : List Tr) (hown : OwnT w base A c acc d) (b : Nat) (x0 x1 x2 : Value) (c2 : Nat) (t : Tr)
    (k0 : w.cell? ⟨b, 0, none⟩ = some x0) (k1 : w.cell? ⟨b, 1, none⟩ = some x1) (k2 : w.cell? ⟨b, 2, none⟩ = some x2) (one : x0.oneCell' = true ∧ x1.oneCell' = true ∧ x2.oneCell' = true)
    (ht : TAt w (Mine w base A) d (.agg #[x0, x1, x2]) t)
    (h63 : acc.length + 1 ≤ 1099511627776) (hbase : base ≤ w.heap.size) (ty : TypeId) :
    ∃ A' c' w', (Builtin.append_ #[30, 30] ty #[.slice A acc.length c, .slice (some ⟨b, 0, none⟩) 1 c2]).run Tryd.prog w = .ok (.slice A' (acc ++ [t]).length c') w' ∧ OwnT w' base A' c' (acc ++ [t]) d ∧ w.grownBy w' (blockOf A) := by
  obtain ⟨i0, hi, hz, hsz, hby⟩ := info_parts val_info
  obtain ⟨xs, h1, h2, h3⟩ := hown
  have hcells : ∀ j u, ([x0, x1, x2] : List Value)[j]? = some u → w.cell? ((⟨b, 0, none⟩ : Addr).add j) = some u := by
    intro j u hu
    rw [Go.WideShapes.add_plain, Nat.zero_add]
    match j, hu with
    | 0, hu => rw [k0]; simpa using hu
    | 1, hu => rw [k1]; simpa using hu
    | 2, hu => rw [k2]; simpa using hu
    | j + 3, hu => simp at hu
  obtain ⟨v', w', hrun, r2, r3, _, r5⟩ := run_append_own_at (P := Tryd.prog) w base 30 ty 32 i0 _ 3 40 Tryd.underlying30 hi hz hsz hby rfl (by decide) _ acc.length _ h2
    ⟨b, 0, none⟩ 1 c2 [x0, x1, x2] rfl hcells (by
      intro u hu
      simp only [List.mem_cons, List.not_mem_nil, or_false] at hu
      rcases hu with rfl | rfl | rfl
      · exact one.1
      · exact one.2.1
      · exact one.2.2) (by simp only [maxLen]; omega) (by omega) hbase
  have hv : ∃ A' c', v' = .slice A' (acc.length + 1) c' := by
    rcases r2.2 with ⟨he, hn⟩ | ⟨g, cap, cur, he, _⟩
    · omega
    · exact ⟨_, _, he⟩
  obtain ⟨A', c', rfl⟩ := hv
  rw [blockOf_own] at r3
  rw [blockOf_own, blockOf_own] at r5
  have e : (acc ++ [t]).length = acc.length + 1 := by simp
  have keep : ∀ b, Mine w base A b → Mine w' base A' b ∧ ∀ o, w'.cell? ⟨b, o, none⟩ = w.cell? ⟨b, o, none⟩ := by
    intro q hq
    refine ⟨⟨hq.1, Nat.lt_of_lt_of_le hq.2.1 r3.size, fun e => ?_⟩, fun o => World.cell?_of_block (r3.block q hq.2.1 (fun e => hq.2.2 e.symm))⟩
    rcases r5 with h | h
    · rw [h] at e; exact hq.2.2 e
    · rw [h] at e
      have := hq.2.1
      injection e with e
      omega
  refine ⟨A', c', w', by rw [e]; exact hrun, ⟨xs ++ [(x0, x1, x2)], by simp [h1], ?_, fun j hj hj' => ?_⟩, r3⟩
  · rw [e, List.flatMap_append]
    exact r2
  · by_cases hlt : j < acc.length
    · rw [List.getElem_append_left hlt]
      have hlt' : j < xs.length := by omega
      rw [List.getElem_append_left hlt']
      exact (h3 j hlt hlt').keep keep
    · obtain rfl : j = acc.length := by rw [e] at hj; omega
      rw [List.getElem_append_right (by omega), List.getElem_append_right (by omega)]
      simp only [h1, Nat.sub_self, List.getElem_cons_zero]
      exact ht.keep keep

theorem wpList_append_tree {ops : Array Oper} {rest : List Oper} {o : Oper} {a : Act} {w : World} {Q : Exit → Act → World → Prop} (hgd : o.guard = none) (s x : Operand)
    (ho : o.op = .call { callee := .builtin .append, args := #[s, x], argTypes := #[30, 30] })
    (base c d : Nat) (A : Option Addr) (acc : List Tr) (hown : OwnT w base A c acc d) (b : Nat) (x0 x1 x2 : Value) (c2 : Nat) (t : Tr)
    (k0 : w.cell? ⟨b, 0, none⟩ = some x0) (k1 : w.cell? ⟨b, 1, none⟩ = some x1) (k2 : w.cell? ⟨b, 2, none⟩ = some x2) (one : x0.oneCell' = true ∧ x1.oneCell' = true ∧ x2.oneCell' = true)
    (ht : TAt w (Mine w base A) d (.agg #[x0, x1, x2]) t)
    (hs : a.eval s = .slice A acc.length c) (hx : a.eval x = .slice (some ⟨b, 0, none⟩) 1 c2)
    (h63 : acc.length + 1 ≤ 1099511627776) (hbase : base ≤ w.heap.size)
    (h : ∀ A' c' w' (zl : List Tr), Hid (zl = acc ++ [t]) → OwnT w' base A' c' zl d → w.grownBy w' (blockOf A) → wpList Tryd.prog ops Q rest (a.put o.dst (.slice A' zl.length c')) w') : wpList Tryd.prog ops Q (o :: rest) a w := by
  obtain ⟨A', c', w', hrun, h2, h3⟩ := run_append_tree w base c d A acc hown b x0 x1 x2 c2 t k0 k1 k2 one ht h63 hbase o.type
  refine wpList_plain hgd fun K hK => ?_
  unfold Oper.wp execOp
  simp only [ho, resolve, invoke, builtin, Sem.run_bind, Sem.run_pure, Result.andThen_ok, List.map_toArray, List.map_cons, List.map_nil, hs, hx, hrun]
  exact hK _ _ (h A' c' w' _ rfl h2 h3)
end Go.Proofs.YtplladlodgfloaaDoor.Vals

/- A row of values that the call itself makes, apart from a source's blocks: append of one value. Conditions: the size. -/
namespace Go.Proofs.YtplladlodgfloaaDoor.Vals
open Go.RowKit Go.WideShapes Go.ChangeShapes
set_option linter.unusedVariables false

/-- New memory of the call's own, the row's block and the blocks of X aside. -/
def MineX (w : World) (base : Nat) (A : Option Addr) (X : Nat → Prop) : Nat → Prop := fun b => base ≤ b ∧ b < w.heap.size ∧ blockOf A ≠ some b ∧ ¬ X b
/-- The row at A, of the call's own, none of X, holds the values acc, each of at most d levels. -/
def OwnX (w : World) (base : Nat) (A : Option Addr) (c : Nat) (acc : List Tr) (d : Nat) (X : Nat → Prop) : Prop :=
  (∀ g, blockOf A = some g → ¬ X g) ∧ ∃ xs : List (Value × Value × Value), xs.length = acc.length ∧ w.ownsRow base 32 3 (.slice A acc.length c) acc.length (xs.flatMap three) ∧
    ∀ j (h : j < acc.length) (h' : j < xs.length), TAt w (MineX w base A X) d (.agg #[(xs[j]'h').1, (xs[j]'h').2.1, (xs[j]'h').2.2]) (acc[j]'h)
theorem OwnX.none_ {w : World} {base d : Nat} {X : Nat → Prop} : OwnX w base none 0 [] d X := ⟨(fun g h => by cases h), [], rfl, ⟨rfl, .inl ⟨rfl, rfl⟩⟩, fun j h => by simp at h⟩
theorem OwnX.t {w : World} {base c d : Nat} {A : Option Addr} {acc : List Tr} {X : Nat → Prop} (h : OwnX w base A c acc d X) : OwnT w base A c acc d := by
  obtain ⟨_, xs, h1, h2, h3⟩ := h
  exact ⟨xs, h1, h2, fun j hj hj' => (h3 j hj hj').keep fun b hm => ⟨⟨hm.1, hm.2.1, hm.2.2.1⟩, fun _ => rfl⟩⟩
/-- what was there, X aside, is as it was; and what is new is none of X' but by being new -/
structure Mv (X : Nat → Prop) (w w' : World) (X' : Nat → Prop) : Prop where
  os : w'.os = w.os
  tape : w'.tape = w.tape
  output : w'.output = w.output
  size : w.heap.size ≤ w'.heap.size
  block : ∀ b, b < w.heap.size → ¬ X b → w'.heap[b]? = w.heap[b]?
  new : ∀ b, X' b → X b ∨ w.heap.size ≤ b
theorem OwnX.mv {w w' : World} {base c d : Nat} {A : Option Addr} {acc : List Tr} {X X' : Nat → Prop} (h : OwnX w base A c acc d X) (hm : Mv X w w' X') : OwnX w' base A c acc d X' := by
  have hg := h.t.ge
  obtain ⟨hn, xs, h1, h2, h3⟩ := h
  refine ⟨fun g e hx => ?_, xs, h1, ⟨h2.1, ?_⟩, fun j hj hj' => (h3 j hj hj').keep fun b hb => ⟨⟨hb.1, Nat.lt_of_lt_of_le hb.2.1 hm.size, hb.2.2.1, fun hx => ?_⟩, fun o => World.cell?_of_block (hm.block b hb.2.1 hb.2.2.2)⟩⟩
  · rcases hm.new g hx with h | h
    · exact hn g e h
    · have := (hg g e).2; omega
  · rcases h2.2 with h0 | ⟨g, cap, cur, he, hbg, hh, r⟩
    · exact .inl h0
    · refine .inr ⟨g, cap, cur, he, hbg, (hm.block g (Array.getElem?_eq_some_iff.1 hh).1 (hn g ?_)).trans hh, r⟩
      injection he with he; subst he; rfl
  · rcases hm.new b hx with h | h
    · exact hb.2.2.2 h
    · have := hb.2.1; omega
set_option maxRecDepth 100000 in
theorem run_append_x (w : World) (base c d : Nat) (A : Option Addr) (acc : List Tr) (X : Nat → Prop) (hX : ∀ b, X b → b < w.heap.size) (hown : OwnX w base A c acc d X) (b : Nat) (x0 x1 x2 : Value) (c2 : Nat) (t : Tr)
    (k0 : w.cell? ⟨b, 0, none⟩ = some x0) (k1 : w.cell? ⟨b, 1, none⟩ = some x1) (k2 : w.cell? ⟨b, 2, none⟩ = some x2) (one : x0.oneCell' = true ∧ x1.oneCell' = true ∧ x2.oneCell' = true)
    (ht : TAt w (MineX w base A X) d (.agg #[x0, x1, x2]) t)
    (h63 : acc.length + 1 ≤ 1099511627776) (hbase : base ≤ w.heap.size) (ty : TypeId) :
    ∃ A' c' w', (Builtin.append_ #[30, 30] ty #[.slice A acc.length c, .slice (some ⟨b, 0, none⟩) 1 c2]).run Tryd.prog w = .ok (.slice A' (acc ++ [t]).length c') w' ∧ OwnX w' base A' c' (acc ++ [t]) d X ∧ w.grownBy w' (blockOf A) := by
  obtain ⟨i0, hi, hz, hsz, hby⟩ := info_parts val_info
  obtain ⟨hnx, xs, h1, h2, h3⟩ := hown
  have hcells : ∀ j u, ([x0, x1, x2] : List Value)[j]? = some u → w.cell? ((⟨b, 0, none⟩ : Addr).add j) = some u := by
    intro j u hu
    rw [Go.WideShapes.add_plain, Nat.zero_add]
    match j, hu with
    | 0, hu => rw [k0]; simpa using hu
    | 1, hu => rw [k1]; simpa using hu
    | 2, hu => rw [k2]; simpa using hu
    | j + 3, hu => simp at hu
  obtain ⟨v', w', hrun, r2, r3, _, r5⟩ := run_append_own_at (P := Tryd.prog) w base 30 ty 32 i0 _ 3 40 Tryd.underlying30 hi hz hsz hby rfl (by decide) _ acc.length _ h2
    ⟨b, 0, none⟩ 1 c2 [x0, x1, x2] rfl hcells (by
      intro u hu
      simp only [List.mem_cons, List.not_mem_nil, or_false] at hu
      rcases hu with rfl | rfl | rfl
      · exact one.1
      · exact one.2.1
      · exact one.2.2) (by simp only [maxLen]; omega) (by omega) hbase
  have hv : ∃ A' c', v' = .slice A' (acc.length + 1) c' := by
    rcases r2.2 with ⟨he, hn⟩ | ⟨g, cap, cur, he, _⟩
    · omega
    · exact ⟨_, _, he⟩
  obtain ⟨A', c', rfl⟩ := hv
  rw [blockOf_own] at r3
  rw [blockOf_own, blockOf_own] at r5
  have e : (acc ++ [t]).length = acc.length + 1 := by simp
  have keep : ∀ b, MineX w base A X b → MineX w' base A' X b ∧ ∀ o, w'.cell? ⟨b, o, none⟩ = w.cell? ⟨b, o, none⟩ := by
    intro q hq
    refine ⟨⟨hq.1, Nat.lt_of_lt_of_le hq.2.1 r3.size, fun e => ?_, hq.2.2.2⟩, fun o => World.cell?_of_block (r3.block q hq.2.1 (fun e => hq.2.2.1 e.symm))⟩
    rcases r5 with h | h
    · rw [h] at e; exact hq.2.2.1 e
    · rw [h] at e
      have := hq.2.1
      injection e with e
      omega
  have hnx' : ∀ g, blockOf A' = some g → ¬ X g := by
    intro g hg hx
    rcases r5 with h | h
    · rw [h] at hg; exact hnx g hg hx
    · rw [h] at hg
      injection hg with hg
      have := hX g hx
      omega
  refine ⟨A', c', w', by rw [e]; exact hrun, ⟨hnx', xs ++ [(x0, x1, x2)], by simp [h1], ?_, fun j hj hj' => ?_⟩, r3⟩
  · rw [e, List.flatMap_append]
    exact r2
  · by_cases hlt : j < acc.length
    · rw [List.getElem_append_left hlt]
      have hlt' : j < xs.length := by omega
      rw [List.getElem_append_left hlt']
      exact (h3 j hlt hlt').keep keep
    · obtain rfl : j = acc.length := by rw [e] at hj; omega
      rw [List.getElem_append_right (by omega), List.getElem_append_right (by omega)]
      simp only [h1, Nat.sub_self, List.getElem_cons_zero]
      exact ht.keep keep

theorem wpList_append_x {ops : Array Oper} {rest : List Oper} {o : Oper} {a : Act} {w : World} {Q : Exit → Act → World → Prop} (hgd : o.guard = none) (s x : Operand)
    (ho : o.op = .call { callee := .builtin .append, args := #[s, x], argTypes := #[30, 30] })
    (base c d : Nat) (A : Option Addr) (acc : List Tr) (X : Nat → Prop) (hX : ∀ b, X b → b < w.heap.size) (hown : OwnX w base A c acc d X) (b : Nat) (x0 x1 x2 : Value) (c2 : Nat) (t : Tr)
    (k0 : w.cell? ⟨b, 0, none⟩ = some x0) (k1 : w.cell? ⟨b, 1, none⟩ = some x1) (k2 : w.cell? ⟨b, 2, none⟩ = some x2) (one : x0.oneCell' = true ∧ x1.oneCell' = true ∧ x2.oneCell' = true)
    (ht : TAt w (MineX w base A X) d (.agg #[x0, x1, x2]) t)
    (hs : a.eval s = .slice A acc.length c) (hx : a.eval x = .slice (some ⟨b, 0, none⟩) 1 c2)
    (h63 : acc.length + 1 ≤ 1099511627776) (hbase : base ≤ w.heap.size)
    (h : ∀ A' c' w' (zl : List Tr), Hid (zl = acc ++ [t]) → OwnX w' base A' c' zl d X → w.grownBy w' (blockOf A) → wpList Tryd.prog ops Q rest (a.put o.dst (.slice A' zl.length c')) w') : wpList Tryd.prog ops Q (o :: rest) a w := by
  obtain ⟨A', c', w', hrun, h2, h3⟩ := run_append_x w base c d A acc X hX hown b x0 x1 x2 c2 t k0 k1 k2 one ht h63 hbase o.type
  refine wpList_plain hgd fun K hK => ?_
  unfold Oper.wp execOp
  simp only [ho, resolve, invoke, builtin, Sem.run_bind, Sem.run_pure, Result.andThen_ok, List.map_toArray, List.map_cons, List.map_nil, hs, hx, hrun]
  exact hK _ _ (h A' c' w' _ rfl h2 h3)
end Go.Proofs.YtplladlodgfloaaDoor.Vals
