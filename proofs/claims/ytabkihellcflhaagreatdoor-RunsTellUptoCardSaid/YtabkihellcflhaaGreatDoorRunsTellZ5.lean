/- RunsTell, part 5 of the proof: Values (a bool, a number, items) as trees: how they lie in memory, and what an argument reads as. · Plain laws on texts of tapes: cut at points, read number by number. No program. · Plain laws on digits: how a number's text is made of its tenth's; no program. -/
import Derived.Test.YtabkihellcflhaaGreatDoorRunsTellZ1
import Derived.Deep.Slices
import Derived.Deep.Fields
import Derived.Lib.SmallJoins
import Derived.Test.YtabkihellcflhaaGreatDoorRunsTellZ2
import Derived.Lib.AtoiAll
import Derived.Lib.IndexMore
/- Values (a bool, a number, items) as trees: how they lie in memory, and what an argument reads as. -/
namespace Go.Proofs.YtabkihellcflhaaGreatDoor.Vals
open Go.RowKit Go.WideShapes Go.ChangeShapes Go.Deep Go.Joins
set_option linter.unusedVariables false

inductive Tr where
  | node (list : Bool) (num : Int) (items : List Tr)
instance instTr : Inhabited Tr := ⟨.node false 0 []⟩
def Tr.list : Tr → Bool | .node l _ _ => l
def Tr.num : Tr → Int | .node _ n _ => n
def Tr.items : Tr → List Tr | .node _ _ i => i
mutual
def Tr.size : Tr → Nat
  | .node _ _ i => 1 + sizes i
def sizes : List Tr → Nat
  | [] => 0
  | t :: r => t.size + sizes r
end

/-- In world w, in blocks of S, the value v is the tree t of at most so many levels. -/
def TAt (w : World) (S : Nat → Prop) : Nat → Value → Tr → Prop
  | 0, _, _ => False
  | n + 1, v, t => (Lit.int .i64 t.num).wf = true ∧ ∃ A c, v = .agg #[.bool t.list, .int .i64 t.num, .slice A t.items.length c] ∧
      (0 < t.items.length → ∃ b off, A = some ⟨b, off, none⟩ ∧ S b ∧ ∀ j (h : j < t.items.length), ∃ x0 x1 x2, w.cell? ⟨b, off + j * 3, none⟩ = some x0 ∧ w.cell? ⟨b, off + j * 3 + 1, none⟩ = some x1 ∧ w.cell? ⟨b, off + j * 3 + 2, none⟩ = some x2 ∧ TAt w S n (.agg #[x0, x1, x2]) (t.items[j]'h))

theorem TAt.keep {w w' : World} {S S' : Nat → Prop} (hk : ∀ b, S b → S' b ∧ ∀ o, w'.cell? ⟨b, o, none⟩ = w.cell? ⟨b, o, none⟩) : ∀ {n : Nat} {v : Value} {t : Tr}, TAt w S n v t → TAt w' S' n v t
  | 0, _, _, h => h
  | n + 1, v, t, h => by
    obtain ⟨hw, A, c, rfl, h⟩ := h
    refine ⟨hw, A, c, rfl, fun hp => ?_⟩
    obtain ⟨b, off, e, hb, hc⟩ := h hp
    obtain ⟨hb', hk'⟩ := hk b hb
    refine ⟨b, off, e, hb', fun j hj => ?_⟩
    obtain ⟨x0, x1, x2, c0, c1, c2, ht⟩ := hc j hj
    exact ⟨x0, x1, x2, (hk' _).trans c0, (hk' _).trans c1, (hk' _).trans c2, TAt.keep hk ht⟩
def Bel (B : Nat) : Nat → Prop := fun b => b < B
theorem TAt.below {w w' : World} {B n : Nat} {v : Value} {t : Tr} (h : TAt w (Bel B) n v t) (hb : Below B w w') : TAt w' (Bel B) n v t :=
  h.keep fun b hB => ⟨hB, fun o => hb.cell (p := ⟨b, o, none⟩) hB⟩
theorem TAt.more {w : World} {B B' n : Nat} {v : Value} {t : Tr} (h : TAt w (Bel B) n v t) (hB : B ≤ B') : TAt w (Bel B') n v t :=
  h.keep fun b hb => ⟨Nat.lt_of_lt_of_le hb hB, fun _ => rfl⟩
theorem TAt.drew {w : World} {S : Nat → Prop} {n : Nat} {v : Value} {t : Tr} (h : TAt w S n v t) : TAt w.drew S n v t := h.keep (w := w) (w' := w.drew) fun b hb => ⟨hb, fun _ => rfl⟩
theorem TAt.drewN {w : World} {S : Nat → Prop} {n : Nat} {v : Value} {t : Tr} (h : TAt w S n v t) (k : Nat) : TAt (w.drewN k) S n v t := h.keep (w := w) (w' := w.drewN k) fun b hb => ⟨hb, fun _ => rfl⟩
theorem TAt.up {w : World} {S : Nat → Prop} : ∀ {n m : Nat} {v : Value} {t : Tr}, n ≤ m → TAt w S n v t → TAt w S m v t
  | 0, _, _, _, _, h => h.elim
  | n + 1, 0, _, _, hm, _ => by omega
  | n + 1, m + 1, v, t, hm, h => by
    obtain ⟨hw, A, c, rfl, h⟩ := h
    refine ⟨hw, A, c, rfl, fun hp => ?_⟩
    obtain ⟨b, off, e, hb, hc⟩ := h hp
    refine ⟨b, off, e, hb, fun j hj => ?_⟩
    obtain ⟨x0, x1, x2, c0, c1, c2, ht⟩ := hc j hj
    exact ⟨x0, x1, x2, c0, c1, c2, TAt.up (by omega) ht⟩
/-- opened -/
theorem TAt.open_ {w : World} {S : Nat → Prop} {n : Nat} {v : Value} {t : Tr} (h : TAt w S n v t) : ∃ m A c, n = m + 1 ∧ (Lit.int .i64 t.num).wf = true ∧ v = .agg #[.bool t.list, .int .i64 t.num, .slice A t.items.length c] ∧
    (0 < t.items.length → ∃ b off, A = some ⟨b, off, none⟩ ∧ S b ∧ ∀ j (h : j < t.items.length), ∃ x0 x1 x2, w.cell? ⟨b, off + j * 3, none⟩ = some x0 ∧ w.cell? ⟨b, off + j * 3 + 1, none⟩ = some x1 ∧ w.cell? ⟨b, off + j * 3 + 2, none⟩ = some x2 ∧ TAt w S m (.agg #[x0, x1, x2]) (t.items[j]'h)) := by
  cases n with
  | zero => exact h.elim
  | succ n =>
    obtain ⟨hw, A, c, rfl, h⟩ := h
    exact ⟨n, A, c, rfl, hw, rfl, h⟩

theorem sizes_bulk {H : Type} (f : Nat → Tr) (elems : List (DataW H)) : ∀ (k : Nat), (∀ i (h : i < elems.length), (f (k + i)).size ≤ Rows.uptoBulk (elems[i]'h)) → sizes ((List.range' k elems.length).map f) ≤ Rows.uptoBulkAll elems := by
  induction elems with
  | nil => intro k _; simp [sizes, Rows.uptoBulkAll]
  | cons d r ih =>
    intro k h
    simp only [List.length_cons, List.range'_succ, List.map_cons, sizes, Rows.uptoBulkAll]
    have h0 := h 0 (by simp)
    have h1 := ih (k + 1) (fun i hi => by
      have := h (i + 1) (by simpa using hi)
      simpa [Nat.add_assoc, Nat.add_comm 1 i] using this)
    simp at h0
    omega

set_option maxRecDepth 100000 in
theorem cells3 : Tryz.prog.cellsOf 47 = 3 := by kernel_rfl
set_option maxRecDepth 100000 in
theorem hone : oneCellFields Tryz.prog #[{ name := "List", type := 4, offset := 0, embedded := false, tag := "", pkgPath := "", byteOffset := 0 }, { name := "Num", type := 3, offset := 1, embedded := false, tag := "", pkgPath := "", byteOffset := 8 }, { name := "Items", type := 45, offset := 2, embedded := false, tag := "", pkgPath := "", byteOffset := 16 }] = true := by kernel_rfl

set_option maxRecDepth 100000 in
theorem read_tree {H : Type} {enc : TypeId × Value → H} {w : World} {base : Nat} {spare : Nat → Bool} {held : Bool} : ∀ (fuel : Nat) (cs : List Value) (x : DataW H × List MemPlace),
    DataW.trod enc Tryz.prog w base spare held fuel 47 cs = some x → ∃ t : Tr, TAt w (Bel w.heap.size) fuel (.agg cs.toArray) t ∧ t.size ≤ Rows.uptoBulk x.1 := by
  intro fuel
  induction fuel using Nat.strongRecOn with
  | ind fuel ih =>
    intro cs x h
    obtain ⟨xs, n, rfl, rfl, hlen, hxl, hf⟩ := DataW.trod_struct Tryz.underlying47 h
    rw [cells3] at hlen
    match cs, hlen with
    | [c0, c1, c2], _ =>
      obtain ⟨o0, k0⟩ := hone_of hone 0 _ rfl
      obtain ⟨o1, k1⟩ := hone_of hone 1 _ rfl
      obtain ⟨o2, k2⟩ := hone_of hone 2 _ rfl
      match xs, hxl with
      | [y0, y1, y2], _ =>
        have f0 := hf 0 _ rfl
        have f1 := hf 1 _ rfl
        have f2 := hf 2 _ rfl
        rw [o0, k0] at f0
        rw [o1, k1] at f1
        rw [o2, k2] at f2
        obtain ⟨l, e0, rfl⟩ := DataW.trod_bool Tryz.underlying4 f0
        obtain ⟨m, e1, rfl, hm⟩ := DataW.trod_int Tryz.underlying3 f1
        simp only [List.drop_zero, List.take_succ_cons, List.take_zero, List.cons.injEq, and_true, List.drop_succ_cons] at e0 e1
        subst e0 e1
        rcases DataW.trod_slice Tryz.underlying45 f2 with ⟨e2, rfl⟩ | ⟨a, len, cap, elems, rest, n', rfl, e2, rfl, _, _, _, hel, hat, _, _⟩
        · simp only [List.take_succ_cons, List.take_zero, List.cons.injEq, and_true, List.drop_succ_cons, List.drop_zero] at e2
          subst e2
          exact ⟨.node l m [], ⟨hm, none, 0, rfl, fun hp => by simp [Tr.items] at hp⟩, by simp [Tr.size, sizes, Rows.uptoBulk, Rows.uptoBulkAll]⟩
        · simp only [List.take_succ_cons, List.take_zero, List.cons.injEq, and_true, List.drop_succ_cons, List.drop_zero] at e2
          subst e2
          have each : ∀ i, i < len → ∃ t : Tr, ∃ cs' : List Value, w.cells? base (a.add (i * 3)) 3 = some cs' ∧ TAt w (Bel w.heap.size) n' (.agg cs'.toArray) t ∧ ∀ (hi : i < elems.length), t.size ≤ Rows.uptoBulk (elems[i]'hi).1 := by
            intro i hi
            have h1 := hat i hi
            rw [cells3] at h1
            have hi' : i < elems.length := by omega
            rw [List.getElem?_eq_getElem hi'] at h1
            obtain ⟨cs', hc, ht⟩ := Option.bind_eq_some_iff.1 h1
            obtain ⟨t, h2, h3⟩ := ih n' (by omega) cs' _ ht
            exact ⟨t, cs', hc, h2, fun _ => h3⟩
          obtain ⟨f, hfx⟩ := choose_lt each
          refine ⟨.node l m ((List.range' 0 len).map f), ⟨hm, some a, cap, ?_, fun hp => ?_⟩, ?_⟩
          · simp [Tr.items, Tr.list, Tr.num]
          · have hp' : 0 < len := by simpa [Tr.items] using hp
            obtain ⟨cs0, hc0, _⟩ := hfx 0 hp'
            obtain ⟨b, off, spot⟩ := a
            have hcell : ∀ i, i < len → ∀ q, q < 3 → ∃ u, w.cell? ((⟨b, off, spot⟩ : Addr).add (i * 3) |>.add q) = some u := by
              intro i hi q hq
              obtain ⟨cs', hc, _⟩ := hfx i hi
              obtain ⟨_, hl', hu⟩ := World.cells?_some hc
              exact ⟨_, (hu q hq).trans (List.getElem?_eq_getElem (by omega))⟩
            have hspot : spot = none := by
              obtain ⟨u, hu⟩ := hcell 0 hp' 0 (by omega)
              simpa [Addr.add] using World.cell?_spot hu
            subst hspot
            refine ⟨b, off, rfl, ?_, fun j hj => ?_⟩
            · obtain ⟨u, hu⟩ := hcell 0 hp' 0 (by omega)
              exact World.block_lt_of_cell? _ _ (by simpa [Addr.add] using hu)
            · have hj' : j < len := by simpa [Tr.items] using hj
              obtain ⟨cs', hc, ht, _⟩ := hfx j hj'
              obtain ⟨_, hl', hu⟩ := World.cells?_some hc
              match cs', hl' with
              | [x0, x1, x2], _ =>
                have u0 := hu 0 (by omega)
                have u1 := hu 1 (by omega)
                have u2 := hu 2 (by omega)
                rw [add_plain, add_plain] at u0 u1 u2
                refine ⟨x0, x1, x2, by simpa using u0, by simpa using u1, by simpa using u2, ?_⟩
                have e : (Tr.node l m ((List.range' 0 len).map f)).items[j]'hj = f j := by simp [Tr.items]
                rw [e]
                exact TAt.up (by omega) ht
          · simp only [Tr.size, List.map_cons, List.map_nil, Rows.uptoBulk, Rows.uptoBulkAll]
            have := sizes_bulk f (elems.map (·.1)) 0 (fun i hi => by
              have hi' : i < elems.length := by simpa using hi
              obtain ⟨_, _, _, hs⟩ := hfx i (by omega)
              have := hs hi'
              simpa using this)
            rw [List.length_map, hel] at this
            omega

set_option maxRecDepth 100000 in
theorem open_value {H : Type} {enc : TypeId × Value → H} {w : World} {base : Nat} {r : Reach} {b0 : Nat} {spare : Nat → Bool} {held : Bool} {v : Value} {d : DataW H} {ps : List MemPlace}
    (hval : Value.okWide Tryz.prog w r b0 47 v) (hd : DataW.Trod enc Tryz.prog w base spare held 47 v d ps) :
    ∃ (t : Tr) (n : Nat), TAt w (Bel w.heap.size) n v t ∧ t.size ≤ Rows.uptoBulk d := by
  obtain ⟨cs, rfl, _⟩ := okWide_struct Tryz.underlying47 hval
  obtain ⟨fuel, hf⟩ := hd
  obtain ⟨t, h1, h2⟩ := read_tree fuel _ _ hf
  exact ⟨t, fuel, by simpa [Value.cells] using h1, h2⟩
end Go.Proofs.YtabkihellcflhaaGreatDoor.Vals

/- Plain laws on texts of tapes: cut at points, read number by number. No program. -/
namespace Go.Proofs.YtabkihellcflhaaGreatDoor.Lists
open Go.Lib (itoa decDigits nDigits atoiAll parseUint10 NumEnd)

/-- up to the first point; behind it; is there one? -/
def cutL : List UInt8 → List UInt8 × List UInt8 × Bool
  | [] => ([], [], false)
  | c :: r => if c = 46 then ([], r, true) else (c :: (cutL r).1, (cutL r).2.1, (cutL r).2.2)
def splitL : List UInt8 → List (List UInt8)
  | [] => [[]]
  | c :: r => if c = 46 then [] :: splitL r else match splitL r with
    | [] => [[c]]
    | p :: ps => (c :: p) :: ps

theorem splitL_cut : ∀ l, splitL l = (cutL l).1 :: (if (cutL l).2.2 = true then splitL (cutL l).2.1 else [])
  | [] => by simp [splitL, cutL]
  | c :: r => by
    by_cases h : c = 46
    · simp [splitL, cutL, h]
    · simp only [splitL, cutL, if_neg h]
      rw [splitL_cut r]
theorem cutL_len : ∀ l, (cutL l).1.length ≤ l.length ∧ (cutL l).2.1.length ≤ l.length ∧ ((cutL l).2.2 = true → (cutL l).2.1.length + 1 ≤ l.length) ∧ ((cutL l).2.2 = false → (cutL l).2.1 = [])
  | [] => by simp [cutL]
  | c :: r => by
    by_cases h : c = 46
    · simp [cutL, h]
    · have ih := cutL_len r
      simp only [cutL, if_neg h, List.length_cons]
      exact ⟨by omega, by omega, fun g => by have := ih.2.2.1 g; omega, ih.2.2.2⟩
theorem cut_eq : ∀ l, Lib.cut l [46] = cutL l
  | [] => by simp [Lib.cut, Lib.index, cutL]
  | c :: r => by
    have ih := cut_eq r
    by_cases h : c = 46
    · subst h
      simp [Lib.cut, Lib.index, cutL]
    · have hp : ([46] : List UInt8).isPrefixOf (c :: r) = false := by
        simp only [List.isPrefixOf_cons_cons, List.isPrefixOf_nil_left, Bool.and_true, beq_eq_false_iff_ne]
        exact fun e => h e.symm
      have hi : Lib.index (c :: r) [46] = if Lib.index r [46] == -1 then -1 else Lib.index r [46] + 1 := by
        rw [Lib.index, hp]; rfl
      have hge := Lib.index_ge r [46]
      simp only [cutL, if_neg h]
      rw [← ih]
      unfold Lib.cut
      rw [hi]
      by_cases h0 : Lib.index r [46] = -1
      · simp [h0]
      · have hb : (Lib.index r [46] == -1) = false := by rw [beq_eq_false_iff_ne]; exact h0
        have g0 : 0 ≤ Lib.index r [46] := by omega
        rw [hb]
        simp only [Bool.false_eq_true, if_false]
        rw [if_pos (by omega), if_pos g0]
        have e1 : (Lib.index r [46] + 1).toNat = (Lib.index r [46]).toNat + 1 := by omega
        rw [e1]
        simp only [List.take_succ_cons, List.length_cons, List.length_nil, Nat.zero_add, List.drop_succ_cons]

/-- the number of a part: one of a tape's -/
def numOf (p : List UInt8) : Option Int := match atoiAll p with
  | .ok v => if 0 ≤ v ∧ v ≤ 1000 then some v else none
  | _ => none
def numsOf : List (List UInt8) → Option (List Int)
  | [] => some []
  | p :: ps => match numOf p with
    | none => none
    | some v => (numsOf ps).map (v :: ·)
def numL (l : List UInt8) : Option (List Int) := if l = [] then some [] else numsOf (splitL l)
def parseL (l : List UInt8) : Option (List Int) := match numL l with
  | none => none
  | some t => if textL t = l then some t else none
def Valid (l : List Int) : Prop := ∀ n ∈ l, 0 ≤ n ∧ n ≤ 1000

def validB (l : List Int) : Bool := l.all fun n => decide (0 ≤ n ∧ n ≤ 1000)
theorem validB_iff (l : List Int) : validB l = true ↔ Valid l := by
  unfold validB Valid
  rw [List.all_eq_true]
  exact ⟨fun h n hn => of_decide_eq_true (h n hn), fun h n hn => decide_eq_true (h n hn)⟩
theorem validB_no (l : List Int) : validB l = false ↔ ¬ Valid l := by
  rw [← validB_iff]; simp
theorem numOf_range {p : List UInt8} {v : Int} (h : numOf p = some v) : 0 ≤ v ∧ v ≤ 1000 := by
  unfold numOf at h
  split at h
  · split at h
    · rename_i g; injection h with h; subst h; exact g
    · cases h
  · cases h
theorem numsOf_valid : ∀ (ps : List (List UInt8)) (l : List Int), numsOf ps = some l → Valid l
  | [], l, h => by simp only [numsOf] at h; injection h with h; subst h; intro n hn; cases hn
  | p :: ps, l, h => by
    simp only [numsOf] at h
    split at h
    · cases h
    · rename_i v hv
      rcases hq : numsOf ps with _ | q
      · rw [hq] at h; cases h
      · rw [hq] at h
        simp only [Option.map_some] at h
        injection h with h
        subst h
        intro n hn
        rcases List.mem_cons.1 hn with rfl | hn
        · exact numOf_range hv
        · exact numsOf_valid ps q hq n hn
theorem numL_valid {s : List UInt8} {l : List Int} (h : numL s = some l) : Valid l := by
  unfold numL at h
  split at h
  · injection h with h; subst h; intro n hn; cases hn
  · exact numsOf_valid _ _ h
theorem parseL_sound {s : List UInt8} {l : List Int} (h : parseL s = some l) : textL l = s ∧ Valid l := by
  unfold parseL at h
  split at h
  · cases h
  · rename_i t ht
    split at h
    · rename_i g
      injection h with h
      subst h
      exact ⟨g, numL_valid ht⟩
    · cases h

/-! a number's digits, read again -/
theorem dig_toNat (d : Nat) (h : d < 10) : (UInt8.ofNat (48 + d)).toNat = 48 + d := by
  rw [UInt8.toNat_ofNat']; omega
theorem parse_dec : ∀ (u acc : Nat) (r : List UInt8), acc * 10 ^ nDigits u + u < 9223372036854775808 → parseUint10 acc (decDigits u ++ r) = parseUint10 (acc * 10 ^ nDigits u + u) r := by
  intro u
  induction u using Nat.strongRecOn with
  | ind u ih =>
    intro acc r h
    by_cases h10 : u < 10
    · rw [Lib.nDigits_small h10] at h ⊢
      rw [Lib.decDigits_one h10]
      simp only [List.cons_append, List.nil_append, parseUint10]
      rw [dig_toNat u h10]
      rw [if_pos ⟨by omega, by omega⟩, if_neg (by omega), if_neg (by omega)]
      have e : acc * 10 + (48 + u - 48) = acc * 10 ^ 1 + u := by omega
      rw [e]
    · rw [Lib.nDigits_big h10] at h ⊢
      have e0 : decDigits u = decDigits (u / 10) ++ [UInt8.ofNat (48 + u % 10)] := by
        rw [decDigits, dif_neg h10]
      have e1 : acc * 10 ^ (nDigits (u / 10) + 1) + u = (acc * 10 ^ nDigits (u / 10) + u / 10) * 10 + u % 10 := by
        rw [Nat.pow_succ, ← Nat.mul_assoc]; omega
      rw [e1] at h ⊢
      rw [e0, List.append_assoc, ih (u / 10) (by omega) acc _ (by omega)]
      simp only [List.cons_append, List.nil_append, parseUint10]
      rw [dig_toNat (u % 10) (by omega)]
      rw [if_pos ⟨by omega, by omega⟩, if_neg (by omega), if_neg (by omega)]
      have e2 : (acc * 10 ^ nDigits (u / 10) + u / 10) * 10 + (48 + u % 10 - 48) = (acc * 10 ^ nDigits (u / 10) + u / 10) * 10 + u % 10 := by omega
      rw [e2]
theorem dec_digit : ∀ (u : Nat), ∀ c ∈ decDigits u, 48 ≤ c.toNat ∧ c.toNat ≤ 57 := by
  intro u
  induction u using Nat.strongRecOn with
  | ind u ih =>
    intro c hc
    by_cases h10 : u < 10
    · rw [Lib.decDigits_one h10] at hc
      have : c = UInt8.ofNat (48 + u) := by simpa using hc
      subst this
      rw [dig_toNat u h10]; omega
    · rw [decDigits, dif_neg h10] at hc
      rcases List.mem_append.1 hc with h | h
      · exact ih (u / 10) (by omega) c h
      · have : c = UInt8.ofNat (48 + u % 10) := by simpa using h
        subst this
        rw [dig_toNat (u % 10) (by omega)]; omega
theorem dec_ne (u : Nat) : decDigits u ≠ [] := by
  intro e
  have := decDigits_pos u
  rw [e] at this
  simp at this
theorem atoi_dec (u : Nat) (h : u < 9223372036854775808) : atoiAll (decDigits u) = .ok (u : Int) := by
  have hd := dec_digit u
  have hp := parse_dec u 0 [] (by omega)
  rw [List.append_nil] at hp
  rcases hl : decDigits u with _ | ⟨c, r⟩
  · exact absurd hl (dec_ne u)
  · rw [hl] at hd hp
    have hc := hd c (by simp)
    have n43 : ¬ c.toNat = 43 := by omega
    have n45 : ¬ c.toNat = 45 := by omega
    have hm : Lib.parseMag (c :: r) = .ok u := by
      unfold Lib.parseMag
      rw [if_neg (by simp), hp]
      simp only [parseUint10]
      congr 1
      omega
    have hb : ¬ 9223372036854775808 ≤ u := by omega
    unfold atoiAll
    simp only [n43, n45, or_self, if_false, hm, hb, not_false_eq_true, and_false, false_and]
theorem itoa_nat (n : Int) (h : 0 ≤ n) : itoa n = decDigits n.toNat := by unfold itoa; rw [if_neg (by omega)]
theorem numOf_itoa (n : Int) (h : 0 ≤ n ∧ n ≤ 1000) : numOf (itoa n) = some n := by
  unfold numOf
  rw [itoa_nat n h.1, atoi_dec n.toNat (by omega)]
  simp only
  rw [if_pos ⟨by omega, by omega⟩]
  congr 1
  omega
theorem itoa_nodot (n : Int) : ∀ c ∈ itoa n, c ≠ 46 := by
  intro c hc e
  subst e
  unfold itoa at hc
  split at hc
  · rcases List.mem_cons.1 hc with h | h
    · exact absurd h (by decide)
    · have := dec_digit _ _ h; simp at this
  · have := dec_digit _ _ hc; simp at this
theorem cutL_nodot : ∀ (a r : List UInt8), (∀ c ∈ a, c ≠ 46) → cutL (a ++ 46 :: r) = (a, r, true)
  | [], r, _ => by simp [cutL]
  | c :: a, r, h => by
    simp only [List.cons_append, cutL]
    rw [if_neg (h c (by simp)), cutL_nodot a r (fun x hx => h x (by simp [hx]))]
theorem cutL_none : ∀ (a : List UInt8), (∀ c ∈ a, c ≠ 46) → cutL a = (a, [], false)
  | [], _ => by simp [cutL]
  | c :: a, h => by
    simp only [cutL]
    rw [if_neg (h c (by simp)), cutL_none a (fun x hx => h x (by simp [hx]))]
theorem split_text : ∀ (l : List Int), l ≠ [] → splitL (textL l) = l.map itoa
  | [], h => absurd rfl h
  | [n], _ => by
    rw [splitL_cut, textL, cutL_none _ (itoa_nodot n)]
    simp
  | n :: m :: r, _ => by
    rw [splitL_cut, textL, cutL_nodot _ _ (itoa_nodot n)]
    simp only [if_true]
    rw [split_text (m :: r) (by simp)]
    simp
theorem numsOf_map : ∀ (l : List Int), Valid l → numsOf (l.map itoa) = some l
  | [], _ => rfl
  | n :: l, h => by
    simp only [List.map_cons, numsOf]
    rw [numOf_itoa n (h n (by simp)), numsOf_map l (fun x hx => h x (by simp [hx]))]
    rfl
theorem itoa_ne (n : Int) : itoa n ≠ [] := by
  intro e
  have := itoa_pos n
  rw [e] at this
  simp at this
theorem textL_ne (l : List Int) (h : l ≠ []) : textL l ≠ [] := by
  cases l with
  | nil => exact absurd rfl h
  | cons n r =>
    rw [textL_cons]
    intro e
    exact itoa_ne n (List.append_eq_nil_iff.1 e).1
theorem parse_text (l : List Int) (h : Valid l) : parseL (textL l) = some l := by
  unfold parseL numL
  by_cases e : l = []
  · subst e; simp [textL]
  · rw [if_neg (textL_ne l e), split_text l e, numsOf_map l h]
    simp
end Go.Proofs.YtabkihellcflhaaGreatDoor.Lists

/- Plain laws on digits: how a number's text is made of its tenth's; no program. -/
namespace Go.Proofs.YtabkihellcflhaaGreatDoor.Lists
open Go.Lib (itoa decDigits nDigits)

theorem dec_step (u : Nat) (h : 10 ≤ u) : decDigits u = decDigits (u / 10) ++ decDigits (u % 10) := by
  rw [decDigits, dif_neg (by omega), Lib.decDigits_one (show u % 10 < 10 by omega)]
theorem itoa_neg_one (n : Int) (h : n < 0) (h10 : n.tdiv 10 = 0) : itoa n = 45 :: itoa (0 - n.tmod 10) := by
  have e1 : n.tmod 10 = n := by have := Int.tmod_add_mul_tdiv n 10; rw [h10] at this; omega
  have hneg : 0 ≤ 0 - n := by omega
  rw [e1, itoa_nat (0 - n) hneg]
  unfold itoa
  rw [if_pos h]
  congr 2
  omega
theorem tdiv_neg (n : Int) (h : n < 0) : (n.tdiv 10).natAbs = n.natAbs / 10 ∧ (n.tmod 10).natAbs = n.natAbs % 10 ∧ n.tdiv 10 ≤ 0 ∧ n.tmod 10 ≤ 0 := by
  have e : n = -((n.natAbs : Nat) : Int) := by omega
  have h1 : n.tdiv 10 = -(((n.natAbs / 10 : Nat) : Int)) := by
    rw [e, Int.neg_tdiv, ← e]
    congr 1
  have h2 : n.tmod 10 = -(((n.natAbs % 10 : Nat) : Int)) := by
    rw [e, Int.neg_tmod, ← e]
    congr 1
  rw [h1, h2]
  omega
theorem itoa_neg_step (n : Int) (h : n < 0) (h10 : n.tdiv 10 ≠ 0) : itoa n = itoa (n.tdiv 10) ++ itoa (0 - n.tmod 10) := by
  obtain ⟨a, b, c, d⟩ := tdiv_neg n h
  have hq : n.tdiv 10 < 0 := by omega
  rw [itoa_nat (0 - n.tmod 10) (by omega)]
  unfold itoa
  rw [if_pos h, if_pos hq, a, dec_step n.natAbs (by omega)]
  have e : (0 - n.tmod 10).toNat = n.natAbs % 10 := by omega
  rw [e]; rfl
theorem itoa_pos_step (n : Int) (h : 10 ≤ n) : itoa n = itoa (n / 10) ++ itoa (n % 10) := by
  rw [itoa_nat n (by omega), itoa_nat (n / 10) (by omega), itoa_nat (n % 10) (by omega), dec_step n.toNat (by omega)]
  have e1 : (n / 10).toNat = n.toNat / 10 := by omega
  have e2 : (n % 10).toNat = n.toNat % 10 := by omega
  rw [e1, e2]
theorem itoa_one (n : Int) (h : 0 ≤ n) (h' : n < 10) : itoa n = [UInt8.ofNat (48 + n.toNat)] := by
  rw [itoa_nat n h, Lib.decDigits_one (by omega)]
end Go.Proofs.YtabkihellcflhaaGreatDoor.Lists
