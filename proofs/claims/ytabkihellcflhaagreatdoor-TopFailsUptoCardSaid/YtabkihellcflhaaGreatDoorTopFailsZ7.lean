/- TopFails, part 7 of the proof: Plain laws on values as trees: what is wrong with one, its text, sameness. No program. · A row of values that the call itself makes: append of one value. Conditions: the size. -/
import Derived.Test.YtabkihellcflhaaGreatDoorTopFailsZ5
import Derived.Test.YtabkihellcflhaaGreatDoorTopFailsZ6
import Derived.Maps.AppendAt
import Derived.RegionTactic
import Derived.OwnWalk
/- Plain laws on values as trees: what is wrong with one, its text, sameness. No program. -/
namespace Go.Proofs.YtabkihellcflhaaGreatDoor.Vals
open Go.Lib (itoa)
open Lists

/-! what is wrong with a value that lies in so many lists -/
def formBad (t : Tr) : Bool := (t.list && (t.num != 0)) || (!t.list && !t.items.isEmpty)
mutual
def faultV : Tr → Nat → Int
  | .node l n its, deep => if formBad (.node l n its) = true then 3 else if 6 ≤ deep then 4 else faultVs its (deep + 1)
def faultVs : List Tr → Nat → Int
  | [], _ => 0
  | t :: r, deep => if faultV t deep ≠ 0 then faultV t deep else faultVs r deep
end
theorem faultV_eq (t : Tr) (deep : Nat) : faultV t deep = if formBad t = true then 3 else if 6 ≤ deep then 4 else faultVs t.items (deep + 1) := by
  cases t with | node l n its => simp only [faultV, Tr.items]
theorem faultVs_app (l m : List Tr) (d : Nat) : faultVs (l ++ m) d = if faultVs l d ≠ 0 then faultVs l d else faultVs m d := by
  induction l with
  | nil => simp [faultVs]
  | cons t r ih =>
    simp only [List.cons_append, faultVs, ih]
    by_cases h : faultV t d = 0 <;> simp [h]
theorem fault_step0 (l : List Tr) (k d : Nat) (hk : k < l.length) (hz : faultVs (l.take k) d = 0) (h : faultV (l[k]'hk) d = 0) : faultVs (l.take (k + 1)) d = 0 := by
  rw [List.take_succ_eq_append_getElem hk, faultVs_app, hz]; simp [faultVs, h]
theorem fault_step1 (l : List Tr) (k d : Nat) (hk : k < l.length) (hz : faultVs (l.take k) d = 0) (h : faultV (l[k]'hk) d ≠ 0) : faultV (l[k]'hk) d = faultVs l d := by
  have h1 : faultVs (l.take (k + 1)) d = faultV (l[k]'hk) d := by
    rw [List.take_succ_eq_append_getElem hk, faultVs_app, hz]; simp [faultVs, h]
  have h2 := faultVs_app (l.take (k + 1)) (l.drop (k + 1)) d
  rw [List.take_append_drop, h1, if_pos h] at h2
  exact h2.symm
/-! right: of d levels at most -/
def okB : Nat → Tr → Bool
  | 0, _ => false
  | d + 1, t => !formBad t && t.items.all (okB d)
theorem formBad_list {t : Tr} (h : formBad t = false) (hl : t.list = true) : t.num = 0 := by
  unfold formBad at h; rw [hl] at h; simpa using h
theorem formBad_num {t : Tr} (h : formBad t = false) (hl : t.list = false) : t.items = [] := by
  unfold formBad at h; rw [hl] at h; simpa using h
theorem fault_ok : ∀ (k : Nat) (t : Tr) (deep : Nat), deep + k = 6 → (faultV t deep = 0 ↔ okB k t = true)
  | 0, t, deep, h => by
    rw [faultV_eq]
    by_cases hf : formBad t = true
    · simp [hf, okB]
    · rw [if_neg hf, if_pos (by omega)]; simp [okB]
  | k + 1, t, deep, h => by
    rw [faultV_eq]
    by_cases hf : formBad t = true
    · simp [hf, okB]
    · have hf' : formBad t = false := by simpa using hf
      rw [if_neg hf, if_neg (by omega)]
      have hs : ∀ its : List Tr, faultVs its (deep + 1) = 0 ↔ its.all (okB k) = true := by
        intro its
        induction its with
        | nil => simp [faultVs]
        | cons x r ih =>
          simp only [faultVs, List.all_cons, Bool.and_eq_true]
          have := fault_ok k x (deep + 1) (by omega)
          by_cases hx : faultV x (deep + 1) = 0
          · rw [if_neg (by simpa using hx), ih]; simp [this.1 hx]
          · rw [if_pos hx]
            exact ⟨fun e => absurd e hx, fun e => absurd (this.2 e.1) hx⟩
      simp only [okB, hf', Bool.not_false, Bool.true_and]
      exact hs t.items

/-! its text -/
mutual
def textV : Tr → List UInt8
  | .node l n its => if l = true then 40 :: (textVs its ++ [41]) else itoa n
def textVs : List Tr → List UInt8
  | [] => []
  | t :: r => textV t ++ textTail r
def textTail : List Tr → List UInt8
  | [] => []
  | t :: r => 32 :: (textV t ++ textTail r)
end
theorem textV_num (t : Tr) (h : t.list = false) : textV t = itoa t.num := by
  cases t with | node l n its => simp only [Tr.list] at h; subst h; simp [textV, Tr.num]
theorem textV_list (t : Tr) (h : t.list = true) : textV t = 40 :: (textVs t.items ++ [41]) := by
  cases t with | node l n its => simp only [Tr.list] at h; subst h; simp [textV, Tr.items]
theorem textTail_snoc (l : List Tr) (t : Tr) : textTail (l ++ [t]) = textTail l ++ 32 :: textV t := by
  induction l with
  | nil => simp [textTail]
  | cons x r ih => simp [textTail, ih]
theorem textVs_snoc (l : List Tr) (t : Tr) : textVs (l ++ [t]) = textVs l ++ (if l = [] then [] else [32]) ++ textV t := by
  cases l with
  | nil => simp [textVs, textTail]
  | cons x r => simp [textVs, textTail_snoc]
theorem textVs_take (l : List Tr) (k : Nat) (h : k < l.length) : textVs (l.take (k + 1)) = textVs (l.take k) ++ (if k = 0 then [] else [32]) ++ textV (l[k]'h) := by
  rw [List.take_succ_eq_append_getElem h, textVs_snoc]
  by_cases hk : k = 0
  · subst hk; simp
  · have : l.take k ≠ [] := by
      intro e
      have h2 : (l.take k).length = 0 := by rw [e]; rfl
      rw [List.length_take] at h2
      omega
    rw [if_neg hk, if_neg this]
mutual
def Tr.i64 : Tr → Prop
  | .node _ n its => I64 n ∧ i64s its
def i64s : List Tr → Prop
  | [] => True
  | t :: r => t.i64 ∧ i64s r
end
theorem i64s_iff (l : List Tr) : i64s l ↔ ∀ x ∈ l, x.i64 := by
  induction l with
  | nil => simp [i64s]
  | cons t r ih => simp [i64s, ih]
theorem Tr.i64_num {t : Tr} (h : t.i64) : I64 t.num := by cases t with | node l n its => exact h.1
theorem Tr.i64_items {t : Tr} (h : t.i64) : ∀ x ∈ t.items, x.i64 := by cases t with | node l n its => exact (i64s_iff its).1 h.2
mutual
theorem textV_le : ∀ t : Tr, t.i64 → (textV t).length + 1 ≤ 24 * t.size
  | .node l n its, h => by
    simp only [Tr.i64] at h
    simp only [textV, Tr.size]
    split
    · have := textVs_le its h.2
      simp only [List.length_cons, List.length_append, List.length_nil]
      omega
    · have := Lib.itoa_length_le n h.1.1 h.1.2
      omega
theorem textVs_le : ∀ l : List Tr, i64s l → (textVs l).length ≤ 24 * sizes l
  | [], _ => by simp [textVs]
  | t :: r, h => by
    simp only [i64s] at h
    have h1 := textV_le t h.1
    have h2 := textTail_le r h.2
    simp only [textVs, sizes, List.length_append]
    omega
theorem textTail_le : ∀ l : List Tr, i64s l → (textTail l).length ≤ 24 * sizes l
  | [], _ => by simp [textTail]
  | t :: r, h => by
    simp only [i64s] at h
    have h1 := textV_le t h.1
    have h2 := textTail_le r h.2
    simp only [textTail, sizes, List.length_cons, List.length_append]
    omega
end
theorem size_items (t : Tr) : t.size = 1 + sizes t.items := by cases t with | node l n its => rfl
theorem size_mem : ∀ (l : List Tr) (x : Tr), x ∈ l → x.size ≤ sizes l
  | [], x, h => by cases h
  | t :: r, x, h => by
    simp only [sizes]
    rcases List.mem_cons.1 h with rfl | h
    · omega
    · have := size_mem r x h; omega
theorem sizes_take : ∀ (l : List Tr) (k : Nat), sizes (l.take k) ≤ sizes l
  | [], k => by simp
  | t :: r, 0 => by simp [sizes]
  | t :: r, k + 1 => by
    have := sizes_take r k
    simp only [List.take_succ_cons, sizes]
    omega
theorem len_sizes : ∀ l : List Tr, l.length ≤ sizes l
  | [] => by simp
  | t :: r => by
    have := len_sizes r
    have h := size_items t
    simp only [sizes, List.length_cons]
    omega
theorem i64_of_wf {x : Int} (h : (Lit.int .i64 x).wf = true) : I64 x := by
  simp only [Lit.wf, IntKind.min, IntKind.max, IntKind.signed, IntKind.bits, Bool.and_eq_true] at h
  unfold I64
  simp at h
  omega
theorem TAt.i64 {w : World} {S : Nat → Prop} : ∀ {n : Nat} {v : Value} {t : Tr}, TAt w S n v t → t.i64
  | 0, _, _, h => h.elim
  | n + 1, v, t, h => by
    obtain ⟨hw, A, c, rfl, h⟩ := h
    have hi : i64s t.items := by
      rw [i64s_iff]
      intro x hx
      obtain ⟨j, hj, rfl⟩ := List.mem_iff_getElem.1 hx
      obtain ⟨b, off, _, _, hc⟩ := h (by omega)
      obtain ⟨x0, x1, x2, _, _, _, ht⟩ := hc j hj
      exact TAt.i64 ht
    cases t with | node l m its => exact ⟨i64_of_wf hw, hi⟩

/-! the same -/
mutual
def sameV : Tr → Tr → Bool
  | .node l n i, .node l' n' i' => l == l' && n == n' && sameVs i i'
def sameVs : List Tr → List Tr → Bool
  | [], [] => true
  | [], _ :: _ => false
  | _ :: _, [] => false
  | t :: r, t' :: r' => sameV t t' && sameVs r r'
end
mutual
theorem sameV_iff : ∀ t u : Tr, sameV t u = true ↔ t = u
  | .node l n i, .node l' n' i' => by
    simp only [sameV, Bool.and_eq_true, beq_iff_eq, sameVs_iff i i', Tr.node.injEq, and_assoc]
theorem sameVs_iff : ∀ l m : List Tr, sameVs l m = true ↔ l = m
  | [], [] => by simp [sameVs]
  | [], _ :: _ => by simp [sameVs]
  | _ :: _, [] => by simp [sameVs]
  | t :: r, t' :: r' => by simp only [sameVs, Bool.and_eq_true, sameV_iff t t', sameVs_iff r r', List.cons.injEq]
end
theorem sameV_at {l l' : Bool} {x x' : Int} {i i' : List Tr} (k : Nat) (h : k < i.length) (h' : k < i'.length) (hs : ¬ sameV (i[k]'h) (i'[k]'h') = true) : sameV (.node l x i) (.node l' x' i') = false := by
  rw [Bool.eq_false_iff]
  intro e
  have h2 := (sameV_iff _ _).1 e
  simp only [Tr.node.injEq] at h2
  obtain ⟨_, _, rfl⟩ := h2
  exact hs ((sameV_iff _ _).2 rfl)
end Go.Proofs.YtabkihellcflhaaGreatDoor.Vals

/- A row of values that the call itself makes: append of one value. Conditions: the size. -/
namespace Go.Proofs.YtabkihellcflhaaGreatDoor.Vals
open Go.RowKit Go.WideShapes Go.ChangeShapes
set_option linter.unusedVariables false

def blockOf (A : Option Addr) : Option Nat := A.map (·.block)
theorem blockOf_own (A : Option Addr) (n c : Nat) : (Value.slice A n c).ownBlock = blockOf A := by cases A <;> rfl
def three (x : Value × Value × Value) : List Value := [x.1, x.2.1, x.2.2]
/-- New memory of the call's own, the row's block aside. -/
def Mine (w : World) (base : Nat) (A : Option Addr) : Nat → Prop := fun b => base ≤ b ∧ b < w.heap.size ∧ blockOf A ≠ some b
/-- The row at A, of the call's own, holds the values acc, each of at most d levels. -/
def OwnT (w : World) (base : Nat) (A : Option Addr) (c : Nat) (acc : List Tr) (d : Nat) : Prop :=
  ∃ xs : List (Value × Value × Value), xs.length = acc.length ∧ w.ownsRow base 47 3 (.slice A acc.length c) acc.length (xs.flatMap three) ∧
    ∀ j (h : j < acc.length) (h' : j < xs.length), TAt w (Mine w base A) d (.agg #[(xs[j]'h').1, (xs[j]'h').2.1, (xs[j]'h').2.2]) (acc[j]'h)

theorem OwnT.none_ {w : World} {base d : Nat} : OwnT w base none 0 [] d := ⟨[], rfl, ⟨rfl, .inl ⟨rfl, rfl⟩⟩, fun j h => by simp at h⟩
theorem OwnT.ge {w : World} {base c d : Nat} {A : Option Addr} {acc : List Tr} (h : OwnT w base A c acc d) : ∀ g, blockOf A = some g → base ≤ g ∧ g < w.heap.size := by
  obtain ⟨xs, _, h, _⟩ := h
  intro g hg
  rcases h.2 with ⟨he, _⟩ | ⟨g', cap, cur, he, hb, hh, _⟩
  · injection he with he; subst he; cases hg
  · injection he with he; subst he
    have : g' = g := by simpa [blockOf] using hg
    subst this
    exact ⟨hb, (Array.getElem?_eq_some_iff.1 hh).1⟩
theorem OwnT.below {w w' : World} {base c d : Nat} {A : Option Addr} {acc : List Tr} (h : OwnT w base A c acc d) (hb : Below w.heap.size w w') : OwnT w' base A c acc d := by
  obtain ⟨xs, h1, h2, h3⟩ := h
  refine ⟨xs, h1, ⟨h2.1, ?_⟩, fun j hj hj' => (h3 j hj hj').keep fun b hm => ⟨⟨hm.1, Nat.lt_of_lt_of_le hm.2.1 hb.size, hm.2.2⟩, fun o => hb.cell (p := ⟨b, o, none⟩) hm.2.1⟩⟩
  rcases h2.2 with h0 | ⟨g, cap, cur, he, hbg, hh, r⟩
  · exact .inl h0
  · exact .inr ⟨g, cap, cur, he, hbg, (hb.block g (Array.getElem?_eq_some_iff.1 hh).1).trans hh, r⟩

theorem flat_len (xs : List (Value × Value × Value)) : (xs.flatMap three).length = xs.length * 3 := by
  induction xs with
  | nil => rfl
  | cons x r ih => simp only [List.flatMap_cons, List.length_append, ih, List.length_cons, three, List.length_nil]; omega
theorem flat_get : ∀ (xs : List (Value × Value × Value)) (j q : Nat) (h : j < xs.length), q < 3 → (xs.flatMap three)[j * 3 + q]? = (three (xs[j]'h))[q]?
  | [], j, q, h, _ => by simp at h
  | x :: r, 0, q, h, hq => by
    simp only [List.flatMap_cons, Nat.zero_mul, Nat.zero_add, List.getElem_cons_zero]
    rw [List.getElem?_append_left (by simp [three]; omega)]
  | x :: r, j + 1, q, h, hq => by
    have ih := flat_get r j q (by simpa using h) hq
    simp only [List.flatMap_cons, List.getElem_cons_succ]
    rw [List.getElem?_append_right (by simp [three]; omega), ← ih]
    congr 1
    simp [three]; omega
/-- what the row holds, as a value of one level more -/
theorem OwnT.at_ {w : World} {base c d : Nat} {A : Option Addr} {acc : List Tr} {l : Bool} {n : Int} (h : OwnT w base A c acc d) (hn : (Lit.int .i64 n).wf = true) :
    TAt w (fun b => base ≤ b ∧ b < w.heap.size) (d + 1) (.agg #[.bool l, .int .i64 n, .slice A acc.length c]) (.node l n acc) := by
  obtain ⟨xs, h1, h2, h3⟩ := h
  refine ⟨hn, A, c, rfl, fun hp => ?_⟩
  rcases h2.2 with ⟨he, h0⟩ | ⟨g, cap, cur, he, hbg, hh, _, _, _, ht⟩
  · simp only [Tr.items] at hp; omega
  · have hA : A = some ⟨g, 0, none⟩ := by injection he
    refine ⟨g, 0, hA, ⟨hbg, (Array.getElem?_eq_some_iff.1 hh).1⟩, fun j hj => ?_⟩
    have hj' : j < xs.length := by rw [h1]; exact hj
    have hcell : ∀ q, q < 3 → w.cell? ⟨g, 0 + j * 3 + q, none⟩ = (three (xs[j]'hj'))[q]? := by
      intro q hq
      rw [cell_of_row w g _ cur 47 (0, 0) hh]
      have e := flat_get xs j q hj' hq
      rw [← ht, List.getElem?_take] at e
      have hlt : j * 3 + q < acc.length * 3 := by
        have : j < acc.length := hj
        omega
      rw [if_pos hlt] at e
      rw [← e, Array.getElem?_toList]
      congr 1
      omega
    exact ⟨_, _, _, hcell 0 (by omega), hcell 1 (by omega), hcell 2 (by omega), (h3 j hj hj').keep fun b hm => ⟨⟨hm.1, hm.2.1⟩, fun _ => rfl⟩⟩

theorem val_info : (Tryz.prog.info? 47).map (fun i => (i.zero, i.size, i.bytes)) = some (some (.agg #[.bool false, .int .i64 0, .slice none 0 0]), 3, 40) := by kernel_rfl

set_option maxRecDepth 100000 in
theorem run_append_tree (w : World) (base c d : Nat) (A : Option Addr) (acc : List Tr) (hown : OwnT w base A c acc d) (b : Nat) (x0 x1 x2 : Value) (c2 : Nat) (t : Tr)
    (k0 : w.cell? ⟨b, 0, none⟩ = some x0) (k1 : w.cell? ⟨b, 1, none⟩ = some x1) (k2 : w.cell? ⟨b, 2, none⟩ = some x2) (one : x0.oneCell' = true ∧ x1.oneCell' = true ∧ x2.oneCell' = true)
    (ht : TAt w (Mine w base A) d (.agg #[x0, x1, x2]) t)
    (h63 : acc.length + 1 ≤ 1099511627776) (hbase : base ≤ w.heap.size) (ty : TypeId) :
    ∃ A' c' w', (Builtin.append_ #[45, 45] ty #[.slice A acc.length c, .slice (some ⟨b, 0, none⟩) 1 c2]).run Tryz.prog w = .ok (.slice A' (acc ++ [t]).length c') w' ∧ OwnT w' base A' c' (acc ++ [t]) d ∧ w.grownBy w' (blockOf A) := by
  obtain ⟨i0, hi, hz, hsz, hby⟩ := info_parts val_info
  obtain ⟨xs, h1, h2, h3⟩ := hown
  have hcells : ∀ j u, ([x0, x1, x2] : List Value)[j]? = some u → w.cell? ((⟨b, 0, none⟩ : Addr).add j) = some u := by
    intro j u hu
    rw [Go.WideShapes.add_plain, Nat.zero_add]
    match j, hu with
    | 0, hu => rw [k0]; simpa using hu
    | 1, hu => rw [k1]; simpa using hu
    | 2, hu => rw [k2]; simpa using hu
    | j + 3, hu => simp at hu
  obtain ⟨v', w', hrun, r2, r3, _, r5⟩ := run_append_own_at (P := Tryz.prog) w base 45 ty 47 i0 _ 3 40 Tryz.underlying45 hi hz hsz hby rfl (by decide) _ acc.length _ h2
    ⟨b, 0, none⟩ 1 c2 [x0, x1, x2] rfl hcells (by
      intro u hu
      simp only [List.mem_cons, List.not_mem_nil, or_false] at hu
      rcases hu with rfl | rfl | rfl
      · exact one.1
      · exact one.2.1
      · exact one.2.2) (by simp only [maxLen]; omega) (by omega) hbase
  have hv : ∃ A' c', v' = .slice A' (acc.length + 1) c' := by
    rcases r2.2 with ⟨he, hn⟩ | ⟨g, cap, cur, he, _⟩
    · omega
    · exact ⟨_, _, he⟩
  obtain ⟨A', c', rfl⟩ := hv
  rw [blockOf_own] at r3
  rw [blockOf_own, blockOf_own] at r5
  have e : (acc ++ [t]).length = acc.length + 1 := by simp
  have keep : ∀ b, Mine w base A b → Mine w' base A' b ∧ ∀ o, w'.cell? ⟨b, o, none⟩ = w.cell? ⟨b, o, none⟩ := by
    intro q hq
    refine ⟨⟨hq.1, Nat.lt_of_lt_of_le hq.2.1 r3.size, fun e => ?_⟩, fun o => World.cell?_of_block (r3.block q hq.2.1 (fun e => hq.2.2 e.symm))⟩
    rcases r5 with h | h
    · rw [h] at e; exact hq.2.2 e
    · rw [h] at e
      have := hq.2.1
      injection e with e
      omega
  refine ⟨A', c', w', by rw [e]; exact hrun, ⟨xs ++ [(x0, x1, x2)], by simp [h1], ?_, fun j hj hj' => ?_⟩, r3⟩
  · rw [e, List.flatMap_append]
    exact r2
  · by_cases hlt : j < acc.length
    · rw [List.getElem_append_left hlt]
      have hlt' : j < xs.length := by omega
      rw [List.getElem_append_left hlt']
      exact (h3 j hlt hlt').keep keep
    · obtain rfl : j = acc.length := by rw [e] at hj; omega
      rw [List.getElem_append_right (by omega), List.getElem_append_right (by omega)]
      simp only [h1, Nat.sub_self, List.getElem_cons_zero]
      exact ht.keep keep

theorem wpList_append_tree {ops : Array Oper} {rest : List Oper} {o : Oper} {a : Act} {w : World} {Q : Exit → Act → World → Prop} (hgd : o.guard = none) (s x : Operand)
    (ho : o.op = .call { callee := .builtin .append, args := #[s, x], argTypes := #[45, 45] })
    (base c d : Nat) (A : Option Addr) (acc : List Tr) (hown : OwnT w base A c acc d) (b : Nat) (x0 x1 x2 : Value) (c2 : Nat) (t : Tr)
    (k0 : w.cell? ⟨b, 0, none⟩ = some x0) (k1 : w.cell? ⟨b, 1, none⟩ = some x1) (k2 : w.cell? ⟨b, 2, none⟩ = some x2) (one : x0.oneCell' = true ∧ x1.oneCell' = true ∧ x2.oneCell' = true)
    (ht : TAt w (Mine w base A) d (.agg #[x0, x1, x2]) t)
    (hs : a.eval s = .slice A acc.length c) (hx : a.eval x = .slice (some ⟨b, 0, none⟩) 1 c2)
    (h63 : acc.length + 1 ≤ 1099511627776) (hbase : base ≤ w.heap.size)
    (h : ∀ A' c' w' (zl : List Tr), Hid (zl = acc ++ [t]) → OwnT w' base A' c' zl d → w.grownBy w' (blockOf A) → wpList Tryz.prog ops Q rest (a.put o.dst (.slice A' zl.length c')) w') : wpList Tryz.prog ops Q (o :: rest) a w := by
  obtain ⟨A', c', w', hrun, h2, h3⟩ := run_append_tree w base c d A acc hown b x0 x1 x2 c2 t k0 k1 k2 one ht h63 hbase o.type
  refine wpList_plain hgd fun K hK => ?_
  unfold Oper.wp execOp
  simp only [ho, resolve, invoke, builtin, Sem.run_bind, Sem.run_pure, Result.andThen_ok, List.map_toArray, List.map_cons, List.map_nil, hs, hx, hrun]
  exact hK _ _ (h A' c' w' _ rfl h2 h3)
end Go.Proofs.YtabkihellcflhaaGreatDoor.Vals
