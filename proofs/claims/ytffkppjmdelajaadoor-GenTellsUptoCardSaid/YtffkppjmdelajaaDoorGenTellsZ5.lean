/- GenTells, part 5 of the proof: Plain laws on how many tapes a generator has. No program. · Contract of the document's own CountOf, of a right generator. Condition: the size. · Slices of numbers (nil, empty or not) as lists; what such an argument reads as. Conditions: none. · append of a slice of numbers (nil, empty or not) onto a row of the call's own. Conditions: the sizes. · Contract of the document's own choice of a play. Condition: the sizes. -/
import Derived.Test.YtffkppjmdelajaaDoorGenTellsZ4
import Derived.Test.YtffkppjmdelajaaDoorGenTellsZ2
import Derived.Lib.MinMax
import Derived.Test.YtffkppjmdelajaaDoorGenTellsZ1
import Derived.Maps.AppendAt
import Derived.RegionTactic
import Derived.OwnWalk
/- Plain laws on how many tapes a generator has. No program. -/
namespace Go.Proofs.YtffkppjmdelajaaDoor.Gens
set_option linter.unusedVariables false

def manyN (k : Int) : Nat → Int → Int → Int
  | 0, n, _ => n
  | i + 1, n, p => manyN k i (min 1048577 (n + p)) (min 1048577 (p * k))
mutual
def countG : Gn → Int
  | .node k a b subs => if k = 1 then 1 else if k = 2 then b - a + 1 else if k = 5 then countAny subs 0 else if k = 3 then countBoth subs 1 else manyN (countHead subs) (a + 1).toNat 0 1
def countAny : List Gn → Int → Int
  | [], n => n
  | g :: r, n => countAny r (min 1048577 (n + countG g))
def countBoth : List Gn → Int → Int
  | [], n => n
  | g :: r, n => countBoth r (min 1048577 (n * countG g))
def countHead : List Gn → Int
  | [] => 0
  | g :: _ => countG g
end
abbrev Few (n : Int) : Prop := 0 ≤ n ∧ n ≤ 1048577
theorem few_add {n m : Int} (h : Few n) (h' : Few m) : Few (min 1048577 (n + m)) := by
  obtain ⟨a, b⟩ := h
  obtain ⟨c, d⟩ := h'
  exact ⟨by omega, by omega⟩
theorem few_mul {n m : Int} (h : Few n) (h' : Few m) : Few (min 1048577 (n * m)) := by
  obtain ⟨a, b⟩ := h
  obtain ⟨c, d⟩ := h'
  have := Int.mul_nonneg a c
  exact ⟨by omega, by omega⟩
theorem mul_fits {n m : Int} (h : Few n) (h' : Few m) : 0 ≤ n * m ∧ n * m ≤ 1099513724929 := by
  obtain ⟨a, b⟩ := h
  obtain ⟨c, d⟩ := h'
  refine ⟨Int.mul_nonneg a c, ?_⟩
  have := Int.mul_le_mul b d c (by omega)
  omega
theorem few_many {k : Int} (hk : Few k) : ∀ i n p, Few n → Few p → Few (manyN k i n p)
  | 0, n, p, hn, hp => by rw [manyN]; exact hn
  | i + 1, n, p, hn, hp => by rw [manyN]; exact few_many hk i _ _ (few_add hn hp) (few_mul hp hk)
mutual
theorem count_few : ∀ (g : Gn), Right g → Few (countG g)
  | .node k a b subs, hg => by
    have hm := right_max hg
    have hs : ∀ x ∈ subs, Right x := hg.subs
    simp only [countG]
    split
    · exact ⟨by omega, by omega⟩
    · split
      · rename_i hk
        have := hm.1 hk
        exact ⟨by omega, by omega⟩
      · split
        · exact any_few subs hs 0 ⟨by omega, by omega⟩
        · split
          · exact both_few subs hs 1 ⟨by omega, by omega⟩
          · exact few_many (head_few subs hs) _ 0 1 ⟨by omega, by omega⟩ ⟨by omega, by omega⟩
theorem any_few : ∀ (l : List Gn), (∀ x ∈ l, Right x) → ∀ n, Few n → Few (countAny l n)
  | [], _, n, hn => by rw [countAny]; exact hn
  | g :: l, hl, n, hn => by
    rw [countAny]
    exact any_few l (fun x hx => hl x (by simp [hx])) _ (few_add hn (count_few g (hl g (by simp))))
theorem both_few : ∀ (l : List Gn), (∀ x ∈ l, Right x) → ∀ n, Few n → Few (countBoth l n)
  | [], _, n, hn => by rw [countBoth]; exact hn
  | g :: l, hl, n, hn => by
    rw [countBoth]
    exact both_few l (fun x hx => hl x (by simp [hx])) _ (few_mul hn (count_few g (hl g (by simp))))
theorem head_few : ∀ (l : List Gn), (∀ x ∈ l, Right x) → Few (countHead l)
  | [], _ => by rw [countHead]; exact ⟨by omega, by omega⟩
  | g :: l, hl => by rw [countHead]; exact count_few g (hl g (by simp))
end
theorem any_drop (l : List Gn) (k : Nat) (n : Int) (h : k < l.length) : countAny (l.drop k) n = countAny (l.drop (k + 1)) (min 1048577 (n + countG (l[k]'h))) := by
  rw [List.drop_eq_getElem_cons h, countAny]
theorem both_drop (l : List Gn) (k : Nat) (n : Int) (h : k < l.length) : countBoth (l.drop k) n = countBoth (l.drop (k + 1)) (min 1048577 (n * countG (l[k]'h))) := by
  rw [List.drop_eq_getElem_cons h, countBoth]
theorem head_get (l : List Gn) (h : 0 < l.length) : countHead l = countG (l[0]'h) := by
  cases l with
  | nil => simp at h
  | cons x r => rw [countHead]; rfl
end Go.Proofs.YtffkppjmdelajaaDoor.Gens

/- Contract of the document's own CountOf, of a right generator. Condition: the size. -/
namespace Go.Proofs.YtffkppjmdelajaaDoor.Gens
open Go.RowKit Lists Ints
set_option linter.unusedVariables false

set_option maxHeartbeats 8000000 in
set_option maxRecDepth 100000 in
theorem count_any : ∀ (n : Nat) (t : Gn) (v : Value) (B : Nat) (w : World), GAt w (GBel B) n v t → B ≤ w.heap.size → t.size ≤ 4294967296 → Right t →
    Calls Tryd.prog 15 #[v] w fun e w' => e = .returned (.int .i64 (countG t)) ∧ Below w.heap.size w w' := by
  intro n
  induction n with
  | zero => intro t v B w h; exact h.elim
  | succ n ih =>
    intro t v B w h hB hsz hg
    obtain ⟨m, A, c, e, hw, rfl, hit⟩ := h.open_
    obtain rfl : n = m := by omega
    have IH := Lib.hid ih
    have HIT := Lib.hid hit
    have HB := Lib.hid hB
    have HS := Lib.hid hsz
    have HG := Lib.hid hg
    have hln : t.subs.length ≤ 4294967296 := by have := glen_sizes t.subs; have := gsize_subs t; omega
    have H0 : Below w.heap.size w (w.alloc (gc t A c)) := (Below.refl _ _).alloc (Nat.le_refl _) _
    have H0 := Lib.hid H0
    have SB := Lib.hid (gsize_subs t)
    obtain ⟨w1, w2, w3⟩ := hw
    have IA := Lib.hid (i64_wf w2)
    have IB := Lib.hid (i64_wf w3)
    clear ih hit h hB hsz e w1 w2 w3 hg
    cases t with | node k a b subs =>
    simp only [Gn.a, Gn.b, Gn.subs] at *
    change Calls Tryd.prog 15 #[.agg #[.int .i64 k, .int .i64 a, .int .i64 b, .slice A subs.length c]] w _
    obtain ⟨m2, m5, m4, k1, k5⟩ := right_max HG.out
    have RS := Lib.hid (show ∀ x ∈ subs, Right x from HG.out.subs)
    obtain ⟨a1, a2⟩ := IA.out
    obtain ⟨b1, b2⟩ := IB.out
    rcases (show k = 1 ∨ k = 2 ∨ k = 3 ∨ k = 4 ∨ k = 5 by omega) with rfl | rfl | rfl | rfl | rfl
    · have EV := Lib.hid (show countG (.node 1 a b subs) = 1 by simp [countG])
      clear m2 m4 m5
      go_enter Tryd.func15, Tryd.ntmps15
      go_wp2_with fail
      go_ret
      exact ⟨ret_int EV.out.symm, H0.out⟩
    · have EV := Lib.hid (show countG (.node 2 a b subs) = b - a + 1 by simp [countG])
      obtain ⟨q1, q2⟩ := m2 rfl
      clear m2 m4 m5
      go_enter Tryd.func15, Tryd.ntmps15
      go_wp2_with fail
      go_ret
      exact ⟨ret_int EV.out.symm, H0.out⟩
    · have EV := Lib.hid (show countG (.node 3 a b subs) = countBoth subs 1 by simp [countG])
      clear m2 m4 m5
      go_enter Tryd.func15, Tryd.ntmps15
      go_wp2_with fail
      go_loopw [6, 7] (fun x i wr => ∃ (k : Nat) (o : Int), k ≤ subs.length ∧ i = .int .i64 k ∧ x = .int .i64 o ∧ Few o ∧ Below (w.alloc (.cells #[.int .i64 3, .int .i64 a, .int .i64 b, .slice A subs.length c] 24)).heap.size (w.alloc (.cells #[.int .i64 3, .int .i64 a, .int .i64 b, .slice A subs.length c] 24)) wr ∧ Hid (countG (.node 3 a b subs) = countBoth (subs.drop k) o)) (fun _ i _ => subs.length - (intOf i).toNat)
      case atStart => exact ⟨0, 1, Nat.zero_le _, rfl, rfl, ⟨by omega, by omega⟩, Below.refl _ _, (show countG (.node 3 a b subs) = countBoth (subs.drop 0) 1 from EV.out)⟩
      case round =>
        obtain ⟨k, o, hk, rfl, rfl, ho, hb, hz⟩ := hrel
        obtain ⟨_, _, _, cb⟩ := gbox w wr _ _ _ _ hb
        have HWW := Lib.hid (on H0.out hb)
        have HBW := Lib.hid hb
        clear hb
        by_cases hlt : k < subs.length
        · obtain ⟨ib, off, D, d, rfl, c0, c1, c2, c3, hti⟩ := sub_as HIT.out (HWW.out.mono HB.out) k hlt
          have hsi : (subs[k]'hlt).size ≤ 4294967296 := by have := gsize_mem subs _ (List.getElem_mem hlt); have h3 := HS.out; have h4 := SB.out; omega
          have hri : Right (subs[k]'hlt) := RS.out _ (List.getElem_mem hlt)
          have C1 := IH.out (subs[k]'hlt) _ B wr hti (Nat.le_trans HB.out HWW.out.size) hsi hri
          have CF := count_few _ hri
          have DR := Lib.hid (both_drop subs k o hlt)
          clear hti hsi hri
          generalize countG (subs[k]'hlt) = q at C1 CF DR
          have HC1 := Lib.hid C1
          clear C1
          generalize subs[k]'hlt = y at HC1 c0 c1 c2 c3
          have F2 := few_mul ho CF
          have FM := mul_fits ho CF
          obtain ⟨o1, o2⟩ := ho
          obtain ⟨q1, q2⟩ := CF
          obtain ⟨f1, f2⟩ := FM
          have F2 := Lib.hid F2
          go_wp2_with fail
          refine HC1.out.mono ?_
          rintro e w2 ⟨rfl, hb2⟩
          have B2 := Lib.hid (on HBW.out hb2)
          clear hb2
          go_wp2_with fail
          go_roundw
          case rel => exact ⟨k + 1, min 1048577 (o * q), hlt, by go_num, rfl, F2.out, B2.out, hz.out.trans DR.out⟩
          case measure => simp [intOf]; omega
        · have hr := Lib.hid (show countG (.node 3 a b subs) = o by
            rw [hz.out, List.drop_eq_nil_of_le (by omega), countBoth])
          go_wp2_with fail
          go_ret
          exact ⟨ret_v (a := .int .i64 o) (by rw [hr.out]), HWW.out⟩
    · obtain ⟨a3, a4, hl1⟩ := m4 rfl
      have hlt : 0 < subs.length := by omega
      have EV := Lib.hid (show countG (.node 4 a b subs) = manyN (countHead subs) (a + 1).toNat 0 1 by simp [countG])
      have HL1 := Lib.hid hl1
      clear m2 m4 m5 hl1
      have H0 := Lib.hid (show Below w.heap.size w (w.alloc (.cells #[.int .i64 4, .int .i64 a, .int .i64 b, .slice A subs.length c] 24)) from H0.out)
      obtain ⟨ib, off, D, d, rfl, c0, c1, c2, c3, hti⟩ := sub_as HIT.out (H0.out.mono HB.out) 0 hlt
      have hsi : (subs[0]'hlt).size ≤ 4294967296 := by have := gsize_mem subs _ (List.getElem_mem hlt); have h3 := HS.out; have h4 := SB.out; omega
      have hri : Right (subs[0]'hlt) := RS.out _ (List.getElem_mem hlt)
      have C1 := IH.out (subs[0]'hlt) _ B _ hti (Nat.le_trans HB.out H0.out.size) hsi hri
      have CF := count_few _ hri
      have HH := head_get subs hlt
      rw [HH] at EV
      clear hti hsi hri HH
      generalize countG (subs[0]'hlt) = q at C1 CF EV
      have HC1 := Lib.hid C1
      clear C1
      generalize subs[0]'hlt = y at HC1 c0 c1 c2 c3
      simp only [Nat.zero_mul, Nat.add_zero] at c0 c1 c2 c3
      have gl : decide (0 < subs.length) = true := by rw [decide_eq_true_eq]; exact hlt
      go_enter Tryd.func15, Tryd.ntmps15
      go_wp2_with fail
      refine HC1.out.mono ?_
      rintro e w2 ⟨rfl, hb2⟩
      have B2 := Lib.hid (on H0.out hb2)
      obtain ⟨_, cb1, _, _⟩ := gbox w w2 _ _ _ _ hb2
      clear hb2
      go_wp2_with fail
      go_loopw [9, 10, 11] (fun x p i wr => ∃ (k : Nat) (o u : Int), (k : Int) ≤ a + 1 ∧ i = .int .i64 k ∧ x = .int .i64 o ∧ p = .int .i64 u ∧ Few o ∧ Few u ∧ wr = w2 ∧ Hid (countG (.node 4 a b subs) = manyN q ((a + 1).toNat - k) o u)) (fun _ _ i _ => 7 - (intOf i).toNat)
      case atStart => exact ⟨0, 0, 1, by omega, rfl, rfl, rfl, ⟨by omega, by omega⟩, ⟨by omega, by omega⟩, rfl, EV.out⟩
      case round =>
        obtain ⟨k, o, u, hk, rfl, rfl, rfl, ho, hu, rfl, hz⟩ := hrel
        by_cases hlt : (k : Int) ≤ a
        · have F1 := few_add ho hu
          have F2 := few_mul hu CF
          have FM := mul_fits hu CF
          have hz2 := Lib.hid (show countG (.node 4 a b subs) = manyN q ((a + 1).toNat - (k + 1)) (min 1048577 (o + u)) (min 1048577 (u * q)) by
            rw [hz.out, show (a + 1).toNat - k = ((a + 1).toNat - (k + 1)) + 1 by omega, manyN])
          obtain ⟨o1, o2⟩ := ho
          obtain ⟨u1, u2⟩ := hu
          obtain ⟨q1, q2⟩ := CF
          obtain ⟨f1, f2⟩ := FM
          have F1 := Lib.hid F1
          have F2 := Lib.hid F2
          have gk : decide ((k : Int) ≤ a) = true := by rw [decide_eq_true_eq]; exact hlt
          go_wp2_with fail
          go_roundw
          case rel => exact ⟨k + 1, min 1048577 (o + u), min 1048577 (u * q), by omega, by go_num, rfl, rfl, F1.out, F2.out, trivial, hz2.out⟩
          case measure => simp [intOf]; omega
        · have hr := Lib.hid (show countG (.node 4 a b subs) = o by
            rw [hz.out, show (a + 1).toNat - k = 0 by omega, manyN])
          have gk : decide ((k : Int) ≤ a) = false := by rw [decide_eq_false_iff_not]; exact hlt
          go_wp2_with fail
          go_ret
          exact ⟨ret_v (a := .int .i64 o) (by rw [hr.out]), B2.out⟩
    · have EV := Lib.hid (show countG (.node 5 a b subs) = countAny subs 0 by simp [countG])
      clear m2 m4 m5
      go_enter Tryd.func15, Tryd.ntmps15
      go_wp2_with fail
      go_loopw [4, 5] (fun x i wr => ∃ (k : Nat) (o : Int), k ≤ subs.length ∧ i = .int .i64 k ∧ x = .int .i64 o ∧ Few o ∧ Below (w.alloc (.cells #[.int .i64 5, .int .i64 a, .int .i64 b, .slice A subs.length c] 24)).heap.size (w.alloc (.cells #[.int .i64 5, .int .i64 a, .int .i64 b, .slice A subs.length c] 24)) wr ∧ Hid (countG (.node 5 a b subs) = countAny (subs.drop k) o)) (fun _ i _ => subs.length - (intOf i).toNat)
      case atStart => exact ⟨0, 0, Nat.zero_le _, rfl, rfl, ⟨by omega, by omega⟩, Below.refl _ _, (show countG (.node 5 a b subs) = countAny (subs.drop 0) 0 from EV.out)⟩
      case round =>
        obtain ⟨k, o, hk, rfl, rfl, ho, hb, hz⟩ := hrel
        obtain ⟨_, _, _, cb⟩ := gbox w wr _ _ _ _ hb
        have HWW := Lib.hid (on H0.out hb)
        have HBW := Lib.hid hb
        clear hb
        by_cases hlt : k < subs.length
        · obtain ⟨ib, off, D, d, rfl, c0, c1, c2, c3, hti⟩ := sub_as HIT.out (HWW.out.mono HB.out) k hlt
          have hsi : (subs[k]'hlt).size ≤ 4294967296 := by have := gsize_mem subs _ (List.getElem_mem hlt); have h3 := HS.out; have h4 := SB.out; omega
          have hri : Right (subs[k]'hlt) := RS.out _ (List.getElem_mem hlt)
          have C1 := IH.out (subs[k]'hlt) _ B wr hti (Nat.le_trans HB.out HWW.out.size) hsi hri
          have CF := count_few _ hri
          have DR := Lib.hid (any_drop subs k o hlt)
          clear hti hsi hri
          generalize countG (subs[k]'hlt) = q at C1 CF DR
          have HC1 := Lib.hid C1
          clear C1
          generalize subs[k]'hlt = y at HC1 c0 c1 c2 c3
          have F2 := few_add ho CF
          have FM := mul_fits ho CF
          obtain ⟨o1, o2⟩ := ho
          obtain ⟨q1, q2⟩ := CF
          obtain ⟨f1, f2⟩ := FM
          have F2 := Lib.hid F2
          go_wp2_with fail
          refine HC1.out.mono ?_
          rintro e w2 ⟨rfl, hb2⟩
          have B2 := Lib.hid (on HBW.out hb2)
          clear hb2
          go_wp2_with fail
          go_roundw
          case rel => exact ⟨k + 1, min 1048577 (o + q), hlt, by go_num, rfl, F2.out, B2.out, hz.out.trans DR.out⟩
          case measure => simp [intOf]; omega
        · have hr := Lib.hid (show countG (.node 5 a b subs) = o by
            rw [hz.out, List.drop_eq_nil_of_le (by omega), countAny])
          go_wp2_with fail
          go_ret
          exact ⟨ret_v (a := .int .i64 o) (by rw [hr.out]), HWW.out⟩
end Go.Proofs.YtffkppjmdelajaaDoor.Gens

/- Slices of numbers (nil, empty or not) as lists; what such an argument reads as. Conditions: none. -/
namespace Go.Proofs.YtffkppjmdelajaaDoor.Ints
open Go.RowKit Go.WideShapes Go.ChangeShapes

/-- The slice at A holds the numbers l, below block B. -/
def At (w : World) (B : Nat) (A : Option Addr) (l : List Int) : Prop :=
  0 < l.length → ∃ b off, A = some ⟨b, off, none⟩ ∧ b < B ∧ ∀ j, j < l.length → w.cell? ⟨b, off + j, none⟩ = some (.int .i64 (l.getD j 0))

section
variable {w w' : World} {B : Nat} {A : Option Addr} {l : List Int}
theorem At.nil : At w B A [] := fun h => by simp at h
theorem At.keep (h : At w B A l) (hk : ∀ b o, b < B → w'.cell? ⟨b, o, none⟩ = w.cell? ⟨b, o, none⟩) : At w' B A l := fun hp => by
  obtain ⟨b, off, e, hb, hc⟩ := h hp
  exact ⟨b, off, e, hb, fun j hj => (hk b _ hb).trans (hc j hj)⟩
theorem At.more {B' : Nat} (h : At w B A l) (hB : B ≤ B') : At w B' A l := fun hp => by
  obtain ⟨b, off, e, hb, hc⟩ := h hp
  exact ⟨b, off, e, by omega, hc⟩
theorem At.below (h : At w B A l) (hb : Below B w w') : At w' B A l := h.keep fun b o hp => hb.cell (p := ⟨b, o, none⟩) hp
theorem At.drewN (h : At w B A l) (k : Nat) : At (w.drewN k) B A l := h
theorem At.drew (h : At w B A l) : At w.drew B A l := h
theorem At.alloc (h : At w B A l) (hB : B ≤ w.heap.size) (o : Obj) : At (w.alloc o) B A l := h.keep fun b p hp => World.cell?_alloc_lt w o ⟨b, p, none⟩ (by show b < _; omega)
theorem At.grown {row : Option Nat} (h : At w B A l) (hg : w.grownBy w' row) (hB : B ≤ w.heap.size) (hr : ∀ g, row = some g → B ≤ g) : At w' B A l :=
  h.below ((Below.refl _ _).grown hg hB hr)
theorem At.own {base E c : Nat} (h : w.ownsRow base E 1 (.slice A l.length c) l.length (l.map (Value.int .i64))) : At w w.heap.size A l := fun hp => by
  rcases h.2 with ⟨he, h0⟩ | ⟨g, cap, cur, he, _, hh, _, _, _, ht⟩
  · omega
  · have hA : A = some ⟨g, 0, none⟩ := by injection he
    refine ⟨g, 0, hA, ?_, fun j hj => ?_⟩
    · exact (Array.getElem?_eq_some_iff.1 hh).1
    · have hj' : cur.toList[j]? = some (.int .i64 (l.getD j 0)) := by
        have h1 : (cur.toList.take (l.length * 1))[j]? = some (.int .i64 (l.getD j 0)) := by
          rw [ht, List.getElem?_map, List.getElem?_eq_getElem hj]
          simp [List.getD, List.getElem?_eq_getElem hj]
        rw [List.getElem?_take] at h1
        split at h1
        · exact h1
        · cases h1
      rw [cell_of_row w g (0 + j) cur E (0, 0) hh]
      simpa [Array.getElem?_toList] using hj'
end

/-! A slice of numbers that came in. -/
set_option maxRecDepth 100000 in
theorem cellsInt : Tryd.prog.cellsOf 3 = 1 := by kernel_rfl
theorem bulk_lits {H : Type} (k : IntKind) (zs : List Int) : Rows.uptoBulkAll (lits (H := H) k zs) = zs.length := by
  induction zs with
  | nil => rfl
  | cons z zs ih =>
    show Rows.uptoBulk (DataW.lit (Lit.int k z)) + Rows.uptoBulkAll (lits (H := H) k zs) = _
    rw [ih]
    simp only [Rows.uptoBulk, List.length_cons]
    omega
set_option maxRecDepth 100000 in
theorem open_list {H : Type} {enc : TypeId × Value → H} {w : World} {base : Nat} {r : Reach} {b0 : Nat} {spare : Nat → Bool} {held : Bool} {v : Value} {d : DataW H} {ps : List MemPlace}
    (hval : Value.okWide Tryd.prog w r b0 25 v) (hd : DataW.Trod enc Tryd.prog w base spare held 25 v d ps) :
    ∃ (A : Option Addr) (l : List Int) (c : Nat), v = .slice A l.length c ∧ At w w.heap.size A l ∧ l.length + 1 ≤ Rows.uptoBulk d ∧ (∀ n ∈ l, (Lit.int .i64 n).wf = true) ∧ l.length ≤ c := by
  obtain ⟨a0, len, cap, rfl⟩ := okWide_slice Tryd.underlying25 hval
  obtain ⟨fuel, hf⟩ := hd
  rcases open_ints Tryd.underlying25 Tryd.underlying3 cellsInt hf with ⟨hcs, hx⟩ | ⟨a, len', cap', zs, hcs, _, hl, hm, hz, hx, hcell, hwz⟩
  · simp [Value.cells] at hcs
    obtain ⟨rfl, rfl, rfl⟩ := hcs
    simp only [Prod.mk.injEq] at hx
    obtain ⟨rfl, rfl⟩ := hx
    exact ⟨none, [], 0, rfl, At.nil, by simp [Rows.uptoBulk], by simp, Nat.le_refl _⟩
  · simp [Value.cells] at hcs
    obtain ⟨rfl, rfl, rfl⟩ := hcs
    simp only [Prod.mk.injEq] at hx
    obtain ⟨rfl, rfl⟩ := hx
    have hlen : (zs.take len).length = len := by
      rw [List.length_take]
      split at hz <;> omega
    refine ⟨some a, zs.take len, cap, by rw [hlen], fun hp => ?_, ?_, fun n hn => hwz n (List.mem_of_mem_take hn), by rw [hlen]; exact hl⟩
    · rw [hlen] at hp
      obtain ⟨b, off, rfl, hc⟩ := ints_at hcell (by split at hz <;> omega)
      have hc0 := hc 0 (by split at hz <;> omega)
      refine ⟨b, off, rfl, ?_, fun j hj => ?_⟩
      · rcases Nat.lt_or_ge b w.heap.size with h | h
        · exact h
        · simp [World.cell?, Array.getElem?_eq_none h] at hc0
      · rw [hlen] at hj
        rw [hc j (by split at hz <;> omega)]
        simp [List.getD, hj]
    · simp only [Rows.uptoBulk, bulk_lits, hlen]
      omega

end Go.Proofs.YtffkppjmdelajaaDoor.Ints

/- append of a slice of numbers (nil, empty or not) onto a row of the call's own. Conditions: the sizes. -/
namespace Go.Proofs.YtffkppjmdelajaaDoor.Ints
open Go.RowKit Go.WideShapes Go.ChangeShapes
set_option linter.unusedVariables false

/-- The row at A, of the call's own from 'base' on, holds the numbers z. -/
def Own (w : World) (base : Nat) (A : Option Addr) (c : Nat) (z : List Int) : Prop :=
  w.ownsRow base 3 1 (.slice A z.length c) z.length (z.map (Value.int .i64))
def rowOf (A : Option Addr) : Option Nat := A.map (·.block)
theorem rowOf_own (A : Option Addr) (n c : Nat) : (Value.slice A n c).ownBlock = rowOf A := by cases A <;> rfl

theorem Own.at_ {w : World} {base c : Nat} {A : Option Addr} {z : List Int} (h : Own w base A c z) : At w w.heap.size A z := At.own h
theorem Own.ge {w : World} {base c : Nat} {A : Option Addr} {z : List Int} (h : Own w base A c z) : ∀ g, rowOf A = some g → base ≤ g := by
  intro g hg
  rcases h.2 with ⟨he, _⟩ | ⟨g', cap, cur, he, hb, _⟩
  · injection he with he; subst he; cases hg
  · injection he with he; subst he
    have : g' = g := by simpa [rowOf] using hg
    omega
theorem Own.empty {w : World} {b : Nat} (h : w.heap[b]? = some (.cells #[] 3 (0, 0))) : Own w b (some ⟨b, 0, none⟩) 0 [] :=
  ⟨rfl, .inr ⟨b, 0, #[], rfl, Nat.le_refl _, h, Nat.le_refl _, Nat.zero_le _, rfl, rfl⟩⟩
theorem Own.none {w : World} {b : Nat} : Own w b none 0 [] := ⟨rfl, .inl ⟨rfl, rfl⟩⟩
theorem Own.grown {w w' : World} {base c : Nat} {A : Option Addr} {z : List Int} {row : Option Nat} (h : Own w base A c z) (hg : w.grownBy w' row) (hne : ∀ g, rowOf A = some g → row ≠ some g) : Own w' base A c z := by
  refine ⟨h.1, ?_⟩
  rcases h.2 with h0 | ⟨g, cap, cur, he, hb, hh, h1⟩
  · exact .inl h0
  · refine .inr ⟨g, cap, cur, he, hb, ?_, h1⟩
    injection he with he; subst he
    rw [hg.block g (Array.getElem?_eq_some_iff.1 hh).1 (fun e => hne g rfl e.symm)]
    exact hh

theorem Own.below {w w' : World} {base c : Nat} {A : Option Addr} {z : List Int} (h : Own w base A c z) (hb : Below w.heap.size w w') : Own w' base A c z :=
  h.grown (row := Option.none) ⟨hb.os, hb.tape, hb.output, hb.size, fun k hk _ => hb.block k hk⟩ (fun _ _ e => by cases e)
theorem int_info : (Tryd.prog.info? 3).map (fun i => (i.zero, i.size, i.bytes)) = some (some (.int .i64 0), 1, 8) := by kernel_rfl

set_option maxRecDepth 100000 in
theorem run_append_ints (w : World) (base c : Nat) (A : Option Addr) (z : List Int) (hown : Own w base A c z) (B : Nat) (A2 : Option Addr) (c2 : Nat) (l : List Int) (hr : At w B A2 l)
    (h63 : z.length + l.length ≤ 17592186044416) (hbase : base ≤ w.heap.size) (ty : TypeId) :
    ∃ A' c' w', (Builtin.append_ #[25, 25] ty #[.slice A z.length c, .slice A2 l.length c2]).run Tryd.prog w = .ok (.slice A' (z ++ l).length c') w' ∧ Own w' base A' c' (z ++ l) ∧ w.grownBy w' (rowOf A) ∧
      (rowOf A' = rowOf A ∨ rowOf A' = some w.heap.size) := by
  obtain ⟨i0, hi, hz, hsz, hby⟩ := info_parts int_info
  have one : ∀ u ∈ l.map (Value.int .i64), u.oneCell' = true := by
    intro u hu
    obtain ⟨n, _, rfl⟩ := List.mem_map.1 hu
    rfl
  cases A2 with
  | none =>
    have h0 : l = [] := by
      rcases Nat.eq_zero_or_pos l.length with h | h
      · exact List.eq_nil_of_length_eq_zero h
      · obtain ⟨b, off, e, _⟩ := hr h; cases e
    subst h0
    refine ⟨A, c, w, ?_, by simpa using hown, World.grownBy.refl w _, .inl rfl⟩
    have e : (z ++ []).length = z.length := by simp
    rw [e]
    rcases hown.2 with ⟨he, hn⟩ | ⟨g, cap, cur, he, _, _, hnc, _⟩
    · injection he with h1 h2 h3
      subst h1
      rw [hn]
      subst h3
      simp [Builtin.append_, run_underlying Tryd.underlying25, sizeOf, typeInfo, hi, Builtin.lenOf, Builtin.firstCells]
    · injection he with h1 h2 h3
      subst h1
      subst h3
      simp [Builtin.append_, run_underlying Tryd.underlying25, sizeOf, typeInfo, hi, Builtin.lenOf, Builtin.firstCells, hnc, storeCells]
  | some ad =>
    have hcells : ∀ j u, (l.map (Value.int .i64))[j]? = some u → w.cell? (ad.add j) = some u := by
      intro j u hu
      have hj : j < l.length := by
        rcases Nat.lt_or_ge j l.length with h | h
        · exact h
        · rw [List.getElem?_eq_none (by simpa using h)] at hu; cases hu
      obtain ⟨b, off, e, _, hc⟩ := hr (by omega)
      injection e with e
      subst e
      rw [Go.WideShapes.add_plain, hc j hj, ← hu, List.getElem?_map, List.getElem?_eq_getElem hj]
      simp [List.getD, List.getElem?_eq_getElem hj]
    obtain ⟨v', w', hrun, h2, h3, _, h5⟩ := run_append_own_at (P := Tryd.prog) w base 25 ty 3 i0 (.int .i64 0) 1 8 Tryd.underlying25 hi hz hsz hby rfl (by decide) _ z.length _ hown
      ad l.length c2 (l.map (Value.int .i64)) (by simp) hcells one (by simp only [maxLen]; omega) (by omega) hbase
    have hf : ∃ A' c', v' = .slice A' (z.length + l.length) c' := by
      rcases h2.2 with ⟨he, hn⟩ | ⟨g, cap, cur, he, _⟩
      · exact ⟨Option.none, 0, by rw [he, hn]⟩
      · exact ⟨_, _, he⟩
    obtain ⟨A', c', rfl⟩ := hf
    have e : (z ++ l).length = z.length + l.length := by simp
    refine ⟨A', c', w', by rw [e]; exact hrun, ?_, by rw [← rowOf_own A z.length c]; exact h3, ?_⟩
    · unfold Own
      rw [e, List.map_append]
      exact h2
    · rw [rowOf_own, rowOf_own] at h5
      exact h5

set_option maxRecDepth 100000 in
theorem wpList_append_ints {ops : Array Oper} {rest : List Oper} {o : Oper} {a : Act} {w : World} {Q : Exit → Act → World → Prop} (hgd : o.guard = none) (s x : Operand)
    (ho : o.op = .call { callee := .builtin .append, args := #[s, x], argTypes := #[25, 25] })
    (base c : Nat) (A : Option Addr) (z : List Int) (hown : Own w base A c z) (B : Nat) (A2 : Option Addr) (c2 : Nat) (l : List Int) (hr : At w B A2 l)
    (hs : a.eval s = .slice A z.length c) (hx : a.eval x = .slice A2 l.length c2)
    (h63 : z.length + l.length ≤ 17592186044416) (hbase : base ≤ w.heap.size)
    (h : ∀ A' c' w' (zl : List Int), Hid (zl = z ++ l) → Own w' base A' c' zl → w.grownBy w' (rowOf A) → (rowOf A' = rowOf A ∨ rowOf A' = some w.heap.size) → wpList Tryd.prog ops Q rest (a.put o.dst (.slice A' zl.length c')) w') : wpList Tryd.prog ops Q (o :: rest) a w := by
  obtain ⟨A', c', w', hrun, h2, h3, h4⟩ := run_append_ints w base c A z hown B A2 c2 l hr h63 hbase o.type
  refine wpList_plain hgd fun K hK => ?_
  unfold Oper.wp execOp
  simp only [ho, resolve, invoke, builtin, Sem.run_bind, Sem.run_pure, Result.andThen_ok, List.map_toArray, List.map_cons, List.map_nil, hs, hx, hrun]
  exact hK _ _ (h A' c' w' _ rfl h2 h3 h4)

end Go.Proofs.YtffkppjmdelajaaDoor.Ints

/- Contract of the document's own choice of a play. Condition: the sizes. -/
namespace Go.Proofs.YtffkppjmdelajaaDoor.Gens
open Go.RowKit Lists Ints
set_option linter.unusedVariables false

/-- the choices of a list, mended or read -/
def chC : Bool → List Int → Int → Except Int (Int × List Int)
  | true => mendC
  | false => readC
abbrev pcs (lb : Bool) (nm : Int) (VA : Option Addr) (vl vc : Nat) (TA : Option Addr) (tl tc : Nat) (a e : Int) : Obj := .cells #[.bool lb, .int .i64 nm, .slice VA vl vc, .slice TA tl tc, .int .i64 a, .int .i64 e] 84
abbrev pv (lb : Bool) (nm : Int) (VA : Option Addr) (vl vc : Nat) (TA : Option Addr) (tl tc : Nat) (a e : Int) : Value := .agg #[.bool lb, .int .i64 nm, .slice VA vl vc, .slice TA tl tc, .int .i64 a, .int .i64 e]
/-- the slice at A holds the numbers l, in a block of S -/
def AtS (w : World) (S : Nat → Prop) (A : Option Addr) (l : List Int) : Prop :=
  0 < l.length → ∃ b off, A = some ⟨b, off, none⟩ ∧ (S b ∧ b < w.heap.size) ∧ ∀ j, j < l.length → w.cell? ⟨b, off + j, none⟩ = some (.int .i64 (l.getD j 0))
theorem AtS.at_ {w : World} {S : Nat → Prop} {A : Option Addr} {l : List Int} (h : AtS w S A l) : At w w.heap.size A l := fun hp => by
  obtain ⟨b, off, e, hb, hc⟩ := h hp
  exact ⟨b, off, e, hb.2, hc⟩
theorem AtS.keep {w w' : World} {S S' : Nat → Prop} {A : Option Addr} {l : List Int} (h : AtS w S A l) (hk : ∀ b, S b → b < w.heap.size → (S' b ∧ b < w'.heap.size) ∧ ∀ o, w'.cell? ⟨b, o, none⟩ = w.cell? ⟨b, o, none⟩) : AtS w' S' A l := fun hp => by
  obtain ⟨b, off, e, hb, hc⟩ := h hp
  obtain ⟨h1, h2⟩ := hk b hb.1 hb.2
  exact ⟨b, off, e, h1, fun j hj => (h2 _).trans (hc j hj)⟩
theorem AtS.of {w : World} {B : Nat} {A : Option Addr} {l : List Int} (h : At w B A l) (hB : B ≤ w.heap.size) : AtS w (fun b => b < B) A l := fun hp => by
  obtain ⟨b, off, e, hb, hc⟩ := h hp
  exact ⟨b, off, e, ⟨hb, Nat.lt_of_lt_of_le hb hB⟩, hc⟩
theorem AtS.nil {w : World} {S : Nat → Prop} {A : Option Addr} : AtS w S A [] := fun h => by simp at h
def ChPost (w : World) (lb : Bool) (nm : Int) (VA : Option Addr) (vl vc : Nat) (t : List Int) (TA : Option Addr) (tc : Nat) (k : Nat) (r : Except Int (Int × List Int)) (e : Ending) (w' : World) : Prop :=
  Below w.heap.size w w' ∧ match r with
    | .ok (x, _) => ∃ (TA' : Option Addr) (tc' : Nat), e = .returned (.tuple #[pv lb nm VA vl vc TA' (t.length + 1) tc' (k + 1 : Nat) 0, .int .i64 x]) ∧ AtS w' (fun b => w.heap.size ≤ b) TA' (t ++ [x])
    | .error er => er ≠ 0 ∧ e = .returned (.tuple #[pv lb nm VA vl vc TA t.length tc k er, .int .i64 0])
theorem ChPost.bad {w w' : World} {lb : Bool} {nm : Int} {VA : Option Addr} {vl vc : Nat} {t : List Int} {TA : Option Addr} {tc k : Nat} {r : Except Int (Int × List Int)} {er : Int} (h : r = .error er) (hb : Below w.heap.size w w') (hne : er ≠ 0 := by decide) :
    ChPost w lb nm VA vl vc t TA tc k r (.returned (.tuple #[pv lb nm VA vl vc TA t.length tc k er, .int .i64 0])) w' := by
  subst h; exact ⟨hb, hne, rfl⟩
theorem ChPost.good {w w' : World} {lb : Bool} {nm : Int} {VA : Option Addr} {vl vc : Nat} {t : List Int} {TA : Option Addr} {tc k : Nat} {r : Except Int (Int × List Int)} {x : Int} {s z : List Int} {TA' : Option Addr} {tc' : Nat} {n : Int} (h : r = .ok (x, s)) (hb : Below w.heap.size w w')
    (hz : z = t ++ [x]) (ha : AtS w' (fun b => w.heap.size ≤ b) TA' z) (hn : n = (k + 1 : Nat)) : ChPost w lb nm VA vl vc t TA tc k r (.returned (.tuple #[pv lb nm VA vl vc TA' z.length tc' n 0, .int .i64 x])) w' := by
  subst h hz hn
  exact ⟨hb, TA', tc', by simp, ha⟩
theorem lone_at (b : Nat) (n : Int) (w : World) (h : w.cell? ⟨b, 0, none⟩ = some (.int .i64 n)) : At w (b + 1) (some ⟨b, 0, none⟩) [n] :=
  fun _ => ⟨b, 0, rfl, by omega, fun j hj => by
    obtain rfl : j = 0 := by simpa using hj
    exact h⟩
theorem new3 (w : World) (o p q : Obj) : (((w.alloc o).alloc p).alloc q).heap[w.heap.size + 1 + 1]? = some q := by
  have h := heap_alloc_new ((w.alloc o).alloc p) q
  have e : ((w.alloc o).alloc p).heap.size = w.heap.size + 1 + 1 := by simp
  rw [e] at h
  exact h
theorem new2 (w : World) (o p q : Obj) : (((w.alloc o).alloc p).alloc q).heap[w.heap.size + 1]? = some p := by
  have h := heap_alloc_new (w.alloc o) p
  have e : (w.alloc o).heap.size = w.heap.size + 1 := by simp
  rw [e] at h
  exact (((Below.refl (w.heap.size + 1 + 1) ((w.alloc o).alloc p)).alloc (by simp) q).block _ (by omega)).trans h
theorem new1 (w : World) (o p q : Obj) : (((w.alloc o).alloc p).alloc q).heap[w.heap.size]? = some o := by
  have h := heap_alloc_new w o
  exact ((((Below.refl (w.heap.size + 1) (w.alloc o)).alloc (by simp) p).alloc (by simp) q).block _ (by omega)).trans h
/-- all but two blocks are as they were -/
def Apart (b : Nat) (w w' : World) : Prop := w'.heap.size = w.heap.size ∧ ∀ c o, b + 1 + 1 ≤ c → w'.cell? ⟨c, o, none⟩ = w.cell? ⟨c, o, none⟩
theorem Apart.refl (b : Nat) (w : World) : Apart b w w := ⟨rfl, fun _ _ _ => rfl⟩
theorem Apart.set {b : Nat} {w w' : World} (h : Apart b w w') {p : Addr} (hp : p.block < b + 1 + 1) (v : Value) : Apart b w (w'.setCell p v) :=
  ⟨(World.size_setCell w' _ _).trans h.1, fun c o hc => (World.cell?_setCell_other _ _ _ _ (fun e => by rw [e] at hp; exact absurd hp (by simp; omega))).trans (h.2 c o hc)⟩
theorem Apart.at_ {b c : Nat} {w w' : World} (h : Apart b w w') {A : Option Addr} {z : List Int} (ho : Own w (b + 1 + 1) A c z) : AtS w' (fun g => b ≤ g) A z := by
  intro hp
  obtain ⟨g, off, rfl, hg, hc⟩ := ho.at_ hp
  have := ho.ge g rfl
  exact ⟨g, off, rfl, ⟨(by show b ≤ g; omega), by rw [h.1]; exact hg⟩, fun j hj => (h.2 g _ this).trans (hc j hj)⟩
theorem six_cells (w : World) (b : Nat) (x0 x1 x2 x3 x4 x5 : Value) {y0 y1 y2 y3 y4 y5 : Value} (c0 : w.cell? ⟨b, 0, none⟩ = some y0) (c1 : w.cell? ⟨b, 1, none⟩ = some y1) (c2 : w.cell? ⟨b, 2, none⟩ = some y2)
    (c3 : w.cell? ⟨b, 3, none⟩ = some y3) (c4 : w.cell? ⟨b, 4, none⟩ = some y4) (c5 : w.cell? ⟨b, 5, none⟩ = some y5) (W : World)
    (hW : W = (((((w.setCell ⟨b, 0, none⟩ x0).setCell ⟨b, 1, none⟩ x1).setCell ⟨b, 2, none⟩ x2).setCell ⟨b, 3, none⟩ x3).setCell ⟨b, 4, none⟩ x4).setCell ⟨b, 5, none⟩ x5) :
    W.cell? ⟨b, 0, none⟩ = some x0 ∧ W.cell? ⟨b, 1, none⟩ = some x1 ∧ W.cell? ⟨b, 2, none⟩ = some x2 ∧ W.cell? ⟨b, 3, none⟩ = some x3 ∧ W.cell? ⟨b, 4, none⟩ = some x4 ∧ W.cell? ⟨b, 5, none⟩ = some x5 := by
  have far : ∀ (u : World) (i j : Nat) (v : Value), i ≠ j → (u.setCell ⟨b, i, none⟩ v).cell? ⟨b, j, none⟩ = u.cell? ⟨b, j, none⟩ :=
    fun u i j v h => World.cell?_setCell_other _ _ _ _ (fun e => h (by injection e))
  subst hW
  refine ⟨?_, ?_, ?_, ?_, ?_, ?_⟩
  · rw [far _ 5 0 _ (by decide), far _ 4 0 _ (by decide), far _ 3 0 _ (by decide), far _ 2 0 _ (by decide), far _ 1 0 _ (by decide)]
    exact World.cell?_setCell_same _ _ _ c0
  · rw [far _ 5 1 _ (by decide), far _ 4 1 _ (by decide), far _ 3 1 _ (by decide), far _ 2 1 _ (by decide)]
    exact World.cell?_setCell_same _ _ _ ((far _ 0 1 _ (by decide)).trans c1)
  · rw [far _ 5 2 _ (by decide), far _ 4 2 _ (by decide), far _ 3 2 _ (by decide)]
    exact World.cell?_setCell_same _ _ _ ((far _ 1 2 _ (by decide)).trans ((far _ 0 2 _ (by decide)).trans c2))
  · rw [far _ 5 3 _ (by decide), far _ 4 3 _ (by decide)]
    exact World.cell?_setCell_same _ _ _ ((far _ 2 3 _ (by decide)).trans ((far _ 1 3 _ (by decide)).trans ((far _ 0 3 _ (by decide)).trans c3)))
  · rw [far _ 5 4 _ (by decide)]
    exact World.cell?_setCell_same _ _ _ ((far _ 3 4 _ (by decide)).trans ((far _ 2 4 _ (by decide)).trans ((far _ 1 4 _ (by decide)).trans ((far _ 0 4 _ (by decide)).trans c4))))
  · exact World.cell?_setCell_same _ _ _ ((far _ 4 5 _ (by decide)).trans ((far _ 3 5 _ (by decide)).trans ((far _ 2 5 _ (by decide)).trans ((far _ 1 5 _ (by decide)).trans ((far _ 0 5 _ (by decide)).trans c5)))))
theorem bel3 (w : World) (o p q : Obj) {N : Nat} (hN : N ≤ w.heap.size) : Below N w (((w.alloc o).alloc p).alloc q) :=
  (((Below.refl _ _).alloc hN _).alloc (by simp; omega) _).alloc (by simp; omega) _
theorem drop_at (l : List Int) (k : Nat) (h : k < l.length) : l.drop k = l.getD k 0 :: l.drop (k + 1) := drop_getD l k h

set_option maxHeartbeats 8000000 in
set_option maxRecDepth 100000 in
theorem choice_any (lb : Bool) (nm : Int) (VA : Option Addr) (vl vc : Nat) (t : List Int) (TA : Option Addr) (tc k : Nat) (l : List Int) (L : Option Addr) (lc : Nat) (mend : Bool) (most : Int) (N : Nat) (w : World)
    (ht : At w N TA t) (hl : At w N L l) (hN : N ≤ w.heap.size) (htl : t.length ≤ 4294967296) (hll : l.length ≤ 4294967296) (hk : k ≤ 4294967296) (hm : 0 ≤ most) :
    Calls Tryd.prog 71 #[pv lb nm VA vl vc TA t.length tc k 0, .slice L l.length lc, .bool mend, .int .i64 most] w (ChPost w lb nm VA vl vc t TA tc k (chC mend (l.drop k) most)) := by
  have HT := Lib.hid ht
  have HL := Lib.hid hl
  have HN := Lib.hid hN
  have H0 := Lib.hid (show Below w.heap.size w ((w.alloc (pcs lb nm VA vl vc TA t.length tc k 0)).alloc (pcs false 0 none 0 0 none 0 0 0 0)) from ((Below.refl _ _).alloc (Nat.le_refl _) _).alloc (by simp) _)
  clear ht hl hN
  by_cases hlt : k < l.length
  · obtain ⟨b, off, rfl, hbN, hcell⟩ := HL.out (by omega)
    have c1 := (H0.out.cell (p := ⟨b, off + k, none⟩) (by have := HN.out; show b < _; omega)).trans (hcell k hlt)
    clear hcell
    have DR := Lib.hid (drop_at l k hlt)
    generalize l.getD k 0 = x at c1 DR
    cases mend with
    | true =>
      have EV := Lib.hid (show chC true (l.drop k) most = .ok (max 0 (min x most), l.drop (k + 1)) by rw [DR.out]; rfl)
      have g2 : decide (max 0 (min x most) < 0) = false := by rw [decide_eq_false_iff_not]; omega
      have g3 : decide (most < max 0 (min x most)) = false := by rw [decide_eq_false_iff_not]; omega
      go_enter Tryd.func71, Tryd.ntmps71
      go_wp2_with (first
        | (at_builtin
           refine wpList_append_ints rfl (.tmp 43) (.tmp 45) rfl (w.heap.size + 1 + 1) 0 (some ⟨w.heap.size + 1 + 1, 0, none⟩) [] (Own.empty (new3 _ _ _ _)) N TA tc t (HT.out.below (bel3 _ _ _ _ HN.out)) rfl rfl (by simp; omega) (by simp) ?_
           intro A3 c3 w3 z3 hz3 own3 g3 r3
           have P3 := (Below.refl (w.heap.size + 1 + 1) _).grown g3 (by simp) (by intro k hk; simp [rowOf] at hk; omega)
           have Z3 : w.heap.size + 1 + 1 ≤ w3.heap.size := by have := P3.size; simp at this; omega
           have L3 := Lib.hid (show z3.length = t.length by rw [hz3.out]; simp))
        | (at_builtin
           refine wpList_append_ints rfl (.tmp 46) (.tmp 48) rfl (w.heap.size + 1 + 1) c3 A3 z3 (Own.below own3 ((Below.refl _ _).alloc (Nat.le_refl _) _)) (w3.heap.size + 1) (some ⟨w3.heap.size, 0, none⟩) 1 [max 0 (min x most)]
             (lone_at w3.heap.size _ _ (by simp)) rfl rfl (by have := L3.out; simp; omega) (by simp; omega) ?_
           intro A4 c4 w4 z4 hz4 own4 g4 r4
           have P4 := (P3.alloc Z3 (.cells #[.int .i64 (max 0 (min x most))] 3)).grown g4 (by simp; omega) own3.ge
           have E0 := (P4.block w.heap.size (by omega)).trans (new1 _ _ _ _)
           have E1 := (P4.block (w.heap.size + 1) (by omega)).trans (new2 _ _ _ _)
           have C00 : w4.cell? ⟨w.heap.size, 0, none⟩ = some (.bool lb) := by rw [Lib.cell_of_heap E0]; rfl
           have C01 : w4.cell? ⟨w.heap.size, 1, none⟩ = some (.int .i64 nm) := by rw [Lib.cell_of_heap E0]; rfl
           have C02 : w4.cell? ⟨w.heap.size, 2, none⟩ = some (.slice VA vl vc) := by rw [Lib.cell_of_heap E0]; rfl
           have C03 : w4.cell? ⟨w.heap.size, 3, none⟩ = some (.slice TA t.length tc) := by rw [Lib.cell_of_heap E0]; rfl
           have C04 : w4.cell? ⟨w.heap.size, 4, none⟩ = some (.int .i64 (k + 1)) := by rw [Lib.cell_of_heap E0]; rfl
           have C05 : w4.cell? ⟨w.heap.size, 5, none⟩ = some (.int .i64 0) := by rw [Lib.cell_of_heap E0]; rfl
           have F03 := Lib.frozen_of_heap E0 3
           have D00 : w4.cell? ⟨w.heap.size + 1, 0, none⟩ = some (.bool false) := by rw [Lib.cell_of_heap E1]; rfl
           have D01 : w4.cell? ⟨w.heap.size + 1, 1, none⟩ = some (.int .i64 0) := by rw [Lib.cell_of_heap E1]; rfl
           have D02 : w4.cell? ⟨w.heap.size + 1, 2, none⟩ = some (.slice none 0 0) := by rw [Lib.cell_of_heap E1]; rfl
           have D03 : w4.cell? ⟨w.heap.size + 1, 3, none⟩ = some (.slice none 0 0) := by rw [Lib.cell_of_heap E1]; rfl
           have D04 : w4.cell? ⟨w.heap.size + 1, 4, none⟩ = some (.int .i64 0) := by rw [Lib.cell_of_heap E1]; rfl
           have D05 : w4.cell? ⟨w.heap.size + 1, 5, none⟩ = some (.int .i64 0) := by rw [Lib.cell_of_heap E1]; rfl
           have G0 := Lib.frozen_of_heap E1 0
           have G1 := Lib.frozen_of_heap E1 1
           have G2 := Lib.frozen_of_heap E1 2
           have G3 := Lib.frozen_of_heap E1 3
           have G4 := Lib.frozen_of_heap E1 4
           have G5 := Lib.frozen_of_heap E1 5))
      have AP : Apart w.heap.size w4 (((((((w4.setCell ⟨w.heap.size, 3, none⟩ (.slice A4 z4.length c4)).setCell ⟨w.heap.size + 1, 0, none⟩ (.bool lb)).setCell ⟨w.heap.size + 1, 1, none⟩ (.int .i64 nm)).setCell ⟨w.heap.size + 1, 2, none⟩ (.slice VA vl vc)).setCell ⟨w.heap.size + 1, 3, none⟩ (.slice A4 z4.length c4)).setCell ⟨w.heap.size + 1, 4, none⟩ (.int .i64 (k + 1))).setCell ⟨w.heap.size + 1, 5, none⟩ (.int .i64 0)) := by
        refine Apart.set (Apart.set (Apart.set (Apart.set (Apart.set (Apart.set (Apart.set (Apart.refl _ _) ?_ _) ?_ _) ?_ _) ?_ _) ?_ _) ?_ _) ?_ _
        all_goals (simp only []; omega)
      have BW : Below w.heap.size w (((((((w4.setCell ⟨w.heap.size, 3, none⟩ (.slice A4 z4.length c4)).setCell ⟨w.heap.size + 1, 0, none⟩ (.bool lb)).setCell ⟨w.heap.size + 1, 1, none⟩ (.int .i64 nm)).setCell ⟨w.heap.size + 1, 2, none⟩ (.slice VA vl vc)).setCell ⟨w.heap.size + 1, 3, none⟩ (.slice A4 z4.length c4)).setCell ⟨w.heap.size + 1, 4, none⟩ (.int .i64 (k + 1))).setCell ⟨w.heap.size + 1, 5, none⟩ (.int .i64 0)) := by
        have B4 : Below w.heap.size w w4 := (bel3 w _ _ _ (Nat.le_refl _)).trans (P4.mono (by omega))
        refine Below.setCell (Below.setCell (Below.setCell (Below.setCell (Below.setCell (Below.setCell (Below.setCell B4 ?_ _) ?_ _) ?_ _) ?_ _) ?_ _) ?_ _) ?_ _
        all_goals (simp only []; omega)
      have far : ∀ j, (w4.setCell ⟨w.heap.size, 3, none⟩ (.slice A4 z4.length c4)).cell? ⟨w.heap.size + 1, j, none⟩ = w4.cell? ⟨w.heap.size + 1, j, none⟩ :=
        fun j => World.cell?_setCell_other _ _ _ _ (fun e => by injection e with e; omega)
      have Q := six_cells (w4.setCell ⟨w.heap.size, 3, none⟩ (.slice A4 z4.length c4)) (w.heap.size + 1) (.bool lb) (.int .i64 nm) (.slice VA vl vc) (.slice A4 z4.length c4) (.int .i64 (k + 1)) (.int .i64 0)
        ((far 0).trans D00) ((far 1).trans D01) ((far 2).trans D02) ((far 3).trans D03) ((far 4).trans D04) ((far 5).trans D05) _ rfl
      clear far
      generalize ((((((w4.setCell ⟨w.heap.size, 3, none⟩ (.slice A4 z4.length c4)).setCell ⟨w.heap.size + 1, 0, none⟩ (.bool lb)).setCell ⟨w.heap.size + 1, 1, none⟩ (.int .i64 nm)).setCell ⟨w.heap.size + 1, 2, none⟩ (.slice VA vl vc)).setCell ⟨w.heap.size + 1, 3, none⟩ (.slice A4 z4.length c4)).setCell ⟨w.heap.size + 1, 4, none⟩ (.int .i64 (k + 1))).setCell ⟨w.heap.size + 1, 5, none⟩ (.int .i64 0) = W at AP BW Q ⊢
      obtain ⟨q0, q1, q2, q3, q4, q5⟩ := Q
      refine bodyPost_ret (v := .tuple #[pv lb nm VA vl vc A4 z4.length c4 (k + 1) 0, .int .i64 (max 0 (min x most))]) (by simp [results, Tryd.results71, go_sem, q0, q1, q2, q3, q4, q5]) rfl ?_
      exact ChPost.good EV.out BW (by rw [hz4.out, hz3.out]; simp) (AP.at_ own4) (by simp)
    | false =>
      by_cases hr : 0 ≤ x ∧ x ≤ most
      · have EV := Lib.hid (show chC false (l.drop k) most = .ok (x, l.drop (k + 1)) by rw [DR.out]; unfold chC readC; simp only [if_pos hr])
        obtain ⟨r1, r2⟩ := hr
        have g2 : decide (x < 0) = false := by rw [decide_eq_false_iff_not]; omega
        have g3 : decide (most < x) = false := by rw [decide_eq_false_iff_not]; omega
        go_enter Tryd.func71, Tryd.ntmps71
        go_wp2_with (first
          | (at_builtin
             refine wpList_append_ints rfl (.tmp 43) (.tmp 45) rfl (w.heap.size + 1 + 1) 0 (some ⟨w.heap.size + 1 + 1, 0, none⟩) [] (Own.empty (new3 _ _ _ _)) N TA tc t (HT.out.below (bel3 _ _ _ _ HN.out)) rfl rfl (by simp; omega) (by simp) ?_
             intro A3 c3 w3 z3 hz3 own3 g3 r3
             have P3 := (Below.refl (w.heap.size + 1 + 1) _).grown g3 (by simp) (by intro k hk; simp [rowOf] at hk; omega)
             have Z3 : w.heap.size + 1 + 1 ≤ w3.heap.size := by have := P3.size; simp at this; omega
             have L3 := Lib.hid (show z3.length = t.length by rw [hz3.out]; simp))
          | (at_builtin
             refine wpList_append_ints rfl (.tmp 46) (.tmp 48) rfl (w.heap.size + 1 + 1) c3 A3 z3 (Own.below own3 ((Below.refl _ _).alloc (Nat.le_refl _) _)) (w3.heap.size + 1) (some ⟨w3.heap.size, 0, none⟩) 1 [x]
               (lone_at w3.heap.size _ _ (by simp)) rfl rfl (by have := L3.out; simp; omega) (by simp; omega) ?_
             intro A4 c4 w4 z4 hz4 own4 g4 r4
             have P4 := (P3.alloc Z3 (.cells #[.int .i64 (x)] 3)).grown g4 (by simp; omega) own3.ge
             have E0 := (P4.block w.heap.size (by omega)).trans (new1 _ _ _ _)
             have E1 := (P4.block (w.heap.size + 1) (by omega)).trans (new2 _ _ _ _)
             have C00 : w4.cell? ⟨w.heap.size, 0, none⟩ = some (.bool lb) := by rw [Lib.cell_of_heap E0]; rfl
             have C01 : w4.cell? ⟨w.heap.size, 1, none⟩ = some (.int .i64 nm) := by rw [Lib.cell_of_heap E0]; rfl
             have C02 : w4.cell? ⟨w.heap.size, 2, none⟩ = some (.slice VA vl vc) := by rw [Lib.cell_of_heap E0]; rfl
             have C03 : w4.cell? ⟨w.heap.size, 3, none⟩ = some (.slice TA t.length tc) := by rw [Lib.cell_of_heap E0]; rfl
             have C04 : w4.cell? ⟨w.heap.size, 4, none⟩ = some (.int .i64 (k + 1)) := by rw [Lib.cell_of_heap E0]; rfl
             have C05 : w4.cell? ⟨w.heap.size, 5, none⟩ = some (.int .i64 0) := by rw [Lib.cell_of_heap E0]; rfl
             have F03 := Lib.frozen_of_heap E0 3
             have D00 : w4.cell? ⟨w.heap.size + 1, 0, none⟩ = some (.bool false) := by rw [Lib.cell_of_heap E1]; rfl
             have D01 : w4.cell? ⟨w.heap.size + 1, 1, none⟩ = some (.int .i64 0) := by rw [Lib.cell_of_heap E1]; rfl
             have D02 : w4.cell? ⟨w.heap.size + 1, 2, none⟩ = some (.slice none 0 0) := by rw [Lib.cell_of_heap E1]; rfl
             have D03 : w4.cell? ⟨w.heap.size + 1, 3, none⟩ = some (.slice none 0 0) := by rw [Lib.cell_of_heap E1]; rfl
             have D04 : w4.cell? ⟨w.heap.size + 1, 4, none⟩ = some (.int .i64 0) := by rw [Lib.cell_of_heap E1]; rfl
             have D05 : w4.cell? ⟨w.heap.size + 1, 5, none⟩ = some (.int .i64 0) := by rw [Lib.cell_of_heap E1]; rfl
             have G0 := Lib.frozen_of_heap E1 0
             have G1 := Lib.frozen_of_heap E1 1
             have G2 := Lib.frozen_of_heap E1 2
             have G3 := Lib.frozen_of_heap E1 3
             have G4 := Lib.frozen_of_heap E1 4
             have G5 := Lib.frozen_of_heap E1 5))
        have AP : Apart w.heap.size w4 (((((((w4.setCell ⟨w.heap.size, 3, none⟩ (.slice A4 z4.length c4)).setCell ⟨w.heap.size + 1, 0, none⟩ (.bool lb)).setCell ⟨w.heap.size + 1, 1, none⟩ (.int .i64 nm)).setCell ⟨w.heap.size + 1, 2, none⟩ (.slice VA vl vc)).setCell ⟨w.heap.size + 1, 3, none⟩ (.slice A4 z4.length c4)).setCell ⟨w.heap.size + 1, 4, none⟩ (.int .i64 (k + 1))).setCell ⟨w.heap.size + 1, 5, none⟩ (.int .i64 0)) := by
          refine Apart.set (Apart.set (Apart.set (Apart.set (Apart.set (Apart.set (Apart.set (Apart.refl _ _) ?_ _) ?_ _) ?_ _) ?_ _) ?_ _) ?_ _) ?_ _
          all_goals (simp only []; omega)
        have BW : Below w.heap.size w (((((((w4.setCell ⟨w.heap.size, 3, none⟩ (.slice A4 z4.length c4)).setCell ⟨w.heap.size + 1, 0, none⟩ (.bool lb)).setCell ⟨w.heap.size + 1, 1, none⟩ (.int .i64 nm)).setCell ⟨w.heap.size + 1, 2, none⟩ (.slice VA vl vc)).setCell ⟨w.heap.size + 1, 3, none⟩ (.slice A4 z4.length c4)).setCell ⟨w.heap.size + 1, 4, none⟩ (.int .i64 (k + 1))).setCell ⟨w.heap.size + 1, 5, none⟩ (.int .i64 0)) := by
          have B4 : Below w.heap.size w w4 := (bel3 w _ _ _ (Nat.le_refl _)).trans (P4.mono (by omega))
          refine Below.setCell (Below.setCell (Below.setCell (Below.setCell (Below.setCell (Below.setCell (Below.setCell B4 ?_ _) ?_ _) ?_ _) ?_ _) ?_ _) ?_ _) ?_ _
          all_goals (simp only []; omega)
        have far : ∀ j, (w4.setCell ⟨w.heap.size, 3, none⟩ (.slice A4 z4.length c4)).cell? ⟨w.heap.size + 1, j, none⟩ = w4.cell? ⟨w.heap.size + 1, j, none⟩ :=
          fun j => World.cell?_setCell_other _ _ _ _ (fun e => by injection e with e; omega)
        have Q := six_cells (w4.setCell ⟨w.heap.size, 3, none⟩ (.slice A4 z4.length c4)) (w.heap.size + 1) (.bool lb) (.int .i64 nm) (.slice VA vl vc) (.slice A4 z4.length c4) (.int .i64 (k + 1)) (.int .i64 0)
          ((far 0).trans D00) ((far 1).trans D01) ((far 2).trans D02) ((far 3).trans D03) ((far 4).trans D04) ((far 5).trans D05) _ rfl
        clear far
        generalize ((((((w4.setCell ⟨w.heap.size, 3, none⟩ (.slice A4 z4.length c4)).setCell ⟨w.heap.size + 1, 0, none⟩ (.bool lb)).setCell ⟨w.heap.size + 1, 1, none⟩ (.int .i64 nm)).setCell ⟨w.heap.size + 1, 2, none⟩ (.slice VA vl vc)).setCell ⟨w.heap.size + 1, 3, none⟩ (.slice A4 z4.length c4)).setCell ⟨w.heap.size + 1, 4, none⟩ (.int .i64 (k + 1))).setCell ⟨w.heap.size + 1, 5, none⟩ (.int .i64 0) = W at AP BW Q ⊢
        obtain ⟨q0, q1, q2, q3, q4, q5⟩ := Q
        refine bodyPost_ret (v := .tuple #[pv lb nm VA vl vc A4 z4.length c4 (k + 1) 0, .int .i64 (x)]) (by simp [results, Tryd.results71, go_sem, q0, q1, q2, q3, q4, q5]) rfl ?_
        exact ChPost.good EV.out BW (by rw [hz4.out, hz3.out]; simp) (AP.at_ own4) (by simp)
      · have EV := Lib.hid (show chC false (l.drop k) most = .error 1 by rw [DR.out]; unfold chC readC; simp only [if_neg hr])
        rcases (show x < 0 ∨ (¬ x < 0 ∧ most < x) by omega) with q | ⟨q, q'⟩
        · have g2 : decide (x < 0) = true := by rw [decide_eq_true_eq]; exact q
          clear hr
          go_enter Tryd.func71, Tryd.ntmps71
          go_wp2_with fail
          refine bodyPost_ret (v := .tuple #[pv lb nm VA vl vc TA t.length tc k 1, .int .i64 0]) (by simp [results, Tryd.results71, go_sem]) rfl ?_
          exact .bad EV.out (((Below.refl _ _).alloc (Nat.le_refl _) _).alloc (by simp) _)
        · have g2 : decide (x < 0) = false := by rw [decide_eq_false_iff_not]; exact q
          have g3 : decide (most < x) = true := by rw [decide_eq_true_eq]; exact q'
          clear hr
          go_enter Tryd.func71, Tryd.ntmps71
          go_wp2_with fail
          refine bodyPost_ret (v := .tuple #[pv lb nm VA vl vc TA t.length tc k 1, .int .i64 0]) (by simp [results, Tryd.results71, go_sem]) rfl ?_
          exact .bad EV.out (((Below.refl _ _).alloc (Nat.le_refl _) _).alloc (by simp) _)
  · have DR := Lib.hid (show l.drop k = [] from List.drop_eq_nil_of_le (by omega))
    have g1 : decide ((k : Int) < l.length) = false := by rw [decide_eq_false_iff_not]; omega
    cases mend with
    | true =>
      have EV := Lib.hid (show chC true (l.drop k) most = .ok (max 0 (min 0 most), []) by rw [DR.out]; rfl)
      have g2 : decide (max 0 (min 0 most) < 0) = false := by rw [decide_eq_false_iff_not]; omega
      have g3 : decide (most < max 0 (min 0 most)) = false := by rw [decide_eq_false_iff_not]; omega
      go_enter Tryd.func71, Tryd.ntmps71
      go_wp2_with (first
        | (at_builtin
           refine wpList_append_ints rfl (.tmp 43) (.tmp 45) rfl (w.heap.size + 1 + 1) 0 (some ⟨w.heap.size + 1 + 1, 0, none⟩) [] (Own.empty (new3 _ _ _ _)) N TA tc t (HT.out.below (bel3 _ _ _ _ HN.out)) rfl rfl (by simp; omega) (by simp) ?_
           intro A3 c3 w3 z3 hz3 own3 g3 r3
           have P3 := (Below.refl (w.heap.size + 1 + 1) _).grown g3 (by simp) (by intro k hk; simp [rowOf] at hk; omega)
           have Z3 : w.heap.size + 1 + 1 ≤ w3.heap.size := by have := P3.size; simp at this; omega
           have L3 := Lib.hid (show z3.length = t.length by rw [hz3.out]; simp))
        | (at_builtin
           refine wpList_append_ints rfl (.tmp 46) (.tmp 48) rfl (w.heap.size + 1 + 1) c3 A3 z3 (Own.below own3 ((Below.refl _ _).alloc (Nat.le_refl _) _)) (w3.heap.size + 1) (some ⟨w3.heap.size, 0, none⟩) 1 [max 0 (min 0 most)]
             (lone_at w3.heap.size _ _ (by simp)) rfl rfl (by have := L3.out; simp; omega) (by simp; omega) ?_
           intro A4 c4 w4 z4 hz4 own4 g4 r4
           have P4 := (P3.alloc Z3 (.cells #[.int .i64 (max 0 (min 0 most))] 3)).grown g4 (by simp; omega) own3.ge
           have E0 := (P4.block w.heap.size (by omega)).trans (new1 _ _ _ _)
           have E1 := (P4.block (w.heap.size + 1) (by omega)).trans (new2 _ _ _ _)
           have C00 : w4.cell? ⟨w.heap.size, 0, none⟩ = some (.bool lb) := by rw [Lib.cell_of_heap E0]; rfl
           have C01 : w4.cell? ⟨w.heap.size, 1, none⟩ = some (.int .i64 nm) := by rw [Lib.cell_of_heap E0]; rfl
           have C02 : w4.cell? ⟨w.heap.size, 2, none⟩ = some (.slice VA vl vc) := by rw [Lib.cell_of_heap E0]; rfl
           have C03 : w4.cell? ⟨w.heap.size, 3, none⟩ = some (.slice TA t.length tc) := by rw [Lib.cell_of_heap E0]; rfl
           have C04 : w4.cell? ⟨w.heap.size, 4, none⟩ = some (.int .i64 (k + 1)) := by rw [Lib.cell_of_heap E0]; rfl
           have C05 : w4.cell? ⟨w.heap.size, 5, none⟩ = some (.int .i64 0) := by rw [Lib.cell_of_heap E0]; rfl
           have F03 := Lib.frozen_of_heap E0 3
           have D00 : w4.cell? ⟨w.heap.size + 1, 0, none⟩ = some (.bool false) := by rw [Lib.cell_of_heap E1]; rfl
           have D01 : w4.cell? ⟨w.heap.size + 1, 1, none⟩ = some (.int .i64 0) := by rw [Lib.cell_of_heap E1]; rfl
           have D02 : w4.cell? ⟨w.heap.size + 1, 2, none⟩ = some (.slice none 0 0) := by rw [Lib.cell_of_heap E1]; rfl
           have D03 : w4.cell? ⟨w.heap.size + 1, 3, none⟩ = some (.slice none 0 0) := by rw [Lib.cell_of_heap E1]; rfl
           have D04 : w4.cell? ⟨w.heap.size + 1, 4, none⟩ = some (.int .i64 0) := by rw [Lib.cell_of_heap E1]; rfl
           have D05 : w4.cell? ⟨w.heap.size + 1, 5, none⟩ = some (.int .i64 0) := by rw [Lib.cell_of_heap E1]; rfl
           have G0 := Lib.frozen_of_heap E1 0
           have G1 := Lib.frozen_of_heap E1 1
           have G2 := Lib.frozen_of_heap E1 2
           have G3 := Lib.frozen_of_heap E1 3
           have G4 := Lib.frozen_of_heap E1 4
           have G5 := Lib.frozen_of_heap E1 5))
      have AP : Apart w.heap.size w4 (((((((w4.setCell ⟨w.heap.size, 3, none⟩ (.slice A4 z4.length c4)).setCell ⟨w.heap.size + 1, 0, none⟩ (.bool lb)).setCell ⟨w.heap.size + 1, 1, none⟩ (.int .i64 nm)).setCell ⟨w.heap.size + 1, 2, none⟩ (.slice VA vl vc)).setCell ⟨w.heap.size + 1, 3, none⟩ (.slice A4 z4.length c4)).setCell ⟨w.heap.size + 1, 4, none⟩ (.int .i64 (k + 1))).setCell ⟨w.heap.size + 1, 5, none⟩ (.int .i64 0)) := by
        refine Apart.set (Apart.set (Apart.set (Apart.set (Apart.set (Apart.set (Apart.set (Apart.refl _ _) ?_ _) ?_ _) ?_ _) ?_ _) ?_ _) ?_ _) ?_ _
        all_goals (simp only []; omega)
      have BW : Below w.heap.size w (((((((w4.setCell ⟨w.heap.size, 3, none⟩ (.slice A4 z4.length c4)).setCell ⟨w.heap.size + 1, 0, none⟩ (.bool lb)).setCell ⟨w.heap.size + 1, 1, none⟩ (.int .i64 nm)).setCell ⟨w.heap.size + 1, 2, none⟩ (.slice VA vl vc)).setCell ⟨w.heap.size + 1, 3, none⟩ (.slice A4 z4.length c4)).setCell ⟨w.heap.size + 1, 4, none⟩ (.int .i64 (k + 1))).setCell ⟨w.heap.size + 1, 5, none⟩ (.int .i64 0)) := by
        have B4 : Below w.heap.size w w4 := (bel3 w _ _ _ (Nat.le_refl _)).trans (P4.mono (by omega))
        refine Below.setCell (Below.setCell (Below.setCell (Below.setCell (Below.setCell (Below.setCell (Below.setCell B4 ?_ _) ?_ _) ?_ _) ?_ _) ?_ _) ?_ _) ?_ _
        all_goals (simp only []; omega)
      have far : ∀ j, (w4.setCell ⟨w.heap.size, 3, none⟩ (.slice A4 z4.length c4)).cell? ⟨w.heap.size + 1, j, none⟩ = w4.cell? ⟨w.heap.size + 1, j, none⟩ :=
        fun j => World.cell?_setCell_other _ _ _ _ (fun e => by injection e with e; omega)
      have Q := six_cells (w4.setCell ⟨w.heap.size, 3, none⟩ (.slice A4 z4.length c4)) (w.heap.size + 1) (.bool lb) (.int .i64 nm) (.slice VA vl vc) (.slice A4 z4.length c4) (.int .i64 (k + 1)) (.int .i64 0)
        ((far 0).trans D00) ((far 1).trans D01) ((far 2).trans D02) ((far 3).trans D03) ((far 4).trans D04) ((far 5).trans D05) _ rfl
      clear far
      generalize ((((((w4.setCell ⟨w.heap.size, 3, none⟩ (.slice A4 z4.length c4)).setCell ⟨w.heap.size + 1, 0, none⟩ (.bool lb)).setCell ⟨w.heap.size + 1, 1, none⟩ (.int .i64 nm)).setCell ⟨w.heap.size + 1, 2, none⟩ (.slice VA vl vc)).setCell ⟨w.heap.size + 1, 3, none⟩ (.slice A4 z4.length c4)).setCell ⟨w.heap.size + 1, 4, none⟩ (.int .i64 (k + 1))).setCell ⟨w.heap.size + 1, 5, none⟩ (.int .i64 0) = W at AP BW Q ⊢
      obtain ⟨q0, q1, q2, q3, q4, q5⟩ := Q
      refine bodyPost_ret (v := .tuple #[pv lb nm VA vl vc A4 z4.length c4 (k + 1) 0, .int .i64 (max 0 (min 0 most))]) (by simp [results, Tryd.results71, go_sem, q0, q1, q2, q3, q4, q5]) rfl ?_
      exact ChPost.good EV.out BW (by rw [hz4.out, hz3.out]; simp) (AP.at_ own4) (by simp)
    | false =>
      have EV := Lib.hid (show chC false (l.drop k) most = .error 5 by rw [DR.out]; rfl)
      go_enter Tryd.func71, Tryd.ntmps71
      go_wp2_with fail
      refine bodyPost_ret (v := .tuple #[pv lb nm VA vl vc TA t.length tc k 5, .int .i64 0]) (by simp [results, Tryd.results71, go_sem]) rfl ?_
      exact .bad EV.out (((Below.refl _ _).alloc (Nat.le_refl _) _).alloc (by simp) _)
end Go.Proofs.YtffkppjmdelajaaDoor.Gens
