/- RankTells, part 4 of the proof: Plain laws on how many tapes a generator has. No program. · Enum: merged of Enum, EnumG, RisesP. · Plain laws: all tapes of a generator, as the document lists them, are those of its numbers in their order. No program. · Contracts of package rng's Next and Below: what each call gives. Conditions: none. · Plain facts on numbers of 64 bits: what 'mix' is good for. No Go in sight. · Small laws on memory: what is laid behind a call's own blocks; a block that holds a seed. -/
import Derived.Test.YtffkppjmdelajaaDoorRankTellsZ3
import Derived.Test.YtffkppjmdelajaaDoorRankTellsZ1
import Derived.Test.YtffkppjmdelajaaDoorRows
import Derived.WalkKit
import Derived.Deep.RegionWith
import Derived.Lib.Hide
import Derived.IntWalk
import Derived.ProofKit
import Derived.OpenShut
import Derived.ShutString
import Derived.ChangeOld
import Derived.Below
import Derived.Lib.SmallJoins
/- Plain laws on how many tapes a generator has. No program. -/
namespace Go.Proofs.YtffkppjmdelajaaDoor.Gens
set_option linter.unusedVariables false

def manyN (k : Int) : Nat → Int → Int → Int
  | 0, n, _ => n
  | i + 1, n, p => manyN k i (min 1048577 (n + p)) (min 1048577 (p * k))
mutual
def countG : Gn → Int
  | .node k a b subs => if k = 1 then 1 else if k = 2 then b - a + 1 else if k = 5 then countAny subs 0 else if k = 3 then countBoth subs 1 else manyN (countHead subs) (a + 1).toNat 0 1
def countAny : List Gn → Int → Int
  | [], n => n
  | g :: r, n => countAny r (min 1048577 (n + countG g))
def countBoth : List Gn → Int → Int
  | [], n => n
  | g :: r, n => countBoth r (min 1048577 (n * countG g))
def countHead : List Gn → Int
  | [] => 0
  | g :: _ => countG g
end
abbrev Few (n : Int) : Prop := 0 ≤ n ∧ n ≤ 1048577
theorem few_add {n m : Int} (h : Few n) (h' : Few m) : Few (min 1048577 (n + m)) := by
  obtain ⟨a, b⟩ := h
  obtain ⟨c, d⟩ := h'
  exact ⟨by omega, by omega⟩
theorem few_mul {n m : Int} (h : Few n) (h' : Few m) : Few (min 1048577 (n * m)) := by
  obtain ⟨a, b⟩ := h
  obtain ⟨c, d⟩ := h'
  have := Int.mul_nonneg a c
  exact ⟨by omega, by omega⟩
theorem mul_fits {n m : Int} (h : Few n) (h' : Few m) : 0 ≤ n * m ∧ n * m ≤ 1099513724929 := by
  obtain ⟨a, b⟩ := h
  obtain ⟨c, d⟩ := h'
  refine ⟨Int.mul_nonneg a c, ?_⟩
  have := Int.mul_le_mul b d c (by omega)
  omega
theorem few_many {k : Int} (hk : Few k) : ∀ i n p, Few n → Few p → Few (manyN k i n p)
  | 0, n, p, hn, hp => by rw [manyN]; exact hn
  | i + 1, n, p, hn, hp => by rw [manyN]; exact few_many hk i _ _ (few_add hn hp) (few_mul hp hk)
mutual
theorem count_few : ∀ (g : Gn), Right g → Few (countG g)
  | .node k a b subs, hg => by
    have hm := right_max hg
    have hs : ∀ x ∈ subs, Right x := hg.subs
    simp only [countG]
    split
    · exact ⟨by omega, by omega⟩
    · split
      · rename_i hk
        have := hm.1 hk
        exact ⟨by omega, by omega⟩
      · split
        · exact any_few subs hs 0 ⟨by omega, by omega⟩
        · split
          · exact both_few subs hs 1 ⟨by omega, by omega⟩
          · exact few_many (head_few subs hs) _ 0 1 ⟨by omega, by omega⟩ ⟨by omega, by omega⟩
theorem any_few : ∀ (l : List Gn), (∀ x ∈ l, Right x) → ∀ n, Few n → Few (countAny l n)
  | [], _, n, hn => by rw [countAny]; exact hn
  | g :: l, hl, n, hn => by
    rw [countAny]
    exact any_few l (fun x hx => hl x (by simp [hx])) _ (few_add hn (count_few g (hl g (by simp))))
theorem both_few : ∀ (l : List Gn), (∀ x ∈ l, Right x) → ∀ n, Few n → Few (countBoth l n)
  | [], _, n, hn => by rw [countBoth]; exact hn
  | g :: l, hl, n, hn => by
    rw [countBoth]
    exact both_few l (fun x hx => hl x (by simp [hx])) _ (few_mul hn (count_few g (hl g (by simp))))
theorem head_few : ∀ (l : List Gn), (∀ x ∈ l, Right x) → Few (countHead l)
  | [], _ => by rw [countHead]; exact ⟨by omega, by omega⟩
  | g :: l, hl => by rw [countHead]; exact count_few g (hl g (by simp))
end
theorem any_drop (l : List Gn) (k : Nat) (n : Int) (h : k < l.length) : countAny (l.drop k) n = countAny (l.drop (k + 1)) (min 1048577 (n + countG (l[k]'h))) := by
  rw [List.drop_eq_getElem_cons h, countAny]
theorem both_drop (l : List Gn) (k : Nat) (n : Int) (h : k < l.length) : countBoth (l.drop k) n = countBoth (l.drop (k + 1)) (min 1048577 (n * countG (l[k]'h))) := by
  rw [List.drop_eq_getElem_cons h, countBoth]
theorem head_get (l : List Gn) (h : 0 < l.length) : countHead l = countG (l[0]'h) := by
  cases l with
  | nil => simp at h
  | cons x r => rw [countHead]; rfl
end Go.Proofs.YtffkppjmdelajaaDoor.Gens

/- Enum: merged of Enum, EnumG, RisesP. -/
/- Plain laws on what can be numbered: one after the other, one of several. No program. -/
namespace Go.Proofs.YtffkppjmdelajaaDoor.Gens
set_option linter.unusedVariables false

/-- how many; the one of a number; the number of the one that a list begins with, and what stands behind it -/
structure En where
  cnt : Nat
  nth : Nat → List Int
  rank : List Int → Nat × List Int
/-- it differs first where it is less -/
def Ahead (a b : List Int) : Prop := ∃ (p : List Int) (x y : Int) (s t : List Int), a = p ++ x :: s ∧ b = p ++ y :: t ∧ x < y
theorem Ahead.behind {a b : List Int} (h : Ahead a b) (s t : List Int) : Ahead (a ++ s) (b ++ t) := by
  obtain ⟨p, x, y, s1, t1, rfl, rfl, hl⟩ := h
  exact ⟨p, x, y, s1 ++ s, t1 ++ t, by simp, by simp, hl⟩
theorem Ahead.front {a b : List Int} (h : Ahead a b) (q : List Int) : Ahead (q ++ a) (q ++ b) := by
  obtain ⟨p, x, y, s1, t1, rfl, rfl, hl⟩ := h
  exact ⟨q ++ p, x, y, s1, t1, by simp, by simp, hl⟩
structure Good (e : En) (T : List Int → Prop) : Prop where
  pos : 1 ≤ e.cnt
  tape : ∀ i, i < e.cnt → T (e.nth i)
  back : ∀ i, i < e.cnt → ∀ r, e.rank (e.nth i ++ r) = (i, r)
  all : ∀ c, T c → ∃ i, i < e.cnt ∧ e.nth i = c
  rises : ∀ i k, i < k → k < e.cnt → Ahead (e.nth i) (e.nth k)
theorem Good.congr {e : En} {T T' : List Int → Prop} (h : Good e T) (ht : ∀ c, T c ↔ T' c) : Good e T' :=
  ⟨h.pos, fun i hi => (ht _).1 (h.tape i hi), h.back, fun c hc => h.all c ((ht c).2 hc), h.rises⟩

def nilE : En := ⟨1, fun _ => [], fun l => (0, l)⟩
theorem good_nil : Good nilE (· = []) :=
  ⟨Nat.le_refl _, fun _ _ => rfl, fun i hi r => by have : i = 0 := by have hi : i < 1 := hi; omega
                                                   subst this; rfl, fun c hc => ⟨0, by decide, hc.symm⟩, fun i k h hk => by have hk : k < 1 := hk; omega⟩
def intE (n : Nat) : En := ⟨n, fun i => [(i : Int)], fun l => (l.head?.getD 0 |>.toNat, l.tail)⟩
theorem good_int (n : Nat) (h : 1 ≤ n) : Good (intE n) (fun c => ∃ x : Int, c = [x] ∧ 0 ≤ x ∧ x < n) :=
  ⟨h, fun i hi => ⟨i, rfl, by omega, by have hi : i < n := hi; omega⟩, fun i hi r => by simp [intE], fun c hc => by
    obtain ⟨x, rfl, h0, h1⟩ := hc
    refine ⟨x.toNat, by show _ < n; omega, ?_⟩
    show [((x.toNat : Nat) : Int)] = [x]
    rw [Int.toNat_of_nonneg h0], fun i k h hk => ⟨[], i, k, [], [], rfl, rfl, by omega⟩⟩
def consE (e es : En) : En := ⟨e.cnt * es.cnt, fun i => e.nth (i / es.cnt) ++ es.nth (i % es.cnt), fun l => ((e.rank l).1 * es.cnt + (es.rank (e.rank l).2).1, (es.rank (e.rank l).2).2)⟩
theorem good_cons {e es : En} {T Ts : List Int → Prop} (h : Good e T) (hs : Good es Ts) : Good (consE e es) (fun c => ∃ c1 c2, c = c1 ++ c2 ∧ T c1 ∧ Ts c2) := by
  have p1 := h.pos
  have p2 := hs.pos
  have hq : ∀ i, i < e.cnt * es.cnt → i / es.cnt < e.cnt ∧ i % es.cnt < es.cnt := fun i hi =>
    ⟨(Nat.div_lt_iff_lt_mul (by omega)).2 hi, Nat.mod_lt _ (by omega)⟩
  refine ⟨Nat.mul_pos p1 p2, fun i hi => ?_, fun i hi r => ?_, fun c hc => ?_, fun i k hik hk => ?_⟩
  · obtain ⟨a, b⟩ := hq i hi
    exact ⟨_, _, rfl, h.tape _ a, hs.tape _ b⟩
  · obtain ⟨a, b⟩ := hq i hi
    show ((e.rank ((e.nth (i / es.cnt) ++ es.nth (i % es.cnt)) ++ r)).1 * es.cnt + _, _) = _
    simp only [consE]
    rw [List.append_assoc, h.back _ a, hs.back _ b]
    simp only
    rw [Nat.div_add_mod']
  · obtain ⟨c1, c2, rfl, h1, h2⟩ := hc
    obtain ⟨i, hi, rfl⟩ := h.all c1 h1
    obtain ⟨k, hk, rfl⟩ := hs.all c2 h2
    refine ⟨i * es.cnt + k, ?_, ?_⟩
    · show _ < e.cnt * es.cnt
      have : (i + 1) * es.cnt ≤ e.cnt * es.cnt := Nat.mul_le_mul_right _ hi
      rw [Nat.add_mul] at this
      omega
    · show e.nth ((i * es.cnt + k) / es.cnt) ++ es.nth ((i * es.cnt + k) % es.cnt) = _
      rw [Nat.mul_comm, Nat.mul_add_div (by omega), Nat.div_eq_of_lt hk, Nat.mul_add_mod, Nat.mod_eq_of_lt hk]
      rfl
  · obtain ⟨a, b⟩ := hq k hk
    obtain ⟨a', b'⟩ := hq i (Nat.lt_trans hik hk)
    show Ahead (_ ++ _) (_ ++ _)
    by_cases hd : i / es.cnt < k / es.cnt
    · exact (h.rises _ _ hd a).behind _ _
    · have h1 : i / es.cnt ≤ k / es.cnt := Nat.div_le_div_right (Nat.le_of_lt hik)
      have h2 : i / es.cnt = k / es.cnt := by omega
      rw [h2]
      have e1 := Nat.div_add_mod i es.cnt
      have e2 := Nat.div_add_mod k es.cnt
      rw [h2] at e1
      exact (hs.rises _ _ (by omega) b).front _

def allE : List En → En
  | [] => nilE
  | e :: r => consE e (allE r)

def chooseC : List En → Nat
  | [] => 0
  | e :: r => e.cnt + chooseC r
def chooseN : Nat → List En → Nat → List Int
  | _, [], _ => []
  | c, e :: r, i => if i < e.cnt then (c : Int) :: e.nth i else chooseN (c + 1) r (i - e.cnt)
def rankAt : List En → Nat → List Int → Nat × List Int
  | [], _, l => (0, l)
  | e :: _, 0, l => e.rank l
  | e :: r, x + 1, l => (e.cnt + (rankAt r x l).1, (rankAt r x l).2)
def chooseE (L : List En) : En := ⟨chooseC L, chooseN 0 L, fun l => rankAt L (l.head?.getD 0).toNat l.tail⟩
theorem chooseC_app (l m : List En) : chooseC (l ++ m) = chooseC l + chooseC m := by
  induction l with
  | nil => simp [chooseC]
  | cons e r ih => simp only [List.cons_append, chooseC, ih]; omega
theorem chooseC_take (l : List En) (j : Nat) : chooseC (l.take j) ≤ chooseC l := by
  have := chooseC_app (l.take j) (l.drop j)
  rw [List.take_append_drop] at this
  omega
theorem chooseC_step (l : List En) (j : Nat) (h : j < l.length) : chooseC (l.take (j + 1)) = chooseC (l.take j) + (l[j]'h).cnt := by
  rw [List.take_succ_eq_append_getElem h, chooseC_app]; simp [chooseC]
theorem chooseC_mono (l : List En) {j k : Nat} (h : j ≤ k) : chooseC (l.take j) ≤ chooseC (l.take k) := by
  have := chooseC_take (l.take k) j
  rwa [List.take_take, Nat.min_eq_left h] at this
theorem choose_at : ∀ (L : List En) (c j : Nat) (h : j < L.length) (i : Nat), i < (L[j]'h).cnt → chooseN c L (chooseC (L.take j) + i) = ((c + j : Nat) : Int) :: (L[j]'h).nth i
  | [], c, j, h, i, hi => by simp at h
  | e :: r, c, 0, h, i, hi => by
    have hi : i < e.cnt := hi
    simp only [List.take_zero, chooseC, Nat.zero_add, chooseN, if_pos hi]
    rfl
  | e :: r, c, j + 1, h, i, hi => by
    have hi : i < (r[j]'(by simpa using h)).cnt := hi
    simp only [List.take_succ_cons, chooseC, chooseN]
    rw [if_neg (by omega), show e.cnt + chooseC (r.take j) + i - e.cnt = chooseC (r.take j) + i by omega, choose_at r (c + 1) j (by simpa using h) i hi]
    simp only [List.getElem_cons_succ]
    rw [show c + 1 + j = c + (j + 1) by omega]
theorem choose_ex : ∀ (L : List En) (i : Nat), i < chooseC L → ∃ (j : Nat) (h : j < L.length) (i' : Nat), i' < (L[j]'h).cnt ∧ i = chooseC (L.take j) + i'
  | [], i, hi => by simp [chooseC] at hi
  | e :: r, i, hi => by
    simp only [chooseC] at hi
    by_cases h : i < e.cnt
    · exact ⟨0, by simp, i, h, by simp [chooseC]⟩
    · obtain ⟨j, hj, i', h1, h2⟩ := choose_ex r (i - e.cnt) (by omega)
      exact ⟨j + 1, by simpa using hj, i', h1, by simp only [List.take_succ_cons, chooseC]; omega⟩
theorem rank_at : ∀ (L : List En) (j : Nat) (h : j < L.length) (l : List Int), rankAt L j l = (chooseC (L.take j) + ((L[j]'h).rank l).1, ((L[j]'h).rank l).2)
  | [], j, h, l => by simp at h
  | e :: r, 0, h, l => by simp [rankAt, chooseC]
  | e :: r, j + 1, h, l => by
    simp only [rankAt, rank_at r j (by simpa using h) l, List.take_succ_cons, chooseC, List.getElem_cons_succ]
    rw [Nat.add_assoc]
theorem good_choose (L : List En) (Ts : Nat → List Int → Prop) (hp : 0 < L.length) (hg : ∀ j (h : j < L.length), Good (L[j]'h) (Ts j)) :
    Good (chooseE L) (fun c => ∃ (j : Nat) (c' : List Int), j < L.length ∧ c = (j : Int) :: c' ∧ Ts j c') := by
  refine ⟨?_, fun i hi => ?_, fun i hi r => ?_, fun c hc => ?_, fun i k hik hk => ?_⟩
  · show 1 ≤ chooseC L
    have h1 := chooseC_step L 0 hp
    have h2 := chooseC_take L 1
    have h3 := (hg 0 hp).pos
    simp only [Nat.zero_add] at h1
    omega
  · obtain ⟨j, hj, i', h1, rfl⟩ := choose_ex L i hi
    exact ⟨j, (L[j]'hj).nth i', hj, (by show chooseN 0 L _ = _; rw [choose_at L 0 j hj i' h1, Nat.zero_add]), (hg j hj).tape i' h1⟩
  · obtain ⟨j, hj, i', h1, rfl⟩ := choose_ex L i hi
    show rankAt L _ _ = _
    have e1 : (chooseE L).nth (chooseC (L.take j) + i') = ((j : Nat) : Int) :: (L[j]'hj).nth i' := by
      show chooseN 0 L _ = _
      rw [choose_at L 0 j hj i' h1, Nat.zero_add]
    rw [e1]
    simp only [List.cons_append, List.head?_cons, Option.getD_some, List.tail_cons, Int.toNat_natCast]
    rw [rank_at L j hj, (hg j hj).back i' h1]
  · obtain ⟨j, c', hj, rfl, ht⟩ := hc
    obtain ⟨i, hi, rfl⟩ := (hg j hj).all c' ht
    refine ⟨chooseC (L.take j) + i, ?_, ?_⟩
    · show _ < chooseC L
      have h1 := chooseC_step L j hj
      have h2 := chooseC_take L (j + 1)
      omega
    · show chooseN 0 L _ = _
      rw [choose_at L 0 j hj i hi, Nat.zero_add]
  · obtain ⟨j, hj, i', h1, rfl⟩ := choose_ex L i (Nat.lt_trans hik hk)
    obtain ⟨j', hj', k', h1', rfl⟩ := choose_ex L k hk
    show Ahead (chooseN 0 L _) (chooseN 0 L _)
    rw [choose_at L 0 j hj i' h1, choose_at L 0 j' hj' k' h1', Nat.zero_add, Nat.zero_add]
    rcases Nat.lt_trichotomy j j' with hlt | heq | hgt
    · exact ⟨[], j, j', _, _, rfl, rfl, by omega⟩
    · subst heq
      exact ((hg j hj).rises i' k' (by omega) h1').front [(j : Int)]
    · have h2 := chooseC_step L j' hj'
      have h3 := chooseC_mono L (show j' + 1 ≤ j by omega)
      omega
end Go.Proofs.YtffkppjmdelajaaDoor.Gens

/- Plain laws on the tapes of a generator, numbered. No program. -/
namespace Go.Proofs.YtffkppjmdelajaaDoor.Gens
open Vals
set_option linter.unusedVariables false

/-- a tape of a generator; of generators, one behind the other -/
def TG (g : Gn) (c : List Int) : Prop := ∃ v, play readC g c = .ok (c, v, [])
def TL (l : List Gn) (c : List Int) : Prop := ∃ vs, playAll readC l c = .ok (c, vs, [])
theorem tg_more {g : Gn} (hg : Right g) {c : List Int} {v : Tr} (h : play readC g c = .ok (c, v, [])) (r : List Int) : play readC g (c ++ r) = .ok (c, v, r) :=
  play_again read_bounded read_reads g hg c c v [] h r
theorem tg_of {g : Gn} (hg : Right g) {s c r : List Int} {v : Tr} (h : play readC g s = .ok (c, v, r)) : play readC g c = .ok (c, v, []) := by
  have := play_again read_bounded read_reads g hg s c v r h []
  rwa [List.append_nil] at this
theorem tl_of {l : List Gn} (hl : ∀ x ∈ l, Right x) {s c r : List Int} {vs : List Tr} (h : playAll readC l s = .ok (c, vs, r)) : playAll readC l c = .ok (c, vs, []) := by
  have := all_again read_bounded read_reads l hl s c vs r h []
  rwa [List.append_nil] at this
theorem tl_nil (c : List Int) : TL [] c ↔ c = [] := by
  unfold TL
  simp only [playAll]
  constructor
  · rintro ⟨vs, h⟩; simp at h; exact h.1
  · rintro rfl; exact ⟨[], rfl⟩
theorem tl_cons {g : Gn} {l : List Gn} (hg : Right g) (hl : ∀ x ∈ l, Right x) (c : List Int) : TL (g :: l) c ↔ ∃ c1 c2, c = c1 ++ c2 ∧ TG g c1 ∧ TL l c2 := by
  unfold TL TG
  constructor
  · rintro ⟨vs, h⟩
    simp only [playAll] at h
    cases h1 : play readC g c with
    | error e => rw [h1] at h; cases h
    | ok p =>
      obtain ⟨c1, v, s1⟩ := p
      simp only [h1] at h
      cases h2 : playAll readC l s1 with
      | error e => simp only [h2] at h; cases h
      | ok q =>
        obtain ⟨c2, vs2, s2⟩ := q
        simp only [h2, Except.ok.injEq, Prod.mk.injEq] at h
        obtain ⟨rfl, rfl, rfl⟩ := h
        exact ⟨c1, c2, rfl, ⟨v, tg_of hg h1⟩, vs2, tl_of hl h2⟩
  · rintro ⟨c1, c2, rfl, ⟨v, h1⟩, vs, h2⟩
    exact ⟨v :: vs, by simp only [playAll, tg_more hg h1 c2, h2]⟩

def manyB (l : List En) (n : Nat) : List En := match l with
  | [] => []
  | e :: _ => (List.range' 0 n).map fun c => allE (List.replicate c e)
mutual
def enG : Gn → En
  | .node k a b subs => if k = 1 then nilE else if k = 2 then intE (b - a + 1).toNat else if k = 3 then allE (enGs subs) else if k = 5 then chooseE ((enGs subs).map fun e => allE [e]) else chooseE (manyB (enGs subs) (a + 1).toNat)
def enGs : List Gn → List En
  | [] => []
  | g :: r => enG g :: enGs r
end
theorem enGs_map : ∀ l : List Gn, enGs l = l.map enG
  | [] => rfl
  | g :: r => by rw [enGs, enGs_map r, List.map_cons]
/-- the parts that make choices behind the first one -/
def follow (g : Gn) (c : Nat) : List Gn := if g.kind = 4 then List.replicate c (g.subs.headD default) else (g.subs.drop c).take 1
/-- what the first choice leads to -/
def branches (g : Gn) : List En := if g.kind = 4 then manyB (enGs g.subs) (g.a + 1).toNat else (enGs g.subs).map fun e => allE [e]
theorem branch_len {g : Gn} (hg : Right g) (hk : g.kind = 4 ∨ g.kind = 5) : (branches g).length = if g.kind = 4 then (g.a + 1).toNat else g.subs.length := by
  cases g with | node k a b subs =>
  simp only [Gn.kind] at hk
  unfold branches
  simp only [Gn.kind, Gn.a, Gn.subs]
  rcases hk with rfl | rfl
  · have hl := ((right_max hg).2.2.1 rfl).2.2
    match subs, hl with
    | [x], _ => simp [enGs, manyB]
  · simp [enGs_map]
theorem branch_get {g : Gn} (hg : Right g) (hk : g.kind = 4 ∨ g.kind = 5) (j : Nat) (h : j < (branches g).length) : (branches g)[j]'h = allE ((follow g j).map enG) := by
  have hlen := branch_len hg hk
  cases g with | node k a b subs =>
  simp only [Gn.kind] at hk
  unfold branches at h hlen ⊢
  unfold follow
  simp only [Gn.kind, Gn.a, Gn.subs] at h hlen ⊢
  rcases hk with rfl | rfl
  · have hl := ((right_max hg).2.2.1 rfl).2.2
    match subs, hl with
    | [x], _ => simp [enGs, manyB]
  · simp only [enGs_map] at h hlen ⊢
    simp only [show ¬ (5 : Int) = 4 by omega, if_false] at h hlen ⊢
    have hj : j < subs.length := by simpa using h
    simp only [List.getElem_map]
    rw [List.drop_eq_getElem_cons hj, List.take_succ_cons, List.take_zero, List.map_cons, List.map_nil]
theorem enG_choose (g : Gn) (hk : g.kind = 4 ∨ g.kind = 5) : enG g = chooseE (branches g) := by
  cases g with | node k a b subs =>
  simp only [Gn.kind] at hk
  unfold branches
  simp only [Gn.kind, Gn.a, Gn.subs]
  rcases hk with rfl | rfl <;> simp [enG]
theorem enG_both (a b : Int) (subs : List Gn) : enG (.node 3 a b subs) = allE (subs.map enG) := by simp [enG, enGs_map]
theorem enG_int (a b : Int) (subs : List Gn) : enG (.node 2 a b subs) = intE (b - a + 1).toNat := by simp [enG]
theorem enG_just (a b : Int) (subs : List Gn) : enG (.node 1 a b subs) = nilE := by simp [enG]
theorem follow_right {g : Gn} (hg : Right g) (hk : g.kind = 4 ∨ g.kind = 5) (j : Nat) : ∀ x ∈ follow g j, x ∈ g.subs := by
  intro x hx
  unfold follow at hx
  split at hx
  · rename_i h4
    cases g with | node k a b subs =>
    simp only [Gn.kind] at h4
    subst h4
    have hl := ((right_max hg).2.2.1 rfl).2.2
    match subs, hl with
    | [y], _ =>
      have := List.eq_of_mem_replicate hx
      subst this
      simp [Gn.subs]
  · exact List.mem_of_mem_drop (List.mem_of_mem_take hx)

theorem good_list : ∀ (l : List Gn), (∀ x ∈ l, Right x) → (∀ x ∈ l, Good (enG x) (TG x)) → Good (allE (l.map enG)) (TL l)
  | [], _, _ => good_nil.congr fun c => (tl_nil c).symm
  | g :: r, hr, hg => (good_cons (hg g (by simp)) (good_list r (fun x hx => hr x (by simp [hx])) (fun x hx => hg x (by simp [hx])))).congr fun c => (tl_cons (hr g (by simp)) (fun x hx => hr x (by simp [hx])) c).symm
theorem toNat_cast {x : Int} (h : 0 ≤ x) : ((x.toNat : Nat) : Int) = x := Int.toNat_of_nonneg h
theorem tg_choose {g : Gn} (hg : Right g) (hk : g.kind = 4 ∨ g.kind = 5) (c : List Int) : TG g c ↔ ∃ (j : Nat) (c' : List Int), j < (branches g).length ∧ c = (j : Int) :: c' ∧ TL (follow g j) c' := by
  have hlen := branch_len hg hk
  have hm := right_max (k := g.kind) (a := g.a) (b := g.b) (subs := g.subs) (by cases g with | node k a b s => exact hg)
  have hs := hg.subs
  rw [hlen]
  clear hlen
  cases g with | node k a b subs =>
  simp only [Gn.kind, Gn.a, Gn.b, Gn.subs] at hk hm hs ⊢
  unfold TG follow
  simp only [Gn.kind, Gn.subs]
  rcases hk with rfl | rfl
  · obtain ⟨m0, m5, hl⟩ := hm.2.2.1 rfl
    match subs, hl with
    | [x], _ =>
      simp only [if_true, List.headD_cons]
      constructor
      · rintro ⟨v, h⟩
        simp only [play, show ¬ (4 : Int) = 1 by omega, show ¬ (4 : Int) = 2 by omega, show ¬ (4 : Int) = 5 by omega, show ¬ (4 : Int) = 3 by omega, if_false] at h
        cases h1 : readC c a with
        | error e => rw [h1] at h; cases h
        | ok p =>
          obtain ⟨y, s1⟩ := p
          obtain ⟨b1, b2⟩ := read_bounded _ _ _ _ m0 h1
          simp only [h1, rep_all'] at h
          cases h2 : playAll readC (List.replicate y.toNat x) s1 with
          | error e => simp only [h2] at h; cases h
          | ok q =>
            obtain ⟨c2, vs, s2⟩ := q
            simp only [h2, Except.ok.injEq, Prod.mk.injEq] at h
            obtain ⟨rfl, _, rfl⟩ := h
            have ht := tl_of (fun z hz => by rw [List.eq_of_mem_replicate hz]; exact hs x (by simp)) h2
            exact ⟨y.toNat, c2, by omega, by rw [toNat_cast b1], vs, ht⟩
      · rintro ⟨j, c', hj, rfl, vs, h2⟩
        refine ⟨.node true 0 vs, ?_⟩
        simp only [play, show ¬ (4 : Int) = 1 by omega, show ¬ (4 : Int) = 2 by omega, show ¬ (4 : Int) = 5 by omega, show ¬ (4 : Int) = 3 by omega, if_false]
        rw [read_reads (j : Int) a c' (by omega) (by omega)]
        simp only [rep_all', Int.toNat_natCast, h2]
  · have hp := hm.2.1 rfl
    simp only [show ¬ (5 : Int) = 4 by omega, if_false]
    constructor
    · rintro ⟨v, h⟩
      simp only [play, show ¬ (5 : Int) = 1 by omega, show ¬ (5 : Int) = 2 by omega, if_false, if_true] at h
      cases h1 : readC c (subs.length - 1) with
      | error e => rw [h1] at h; cases h
      | ok p =>
        obtain ⟨y, s1⟩ := p
        obtain ⟨b1, b2⟩ := read_bounded _ _ _ _ hp h1
        have hy : y.toNat < subs.length := by omega
        simp only [h1, at_get _ _ _ hy] at h
        cases h2 : play readC (subs[y.toNat]'hy) s1 with
        | error e => simp only [h2] at h; cases h
        | ok q =>
          obtain ⟨c2, v2, s2⟩ := q
          simp only [h2, Except.ok.injEq, Prod.mk.injEq] at h
          obtain ⟨rfl, _, rfl⟩ := h
          have hry := hs _ (List.getElem_mem hy)
          have ht := tg_of hry h2
          refine ⟨y.toNat, c2, hy, by rw [toNat_cast b1], ?_⟩
          rw [List.drop_eq_getElem_cons hy, List.take_succ_cons, List.take_zero, tl_cons hry (by simp)]
          exact ⟨c2, [], by simp, ⟨v2, ht⟩, [], rfl⟩
    · rintro ⟨j, c', hj, rfl, h2⟩
      have hry := hs _ (List.getElem_mem hj)
      rw [List.drop_eq_getElem_cons hj, List.take_succ_cons, List.take_zero, tl_cons hry (by simp)] at h2
      obtain ⟨c1, c2, rfl, ⟨v, h3⟩, h4⟩ := h2
      rw [tl_nil] at h4
      subst h4
      rw [List.append_nil]
      refine ⟨v, ?_⟩
      simp only [play, show ¬ (5 : Int) = 1 by omega, show ¬ (5 : Int) = 2 by omega, if_false, if_true]
      rw [read_reads (j : Int) _ c1 (by omega) (by omega)]
      simp only [Int.toNat_natCast, at_get _ _ _ hj, h3]
mutual
/-- all tapes of a right generator, each once, in their order -/
theorem good_gen : ∀ (g : Gn), Right g → Good (enG g) (TG g)
  | .node k a b subs, hg => by
    have hm := right_max hg
    have hs := good_gens subs hg.subs
    have hsub : ∀ x ∈ subs, Right x := hg.subs
    rcases (show k = 1 ∨ k = 2 ∨ k = 3 ∨ k = 4 ∨ k = 5 by omega) with rfl | rfl | rfl | h45
    · rw [enG_just]
      refine good_nil.congr fun c => ?_
      unfold TG
      simp only [play, if_true]
      constructor
      · rintro rfl; exact ⟨_, rfl⟩
      · rintro ⟨v, h⟩; simp only [Except.ok.injEq, Prod.mk.injEq] at h; exact h.1.symm
    · rw [enG_int]
      obtain ⟨h0, _⟩ := hm.1 rfl
      refine (good_int _ (by omega)).congr fun c => ?_
      unfold TG
      simp only [play, show ¬ (2 : Int) = 1 by omega, if_false, if_true]
      constructor
      · rintro ⟨x, rfl, h1, h2⟩
        rw [read_reads x _ [] h1 (by omega)]
        exact ⟨_, rfl⟩
      · rintro ⟨v, h⟩
        cases h1 : readC c (b - a) with
        | error e => rw [h1] at h; cases h
        | ok p =>
          obtain ⟨y, s1⟩ := p
          obtain ⟨b1, b2⟩ := read_bounded _ _ _ _ h0 h1
          simp only [h1, Except.ok.injEq, Prod.mk.injEq] at h
          exact ⟨y, h.1.symm, b1, by omega⟩
    · rw [enG_both]
      refine (good_list subs hsub hs).congr fun c => ?_
      unfold TL TG
      simp only [play, show ¬ (3 : Int) = 1 by omega, show ¬ (3 : Int) = 2 by omega, show ¬ (3 : Int) = 5 by omega, if_false, if_true]
      constructor
      · rintro ⟨vs, h⟩; rw [h]; exact ⟨_, rfl⟩
      · rintro ⟨v, h⟩
        cases h1 : playAll readC subs c with
        | error e => rw [h1] at h; cases h
        | ok q =>
          obtain ⟨c2, vs, s2⟩ := q
          simp only [h1, Except.ok.injEq, Prod.mk.injEq] at h
          obtain ⟨rfl, _, rfl⟩ := h
          exact ⟨vs, rfl⟩
    · have hk : (Gn.node k a b subs).kind = 4 ∨ (Gn.node k a b subs).kind = 5 := h45
      rw [enG_choose _ hk]
      refine (good_choose (branches (.node k a b subs)) (fun j => TL (follow (.node k a b subs) j)) ?_ (fun j h => ?_)).congr fun c => (tg_choose hg hk c).symm
      · rw [branch_len hg hk]
        simp only [Gn.kind, Gn.a, Gn.subs]
        rcases h45 with rfl | rfl
        · obtain ⟨m0, _⟩ := hm.2.2.1 rfl
          simp only [if_true]; omega
        · have := hm.2.1 rfl
          simp only [show ¬ (5 : Int) = 4 by omega, if_false]; omega
      · rw [branch_get hg hk j h]
        have hf := follow_right hg hk j
        exact good_list _ (fun x hx => hsub x (hf x hx)) (fun x hx => hs x (hf x hx))
theorem good_gens : ∀ (l : List Gn), (∀ x ∈ l, Right x) → ∀ x ∈ l, Good (enG x) (TG x)
  | [], _, x, hx => by simp at hx
  | g :: r, hr, x, hx => by
    rcases List.mem_cons.1 hx with h | h
    · rw [h]; exact good_gen g (hr g (by simp))
    · exact good_gens r (fun y hy => hr y (by simp [hy])) x h
end

/-! how many: the program's number, bounded -/
theorem cap_mul (m q : Nat) : min (1048577 : Int) (min 1048577 (m : Int) * min 1048577 (q : Int)) = min 1048577 ((m * q : Nat) : Int) := by
  rw [Int.natCast_mul]
  by_cases hm : m ≤ 1048577
  · rw [show min (1048577 : Int) (m : Int) = m by omega]
    by_cases hq : q ≤ 1048577
    · rw [show min (1048577 : Int) (q : Int) = q by omega]
    · rw [show min (1048577 : Int) (q : Int) = 1048577 by omega]
      by_cases h0 : m = 0
      · subst h0; simp
      · have h1 : (1 : Int) * 1048577 ≤ (m : Int) * 1048577 := Int.mul_le_mul_of_nonneg_right (by omega) (by omega)
        have h2 : (1 : Int) * q ≤ (m : Int) * q := Int.mul_le_mul_of_nonneg_right (by omega) (by omega)
        omega
  · rw [show min (1048577 : Int) (m : Int) = 1048577 by omega]
    by_cases h0 : q = 0
    · subst h0; simp; omega
    · have h1 : (1048577 : Int) * 1 ≤ 1048577 * min 1048577 (q : Int) := Int.mul_le_mul_of_nonneg_left (by omega) (by omega)
      have h2 : (m : Int) * 1 ≤ (m : Int) * q := Int.mul_le_mul_of_nonneg_left (by omega) (by omega)
      omega
theorem cap_add (m q : Nat) : min (1048577 : Int) (min 1048577 (m : Int) + min 1048577 (q : Int)) = min 1048577 ((m + q : Nat) : Int) := by omega
theorem many_cap (e : En) : ∀ (i c s : Nat), manyN (min 1048577 (e.cnt : Int)) i (min 1048577 (s : Int)) (min 1048577 ((allE (List.replicate c e)).cnt : Int)) = min 1048577 ((s + chooseC ((List.range' c i).map fun c => allE (List.replicate c e)) : Nat) : Int)
  | 0, c, s => by simp [manyN, chooseC]
  | i + 1, c, s => by
    have e1 : (allE (List.replicate (c + 1) e)).cnt = (allE (List.replicate c e)).cnt * e.cnt := by
      rw [List.replicate_succ, allE]; show e.cnt * _ = _; exact Nat.mul_comm _ _
    rw [manyN, cap_add, cap_mul, ← e1, many_cap e i (c + 1) _, List.range'_succ, List.map_cons, chooseC, Nat.add_assoc]
mutual
theorem count_cap : ∀ (g : Gn), Right g → countG g = min 1048577 ((enG g).cnt : Int)
  | .node k a b subs, hg => by
    have hm := right_max hg
    have hsub : ∀ x ∈ subs, Right x := hg.subs
    rcases (show k = 1 ∨ k = 2 ∨ k = 3 ∨ k = 4 ∨ k = 5 by omega) with rfl | rfl | rfl | rfl | rfl
    · rw [enG_just]; simp [countG, nilE]; omega
    · rw [enG_int]
      obtain ⟨h0, h1⟩ := hm.1 rfl
      simp only [countG, intE, show ¬ (2 : Int) = 1 by omega, if_false, if_true]
      omega
    · rw [enG_both]
      have := both_cap subs hsub 1
      simp only [countG, show ¬ (3 : Int) = 1 by omega, show ¬ (3 : Int) = 2 by omega, show ¬ (3 : Int) = 5 by omega, if_false, if_true]
      rw [show (1 : Int) = min 1048577 ((1 : Nat) : Int) by omega, this, Nat.one_mul]
    · obtain ⟨m0, _, hl⟩ := hm.2.2.1 rfl
      match subs, hl with
      | [x], _ =>
        have hx := count_cap x (hsub x (by simp))
        have := many_cap (enG x) (a + 1).toNat 0 0
        simp only [countG, countHead, enG, enGs, manyB, show ¬ (4 : Int) = 1 by omega, show ¬ (4 : Int) = 2 by omega, show ¬ (4 : Int) = 5 by omega, show ¬ (4 : Int) = 3 by omega, if_false]
        rw [hx]
        simp only [List.replicate_zero, allE, nilE, Nat.zero_add] at this
        rw [show (0 : Int) = min 1048577 ((0 : Nat) : Int) by omega, show (1 : Int) = min 1048577 ((1 : Nat) : Int) by omega]
        exact this
    · have := any_cap subs hsub 0
      simp only [countG, enG, show ¬ (5 : Int) = 1 by omega, show ¬ (5 : Int) = 2 by omega, show ¬ (5 : Int) = 3 by omega, if_false, if_true]
      rw [show (0 : Int) = min 1048577 ((0 : Nat) : Int) by omega, this, Nat.zero_add]
      rfl
theorem both_cap : ∀ (l : List Gn), (∀ x ∈ l, Right x) → ∀ m : Nat, countBoth l (min 1048577 (m : Int)) = min 1048577 ((m * (allE (l.map enG)).cnt : Nat) : Int)
  | [], _, m => by simp [countBoth, allE, nilE]
  | g :: r, h, m => by
    rw [countBoth, count_cap g (h g (by simp)), cap_mul, both_cap r (fun x hx => h x (by simp [hx])), List.map_cons, allE, Nat.mul_assoc]
    rfl
theorem any_cap : ∀ (l : List Gn), (∀ x ∈ l, Right x) → ∀ m : Nat, countAny l (min 1048577 (m : Int)) = min 1048577 ((m + chooseC ((enGs l).map fun e => allE [e]) : Nat) : Int)
  | [], _, m => by simp [countAny, enGs, chooseC]
  | g :: r, h, m => by
    rw [countAny, count_cap g (h g (by simp)), cap_add, any_cap r (fun x hx => h x (by simp [hx])), enGs, List.map_cons, chooseC, Nat.add_assoc]
    simp [allE, consE, nilE]
end
end Go.Proofs.YtffkppjmdelajaaDoor.Gens

/- Plain laws on tapes in their order. No program. -/
namespace Go.Proofs.YtffkppjmdelajaaDoor.Gens
set_option linter.unusedVariables false

theorem getD_front (p s : List Int) (m : Nat) (h : m < p.length) : (p ++ s).getD m 0 = p.getD m 0 := by
  rw [List.getD_eq_getElem?_getD, List.getD_eq_getElem?_getD, List.getElem?_append_left h]
theorem getD_here (p s : List Int) (x : Int) : (p ++ x :: s).getD p.length 0 = x := by
  rw [List.getD_eq_getElem?_getD, List.getElem?_append_right (Nat.le_refl _)]; simp
theorem ahead_ne {a b : List Int} (h : Ahead a b) {j : Nat} (hp : ∀ m, m < j → a.getD m 0 = b.getD m 0) (hne : a.getD j 0 ≠ b.getD j 0) : a.getD j 0 < b.getD j 0 := by
  obtain ⟨p, x, y, s, t, rfl, rfl, hl⟩ := h
  rcases Nat.lt_trichotomy j p.length with h1 | h1 | h1
  · rw [getD_front _ _ _ h1, getD_front _ _ _ h1] at hne; exact absurd rfl hne
  · subst h1; rw [getD_here, getD_here]; exact hl
  · have := hp _ h1; rw [getD_here, getD_here] at this; omega
theorem ahead_all {a b : List Int} (h : Ahead a b) : ¬ ∀ m, m < a.length → m < b.length → a.getD m 0 = b.getD m 0 := by
  obtain ⟨p, x, y, s, t, rfl, rfl, hl⟩ := h
  intro hp
  have := hp p.length (by simp) (by simp)
  rw [getD_here, getD_here] at this; omega
theorem Good.order {e : En} {T : List Int → Prop} (h : Good e T) {i k : Nat} (hi : i < e.cnt) (hk : k < e.cnt) {j : Nat} (hp : ∀ m, m < j → (e.nth i).getD m 0 = (e.nth k).getD m 0) (hne : (e.nth i).getD j 0 ≠ (e.nth k).getD j 0) : (e.nth i).getD j 0 < (e.nth k).getD j 0 ↔ i < k := by
  rcases Nat.lt_trichotomy i k with h1 | h1 | h1
  · exact ⟨fun _ => h1, fun _ => ahead_ne (h.rises i k h1 hk) hp hne⟩
  · subst h1; exact absurd rfl hne
  · have := ahead_ne (h.rises k i h1 hi) (fun m hm => (hp m hm).symm) (fun e => hne e.symm)
    constructor <;> intro h2 <;> omega
theorem Good.same {e : En} {T : List Int → Prop} (h : Good e T) {i k : Nat} (hi : i < e.cnt) (hk : k < e.cnt) (hp : ∀ m, m < (e.nth i).length → m < (e.nth k).length → (e.nth i).getD m 0 = (e.nth k).getD m 0) : i = k := by
  rcases Nat.lt_trichotomy i k with h1 | h1 | h1
  · exact absurd hp (ahead_all (h.rises i k h1 hk))
  · exact h1
  · exact absurd (fun m h2 h3 => (hp m h3 h2).symm) (ahead_all (h.rises k i h1 hi))
end Go.Proofs.YtffkppjmdelajaaDoor.Gens

/- Plain laws: all tapes of a generator, as the document lists them, are those of its numbers in their order. No program. -/
namespace Go.Proofs.YtffkppjmdelajaaDoor.Gens
set_option linter.unusedVariables false

def timesL (a b : List (List Int)) : List (List Int) := a.flatMap fun x => b.map fun y => x ++ y
theorem timesL_nil (b : List (List Int)) : timesL [[]] b = b := by simp [timesL]
theorem timesL_one (a : List (List Int)) : timesL a [[]] = a := by simp [timesL]
theorem timesL_assoc (a b c : List (List Int)) : timesL (timesL a b) c = timesL a (timesL b c) := by
  unfold timesL
  rw [List.flatMap_assoc]
  congr 1
  funext x
  rw [List.flatMap_map, List.map_flatMap]
  congr 1
  funext y
  simp
theorem timesL_len (a b : List (List Int)) : (timesL a b).length = a.length * b.length := by
  unfold timesL
  induction a with
  | nil => simp
  | cons x r ih => rw [List.flatMap_cons, List.length_append, ih, List.length_map, List.length_cons, Nat.succ_mul]; omega
/-- one after the other -/
def bothT : List (List Int) → List (List (List Int)) → List (List Int)
  | acc, [] => acc
  | acc, t :: r => bothT (timesL acc t) r
def anyT : Nat → List (List (List Int)) → List (List Int)
  | _, [] => []
  | c, t :: r => timesL [[(c : Int)]] t ++ anyT (c + 1) r
/-- so many of one kind, so many times more -/
def powT (t : List (List Int)) : Nat → List (List Int)
  | 0 => [[]]
  | n + 1 => timesL (powT t n) t
def manyT (t : List (List Int)) : Nat → Nat → List (List Int)
  | _, 0 => []
  | i, n + 1 => timesL [[(i : Int)]] (powT t i) ++ manyT t (i + 1) n
mutual
def tapesG : Gn → List (List Int)
  | .node k a b subs => if k = 1 then [[]] else if k = 2 then (List.range (b - a + 1).toNat).map fun (i : Nat) => [(i : Int)] else if k = 5 then anyT 0 (tapesGs subs) else if k = 3 then bothT [[]] (tapesGs subs) else manyT ((tapesGs subs).headD []) 0 (a + 1).toNat
def tapesGs : List Gn → List (List (List Int))
  | [] => []
  | g :: r => tapesG g :: tapesGs r
end
theorem tapesGs_map : ∀ l : List Gn, tapesGs l = l.map tapesG
  | [] => rfl
  | g :: r => by rw [tapesGs, tapesGs_map r]; rfl
/-- all of an enumeration -/
def allOf (e : En) : List (List Int) := (List.range e.cnt).map e.nth
theorem range_mul (m n : Nat) (f : Nat → Nat → List Int) : (List.range (m * n)).map (fun i => f (i / n) (i % n)) = (List.range m).flatMap fun a => (List.range n).map (f a) := by
  induction m with
  | zero => simp
  | succ m ih =>
    rw [Nat.succ_mul, List.range_add, List.map_append, ih, List.range_succ, List.flatMap_append, List.flatMap_singleton]
    congr 1
    rw [List.map_map]
    apply List.map_congr_left
    intro j hj
    have hj := List.mem_range.1 hj
    have hn : 0 < n := by omega
    simp only [Function.comp]
    rw [Nat.mul_comm m n, Nat.mul_add_div hn, Nat.div_eq_of_lt hj, Nat.mul_add_mod, Nat.mod_eq_of_lt hj, Nat.add_zero]
theorem all_cons (e es : En) : allOf (consE e es) = timesL (allOf e) (allOf es) := by
  unfold allOf timesL consE
  simp only
  rw [range_mul e.cnt es.cnt (fun a b => e.nth a ++ es.nth b), List.flatMap_map]
  congr 1
  funext a
  rw [List.map_map]
  rfl
theorem all_nil : allOf nilE = [[]] := rfl
theorem all_all : ∀ (l : List En) (acc : List (List Int)), bothT acc (l.map allOf) = timesL acc (allOf (allE l))
  | [], acc => by rw [List.map_nil, bothT, allE, all_nil, timesL_one]
  | e :: r, acc => by rw [List.map_cons, bothT, all_all r, allE, all_cons, timesL_assoc]
theorem all_pow (e : En) : ∀ n, powT (allOf e) n = allOf (allE (List.replicate n e))
  | 0 => rfl
  | n + 1 => by
    rw [powT, all_pow e n, List.replicate_succ, allE, all_cons]
    -- so many and one more, from either side
    have key : ∀ m, timesL (allOf (allE (List.replicate m e))) (allOf e) = timesL (allOf e) (allOf (allE (List.replicate m e))) := by
      intro m
      induction m with
      | zero => rw [List.replicate_zero, allE, all_nil, timesL_nil, timesL_one]
      | succ m ih => rw [List.replicate_succ, allE, all_cons, timesL_assoc, ih]
    exact key n
theorem all_choose : ∀ (L : List En) (c : Nat), (List.range (chooseC L)).map (chooseN c L) = anyT c (L.map allOf)
  | [], c => rfl
  | e :: r, c => by
    rw [List.map_cons, anyT, chooseC, List.range_add, List.map_append, ← all_choose r (c + 1), List.map_map]
    congr 1
    · unfold timesL allOf
      rw [List.flatMap_singleton, List.map_map]
      apply List.map_congr_left
      intro i hi
      have hi := List.mem_range.1 hi
      simp only [chooseN, if_pos hi, Function.comp]
      rfl
    · apply List.map_congr_left
      intro i hi
      simp only [chooseN, Function.comp]
      rw [if_neg (by omega), Nat.add_sub_cancel_left]
theorem any_many (e : En) : ∀ (n i : Nat), manyT (allOf e) i n = anyT i (((List.range' i n).map fun c => allE (List.replicate c e)).map allOf)
  | 0, i => rfl
  | n + 1, i => by
    rw [manyT, List.range'_succ, List.map_cons, List.map_cons, anyT, all_pow, any_many e n (i + 1)]
mutual
theorem tapes_all : ∀ (g : Gn), Right g → tapesG g = allOf (enG g)
  | .node k a b subs, hg => by
    have hs := tapes_alls subs hg.subs
    obtain ⟨h1, _, h3, _⟩ := right_of hg
    rw [tapesG, enG, hs, enGs_map]
    by_cases k1 : k = 1
    · rw [if_pos k1, if_pos k1]; rfl
    · rw [if_neg k1, if_neg k1]
      by_cases k2 : k = 2
      · rw [if_pos k2, if_pos k2]; rfl
      · rw [if_neg k2, if_neg k2]
        by_cases k5 : k = 5
        · subst k5
          rw [if_pos rfl, if_neg (by omega), if_pos rfl]
          show _ = (List.range (chooseC _)).map (chooseN 0 _)
          rw [all_choose, List.map_map, List.map_map]
          congr 1
          apply List.map_congr_left
          intro g _
          simp only [Function.comp]
          rw [allE, all_cons, allE, all_nil, timesL_one]
        · rw [if_neg k5]
          by_cases k3 : k = 3
          · rw [if_pos k3, if_pos k3, ← timesL_nil (allOf (allE (subs.map enG))), ← all_all, List.map_map]
            rfl
          · have k4 : k = 4 := by
              unfold kindBad at h1
              obtain ⟨q1, q2⟩ := Bool.or_eq_false_iff.1 h1
              have q1 := of_decide_eq_false q1
              have q2 := of_decide_eq_false q2
              simp only [Gn.kind] at q1 q2
              omega
            subst k4
            rw [if_neg k3, if_neg k3, if_neg k5]
            have hl : subs.length = 1 := by
              simp [subsBad, Gn.kind, Gn.subs] at h3
              exact h3
            match subs, hl with
            | [x], _ =>
              simp only [List.map_cons, List.map_nil, List.headD_cons, manyB]
              rw [any_many]
              show _ = (List.range (chooseC _)).map (chooseN 0 _)
              rw [all_choose]
theorem tapes_alls : ∀ (l : List Gn), (∀ x ∈ l, Right x) → tapesGs l = l.map fun g => allOf (enG g)
  | [], _ => rfl
  | g :: r, h => by rw [tapesGs, tapes_all g (h g (by simp)), tapes_alls r (fun x hx => h x (List.mem_cons_of_mem _ hx))]; rfl
end
end Go.Proofs.YtffkppjmdelajaaDoor.Gens

/- Contracts of package rng's Next and Below: what each call gives. Conditions: none. -/
namespace Go.Proofs.YtffkppjmdelajaaDoor.Rng
open Go.RowKit

def step1 (x : Int) : Int := IntKind.u64.wrap (bits BinOp.xor IntKind.u64 x (x / 1073741824) * 13787848793156543929)
def step2 (x : Int) : Int := IntKind.u64.wrap (bits BinOp.xor IntKind.u64 x (x / 134217728) * 10723151780598845931)
def step3 (x : Int) : Int := bits BinOp.xor IntKind.u64 x (x / 2147483648)
def mixI (x : Int) : Int := step3 (step2 (step1 x))
def plus (a g : Int) : Int := IntKind.u64.wrap (a + g)
def odd (g : Int) : Int := bits BinOp.or IntKind.u64 g 1
def u64of (n : Int) : Int := IntKind.u64.wrap n
def gold : Int := 11400714819323198485

theorem bcell {W w1 : World} (hb : Below W.heap.size W w1) : (∀ b o, b < W.heap.size → w1.cell? ⟨b, o, none⟩ = W.cell? ⟨b, o, none⟩) ∧ (∀ b o, b < W.heap.size → w1.frozen? ⟨b, o, none⟩ = W.frozen? ⟨b, o, none⟩) :=
  ⟨fun b o h => hb.cell (p := ⟨b, o, none⟩) h, fun b o h => hb.frozen (p := ⟨b, o, none⟩) h⟩

theorem mix_any (x : Int) (w : World) :
    Calls Tryd.prog 94 #[.int .u64 x] w fun e w' => e = .returned (.int .u64 (mixI x)) ∧ w = w' := by
  go_enter Tryd.func94, Tryd.ntmps94
  go_wp2
  go_ret
  exact ⟨rfl, rfl⟩

def nextW (a g : Int) (w : World) : World := ((w.alloc (.cells #[.int .u64 (plus a g), .int .u64 g] 28)).alloc (.cells #[.int .u64 (plus a g), .int .u64 g] 28)).drew

theorem next_exact (a g : Int) (w : World) :
    Calls Tryd.prog 78 #[.agg #[.int .u64 a, .int .u64 g]] w fun e w' => e = .returned (.tuple #[.int .u64 (mixI (plus a g)), .agg #[.int .u64 (plus a g), .int .u64 g]]) ∧ nextW a g w = w' := by
  go_enter Tryd.func78, Tryd.ntmps78
  go_wp2
  go_region_with (go_at_call 94; refine (mix_any _ _).mono ?_; rintro e w' ⟨rfl, rfl⟩)
  all_goals go_wp2
  all_goals exact bodyPost_ret (v := .tuple #[.int .u64 (mixI (plus a g)), .agg #[.int .u64 (plus a g), .int .u64 g]]) (by simp [results, Tryd.results78, go_sem, plus]) rfl ⟨rfl, rfl⟩

theorem next_any (a g : Int) (w : World) :
    Calls Tryd.prog 78 #[.agg #[.int .u64 a, .int .u64 g]] w fun e w' => e = .returned (.tuple #[.int .u64 (mixI (plus a g)), .agg #[.int .u64 (plus a g), .int .u64 g]]) ∧ Below w.heap.size w w' :=
  (next_exact a g w).mono fun _ _ ⟨h1, h2⟩ => ⟨h1, h2 ▸ (((Below.refl _ _).alloc (Nat.le_refl _) _).alloc (by simp) _).drew⟩

def belowI (a g n : Int) : Int := u64of (mixI (plus a g) / 4294967296 * n) / 4294967296
def belowK (a g n : Int) : Int := wrap64 (belowI a g n)

theorem below_err (a g n : Int) (h : n < 1 ∨ 2147483647 < n) (w : World) :
    Calls Tryd.prog 56 #[.agg #[.int .u64 a, .int .u64 g], .int .i64 n] w fun e w' => e = .returned (.tuple #[.int .i64 0, .agg #[.int .u64 0, .int .u64 0], .iface 30 (.int .i64 1)]) ∧ Below w.heap.size w w' := by
  rcases h with h | h
  · go_enter Tryd.func56, Tryd.ntmps56
    go_wp2
    exact bodyPost_ret (v := .tuple #[.int .i64 0, .agg #[.int .u64 0, .int .u64 0], .iface 30 (.int .i64 1)]) (by simp [results, Tryd.results56, go_sem]) rfl
      ⟨rfl, by repeat (first | exact Below.refl _ _ | refine Below.drew ?_ | refine Below.alloc ?_ (by simp <;> omega) _)⟩
  · have h' : ¬ n < 1 := by omega
    go_enter Tryd.func56, Tryd.ntmps56
    go_wp2
    exact bodyPost_ret (v := .tuple #[.int .i64 0, .agg #[.int .u64 0, .int .u64 0], .iface 30 (.int .i64 1)]) (by simp [results, Tryd.results56, go_sem]) rfl
      ⟨rfl, by repeat (first | exact Below.refl _ _ | refine Below.drew ?_ | refine Below.alloc ?_ (by simp <;> omega) _)⟩

theorem below_ok (a g n : Int) (h1 : 1 ≤ n) (h2 : n ≤ 2147483647) (w : World) :
    Calls Tryd.prog 56 #[.agg #[.int .u64 a, .int .u64 g], .int .i64 n] w fun e w' => e = .returned (.tuple #[.int .i64 (belowK a g n), .agg #[.int .u64 (plus a g), .int .u64 g], .nilIface]) ∧ Below w.heap.size w w' := by
  have h1' : ¬ n < 1 := by omega
  have h2' : ¬ 2147483647 < n := by omega
  go_enter Tryd.func56, Tryd.ntmps56
  go_wp2_with fail
  refine (next_exact _ _ _).mono ?_
  rintro e w1 ⟨rfl, rfl⟩
  unfold nextW
  go_wp2
  go_region
  all_goals go_wp2
  exact bodyPost_ret (v := .tuple #[.int .i64 (belowK a g n), .agg #[.int .u64 (plus a g), .int .u64 g], .nilIface]) (by simp [results, Tryd.results56, go_sem, belowK, belowI, u64of]) rfl
    ⟨rfl, by repeat (first | exact Below.refl _ _ | refine Below.drew ?_ | refine Below.alloc ?_ (by simp <;> omega) _)⟩

/-! Reading a seed that came in. -/
open Go.ChangeShapes Go.WideShapes Go.ChangeAt Go.Joins
def U64 (x : Int) : Prop := 0 ≤ x ∧ x < 18446744073709551616
theorem u64_of_wf {x : Int} (h : (Lit.int .u64 x).wf = true) : U64 x := by
  simp only [Lit.wf, IntKind.min, IntKind.max, IntKind.signed, IntKind.bits, Bool.and_eq_true] at h
  unfold U64
  simp at h
  omega
theorem i64_of_wf {x : Int} (h : (Lit.int .i64 x).wf = true) : -9223372036854775808 ≤ x ∧ x ≤ 9223372036854775807 := by
  simp only [Lit.wf, IntKind.min, IntKind.max, IntKind.signed, IntKind.bits, Bool.and_eq_true] at h
  simp at h
  omega

set_option maxRecDepth 100000 in
theorem open_seed {H : Type} {enc : TypeId × Value → H} {w : World} {base : Nat} {r : Reach} {b0 : Nat} {spare : Nat → Bool} {held : Bool} {v : Value} {d : DataW H} {ps : List MemPlace}
    (hval : Value.okWide Tryd.prog w r b0 28 v) (hd : DataW.Trod enc Tryd.prog w base spare held 28 v d ps) :
    ∃ a g : Int, v = .agg #[.int .u64 a, .int .u64 g] ∧ U64 a ∧ U64 g := by
  obtain ⟨c0, c1, y0, y1, m, rfl, _, _, hy0, hy1⟩ := open_agg2 Tryd.underlying28 (by kernel_rfl) (by kernel_rfl) hval hd
  obtain ⟨a, e0, rfl, wa⟩ := DataW.trod_int Tryd.underlying26 hy0
  obtain ⟨g, e1, rfl, wb⟩ := DataW.trod_int Tryd.underlying26 hy1
  simp at e0 e1
  subst e0 e1
  exact ⟨a, g, rfl, u64_of_wf wa, u64_of_wf wb⟩

end Go.Proofs.YtffkppjmdelajaaDoor.Rng

/- Plain facts on numbers of 64 bits: what 'mix' is good for. No Go in sight. -/
namespace Go.Proofs.YtffkppjmdelajaaDoor.Rng
open Go.RowKit

theorem wrap_U64 (x : Int) : U64 (IntKind.u64.wrap x) := by rw [IntKind.wrap_u64]; unfold U64; omega
theorem plus_U64 (a g : Int) : U64 (plus a g) := wrap_U64 _
theorem mixI_U64 (x : Int) : U64 (mixI x) := wrap_U64 _

theorem mul_div_bounds (h n : Int) (h0 : 0 ≤ h) (h1 : h < 4294967296) (n1 : 1 ≤ n) : 0 ≤ h * n / 4294967296 ∧ h * n / 4294967296 < n := by
  have hp : 0 ≤ h * n := Int.mul_nonneg h0 (by omega)
  have hq : h * n < 4294967296 * n := Int.mul_lt_mul_of_pos_right h1 (by omega)
  omega
theorem mul_bound (h n : Int) (h0 : 0 ≤ h) (h1 : h < 4294967296) (n1 : 0 ≤ n) (n2 : n ≤ 2147483647) : 0 ≤ h * n ∧ h * n ≤ 4294967295 * 2147483647 := by
  have hp : 0 ≤ h * n := Int.mul_nonneg h0 (by omega)
  have hq : h * n ≤ 4294967295 * n := Int.mul_le_mul_of_nonneg_right (by omega) n1
  omega

theorem belowK_eq (a g n : Int) (h1 : 1 ≤ n) (h2 : n ≤ 2147483647) : belowK a g n = mixI (plus a g) / 4294967296 * n / 4294967296 := by
  have hm := mixI_U64 (plus a g)
  unfold belowK belowI u64of wrap64
  unfold U64 at hm
  rw [IntKind.wrap_u64]
  generalize mixI (plus a g) = x at *
  have hb := mul_bound (x / 4294967296) n (by omega) (by omega) (by omega) h2
  generalize x / 4294967296 * n = y at *
  omega

theorem belowK_bounds (a g n : Int) (h1 : 1 ≤ n) (h2 : n ≤ 2147483647) : 0 ≤ belowK a g n ∧ belowK a g n < n := by
  rw [belowK_eq a g n h1 h2]
  have hm := mixI_U64 (plus a g)
  unfold U64 at hm
  exact mul_div_bounds _ n (by omega) (by omega) h1

theorem belowK_mono (a g n m : Int) (h1 : 1 ≤ m) (h2 : m ≤ n) (h3 : n ≤ 2147483647) : belowK a g m ≤ belowK a g n := by
  rw [belowK_eq a g n (by omega) h3, belowK_eq a g m h1 (by omega)]
  have hm := mixI_U64 (plus a g)
  unfold U64 at hm
  have : mixI (plus a g) / 4294967296 * m ≤ mixI (plus a g) / 4294967296 * n := Int.mul_le_mul_of_nonneg_left h2 (by omega)
  exact Int.ediv_le_ediv (by omega) this

theorem xor_eq {x y : Nat} (h : x ^^^ y = 0) : x = y := by
  have : (x ^^^ y) ^^^ y = 0 ^^^ y := by rw [h]
  rw [Nat.xor_assoc, Nat.xor_self, Nat.xor_zero, Nat.zero_xor] at this
  exact this
theorem shift_inj (k : Nat) (hk : 1 ≤ k) (x y : Nat) (h : x ^^^ x / 2 ^ k = y ^^^ y / 2 ^ k) : x = y := by
  have h1 : (x ^^^ y) = (x ^^^ y) / 2 ^ k := by
    rw [Nat.xor_div_two_pow]
    have : (x ^^^ x / 2 ^ k) ^^^ (y ^^^ x / 2 ^ k) = (y ^^^ y / 2 ^ k) ^^^ (y ^^^ x / 2 ^ k) := by rw [h]
    have e1 : (x ^^^ x / 2 ^ k) ^^^ (y ^^^ x / 2 ^ k) = x ^^^ y := by
      rw [Nat.xor_comm y, Nat.xor_assoc, ← Nat.xor_assoc (x / 2 ^ k) (x / 2 ^ k), Nat.xor_self, Nat.zero_xor]
    have e2 : (y ^^^ y / 2 ^ k) ^^^ (y ^^^ x / 2 ^ k) = (x / 2 ^ k) ^^^ (y / 2 ^ k) := by
      rw [Nat.xor_comm y (y / 2 ^ k), Nat.xor_assoc, ← Nat.xor_assoc y y, Nat.xor_self, Nat.zero_xor, Nat.xor_comm]
    rw [e1, e2] at this
    exact this
  by_cases h0 : x ^^^ y = 0
  · exact xor_eq h0
  · have : (x ^^^ y) / 2 ^ k < x ^^^ y := Nat.div_lt_self (by omega) (Nat.one_lt_two_pow (by omega))
    omega
theorem mul_inj (c ci : Nat) (hc : c * ci % 18446744073709551616 = 1) (x y : Nat) (hx : x < 18446744073709551616) (hy : y < 18446744073709551616) (h : x * c % 18446744073709551616 = y * c % 18446744073709551616) : x = y := by
  have h2 : x * c * ci % 18446744073709551616 = y * c * ci % 18446744073709551616 := by
    rw [Nat.mul_mod, h, ← Nat.mul_mod]
  rw [Nat.mul_assoc, Nat.mul_assoc, Nat.mul_mod x, Nat.mul_mod y, hc, Nat.mul_one, Nat.mul_one, Nat.mod_mod, Nat.mod_mod, Nat.mod_eq_of_lt hx, Nat.mod_eq_of_lt hy] at h2
  exact h2

theorem step_inj (k s c ci : Nat) (hs : s = 2 ^ k) (hk : 1 ≤ k) (hc : c * ci % 18446744073709551616 = 1) (x y : Int) (hx : U64 x) (hy : U64 y)
    (h : IntKind.u64.wrap (bits BinOp.xor IntKind.u64 x (x / (s : Int)) * (c : Int)) = IntKind.u64.wrap (bits BinOp.xor IntKind.u64 y (y / (s : Int)) * (c : Int))) : x = y := by
  obtain ⟨X, rfl⟩ := Int.eq_ofNat_of_zero_le hx.1
  obtain ⟨Y, rfl⟩ := Int.eq_ofNat_of_zero_le hy.1
  have hX : X < 18446744073709551616 := by have := hx.2; omega
  have hY : Y < 18446744073709551616 := by have := hy.2; omega
  rw [mixStep_u64 X s c hX, mixStep_u64 Y s c hY] at h
  have h' : (X ^^^ X / s) * c % 18446744073709551616 = (Y ^^^ Y / s) * c % 18446744073709551616 := by exact_mod_cast h
  have lt : ∀ Z : Nat, Z < 18446744073709551616 → Z ^^^ Z / s < 18446744073709551616 := fun Z hZ => by
    have : Z ^^^ Z / s < 2 ^ 64 := Nat.xor_lt_two_pow (by omega) (Nat.lt_of_le_of_lt (Nat.div_le_self _ _) (by omega))
    omega
  have := mul_inj c ci hc _ _ (lt X hX) (lt Y hY) h'
  subst hs
  have e := shift_inj k hk X Y this
  subst e
  rfl
theorem step1_inj (x y : Int) (hx : U64 x) (hy : U64 y) (h : step1 x = step1 y) : x = y :=
  step_inj 30 1073741824 13787848793156543929 10871156337175269513 (by decide) (by decide) (by decide) x y hx hy h
theorem step2_inj (x y : Int) (hx : U64 x) (hy : U64 y) (h : step2 x = step2 y) : x = y :=
  step_inj 27 134217728 10723151780598845931 3573116690164977347 (by decide) (by decide) (by decide) x y hx hy h
theorem step3_inj (x y : Int) (hx : U64 x) (hy : U64 y) (h : step3 x = step3 y) : x = y := by
  obtain ⟨X, rfl⟩ := Int.eq_ofNat_of_zero_le hx.1
  obtain ⟨Y, rfl⟩ := Int.eq_ofNat_of_zero_le hy.1
  have hX : X < 18446744073709551616 := by have := hx.2; omega
  have hY : Y < 18446744073709551616 := by have := hy.2; omega
  have e1 : step3 (X : Int) = ((X ^^^ X / 2147483648 : Nat) : Int) := xorShift_u64 X 2147483648 hX
  have e2 : step3 (Y : Int) = ((Y ^^^ Y / 2147483648 : Nat) : Int) := xorShift_u64 Y 2147483648 hY
  rw [e1, e2] at h
  have e := shift_inj 31 (by decide) X Y (by exact_mod_cast h)
  subst e
  rfl
/-- MIX IS ONE TO ONE on numbers of 64 bits. -/
theorem mixI_inj (x y : Int) (hx : U64 x) (hy : U64 y) (h : mixI x = mixI y) : x = y :=
  step1_inj x y hx hy (step2_inj _ _ (wrap_U64 _) (wrap_U64 _) (step3_inj _ _ (wrap_U64 _) (wrap_U64 _) h))
theorem plus_inj (a b g : Int) (ha : U64 a) (hb : U64 b) (h : plus a g = plus b g) : a = b := by
  unfold plus at h; rw [IntKind.wrap_u64, IntKind.wrap_u64] at h
  unfold U64 at ha hb
  omega
theorem odd_odd (x : Int) (hx : U64 x) : odd x % 2 = 1 ∧ U64 (odd x) := by
  refine ⟨?_, wrap_U64 _⟩
  obtain ⟨X, rfl⟩ := Int.eq_ofNat_of_zero_le hx.1
  have hX : X < 18446744073709551616 := by have := hx.2; omega
  have e : odd (X : Int) = ((X ||| 1 : Nat) : Int) := by
    have := u64_or (X : Int) 1 (by omega) (by omega) (by omega) (by omega)
    exact this
  rw [e]
  have : (X ||| 1) % 2 = 1 := by simp [Nat.or_mod_two_eq_one]
  omega

/-- Behind so many steps. -/
def stepped (a g : Int) : Nat → Int
  | 0 => a
  | k + 1 => plus (stepped a g k) g
theorem stepped_eq (a g : Int) (ha : U64 a) : ∀ k : Nat, stepped a g k = (a + k * g) % 18446744073709551616
  | 0 => by unfold stepped; unfold U64 at ha; simp; omega
  | k + 1 => by
    unfold stepped plus
    rw [stepped_eq a g ha k, IntKind.wrap_u64, show ((k + 1 : Nat) : Int) * g = k * g + g by rw [Int.natCast_add, Int.add_mul]; simp]
    omega
theorem stepped_U64 (a g : Int) (ha : U64 a) : ∀ k : Nat, U64 (stepped a g k)
  | 0 => ha
  | _ + 1 => plus_U64 _ _
/-- AN ODD GAMMA COMES ROUND ONLY BEHIND ALL NUMBERS. -/
theorem stepped_ne (a g : Int) (ha : U64 a) (hg : U64 g) (ho : g % 2 = 1) (k : Nat) (h1 : 1 ≤ k) (h2 : k < 18446744073709551616) : stepped a g k ≠ a := by
  intro h
  rw [stepped_eq a g ha k] at h
  obtain ⟨G, rfl⟩ := Int.eq_ofNat_of_zero_le hg.1
  have hd : (18446744073709551616 : Int) ∣ ((k * G : Nat) : Int) := by
    unfold U64 at ha
    refine Int.dvd_of_emod_eq_zero ?_
    have : ((k * G : Nat) : Int) = (k : Int) * (G : Int) := by simp
    rw [this]
    omega
  have hn : 18446744073709551616 ∣ k * G := Int.natCast_dvd_natCast.mp (show ((18446744073709551616 : Nat) : Int) ∣ ((k * G : Nat) : Int) from hd)
  have hc : Nat.Coprime (2 ^ 64) G := Nat.Coprime.pow_left 64 (by
    have : G % 2 = 1 := by omega
    rw [Nat.coprime_iff_gcd_eq_one, Nat.gcd_rec, this]; rfl)
  have hd2 : 2 ^ 64 ∣ k := Nat.Coprime.dvd_of_dvd_mul_right hc (m := k) (show 2 ^ 64 ∣ k * G from hn)
  have := Nat.le_of_dvd (by omega) hd2
  omega
end Go.Proofs.YtffkppjmdelajaaDoor.Rng

/- Small laws on memory: what is laid behind a call's own blocks; a block that holds a seed. -/
namespace Go.Proofs.YtffkppjmdelajaaDoor.Rng
open Go.RowKit

theorem ret_bool {b : Bool} (h : b = true) : Ending.returned (.bool b) = .returned (.bool true) := by rw [h]
theorem after {w w1 : World} {o : Obj} (h : Below (w.alloc o).heap.size (w.alloc o) w1) : Below w.heap.size w w1 :=
  Below.trans ((Below.refl _ _).alloc (Nat.le_refl _) _) (h.mono (by simp))
theorem on {a b c : World} (h : Below a.heap.size a b) (k : Below b.heap.size b c) : Below a.heap.size a c := h.trans (k.mono h.size)
/-- Block b holds a seed, and may be written. -/
structure InT (b : Nat) (x y : Int) (w : World) : Prop where
  c0 : w.cell? ⟨b, 0, none⟩ = some (.int .u64 x)
  c1 : w.cell? ⟨b, 1, none⟩ = some (.int .u64 y)
  f0 : w.frozen? ⟨b, 0, none⟩ = false
  f1 : w.frozen? ⟨b, 1, none⟩ = false
  lt : b < w.heap.size

theorem InT.below {b : Nat} {x y : Int} {w w' : World} (h : InT b x y w) (hb : Below w.heap.size w w') : InT b x y w' :=
  ⟨(hb.cell (p := ⟨b, 0, none⟩) h.lt).trans h.c0, (hb.cell (p := ⟨b, 1, none⟩) h.lt).trans h.c1, (hb.frozen (p := ⟨b, 0, none⟩) h.lt).trans h.f0, (hb.frozen (p := ⟨b, 1, none⟩) h.lt).trans h.f1, Nat.lt_of_lt_of_le h.lt hb.size⟩
theorem InT.set {b : Nat} {x y : Int} {w : World} (h : InT b x y w) (x' y' : Int) (o : Obj) : InT b x' y' (((w.setCell ⟨b, 0, none⟩ (.int .u64 x')).setCell ⟨b, 1, none⟩ (.int .u64 y')).alloc o) := by
  have ne : (⟨b, 0, none⟩ : Addr) ≠ ⟨b, 1, none⟩ := by simp
  have lt := h.lt
  have k0 : (w.setCell ⟨b, 0, none⟩ (.int .u64 x')).cell? ⟨b, 0, none⟩ = some (.int .u64 x') := World.cell?_setCell_same w _ _ h.c0
  have k1 : (w.setCell ⟨b, 0, none⟩ (.int .u64 x')).cell? ⟨b, 1, none⟩ = some (.int .u64 y) := (World.cell?_setCell_other w _ _ _ ne).trans h.c1
  have q0 : ((w.setCell ⟨b, 0, none⟩ (.int .u64 x')).setCell ⟨b, 1, none⟩ (.int .u64 y')).cell? ⟨b, 0, none⟩ = some (.int .u64 x') := (World.cell?_setCell_other _ _ _ _ ne.symm).trans k0
  have q1 : ((w.setCell ⟨b, 0, none⟩ (.int .u64 x')).setCell ⟨b, 1, none⟩ (.int .u64 y')).cell? ⟨b, 1, none⟩ = some (.int .u64 y') := World.cell?_setCell_same _ _ _ k1
  have z : ((w.setCell ⟨b, 0, none⟩ (.int .u64 x')).setCell ⟨b, 1, none⟩ (.int .u64 y')).heap.size = w.heap.size := by simp [World.setCell]
  have bl : Below ((w.setCell ⟨b, 0, none⟩ (.int .u64 x')).setCell ⟨b, 1, none⟩ (.int .u64 y')).heap.size ((w.setCell ⟨b, 0, none⟩ (.int .u64 x')).setCell ⟨b, 1, none⟩ (.int .u64 y')) (((w.setCell ⟨b, 0, none⟩ (.int .u64 x')).setCell ⟨b, 1, none⟩ (.int .u64 y')).alloc o) := (Below.refl _ _).alloc (Nat.le_refl _) _
  exact InT.below ⟨q0, q1, by simp [h.f0], by simp [h.f1], by rw [z]; exact lt⟩ bl

theorem InT.fresh {w : World} {b T : Nat} (x y : Int) (h : w.heap.size = b) : InT b x y (w.alloc (.cells #[.int .u64 x, .int .u64 y] T)) := by
  subst h
  exact ⟨by simp, by simp, by simp, by simp, by simp⟩
theorem InT.alloc {b : Nat} {x y : Int} {w : World} (h : InT b x y w) (o : Obj) : InT b x y (w.alloc o) := h.below ((Below.refl _ _).alloc (Nat.le_refl _) _)
theorem InT.belowB {B b : Nat} {x y : Int} {w w' : World} (h : InT b x y w) (hb : Below B w w') (hB : b < B) : InT b x y w' :=
  ⟨(hb.cell (p := ⟨b, 0, none⟩) hB).trans h.c0, (hb.cell (p := ⟨b, 1, none⟩) hB).trans h.c1, (hb.frozen (p := ⟨b, 0, none⟩) hB).trans h.f0, (hb.frozen (p := ⟨b, 1, none⟩) hB).trans h.f1, Nat.lt_of_lt_of_le h.lt hb.size⟩
theorem InT.set0 {b : Nat} {x y : Int} {w : World} (h : InT b x y w) (x' y' : Int) : InT b x' y' ((w.setCell ⟨b, 0, none⟩ (.int .u64 x')).setCell ⟨b, 1, none⟩ (.int .u64 y')) := by
  have ne : (⟨b, 0, none⟩ : Addr) ≠ ⟨b, 1, none⟩ := by simp
  have k0 : (w.setCell ⟨b, 0, none⟩ (.int .u64 x')).cell? ⟨b, 0, none⟩ = some (.int .u64 x') := World.cell?_setCell_same w _ _ h.c0
  have k1 : (w.setCell ⟨b, 0, none⟩ (.int .u64 x')).cell? ⟨b, 1, none⟩ = some (.int .u64 y) := (World.cell?_setCell_other w _ _ _ ne).trans h.c1
  exact ⟨(World.cell?_setCell_other _ _ _ _ ne.symm).trans k0, World.cell?_setCell_same _ _ _ k1, by simp [h.f0], by simp [h.f1], by have := h.lt; simpa [World.setCell] using this⟩
end Go.Proofs.YtffkppjmdelajaaDoor.Rng
