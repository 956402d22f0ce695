/- Plain laws on what can be numbered: one after the other, one of several. No program. -/
import Derived.Test.YtboecgbgcbkcjaaBase
namespace Go.Proofs.Ytboecgbgcbkcjaa.Gens
set_option linter.unusedVariables false

/-- how many; the one of a number; the number of the one that a list begins with, and what stands behind it -/
structure En where
  cnt : Nat
  nth : Nat → List Int
  rank : List Int → Nat × List Int
/-- it differs first where it is less -/
def Ahead (a b : List Int) : Prop := ∃ (p : List Int) (x y : Int) (s t : List Int), a = p ++ x :: s ∧ b = p ++ y :: t ∧ x < y
theorem Ahead.behind {a b : List Int} (h : Ahead a b) (s t : List Int) : Ahead (a ++ s) (b ++ t) := by
  obtain ⟨p, x, y, s1, t1, rfl, rfl, hl⟩ := h
  exact ⟨p, x, y, s1 ++ s, t1 ++ t, by simp, by simp, hl⟩
theorem Ahead.front {a b : List Int} (h : Ahead a b) (q : List Int) : Ahead (q ++ a) (q ++ b) := by
  obtain ⟨p, x, y, s1, t1, rfl, rfl, hl⟩ := h
  exact ⟨q ++ p, x, y, s1, t1, by simp, by simp, hl⟩
structure Good (e : En) (T : List Int → Prop) : Prop where
  pos : 1 ≤ e.cnt
  tape : ∀ i, i < e.cnt → T (e.nth i)
  back : ∀ i, i < e.cnt → ∀ r, e.rank (e.nth i ++ r) = (i, r)
  all : ∀ c, T c → ∃ i, i < e.cnt ∧ e.nth i = c
  rises : ∀ i k, i < k → k < e.cnt → Ahead (e.nth i) (e.nth k)
theorem Good.congr {e : En} {T T' : List Int → Prop} (h : Good e T) (ht : ∀ c, T c ↔ T' c) : Good e T' :=
  ⟨h.pos, fun i hi => (ht _).1 (h.tape i hi), h.back, fun c hc => h.all c ((ht c).2 hc), h.rises⟩

def nilE : En := ⟨1, fun _ => [], fun l => (0, l)⟩
theorem good_nil : Good nilE (· = []) :=
  ⟨Nat.le_refl _, fun _ _ => rfl, fun i hi r => by have : i = 0 := by have hi : i < 1 := hi; omega
                                                   subst this; rfl, fun c hc => ⟨0, by decide, hc.symm⟩, fun i k h hk => by have hk : k < 1 := hk; omega⟩
def intE (n : Nat) : En := ⟨n, fun i => [(i : Int)], fun l => (l.head?.getD 0 |>.toNat, l.tail)⟩
theorem good_int (n : Nat) (h : 1 ≤ n) : Good (intE n) (fun c => ∃ x : Int, c = [x] ∧ 0 ≤ x ∧ x < n) :=
  ⟨h, fun i hi => ⟨i, rfl, by omega, by have hi : i < n := hi; omega⟩, fun i hi r => by simp [intE], fun c hc => by
    obtain ⟨x, rfl, h0, h1⟩ := hc
    refine ⟨x.toNat, by show _ < n; omega, ?_⟩
    show [((x.toNat : Nat) : Int)] = [x]
    rw [Int.toNat_of_nonneg h0], fun i k h hk => ⟨[], i, k, [], [], rfl, rfl, by omega⟩⟩
def consE (e es : En) : En := ⟨e.cnt * es.cnt, fun i => e.nth (i / es.cnt) ++ es.nth (i % es.cnt), fun l => ((e.rank l).1 * es.cnt + (es.rank (e.rank l).2).1, (es.rank (e.rank l).2).2)⟩
theorem good_cons {e es : En} {T Ts : List Int → Prop} (h : Good e T) (hs : Good es Ts) : Good (consE e es) (fun c => ∃ c1 c2, c = c1 ++ c2 ∧ T c1 ∧ Ts c2) := by
  have p1 := h.pos
  have p2 := hs.pos
  have hq : ∀ i, i < e.cnt * es.cnt → i / es.cnt < e.cnt ∧ i % es.cnt < es.cnt := fun i hi =>
    ⟨(Nat.div_lt_iff_lt_mul (by omega)).2 hi, Nat.mod_lt _ (by omega)⟩
  refine ⟨Nat.mul_pos p1 p2, fun i hi => ?_, fun i hi r => ?_, fun c hc => ?_, fun i k hik hk => ?_⟩
  · obtain ⟨a, b⟩ := hq i hi
    exact ⟨_, _, rfl, h.tape _ a, hs.tape _ b⟩
  · obtain ⟨a, b⟩ := hq i hi
    show ((e.rank ((e.nth (i / es.cnt) ++ es.nth (i % es.cnt)) ++ r)).1 * es.cnt + _, _) = _
    simp only [consE]
    rw [List.append_assoc, h.back _ a, hs.back _ b]
    simp only
    rw [Nat.div_add_mod']
  · obtain ⟨c1, c2, rfl, h1, h2⟩ := hc
    obtain ⟨i, hi, rfl⟩ := h.all c1 h1
    obtain ⟨k, hk, rfl⟩ := hs.all c2 h2
    refine ⟨i * es.cnt + k, ?_, ?_⟩
    · show _ < e.cnt * es.cnt
      have : (i + 1) * es.cnt ≤ e.cnt * es.cnt := Nat.mul_le_mul_right _ hi
      rw [Nat.add_mul] at this
      omega
    · show e.nth ((i * es.cnt + k) / es.cnt) ++ es.nth ((i * es.cnt + k) % es.cnt) = _
      rw [Nat.mul_comm, Nat.mul_add_div (by omega), Nat.div_eq_of_lt hk, Nat.mul_add_mod, Nat.mod_eq_of_lt hk]
      rfl
  · obtain ⟨a, b⟩ := hq k hk
    obtain ⟨a', b'⟩ := hq i (Nat.lt_trans hik hk)
    show Ahead (_ ++ _) (_ ++ _)
    by_cases hd : i / es.cnt < k / es.cnt
    · exact (h.rises _ _ hd a).behind _ _
    · have h1 : i / es.cnt ≤ k / es.cnt := Nat.div_le_div_right (Nat.le_of_lt hik)
      have h2 : i / es.cnt = k / es.cnt := by omega
      rw [h2]
      have e1 := Nat.div_add_mod i es.cnt
      have e2 := Nat.div_add_mod k es.cnt
      rw [h2] at e1
      exact (hs.rises _ _ (by omega) b).front _

def allE : List En → En
  | [] => nilE
  | e :: r => consE e (allE r)

def chooseC : List En → Nat
  | [] => 0
  | e :: r => e.cnt + chooseC r
def chooseN : Nat → List En → Nat → List Int
  | _, [], _ => []
  | c, e :: r, i => if i < e.cnt then (c : Int) :: e.nth i else chooseN (c + 1) r (i - e.cnt)
def rankAt : List En → Nat → List Int → Nat × List Int
  | [], _, l => (0, l)
  | e :: _, 0, l => e.rank l
  | e :: r, x + 1, l => (e.cnt + (rankAt r x l).1, (rankAt r x l).2)
def chooseE (L : List En) : En := ⟨chooseC L, chooseN 0 L, fun l => rankAt L (l.head?.getD 0).toNat l.tail⟩
theorem chooseC_app (l m : List En) : chooseC (l ++ m) = chooseC l + chooseC m := by
  induction l with
  | nil => simp [chooseC]
  | cons e r ih => simp only [List.cons_append, chooseC, ih]; omega
theorem chooseC_take (l : List En) (j : Nat) : chooseC (l.take j) ≤ chooseC l := by
  have := chooseC_app (l.take j) (l.drop j)
  rw [List.take_append_drop] at this
  omega
theorem chooseC_step (l : List En) (j : Nat) (h : j < l.length) : chooseC (l.take (j + 1)) = chooseC (l.take j) + (l[j]'h).cnt := by
  rw [List.take_succ_eq_append_getElem h, chooseC_app]; simp [chooseC]
theorem chooseC_mono (l : List En) {j k : Nat} (h : j ≤ k) : chooseC (l.take j) ≤ chooseC (l.take k) := by
  have := chooseC_take (l.take k) j
  rwa [List.take_take, Nat.min_eq_left h] at this
theorem choose_at : ∀ (L : List En) (c j : Nat) (h : j < L.length) (i : Nat), i < (L[j]'h).cnt → chooseN c L (chooseC (L.take j) + i) = ((c + j : Nat) : Int) :: (L[j]'h).nth i
  | [], c, j, h, i, hi => by simp at h
  | e :: r, c, 0, h, i, hi => by
    have hi : i < e.cnt := hi
    simp only [List.take_zero, chooseC, Nat.zero_add, chooseN, if_pos hi]
    rfl
  | e :: r, c, j + 1, h, i, hi => by
    have hi : i < (r[j]'(by simpa using h)).cnt := hi
    simp only [List.take_succ_cons, chooseC, chooseN]
    rw [if_neg (by omega), show e.cnt + chooseC (r.take j) + i - e.cnt = chooseC (r.take j) + i by omega, choose_at r (c + 1) j (by simpa using h) i hi]
    simp only [List.getElem_cons_succ]
    rw [show c + 1 + j = c + (j + 1) by omega]
theorem choose_ex : ∀ (L : List En) (i : Nat), i < chooseC L → ∃ (j : Nat) (h : j < L.length) (i' : Nat), i' < (L[j]'h).cnt ∧ i = chooseC (L.take j) + i'
  | [], i, hi => by simp [chooseC] at hi
  | e :: r, i, hi => by
    simp only [chooseC] at hi
    by_cases h : i < e.cnt
    · exact ⟨0, by simp, i, h, by simp [chooseC]⟩
    · obtain ⟨j, hj, i', h1, h2⟩ := choose_ex r (i - e.cnt) (by omega)
      exact ⟨j + 1, by simpa using hj, i', h1, by simp only [List.take_succ_cons, chooseC]; omega⟩
theorem rank_at : ∀ (L : List En) (j : Nat) (h : j < L.length) (l : List Int), rankAt L j l = (chooseC (L.take j) + ((L[j]'h).rank l).1, ((L[j]'h).rank l).2)
  | [], j, h, l => by simp at h
  | e :: r, 0, h, l => by simp [rankAt, chooseC]
  | e :: r, j + 1, h, l => by
    simp only [rankAt, rank_at r j (by simpa using h) l, List.take_succ_cons, chooseC, List.getElem_cons_succ]
    rw [Nat.add_assoc]
theorem good_choose (L : List En) (Ts : Nat → List Int → Prop) (hp : 0 < L.length) (hg : ∀ j (h : j < L.length), Good (L[j]'h) (Ts j)) :
    Good (chooseE L) (fun c => ∃ (j : Nat) (c' : List Int), j < L.length ∧ c = (j : Int) :: c' ∧ Ts j c') := by
  refine ⟨?_, fun i hi => ?_, fun i hi r => ?_, fun c hc => ?_, fun i k hik hk => ?_⟩
  · show 1 ≤ chooseC L
    have h1 := chooseC_step L 0 hp
    have h2 := chooseC_take L 1
    have h3 := (hg 0 hp).pos
    simp only [Nat.zero_add] at h1
    omega
  · obtain ⟨j, hj, i', h1, rfl⟩ := choose_ex L i hi
    exact ⟨j, (L[j]'hj).nth i', hj, (by show chooseN 0 L _ = _; rw [choose_at L 0 j hj i' h1, Nat.zero_add]), (hg j hj).tape i' h1⟩
  · obtain ⟨j, hj, i', h1, rfl⟩ := choose_ex L i hi
    show rankAt L _ _ = _
    have e1 : (chooseE L).nth (chooseC (L.take j) + i') = ((j : Nat) : Int) :: (L[j]'hj).nth i' := by
      show chooseN 0 L _ = _
      rw [choose_at L 0 j hj i' h1, Nat.zero_add]
    rw [e1]
    simp only [List.cons_append, List.head?_cons, Option.getD_some, List.tail_cons, Int.toNat_natCast]
    rw [rank_at L j hj, (hg j hj).back i' h1]
  · obtain ⟨j, c', hj, rfl, ht⟩ := hc
    obtain ⟨i, hi, rfl⟩ := (hg j hj).all c' ht
    refine ⟨chooseC (L.take j) + i, ?_, ?_⟩
    · show _ < chooseC L
      have h1 := chooseC_step L j hj
      have h2 := chooseC_take L (j + 1)
      omega
    · show chooseN 0 L _ = _
      rw [choose_at L 0 j hj i hi, Nat.zero_add]
  · obtain ⟨j, hj, i', h1, rfl⟩ := choose_ex L i (Nat.lt_trans hik hk)
    obtain ⟨j', hj', k', h1', rfl⟩ := choose_ex L k hk
    show Ahead (chooseN 0 L _) (chooseN 0 L _)
    rw [choose_at L 0 j hj i' h1, choose_at L 0 j' hj' k' h1', Nat.zero_add, Nat.zero_add]
    rcases Nat.lt_trichotomy j j' with hlt | heq | hgt
    · exact ⟨[], j, j', _, _, rfl, rfl, by omega⟩
    · subst heq
      exact ((hg j hj).rises i' k' (by omega) h1').front [(j : Int)]
    · have h2 := chooseC_step L j' hj'
      have h3 := chooseC_mono L (show j' + 1 ≤ j by omega)
      omega
end Go.Proofs.Ytboecgbgcbkcjaa.Gens
