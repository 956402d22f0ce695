/- TopFails, part 46 of the proof: Enum: merged of Enum, EnumG, RisesP. -/
import Derived.Test.YtabkihellcflhaaGreatDoorTopFailsZ1
import Derived.Test.YtabkihellcflhaaGreatDoorTopFailsZ9
import Derived.Test.YtabkihellcflhaaGreatDoorTopFailsZ44
/- Enum: merged of Enum, EnumG, RisesP. -/
/- Plain laws on what can be numbered: one after the other, one of several. No program. -/
namespace Go.Proofs.YtabkihellcflhaaGreatDoor.Gens
set_option linter.unusedVariables false

/-- how many; the one of a number; the number of the one that a list begins with, and what stands behind it -/
structure En where
  cnt : Nat
  nth : Nat → List Int
  rank : List Int → Nat × List Int
/-- it differs first where it is less -/
def Ahead (a b : List Int) : Prop := ∃ (p : List Int) (x y : Int) (s t : List Int), a = p ++ x :: s ∧ b = p ++ y :: t ∧ x < y
theorem Ahead.behind {a b : List Int} (h : Ahead a b) (s t : List Int) : Ahead (a ++ s) (b ++ t) := by
  obtain ⟨p, x, y, s1, t1, rfl, rfl, hl⟩ := h
  exact ⟨p, x, y, s1 ++ s, t1 ++ t, by simp, by simp, hl⟩
theorem Ahead.front {a b : List Int} (h : Ahead a b) (q : List Int) : Ahead (q ++ a) (q ++ b) := by
  obtain ⟨p, x, y, s1, t1, rfl, rfl, hl⟩ := h
  exact ⟨q ++ p, x, y, s1, t1, by simp, by simp, hl⟩
structure Good (e : En) (T : List Int → Prop) : Prop where
  pos : 1 ≤ e.cnt
  tape : ∀ i, i < e.cnt → T (e.nth i)
  back : ∀ i, i < e.cnt → ∀ r, e.rank (e.nth i ++ r) = (i, r)
  all : ∀ c, T c → ∃ i, i < e.cnt ∧ e.nth i = c
  rises : ∀ i k, i < k → k < e.cnt → Ahead (e.nth i) (e.nth k)
theorem Good.congr {e : En} {T T' : List Int → Prop} (h : Good e T) (ht : ∀ c, T c ↔ T' c) : Good e T' :=
  ⟨h.pos, fun i hi => (ht _).1 (h.tape i hi), h.back, fun c hc => h.all c ((ht c).2 hc), h.rises⟩

def nilE : En := ⟨1, fun _ => [], fun l => (0, l)⟩
theorem good_nil : Good nilE (· = []) :=
  ⟨Nat.le_refl _, fun _ _ => rfl, fun i hi r => by have : i = 0 := by have hi : i < 1 := hi; omega
                                                   subst this; rfl, fun c hc => ⟨0, by decide, hc.symm⟩, fun i k h hk => by have hk : k < 1 := hk; omega⟩
def intE (n : Nat) : En := ⟨n, fun i => [(i : Int)], fun l => (l.head?.getD 0 |>.toNat, l.tail)⟩
theorem good_int (n : Nat) (h : 1 ≤ n) : Good (intE n) (fun c => ∃ x : Int, c = [x] ∧ 0 ≤ x ∧ x < n) :=
  ⟨h, fun i hi => ⟨i, rfl, by omega, by have hi : i < n := hi; omega⟩, fun i hi r => by simp [intE], fun c hc => by
    obtain ⟨x, rfl, h0, h1⟩ := hc
    refine ⟨x.toNat, by show _ < n; omega, ?_⟩
    show [((x.toNat : Nat) : Int)] = [x]
    rw [Int.toNat_of_nonneg h0], fun i k h hk => ⟨[], i, k, [], [], rfl, rfl, by omega⟩⟩
def consE (e es : En) : En := ⟨e.cnt * es.cnt, fun i => e.nth (i / es.cnt) ++ es.nth (i % es.cnt), fun l => ((e.rank l).1 * es.cnt + (es.rank (e.rank l).2).1, (es.rank (e.rank l).2).2)⟩
theorem good_cons {e es : En} {T Ts : List Int → Prop} (h : Good e T) (hs : Good es Ts) : Good (consE e es) (fun c => ∃ c1 c2, c = c1 ++ c2 ∧ T c1 ∧ Ts c2) := by
  have p1 := h.pos
  have p2 := hs.pos
  have hq : ∀ i, i < e.cnt * es.cnt → i / es.cnt < e.cnt ∧ i % es.cnt < es.cnt := fun i hi =>
    ⟨(Nat.div_lt_iff_lt_mul (by omega)).2 hi, Nat.mod_lt _ (by omega)⟩
  refine ⟨Nat.mul_pos p1 p2, fun i hi => ?_, fun i hi r => ?_, fun c hc => ?_, fun i k hik hk => ?_⟩
  · obtain ⟨a, b⟩ := hq i hi
    exact ⟨_, _, rfl, h.tape _ a, hs.tape _ b⟩
  · obtain ⟨a, b⟩ := hq i hi
    show ((e.rank ((e.nth (i / es.cnt) ++ es.nth (i % es.cnt)) ++ r)).1 * es.cnt + _, _) = _
    simp only [consE]
    rw [List.append_assoc, h.back _ a, hs.back _ b]
    simp only
    rw [Nat.div_add_mod']
  · obtain ⟨c1, c2, rfl, h1, h2⟩ := hc
    obtain ⟨i, hi, rfl⟩ := h.all c1 h1
    obtain ⟨k, hk, rfl⟩ := hs.all c2 h2
    refine ⟨i * es.cnt + k, ?_, ?_⟩
    · show _ < e.cnt * es.cnt
      have : (i + 1) * es.cnt ≤ e.cnt * es.cnt := Nat.mul_le_mul_right _ hi
      rw [Nat.add_mul] at this
      omega
    · show e.nth ((i * es.cnt + k) / es.cnt) ++ es.nth ((i * es.cnt + k) % es.cnt) = _
      rw [Nat.mul_comm, Nat.mul_add_div (by omega), Nat.div_eq_of_lt hk, Nat.mul_add_mod, Nat.mod_eq_of_lt hk]
      rfl
  · obtain ⟨a, b⟩ := hq k hk
    obtain ⟨a', b'⟩ := hq i (Nat.lt_trans hik hk)
    show Ahead (_ ++ _) (_ ++ _)
    by_cases hd : i / es.cnt < k / es.cnt
    · exact (h.rises _ _ hd a).behind _ _
    · have h1 : i / es.cnt ≤ k / es.cnt := Nat.div_le_div_right (Nat.le_of_lt hik)
      have h2 : i / es.cnt = k / es.cnt := by omega
      rw [h2]
      have e1 := Nat.div_add_mod i es.cnt
      have e2 := Nat.div_add_mod k es.cnt
      rw [h2] at e1
      exact (hs.rises _ _ (by omega) b).front _

def allE : List En → En
  | [] => nilE
  | e :: r => consE e (allE r)

def chooseC : List En → Nat
  | [] => 0
  | e :: r => e.cnt + chooseC r
def chooseN : Nat → List En → Nat → List Int
  | _, [], _ => []
  | c, e :: r, i => if i < e.cnt then (c : Int) :: e.nth i else chooseN (c + 1) r (i - e.cnt)
def rankAt : List En → Nat → List Int → Nat × List Int
  | [], _, l => (0, l)
  | e :: _, 0, l => e.rank l
  | e :: r, x + 1, l => (e.cnt + (rankAt r x l).1, (rankAt r x l).2)
def chooseE (L : List En) : En := ⟨chooseC L, chooseN 0 L, fun l => rankAt L (l.head?.getD 0).toNat l.tail⟩
theorem chooseC_app (l m : List En) : chooseC (l ++ m) = chooseC l + chooseC m := by
  induction l with
  | nil => simp [chooseC]
  | cons e r ih => simp only [List.cons_append, chooseC, ih]; omega
theorem chooseC_take (l : List En) (j : Nat) : chooseC (l.take j) ≤ chooseC l := by
  have := chooseC_app (l.take j) (l.drop j)
  rw [List.take_append_drop] at this
  omega
theorem chooseC_step (l : List En) (j : Nat) (h : j < l.length) : chooseC (l.take (j + 1)) = chooseC (l.take j) + (l[j]'h).cnt := by
  rw [List.take_succ_eq_append_getElem h, chooseC_app]; simp [chooseC]
theorem chooseC_mono (l : List En) {j k : Nat} (h : j ≤ k) : chooseC (l.take j) ≤ chooseC (l.take k) := by
  have := chooseC_take (l.take k) j
  rwa [List.take_take, Nat.min_eq_left h] at this
theorem choose_at : ∀ (L : List En) (c j : Nat) (h : j < L.length) (i : Nat), i < (L[j]'h).cnt → chooseN c L (chooseC (L.take j) + i) = ((c + j : Nat) : Int) :: (L[j]'h).nth i
  | [], c, j, h, i, hi => by simp at h
  | e :: r, c, 0, h, i, hi => by
    have hi : i < e.cnt := hi
    simp only [List.take_zero, chooseC, Nat.zero_add, chooseN, if_pos hi]
    rfl
  | e :: r, c, j + 1, h, i, hi => by
    have hi : i < (r[j]'(by simpa using h)).cnt := hi
    simp only [List.take_succ_cons, chooseC, chooseN]
    rw [if_neg (by omega), show e.cnt + chooseC (r.take j) + i - e.cnt = chooseC (r.take j) + i by omega, choose_at r (c + 1) j (by simpa using h) i hi]
    simp only [List.getElem_cons_succ]
    rw [show c + 1 + j = c + (j + 1) by omega]
theorem choose_ex : ∀ (L : List En) (i : Nat), i < chooseC L → ∃ (j : Nat) (h : j < L.length) (i' : Nat), i' < (L[j]'h).cnt ∧ i = chooseC (L.take j) + i'
  | [], i, hi => by simp [chooseC] at hi
  | e :: r, i, hi => by
    simp only [chooseC] at hi
    by_cases h : i < e.cnt
    · exact ⟨0, by simp, i, h, by simp [chooseC]⟩
    · obtain ⟨j, hj, i', h1, h2⟩ := choose_ex r (i - e.cnt) (by omega)
      exact ⟨j + 1, by simpa using hj, i', h1, by simp only [List.take_succ_cons, chooseC]; omega⟩
theorem rank_at : ∀ (L : List En) (j : Nat) (h : j < L.length) (l : List Int), rankAt L j l = (chooseC (L.take j) + ((L[j]'h).rank l).1, ((L[j]'h).rank l).2)
  | [], j, h, l => by simp at h
  | e :: r, 0, h, l => by simp [rankAt, chooseC]
  | e :: r, j + 1, h, l => by
    simp only [rankAt, rank_at r j (by simpa using h) l, List.take_succ_cons, chooseC, List.getElem_cons_succ]
    rw [Nat.add_assoc]
theorem good_choose (L : List En) (Ts : Nat → List Int → Prop) (hp : 0 < L.length) (hg : ∀ j (h : j < L.length), Good (L[j]'h) (Ts j)) :
    Good (chooseE L) (fun c => ∃ (j : Nat) (c' : List Int), j < L.length ∧ c = (j : Int) :: c' ∧ Ts j c') := by
  refine ⟨?_, fun i hi => ?_, fun i hi r => ?_, fun c hc => ?_, fun i k hik hk => ?_⟩
  · show 1 ≤ chooseC L
    have h1 := chooseC_step L 0 hp
    have h2 := chooseC_take L 1
    have h3 := (hg 0 hp).pos
    simp only [Nat.zero_add] at h1
    omega
  · obtain ⟨j, hj, i', h1, rfl⟩ := choose_ex L i hi
    exact ⟨j, (L[j]'hj).nth i', hj, (by show chooseN 0 L _ = _; rw [choose_at L 0 j hj i' h1, Nat.zero_add]), (hg j hj).tape i' h1⟩
  · obtain ⟨j, hj, i', h1, rfl⟩ := choose_ex L i hi
    show rankAt L _ _ = _
    have e1 : (chooseE L).nth (chooseC (L.take j) + i') = ((j : Nat) : Int) :: (L[j]'hj).nth i' := by
      show chooseN 0 L _ = _
      rw [choose_at L 0 j hj i' h1, Nat.zero_add]
    rw [e1]
    simp only [List.cons_append, List.head?_cons, Option.getD_some, List.tail_cons, Int.toNat_natCast]
    rw [rank_at L j hj, (hg j hj).back i' h1]
  · obtain ⟨j, c', hj, rfl, ht⟩ := hc
    obtain ⟨i, hi, rfl⟩ := (hg j hj).all c' ht
    refine ⟨chooseC (L.take j) + i, ?_, ?_⟩
    · show _ < chooseC L
      have h1 := chooseC_step L j hj
      have h2 := chooseC_take L (j + 1)
      omega
    · show chooseN 0 L _ = _
      rw [choose_at L 0 j hj i hi, Nat.zero_add]
  · obtain ⟨j, hj, i', h1, rfl⟩ := choose_ex L i (Nat.lt_trans hik hk)
    obtain ⟨j', hj', k', h1', rfl⟩ := choose_ex L k hk
    show Ahead (chooseN 0 L _) (chooseN 0 L _)
    rw [choose_at L 0 j hj i' h1, choose_at L 0 j' hj' k' h1', Nat.zero_add, Nat.zero_add]
    rcases Nat.lt_trichotomy j j' with hlt | heq | hgt
    · exact ⟨[], j, j', _, _, rfl, rfl, by omega⟩
    · subst heq
      exact ((hg j hj).rises i' k' (by omega) h1').front [(j : Int)]
    · have h2 := chooseC_step L j' hj'
      have h3 := chooseC_mono L (show j' + 1 ≤ j by omega)
      omega
end Go.Proofs.YtabkihellcflhaaGreatDoor.Gens

/- Plain laws on the tapes of a generator, numbered. No program. -/
namespace Go.Proofs.YtabkihellcflhaaGreatDoor.Gens
open Vals
set_option linter.unusedVariables false

/-- a tape of a generator; of generators, one behind the other -/
def TG (g : Gn) (c : List Int) : Prop := ∃ v, play readC g c = .ok (c, v, [])
def TL (l : List Gn) (c : List Int) : Prop := ∃ vs, playAll readC l c = .ok (c, vs, [])
theorem tg_more {g : Gn} (hg : Right g) {c : List Int} {v : Tr} (h : play readC g c = .ok (c, v, [])) (r : List Int) : play readC g (c ++ r) = .ok (c, v, r) :=
  play_again read_bounded read_reads g hg c c v [] h r
theorem tg_of {g : Gn} (hg : Right g) {s c r : List Int} {v : Tr} (h : play readC g s = .ok (c, v, r)) : play readC g c = .ok (c, v, []) := by
  have := play_again read_bounded read_reads g hg s c v r h []
  rwa [List.append_nil] at this
theorem tl_of {l : List Gn} (hl : ∀ x ∈ l, Right x) {s c r : List Int} {vs : List Tr} (h : playAll readC l s = .ok (c, vs, r)) : playAll readC l c = .ok (c, vs, []) := by
  have := all_again read_bounded read_reads l hl s c vs r h []
  rwa [List.append_nil] at this
theorem tl_nil (c : List Int) : TL [] c ↔ c = [] := by
  unfold TL
  simp only [playAll]
  constructor
  · rintro ⟨vs, h⟩; simp at h; exact h.1
  · rintro rfl; exact ⟨[], rfl⟩
theorem tl_cons {g : Gn} {l : List Gn} (hg : Right g) (hl : ∀ x ∈ l, Right x) (c : List Int) : TL (g :: l) c ↔ ∃ c1 c2, c = c1 ++ c2 ∧ TG g c1 ∧ TL l c2 := by
  unfold TL TG
  constructor
  · rintro ⟨vs, h⟩
    simp only [playAll] at h
    cases h1 : play readC g c with
    | error e => rw [h1] at h; cases h
    | ok p =>
      obtain ⟨c1, v, s1⟩ := p
      simp only [h1] at h
      cases h2 : playAll readC l s1 with
      | error e => simp only [h2] at h; cases h
      | ok q =>
        obtain ⟨c2, vs2, s2⟩ := q
        simp only [h2, Except.ok.injEq, Prod.mk.injEq] at h
        obtain ⟨rfl, rfl, rfl⟩ := h
        exact ⟨c1, c2, rfl, ⟨v, tg_of hg h1⟩, vs2, tl_of hl h2⟩
  · rintro ⟨c1, c2, rfl, ⟨v, h1⟩, vs, h2⟩
    exact ⟨v :: vs, by simp only [playAll, tg_more hg h1 c2, h2]⟩

def manyB (l : List En) (n : Nat) : List En := match l with
  | [] => []
  | e :: _ => (List.range' 0 n).map fun c => allE (List.replicate c e)
mutual
def enG : Gn → En
  | .node k a b subs => if k = 1 then nilE else if k = 2 then intE (b - a + 1).toNat else if k = 3 then allE (enGs subs) else if k = 5 then chooseE ((enGs subs).map fun e => allE [e]) else chooseE (manyB (enGs subs) (a + 1).toNat)
def enGs : List Gn → List En
  | [] => []
  | g :: r => enG g :: enGs r
end
theorem enGs_map : ∀ l : List Gn, enGs l = l.map enG
  | [] => rfl
  | g :: r => by rw [enGs, enGs_map r, List.map_cons]
/-- the parts that make choices behind the first one -/
def follow (g : Gn) (c : Nat) : List Gn := if g.kind = 4 then List.replicate c (g.subs.headD default) else (g.subs.drop c).take 1
/-- what the first choice leads to -/
def branches (g : Gn) : List En := if g.kind = 4 then manyB (enGs g.subs) (g.a + 1).toNat else (enGs g.subs).map fun e => allE [e]
theorem branch_len {g : Gn} (hg : Right g) (hk : g.kind = 4 ∨ g.kind = 5) : (branches g).length = if g.kind = 4 then (g.a + 1).toNat else g.subs.length := by
  cases g with | node k a b subs =>
  simp only [Gn.kind] at hk
  unfold branches
  simp only [Gn.kind, Gn.a, Gn.subs]
  rcases hk with rfl | rfl
  · have hl := ((right_max hg).2.2.1 rfl).2.2
    match subs, hl with
    | [x], _ => simp [enGs, manyB]
  · simp [enGs_map]
theorem branch_get {g : Gn} (hg : Right g) (hk : g.kind = 4 ∨ g.kind = 5) (j : Nat) (h : j < (branches g).length) : (branches g)[j]'h = allE ((follow g j).map enG) := by
  have hlen := branch_len hg hk
  cases g with | node k a b subs =>
  simp only [Gn.kind] at hk
  unfold branches at h hlen ⊢
  unfold follow
  simp only [Gn.kind, Gn.a, Gn.subs] at h hlen ⊢
  rcases hk with rfl | rfl
  · have hl := ((right_max hg).2.2.1 rfl).2.2
    match subs, hl with
    | [x], _ => simp [enGs, manyB]
  · simp only [enGs_map] at h hlen ⊢
    simp only [show ¬ (5 : Int) = 4 by omega, if_false] at h hlen ⊢
    have hj : j < subs.length := by simpa using h
    simp only [List.getElem_map]
    rw [List.drop_eq_getElem_cons hj, List.take_succ_cons, List.take_zero, List.map_cons, List.map_nil]
theorem enG_choose (g : Gn) (hk : g.kind = 4 ∨ g.kind = 5) : enG g = chooseE (branches g) := by
  cases g with | node k a b subs =>
  simp only [Gn.kind] at hk
  unfold branches
  simp only [Gn.kind, Gn.a, Gn.subs]
  rcases hk with rfl | rfl <;> simp [enG]
theorem enG_both (a b : Int) (subs : List Gn) : enG (.node 3 a b subs) = allE (subs.map enG) := by simp [enG, enGs_map]
theorem enG_int (a b : Int) (subs : List Gn) : enG (.node 2 a b subs) = intE (b - a + 1).toNat := by simp [enG]
theorem enG_just (a b : Int) (subs : List Gn) : enG (.node 1 a b subs) = nilE := by simp [enG]
theorem follow_right {g : Gn} (hg : Right g) (hk : g.kind = 4 ∨ g.kind = 5) (j : Nat) : ∀ x ∈ follow g j, x ∈ g.subs := by
  intro x hx
  unfold follow at hx
  split at hx
  · rename_i h4
    cases g with | node k a b subs =>
    simp only [Gn.kind] at h4
    subst h4
    have hl := ((right_max hg).2.2.1 rfl).2.2
    match subs, hl with
    | [y], _ =>
      have := List.eq_of_mem_replicate hx
      subst this
      simp [Gn.subs]
  · exact List.mem_of_mem_drop (List.mem_of_mem_take hx)

theorem good_list : ∀ (l : List Gn), (∀ x ∈ l, Right x) → (∀ x ∈ l, Good (enG x) (TG x)) → Good (allE (l.map enG)) (TL l)
  | [], _, _ => good_nil.congr fun c => (tl_nil c).symm
  | g :: r, hr, hg => (good_cons (hg g (by simp)) (good_list r (fun x hx => hr x (by simp [hx])) (fun x hx => hg x (by simp [hx])))).congr fun c => (tl_cons (hr g (by simp)) (fun x hx => hr x (by simp [hx])) c).symm
theorem toNat_cast {x : Int} (h : 0 ≤ x) : ((x.toNat : Nat) : Int) = x := Int.toNat_of_nonneg h
theorem tg_choose {g : Gn} (hg : Right g) (hk : g.kind = 4 ∨ g.kind = 5) (c : List Int) : TG g c ↔ ∃ (j : Nat) (c' : List Int), j < (branches g).length ∧ c = (j : Int) :: c' ∧ TL (follow g j) c' := by
  have hlen := branch_len hg hk
  have hm := right_max (k := g.kind) (a := g.a) (b := g.b) (subs := g.subs) (by cases g with | node k a b s => exact hg)
  have hs := hg.subs
  rw [hlen]
  clear hlen
  cases g with | node k a b subs =>
  simp only [Gn.kind, Gn.a, Gn.b, Gn.subs] at hk hm hs ⊢
  unfold TG follow
  simp only [Gn.kind, Gn.subs]
  rcases hk with rfl | rfl
  · obtain ⟨m0, m5, hl⟩ := hm.2.2.1 rfl
    match subs, hl with
    | [x], _ =>
      simp only [if_true, List.headD_cons]
      constructor
      · rintro ⟨v, h⟩
        simp only [play, show ¬ (4 : Int) = 1 by omega, show ¬ (4 : Int) = 2 by omega, show ¬ (4 : Int) = 5 by omega, show ¬ (4 : Int) = 3 by omega, if_false] at h
        cases h1 : readC c a with
        | error e => rw [h1] at h; cases h
        | ok p =>
          obtain ⟨y, s1⟩ := p
          obtain ⟨b1, b2⟩ := read_bounded _ _ _ _ m0 h1
          simp only [h1, rep_all'] at h
          cases h2 : playAll readC (List.replicate y.toNat x) s1 with
          | error e => simp only [h2] at h; cases h
          | ok q =>
            obtain ⟨c2, vs, s2⟩ := q
            simp only [h2, Except.ok.injEq, Prod.mk.injEq] at h
            obtain ⟨rfl, _, rfl⟩ := h
            have ht := tl_of (fun z hz => by rw [List.eq_of_mem_replicate hz]; exact hs x (by simp)) h2
            exact ⟨y.toNat, c2, by omega, by rw [toNat_cast b1], vs, ht⟩
      · rintro ⟨j, c', hj, rfl, vs, h2⟩
        refine ⟨.node true 0 vs, ?_⟩
        simp only [play, show ¬ (4 : Int) = 1 by omega, show ¬ (4 : Int) = 2 by omega, show ¬ (4 : Int) = 5 by omega, show ¬ (4 : Int) = 3 by omega, if_false]
        rw [read_reads (j : Int) a c' (by omega) (by omega)]
        simp only [rep_all', Int.toNat_natCast, h2]
  · have hp := hm.2.1 rfl
    simp only [show ¬ (5 : Int) = 4 by omega, if_false]
    constructor
    · rintro ⟨v, h⟩
      simp only [play, show ¬ (5 : Int) = 1 by omega, show ¬ (5 : Int) = 2 by omega, if_false, if_true] at h
      cases h1 : readC c (subs.length - 1) with
      | error e => rw [h1] at h; cases h
      | ok p =>
        obtain ⟨y, s1⟩ := p
        obtain ⟨b1, b2⟩ := read_bounded _ _ _ _ hp h1
        have hy : y.toNat < subs.length := by omega
        simp only [h1, at_get _ _ _ hy] at h
        cases h2 : play readC (subs[y.toNat]'hy) s1 with
        | error e => simp only [h2] at h; cases h
        | ok q =>
          obtain ⟨c2, v2, s2⟩ := q
          simp only [h2, Except.ok.injEq, Prod.mk.injEq] at h
          obtain ⟨rfl, _, rfl⟩ := h
          have hry := hs _ (List.getElem_mem hy)
          have ht := tg_of hry h2
          refine ⟨y.toNat, c2, hy, by rw [toNat_cast b1], ?_⟩
          rw [List.drop_eq_getElem_cons hy, List.take_succ_cons, List.take_zero, tl_cons hry (by simp)]
          exact ⟨c2, [], by simp, ⟨v2, ht⟩, [], rfl⟩
    · rintro ⟨j, c', hj, rfl, h2⟩
      have hry := hs _ (List.getElem_mem hj)
      rw [List.drop_eq_getElem_cons hj, List.take_succ_cons, List.take_zero, tl_cons hry (by simp)] at h2
      obtain ⟨c1, c2, rfl, ⟨v, h3⟩, h4⟩ := h2
      rw [tl_nil] at h4
      subst h4
      rw [List.append_nil]
      refine ⟨v, ?_⟩
      simp only [play, show ¬ (5 : Int) = 1 by omega, show ¬ (5 : Int) = 2 by omega, if_false, if_true]
      rw [read_reads (j : Int) _ c1 (by omega) (by omega)]
      simp only [Int.toNat_natCast, at_get _ _ _ hj, h3]
mutual
/-- all tapes of a right generator, each once, in their order -/
theorem good_gen : ∀ (g : Gn), Right g → Good (enG g) (TG g)
  | .node k a b subs, hg => by
    have hm := right_max hg
    have hs := good_gens subs hg.subs
    have hsub : ∀ x ∈ subs, Right x := hg.subs
    rcases (show k = 1 ∨ k = 2 ∨ k = 3 ∨ k = 4 ∨ k = 5 by omega) with rfl | rfl | rfl | h45
    · rw [enG_just]
      refine good_nil.congr fun c => ?_
      unfold TG
      simp only [play, if_true]
      constructor
      · rintro rfl; exact ⟨_, rfl⟩
      · rintro ⟨v, h⟩; simp only [Except.ok.injEq, Prod.mk.injEq] at h; exact h.1.symm
    · rw [enG_int]
      obtain ⟨h0, _⟩ := hm.1 rfl
      refine (good_int _ (by omega)).congr fun c => ?_
      unfold TG
      simp only [play, show ¬ (2 : Int) = 1 by omega, if_false, if_true]
      constructor
      · rintro ⟨x, rfl, h1, h2⟩
        rw [read_reads x _ [] h1 (by omega)]
        exact ⟨_, rfl⟩
      · rintro ⟨v, h⟩
        cases h1 : readC c (b - a) with
        | error e => rw [h1] at h; cases h
        | ok p =>
          obtain ⟨y, s1⟩ := p
          obtain ⟨b1, b2⟩ := read_bounded _ _ _ _ h0 h1
          simp only [h1, Except.ok.injEq, Prod.mk.injEq] at h
          exact ⟨y, h.1.symm, b1, by omega⟩
    · rw [enG_both]
      refine (good_list subs hsub hs).congr fun c => ?_
      unfold TL TG
      simp only [play, show ¬ (3 : Int) = 1 by omega, show ¬ (3 : Int) = 2 by omega, show ¬ (3 : Int) = 5 by omega, if_false, if_true]
      constructor
      · rintro ⟨vs, h⟩; rw [h]; exact ⟨_, rfl⟩
      · rintro ⟨v, h⟩
        cases h1 : playAll readC subs c with
        | error e => rw [h1] at h; cases h
        | ok q =>
          obtain ⟨c2, vs, s2⟩ := q
          simp only [h1, Except.ok.injEq, Prod.mk.injEq] at h
          obtain ⟨rfl, _, rfl⟩ := h
          exact ⟨vs, rfl⟩
    · have hk : (Gn.node k a b subs).kind = 4 ∨ (Gn.node k a b subs).kind = 5 := h45
      rw [enG_choose _ hk]
      refine (good_choose (branches (.node k a b subs)) (fun j => TL (follow (.node k a b subs) j)) ?_ (fun j h => ?_)).congr fun c => (tg_choose hg hk c).symm
      · rw [branch_len hg hk]
        simp only [Gn.kind, Gn.a, Gn.subs]
        rcases h45 with rfl | rfl
        · obtain ⟨m0, _⟩ := hm.2.2.1 rfl
          simp only [if_true]; omega
        · have := hm.2.1 rfl
          simp only [show ¬ (5 : Int) = 4 by omega, if_false]; omega
      · rw [branch_get hg hk j h]
        have hf := follow_right hg hk j
        exact good_list _ (fun x hx => hsub x (hf x hx)) (fun x hx => hs x (hf x hx))
theorem good_gens : ∀ (l : List Gn), (∀ x ∈ l, Right x) → ∀ x ∈ l, Good (enG x) (TG x)
  | [], _, x, hx => by simp at hx
  | g :: r, hr, x, hx => by
    rcases List.mem_cons.1 hx with h | h
    · rw [h]; exact good_gen g (hr g (by simp))
    · exact good_gens r (fun y hy => hr y (by simp [hy])) x h
end

/-! how many: the program's number, bounded -/
theorem cap_mul (m q : Nat) : min (1048577 : Int) (min 1048577 (m : Int) * min 1048577 (q : Int)) = min 1048577 ((m * q : Nat) : Int) := by
  rw [Int.natCast_mul]
  by_cases hm : m ≤ 1048577
  · rw [show min (1048577 : Int) (m : Int) = m by omega]
    by_cases hq : q ≤ 1048577
    · rw [show min (1048577 : Int) (q : Int) = q by omega]
    · rw [show min (1048577 : Int) (q : Int) = 1048577 by omega]
      by_cases h0 : m = 0
      · subst h0; simp
      · have h1 : (1 : Int) * 1048577 ≤ (m : Int) * 1048577 := Int.mul_le_mul_of_nonneg_right (by omega) (by omega)
        have h2 : (1 : Int) * q ≤ (m : Int) * q := Int.mul_le_mul_of_nonneg_right (by omega) (by omega)
        omega
  · rw [show min (1048577 : Int) (m : Int) = 1048577 by omega]
    by_cases h0 : q = 0
    · subst h0; simp; omega
    · have h1 : (1048577 : Int) * 1 ≤ 1048577 * min 1048577 (q : Int) := Int.mul_le_mul_of_nonneg_left (by omega) (by omega)
      have h2 : (m : Int) * 1 ≤ (m : Int) * q := Int.mul_le_mul_of_nonneg_left (by omega) (by omega)
      omega
theorem cap_add (m q : Nat) : min (1048577 : Int) (min 1048577 (m : Int) + min 1048577 (q : Int)) = min 1048577 ((m + q : Nat) : Int) := by omega
theorem many_cap (e : En) : ∀ (i c s : Nat), manyN (min 1048577 (e.cnt : Int)) i (min 1048577 (s : Int)) (min 1048577 ((allE (List.replicate c e)).cnt : Int)) = min 1048577 ((s + chooseC ((List.range' c i).map fun c => allE (List.replicate c e)) : Nat) : Int)
  | 0, c, s => by simp [manyN, chooseC]
  | i + 1, c, s => by
    have e1 : (allE (List.replicate (c + 1) e)).cnt = (allE (List.replicate c e)).cnt * e.cnt := by
      rw [List.replicate_succ, allE]; show e.cnt * _ = _; exact Nat.mul_comm _ _
    rw [manyN, cap_add, cap_mul, ← e1, many_cap e i (c + 1) _, List.range'_succ, List.map_cons, chooseC, Nat.add_assoc]
mutual
theorem count_cap : ∀ (g : Gn), Right g → countG g = min 1048577 ((enG g).cnt : Int)
  | .node k a b subs, hg => by
    have hm := right_max hg
    have hsub : ∀ x ∈ subs, Right x := hg.subs
    rcases (show k = 1 ∨ k = 2 ∨ k = 3 ∨ k = 4 ∨ k = 5 by omega) with rfl | rfl | rfl | rfl | rfl
    · rw [enG_just]; simp [countG, nilE]; omega
    · rw [enG_int]
      obtain ⟨h0, h1⟩ := hm.1 rfl
      simp only [countG, intE, show ¬ (2 : Int) = 1 by omega, if_false, if_true]
      omega
    · rw [enG_both]
      have := both_cap subs hsub 1
      simp only [countG, show ¬ (3 : Int) = 1 by omega, show ¬ (3 : Int) = 2 by omega, show ¬ (3 : Int) = 5 by omega, if_false, if_true]
      rw [show (1 : Int) = min 1048577 ((1 : Nat) : Int) by omega, this, Nat.one_mul]
    · obtain ⟨m0, _, hl⟩ := hm.2.2.1 rfl
      match subs, hl with
      | [x], _ =>
        have hx := count_cap x (hsub x (by simp))
        have := many_cap (enG x) (a + 1).toNat 0 0
        simp only [countG, countHead, enG, enGs, manyB, show ¬ (4 : Int) = 1 by omega, show ¬ (4 : Int) = 2 by omega, show ¬ (4 : Int) = 5 by omega, show ¬ (4 : Int) = 3 by omega, if_false]
        rw [hx]
        simp only [List.replicate_zero, allE, nilE, Nat.zero_add] at this
        rw [show (0 : Int) = min 1048577 ((0 : Nat) : Int) by omega, show (1 : Int) = min 1048577 ((1 : Nat) : Int) by omega]
        exact this
    · have := any_cap subs hsub 0
      simp only [countG, enG, show ¬ (5 : Int) = 1 by omega, show ¬ (5 : Int) = 2 by omega, show ¬ (5 : Int) = 3 by omega, if_false, if_true]
      rw [show (0 : Int) = min 1048577 ((0 : Nat) : Int) by omega, this, Nat.zero_add]
      rfl
theorem both_cap : ∀ (l : List Gn), (∀ x ∈ l, Right x) → ∀ m : Nat, countBoth l (min 1048577 (m : Int)) = min 1048577 ((m * (allE (l.map enG)).cnt : Nat) : Int)
  | [], _, m => by simp [countBoth, allE, nilE]
  | g :: r, h, m => by
    rw [countBoth, count_cap g (h g (by simp)), cap_mul, both_cap r (fun x hx => h x (by simp [hx])), List.map_cons, allE, Nat.mul_assoc]
    rfl
theorem any_cap : ∀ (l : List Gn), (∀ x ∈ l, Right x) → ∀ m : Nat, countAny l (min 1048577 (m : Int)) = min 1048577 ((m + chooseC ((enGs l).map fun e => allE [e]) : Nat) : Int)
  | [], _, m => by simp [countAny, enGs, chooseC]
  | g :: r, h, m => by
    rw [countAny, count_cap g (h g (by simp)), cap_add, any_cap r (fun x hx => h x (by simp [hx])), enGs, List.map_cons, chooseC, Nat.add_assoc]
    simp [allE, consE, nilE]
end
end Go.Proofs.YtabkihellcflhaaGreatDoor.Gens

/- Plain laws on tapes in their order. No program. -/
namespace Go.Proofs.YtabkihellcflhaaGreatDoor.Gens
set_option linter.unusedVariables false

theorem getD_front (p s : List Int) (m : Nat) (h : m < p.length) : (p ++ s).getD m 0 = p.getD m 0 := by
  rw [List.getD_eq_getElem?_getD, List.getD_eq_getElem?_getD, List.getElem?_append_left h]
theorem getD_here (p s : List Int) (x : Int) : (p ++ x :: s).getD p.length 0 = x := by
  rw [List.getD_eq_getElem?_getD, List.getElem?_append_right (Nat.le_refl _)]; simp
theorem ahead_ne {a b : List Int} (h : Ahead a b) {j : Nat} (hp : ∀ m, m < j → a.getD m 0 = b.getD m 0) (hne : a.getD j 0 ≠ b.getD j 0) : a.getD j 0 < b.getD j 0 := by
  obtain ⟨p, x, y, s, t, rfl, rfl, hl⟩ := h
  rcases Nat.lt_trichotomy j p.length with h1 | h1 | h1
  · rw [getD_front _ _ _ h1, getD_front _ _ _ h1] at hne; exact absurd rfl hne
  · subst h1; rw [getD_here, getD_here]; exact hl
  · have := hp _ h1; rw [getD_here, getD_here] at this; omega
theorem ahead_all {a b : List Int} (h : Ahead a b) : ¬ ∀ m, m < a.length → m < b.length → a.getD m 0 = b.getD m 0 := by
  obtain ⟨p, x, y, s, t, rfl, rfl, hl⟩ := h
  intro hp
  have := hp p.length (by simp) (by simp)
  rw [getD_here, getD_here] at this; omega
theorem Good.order {e : En} {T : List Int → Prop} (h : Good e T) {i k : Nat} (hi : i < e.cnt) (hk : k < e.cnt) {j : Nat} (hp : ∀ m, m < j → (e.nth i).getD m 0 = (e.nth k).getD m 0) (hne : (e.nth i).getD j 0 ≠ (e.nth k).getD j 0) : (e.nth i).getD j 0 < (e.nth k).getD j 0 ↔ i < k := by
  rcases Nat.lt_trichotomy i k with h1 | h1 | h1
  · exact ⟨fun _ => h1, fun _ => ahead_ne (h.rises i k h1 hk) hp hne⟩
  · subst h1; exact absurd rfl hne
  · have := ahead_ne (h.rises k i h1 hi) (fun m hm => (hp m hm).symm) (fun e => hne e.symm)
    constructor <;> intro h2 <;> omega
theorem Good.same {e : En} {T : List Int → Prop} (h : Good e T) {i k : Nat} (hi : i < e.cnt) (hk : k < e.cnt) (hp : ∀ m, m < (e.nth i).length → m < (e.nth k).length → (e.nth i).getD m 0 = (e.nth k).getD m 0) : i = k := by
  rcases Nat.lt_trichotomy i k with h1 | h1 | h1
  · exact absurd hp (ahead_all (h.rises i k h1 hk))
  · exact h1
  · exact absurd (fun m h2 h3 => (hp m h3 h2).symm) (ahead_all (h.rises k i h1 hi))
end Go.Proofs.YtabkihellcflhaaGreatDoor.Gens
