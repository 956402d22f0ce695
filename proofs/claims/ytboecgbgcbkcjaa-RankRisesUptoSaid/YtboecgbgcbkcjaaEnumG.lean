/- Plain laws on the tapes of a generator, numbered. No program. -/
import Derived.Test.YtboecgbgcbkcjaaEnum
import Derived.Test.YtboecgbgcbkcjaaPlay6
import Derived.Test.YtboecgbgcbkcjaaCountL
namespace Go.Proofs.Ytboecgbgcbkcjaa.Gens
open Vals
set_option linter.unusedVariables false

/-- a tape of a generator; of generators, one behind the other -/
def TG (g : Gn) (c : List Int) : Prop := ∃ v, play readC g c = .ok (c, v, [])
def TL (l : List Gn) (c : List Int) : Prop := ∃ vs, playAll readC l c = .ok (c, vs, [])
theorem tg_more {g : Gn} (hg : Right g) {c : List Int} {v : Tr} (h : play readC g c = .ok (c, v, [])) (r : List Int) : play readC g (c ++ r) = .ok (c, v, r) :=
  play_again read_bounded read_reads g hg c c v [] h r
theorem tg_of {g : Gn} (hg : Right g) {s c r : List Int} {v : Tr} (h : play readC g s = .ok (c, v, r)) : play readC g c = .ok (c, v, []) := by
  have := play_again read_bounded read_reads g hg s c v r h []
  rwa [List.append_nil] at this
theorem tl_of {l : List Gn} (hl : ∀ x ∈ l, Right x) {s c r : List Int} {vs : List Tr} (h : playAll readC l s = .ok (c, vs, r)) : playAll readC l c = .ok (c, vs, []) := by
  have := all_again read_bounded read_reads l hl s c vs r h []
  rwa [List.append_nil] at this
theorem tl_nil (c : List Int) : TL [] c ↔ c = [] := by
  unfold TL
  simp only [playAll]
  constructor
  · rintro ⟨vs, h⟩; simp at h; exact h.1
  · rintro rfl; exact ⟨[], rfl⟩
theorem tl_cons {g : Gn} {l : List Gn} (hg : Right g) (hl : ∀ x ∈ l, Right x) (c : List Int) : TL (g :: l) c ↔ ∃ c1 c2, c = c1 ++ c2 ∧ TG g c1 ∧ TL l c2 := by
  unfold TL TG
  constructor
  · rintro ⟨vs, h⟩
    simp only [playAll] at h
    cases h1 : play readC g c with
    | error e => rw [h1] at h; cases h
    | ok p =>
      obtain ⟨c1, v, s1⟩ := p
      simp only [h1] at h
      cases h2 : playAll readC l s1 with
      | error e => simp only [h2] at h; cases h
      | ok q =>
        obtain ⟨c2, vs2, s2⟩ := q
        simp only [h2, Except.ok.injEq, Prod.mk.injEq] at h
        obtain ⟨rfl, rfl, rfl⟩ := h
        exact ⟨c1, c2, rfl, ⟨v, tg_of hg h1⟩, vs2, tl_of hl h2⟩
  · rintro ⟨c1, c2, rfl, ⟨v, h1⟩, vs, h2⟩
    exact ⟨v :: vs, by simp only [playAll, tg_more hg h1 c2, h2]⟩

def manyB (l : List En) (n : Nat) : List En := match l with
  | [] => []
  | e :: _ => (List.range' 0 n).map fun c => allE (List.replicate c e)
mutual
def enG : Gn → En
  | .node k a b subs => if k = 1 then nilE else if k = 2 then intE (b - a + 1).toNat else if k = 3 then allE (enGs subs) else if k = 5 then chooseE ((enGs subs).map fun e => allE [e]) else chooseE (manyB (enGs subs) (a + 1).toNat)
def enGs : List Gn → List En
  | [] => []
  | g :: r => enG g :: enGs r
end
theorem enGs_map : ∀ l : List Gn, enGs l = l.map enG
  | [] => rfl
  | g :: r => by rw [enGs, enGs_map r, List.map_cons]
/-- the parts that make choices behind the first one -/
def follow (g : Gn) (c : Nat) : List Gn := if g.kind = 4 then List.replicate c (g.subs.headD default) else (g.subs.drop c).take 1
/-- what the first choice leads to -/
def branches (g : Gn) : List En := if g.kind = 4 then manyB (enGs g.subs) (g.a + 1).toNat else (enGs g.subs).map fun e => allE [e]
theorem branch_len {g : Gn} (hg : Right g) (hk : g.kind = 4 ∨ g.kind = 5) : (branches g).length = if g.kind = 4 then (g.a + 1).toNat else g.subs.length := by
  cases g with | node k a b subs =>
  simp only [Gn.kind] at hk
  unfold branches
  simp only [Gn.kind, Gn.a, Gn.subs]
  rcases hk with rfl | rfl
  · have hl := ((right_max hg).2.2.1 rfl).2.2
    match subs, hl with
    | [x], _ => simp [enGs, manyB]
  · simp [enGs_map]
theorem branch_get {g : Gn} (hg : Right g) (hk : g.kind = 4 ∨ g.kind = 5) (j : Nat) (h : j < (branches g).length) : (branches g)[j]'h = allE ((follow g j).map enG) := by
  have hlen := branch_len hg hk
  cases g with | node k a b subs =>
  simp only [Gn.kind] at hk
  unfold branches at h hlen ⊢
  unfold follow
  simp only [Gn.kind, Gn.a, Gn.subs] at h hlen ⊢
  rcases hk with rfl | rfl
  · have hl := ((right_max hg).2.2.1 rfl).2.2
    match subs, hl with
    | [x], _ => simp [enGs, manyB]
  · simp only [enGs_map] at h hlen ⊢
    simp only [show ¬ (5 : Int) = 4 by omega, if_false] at h hlen ⊢
    have hj : j < subs.length := by simpa using h
    simp only [List.getElem_map]
    rw [List.drop_eq_getElem_cons hj, List.take_succ_cons, List.take_zero, List.map_cons, List.map_nil]
theorem enG_choose (g : Gn) (hk : g.kind = 4 ∨ g.kind = 5) : enG g = chooseE (branches g) := by
  cases g with | node k a b subs =>
  simp only [Gn.kind] at hk
  unfold branches
  simp only [Gn.kind, Gn.a, Gn.subs]
  rcases hk with rfl | rfl <;> simp [enG]
theorem enG_both (a b : Int) (subs : List Gn) : enG (.node 3 a b subs) = allE (subs.map enG) := by simp [enG, enGs_map]
theorem enG_int (a b : Int) (subs : List Gn) : enG (.node 2 a b subs) = intE (b - a + 1).toNat := by simp [enG]
theorem enG_just (a b : Int) (subs : List Gn) : enG (.node 1 a b subs) = nilE := by simp [enG]
theorem follow_right {g : Gn} (hg : Right g) (hk : g.kind = 4 ∨ g.kind = 5) (j : Nat) : ∀ x ∈ follow g j, x ∈ g.subs := by
  intro x hx
  unfold follow at hx
  split at hx
  · rename_i h4
    cases g with | node k a b subs =>
    simp only [Gn.kind] at h4
    subst h4
    have hl := ((right_max hg).2.2.1 rfl).2.2
    match subs, hl with
    | [y], _ =>
      have := List.eq_of_mem_replicate hx
      subst this
      simp [Gn.subs]
  · exact List.mem_of_mem_drop (List.mem_of_mem_take hx)

theorem good_list : ∀ (l : List Gn), (∀ x ∈ l, Right x) → (∀ x ∈ l, Good (enG x) (TG x)) → Good (allE (l.map enG)) (TL l)
  | [], _, _ => good_nil.congr fun c => (tl_nil c).symm
  | g :: r, hr, hg => (good_cons (hg g (by simp)) (good_list r (fun x hx => hr x (by simp [hx])) (fun x hx => hg x (by simp [hx])))).congr fun c => (tl_cons (hr g (by simp)) (fun x hx => hr x (by simp [hx])) c).symm
theorem toNat_cast {x : Int} (h : 0 ≤ x) : ((x.toNat : Nat) : Int) = x := Int.toNat_of_nonneg h
theorem tg_choose {g : Gn} (hg : Right g) (hk : g.kind = 4 ∨ g.kind = 5) (c : List Int) : TG g c ↔ ∃ (j : Nat) (c' : List Int), j < (branches g).length ∧ c = (j : Int) :: c' ∧ TL (follow g j) c' := by
  have hlen := branch_len hg hk
  have hm := right_max (k := g.kind) (a := g.a) (b := g.b) (subs := g.subs) (by cases g with | node k a b s => exact hg)
  have hs := hg.subs
  rw [hlen]
  clear hlen
  cases g with | node k a b subs =>
  simp only [Gn.kind, Gn.a, Gn.b, Gn.subs] at hk hm hs ⊢
  unfold TG follow
  simp only [Gn.kind, Gn.subs]
  rcases hk with rfl | rfl
  · obtain ⟨m0, m5, hl⟩ := hm.2.2.1 rfl
    match subs, hl with
    | [x], _ =>
      simp only [if_true, List.headD_cons]
      constructor
      · rintro ⟨v, h⟩
        simp only [play, show ¬ (4 : Int) = 1 by omega, show ¬ (4 : Int) = 2 by omega, show ¬ (4 : Int) = 5 by omega, show ¬ (4 : Int) = 3 by omega, if_false] at h
        cases h1 : readC c a with
        | error e => rw [h1] at h; cases h
        | ok p =>
          obtain ⟨y, s1⟩ := p
          obtain ⟨b1, b2⟩ := read_bounded _ _ _ _ m0 h1
          simp only [h1, rep_all'] at h
          cases h2 : playAll readC (List.replicate y.toNat x) s1 with
          | error e => simp only [h2] at h; cases h
          | ok q =>
            obtain ⟨c2, vs, s2⟩ := q
            simp only [h2, Except.ok.injEq, Prod.mk.injEq] at h
            obtain ⟨rfl, _, rfl⟩ := h
            have ht := tl_of (fun z hz => by rw [List.eq_of_mem_replicate hz]; exact hs x (by simp)) h2
            exact ⟨y.toNat, c2, by omega, by rw [toNat_cast b1], vs, ht⟩
      · rintro ⟨j, c', hj, rfl, vs, h2⟩
        refine ⟨.node true 0 vs, ?_⟩
        simp only [play, show ¬ (4 : Int) = 1 by omega, show ¬ (4 : Int) = 2 by omega, show ¬ (4 : Int) = 5 by omega, show ¬ (4 : Int) = 3 by omega, if_false]
        rw [read_reads (j : Int) a c' (by omega) (by omega)]
        simp only [rep_all', Int.toNat_natCast, h2]
  · have hp := hm.2.1 rfl
    simp only [show ¬ (5 : Int) = 4 by omega, if_false]
    constructor
    · rintro ⟨v, h⟩
      simp only [play, show ¬ (5 : Int) = 1 by omega, show ¬ (5 : Int) = 2 by omega, if_false, if_true] at h
      cases h1 : readC c (subs.length - 1) with
      | error e => rw [h1] at h; cases h
      | ok p =>
        obtain ⟨y, s1⟩ := p
        obtain ⟨b1, b2⟩ := read_bounded _ _ _ _ hp h1
        have hy : y.toNat < subs.length := by omega
        simp only [h1, at_get _ _ _ hy] at h
        cases h2 : play readC (subs[y.toNat]'hy) s1 with
        | error e => simp only [h2] at h; cases h
        | ok q =>
          obtain ⟨c2, v2, s2⟩ := q
          simp only [h2, Except.ok.injEq, Prod.mk.injEq] at h
          obtain ⟨rfl, _, rfl⟩ := h
          have hry := hs _ (List.getElem_mem hy)
          have ht := tg_of hry h2
          refine ⟨y.toNat, c2, hy, by rw [toNat_cast b1], ?_⟩
          rw [List.drop_eq_getElem_cons hy, List.take_succ_cons, List.take_zero, tl_cons hry (by simp)]
          exact ⟨c2, [], by simp, ⟨v2, ht⟩, [], rfl⟩
    · rintro ⟨j, c', hj, rfl, h2⟩
      have hry := hs _ (List.getElem_mem hj)
      rw [List.drop_eq_getElem_cons hj, List.take_succ_cons, List.take_zero, tl_cons hry (by simp)] at h2
      obtain ⟨c1, c2, rfl, ⟨v, h3⟩, h4⟩ := h2
      rw [tl_nil] at h4
      subst h4
      rw [List.append_nil]
      refine ⟨v, ?_⟩
      simp only [play, show ¬ (5 : Int) = 1 by omega, show ¬ (5 : Int) = 2 by omega, if_false, if_true]
      rw [read_reads (j : Int) _ c1 (by omega) (by omega)]
      simp only [Int.toNat_natCast, at_get _ _ _ hj, h3]
mutual
/-- all tapes of a right generator, each once, in their order -/
theorem good_gen : ∀ (g : Gn), Right g → Good (enG g) (TG g)
  | .node k a b subs, hg => by
    have hm := right_max hg
    have hs := good_gens subs hg.subs
    have hsub : ∀ x ∈ subs, Right x := hg.subs
    rcases (show k = 1 ∨ k = 2 ∨ k = 3 ∨ k = 4 ∨ k = 5 by omega) with rfl | rfl | rfl | h45
    · rw [enG_just]
      refine good_nil.congr fun c => ?_
      unfold TG
      simp only [play, if_true]
      constructor
      · rintro rfl; exact ⟨_, rfl⟩
      · rintro ⟨v, h⟩; simp only [Except.ok.injEq, Prod.mk.injEq] at h; exact h.1.symm
    · rw [enG_int]
      obtain ⟨h0, _⟩ := hm.1 rfl
      refine (good_int _ (by omega)).congr fun c => ?_
      unfold TG
      simp only [play, show ¬ (2 : Int) = 1 by omega, if_false, if_true]
      constructor
      · rintro ⟨x, rfl, h1, h2⟩
        rw [read_reads x _ [] h1 (by omega)]
        exact ⟨_, rfl⟩
      · rintro ⟨v, h⟩
        cases h1 : readC c (b - a) with
        | error e => rw [h1] at h; cases h
        | ok p =>
          obtain ⟨y, s1⟩ := p
          obtain ⟨b1, b2⟩ := read_bounded _ _ _ _ h0 h1
          simp only [h1, Except.ok.injEq, Prod.mk.injEq] at h
          exact ⟨y, h.1.symm, b1, by omega⟩
    · rw [enG_both]
      refine (good_list subs hsub hs).congr fun c => ?_
      unfold TL TG
      simp only [play, show ¬ (3 : Int) = 1 by omega, show ¬ (3 : Int) = 2 by omega, show ¬ (3 : Int) = 5 by omega, if_false, if_true]
      constructor
      · rintro ⟨vs, h⟩; rw [h]; exact ⟨_, rfl⟩
      · rintro ⟨v, h⟩
        cases h1 : playAll readC subs c with
        | error e => rw [h1] at h; cases h
        | ok q =>
          obtain ⟨c2, vs, s2⟩ := q
          simp only [h1, Except.ok.injEq, Prod.mk.injEq] at h
          obtain ⟨rfl, _, rfl⟩ := h
          exact ⟨vs, rfl⟩
    · have hk : (Gn.node k a b subs).kind = 4 ∨ (Gn.node k a b subs).kind = 5 := h45
      rw [enG_choose _ hk]
      refine (good_choose (branches (.node k a b subs)) (fun j => TL (follow (.node k a b subs) j)) ?_ (fun j h => ?_)).congr fun c => (tg_choose hg hk c).symm
      · rw [branch_len hg hk]
        simp only [Gn.kind, Gn.a, Gn.subs]
        rcases h45 with rfl | rfl
        · obtain ⟨m0, _⟩ := hm.2.2.1 rfl
          simp only [if_true]; omega
        · have := hm.2.1 rfl
          simp only [show ¬ (5 : Int) = 4 by omega, if_false]; omega
      · rw [branch_get hg hk j h]
        have hf := follow_right hg hk j
        exact good_list _ (fun x hx => hsub x (hf x hx)) (fun x hx => hs x (hf x hx))
theorem good_gens : ∀ (l : List Gn), (∀ x ∈ l, Right x) → ∀ x ∈ l, Good (enG x) (TG x)
  | [], _, x, hx => by simp at hx
  | g :: r, hr, x, hx => by
    rcases List.mem_cons.1 hx with h | h
    · rw [h]; exact good_gen g (hr g (by simp))
    · exact good_gens r (fun y hy => hr y (by simp [hy])) x h
end

/-! how many: the program's number, bounded -/
theorem cap_mul (m q : Nat) : min (1048577 : Int) (min 1048577 (m : Int) * min 1048577 (q : Int)) = min 1048577 ((m * q : Nat) : Int) := by
  rw [Int.natCast_mul]
  by_cases hm : m ≤ 1048577
  · rw [show min (1048577 : Int) (m : Int) = m by omega]
    by_cases hq : q ≤ 1048577
    · rw [show min (1048577 : Int) (q : Int) = q by omega]
    · rw [show min (1048577 : Int) (q : Int) = 1048577 by omega]
      by_cases h0 : m = 0
      · subst h0; simp
      · have h1 : (1 : Int) * 1048577 ≤ (m : Int) * 1048577 := Int.mul_le_mul_of_nonneg_right (by omega) (by omega)
        have h2 : (1 : Int) * q ≤ (m : Int) * q := Int.mul_le_mul_of_nonneg_right (by omega) (by omega)
        omega
  · rw [show min (1048577 : Int) (m : Int) = 1048577 by omega]
    by_cases h0 : q = 0
    · subst h0; simp; omega
    · have h1 : (1048577 : Int) * 1 ≤ 1048577 * min 1048577 (q : Int) := Int.mul_le_mul_of_nonneg_left (by omega) (by omega)
      have h2 : (m : Int) * 1 ≤ (m : Int) * q := Int.mul_le_mul_of_nonneg_left (by omega) (by omega)
      omega
theorem cap_add (m q : Nat) : min (1048577 : Int) (min 1048577 (m : Int) + min 1048577 (q : Int)) = min 1048577 ((m + q : Nat) : Int) := by omega
theorem many_cap (e : En) : ∀ (i c s : Nat), manyN (min 1048577 (e.cnt : Int)) i (min 1048577 (s : Int)) (min 1048577 ((allE (List.replicate c e)).cnt : Int)) = min 1048577 ((s + chooseC ((List.range' c i).map fun c => allE (List.replicate c e)) : Nat) : Int)
  | 0, c, s => by simp [manyN, chooseC]
  | i + 1, c, s => by
    have e1 : (allE (List.replicate (c + 1) e)).cnt = (allE (List.replicate c e)).cnt * e.cnt := by
      rw [List.replicate_succ, allE]; show e.cnt * _ = _; exact Nat.mul_comm _ _
    rw [manyN, cap_add, cap_mul, ← e1, many_cap e i (c + 1) _, List.range'_succ, List.map_cons, chooseC, Nat.add_assoc]
mutual
theorem count_cap : ∀ (g : Gn), Right g → countG g = min 1048577 ((enG g).cnt : Int)
  | .node k a b subs, hg => by
    have hm := right_max hg
    have hsub : ∀ x ∈ subs, Right x := hg.subs
    rcases (show k = 1 ∨ k = 2 ∨ k = 3 ∨ k = 4 ∨ k = 5 by omega) with rfl | rfl | rfl | rfl | rfl
    · rw [enG_just]; simp [countG, nilE]; omega
    · rw [enG_int]
      obtain ⟨h0, h1⟩ := hm.1 rfl
      simp only [countG, intE, show ¬ (2 : Int) = 1 by omega, if_false, if_true]
      omega
    · rw [enG_both]
      have := both_cap subs hsub 1
      simp only [countG, show ¬ (3 : Int) = 1 by omega, show ¬ (3 : Int) = 2 by omega, show ¬ (3 : Int) = 5 by omega, if_false, if_true]
      rw [show (1 : Int) = min 1048577 ((1 : Nat) : Int) by omega, this, Nat.one_mul]
    · obtain ⟨m0, _, hl⟩ := hm.2.2.1 rfl
      match subs, hl with
      | [x], _ =>
        have hx := count_cap x (hsub x (by simp))
        have := many_cap (enG x) (a + 1).toNat 0 0
        simp only [countG, countHead, enG, enGs, manyB, show ¬ (4 : Int) = 1 by omega, show ¬ (4 : Int) = 2 by omega, show ¬ (4 : Int) = 5 by omega, show ¬ (4 : Int) = 3 by omega, if_false]
        rw [hx]
        simp only [List.replicate_zero, allE, nilE, Nat.zero_add] at this
        rw [show (0 : Int) = min 1048577 ((0 : Nat) : Int) by omega, show (1 : Int) = min 1048577 ((1 : Nat) : Int) by omega]
        exact this
    · have := any_cap subs hsub 0
      simp only [countG, enG, show ¬ (5 : Int) = 1 by omega, show ¬ (5 : Int) = 2 by omega, show ¬ (5 : Int) = 3 by omega, if_false, if_true]
      rw [show (0 : Int) = min 1048577 ((0 : Nat) : Int) by omega, this, Nat.zero_add]
      rfl
theorem both_cap : ∀ (l : List Gn), (∀ x ∈ l, Right x) → ∀ m : Nat, countBoth l (min 1048577 (m : Int)) = min 1048577 ((m * (allE (l.map enG)).cnt : Nat) : Int)
  | [], _, m => by simp [countBoth, allE, nilE]
  | g :: r, h, m => by
    rw [countBoth, count_cap g (h g (by simp)), cap_mul, both_cap r (fun x hx => h x (by simp [hx])), List.map_cons, allE, Nat.mul_assoc]
    rfl
theorem any_cap : ∀ (l : List Gn), (∀ x ∈ l, Right x) → ∀ m : Nat, countAny l (min 1048577 (m : Int)) = min 1048577 ((m + chooseC ((enGs l).map fun e => allE [e]) : Nat) : Int)
  | [], _, m => by simp [countAny, enGs, chooseC]
  | g :: r, h, m => by
    rw [countAny, count_cap g (h g (by simp)), cap_add, any_cap r (fun x hx => h x (by simp [hx])), enGs, List.map_cons, chooseC, Nat.add_assoc]
    simp [allE, consE, nilE]
end
end Go.Proofs.Ytboecgbgcbkcjaa.Gens
