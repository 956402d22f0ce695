/- Plain laws on plays: an induction over what a right generator makes; bounds of its choices, of its value. No program. -/
import Derived.Test.YtboecgbgcbkcjaaPlay3
namespace Go.Proofs.Ytboecgbgcbkcjaa.Gens
open Vals
set_option linter.unusedVariables false

section
variable {σ : Type} {ch : σ → Int → Except Int (Int × σ)}
theorem rep_all (g : Gn) : ∀ n s, rep (fun s => play ch g s) n s = playAll ch (List.replicate n g) s
  | 0, s => by simp only [rep, List.replicate_zero, playAll]
  | n + 1, s => by
    simp only [rep, List.replicate_succ, playAll]
    cases h1 : play ch g s with
    | error e => rfl
    | ok p =>
      obtain ⟨c1, v, s1⟩ := p
      simp only [rep_all g n s1]
theorem rep_all' (g : Gn) (n : Nat) (s : σ) : playRep ch [g] n s = playAll ch (List.replicate n g) s := by
  rw [playRep, rep_all]
theorem at_get : ∀ (l : List Gn) (n : Nat) (s : σ) (h : n < l.length), playAt ch l n s = play ch (l[n]'h) s
  | [], n, s, h => by simp at h
  | g :: l, 0, s, h => by rw [playAt]; rfl
  | g :: l, n + 1, s, h => by rw [playAt, at_get l n s (by simpa using h)]; rfl

/-- what is asked of an induction over plays -/
structure Ind (ch : σ → Int → Except Int (Int × σ)) (M : Gn → σ → List Int → Tr → σ → Prop) (ML : List Gn → σ → List Int → List Tr → σ → Prop) : Prop where
  just : ∀ a b subs s, Right (.node 1 a b subs) → M (.node 1 a b subs) s [] (.node false a []) s
  int : ∀ a b subs s x s1, Right (.node 2 a b subs) → 0 ≤ x → x ≤ b - a → ch s (b - a) = .ok (x, s1) → M (.node 2 a b subs) s [x] (.node false (a + x) []) s1
  any : ∀ a b subs s x s1 c v s2 (h : x.toNat < subs.length), Right (.node 5 a b subs) → 0 ≤ x → ch s (subs.length - 1) = .ok (x, s1) → M (subs[x.toNat]'h) s1 c v s2 → M (.node 5 a b subs) s (x :: c) v s2
  both : ∀ a b subs s c vs s1, Right (.node 3 a b subs) → ML subs s c vs s1 → M (.node 3 a b subs) s c (.node true 0 vs) s1
  many : ∀ a b g s x s1 c vs s2, Right (.node 4 a b [g]) → 0 ≤ x → x ≤ a → a ≤ 5 → ch s a = .ok (x, s1) → ML (List.replicate x.toNat g) s1 c vs s2 → M (.node 4 a b [g]) s (x :: c) (.node true 0 vs) s2
  nil : ∀ s, ML [] s [] [] s
  cons : ∀ g r s c v s1 c2 vs s2, M g s c v s1 → ML r s1 c2 vs s2 → ML (g :: r) s (c ++ c2) (v :: vs) s2
variable {M : Gn → σ → List Int → Tr → σ → Prop} {ML : List Gn → σ → List Int → List Tr → σ → Prop}
theorem all_ind (I : Ind ch M ML) : ∀ (l : List Gn), (∀ g ∈ l, ∀ s c v s', play ch g s = .ok (c, v, s') → M g s c v s') → ∀ s c vs s', playAll ch l s = .ok (c, vs, s') → ML l s c vs s'
  | [], _, s, c, vs, s', h => by
    simp only [playAll, Except.ok.injEq, Prod.mk.injEq] at h
    obtain ⟨rfl, rfl, rfl⟩ := h
    exact I.nil s
  | g :: r, hg, s, c, vs, s', h => by
    simp only [playAll] at h
    cases h1 : play ch g s with
    | error e => rw [h1] at h; cases h
    | ok p =>
      obtain ⟨c1, v, s1⟩ := p
      simp only [h1] at h
      cases h2 : playAll ch r s1 with
      | error e => simp only [h2] at h; cases h
      | ok q =>
        obtain ⟨c2, vs2, s2⟩ := q
        simp only [h2, Except.ok.injEq, Prod.mk.injEq] at h
        obtain ⟨rfl, rfl, rfl⟩ := h
        exact I.cons _ _ _ _ _ _ _ _ _ (hg g (by simp) s c1 v s1 h1) (all_ind I r (fun x hx => hg x (by simp [hx])) s1 c2 vs2 s2 h2)
mutual
theorem play_ind (hb : Bounded ch) (I : Ind ch M ML) : ∀ (g : Gn), Right g → ∀ s c v s', play ch g s = .ok (c, v, s') → M g s c v s'
  | .node k a b subs, hg, s, c, v, s', h => by
    have hm := right_max hg
    have hsub := subs_ind hb I subs hg.subs
    simp only [play] at h
    split at h
    · rename_i hk
      subst hk
      simp only [Except.ok.injEq, Prod.mk.injEq] at h
      obtain ⟨rfl, rfl, rfl⟩ := h
      exact I.just a b subs s hg
    · split at h
      · rename_i hk
        subst hk
        cases h1 : ch s (b - a) with
        | error e => rw [h1] at h; cases h
        | ok p =>
          obtain ⟨x, s1⟩ := p
          simp only [h1, Except.ok.injEq, Prod.mk.injEq] at h
          obtain ⟨rfl, rfl, rfl⟩ := h
          obtain ⟨b1, b2⟩ := hb s _ x s1 (hm.1 rfl).1 h1
          exact I.int a b subs s x s1 hg b1 b2 h1
      · split at h
        · rename_i hk
          subst hk
          cases h1 : ch s (subs.length - 1) with
          | error e => rw [h1] at h; cases h
          | ok p =>
            obtain ⟨x, s1⟩ := p
            simp only [h1] at h
            cases h2 : playAt ch subs x.toNat s1 with
            | error e => simp only [h2] at h; cases h
            | ok q =>
              obtain ⟨c2, v2, s2⟩ := q
              simp only [h2, Except.ok.injEq, Prod.mk.injEq] at h
              obtain ⟨rfl, rfl, rfl⟩ := h
              obtain ⟨b1, b2⟩ := hb s _ x s1 (hm.2.1 rfl) h1
              have hlt : x.toNat < subs.length := by omega
              rw [at_get subs _ s1 hlt] at h2
              exact I.any a b subs s x s1 c2 v2 s2 hlt hg b1 h1 (hsub _ (List.getElem_mem hlt) _ _ _ _ h2)
        · split at h
          · rename_i hk
            subst hk
            cases h1 : playAll ch subs s with
            | error e => rw [h1] at h; cases h
            | ok q =>
              obtain ⟨c2, vs, s2⟩ := q
              simp only [h1, Except.ok.injEq, Prod.mk.injEq] at h
              obtain ⟨rfl, rfl, rfl⟩ := h
              exact I.both a b subs s c2 vs s2 hg (all_ind I subs hsub s c2 vs s2 h1)
          · have hk4 : k = 4 := by omega
            subst hk4
            cases h1 : ch s a with
            | error e => rw [h1] at h; cases h
            | ok p =>
              obtain ⟨x, s1⟩ := p
              simp only [h1] at h
              cases h2 : playRep ch subs x.toNat s1 with
              | error e => simp only [h2] at h; cases h
              | ok q =>
                obtain ⟨c2, vs, s2⟩ := q
                simp only [h2, Except.ok.injEq, Prod.mk.injEq] at h
                obtain ⟨rfl, rfl, rfl⟩ := h
                obtain ⟨q1, q2, q3⟩ := hm.2.2.1 rfl
                obtain ⟨b1, b2⟩ := hb s _ x s1 q1 h1
                match subs, q3 with
                | [g], _ =>
                  rw [rep_all'] at h2
                  exact I.many a b g s x s1 c2 vs s2 hg b1 b2 q2 h1 (all_ind I _ (fun y hy => by rw [List.eq_of_mem_replicate hy]; exact hsub g (by simp)) s1 c2 vs s2 h2)
theorem subs_ind (hb : Bounded ch) (I : Ind ch M ML) : ∀ (l : List Gn), (∀ x ∈ l, Right x) → ∀ g ∈ l, ∀ s c v s', play ch g s = .ok (c, v, s') → M g s c v s'
  | [], _, g, hg, s, c, v, s', h => by simp at hg
  | x :: r, hl, g, hg, s, c, v, s', h => by
    by_cases e : g = x
    · rw [e] at h ⊢
      exact play_ind hb I x (hl x (by simp)) s c v s' h
    · exact subs_ind hb I r (fun y hy => hl y (by simp [hy])) g (by simpa [e] using hg) s c v s' h
end

/-- what holds of the source and of each choice -/
theorem play_inv {P : σ → Prop} {Q : Int → Prop} (hb : Bounded ch) (hch : ∀ s m x s', 0 ≤ m → m ≤ 1000 → P s → ch s m = .ok (x, s') → Q x ∧ P s') {g : Gn} (hg : Right g) (hz : g.size ≤ 30) {s s' : σ} {c : List Int} {v : Tr} (h : play ch g s = .ok (c, v, s')) (hp : P s) :
    (∀ x ∈ c, Q x) ∧ P s' := by
  refine play_ind (M := fun g s c v s' => g.size ≤ 30 → P s → (∀ x ∈ c, Q x) ∧ P s') (ML := fun l s c vs s' => (∀ g ∈ l, g.size ≤ 30) → P s → (∀ x ∈ c, Q x) ∧ P s') hb ⟨?_, ?_, ?_, ?_, ?_, ?_, ?_⟩ g hg s c v s' h hz hp
  · intro a b subs s _ _ hp
    exact ⟨fun x hx => by simp at hx, hp⟩
  · intro a b subs s x s1 hr _ _ h1 _ hp
    have hm := (right_max hr).1 rfl
    obtain ⟨q1, q2⟩ := hch s _ x s1 hm.1 hm.2 hp h1
    exact ⟨fun y hy => by rw [List.mem_singleton.1 hy]; exact q1, q2⟩
  · intro a b subs s x s1 c v s2 hlt hr _ h1 ih hz hp
    rw [Gn.size] at hz
    have hl := glen_sizes subs
    have hm := (right_max hr).2.1 rfl
    obtain ⟨q1, q2⟩ := hch s _ x s1 hm (by omega) hp h1
    have := gsize_mem subs _ (List.getElem_mem hlt)
    obtain ⟨r1, r2⟩ := ih (by omega) q2
    exact ⟨List.forall_mem_cons.2 ⟨q1, r1⟩, r2⟩
  · intro a b subs s c vs s1 hr ih hz hp
    rw [Gn.size] at hz
    exact ih (fun g hg => by have := gsize_mem subs g hg; omega) hp
  · intro a b g s x s1 c vs s2 hr h0 hx ha h1 ih hz hp
    rw [Gn.size, gsizes] at hz
    obtain ⟨q1, q2⟩ := hch s _ x s1 ((right_max hr).2.2.1 rfl).1 (by omega) hp h1
    obtain ⟨r1, r2⟩ := ih (fun y hy => by rw [List.eq_of_mem_replicate hy]; omega) q2
    exact ⟨List.forall_mem_cons.2 ⟨q1, r1⟩, r2⟩
  · intro s _ hp
    exact ⟨fun x hx => by simp at hx, hp⟩
  · intro g r s c v s1 c2 vs s2 ih1 ih2 hz hp
    obtain ⟨q1, q2⟩ := ih1 (hz g (by simp)) hp
    obtain ⟨r1, r2⟩ := ih2 (fun x hx => hz x (by simp [hx])) q2
    exact ⟨List.forall_mem_append.2 ⟨q1, r1⟩, r2⟩

theorem larges_mem : ∀ (l : List Gn) (deep n : Nat), (largeGs l deep n).2 = false → ∀ g ∈ l, (largeG g deep).2 = false
  | [], deep, n, h, g, hg => by simp at hg
  | x :: r, deep, n, h, g, hg => by
    simp only [largeGs] at h
    split at h
    · cases h
    · rename_i hc
      rcases List.mem_cons.1 hg with rfl | hg
      · cases hb : (largeG g deep).2 with
        | false => rfl
        | true => exact absurd (.inl hb) hc
      · exact larges_mem r deep _ h g hg
theorem large_sub {k a b : Int} {subs : List Gn} {deep d : Nat} (h : (largeG (.node k a b subs) deep).2 = false) (hd : deep + d = 6) : ∃ d', d = d' + 1 ∧ ∀ g ∈ subs, (largeG g (deep + 1)).2 = false := by
  simp only [largeG] at h
  split at h
  · cases h
  · exact ⟨d - 1, by omega, larges_mem subs (deep + 1) 1 h⟩
theorem okB_raise : ∀ (d : Nat) (t : Tr), okB d t = true → okB (d + 1) t = true
  | 0, t, h => by simp [okB] at h
  | d + 1, t, h => by
    rw [okB] at h ⊢
    simp only [Bool.and_eq_true, Bool.not_eq_true', List.all_eq_true] at h ⊢
    exact ⟨h.1, fun x hx => okB_raise d x (h.2 x hx)⟩
theorem gsizes_rep (g : Gn) : ∀ n, gsizes (List.replicate n g) = n * g.size
  | 0 => by simp [gsizes]
  | n + 1 => by rw [List.replicate_succ, gsizes, gsizes_rep g n, Nat.add_mul]; omega
/-- the value is right, and not too large -/
theorem play_val (hb : Bounded ch) {g : Gn} (hg : Right g) {s s' : σ} {c : List Int} {v : Tr} (h : play ch g s = .ok (c, v, s')) {deep d : Nat} (hl : (largeG g deep).2 = false) (hd : deep + d = 6) :
    okB d v = true ∧ v.size ≤ g.size * 6 ^ d := by
  refine play_ind (M := fun g s c v s' => ∀ deep d, (largeG g deep).2 = false → deep + d = 6 → okB d v = true ∧ v.size ≤ g.size * 6 ^ d)
    (ML := fun l s c vs s' => ∀ deep d, (∀ g ∈ l, (largeG g deep).2 = false) → deep + d = 6 → (∀ v ∈ vs, okB d v = true) ∧ sizes vs ≤ gsizes l * 6 ^ d) hb ⟨?_, ?_, ?_, ?_, ?_, ?_, ?_⟩ g hg s c v s' h deep d hl hd
  · intro a b subs s hr deep d hl hd
    obtain ⟨d', rfl, _⟩ := large_sub hl hd
    have h2 : 1 ≤ 6 ^ (d' + 1) := Nat.one_le_pow _ _ (by omega)
    exact ⟨by simp [okB, formBad, Tr.items, Tr.list], by
      have := Nat.mul_le_mul (gsize_pos (.node 1 a b subs)) h2
      simp only [Tr.size, sizes]; omega⟩
  · intro a b subs s x s1 hr _ _ h1 deep d hl hd
    obtain ⟨d', rfl, _⟩ := large_sub hl hd
    have h2 : 1 ≤ 6 ^ (d' + 1) := Nat.one_le_pow _ _ (by omega)
    exact ⟨by simp [okB, formBad, Tr.items, Tr.list], by
      have := Nat.mul_le_mul (gsize_pos (.node 2 a b subs)) h2
      simp only [Tr.size, sizes]; omega⟩
  · intro a b subs s x s1 c v s2 hlt hr _ h1 ih deep d hl hd
    obtain ⟨d', rfl, hs⟩ := large_sub hl hd
    obtain ⟨i1, i2⟩ := ih (deep + 1) d' (hs _ (List.getElem_mem hlt)) (by omega)
    refine ⟨okB_raise _ _ i1, ?_⟩
    have h3 := gsize_mem subs _ (List.getElem_mem hlt)
    have h4 : (subs[x.toNat]'hlt).size * 6 ^ d' ≤ (Gn.node 5 a b subs).size * 6 ^ (d' + 1) :=
      Nat.mul_le_mul (by rw [Gn.size]; omega) (Nat.pow_le_pow_right (by omega) (by omega))
    omega
  · intro a b subs s c vs s1 hr ih deep d hl hd
    obtain ⟨d', rfl, hs⟩ := large_sub hl hd
    obtain ⟨i1, i2⟩ := ih (deep + 1) d' hs (by omega)
    refine ⟨by simpa [okB, formBad, Tr.items, Tr.list, Tr.num] using i1, ?_⟩
    have h2 : 1 ≤ 6 ^ (d' + 1) := Nat.one_le_pow _ _ (by omega)
    have h3 : gsizes subs * 6 ^ d' ≤ gsizes subs * 6 ^ (d' + 1) := Nat.mul_le_mul_left _ (Nat.pow_le_pow_right (by omega) (by omega))
    rw [Tr.size, Gn.size, Nat.add_mul]; omega
  · intro a b g s x s1 c vs s2 hr h0 hx ha h1 ih deep d hl hd
    obtain ⟨d', rfl, hs⟩ := large_sub hl hd
    obtain ⟨i1, i2⟩ := ih (deep + 1) d' (fun y hy => by rw [List.eq_of_mem_replicate hy]; exact hs g (by simp)) (by omega)
    refine ⟨by simpa [okB, formBad, Tr.items, Tr.list, Tr.num] using i1, ?_⟩
    rw [gsizes_rep] at i2
    have h2 : 1 ≤ 6 ^ (d' + 1) := Nat.one_le_pow _ _ (by omega)
    have h3 : x.toNat * g.size * 6 ^ d' ≤ 6 * (g.size * 6 ^ d') := by
      rw [Nat.mul_assoc]; exact Nat.mul_le_mul_right _ (by omega)
    have h4 : (1 + (g.size + 0)) * 6 ^ (d' + 1) = 6 ^ (d' + 1) + 6 * (g.size * 6 ^ d') := by
      rw [Nat.add_zero, Nat.add_mul, Nat.one_mul, Nat.pow_succ, Nat.mul_comm (6 ^ d') 6, ← Nat.mul_assoc, Nat.mul_comm g.size 6, Nat.mul_assoc]
    rw [Tr.size, Gn.size, gsizes, gsizes, h4]; omega
  · intro s deep d _ _
    exact ⟨fun v hv => by simp at hv, by simp [sizes]⟩
  · intro g r s c v s1 c2 vs s2 ih1 ih2 deep d hl hd
    obtain ⟨i1, i2⟩ := ih1 deep d (hl g (by simp)) hd
    obtain ⟨j1, j2⟩ := ih2 deep d (fun x hx => hl x (by simp [hx])) hd
    refine ⟨List.forall_mem_cons.2 ⟨i1, j1⟩, ?_⟩
    rw [sizes, gsizes, Nat.add_mul]; omega
/-- of a small generator -/
theorem small_val (hb : Bounded ch) {g : Gn} (hg : Right g) (hl : (largeG g 0).2 = false) {s s' : σ} {c : List Int} {v : Tr} (h : play ch g s = .ok (c, v, s')) : okB 6 v = true ∧ v.size ≤ 1399680 := by
  obtain ⟨h1, h2⟩ := play_val hb hg h hl (d := 6) rfl
  have h3 := Nat.mul_le_mul_right (6 ^ 6) (small_size hl)
  have h4 : 30 * 6 ^ 6 = 1399680 := by decide
  exact ⟨h1, by omega⟩
end
/-- the choices made of nothing are noughts -/
theorem mend_noughts {g : Gn} (hg : Right g) (hz : g.size ≤ 30) {c r : List Int} {v : Tr} (h : play mendC g [] = .ok (c, v, r)) : ∀ x ∈ c, x = 0 :=
  (play_inv (P := fun s => s = []) (Q := fun x => x = 0) mend_bounded (fun s m x s' h0 _ hs hc => by
    subst hs
    simp only [mendC, mendX, List.tail_nil, Except.ok.injEq, Prod.mk.injEq] at hc
    obtain ⟨rfl, rfl⟩ := hc
    exact ⟨by omega, rfl⟩) hg hz h rfl).1
theorem mend_within {g : Gn} (hg : Right g) (hz : g.size ≤ 30) {l c r : List Int} {v : Tr} (h : play mendC g l = .ok (c, v, r)) : ∀ x ∈ c, 0 ≤ x ∧ x ≤ 1000 :=
  (play_inv (P := fun _ => True) (Q := fun x => 0 ≤ x ∧ x ≤ 1000) mend_bounded (fun s m x s' h0 hm _ hc => by
    have := mend_bounded s m x s' h0 hc
    exact ⟨by omega, trivial⟩) hg hz h trivial).1
/-- two tapes of a generator that are alike as far as both go are the same -/
theorem mend_alike {g : Gn} (hg : Right g) {l1 c1 r1 l2 c2 r2 : List Int} {v1 v2 : Tr} (h1 : play mendC g l1 = .ok (c1, v1, r1)) (h2 : play mendC g l2 = .ok (c2, v2, r2)) (ha : ∀ i, i < c1.length → i < c2.length → c1.getD i 0 = c2.getD i 0) : c1 = c2 := by
  have pre : ∀ {a b : List Int}, a.length ≤ b.length → (∀ i, i < a.length → i < b.length → a.getD i 0 = b.getD i 0) → b = a ++ b.drop a.length := by
    intro a b hl hab
    apply List.ext_getElem
    · simp; omega
    · intro i hi1 hi2
      by_cases hi : i < a.length
      · rw [List.getElem_append_left hi]
        have := hab i hi hi1
        simp only [List.getD, List.getElem?_eq_getElem hi, List.getElem?_eq_getElem hi1, Option.getD_some] at this
        exact this.symm
      · rw [List.getElem_append_right (by omega), List.getElem_drop]
        congr 1; omega
  have half : ∀ {a b la lb ra rb : List Int} {va vb : Tr}, play mendC g la = .ok (a, va, ra) → play mendC g lb = .ok (b, vb, rb) → a.length ≤ b.length → (∀ i, i < a.length → i < b.length → a.getD i 0 = b.getD i 0) → a = b := by
    intro a b la lb ra rb va vb ha hb hl hab
    have e := pre hl hab
    have p1 := mend_mend hg ha (b.drop a.length)
    have p2 := mend_mend hg hb []
    rw [← e] at p1
    rw [List.append_nil, p1] at p2
    simp only [Except.ok.injEq, Prod.mk.injEq] at p2
    exact p2.1
  rcases Nat.le_total c1.length c2.length with h | h
  · exact half h1 h2 h ha
  · exact (half h2 h1 h (fun i hi hj => (ha i hj hi).symm)).symm
end Go.Proofs.Ytboecgbgcbkcjaa.Gens
