/- Plain laws on plays: a source that notes what it tells. No program. -/
import Derived.Test.YtboecgbgcbkcjaaPlay4
namespace Go.Proofs.Ytboecgbgcbkcjaa.Gens
open Vals
set_option linter.unusedVariables false

section
variable {σ : Type} {ch : σ → Int → Except Int (Int × σ)}
/-- the source that notes what it tells -/
def recC (ch : σ → Int → Except Int (Int × σ)) (p : σ × List Int) (m : Int) : Except Int (Int × (σ × List Int)) :=
  if p.2.length < 2000000 then match ch p.1 m with
  | .error e => .error e
  | .ok (x, s') => .ok (x, (s', p.2 ++ [x]))
  else .error 77
theorem recC_ok {s s' : σ} {m x : Int} (h : ch s m = .ok (x, s')) (r : List Int) (hr : r.length < 2000000) : recC ch (s, r) m = .ok (x, (s', r ++ [x])) := by
  simp only [recC, h, if_pos hr]
theorem rec_play (hb : Bounded ch) {g : Gn} (hg : Right g) {s s' : σ} {c : List Int} {v : Tr} (h : play ch g s = .ok (c, v, s')) : ∀ r, r.length + c.length ≤ 2000000 → play (recC ch) g (s, r) = .ok (c, v, (s', r ++ c)) := by
  refine play_ind (M := fun g s c v s' => ∀ r, r.length + c.length ≤ 2000000 → play (recC ch) g (s, r) = .ok (c, v, (s', r ++ c)))
    (ML := fun l s c vs s' => ∀ r, r.length + c.length ≤ 2000000 → playAll (recC ch) l (s, r) = .ok (c, vs, (s', r ++ c))) hb ⟨?_, ?_, ?_, ?_, ?_, ?_, ?_⟩ g hg s c v s' h
  · intro a b subs s hr r hn
    simp [play]
  · intro a b subs s x s1 hr h0 h1 hc r hn
    simp only [List.length_cons, List.length_nil] at hn
    simp [play, recC_ok hc r (by omega)]
  · intro a b subs s x s1 c v s2 hlt hr h0 hc ih r hn
    simp only [List.length_cons] at hn
    simp only [play, recC_ok hc r (by omega), at_get _ _ _ hlt, ih (r ++ [x]) (by simp; omega)]
    simp
  · intro a b subs s c vs s1 hr ih r hn
    simp [play, ih r hn]
  · intro a b g s x s1 c vs s2 hr h0 h1 h5 hc ih r hn
    simp only [List.length_cons] at hn
    simp [play, recC_ok hc r (by omega), rep_all', ih (r ++ [x]) (by simp; omega)]
  · intro s r hn
    simp [playAll]
  · intro g l s c v s1 c2 vs s2 ih1 ih2 r hn
    simp only [List.length_append] at hn
    simp only [playAll, ih1 r (by omega), ih2 (r ++ c) (by simp; omega), List.append_assoc]
theorem rec_bounded (hb : Bounded ch) : Bounded (recC ch) := by
  rintro ⟨s, r⟩ m x ⟨s', r'⟩ h0 h
  simp only [recC] at h
  by_cases hl : r.length < 2000000
  case neg => rw [if_neg hl] at h; cases h
  rw [if_pos hl] at h
  cases h1 : ch s m with
  | error e => rw [h1] at h; cases h
  | ok p =>
    obtain ⟨y, s1⟩ := p
    rw [h1] at h
    simp only [Except.ok.injEq, Prod.mk.injEq] at h
    obtain ⟨rfl, rfl, rfl⟩ := h
    exact hb s m y s1 h0 h1
end
end Go.Proofs.Ytboecgbgcbkcjaa.Gens
