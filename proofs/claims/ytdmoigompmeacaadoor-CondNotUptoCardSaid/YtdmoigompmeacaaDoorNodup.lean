/- Lists in which nothing is twice: how long they are. No program. -/
import Derived.Test.YtdmoigompmeacaaDoorList
namespace Go.Proofs.YtdmoigompmeacaaDoor.Nod
set_option linter.unusedVariables false

theorem nodup_range_map {n : Nat} {β : Type} (f : Nat → β) (hf : ∀ i j, i < n → j < n → f i = f j → i = j) : ((List.range n).map f).Nodup := by
  unfold List.Nodup
  rw [List.pairwise_map]
  refine List.Pairwise.imp_of_mem ?_ (List.pairwise_lt_range (n := n))
  intro i j hi hj hlt e
  have := hf i j (by simpa using hi) (by simpa using hj) e
  omega
theorem nodup_len {α : Type} [BEq α] [LawfulBEq α] : ∀ {l m : List α}, l.Nodup → (∀ x ∈ l, x ∈ m) → l.length ≤ m.length := by
  intro l
  induction l with
  | nil => intro m _ _; simp
  | cons a l ih =>
    intro m h hs
    rw [List.nodup_cons] at h
    have hm : a ∈ m := hs a (by simp)
    have h1 := ih (m := m.erase a) h.2 (fun x hx => (List.mem_erase_of_ne (fun e : x = a => h.1 (by rw [← e]; exact hx))).2 (hs x (by simp [hx])))
    rw [List.length_erase_of_mem hm] at h1
    have := List.length_pos_of_mem hm
    simp only [List.length_cons]
    omega
end Go.Proofs.YtdmoigompmeacaaDoor.Nod
