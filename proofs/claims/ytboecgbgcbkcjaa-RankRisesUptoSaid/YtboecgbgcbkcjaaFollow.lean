/- The program's following: the parts behind a first choice. -/
import Derived.Test.YtboecgbgcbkcjaaRepeat
namespace Go.Proofs.Ytboecgbgcbkcjaa.Gens
open Go.RowKit Lists Ints Vals
set_option linter.unusedVariables false

def FPost (w : World) (n : Nat) (l : List Gn) (e : Ending) (w' : World) : Prop := ∃ (A' : Option Addr) (c' : Nat), e = .returned (.slice A' l.length c') ∧ l.length ≤ c' ∧ GsAt w' w'.heap.size n A' l ∧ Below w.heap.size w w'
theorem gsAt_sub {w : World} {B n b off : Nat} {l : List Gn} (h : GsAt w B n (some ⟨b, off, none⟩) l) (j : Nat) : GsAt w B n (some ⟨b, off + j * 4, none⟩) ((l.drop j).take 1) := (h.drop j).take 1

set_option maxHeartbeats 2000000 in
set_option maxRecDepth 100000 in
theorem following_ok {n : Nat} {k a b : Int} {subs : List Gn} {A : Option Addr} {c B : Nat} (w : World) (h : GAt w (GBel B) (n + 1) (.agg #[.int .i64 k, .int .i64 a, .int .i64 b, .slice A subs.length c]) (.node k a b subs)) (hB : B ≤ w.heap.size) (hf : Fine (.node k a b subs)) (hk : k = 4 ∨ k = 5) (j : Nat) (hj : j < (branches (.node k a b subs)).length) :
    Calls Try.prog 24 #[.agg #[.int .i64 k, .int .i64 a, .int .i64 b, .slice A subs.length c], .int .i64 j] w (FPost w n (follow (.node k a b subs) j)) := by
  have hcap : subs.length ≤ c := GAt.cap_ (t := .node k a b subs) h
  obtain ⟨m, A', c', e, _, ev, hit⟩ := h.open_
  obtain rfl : n = m := by omega
  obtain ⟨rfl, rfl⟩ : A = A' ∧ c = c' := by
    simp only [gv, Value.agg.injEq, Array.mk.injEq, List.cons.injEq, and_true, Value.slice.injEq] at ev
    exact ⟨ev.2.2.2.1, ev.2.2.2.2.2⟩
  have b1 := bel1 w (.cells #[.int .i64 k, .int .i64 a, .int .i64 b, .slice A subs.length c] 24)
  have g1 : GsAt (w.alloc (.cells #[.int .i64 k, .int .i64 a, .int .i64 b, .slice A subs.length c] 24)) B n A subs := GsAt.below hit (b1.mono hB)
  have hlen := branch_len hf.1 hk
  rw [hlen] at hj
  have hm := right_max hf.1
  have HF := Lib.hid hf
  have HB := Lib.hid (And.intro hB b1)
  simp only [Gn.kind, Gn.a, Gn.subs] at hj
  clear hlen hf e ev hit h hB b1
  rcases hk with rfl | rfl
  · obtain ⟨m0, m5, hl⟩ := hm.2.2.1 rfl
    match subs, hl, g1 with
    | [y], _, g1 =>
      have hj5 : j ≤ 5 := by simp only [if_true] at hj; omega
      have RP := repeat_one (A := A) (c := c) _ g1 (by have := HB.out.1; simp; omega) j hj5
      have RP := Lib.hid RP
      have HE := Lib.hid (show follow (.node 4 a b [y]) j = List.replicate j y from rfl)
      clear g1 hm hj
      go_enter Try.func24, Try.ntmps24
      go_wp2_with fail
      refine RP.out.mono ?_
      rintro e w2 ⟨A2, c2, rfl, hc2, hg2, hb2⟩
      have B2 := Lib.hid (below_trans HB.out.2 hb2)
      have G2 := Lib.hid (And.intro hc2 hg2)
      clear hc2 hg2 hb2
      go_wp2_with fail
      go_ret
      exact ⟨A2, c2, by rw [HE.out, List.length_replicate]; rfl, by rw [HE.out, List.length_replicate]; exact G2.out.1, by rw [HE.out]; exact G2.out.2, B2.out⟩
  · simp only [show ¬ (5 : Int) = 4 by omega, if_false] at hj
    obtain ⟨ib, off, rfl, _⟩ := g1 (by omega)
    have G1 := Lib.hid (gsAt_sub g1 j)
    have hne : ¬ c = j := by omega
    have hj30 : j ≤ 30 := by have := HF.out.size; rw [gsize_subs] at this; have := glen_sizes subs; simp only [Gn.subs] at *; omega
    have hw2 : ((j : Int) + 1).toNat - j = 1 := by omega
    have HE := Lib.hid (show follow (.node 5 a b subs) j = (subs.drop j).take 1 from rfl)
    have HL := Lib.hid (show ((subs.drop j).take 1).length = 1 by simp; omega)
    clear g1 hm
    go_enter Try.func24, Try.ntmps24
    go_wp2_with fail
    go_ret
    exact ⟨some ⟨ib, off + j * 4, none⟩, c - j, by rw [HE.out, HL.out]; rfl, by rw [HE.out, HL.out]; omega, by rw [HE.out]; exact G1.out.more (by have := HB.out.1; simp; omega), HB.out.2⟩
end Go.Proofs.Ytboecgbgcbkcjaa.Gens
