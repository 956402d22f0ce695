/- RunsTell, part 35 of the proof: Contract of the document's own MendOf, of what Played does (Plays: still to prove). Condition: the sizes. · What the document's own ReplayOf comes to (its walk: XRefReplayW). -/
import Derived.Test.YtabkihellcflhaaGreatDoorRunsTellZ34
import Derived.Test.YtabkihellcflhaaGreatDoorRunsTellZ8
import Derived.Test.YtabkihellcflhaaGreatDoorRunsTellZ5
/- Contract of the document's own MendOf, of what Played does (Plays: still to prove). Condition: the sizes. -/
namespace Go.Proofs.YtabkihellcflhaaGreatDoor.Gens
open Go.RowKit Lists Ints Vals
set_option linter.unusedVariables false

/-- what a play comes to -/
def PlPost (w : World) (t : List Int) (k : Nat) (r : Except Int (List Int × Tr × List Int)) (e : Ending) (w' : World) : Prop :=
  Below w.heap.size w w' ∧ match r with
    | .ok (c, v, _) => ∃ (VA TA : Option Addr) (vc tc n : Nat), e = .returned (pv v.list v.num VA v.items.length vc TA (t ++ c).length tc (k + c.length : Nat) 0) ∧
        TAt w' (fun b => w.heap.size ≤ b ∧ b < w'.heap.size) n (.agg #[.bool v.list, .int .i64 v.num, .slice VA v.items.length vc]) v ∧ At w' w'.heap.size TA (t ++ c)
    | .error er => er ≠ 0 ∧ ∃ (lb : Bool) (nm : Int) (VA : Option Addr) (vl vc : Nat) (TA : Option Addr) (tl tc : Nat) (k' : Int), e = .returned (pv lb nm VA vl vc TA tl tc k' er)
/-- what is asked of Played -/
def Plays : Prop := ∀ (n : Nat) (g : Gn) (v : Value) (lb : Bool) (nm : Int) (VA : Option Addr) (vl vc : Nat) (t : List Int) (TA : Option Addr) (tc k : Nat) (l : List Int) (L : Option Addr) (lc : Nat) (mend : Bool) (B : Nat) (w : World),
  GAt w (GBel B) n v g → Right g → g.size ≤ 4294967296 → At w B TA t → At w B L l → B ≤ w.heap.size → t.length + longG g ≤ 4294967296 → l.length ≤ 4294967296 → k + longG g ≤ 4294967296 → t.length ≤ tc →
  Calls Tryz.prog 85 #[v, pv lb nm VA vl vc TA t.length tc k 0, .slice L l.length lc, .bool mend] w (PlPost w t k (play (chC mend) g (l.drop k)))

set_option maxRecDepth 100000 in
theorem fieldTape (lb : Bool) (nm : Int) (VA : Option Addr) (vl vc : Nat) (TA : Option Addr) (tl tc : Nat) (a e : Int) (w : World) :
    (Instr.field 130 (pv lb nm VA vl vc TA tl tc a e) 1).run Tryz.prog w = .ok (.slice TA tl tc) w := by kernel_rfl
set_option maxRecDepth 100000 in
theorem mendof_any (HP : Plays) (n : Nat) (g : Gn) (A : Option Addr) (c : Nat) (l : List Int) (L : Option Addr) (lc B : Nat) (w : World) (hg : GAt w (GBel B) n (gv g A c) g) (hr : Right g) (hs : g.size ≤ 4294967296) (hl : At w B L l) (hB : B ≤ w.heap.size)
    (hq : longG g ≤ 4294967296) (hll : l.length ≤ 4294967296) {m r : List Int} {x : Tr} (hm : play mendC g l = .ok (m, x, r)) :
    Calls Tryz.prog 84 #[gv g A c, .slice L l.length lc] w fun e w' => Below w.heap.size w w' ∧ ∃ (TA : Option Addr) (tc : Nat), e = .returned (.slice TA m.length tc) ∧ At w' w'.heap.size TA m := by
  have P := fun w1 (b1 : Below w.heap.size w w1) => HP n g (gv g A c) false 0 none 0 0 [] none 0 0 l L lc true B w1 (hg.below (b1.mono hB)) hr hs At.nil (hl.below (b1.mono hB)) (Nat.le_trans hB b1.size) (by simpa using hq) hll (by simpa using hq) (by simp)
  simp only [List.drop_zero, chC, hm, List.length_nil] at P
  have P := Lib.hid P
  have hfT := fieldTape
  clear hg hr hs hl hB hq hll hm HP
  go_enter Tryz.func84, Tryz.ntmps84
  go_wp2_with fail
  have H0 : Below w.heap.size w (w.alloc (gc g A c)) := (Below.refl _ _).alloc (Nat.le_refl _) _
  refine (P.out _ H0).mono ?_
  rintro e w1 ⟨b1, VA, TA, vc, tc, n', rfl, _, ha⟩
  have B1 := Lib.hid (on H0 b1)
  have HA := Lib.hid ha
  clear b1 ha H0
  simp only [List.nil_append] at *
  go_wp2_with fail
  go_ret
  exact ⟨B1.out, TA, tc, rfl, HA.out⟩

/-- what the document's replay is -/
def replayG (g : Gn) (l : List Int) : Except Int Tr := match play readC g l with
  | .ok (_, v, r) => if r = [] then .ok v else .error 3
  | .error e => .error e
theorem replay_kinds (g : Gn) (l : List Int) : (∃ c v r, play readC g l = .ok (c, v, r)) ∨ ∃ e, play readC g l = .error e := by
  cases h : play readC g l with
  | error e => exact .inr ⟨e, rfl⟩
  | ok p => exact .inl ⟨p.1, p.2.1, p.2.2, rfl⟩
theorem new22 (w : World) (o q : Obj) : ((w.alloc o).alloc q).heap[w.heap.size + 1]? = some q := by
  have h := heap_alloc_new (w.alloc o) q
  have e : (w.alloc o).heap.size = w.heap.size + 1 := by simp
  rw [e] at h
  exact h
end Go.Proofs.YtabkihellcflhaaGreatDoor.Gens

/- What the document's own ReplayOf comes to (its walk: XRefReplayW). -/
namespace Go.Proofs.YtabkihellcflhaaGreatDoor.Gens
open Go.RowKit Lists Ints Vals
set_option linter.unusedVariables false

theorem three_cells (w : World) (b : Nat) (o : Obj) (x0 x1 x2 : Value) {y0 y1 y2 : Value} (hb : b < w.heap.size) (c0 : w.cell? ⟨b, 0, none⟩ = some y0) (c1 : w.cell? ⟨b, 1, none⟩ = some y1) (c2 : w.cell? ⟨b, 2, none⟩ = some y2) (W : World)
    (hW : W = (((w.setCell ⟨b, 0, none⟩ x0).setCell ⟨b, 1, none⟩ x1).setCell ⟨b, 2, none⟩ x2).alloc o) :
    W.cell? ⟨b, 0, none⟩ = some x0 ∧ W.cell? ⟨b, 1, none⟩ = some x1 ∧ W.cell? ⟨b, 2, none⟩ = some x2 := by
  have far : ∀ (u : World) (i j : Nat) (v : Value), i ≠ j → (u.setCell ⟨b, i, none⟩ v).cell? ⟨b, j, none⟩ = u.cell? ⟨b, j, none⟩ :=
    fun u i j v h => World.cell?_setCell_other _ _ _ _ (fun e => h (by injection e))
  have al : ∀ j, W.cell? ⟨b, j, none⟩ = (((w.setCell ⟨b, 0, none⟩ x0).setCell ⟨b, 1, none⟩ x1).setCell ⟨b, 2, none⟩ x2).cell? ⟨b, j, none⟩ := by
    intro j
    rw [hW]
    exact World.cell?_alloc_lt _ o ⟨b, j, none⟩ (by show b < _; simp; exact hb)
  refine ⟨?_, ?_, ?_⟩
  · rw [al, far _ 2 0 _ (by decide), far _ 1 0 _ (by decide)]
    exact World.cell?_setCell_same _ _ _ c0
  · rw [al, far _ 2 1 _ (by decide)]
    exact World.cell?_setCell_same _ _ _ ((far _ 0 1 _ (by decide)).trans c1)
  · rw [al]
    exact World.cell?_setCell_same _ _ _ ((far _ 1 2 _ (by decide)).trans ((far _ 0 2 _ (by decide)).trans c2))
def RpPost (w : World) (r : Except Int Tr) (e : Ending) (w' : World) : Prop :=
  Below w.heap.size w w' ∧ match r with
    | .ok v => ∃ (VA : Option Addr) (vc n : Nat), e = .returned (.tuple #[.agg #[.bool v.list, .int .i64 v.num, .slice VA v.items.length vc], .int .i64 0]) ∧ TAt w' (fun b => w.heap.size ≤ b ∧ b < w'.heap.size) n (.agg #[.bool v.list, .int .i64 v.num, .slice VA v.items.length vc]) v
    | .error er => er ≠ 0 ∧ e = .returned (.tuple #[.agg #[.bool false, .int .i64 0, .slice none 0 0], .int .i64 er])
end Go.Proofs.YtabkihellcflhaaGreatDoor.Gens
