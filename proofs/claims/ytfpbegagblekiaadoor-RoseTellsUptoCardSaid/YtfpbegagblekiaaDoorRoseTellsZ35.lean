/- RoseTells, part 35 of the proof: Contract of the document's own MendOf, of what Played does (Plays: still to prove). Condition: the sizes. · What Played does, as the document's MendOf, MostOf and ReplayOf ask for it. Condition: the sizes. · Contract of the document's own MendOf: what it tells lies in new memory. Condition: the sizes. -/
import Derived.Test.YtfpbegagblekiaaDoorRoseTellsZ29
import Derived.Test.YtfpbegagblekiaaDoorRoseTellsZ16
import Derived.Test.YtfpbegagblekiaaDoorRoseTellsZ10
import Derived.Test.YtfpbegagblekiaaDoorRoseTellsZ34
import Derived.Test.YtfpbegagblekiaaDoorRoseTellsZ3
/- Contract of the document's own MendOf, of what Played does (Plays: still to prove). Condition: the sizes. -/
namespace Go.Proofs.YtfpbegagblekiaaDoor.Gens
open Go.RowKit Lists Ints Vals
set_option linter.unusedVariables false

/-- what a play comes to -/
def PlPost (w : World) (t : List Int) (k : Nat) (r : Except Int (List Int × Tr × List Int)) (e : Ending) (w' : World) : Prop :=
  Below w.heap.size w w' ∧ match r with
    | .ok (c, v, _) => ∃ (VA TA : Option Addr) (vc tc n : Nat), e = .returned (pv v.list v.num VA v.items.length vc TA (t ++ c).length tc (k + c.length : Nat) 0) ∧
        TAt w' (fun b => w.heap.size ≤ b ∧ b < w'.heap.size) n (.agg #[.bool v.list, .int .i64 v.num, .slice VA v.items.length vc]) v ∧ At w' w'.heap.size TA (t ++ c)
    | .error er => er ≠ 0 ∧ ∃ (lb : Bool) (nm : Int) (VA : Option Addr) (vl vc : Nat) (TA : Option Addr) (tl tc : Nat) (k' : Int), e = .returned (pv lb nm VA vl vc TA tl tc k' er)
/-- what is asked of Played -/
def Plays : Prop := ∀ (n : Nat) (g : Gn) (v : Value) (lb : Bool) (nm : Int) (VA : Option Addr) (vl vc : Nat) (t : List Int) (TA : Option Addr) (tc k : Nat) (l : List Int) (L : Option Addr) (lc : Nat) (mend : Bool) (B : Nat) (w : World),
  GAt w (GBel B) n v g → Right g → g.size ≤ 4294967296 → At w B TA t → At w B L l → B ≤ w.heap.size → t.length + longG g ≤ 4294967296 → l.length ≤ 4294967296 → k + longG g ≤ 4294967296 → t.length ≤ tc →
  Calls Tryd.prog 36 #[v, pv lb nm VA vl vc TA t.length tc k 0, .slice L l.length lc, .bool mend] w (PlPost w t k (play (chC mend) g (l.drop k)))

set_option maxRecDepth 100000 in
theorem fieldTape (lb : Bool) (nm : Int) (VA : Option Addr) (vl vc : Nat) (TA : Option Addr) (tl tc : Nat) (a e : Int) (w : World) :
    (Instr.field 72 (pv lb nm VA vl vc TA tl tc a e) 1).run Tryd.prog w = .ok (.slice TA tl tc) w := by kernel_rfl
set_option maxRecDepth 100000 in
theorem mendof_any (HP : Plays) (n : Nat) (g : Gn) (A : Option Addr) (c : Nat) (l : List Int) (L : Option Addr) (lc B : Nat) (w : World) (hg : GAt w (GBel B) n (gv g A c) g) (hr : Right g) (hs : g.size ≤ 4294967296) (hl : At w B L l) (hB : B ≤ w.heap.size)
    (hq : longG g ≤ 4294967296) (hll : l.length ≤ 4294967296) {m r : List Int} {x : Tr} (hm : play mendC g l = .ok (m, x, r)) :
    Calls Tryd.prog 38 #[gv g A c, .slice L l.length lc] w fun e w' => Below w.heap.size w w' ∧ ∃ (TA : Option Addr) (tc : Nat), e = .returned (.slice TA m.length tc) ∧ At w' w'.heap.size TA m := by
  have P := fun w1 (b1 : Below w.heap.size w w1) => HP n g (gv g A c) false 0 none 0 0 [] none 0 0 l L lc true B w1 (hg.below (b1.mono hB)) hr hs At.nil (hl.below (b1.mono hB)) (Nat.le_trans hB b1.size) (by simpa using hq) hll (by simpa using hq) (by simp)
  simp only [List.drop_zero, chC, hm, List.length_nil] at P
  have P := Lib.hid P
  have hfT := fieldTape
  clear hg hr hs hl hB hq hll hm HP
  go_enter Tryd.func38, Tryd.ntmps38
  go_wp2_with fail
  have H0 : Below w.heap.size w (w.alloc (gc g A c)) := (Below.refl _ _).alloc (Nat.le_refl _) _
  refine (P.out _ H0).mono ?_
  rintro e w1 ⟨b1, VA, TA, vc, tc, n', rfl, _, ha⟩
  have B1 := Lib.hid (on H0 b1)
  have HA := Lib.hid ha
  clear b1 ha H0
  simp only [List.nil_append] at *
  go_wp2_with fail
  go_ret
  exact ⟨B1.out, TA, tc, rfl, HA.out⟩

/-- what the document's replay is -/
def replayG (g : Gn) (l : List Int) : Except Int Tr := match play readC g l with
  | .ok (_, v, r) => if r = [] then .ok v else .error 3
  | .error e => .error e
theorem replay_kinds (g : Gn) (l : List Int) : (∃ c v r, play readC g l = .ok (c, v, r)) ∨ ∃ e, play readC g l = .error e := by
  cases h : play readC g l with
  | error e => exact .inr ⟨e, rfl⟩
  | ok p => exact .inl ⟨p.1, p.2.1, p.2.2, rfl⟩
theorem new22 (w : World) (o q : Obj) : ((w.alloc o).alloc q).heap[w.heap.size + 1]? = some q := by
  have h := heap_alloc_new (w.alloc o) q
  have e : (w.alloc o).heap.size = w.heap.size + 1 := by simp
  rw [e] at h
  exact h
end Go.Proofs.YtfpbegagblekiaaDoor.Gens

/- What Played does, as the document's MendOf, MostOf and ReplayOf ask for it. Condition: the sizes. -/
namespace Go.Proofs.YtfpbegagblekiaaDoor.Gens
open Go.RowKit Lists Ints Vals
set_option linter.unusedVariables false

theorem plays_all : Plays := by
  intro n g v lb nm VA vl vc t TA tc k l L lc mend B w hg hr hs ht hl hB htl hll hkl htc
  refine (played_any n g v lb nm VA vl vc t TA tc k l L lc mend B w hg hr hs ht hl hB htl hll hkl htc).mono ?_
  rintro e w' ⟨hb, h⟩
  refine ⟨hb, ?_⟩
  cases hp : play (chC mend) g (l.drop k) with
  | error er => rw [hp] at h; exact h
  | ok p =>
    obtain ⟨c, v, s⟩ := p
    rw [hp] at h
    obtain ⟨VA', TA', vc', tc', he, hv, ha, _⟩ := h
    refine ⟨VA', TA', vc', tc', n, he, hv, ?_⟩
    rcases ha with ⟨rfl, rfl⟩ | ha
    · rw [List.append_nil]
      exact (ht.below (hb.mono hB)).more (Nat.le_trans hB hb.size)
    · exact ha.at_
end Go.Proofs.YtfpbegagblekiaaDoor.Gens

/- Contract of the document's own MendOf: what it tells lies in new memory. Condition: the sizes. -/
namespace Go.Proofs.YtfpbegagblekiaaDoor.Gens
open Go.RowKit Lists Ints Vals
set_option linter.unusedVariables false

/-- a list in new memory -/
def MnPost (m : List Int) (w : World) (e : Ending) (w' : World) : Prop := Below w.heap.size w w' ∧ ∃ (TA : Option Addr) (tc : Nat), e = .returned (.slice TA m.length tc) ∧ AtP w' (fun b => w.heap.size ≤ b ∧ b < w'.heap.size) TA m ∧ m.length ≤ tc
set_option maxRecDepth 100000 in
theorem mendof_new (n : Nat) (g : Gn) (A : Option Addr) (c : Nat) (l : List Int) (L : Option Addr) (lc B : Nat) (w : World) (hg : GAt w (GBel B) n (gv g A c) g) (hr : Right g) (hs : g.size ≤ 4294967296) (hl : At w B L l) (hB : B ≤ w.heap.size)
    (hq : longG g ≤ 4294967296) (hll : l.length ≤ 4294967296) {m r : List Int} {x : Tr} (hm : play mendC g l = .ok (m, x, r)) :
    Calls Tryd.prog 38 #[gv g A c, .slice L l.length lc] w (MnPost m w) := by
  have P := fun w1 (b1 : Below w.heap.size w w1) => played_any n g (gv g A c) false 0 none 0 0 [] none 0 0 l L lc true B w1 (hg.below (b1.mono hB)) hr hs At.nil (hl.below (b1.mono hB)) (Nat.le_trans hB b1.size) (by simpa using hq) hll (by simpa using hq) (by simp)
  simp only [List.drop_zero, chC, hm, List.length_nil] at P
  have P := Lib.hid P
  have hfT := fieldTape
  clear hg hr hs hl hB hq hll hm
  go_enter Tryd.func38, Tryd.ntmps38
  go_wp2_with fail
  have H0 : Below w.heap.size w (w.alloc (gc g A c)) := (Below.refl _ _).alloc (Nat.le_refl _) _
  refine (P.out _ H0).mono ?_
  rintro e w1 ⟨b1, VA, TA, vc, tc, rfl, _, ha, hcp⟩
  have B1 := Lib.hid (on H0 b1)
  have HA := Lib.hid (show AtP w1 (fun b => w.heap.size ≤ b ∧ b < w1.heap.size) TA m from by
    rcases ha with ⟨rfl, _⟩ | ha
    · exact fun h => by simp at h
    · rw [List.nil_append] at ha
      intro hp
      obtain ⟨b, off, e, hb, hc⟩ := ha hp
      exact ⟨b, off, e, ⟨Nat.le_trans H0.size hb.1, hb.2⟩, hc⟩)
  have HCP := Lib.hid hcp
  clear b1 ha H0 hcp
  simp only [List.nil_append] at *
  go_wp2_with fail
  go_ret
  exact ⟨B1.out, TA, tc, rfl, HA.out, HCP.out⟩
end Go.Proofs.YtfpbegagblekiaaDoor.Gens
