/- RoseTells, part 11 of the proof: Contract of the document's own MendOf, of what Played does (Plays: still to prove). Condition: the sizes. · What Played does, as the document's MendOf, MostOf and ReplayOf ask for it. Condition: the sizes. · Contract of the document's own MendOf: what it tells lies in new memory. Condition: the sizes. · Lists of lists of numbers in memory, nothing said of their capacities: as they are read, and as a call's own that grow. Conditions: the sizes. (Made of XGrid by wip/tools/gen_gridw.py.) · Contract of the document's own Shorter. Conditions: the sizes. · Contracts: cmp.Compare, slices.Compare, tape.Less. Conditions: none but that the slices' cells are known. · The program's candidates: what is noted of one that is tried. Conditions: the sizes. · The program's candidates. Conditions: the sizes. · The program's Replay: its closure as a source of choices, that may panic. Conditions: the size of the list. · The program's deferred closure in replay: a panic with an error's number is caught; else nothing. -/
import Derived.Test.YtplladlodgfloaaDoorRoseTellsZ8
import Derived.Test.YtplladlodgfloaaDoorRoseTellsZ4
import Derived.Test.YtplladlodgfloaaDoorRoseTellsZ3
import Derived.Test.YtplladlodgfloaaDoorRoseTellsZ10
import Derived.Test.YtplladlodgfloaaDoorRoseTellsZ1
import Derived.Deep.Slices
import Derived.Lib.Builder
import Derived.Test.YtplladlodgfloaaDoorRoseTellsZ2
import Derived.Deep.QuietTactic
import Derived.BigQuiet
import Derived.Test.YtplladlodgfloaaDoorRoseTellsZ6
import Derived.WalkSmall
import Derived.Tactics
import Derived.Tactics2
import Derived.Defers
import Derived.Recover
import Derived.Laws.Pointers
/- Contract of the document's own MendOf, of what Played does (Plays: still to prove). Condition: the sizes. -/
namespace Go.Proofs.YtplladlodgfloaaDoor.Gens
open Go.RowKit Lists Ints Vals
set_option linter.unusedVariables false

/-- what a play comes to -/
def PlPost (w : World) (t : List Int) (k : Nat) (r : Except Int (List Int × Tr × List Int)) (e : Ending) (w' : World) : Prop :=
  Below w.heap.size w w' ∧ match r with
    | .ok (c, v, _) => ∃ (VA TA : Option Addr) (vc tc n : Nat), e = .returned (pv v.list v.num VA v.items.length vc TA (t ++ c).length tc (k + c.length : Nat) 0) ∧
        TAt w' (fun b => w.heap.size ≤ b ∧ b < w'.heap.size) n (.agg #[.bool v.list, .int .i64 v.num, .slice VA v.items.length vc]) v ∧ At w' w'.heap.size TA (t ++ c)
    | .error er => er ≠ 0 ∧ ∃ (lb : Bool) (nm : Int) (VA : Option Addr) (vl vc : Nat) (TA : Option Addr) (tl tc : Nat) (k' : Int), e = .returned (pv lb nm VA vl vc TA tl tc k' er)
/-- what is asked of Played -/
def Plays : Prop := ∀ (n : Nat) (g : Gn) (v : Value) (lb : Bool) (nm : Int) (VA : Option Addr) (vl vc : Nat) (t : List Int) (TA : Option Addr) (tc k : Nat) (l : List Int) (L : Option Addr) (lc : Nat) (mend : Bool) (B : Nat) (w : World),
  GAt w (GBel B) n v g → Right g → g.size ≤ 4294967296 → At w B TA t → At w B L l → B ≤ w.heap.size → t.length + longG g ≤ 4294967296 → l.length ≤ 4294967296 → k + longG g ≤ 4294967296 →
  Calls Tryd.prog 21 #[v, pv lb nm VA vl vc TA t.length tc k 0, .slice L l.length lc, .bool mend] w (PlPost w t k (play (chC mend) g (l.drop k)))

set_option maxRecDepth 100000 in
theorem fieldTape (lb : Bool) (nm : Int) (VA : Option Addr) (vl vc : Nat) (TA : Option Addr) (tl tc : Nat) (a e : Int) (w : World) :
    (Instr.field 55 (pv lb nm VA vl vc TA tl tc a e) 1).run Tryd.prog w = .ok (.slice TA tl tc) w := by kernel_rfl
set_option maxRecDepth 100000 in
theorem mendof_any (HP : Plays) (n : Nat) (g : Gn) (A : Option Addr) (c : Nat) (l : List Int) (L : Option Addr) (lc B : Nat) (w : World) (hg : GAt w (GBel B) n (gv g A c) g) (hr : Right g) (hs : g.size ≤ 4294967296) (hl : At w B L l) (hB : B ≤ w.heap.size)
    (hq : longG g ≤ 4294967296) (hll : l.length ≤ 4294967296) {m r : List Int} {x : Tr} (hm : play mendC g l = .ok (m, x, r)) :
    Calls Tryd.prog 23 #[gv g A c, .slice L l.length lc] w fun e w' => Below w.heap.size w w' ∧ ∃ (TA : Option Addr) (tc : Nat), e = .returned (.slice TA m.length tc) ∧ At w' w'.heap.size TA m := by
  have P := fun w1 (b1 : Below w.heap.size w w1) => HP n g (gv g A c) false 0 none 0 0 [] none 0 0 l L lc true B w1 (hg.below (b1.mono hB)) hr hs At.nil (hl.below (b1.mono hB)) (Nat.le_trans hB b1.size) (by simpa using hq) hll (by simpa using hq)
  simp only [List.drop_zero, chC, hm, List.length_nil] at P
  have P := Lib.hid P
  have hfT := fieldTape
  clear hg hr hs hl hB hq hll hm HP
  go_enter Tryd.func23, Tryd.ntmps23
  go_wp2_with fail
  have H0 : Below w.heap.size w (w.alloc (gc g A c)) := (Below.refl _ _).alloc (Nat.le_refl _) _
  refine (P.out _ H0).mono ?_
  rintro e w1 ⟨b1, VA, TA, vc, tc, n', rfl, _, ha⟩
  have B1 := Lib.hid (on H0 b1)
  have HA := Lib.hid ha
  clear b1 ha H0
  simp only [List.nil_append] at *
  go_wp2_with fail
  go_ret
  exact ⟨B1.out, TA, tc, rfl, HA.out⟩

/-- what the document's replay is -/
def replayG (g : Gn) (l : List Int) : Except Int Tr := match play readC g l with
  | .ok (_, v, r) => if r = [] then .ok v else .error 3
  | .error e => .error e
theorem replay_kinds (g : Gn) (l : List Int) : (∃ c v r, play readC g l = .ok (c, v, r)) ∨ ∃ e, play readC g l = .error e := by
  cases h : play readC g l with
  | error e => exact .inr ⟨e, rfl⟩
  | ok p => exact .inl ⟨p.1, p.2.1, p.2.2, rfl⟩
theorem new22 (w : World) (o q : Obj) : ((w.alloc o).alloc q).heap[w.heap.size + 1]? = some q := by
  have h := heap_alloc_new (w.alloc o) q
  have e : (w.alloc o).heap.size = w.heap.size + 1 := by simp
  rw [e] at h
  exact h
end Go.Proofs.YtplladlodgfloaaDoor.Gens

/- What Played does, as the document's MendOf, MostOf and ReplayOf ask for it. Condition: the sizes. -/
namespace Go.Proofs.YtplladlodgfloaaDoor.Gens
open Go.RowKit Lists Ints Vals
set_option linter.unusedVariables false

theorem plays_all : Plays := by
  intro n g v lb nm VA vl vc t TA tc k l L lc mend B w hg hr hs ht hl hB htl hll hkl
  refine (played_any n g v lb nm VA vl vc t TA tc k l L lc mend B w hg hr hs ht hl hB htl hll hkl).mono ?_
  rintro e w' ⟨hb, h⟩
  refine ⟨hb, ?_⟩
  cases hp : play (chC mend) g (l.drop k) with
  | error er => rw [hp] at h; exact h
  | ok p =>
    obtain ⟨c, v, s⟩ := p
    rw [hp] at h
    obtain ⟨VA', TA', vc', tc', he, hv, ha⟩ := h
    refine ⟨VA', TA', vc', tc', n, he, hv, ?_⟩
    rcases ha with ⟨rfl, rfl⟩ | ha
    · rw [List.append_nil]
      exact (ht.below (hb.mono hB)).more (Nat.le_trans hB hb.size)
    · exact ha.at_
end Go.Proofs.YtplladlodgfloaaDoor.Gens

/- Contract of the document's own MendOf: what it tells lies in new memory. Condition: the sizes. -/
namespace Go.Proofs.YtplladlodgfloaaDoor.Gens
open Go.RowKit Lists Ints Vals
set_option linter.unusedVariables false

/-- a list in new memory -/
def MnPost (m : List Int) (w : World) (e : Ending) (w' : World) : Prop := Below w.heap.size w w' ∧ ∃ (TA : Option Addr) (tc : Nat), e = .returned (.slice TA m.length tc) ∧ AtP w' (fun b => w.heap.size ≤ b ∧ b < w'.heap.size) TA m
set_option maxRecDepth 100000 in
theorem mendof_new (n : Nat) (g : Gn) (A : Option Addr) (c : Nat) (l : List Int) (L : Option Addr) (lc B : Nat) (w : World) (hg : GAt w (GBel B) n (gv g A c) g) (hr : Right g) (hs : g.size ≤ 4294967296) (hl : At w B L l) (hB : B ≤ w.heap.size)
    (hq : longG g ≤ 4294967296) (hll : l.length ≤ 4294967296) {m r : List Int} {x : Tr} (hm : play mendC g l = .ok (m, x, r)) :
    Calls Tryd.prog 23 #[gv g A c, .slice L l.length lc] w (MnPost m w) := by
  have P := fun w1 (b1 : Below w.heap.size w w1) => played_any n g (gv g A c) false 0 none 0 0 [] none 0 0 l L lc true B w1 (hg.below (b1.mono hB)) hr hs At.nil (hl.below (b1.mono hB)) (Nat.le_trans hB b1.size) (by simpa using hq) hll (by simpa using hq)
  simp only [List.drop_zero, chC, hm, List.length_nil] at P
  have P := Lib.hid P
  have hfT := fieldTape
  clear hg hr hs hl hB hq hll hm
  go_enter Tryd.func23, Tryd.ntmps23
  go_wp2_with fail
  have H0 : Below w.heap.size w (w.alloc (gc g A c)) := (Below.refl _ _).alloc (Nat.le_refl _) _
  refine (P.out _ H0).mono ?_
  rintro e w1 ⟨b1, VA, TA, vc, tc, rfl, _, ha⟩
  have B1 := Lib.hid (on H0 b1)
  have HA := Lib.hid (show AtP w1 (fun b => w.heap.size ≤ b ∧ b < w1.heap.size) TA m from by
    rcases ha with ⟨rfl, _⟩ | ha
    · exact fun h => by simp at h
    · rw [List.nil_append] at ha
      intro hp
      obtain ⟨b, off, e, hb, hc⟩ := ha hp
      exact ⟨b, off, e, ⟨Nat.le_trans H0.size hb.1, hb.2⟩, hc⟩)
  clear b1 ha H0
  simp only [List.nil_append] at *
  go_wp2_with fail
  go_ret
  exact ⟨B1.out, TA, tc, rfl, HA.out⟩
end Go.Proofs.YtplladlodgfloaaDoor.Gens

/- Lists of lists of numbers in memory, nothing said of their capacities: as they are read, and as a call's own that grow. Conditions: the sizes. (Made of XGrid by wip/tools/gen_gridw.py.) -/
namespace Go.Proofs.YtplladlodgfloaaDoor.Ints
open Go.RowKit Go.WideShapes Go.ChangeShapes
set_option linter.unusedVariables false

/-- The slice at A holds the lists zs: it lies in a block of So, they in blocks of Si. -/
def RowsW (w : World) (So Si : Nat → Prop) (A : Option Addr) (zs : List (List Int)) : Prop :=
  0 < zs.length → ∃ b off, A = some ⟨b, off, none⟩ ∧ So b ∧ ∀ j (h : j < zs.length), ∃ D d, w.cell? ⟨b, off + j, none⟩ = some (.slice D (zs[j]'h).length d) ∧ AtP w Si D (zs[j]'h)
abbrev RowsWAt (w : World) (B : Nat) (A : Option Addr) (zs : List (List Int)) : Prop := RowsW w (· < B) (· < B) A zs

section
variable {w w' : World} {S S' So Si So' Si' : Nat → Prop} {A : Option Addr} {l : List Int} {zs : List (List Int)} {B : Nat}
theorem RowsW.keep (h : RowsW w So Si A zs) (ho : ∀ b, So b → So' b ∧ ∀ o, w'.cell? ⟨b, o, none⟩ = w.cell? ⟨b, o, none⟩) (hi : ∀ b, Si b → Si' b ∧ ∀ o, w'.cell? ⟨b, o, none⟩ = w.cell? ⟨b, o, none⟩) : RowsW w' So' Si' A zs := fun hp => by
  obtain ⟨b, off, e, hb, hc⟩ := h hp
  refine ⟨b, off, e, (ho b hb).1, fun j hj => ?_⟩
  obtain ⟨D, d, h1, h3⟩ := hc j hj
  exact ⟨D, d, ((ho b hb).2 _).trans h1, h3.keep hi⟩
theorem RowsW.nil : RowsW w So Si A [] := fun h => by simp at h
theorem RowsW.below (h : RowsWAt w B A zs) (hb : Below B w w') : RowsWAt w' B A zs :=
  RowsW.keep h (fun b hB => ⟨hB, fun o => hb.cell (p := ⟨b, o, none⟩) hB⟩) (fun b hB => ⟨hB, fun o => hb.cell (p := ⟨b, o, none⟩) hB⟩)
theorem RowsW.more (h : RowsWAt w B A zs) {B' : Nat} (hB : B ≤ B') : RowsWAt w B' A zs :=
  RowsW.keep h (fun b hb => ⟨Nat.lt_of_lt_of_le hb hB, fun _ => rfl⟩) (fun b hb => ⟨Nat.lt_of_lt_of_le hb hB, fun _ => rfl⟩)
end

/-- A list of lists of the call's own: its row from base on; its lists in other blocks, from base on. -/
def OwnRowsW (w : World) (base : Nat) (A : Option Addr) (c : Nat) (zs : List (List Int)) : Prop :=
  ∃ xs : List Value, xs.length = zs.length ∧ w.ownsRow base 25 1 (.slice A zs.length c) zs.length xs ∧
    ∀ j (h : j < zs.length) (h' : j < xs.length), ∃ D d, xs[j]'h' = .slice D (zs[j]'h).length d ∧ AtP w (fun b => base ≤ b ∧ b < w.heap.size ∧ rowOf A ≠ some b) D (zs[j]'h)
section
variable {w w' : World} {base c : Nat} {A : Option Addr} {zs : List (List Int)}
theorem OwnRowsW.zero : OwnRowsW w base none 0 [] := ⟨[], rfl, ⟨rfl, .inl ⟨rfl, rfl⟩⟩, fun j h => by simp at h⟩
theorem OwnRowsW.ge (h : OwnRowsW w base A c zs) : ∀ g, rowOf A = some g → base ≤ g ∧ g < w.heap.size := by
  intro g hg
  obtain ⟨xs, _, h2, _⟩ := h
  rcases h2.2 with ⟨he, _⟩ | ⟨g', cap, cur, he, hb, hh, _⟩
  · injection he with he; subst he; cases hg
  · injection he with he; subst he
    have : g' = g := by simpa [rowOf] using hg
    subst this
    exact ⟨hb, (Array.getElem?_eq_some_iff.1 hh).1⟩
theorem OwnRowsW.below (h : OwnRowsW w base A c zs) (hb : Below w.heap.size w w') : OwnRowsW w' base A c zs := by
  obtain ⟨xs, h1, h2, h3⟩ := h
  refine ⟨xs, h1, ⟨h2.1, ?_⟩, fun j hj hj' => ?_⟩
  · rcases h2.2 with h0 | ⟨g, cap, cur, he, hg, hh, h4⟩
    · exact .inl h0
    · exact .inr ⟨g, cap, cur, he, hg, (hb.block g (Array.getElem?_eq_some_iff.1 hh).1).trans hh, h4⟩
  · obtain ⟨D, d, e, ha⟩ := h3 j hj hj'
    exact ⟨D, d, e, ha.keep fun b hB => ⟨⟨hB.1, Nat.lt_of_lt_of_le hB.2.1 hb.size, hB.2.2⟩, fun o => hb.cell (p := ⟨b, o, none⟩) hB.2.1⟩⟩
theorem OwnRowsW.less (h : OwnRowsW w base A c zs) {base' : Nat} (hb : base' ≤ base) : OwnRowsW w base' A c zs := by
  obtain ⟨xs, h1, h2, h3⟩ := h
  refine ⟨xs, h1, ⟨h2.1, ?_⟩, fun j hj hj' => ?_⟩
  · rcases h2.2 with h0 | ⟨g, cap, cur, he, hg, h4⟩
    · exact .inl h0
    · exact .inr ⟨g, cap, cur, he, Nat.le_trans hb hg, h4⟩
  · obtain ⟨D, d, e, ha⟩ := h3 j hj hj'
    exact ⟨D, d, e, ha.keep fun b hB => ⟨⟨Nat.le_trans hb hB.1, hB.2⟩, fun _ => rfl⟩⟩
/-- as it is read -/
theorem OwnRowsW.rows (h : OwnRowsW w base A c zs) : RowsW w (fun b => base ≤ b ∧ b < w.heap.size ∧ rowOf A = some b) (fun b => base ≤ b ∧ b < w.heap.size ∧ rowOf A ≠ some b) A zs := fun hp => by
  obtain ⟨xs, h1, h2, h3⟩ := h
  rcases h2.2 with ⟨he, h0⟩ | ⟨g, cap, cur, he, hg, hh, _, _, _, ht⟩
  · omega
  · have hA : A = some ⟨g, 0, none⟩ := by injection he
    refine ⟨g, 0, hA, ⟨hg, (Array.getElem?_eq_some_iff.1 hh).1, by rw [hA]; rfl⟩, fun j hj => ?_⟩
    obtain ⟨D, d, e, ha⟩ := h3 j hj (by omega)
    refine ⟨D, d, ?_, ha⟩
    have h4 : (cur.toList.take (zs.length * 1))[j]? = some (.slice D (zs[j]'hj).length d) := by
      rw [ht, List.getElem?_eq_getElem (by omega), e]
    rw [List.getElem?_take] at h4
    split at h4
    · rw [cell_of_row w g (0 + j) cur 25 (0, 0) hh]
      simpa [Array.getElem?_toList] using h4
    · cases h4
theorem OwnRowsW.at_ (h : OwnRowsW w base A c zs) : RowsWAt w w.heap.size A zs := h.rows.keep (fun b hb => ⟨hb.2.1, fun _ => rfl⟩) (fun b hb => ⟨hb.2.1, fun _ => rfl⟩)
theorem OwnRowsW.cap_ (h : OwnRowsW w base A c zs) : zs.length ≤ c := by
  obtain ⟨xs, _, h2, _⟩ := h
  rcases h2.2 with ⟨he, h0⟩ | ⟨g, cap, cur, he, _, _, hnc, _⟩
  · omega
  · injection he with _ _ h3; omega
end
set_option maxRecDepth 100000 in
theorem run_append_rowsw (w : World) (base c : Nat) (A : Option Addr) (zs : List (List Int)) (hown : OwnRowsW w base A c zs) (A2 : Option Addr) (c2 : Nat) (ys : List (List Int))
    (hr : RowsW w (fun _ => True) (fun b => base ≤ b ∧ b < w.heap.size ∧ rowOf A ≠ some b) A2 ys) (h63 : zs.length + ys.length ≤ 4398046511104) (hbase : base ≤ w.heap.size) (ty : TypeId) :
    ∃ A' c' w', (Builtin.append_ #[29, 29] ty #[.slice A zs.length c, .slice A2 ys.length c2]).run Tryd.prog w = .ok (.slice A' (zs ++ ys).length c') w' ∧ OwnRowsW w' base A' c' (zs ++ ys) ∧ w.grownBy w' (rowOf A) ∧
      (rowOf A' = rowOf A ∨ rowOf A' = some w.heap.size) := by
  obtain ⟨i0, hi, hz, hsz, hby⟩ := info_parts rows_info
  cases A2 with
  | none =>
    have h0 : ys = [] := by
      rcases Nat.eq_zero_or_pos ys.length with h | h
      · exact List.eq_nil_of_length_eq_zero h
      · obtain ⟨b, off, e, _⟩ := hr h; cases e
    subst h0
    have e : (zs ++ []).length = zs.length := by simp
    refine ⟨A, c, w, ?_, by simpa using hown, World.grownBy.refl w _, .inl rfl⟩
    rw [e]
    obtain ⟨xs, x1, x2, x3⟩ := hown
    rcases x2.2 with ⟨he, hn⟩ | ⟨g, cap, cur, he, _, _, hnc, _⟩
    · injection he with h1 h2 h3
      subst h1
      rw [hn]
      subst h3
      simp [Builtin.append_, run_underlying Tryd.underlying29, sizeOf, typeInfo, hi, Builtin.lenOf, Builtin.firstCells]
    · injection he with h1 h2 h3
      subst h1
      subst h3
      simp [Builtin.append_, run_underlying Tryd.underlying29, sizeOf, typeInfo, hi, Builtin.lenOf, Builtin.firstCells, hnc, storeCells]
  | some ad =>
    have each : ∀ j, j < ys.length → ∃ v : Value, w.cell? (ad.add j) = some v ∧ ∀ h : j < ys.length, ∃ D d, v = .slice D (ys[j]'h).length d ∧ AtP w (fun b => base ≤ b ∧ b < w.heap.size ∧ rowOf A ≠ some b) D (ys[j]'h) := fun j hj => by
      obtain ⟨b, off, e, _, hc⟩ := hr (by omega)
      injection e with e
      subst e
      obtain ⟨D, d, h1, h3⟩ := hc j hj
      exact ⟨_, by rw [add_plain]; exact h1, fun _ => ⟨D, d, rfl, h3⟩⟩
    obtain ⟨f, hf⟩ := Go.Deep.choose_lt each
    obtain ⟨xs, x1, x2, x3⟩ := hown
    have one : ∀ u ∈ (List.range ys.length).map f, u.oneCell' = true := by
      intro u hu
      obtain ⟨j, hj, rfl⟩ := List.mem_map.1 hu
      obtain ⟨D, d, e, _⟩ := (hf j (List.mem_range.1 hj)).2 (List.mem_range.1 hj)
      rw [e]; rfl
    have hcells : ∀ j u, ((List.range ys.length).map f)[j]? = some u → w.cell? (ad.add j) = some u := by
      intro j u hu
      have hj : j < ys.length := by
        rcases Nat.lt_or_ge j ys.length with h | h
        · exact h
        · rw [List.getElem?_eq_none (by simpa using h)] at hu; cases hu
      rw [(hf j hj).1, ← hu, List.getElem?_map, List.getElem?_range hj]
      rfl
    obtain ⟨v', w', hrun, h2, h3, _, h5⟩ := run_append_own_at (P := Tryd.prog) w base 29 ty 25 i0 (.slice none 0 0) 1 24 Tryd.underlying29 hi hz hsz hby rfl (by decide) _ zs.length _ x2
      ad ys.length c2 ((List.range ys.length).map f) (by simp) hcells one (by simp only [maxLen]; omega) (by omega) hbase
    have hf2 : ∃ A' c', v' = .slice A' (zs.length + ys.length) c' := by
      rcases h2.2 with ⟨he, hn⟩ | ⟨g, cap, cur, he, _⟩
      · exact ⟨Option.none, 0, by rw [he, hn]⟩
      · exact ⟨_, _, he⟩
    obtain ⟨A', c', rfl⟩ := hf2
    have e : (zs ++ ys).length = zs.length + ys.length := by simp
    rw [rowOf_own, rowOf_own] at h5
    rw [rowOf_own] at h3
    refine ⟨A', c', w', by rw [e]; exact hrun, ⟨xs ++ (List.range ys.length).map f, by simp [x1], by rw [e]; exact h2, fun j hj hj' => ?_⟩, h3, h5⟩
    have keep : ∀ (D : Option Addr) (z : List Int), AtP w (fun b => base ≤ b ∧ b < w.heap.size ∧ rowOf A ≠ some b) D z → AtP w' (fun b => base ≤ b ∧ b < w'.heap.size ∧ rowOf A' ≠ some b) D z := fun D z ha => ha.keep fun k hk =>
      ⟨⟨hk.1, Nat.lt_of_lt_of_le hk.2.1 h3.size, by
        rcases h5 with h | h
        · rw [h]; exact hk.2.2
        · rw [h]; intro h; have := Option.some.inj h; omega⟩, fun o => World.cell?_of_block (h3.block k hk.2.1 (fun e => hk.2.2 e.symm))⟩
    by_cases hjz : j < zs.length
    · obtain ⟨D, d, e1, e3⟩ := x3 j hjz (by omega)
      rw [List.getElem_append_left (by omega)]
      rw [List.getElem_append_left hjz]
      exact ⟨D, d, e1, keep D _ e3⟩
    · have hj2 : j - zs.length < ys.length := by simp at hj; omega
      obtain ⟨D, d, e1, e3⟩ := (hf (j - zs.length) hj2).2 hj2
      have q1 : (xs ++ (List.range ys.length).map f)[j]'hj' = f (j - zs.length) := by
        rw [List.getElem_append_right (by omega)]
        simp [x1]
      have q2 : (zs ++ ys)[j]'hj = ys[j - zs.length]'hj2 := List.getElem_append_right (by omega)
      rw [q1, q2]
      exact ⟨D, d, e1, keep D _ e3⟩

theorem wpList_append_rowsw {ops : Array Oper} {rest : List Oper} {o : Oper} {a : Act} {w : World} {Q : Exit → Act → World → Prop} (hgd : o.guard = none) (s x : Operand)
    (ho : o.op = .call { callee := .builtin .append, args := #[s, x], argTypes := #[29, 29] })
    (base c : Nat) (A : Option Addr) (zs : List (List Int)) (hown : OwnRowsW w base A c zs) (A2 : Option Addr) (c2 : Nat) (ys : List (List Int)) (hr : RowsW w (fun _ => True) (fun b => base ≤ b ∧ b < w.heap.size ∧ rowOf A ≠ some b) A2 ys)
    (hs : a.eval s = .slice A zs.length c) (hx : a.eval x = .slice A2 ys.length c2)
    (h63 : zs.length + ys.length ≤ 4398046511104) (hbase : base ≤ w.heap.size)
    (h : ∀ A' c' w' (zl : List (List Int)), Hid (zl = zs ++ ys) → OwnRowsW w' base A' c' zl → w.grownBy w' (rowOf A) → (rowOf A' = rowOf A ∨ rowOf A' = some w.heap.size) → wpList Tryd.prog ops Q rest (a.put o.dst (.slice A' zl.length c')) w') : wpList Tryd.prog ops Q (o :: rest) a w := by
  obtain ⟨A', c', w', hrun, h2, h3, h4⟩ := run_append_rowsw w base c A zs hown A2 c2 ys hr h63 hbase o.type
  refine wpList_plain hgd fun K hK => ?_
  unfold Oper.wp execOp
  simp only [ho, resolve, invoke, builtin, Sem.run_bind, Sem.run_pure, Result.andThen_ok, List.map_toArray, List.map_cons, List.map_nil, hs, hx, hrun]
  exact hK _ _ (h A' c' w' _ rfl h2 h3 h4)
theorem step_append_rowsw {ops : Array Oper} {o : Oper} {a : Act} {w : World} {K : Act → World → Prop} {Q : Exit → Act → World → Prop} {E : Prop} (hgd : o.guard = none) (s x : Operand)
    (ho : o.op = .call { callee := .builtin .append, args := #[s, x], argTypes := #[29, 29] })
    (base c : Nat) (A : Option Addr) (zs : List (List Int)) (hown : OwnRowsW w base A c zs) (A2 : Option Addr) (c2 : Nat) (ys : List (List Int)) (hr : RowsW w (fun _ => True) (fun b => base ≤ b ∧ b < w.heap.size ∧ rowOf A ≠ some b) A2 ys)
    (hs : a.eval s = .slice A zs.length c) (hx : a.eval x = .slice A2 ys.length c2)
    (h63 : zs.length + ys.length ≤ 4398046511104) (hbase : base ≤ w.heap.size)
    (h : ∀ A' c' w' (zl : List (List Int)), Hid (zl = zs ++ ys) → OwnRowsW w' base A' c' zl → w.grownBy w' (rowOf A) → (rowOf A' = rowOf A ∨ rowOf A' = some w.heap.size) → K (a.put o.dst (.slice A' zl.length c')) w') :
    if Region.wanted o (yielded ops a.tmps) = true then Oper.wp Tryd.prog o a w K Q else E := by
  have hw : Region.wanted o (yielded ops a.tmps) = true := by simp [Region.wanted, hgd]
  rw [if_pos hw]
  obtain ⟨A', c', w', hrun, h2, h3, h4⟩ := run_append_rowsw w base c A zs hown A2 c2 ys hr h63 hbase o.type
  unfold Oper.wp execOp
  simp only [ho, resolve, invoke, builtin, Sem.run_bind, Sem.run_pure, Result.andThen_ok, List.map_toArray, List.map_cons, List.map_nil, hs, hx, hrun]
  exact h A' c' w' _ rfl h2 h3 h4
/-- a row of one list, just made -/
theorem rowsw_one {w : World} {b : Nat} {D : Option Addr} {z : List Int} {d : Nat} {T : TypeId} {S : Nat → Prop} (h : w.heap[b]? = some (.cells #[.slice D z.length d] T (0, 0))) (ha : AtP w S D z) : RowsW w (fun _ => True) S (some ⟨b, 0, none⟩) [z] := fun _ =>
  ⟨b, 0, rfl, trivial, fun j hj => by
    obtain rfl : j = 0 := by simp at hj; exact hj
    exact ⟨D, d, by rw [Lib.cell_of_heap h]; rfl, ha⟩⟩
/-- a list of lists of the call's own, of one: just made -/
theorem ownrowsw_one {w : World} {base b : Nat} {D : Option Addr} {z : List Int} {d : Nat} (hb : base ≤ b) (h : w.heap[b]? = some (.cells #[.slice D z.length d] 25 (0, 0))) (ha : AtP w (fun k => base ≤ k ∧ k < w.heap.size ∧ k ≠ b) D z) : OwnRowsW w base (some ⟨b, 0, none⟩) 1 [z] :=
  ⟨[.slice D z.length d], rfl, ⟨rfl, .inr ⟨b, 1, #[.slice D z.length d], rfl, hb, h, Nat.le_refl _, by decide, rfl, rfl⟩⟩, fun j hj hj' => by
    obtain rfl : j = 0 := by simp at hj; exact hj
    exact ⟨D, d, rfl, ha.keep fun k hk => ⟨⟨hk.1, hk.2.1, fun e => hk.2.2 (Option.some.inj e).symm⟩, fun _ => rfl⟩⟩⟩
theorem RowsP.weak {w : World} {So Si : Nat → Prop} {A : Option Addr} {zs : List (List Int)} (h : RowsP w So Si A zs) : RowsW w So Si A zs := fun hp => by
  obtain ⟨b, off, e, hb, hc⟩ := h hp
  refine ⟨b, off, e, hb, fun j hj => ?_⟩
  obtain ⟨D, d, h1, _, h3⟩ := hc j hj
  exact ⟨D, d, h1, h3⟩
end Go.Proofs.YtplladlodgfloaaDoor.Ints

/- Contract of the document's own Shorter. Conditions: the sizes. -/
namespace Go.Proofs.YtplladlodgfloaaDoor.Ref
open Go.RowKit Lists Ints
set_option linter.unusedVariables false

/-! Shorter: it draws its order -/
set_option maxHeartbeats 1000000 in
theorem shorter_any (l m : List Int) (A B : Option Addr) (c d N : Nat) (hl : l.length ≤ maxLen) (hm : m.length ≤ maxLen) (w : World) (ha : At w N A l) (hb : At w N B m) :
    Calls Tryd.prog 24 #[.slice A l.length c, .slice B m.length d] w fun e w' => e = .returned (.bool (lessL l m)) ∧ ∃ n, w' = w.drewN n := by
  unfold maxLen at hl hm
  have HA := Lib.hid ha
  have HB := Lib.hid hb
  clear ha hb
  by_cases e : l.length = m.length
  · have ht : (((l.length : Nat) : Int) != ((m.length : Nat) : Int)) = false := by rw [bne_eq_false_iff_eq]; omega
    have hlm : l.length ≤ m.length := by omega
    have hml : m.length ≤ l.length := by omega
    have hv0 := Lib.hid (show lessL l m = decide (cmpL l m < 0) by unfold lessL; rw [if_pos e])
    clear e
    go_enter Tryd.func24, Tryd.ntmps24
    go_wp2
    go_loopw [5] (fun i wr => ∃ k n : Nat, k ≤ l.length ∧ i = .int .i64 k ∧ wr = w.drewN n ∧ Hid (cmpL (l.drop k) (m.drop k) = cmpL l m)) (fun i _ => l.length - (intOf i).toNat)
    case atStart => exact ⟨0, 0, Nat.zero_le _, rfl, rfl, rfl⟩
    case round =>
      obtain ⟨k, n, hk, rfl, rfl, hc⟩ := hrel
      by_cases h1 : k < l.length
      · have h2 : k < m.length := by omega
        obtain ⟨b, off, rfl, _, hcell⟩ := HA.out (by omega)
        have c1 := hcell k h1
        clear hcell
        obtain ⟨b2, off2, rfl, _, hcell2⟩ := HB.out (by omega)
        have c2 := hcell2 k h2
        clear hcell2
        have hs := Lib.hid (cmpL_step l m k h1 h2)
        generalize l.getD k 0 = x at c1 hs
        generalize m.getD k 0 = y at c2 hs
        have h1' : (k : Int) < l.length := by omega
        have h2' : (k : Int) < m.length := by omega
        rcases Int.lt_trichotomy x y with h | h | h
        · have hv := Lib.hid (show lessL l m = true by rw [hv0.out, ← hc.out, hs.out, if_pos h]; rfl)
          have ht3 : (x != y) = true := by rw [bne_iff_ne]; omega
          go_wp2
          go_quiet (fail)
          go_wp2
          go_quiet (fail)
          go_wp2
          go_ret
          refine ⟨ret_b hv.out.symm, ?_⟩
          simp only [World.drewN_drewN]
          exact ⟨_, rfl⟩
        · subst h
          have hv := Lib.hid (show cmpL (l.drop (k + 1)) (m.drop (k + 1)) = cmpL l m by rw [← hc.out, hs.out, if_neg (by omega), if_neg (by omega)])
          go_wp2
          go_quiet (fail)
          go_wp2
          go_roundw
          case rel => exact ⟨k + 1, _, by omega, by go_num, rfl, hv.out⟩
          case measure => simp [intOf]; omega
        · have hv := Lib.hid (show lessL l m = false by rw [hv0.out, ← hc.out, hs.out, if_neg (by omega), if_pos h]; rfl)
          have ht3 : (x != y) = true := by rw [bne_iff_ne]; omega
          have ht4 : ¬ x < y := by omega
          go_wp2
          go_quiet (fail)
          go_wp2
          go_quiet (fail)
          go_wp2
          go_ret
          refine ⟨by first | exact ret_b hv.out.symm | exact ret_b (by rw [hv.out]; simp; omega), ?_⟩
          simp only [World.drewN_drewN]
          exact ⟨_, rfl⟩
      · have hv := Lib.hid (show lessL l m = false by rw [hv0.out, ← hc.out, cmpL_done l m k (by omega) (by omega)]; rfl)
        go_wp2
        go_ret
        exact ⟨ret_b hv.out.symm, _, rfl⟩
  · have ht : (((l.length : Nat) : Int) != ((m.length : Nat) : Int)) = true := by rw [bne_iff_ne]; omega
    by_cases h : l.length < m.length
    · have hv := Lib.hid (show lessL l m = true by unfold lessL; rw [if_neg e, decide_eq_true h])
      clear e
      go_enter Tryd.func24, Tryd.ntmps24
      go_wp2
      go_ret
      exact ⟨ret_b hv.out.symm, 0, rfl⟩
    · have hv := Lib.hid (show lessL l m = false by unfold lessL; rw [if_neg e, decide_eq_false h])
      clear e
      go_enter Tryd.func24, Tryd.ntmps24
      go_wp2
      go_ret
      exact ⟨ret_b hv.out.symm, 0, rfl⟩

theorem shorter_below (l m : List Int) (A B : Option Addr) (c d N : Nat) (hl : l.length ≤ maxLen) (hm : m.length ≤ maxLen) (w : World) (ha : At w N A l) (hb : At w N B m) :
    Calls Tryd.prog 24 #[.slice A l.length c, .slice B m.length d] w fun e w' => e = .returned (.bool (lessL l m)) ∧ Below w.heap.size w w' := by
  refine (shorter_any l m A B c d N hl hm w ha hb).mono ?_
  rintro e w' ⟨rfl, n, rfl⟩
  refine ⟨rfl, ?_⟩
  induction n with
  | zero => exact Below.refl _ _
  | succ n ih => exact ⟨ih.os, ih.tape, ih.output, ih.size, ih.block⟩
end Go.Proofs.YtplladlodgfloaaDoor.Ref

/- Contracts: cmp.Compare, slices.Compare, tape.Less. Conditions: none but that the slices' cells are known. -/
namespace Go.Proofs.YtplladlodgfloaaDoor.Ints
open Go.RowKit Go.WideShapes Go.ChangeShapes Lists
set_option linter.unusedVariables false

/-! cmp.Compare -/
def cmpI (x y : Int) : Int := if x < y then -1 else if y < x then 1 else 0
theorem isNaN_any (x : Int) (w : World) : Calls Tryd.prog 60 #[.int .i64 x] w fun e w' => e = .returned (.bool false) ∧ w = w' := by
  go_enter Tryd.func60, Tryd.ntmps60
  go_wp2
  go_ret
  exact ⟨rfl, rfl⟩
theorem compare_any (x y : Int) (w : World) : Calls Tryd.prog 53 #[.int .i64 x, .int .i64 y] w fun e w' => e = .returned (.int .i64 (cmpI x y)) ∧ w = w' := by
  rcases Int.lt_trichotomy x y with h | h | h
  · have e : cmpI x y = -1 := by unfold cmpI; rw [if_pos h]
    rw [e]; clear e
    go_enter Tryd.func53, Tryd.ntmps53
    go_wp2_with (go_at_call 60; refine (isNaN_any _ _).mono ?_; rintro e w' ⟨rfl, rfl⟩)
    go_ret
    exact ⟨rfl, rfl⟩
  · subst h
    have e : cmpI x x = 0 := by unfold cmpI; simp
    rw [e]; clear e
    go_enter Tryd.func53, Tryd.ntmps53
    go_wp2_with (go_at_call 60; refine (isNaN_any _ _).mono ?_; rintro e w' ⟨rfl, rfl⟩)
    go_ret
    exact ⟨rfl, rfl⟩
  · have e : cmpI x y = 1 := by unfold cmpI; rw [if_neg (by omega), if_pos h]
    have h' : ¬ x < y := by omega
    rw [e]; clear e
    go_enter Tryd.func53, Tryd.ntmps53
    go_wp2_with (go_at_call 60; refine (isNaN_any _ _).mono ?_; rintro e w' ⟨rfl, rfl⟩)
    go_ret
    exact ⟨rfl, rfl⟩


/-! slices.Compare -/
theorem compares (l m : List Int) (A B : Option Addr) (c d N : Nat) (hl : l.length ≤ maxLen) (hm : m.length ≤ maxLen) (w : World) (ha : At w N A l) (hb : At w N B m) :
    Calls Tryd.prog 44 #[.slice A l.length c, .slice B m.length d] w fun e w' => e = .returned (.int .i64 (cmpL l m)) ∧ w = w' := by
  unfold maxLen at hl hm
  have HA := Lib.hid ha
  have HB := Lib.hid hb
  clear ha hb
  go_enter Tryd.func44, Tryd.ntmps44
  go_wp2
  go_loop [11] (fun i => ∃ k : Nat, k ≤ l.length ∧ k ≤ m.length ∧ i = .int .i64 k ∧ Hid (cmpL (l.drop k) (m.drop k) = cmpL l m)) (fun i => l.length - (intOf i).toNat)
  case atStart => exact ⟨0, Nat.zero_le _, Nat.zero_le _, rfl, rfl⟩
  case round =>
    obtain ⟨k, hk, hk2, rfl, hc⟩ := hrel
    by_cases h1 : k < l.length
    · obtain ⟨b, off, rfl, _, hcell⟩ := HA.out (by omega)
      have c1 := hcell k h1
      clear hcell
      by_cases h2 : k < m.length
      · obtain ⟨b2, off2, rfl, _, hcell2⟩ := HB.out (by omega)
        have c2 := hcell2 k h2
        clear hcell2
        have hs := Lib.hid (cmpL_step l m k h1 h2)
        generalize l.getD k 0 = x at c1 hs
        generalize m.getD k 0 = y at c2 hs
        rcases Int.lt_trichotomy x y with h | h | h
        · have e : cmpI x y = -1 := by unfold cmpI; rw [if_pos h]
          have hv : cmpL l m = -1 := by rw [← hc.out, hs.out, if_pos h]
          have hv := Lib.hid hv
          have cc := fun w => e ▸ compare_any x y w
          clear e
          go_wp2_with (go_at_call 53; refine (cc _).mono ?_; rintro e w' ⟨rfl, rfl⟩)
          go_ret
          exact ⟨ret_int hv.out.symm, rfl⟩
        · subst h
          have e : cmpI x x = 0 := by unfold cmpI; simp
          have hv : cmpL (l.drop (k + 1)) (m.drop (k + 1)) = cmpL l m := by rw [← hc.out, hs.out, if_neg (by omega), if_neg (by omega)]
          have hv := Lib.hid hv
          have cc := fun w => e ▸ compare_any x x w
          clear e
          go_wp2_with (go_at_call 53; refine (cc _).mono ?_; rintro e w' ⟨rfl, rfl⟩)
          go_round
          case rel => exact ⟨k + 1, by omega, by omega, by go_num, hv.out⟩
          case measure => simp [intOf]; omega
        · have e : cmpI x y = 1 := by unfold cmpI; rw [if_neg (by omega), if_pos h]
          have hv : cmpL l m = 1 := by rw [← hc.out, hs.out, if_neg (by omega), if_pos h]
          have hv := Lib.hid hv
          have cc := fun w => e ▸ compare_any x y w
          clear e
          go_wp2_with (go_at_call 53; refine (cc _).mono ?_; rintro e w' ⟨rfl, rfl⟩)
          go_ret
          exact ⟨ret_int hv.out.symm, rfl⟩
      · have hv := Lib.hid (show cmpL l m = 1 by rw [← hc.out, cmpL_out l m k h1 (by omega)])
        have h2' : m.length ≤ k := by omega
        go_wp2
        go_ret
        exact ⟨ret_int hv.out.symm, rfl⟩
    · by_cases h2 : k < m.length
      · have hv := Lib.hid (show cmpL l m = -1 by rw [← hc.out, cmpL_less l m k (by omega) h2])
        have h3 : l.length < m.length := by omega
        go_wp2
        go_ret
        exact ⟨ret_int hv.out.symm, rfl⟩
      · have hv := Lib.hid (show cmpL l m = 0 by rw [← hc.out, cmpL_done l m k (by omega) (by omega)])
        have h3 : ¬ l.length < m.length := by omega
        go_wp2
        go_ret
        exact ⟨ret_int hv.out.symm, rfl⟩

/-! tape.Less -/
theorem less_any (l m : List Int) (A B : Option Addr) (c d N : Nat) (hl : l.length ≤ maxLen) (hm : m.length ≤ maxLen) (w : World) (ha : At w N A l) (hb : At w N B m) :
    Calls Tryd.prog 33 #[.slice A l.length c, .slice B m.length d] w fun e w' => e = .returned (.bool (lessL l m)) ∧ w = w' := by
  have HA := Lib.hid ha
  have HB := Lib.hid hb
  have HL := Lib.hid hl
  have HM := Lib.hid hm
  clear ha hb hl hm
  by_cases e : l.length = m.length
  · have hv0 := Lib.hid (show lessL l m = decide (cmpL l m < 0) by unfold lessL; rw [if_pos e])
    have cc := fun w' ha hb => compares l m A B c d N HL.out HM.out w' ha hb
    generalize cmpL l m = x at hv0 cc
    have ht : (((l.length : Nat) : Int) != ((m.length : Nat) : Int)) = false := by rw [bne_eq_false_iff_eq]; omega
    have E := Lib.hid e
    clear e
    by_cases hx : x < 0
    · have hv := Lib.hid (show lessL l m = true by rw [hv0.out, decide_eq_true hx])
      go_enter Tryd.func33, Tryd.ntmps33
      go_wp2_with (go_at_call 44; refine (cc _ HA.out HB.out).mono ?_; rintro e w' ⟨rfl, rfl⟩)
      go_ret
      exact ⟨ret_b hv.out.symm, rfl⟩
    · go_enter Tryd.func33, Tryd.ntmps33
      go_wp2_with (go_at_call 44; refine (cc _ HA.out HB.out).mono ?_; rintro e w' ⟨rfl, rfl⟩)
      go_ret
      exact ⟨ret_b hv0.out.symm, rfl⟩
  · have ht : (((l.length : Nat) : Int) != ((m.length : Nat) : Int)) = true := by rw [bne_iff_ne]; omega
    by_cases h : l.length < m.length
    · have hv := Lib.hid (show lessL l m = true by unfold lessL; rw [if_neg e, decide_eq_true h])
      clear e
      go_enter Tryd.func33, Tryd.ntmps33
      go_wp2
      go_ret
      exact ⟨ret_b hv.out.symm, rfl⟩
    · have hv := Lib.hid (show lessL l m = false by unfold lessL; rw [if_neg e, decide_eq_false h])
      clear e
      go_enter Tryd.func33, Tryd.ntmps33
      go_wp2
      go_ret
      exact ⟨ret_b hv.out.symm, rfl⟩


/-! what the statements of tapes ask first -/
theorem fact_any (b b2 : Nat) (w : World) (h0 : w.cell? ⟨b, 0, none⟩ = some (.int .i64 5)) (h1 : w.cell? ⟨b2, 0, none⟩ = some (.int .i64 1)) (h2 : w.cell? ⟨b2, 1, none⟩ = some (.int .i64 1)) :
    Calls Tryd.prog 33 #[.slice (some ⟨b, 0, none⟩) 1 1, .slice (some ⟨b2, 0, none⟩) 2 2] w fun e w' => e = .returned (.bool true) ∧ w = w' :=
  less_any [5] [1, 1] (some ⟨b, 0, none⟩) (some ⟨b2, 0, none⟩) 1 2 (b + b2 + 1) (by simp [maxLen]) (by simp [maxLen]) w
    (fun _ => ⟨b, 0, rfl, by omega, fun j hj => by
      obtain rfl : j = 0 := by simpa using hj
      exact h0⟩)
    (fun _ => ⟨b2, 0, rfl, by omega, fun j hj => by
      have hj : j < 2 := hj
      obtain rfl | rfl : j = 0 ∨ j = 1 := by omega
      · exact h1
      · exact h2⟩)

theorem fact_below (b b2 : Nat) (w : World) (h0 : w.cell? ⟨b, 0, none⟩ = some (.int .i64 5)) (h1 : w.cell? ⟨b2, 0, none⟩ = some (.int .i64 1)) (h2 : w.cell? ⟨b2, 1, none⟩ = some (.int .i64 1)) :
    Calls Tryd.prog 33 #[.slice (some ⟨b, 0, none⟩) 1 1, .slice (some ⟨b2, 0, none⟩) 2 2] w fun e w' => e = .returned (.bool true) ∧ Below w.heap.size w w' :=
  (fact_any b b2 w h0 h1 h2).mono fun _ _ ⟨h, h'⟩ => ⟨h, h' ▸ Below.refl _ _⟩
end Go.Proofs.YtplladlodgfloaaDoor.Ints

/- The program's candidates: what is noted of one that is tried. Conditions: the sizes. -/
namespace Go.Proofs.YtplladlodgfloaaDoor.Gens
open Go.RowKit Lists Ints Vals
set_option linter.unusedVariables false

/-- the box of a slice of lists -/
def RB (p : Nat) (A : Option Addr) (n c : Nat) (w : World) : Prop := w.heap[p]? = some (.cells #[.slice A n c] 29 (0, 0))
theorem RB.cell {p n c : Nat} {A : Option Addr} {w : World} (h : RB p A n c w) : w.cell? ⟨p, 0, none⟩ = some (.slice A n c) := by rw [Lib.cell_of_heap h]; rfl
theorem RB.free {p n c : Nat} {A : Option Addr} {w : World} (h : RB p A n c w) : w.frozen? ⟨p, 0, none⟩ = false := Lib.frozen_of_heap h 0
theorem RB.lt {p n c : Nat} {A : Option Addr} {w : World} (h : RB p A n c w) : p < w.heap.size := (Array.getElem?_eq_some_iff.1 h).1
theorem RB.put {p n c : Nat} {A : Option Addr} {w : World} (h : RB p A n c w) (A' : Option Addr) (n' c' : Nat) : RB p A' n' c' (w.setCell ⟨p, 0, none⟩ (.slice A' n' c')) := by
  unfold RB at h ⊢
  simp [World.setCell, Array.getElem?_modify, h]
theorem ownrows_set {w : World} {base c : Nat} {A : Option Addr} {zs : List (List Int)} (h : OwnRows w base A c zs) {p : Addr} (hp : p.block < base) (v : Value) : OwnRows (w.setCell p v) base A c zs := by
  obtain ⟨xs, h1, h2, h3⟩ := h
  refine ⟨xs, h1, ⟨h2.1, ?_⟩, fun j hj hj' => ?_⟩
  · rcases h2.2 with h0 | ⟨g, cap, cur, he, hg, hh, h4⟩
    · exact .inl h0
    · exact .inr ⟨g, cap, cur, he, hg, (Below.heap_setCell w p v g (by omega)).trans hh, h4⟩
  · obtain ⟨D, d, e, hd, ha⟩ := h3 j hj hj'
    exact ⟨D, d, e, hd, ha.keep fun k hk => ⟨⟨hk.1, by simpa [World.setCell] using hk.2.1, hk.2.2⟩, fun o => World.cell?_of_block (Below.heap_setCell w p v k (by have := hk.1; omega))⟩⟩
theorem own_rowB {w : World} {base c : Nat} {A : Option Addr} {z : List Int} (h : Own w base A c z) : AtP w (fun b => base ≤ b ∧ b < w.heap.size) A z := fun hp => by
  obtain ⟨b, off, e, hb, hc⟩ := h.at_ hp
  exact ⟨b, off, e, ⟨h.ge b (by rw [e]; rfl), hb⟩, hc⟩
/-- the state of candidates, of a call whose memory begins at B: the boxes of the generator, of the tape, of what is noted -/
structure CSt (w0 : World) (t : Gn) (GA : Option Addr) (gcap : Nat) (L : Option Addr) (ln lc : Nat) (z : List (List Int)) (A : Option Addr) (c : Nat) (w : World) : Prop where
  bel : Below w0.heap.size w0 w
  g : G4 w0.heap.size (.int .i64 t.kind) (.int .i64 t.a) (.int .i64 t.b) (.slice GA t.subs.length gcap) w
  l : LB (w0.heap.size + 1) L ln lc w
  r : RB (w0.heap.size + 1 + 1) A z.length c w
  own : OwnRows w (w0.heap.size + 1 + 1 + 1) A c z
theorem CSt.later {w0 : World} {t : Gn} {GA : Option Addr} {gcap : Nat} {L : Option Addr} {ln lc : Nat} {z : List (List Int)} {A : Option Addr} {c : Nat} {w w' : World} (h : CSt w0 t GA gcap L ln lc z A c w) (hb : Below w.heap.size w w') : CSt w0 t GA gcap L ln lc z A c w' :=
  ⟨below_trans h.bel hb, h.g.below hb, (hb.block _ h.l.lt).trans h.l, (hb.block _ h.r.lt).trans h.r, h.own.below hb⟩
/-- the rows have grown, and are stored -/
theorem CSt.put {w0 : World} {t : Gn} {GA : Option Addr} {gcap : Nat} {L : Option Addr} {ln lc : Nat} {z z' : List (List Int)} {A A' : Option Addr} {c c' : Nat} {w w5 : World} (h : CSt w0 t GA gcap L ln lc z A c w) (g5 : w.grownBy w5 (rowOf A)) (own5 : OwnRows w5 (w0.heap.size + 1 + 1 + 1) A' c' z') :
    RB (w0.heap.size + 1 + 1) A z.length c w5 ∧ CSt w0 t GA gcap L ln lc z' A' c' (w5.setCell ⟨w0.heap.size + 1 + 1, 0, none⟩ (.slice A' z'.length c')) := by
  have hr : ∀ g, rowOf A = some g → w0.heap.size + 1 + 1 + 1 ≤ g := fun g hg => (h.own.ge g hg).1
  have blk : ∀ b, b < w0.heap.size + 1 + 1 + 1 → b < w.heap.size → w5.heap[b]? = w.heap[b]? := fun b hb hw => g5.block b hw (fun e => by have := hr b e.symm; omega)
  have r5 : RB (w0.heap.size + 1 + 1) A z.length c w5 := (blk _ (by omega) h.r.lt).trans h.r
  refine ⟨r5, ?_, ?_, ?_, r5.put _ _ _, ?_⟩
  · exact Below.setCell (p := ⟨w0.heap.size + 1 + 1, 0, none⟩) (h.bel.grown g5 h.bel.size (fun k hk => by have := hr k hk; omega)) (by show w0.heap.size ≤ w0.heap.size + 1 + 1; omega) _
  · exact (Below.heap_setCell _ ⟨w0.heap.size + 1 + 1, 0, none⟩ _ _ (by show w0.heap.size ≠ w0.heap.size + 1 + 1; omega)).trans ((blk _ (by omega) h.g.lt).trans h.g)
  · exact (Below.heap_setCell _ ⟨w0.heap.size + 1 + 1, 0, none⟩ _ _ (by show w0.heap.size + 1 ≠ w0.heap.size + 1 + 1; omega)).trans ((blk _ (by omega) h.l.lt).trans h.l)
  · exact ownrows_set own5 (p := ⟨w0.heap.size + 1 + 1, 0, none⟩) (by show w0.heap.size + 1 + 1 < w0.heap.size + 1 + 1 + 1; omega) _
/-- what is noted of one that is tried -/
def AddPost (w0 : World) (t : Gn) (GA : Option Addr) (gcap : Nat) (L : Option Addr) (l : List Int) (lc : Nat) (z : List (List Int)) (x : List Int) (e : Ending) (w' : World) : Prop :=
  ∃ (A' : Option Addr) (c' : Nat) (z' : List (List Int)), e = .returned (.tuple #[]) ∧ Hid (z' = z ++ keptL t l x) ∧ CSt w0 t GA gcap L l.length lc z' A' c' w'

set_option maxHeartbeats 2000000 in
set_option maxRecDepth 100000 in
theorem add_ok {w0 : World} {t : Gn} {GA : Option Addr} {gcap : Nat} {L : Option Addr} {lc : Nat} {z : List (List Int)} {A : Option Addr} {c n : Nat} {l x : List Int} {X : Option Addr} {xc : Nat} (w : World) (h : CSt w0 t GA gcap L l.length lc z A c w)
    (hg : GAt w0 (GBel w0.heap.size) n (gv t GA gcap) t) (h0 : genV t = 0) (hl : At w0 w0.heap.size L l) (hln : l.length ≤ 4294967296) (hx : At w w.heap.size X x) (hxc : x.length ≤ xc) (hxl : x.length ≤ 4294967296) (hz : z.length ≤ 1099511627776) :
    Calls Tryd.prog 31 #[.slice X x.length xc, .pointer (some ⟨w0.heap.size, 0, none⟩), .pointer (some ⟨w0.heap.size + 1, 0, none⟩), .pointer (some ⟨w0.heap.size + 1 + 1, 0, none⟩)] w (AddPost w0 t GA gcap L l lc z x) := by
  have hs : t.size ≤ 4294967296 := by have := small30 h0; omega
  have M := mend_prog w ((hg.below h.bel).more h.bel.size) hx hxc hxl hs
  rw [h0, errOf_ok] at M
  have M := Lib.hid M
  have K := Lib.hid (show keptL t l x = if lessL (mendL t x) l = true then [mendL t x] else [] from rfl)
  have ML := Lib.hid (show (mendL t x).length ≤ 1399680 from (mend_run x h0).choose_spec.choose_spec.2)
  have H := Lib.hid h
  have HW := Lib.hid (show (∀ g, rowOf A = some g → g < w.heap.size) ∧ w0.heap.size + 1 + 1 + 1 ≤ w.heap.size from ⟨fun g hg => (h.own.ge g hg).2, by have := h.r.lt; omega⟩)
  have HL := Lib.hid hl
  have HN := Lib.hid hln
  have HZ := Lib.hid hz
  obtain ⟨k0, k1, k2, k3⟩ := h.g.facts
  clear h hg h0 hl hln hx hxc hxl hz hs
  generalize mendL t x = m at *
  go_enter Tryd.func31, Tryd.ntmps31
  go_wp2_with fail
  ((with_reducible refine M.out.mono ?_))
  rintro e w1 ⟨A1, c1, rfl, own1, hb1⟩
  have H1 := Lib.hid (H.out.later hb1)
  have O1 := Lib.hid own1
  clear own1 hb1 M k0 k1 k2 k3 H
  have f0 := H1.out.l.cell
  have LS := Lib.hid (less_any m l A1 L c1 lc w1.heap.size (by have := ML.out; simp only [maxLen]; omega) (by have := HN.out; simp only [maxLen]; omega) w1 O1.out.at_ ((HL.out.below H1.out.bel).more H1.out.bel.size))
  go_wp2_with fail
  ((with_reducible refine LS.out.mono ?_))
  rintro e w2 ⟨rfl, rfl⟩
  clear f0 LS
  have f1 := H1.out.r.cell
  have f2 := H1.out.r.free
  generalize lessL m l = q at *
  cases q
  · rw [if_neg (by decide)] at K
    go_wp2_with fail
    go_end0
    exact ⟨A, c, z, rfl, Lib.hid (by rw [K.out, List.append_nil]), H1.out⟩
  · rw [if_pos rfl] at K
    have NB := Lib.hid (bel1 w1 (.cells #[.slice A1 m.length c1] 25))
    have NH := Lib.hid (heap_new2 w1 (.cells #[.slice A1 m.length c1] 25))
    have NR := Lib.hid (H1.out.later NB.out)
    have RO := Lib.hid (show RowsP (w1.alloc (.cells #[.slice A1 m.length c1] 25)) (fun _ => True) (fun b => w0.heap.size + 1 + 1 + 1 ≤ b ∧ b < (w1.alloc (.cells #[.slice A1 m.length c1] 25)).heap.size ∧ rowOf A ≠ some b) (some ⟨w1.heap.size, 0, none⟩) [m] from
      rows_one (d := c1) NH.out O1.out.cap_ ((own_rowB O1.out).keep fun k hk => ⟨⟨by have := HW.out.2; have := hk.1; omega, by have := hk.2; simp; omega, fun e => by have := HW.out.1 k e; have := hk.1; omega⟩, fun o => World.cell?_alloc_lt _ _ ⟨k, o, none⟩ hk.2⟩))
    have BS := Lib.hid (show w0.heap.size + 1 + 1 + 1 ≤ (w1.alloc (.cells #[.slice A1 m.length c1] 25)).heap.size by have := H1.out.r.lt; simp; omega)
    have ZS := Lib.hid (show z.length + [m].length ≤ 4398046511104 by have := HZ.out; simp; omega)
    go_wp2_with (at_builtin; refine wpList_append_rows rfl (.tmp 16) (.tmp 18) rfl (w0.heap.size + 1 + 1 + 1) c A z NR.out.own (some ⟨w1.heap.size, 0, none⟩) 1 [m] RO.out rfl rfl ZS.out BS.out ?_; intro A5 c5 w5 z5 hz5 own5 g5 r5; have PT := NR.out.put g5 own5; have q0 := PT.1.cell; have q1 := PT.1.free; have PT := Lib.hid PT.2; clear own5 g5 r5)
    go_end0
    exact ⟨A5, c5, z5, rfl, Lib.hid (by rw [hz5.out, K.out]), PT.out⟩
end Go.Proofs.YtplladlodgfloaaDoor.Gens

/- The program's candidates. Conditions: the sizes. -/
namespace Go.Proofs.YtplladlodgfloaaDoor.Gens
open Go.RowKit Lists Ints Vals
set_option linter.unusedVariables false

/-- lists of lists handed back -/
def RsPost (z : List (List Int)) (w : World) (e : Ending) (w' : World) : Prop := ∃ (A : Option Addr) (c : Nat), e = .returned (.slice A z.length c) ∧ OwnRows w' w.heap.size A c z ∧ Below w.heap.size w w'
theorem set_len_le (l : List Int) (i : Nat) (x : Int) {n : Nat} (h : l.length ≤ n) : (l.set i x).length ≤ n := by simpa using h
theorem cst_start (w : World) (t : Gn) (GA : Option Addr) (gcap : Nat) (L : Option Addr) (ln lc : Nat) : CSt w t GA gcap L ln lc [] none 0 (((w.alloc (gc t GA gcap)).alloc (.cells #[.slice L ln lc] 25)).alloc (.cells #[.slice none 0 0] 29)) := by
  have z1 : (w.alloc (gc t GA gcap)).heap.size = w.heap.size + 1 := by simp
  have z2 : ((w.alloc (gc t GA gcap)).alloc (.cells #[.slice L ln lc] 25)).heap.size = w.heap.size + 1 + 1 := by simp
  have n1 := new_obj w (gc t GA gcap)
  have n2 := new_obj (w.alloc (gc t GA gcap)) (.cells #[.slice L ln lc] 25)
  have n3 := new_obj ((w.alloc (gc t GA gcap)).alloc (.cells #[.slice L ln lc] 25)) (.cells #[.slice none 0 0] 29)
  rw [z1] at n2
  rw [z2] at n3
  refine ⟨(((Below.refl _ _).alloc (Nat.le_refl _) _).alloc (by omega) _).alloc (by omega) _, ?_, ?_, n3, OwnRows.zero⟩
  · exact (Below.heap_alloc _ _ _ (by omega)).trans ((Below.heap_alloc _ _ _ (by omega)).trans n1)
  · exact (Below.heap_alloc _ _ _ (by omega)).trans n2

set_option maxHeartbeats 4000000 in
set_option maxRecDepth 100000 in
theorem cand_ok {t : Gn} {GA : Option Addr} {gcap n : Nat} {L : Option Addr} {l : List Int} {lc : Nat} (w : World) (hg : GAt w (GBel w.heap.size) n (gv t GA gcap) t) (h0 : genV t = 0) (hl : At w w.heap.size L l) (hcap : l.length ≤ lc) (hln : l.length ≤ 1399680) (hv : ∀ x ∈ l, 0 ≤ x ∧ x ≤ 1000) :
    Calls Tryd.prog 25 #[gv t GA gcap, .slice L l.length lc] w (RsPost (roseL t l) w) := by
  have hln2 : l.length ≤ 4294967296 := by omega
  have S0 := Lib.hid (cst_start w t GA gcap L l.length lc)
  have AD := Lib.hid (fun (z : List (List Int)) (A : Option Addr) (c : Nat) (x : List Int) (X : Option Addr) (xc xl : Nat) (e : x.length = xl) (W : World) (h : CSt w t GA gcap L l.length lc z A c W) (hx : At W W.heap.size X x) (hxc : x.length ≤ xc) (hxl : x.length ≤ 4294967296) (hz : z.length ≤ 1099511627776) => show Calls Tryd.prog 31 #[.slice X xl xc, .pointer (some ⟨w.heap.size, 0, none⟩), .pointer (some ⟨w.heap.size + 1, 0, none⟩), .pointer (some ⟨w.heap.size + 1 + 1, 0, none⟩)] W (AddPost w t GA gcap L l lc z x) by subst e; exact add_ok (n := n) (x := x) (X := X) (xc := xc) W h hg h0 hl hln2 hx hxc hxl hz)
  have WI := Lib.hid (fun (W : World) (hb : Below w.heap.size w W) => with_ok (lc := lc) (N := w.heap.size) W (hl.below hb) hb.size hln2)
  have WO := Lib.hid (fun (W : World) (hb : Below w.heap.size w W) => without_ok (lc := lc) (N := w.heap.size) W (hl.below hb) hb.size hcap hln2)
  have HV := Lib.hid (fun i (hi : i < l.length) => show 0 ≤ l.getD i 0 ∧ l.getD i 0 ≤ 1000 by simp only [List.getD, List.getElem?_eq_getElem hi, Option.getD_some]; exact hv _ (List.getElem_mem hi))
  have ZL := Lib.hid (fun k => lessTo_len t l k)
  have HL := Lib.hid hl
  clear hg hl h0 hv hln2
  go_enter Tryd.func25, Tryd.ntmps25
  have f0 := S0.out.l.cell
  go_wp2_with fail
  go_loopw [12] (fun i wr => ∃ (j : Nat) (A : Option Addr) (c : Nat) (z : List (List Int)), j ≤ l.length ∧ i = .int .i64 j ∧ Hid (z = lessTo t l j) ∧ Hid (CSt w t GA gcap L l.length lc z A c wr)) (fun i _ => l.length - (intOf i).toNat)
  case atStart => exact ⟨0, none, 0, [], Nat.zero_le _, rfl, rfl, S0.out⟩
  case round =>
    clear f0 S0
    obtain ⟨j, A, c, z, hj, rfl, hz, hS⟩ := hrel
    by_cases hlt : j < l.length
    · obtain ⟨lb, lo, rfl, hlb, hlc⟩ := HL.out (by omega)
      have e0 := (hS.out.bel.cell (p := ⟨lb, lo + j, none⟩) hlb).trans (hlc j hlt)
      have f0 := hS.out.l.cell
      have ZB := Lib.hid (show z.length ≤ 5598720 by rw [hz.out]; have := ZL.out j; omega)
      clear hlc hlb
      obtain ⟨v0, v1⟩ := HV.out j hlt
      have hln2 : l.length ≤ 4294967296 := by omega
      by_cases hp : 0 < l.getD j 0
      · have LA := Lib.hid (lessAt_four t l j hp)
        have LS := Lib.hid (lessTo_succ t l j)
        generalize hvv : l.getD j 0 = v at *
        clear hvv
        have C1 := Lib.hid (WI.out wr hS.out.bel j hlt (0))
        go_wp2_with fail
        ((with_reducible refine C1.out.mono ?_))
        rintro e u1 ⟨X1, d1, rfl, own1, hb1⟩
        have T1 := Lib.hid (hS.out.later hb1)
        have D1 := Lib.hid (AD.out z A c (l.set j 0) X1 d1 _ (List.length_set) u1 T1.out own1.at_ own1.cap_ (set_len_le l j _ hln2) (by have := ZB.out; omega))
        clear own1 hb1 C1 f0 hS
        go_wp2_with fail
        ((with_reducible refine D1.out.mono ?_))
        rintro e y1 ⟨A1, c1, z1, rfl, hz1, hS1⟩
        have S1 := Lib.hid hS1
        have ZB1 := Lib.hid (show z1.length ≤ 5598720 + 1 by rw [hz1.out, List.length_append]; have := ZB.out; have := kept_len t l (l.set j 0); omega)
        clear hS1 D1 T1
        have f1 := S1.out.l.cell
        have C2 := Lib.hid (WI.out y1 S1.out.bel j hlt (v / 2))
        go_wp2_with fail
        ((with_reducible refine C2.out.mono ?_))
        rintro e u2 ⟨X2, d2, rfl, own2, hb2⟩
        have T2 := Lib.hid (S1.out.later hb2)
        have D2 := Lib.hid (AD.out z1 A1 c1 (l.set j (v / 2)) X2 d2 _ (List.length_set) u2 T2.out own2.at_ own2.cap_ (set_len_le l j _ hln2) (by have := ZB1.out; omega))
        clear own2 hb2 C2 f1 S1
        go_wp2_with fail
        ((with_reducible refine D2.out.mono ?_))
        rintro e y2 ⟨A2, c2, z2, rfl, hz2, hS2⟩
        have S2 := Lib.hid hS2
        have ZB2 := Lib.hid (show z2.length ≤ 5598720 + 2 by rw [hz2.out, List.length_append]; have := ZB1.out; have := kept_len t l (l.set j (v / 2)); omega)
        clear hS2 D2 T2
        have f2 := S2.out.l.cell
        have C3 := Lib.hid (WI.out y2 S2.out.bel j hlt (v - 1))
        go_wp2_with fail
        ((with_reducible refine C3.out.mono ?_))
        rintro e u3 ⟨X3, d3, rfl, own3, hb3⟩
        have T3 := Lib.hid (S2.out.later hb3)
        have D3 := Lib.hid (AD.out z2 A2 c2 (l.set j (v - 1)) X3 d3 _ (List.length_set) u3 T3.out own3.at_ own3.cap_ (set_len_le l j _ hln2) (by have := ZB2.out; omega))
        clear own3 hb3 C3 f2 S2
        go_wp2_with fail
        ((with_reducible refine D3.out.mono ?_))
        rintro e y3 ⟨A3, c3, z3, rfl, hz3, hS3⟩
        have S3 := Lib.hid hS3
        have ZB3 := Lib.hid (show z3.length ≤ 5598720 + 3 by rw [hz3.out, List.length_append]; have := ZB2.out; have := kept_len t l (l.set j (v - 1)); omega)
        clear hS3 D3 T3
        have f3 := S3.out.l.cell
        have C4 := Lib.hid (WO.out y3 S3.out.bel j hlt)
        go_wp2_with fail
        ((with_reducible refine C4.out.mono ?_))
        rintro e u4 ⟨X4, d4, rfl, own4, hb4⟩
        have T4 := Lib.hid (S3.out.later hb4)
        have D4 := Lib.hid (AD.out z3 A3 c3 (lackL l j) X4 d4 _ rfl u4 T4.out own4.at_ own4.cap_ (Nat.le_trans (lack_len l j) hln2) (by have := ZB3.out; omega))
        clear own4 hb4 C4 f3 S3
        go_wp2_with fail
        ((with_reducible refine D4.out.mono ?_))
        rintro e y4 ⟨A4, c4, z4, rfl, hz4, hS4⟩
        have S4 := Lib.hid hS4
        have ZB4 := Lib.hid (show z4.length ≤ 5598720 + 4 by rw [hz4.out, List.length_append]; have := ZB3.out; have := kept_len t l (lackL l j); omega)
        clear hS4 D4 T4
        have f4 := S4.out.l.cell
        have EZ := Lib.hid (show z4 = lessTo t l (j + 1) by rw [hz4.out, hz3.out, hz2.out, hz1.out, hz.out, LS.out, LA.out]; simp only [List.append_assoc])
        clear f4
        go_wp2_with fail
        go_roundw
        case rel => exact ⟨j + 1, A4, c4, z4, by omega, by go_num, EZ.out, S4.out⟩
        case measure => simp [intOf]; omega
      · have LA := Lib.hid (lessAt_one t l j hp)
        have LS := Lib.hid (lessTo_succ t l j)
        generalize hvv : l.getD j 0 = v at *
        clear hvv
        have C1 := Lib.hid (WO.out wr hS.out.bel j hlt)
        go_wp2_with fail
        ((with_reducible refine C1.out.mono ?_))
        rintro e u1 ⟨X1, d1, rfl, own1, hb1⟩
        have T1 := Lib.hid (hS.out.later hb1)
        have D1 := Lib.hid (AD.out z A c (lackL l j) X1 d1 _ rfl u1 T1.out own1.at_ own1.cap_ (Nat.le_trans (lack_len l j) hln2) (by have := ZB.out; omega))
        clear own1 hb1 C1 f0 hS
        go_wp2_with fail
        ((with_reducible refine D1.out.mono ?_))
        rintro e y1 ⟨A1, c1, z1, rfl, hz1, hS1⟩
        have S1 := Lib.hid hS1
        have ZB1 := Lib.hid (show z1.length ≤ 5598720 + 1 by rw [hz1.out, List.length_append]; have := ZB.out; have := kept_len t l (lackL l j); omega)
        clear hS1 D1 T1
        have f1 := S1.out.l.cell
        have EZ := Lib.hid (show z1 = lessTo t l (j + 1) by rw [hz1.out, hz.out, LS.out, LA.out])
        clear f1
        go_wp2_with fail
        go_roundw
        case rel => exact ⟨j + 1, A1, c1, z1, by omega, by go_num, EZ.out, S1.out⟩
        case measure => simp [intOf]; omega
    · have EV := Lib.hid (show z = roseL t l by rw [hz.out, show j = l.length by omega]; rfl)
      have f0 := hS.out.r.cell
      go_wp2_with fail
      go_ret
      exact ⟨A, c, (by rw [← EV.out]; rfl), (by rw [← EV.out]; exact hS.out.own.less (by omega)), hS.out.bel⟩
end Go.Proofs.YtplladlodgfloaaDoor.Gens

/- The program's Replay: its closure as a source of choices, that may panic. Conditions: the size of the list. -/
namespace Go.Proofs.YtplladlodgfloaaDoor.Gens
open Go.RowKit Lists Ints Vals
set_option linter.unusedVariables false

set_option maxHeartbeats 1000000 in
set_option maxRecDepth 100000 in
theorem src_read (B p : Nat) : Src readC 40 #[.pointer (some ⟨p, 0, none⟩)] B (IL B p) := by
  refine ⟨fun s X w w' h hk hs => h.keep hk hs, fun s X w h => h.lt, read_bounded, fun args w => ?_, fun s X w m h0 h1 hI _ => ?_⟩
  · rfl
  · have HI := Lib.hid hI
    obtain ⟨hX, hBp, hsl, hBw, A, c, hbox, hat, hcap⟩ := hI
    have f0 := hbox.cell
    have f1 := hbox.free
    have HX := Lib.hid hX
    have HAT := Lib.hid hat
    have HBX := Lib.hid hbox
    have hp := hbox.lt
    clear hat hbox hX
    show Calls Tryd.prog 40 #[.int .i64 m, .pointer (some ⟨p, 0, none⟩)] w _
    cases s with
    | nil =>
      simp only [List.length_nil] at f0 hcap hsl
      go_enter Tryd.func40, Tryd.ntmps40
      go_wp2_with fail
      exact ⟨rfl, rfl, X, Mv.refl X w⟩
    | cons x r =>
      obtain ⟨b, off, rfl, hb, hc⟩ := HAT.out (by simp)
      have c0 : w.cell? ⟨b, off, none⟩ = some (.int .i64 x) := hc 0 (by simp)
      clear hc
      have g0 : (((r.length : Int) + 1) == 0) = false := by rw [beq_eq_false_iff_ne]; omega
      simp only [List.length_cons] at f0 hcap hsl
      by_cases hx0 : x < 0
      · have HR := Lib.hid (show readC (x :: r) m = .error 1 by unfold readC; simp only []; rw [if_neg (by omega)])
        have g1 : decide (x < 0) = true := by rw [decide_eq_true_eq]; exact hx0
        go_enter Tryd.func40, Tryd.ntmps40
        go_wp2_with fail
        refine ⟨rfl, ?_⟩
        show SPost _ (readC (x :: r) m) _ _ _ _
        rw [HR.out]
        exact ⟨rfl, X, Mv.refl X w⟩
      · have g1 : decide (x < 0) = false := by rw [decide_eq_false_iff_not]; exact hx0
        by_cases hxm : m < x
        · have HR := Lib.hid (show readC (x :: r) m = .error 1 by unfold readC; simp only []; rw [if_neg (by omega)])
          have g2 : decide (m < x) = true := by rw [decide_eq_true_eq]; exact hxm
          go_enter Tryd.func40, Tryd.ntmps40
          go_wp2_with fail
          refine ⟨rfl, ?_⟩
          show SPost _ (readC (x :: r) m) _ _ _ _
          rw [HR.out]
          exact ⟨rfl, X, Mv.refl X w⟩
        · have g2 : decide (m < x) = false := by rw [decide_eq_false_iff_not]; exact hxm
          have HR := Lib.hid (show readC (x :: r) m = .ok (x, r) by unfold readC; simp only []; rw [if_pos (by omega)])
          by_cases hc1 : c = 1
          · obtain rfl : r = [] := List.eq_nil_of_length_eq_zero (by omega)
            have ST := Lib.hid (IL.step (A' := some ⟨b, off, none⟩) (c' := 0) HX.out hBp hsl hBw HBX.out (r := []) At.nil (by simp))
            subst hc1
            simp only [List.length_nil] at f0
            go_enter Tryd.func40, Tryd.ntmps40
            go_wp2_with fail
            go_ret
            show SPost _ (readC [x] m) _ _ _ _
            rw [HR.out]
            exact ⟨rfl, X, ST.out.1, ST.out.2⟩
          · have ST := Lib.hid (IL.step (A' := some ⟨b, off + 1, none⟩) (c' := c - 1) HX.out hBp hsl hBw HBX.out (r := r) (At.tail HAT.out) (by omega))
            go_enter Tryd.func40, Tryd.ntmps40
            go_wp2_with fail
            go_ret
            show SPost _ (readC (x :: r) m) _ _ _ _
            rw [HR.out]
            exact ⟨rfl, X, ST.out.1, ST.out.2⟩
end Go.Proofs.YtplladlodgfloaaDoor.Gens

/- The program's deferred closure in replay: a panic with an error's number is caught; else nothing. -/
namespace Go.Proofs.YtplladlodgfloaaDoor.Gens
open Go.RowKit Go.ChangeShapes Go.WideShapes Lists Ints Vals
set_option linter.unusedVariables false

theorem assert_errno (er : Int) (w : World) : (Instr.typeAssert (.iface 27 (.int .i64 er)) 20 27 true).run Tryd.prog w = .ok (.tuple #[.int .i64 er, .bool true]) w := by
  unfold Instr.typeAssert
  simp [run_underlying Tryd.underlying27]
theorem slots17 (p v : Value) : #[p] ++ ((Array.replicate 16 undef).setIfInBounds 3 v).setIfInBounds 0 v = #[p, v, undef, undef, v, undef, undef, undef, undef, undef, undef, undef, undef, undef, undef, undef, undef] := rfl
set_option maxHeartbeats 1000000 in
theorem catch_panic (p : Addr) (x : Value) (older : List PanicEntry) (w : World) (hc : w.cell? p = some x) (hz : w.frozen? p = false) (er : Int) :
    CallsD Tryd.prog 39 #[.pointer (some p)] (.panicking ({ v := .iface 27 (.int .i64 er), recovered := false } :: older)) w fun e u' w' =>
      e = .returned (.tuple #[]) ∧ u' = .panicking ({ v := .iface 27 (.int .i64 er), recovered := true } :: older) ∧ w' = w.setCell p (.iface 27 (.int .i64 er)) := by
  have ha := assert_errno er w
  refine callsD_of_wpS Tryd.func39 rfl fun c₀ cs hu => ?_
  apply wpS_seq
  apply wpS_region
  simp [wpOpsS, go_sem, recoverD, hu, Tryd.ntmps39, Exit.thenS]
  rw [slots17]
  refine wpS_of_wp ?_
  have HU := Lib.hid hu
  clear hu
  go_wp2_with fail
  simp [bodyPostS, results, Tryd.results39]
set_option maxHeartbeats 1000000 in
theorem catch_idle (p : Addr) (w : World) :
    CallsD Tryd.prog 39 #[.pointer (some p)] .returning w fun e u' w' => e = .returned (.tuple #[]) ∧ u' = .returning ∧ w' = w := by
  refine callsD_of_wpS Tryd.func39 rfl fun c₀ cs hu => ?_
  apply wpS_seq
  apply wpS_region
  simp [wpOpsS, go_sem, recoverD, hu, Tryd.ntmps39, Exit.thenS]
  rw [slots17]
  refine wpS_of_wp ?_
  have HU := Lib.hid hu
  clear hu
  go_wp2_with fail
  cases c₀
  have HU := HU.out
  simp_all [bodyPostS, results, Tryd.results39]
end Go.Proofs.YtplladlodgfloaaDoor.Gens
