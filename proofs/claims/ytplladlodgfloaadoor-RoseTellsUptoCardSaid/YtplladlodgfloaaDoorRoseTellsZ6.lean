/- RoseTells, part 6 of the proof: The program's value of an Any, and of every generator. Conditions: a small generator. · The program's Mend: its closure as a source of choices. Conditions: the size of the list. · The program's record: a source that notes what another one tells. Conditions: none but the source's. · The program's Mend. Conditions: the sizes. · Plain laws: what Replay tells. No program. · What is tried in a tape's place: the mathematics. No program. · The program's with and without (package rose). Conditions: the sizes. -/
import Derived.Test.YtplladlodgfloaaDoorRoseTellsZ5
import Derived.Lib.MinMax
import Derived.Test.YtplladlodgfloaaDoorRoseTellsZ2
import Derived.Test.YtplladlodgfloaaDoorRoseTellsZ4
import Derived.Test.YtplladlodgfloaaDoorRoseTellsZ1
import Derived.Deep.RegionHeld3
import Derived.IntWalk
/- The program's value of an Any, and of every generator. Conditions: a small generator. -/
namespace Go.Proofs.YtplladlodgfloaaDoor.Gens
open Go.RowKit Lists Ints Vals
set_option linter.unusedVariables false
attribute [local go_sem ↓] Go.wp_at_zero Go.wp_at_succ

theorem sub_as2 {w wr : World} {B n ib off : Nat} {l : List Gn}
    (hit : 0 < l.length → ∃ b o, some (⟨ib, off, none⟩ : Addr) = some ⟨b, o, none⟩ ∧ GBel B b ∧ ∀ j (h : j < l.length), ∃ x0 x1 x2 x3, w.cell? ⟨b, o + j * 4, none⟩ = some x0 ∧ w.cell? ⟨b, o + j * 4 + 1, none⟩ = some x1 ∧ w.cell? ⟨b, o + j * 4 + 2, none⟩ = some x2 ∧ w.cell? ⟨b, o + j * 4 + 3, none⟩ = some x3 ∧ GAt w (GBel B) n (.agg #[x0, x1, x2, x3]) (l[j]'h))
    (hb : Below B w wr) (k : Nat) (h : k < l.length) : ∃ D d, wr.cell? ⟨ib, off + k * 4, none⟩ = some (.int .i64 (l[k]'h).kind) ∧ wr.cell? ⟨ib, off + k * 4 + 1, none⟩ = some (.int .i64 (l[k]'h).a) ∧ wr.cell? ⟨ib, off + k * 4 + 2, none⟩ = some (.int .i64 (l[k]'h).b) ∧ wr.cell? ⟨ib, off + k * 4 + 3, none⟩ = some (.slice D (l[k]'h).subs.length d) ∧
      GAt wr (GBel B) n (gv (l[k]'h) D d) (l[k]'h) := by
  obtain ⟨b, o, D, d, e, h1⟩ := sub_as hit hb k h
  simp only [Option.some.injEq, Addr.mk.injEq, and_true] at e
  obtain ⟨rfl, rfl⟩ := e
  exact ⟨D, d, h1⟩
theorem far3 (w : World) {rb b : Nat} (h : b ≠ rb) (o : Nat) (y0 y1 y2 : Value) : (((w.setCell ⟨rb, 0, none⟩ y0).setCell ⟨rb, 1, none⟩ y1).setCell ⟨rb, 2, none⟩ y2).cell? ⟨b, o, none⟩ = w.cell? ⟨b, o, none⟩ :=
  World.cell?_of_block ((Below.heap_setCell _ ⟨rb, 2, none⟩ _ b h).trans ((Below.heap_setCell _ ⟨rb, 1, none⟩ _ b h).trans (Below.heap_setCell _ ⟨rb, 0, none⟩ _ b h)))
/-- the sub at a place -/
def subN (l : List Gn) (m : Nat) : Gn := l.getD m default
theorem subN_get {l : List Gn} {m : Nat} (h : m < l.length) : subN l m = l[m]'h := by simp [subN, List.getD, h]
/-- where the subs' own subs lie -/
theorem subs_all {w : World} {B n ib off : Nat} {l : List Gn}
    (hit : 0 < l.length → ∃ b o, some (⟨ib, off, none⟩ : Addr) = some ⟨b, o, none⟩ ∧ GBel B b ∧ ∀ j (h : j < l.length), ∃ x0 x1 x2 x3, w.cell? ⟨b, o + j * 4, none⟩ = some x0 ∧ w.cell? ⟨b, o + j * 4 + 1, none⟩ = some x1 ∧ w.cell? ⟨b, o + j * 4 + 2, none⟩ = some x2 ∧ w.cell? ⟨b, o + j * 4 + 3, none⟩ = some x3 ∧ GAt w (GBel B) n (.agg #[x0, x1, x2, x3]) (l[j]'h)) :
    ∃ (D : Nat → Option Addr) (d : Nat → Nat), ∀ m, m < l.length → ∀ wr, Below B w wr → (wr.cell? ⟨ib, off + m * 4, none⟩ = some (.int .i64 (subN l m).kind) ∧ wr.cell? ⟨ib, off + m * 4 + 1, none⟩ = some (.int .i64 (subN l m).a) ∧ wr.cell? ⟨ib, off + m * 4 + 2, none⟩ = some (.int .i64 (subN l m).b) ∧ wr.cell? ⟨ib, off + m * 4 + 3, none⟩ = some (.slice (D m) (subN l m).subs.length (d m))) ∧
      GAt wr (GBel B) n (gv (subN l m) (D m) (d m)) (subN l m) := by
  have : ∀ m, ∃ p : Option Addr × Nat, m < l.length → ∀ wr, Below B w wr → (wr.cell? ⟨ib, off + m * 4, none⟩ = some (.int .i64 (subN l m).kind) ∧ wr.cell? ⟨ib, off + m * 4 + 1, none⟩ = some (.int .i64 (subN l m).a) ∧ wr.cell? ⟨ib, off + m * 4 + 2, none⟩ = some (.int .i64 (subN l m).b) ∧ wr.cell? ⟨ib, off + m * 4 + 3, none⟩ = some (.slice p.1 (subN l m).subs.length p.2)) ∧
      GAt wr (GBel B) n (gv (subN l m) p.1 p.2) (subN l m) := by
    intro m
    by_cases h : m < l.length
    · obtain ⟨D, d, c0, c1, c2, c3, ht⟩ := sub_as2 hit (Below.refl B w) m h
      rw [← subN_get h] at c0 c1 c2 c3 ht
      obtain ⟨b, o, e, hB, _⟩ := hit (by omega)
      simp only [Option.some.injEq, Addr.mk.injEq, and_true] at e
      obtain ⟨rfl, rfl⟩ := e
      exact ⟨(D, d), fun _ wr hb => ⟨⟨(hb.cell (p := ⟨ib, _, none⟩) hB).trans c0, (hb.cell (p := ⟨ib, _, none⟩) hB).trans c1, (hb.cell (p := ⟨ib, _, none⟩) hB).trans c2, (hb.cell (p := ⟨ib, _, none⟩) hB).trans c3⟩, ht.below hb⟩⟩
    · exact ⟨(none, 0), fun h' => absurd h' h⟩
  obtain ⟨f, hf⟩ := Classical.skolem.1 this
  exact ⟨fun m => (f m).1, fun m => (f m).2, hf⟩
section
variable {σ : Type} {ch : σ → Int → Except Int (Int × σ)} {k : Nat} {cap : Array Value} {B : Nat} {I : σ → (Nat → Prop) → World → Prop}
theorem VPost.through (S : Src ch k cap B I) {r : Except Int (List Int × Tr × σ)} {X X1 X2 : Nat → Prop} {w w1 w2 : World} {n rb : Nat} {c : List Int} {t : Tr} {s2 : σ} {A : Option Addr} {cc : Nat} {y0 y1 y2 : Value}
    (h : r = .ok (c, t, s2)) (hi : I s2 X2 w2) (hm1 : Mv X w w1 X1) (hm2 : Mv X1 w1 w2 X2) (ht : TAt w2 (fun b => w1.heap.size ≤ b ∧ b < w2.heap.size ∧ ¬ X2 b) n (tval t A cc) t) (hn : NFr A w2) (hB : B ≤ w.heap.size) (hlo : w.heap.size ≤ rb) (hhi : rb < w1.heap.size) (hx : ¬ X2 rb) :
    VPost I (n + 1) r X w (.returned (tval t A cc)) (((w2.setCell ⟨rb, 0, none⟩ y0).setCell ⟨rb, 1, none⟩ y1).setCell ⟨rb, 2, none⟩ y2) := by
  have hrb : B ≤ rb := Nat.le_trans hB hlo
  refine VPost.good h (S.set (S.set (S.set hi hrb hx 0 y0) hrb hx 1 y1) hrb hx 2 y2) (Mv.set (Mv.set (Mv.set (Mv.trans hm1 hm2) hlo 0 y0) hlo 1 y1) hlo 2 y2) (TAt.up (Nat.le_succ n) (ht.keep fun b ⟨h1, h2, h3⟩ => ⟨⟨Nat.le_trans hm1.size h1, by simpa [World.setCell] using h2, h3⟩, fun o => ?_⟩)) (NFr.set (NFr.set (NFr.set hn)))
  refine World.cell?_of_block ?_
  have hne : b ≠ rb := by omega
  exact (Below.heap_setCell _ ⟨rb, 2, none⟩ _ b hne).trans ((Below.heap_setCell _ ⟨rb, 1, none⟩ _ b hne).trans (Below.heap_setCell _ ⟨rb, 0, none⟩ _ b hne))

set_option maxHeartbeats 4000000 in
set_option maxRecDepth 100000 in
theorem value_any (S : Src ch k cap B I) (n : Nat) (ih : ValueOK ch k cap B I n) (a b : Int) (subs : List Gn) (A : Option Addr) (c : Nat) (s : σ) (X : Nat → Prop) (w : World) (hr : Right (.node 5 a b subs)) (hsz : (Gn.node 5 a b subs).size ≤ 30) (hI : I s X w) (hne : play ch (.node 5 a b subs) s ≠ .error 77)
    (hit : 0 < subs.length → ∃ b off, A = some ⟨b, off, none⟩ ∧ GBel B b ∧ ∀ j (h : j < subs.length), ∃ x0 x1 x2 x3, w.cell? ⟨b, off + j * 4, none⟩ = some x0 ∧ w.cell? ⟨b, off + j * 4 + 1, none⟩ = some x1 ∧ w.cell? ⟨b, off + j * 4 + 2, none⟩ = some x2 ∧ w.cell? ⟨b, off + j * 4 + 3, none⟩ = some x3 ∧ GAt w (GBel B) n (.agg #[x0, x1, x2, x3]) (subs[j]'h)) :
    Calls Tryd.prog 41 #[fv k cap, .agg #[.int .i64 5, .int .i64 a, .int .i64 b, .slice A subs.length c]] w (VPost I (n + 1) (play ch (.node 5 a b subs) s) X w) := by
  have hrs : ∀ g ∈ subs, Right g := hr.subs
  have hzs : subs.length ≤ 30 ∧ ∀ g ∈ subs, g.size ≤ 30 := by
    rw [Gn.size] at hsz
    exact ⟨by have := glen_sizes subs; omega, fun g hg => by have := gsize_mem subs g hg; omega⟩
  have hX : ∀ q, w.heap.size ≤ q → ¬ X q := fun q hq => S.not hI hq
  obtain ⟨hBw, hXB⟩ := S.lt s X w hI
  have hm1 := (right_max hr).2.1 rfl
  have hpos : 0 < subs.length := by omega
  obtain ⟨ib, off, rfl, hib, _⟩ := hit hpos
  have hib1 : ib ≠ w.heap.size + 1 := by have : ib < B := hib; omega
  clear hib
  have HB := Lib.hid (two_boxes w (.int .i64 5) (.int .i64 a) (.int .i64 b) (.slice (some ⟨ib, off, none⟩) subs.length c) (.bool false) (.int .i64 0) (.slice none 0 0))
  have hent := S.ent
  have IH := Lib.hid ih
  obtain ⟨D, d, hall⟩ := subs_all hit
  have HIT := Lib.hid hall
  have HRS := Lib.hid hrs
  have HZS := Lib.hid hzs
  have HXB := Lib.hid hXB
  have hln := hzs.1
  have hwr : IntKind.i64.wrap ((subs.length : Int) - 1) = (subs.length : Int) - 1 := wrap_small (by omega) (by omega)
  have HPC := Lib.hid (fun er (h : ch s ((subs.length : Int) - 1) = .error er) => show play ch (.node 5 a b subs) s = .error er by simp [play, h])
  have HPB := Lib.hid (fun (m : Nat) s1 er (hlt : m < subs.length) (h : ch s ((subs.length : Int) - 1) = .ok ((m : Int), s1)) (h2 : play ch (subN subs m) s1 = .error er) => show play ch (.node 5 a b subs) s = .error er by rw [subN_get hlt] at h2; simp [play, h, at_get _ _ _ hlt, h2])
  have HPG := Lib.hid (fun (m : Nat) s1 cs t s' (hlt : m < subs.length) (h : ch s ((subs.length : Int) - 1) = .ok ((m : Int), s1)) (h2 : play ch (subN subs m) s1 = .ok (cs, t, s')) => show play ch (.node 5 a b subs) s = .ok ((m : Int) :: cs, t, s') by rw [subN_get hlt] at h2; simp [play, h, at_get _ _ _ hlt, h2])
  have HNE := Lib.hid (show ch s ((subs.length : Int) - 1) ≠ .error 77 from fun e => hne (HPC.out 77 e))
  have HNB := Lib.hid (fun (m : Nat) s1 (hlt : m < subs.length) (h : ch s ((subs.length : Int) - 1) = .ok ((m : Int), s1)) (e : play ch (subN subs m) s1 = .error 77) => hne (HPB.out m s1 77 hlt h e))
  clear hne hrs hzs hr hsz ih hit hall hXB
  go_enter Tryd.func41, Tryd.ntmps41
  go_wp2_with fail
  generalize (w.alloc (.cells #[.int .i64 5, .int .i64 a, .int .i64 b, .slice (some ⟨ib, off, none⟩) subs.length c] 24)).alloc (.cells #[.bool false, .int .i64 0, .slice none 0 0] 32) = W at HB ⊢
  have HC := Lib.hid (S.call s X W.drew ((subs.length : Int) - 1) hm1 (by omega) (S.below hI (bel_drew HB.out.2.2.1)) HNE.out)
  obtain ⟨k0, k1, k2, k3⟩ := HB.out.1.facts
  have HWB := Lib.hid (show Below B w W from HB.out.2.2.1.mono hBw)
  have K0 := fun m (h : m < subs.length) => (HIT.out m h W HWB.out).1.1
  have K1 := fun m (h : m < subs.length) => (HIT.out m h W HWB.out).1.2.1
  have K2 := fun m (h : m < subs.length) => (HIT.out m h W HWB.out).1.2.2.1
  have K3 := fun m (h : m < subs.length) => (HIT.out m h W HWB.out).1.2.2.2
  go_region_held2 (fun w' => w'.cell? ⟨w.heap.size, 3, none⟩ = some (.slice (some ⟨ib, off, none⟩) subs.length c) ∧ (∀ m, m < subs.length → w'.cell? ⟨ib, off + m * 4, none⟩ = some (.int .i64 (subN subs m).kind)) ∧ (∀ m, m < subs.length → w'.cell? ⟨ib, off + m * 4 + 1, none⟩ = some (.int .i64 (subN subs m).a)) ∧ (∀ m, m < subs.length → w'.cell? ⟨ib, off + m * 4 + 2, none⟩ = some (.int .i64 (subN subs m).b)) ∧ (∀ m, m < subs.length → w'.cell? ⟨ib, off + m * 4 + 3, none⟩ = some (.slice (D m) (subN subs m).subs.length (d m)))) (first | exact ⟨(far3 w2 (by omega) _ _ _ _).trans i3, fun m h => (far3 w2 hib1 _ _ _ _).trans (M0 m h), fun m h => (far3 w2 hib1 _ _ _ _).trans (M1 m h), fun m h => (far3 w2 hib1 _ _ _ _).trans (M2 m h), fun m h => (far3 w2 hib1 _ _ _ _).trans (M3 m h)⟩ | exact ⟨i3, M0, M1, M2, M3⟩ | exact ⟨j3, L0, L1, L2, L3⟩ | exact ⟨k3, K0, K1, K2, K3⟩) (first
    | (with_reducible refine HC.out.mono ?_
       intro e w1 hs
       rcases hs.split with ⟨er, X', hc, rfl, hm1⟩ | ⟨x, s1, X1, hc, rfl, hi1, hm1⟩
       · exact ⟨rfl, VPost.bad (HPC.out er hc) (Mv.trans (Mv.of_below (bel_drew HB.out.2.2.1)) hm1)⟩
       have j3 := Mv.cell hm1 (v := .slice (some ⟨ib, off, none⟩) subs.length c) k3 (hX _ (Nat.le_refl _))
       have hb := S.bnd s _ x s1 (by omega) hc
       obtain ⟨m, rfl⟩ := Int.eq_ofNat_of_zero_le hb.1
       have hlt : m < subs.length := by omega
       have hlt2 : (m : Int) < (subs.length : Int) := by omega
       have hge2 : (0 : Int) ≤ (m : Int) := by omega
       have HMV := Lib.hid (show Mv X w w1 X1 from Mv.trans (Mv.of_below (bel_drew HB.out.2.2.1)) hm1)
       have HBB := Lib.hid (Mv.below HMV.out (fun b hb => (HXB.out b hb).1) hBw)
       have L0 := fun m (h : m < subs.length) => (HIT.out m h w1 HBB.out).1.1
       have L1 := fun m (h : m < subs.length) => (HIT.out m h w1 HBB.out).1.2.1
       have L2 := fun m (h : m < subs.length) => (HIT.out m h w1 HBB.out).1.2.2.1
       have L3 := fun m (h : m < subs.length) => (HIT.out m h w1 HBB.out).1.2.2.2
       have HV := Lib.hid (IH.out (subN subs m) _ s1 X1 w1 (HIT.out m hlt w1 HBB.out).2 (by rw [subN_get hlt]; exact HRS.out _ (List.getElem_mem hlt)) (by rw [subN_get hlt]; exact HZS.out.2 _ (List.getElem_mem hlt)) hi1 (HNB.out m s1 hlt hc))
       have HC1 := Lib.hid hc
       have HR1 := Lib.hid (And.intro (V3.mv HB.out.2.1 (Mv.trans (Mv.of_below (bel_drew (Below.refl _ _))) hm1) (hX _ (by omega))) (Mv.not hm1 (b := w.heap.size + 1) (by show w.heap.size + 1 < W.heap.size; rw [HB.out.2.2.2]; omega) (hX _ (by omega))))
       have hnx : ¬ X1 w.heap.size := Mv.not hm1 (b := w.heap.size) (by show w.heap.size < W.heap.size; rw [HB.out.2.2.2]; omega) (hX _ (by omega))
       have HPB := Lib.hid (fun er => HPB.out m s1 er hlt hc)
       have HPG := Lib.hid (fun cs t s' => HPG.out m s1 cs t s' hlt hc)
       clear hs hc hi1 hm1 hb)
    | (with_reducible refine HV.out.mono ?_
       intro e w2 hs
       rcases hs.split with ⟨er, X', hc, rfl, hm2⟩ | ⟨cs, t, s2, A3, cc3, X2, hc, rfl, hi2, hm2, ht2, hn2⟩
       · exact ⟨rfl, VPost.bad (HPB.out er hc) (Mv.trans HMV.out hm2)⟩
       have i3 := Mv.cell hm2 (v := .slice (some ⟨ib, off, none⟩) subs.length c) j3 hnx
       have HB2 := Lib.hid (Mv.below (Mv.trans HMV.out hm2) (fun b hb => (HXB.out b hb).1) hBw)
       have M0 := fun m (h : m < subs.length) => (HIT.out m h w2 HB2.out).1.1
       have M1 := fun m (h : m < subs.length) => (HIT.out m h w2 HB2.out).1.2.1
       have M2 := fun m (h : m < subs.length) => (HIT.out m h w2 HB2.out).1.2.2.1
       have M3 := fun m (h : m < subs.length) => (HIT.out m h w2 HB2.out).1.2.2.2
       have HR2 := Lib.hid (And.intro (V3.mv HR1.out.1 hm2 HR1.out.2) (Mv.not hm2 HR1.out.1.lt HR1.out.2))
       obtain ⟨z0, z1, z2, y0, y1, y2⟩ := HR2.out.1.facts
       have HN := Lib.hid (And.intro hc (And.intro hi2 (And.intro hm2 (And.intro ht2 hn2))))
       clear hs hc hi2 hm2 ht2 hn2))
  obtain ⟨hc, hi2, hm2, ht2, hn2⟩ := HN.out
  have V9 := V3.put HR2.out.1 (.bool t.list) (.int .i64 t.num) (.slice A3 t.items.length cc3)
  have T9 := Lib.hid (VPost.through S (n := n) (rb := w.heap.size + 1) (y0 := .bool t.list) (y1 := .int .i64 t.num) (y2 := .slice A3 t.items.length cc3) (HPG.out cs t s2 hc) hi2 HMV.out hm2 ht2 hn2 hBw (by omega) HR1.out.1.lt HR2.out.2)
  clear z0 z1 z2 y0 y1 y2 i3 j3 k0 k1 k2 k3 K0 K1 K2 K3 L0 L1 L2 L3 M0 M1 M2 M3 hc hi2 hm2 ht2 hn2 HN HR2 HR1 HV HC HPB HPG
  generalize ((w2.setCell ⟨w.heap.size + 1, 0, none⟩ (.bool t.list)).setCell ⟨w.heap.size + 1, 1, none⟩ (.int .i64 t.num)).setCell ⟨w.heap.size + 1, 2, none⟩ (.slice A3 t.items.length cc3) = W9 at V9 T9 ⊢
  obtain ⟨z0, z1, z2, _⟩ := V9.facts
  go_wp2_with fail
  refine bodyPost_ret (v := tval t A3 cc3) (by simp [results, Tryd.results41, go_sem, z0, z1, z2]) rfl ?_
  exact T9.out

/-- the program's value, of every right generator of few parts -/
theorem value_ok (S : Src ch k cap B I) : ∀ n, ValueOK ch k cap B I n := by
  intro n
  induction n with
  | zero => intro g v s X w h; exact h.elim
  | succ n ih =>
    intro g v s X w h hr hsz hI hne
    obtain ⟨m, A, c, e, hw, rfl, hit⟩ := h.open_
    obtain rfl : n = m := by omega
    cases g with | node kd a b subs =>
    obtain ⟨_, _, m4, k1, k5⟩ := right_max hr
    rcases (show kd = 1 ∨ kd = 2 ∨ kd = 3 ∨ kd = 4 ∨ kd = 5 by omega) with rfl | rfl | rfl | rfl | rfl
    · exact value_just S n a b subs A c s X w hr hI
    · exact value_int S n a b subs A c s X w hr hI hne
    · exact value_both S n ih a b subs A c s X w hr hsz hI hne hit
    · obtain ⟨_, _, h1⟩ := m4 rfl
      match subs, h1 with
      | [y], _ => exact value_many S n ih a b y A c s X w hr hsz hI hne hit
    · exact value_any S n ih a b subs A c s X w hr hsz hI hne hit
end
end Go.Proofs.YtplladlodgfloaaDoor.Gens

/- The program's Mend: its closure as a source of choices. Conditions: the size of the list. -/
namespace Go.Proofs.YtplladlodgfloaaDoor.Gens
open Go.RowKit Lists Ints Vals
set_option linter.unusedVariables false

/-- the box of a slice of numbers -/
def LB (p : Nat) (A : Option Addr) (n c : Nat) (w : World) : Prop := w.heap[p]? = some (.cells #[.slice A n c] 25 (0, 0))
theorem LB.cell {p n c : Nat} {A : Option Addr} {w : World} (h : LB p A n c w) : w.cell? ⟨p, 0, none⟩ = some (.slice A n c) := by rw [Lib.cell_of_heap h]; rfl
theorem LB.free {p n c : Nat} {A : Option Addr} {w : World} (h : LB p A n c w) : w.frozen? ⟨p, 0, none⟩ = false := Lib.frozen_of_heap h 0
theorem LB.lt {p n c : Nat} {A : Option Addr} {w : World} (h : LB p A n c w) : p < w.heap.size := (Array.getElem?_eq_some_iff.1 h).1
theorem LB.put {p n c : Nat} {A : Option Addr} {w : World} (h : LB p A n c w) (A' : Option Addr) (n' c' : Nat) : LB p A' n' c' (w.setCell ⟨p, 0, none⟩ (.slice A' n' c')) := by
  unfold LB at h ⊢
  simp [World.setCell, Array.getElem?_modify, h]
/-- the state of a source that reads a list out of box p -/
def IL (B p : Nat) (s : List Int) (X : Nat → Prop) (w : World) : Prop := (∀ b, X b ↔ b = p) ∧ B ≤ p ∧ s.length ≤ 4294967296 ∧ B ≤ w.heap.size ∧ ∃ A c, LB p A s.length c w ∧ At w B A s ∧ s.length ≤ c
theorem IL.keep {B p : Nat} {s : List Int} {X : Nat → Prop} {w w' : World} (h : IL B p s X w) (hk : ∀ b, b < B ∨ X b → w'.heap[b]? = w.heap[b]?) (hs : w.heap.size ≤ w'.heap.size) : IL B p s X w' := by
  obtain ⟨h1, h2, h3, h4, A, c, h5, h6, h7⟩ := h
  exact ⟨h1, h2, h3, Nat.le_trans h4 hs, A, c, (hk p (.inr ((h1 p).2 rfl))).trans h5, h6.keep (fun b o hb => World.cell?_of_block (hk b (.inl hb))), h7⟩
theorem IL.lt {B p : Nat} {s : List Int} {X : Nat → Prop} {w : World} (h : IL B p s X w) : B ≤ w.heap.size ∧ ∀ b, X b → B ≤ b ∧ b < w.heap.size := by
  obtain ⟨h1, h2, h3, h4, A, c, h5, h6, h7⟩ := h
  exact ⟨h4, fun b hb => by rw [h1] at hb; subst hb; exact ⟨h2, h5.lt⟩⟩
theorem At.tail {w : World} {B b off : Nat} {x : Int} {r : List Int} (h : At w B (some ⟨b, off, none⟩) (x :: r)) : At w B (some ⟨b, off + 1, none⟩) r := fun hp => by
  obtain ⟨b', o', e, hb, hc⟩ := h (by simp)
  simp only [Option.some.injEq, Addr.mk.injEq, and_true] at e
  obtain ⟨rfl, rfl⟩ := e
  refine ⟨b, off + 1, rfl, hb, fun j hj => ?_⟩
  have := hc (j + 1) (by simpa using hj)
  rw [show off + 1 + j = off + (j + 1) by omega, this]
  rfl

/-- one number further -/
theorem IL.step {B p c c' : Nat} {A A' : Option Addr} {r : List Int} {X : Nat → Prop} {w : World} (hX : ∀ b, X b ↔ b = p) (hBp : B ≤ p) (hsl : r.length + 1 ≤ 4294967296) (hBw : B ≤ w.heap.size) (hbox : LB p A (r.length + 1) c w) (hat : At w B A' r) (hcap : r.length ≤ c') :
    IL B p r X (w.setCell ⟨p, 0, none⟩ (.slice A' r.length c')) ∧ Mv X w (w.setCell ⟨p, 0, none⟩ (.slice A' r.length c')) X := by
  refine ⟨⟨hX, hBp, by omega, by simpa [World.setCell] using hBw, A', c', hbox.put A' r.length c', hat.keep fun b o hb => World.cell?_of_block (Below.heap_setCell _ _ _ _ (by show b ≠ p; omega)), hcap⟩, ?_⟩
  exact ⟨rfl, rfl, rfl, by simp [World.setCell], fun b hb hx => Below.heap_setCell _ _ _ _ (fun e => hx ((hX b).2 e)), fun b hb => .inl hb⟩

set_option maxHeartbeats 1000000 in
set_option maxRecDepth 100000 in
theorem src_mend (B p : Nat) : Src mendC 43 #[.pointer (some ⟨p, 0, none⟩)] B (IL B p) := by
  refine ⟨fun s X w w' h hk hs => h.keep hk hs, fun s X w h => h.lt, mend_bounded, fun args w => ?_, fun s X w m h0 h1 hI _ => ?_⟩
  · rfl
  · have HI := Lib.hid hI
    obtain ⟨hX, hBp, hsl, hBw, A, c, hbox, hat, hcap⟩ := hI
    have f0 := hbox.cell
    have f1 := hbox.free
    have HX := Lib.hid hX
    have HAT := Lib.hid hat
    have HBX := Lib.hid hbox
    have hp := hbox.lt
    clear hat hbox hX
    show Calls Tryd.prog 43 #[.int .i64 m, .pointer (some ⟨p, 0, none⟩)] w _
    cases s with
    | nil =>
      simp only [List.length_nil] at f0 hcap hsl
      go_enter Tryd.func43, Tryd.ntmps43
      go_wp2_with fail
      go_ret
      exact ⟨ret_int (by show (0 : Int) = max 0 (min 0 m); omega), X, HI.out, Mv.refl X w⟩
    | cons x r =>
      obtain ⟨b, off, rfl, hb, hc⟩ := HAT.out (by simp)
      have c0 : w.cell? ⟨b, off, none⟩ = some (.int .i64 x) := hc 0 (by simp)
      clear hc
      have g0 : (((r.length : Int) + 1) == 0) = false := by rw [beq_eq_false_iff_ne]; omega
      simp only [List.length_cons] at f0 hcap hsl
      have HR := Lib.hid (show min (max x 0) m = mendX (x :: r) m by show min (max x 0) m = max 0 (min x m); omega)
      by_cases hc1 : c = 1
      · obtain rfl : r = [] := List.eq_nil_of_length_eq_zero (by omega)
        have ST := Lib.hid (IL.step (A' := some ⟨b, off, none⟩) (c' := 0) HX.out hBp hsl hBw HBX.out (r := []) At.nil (by simp))
        subst hc1
        simp only [List.length_nil] at f0
        go_enter Tryd.func43, Tryd.ntmps43
        go_wp2_with fail
        go_ret
        exact ⟨ret_int HR.out, X, ST.out.1, ST.out.2⟩
      · have ST := Lib.hid (IL.step (A' := some ⟨b, off + 1, none⟩) (c' := c - 1) HX.out hBp hsl hBw HBX.out (r := r) (At.tail HAT.out) (by omega))
        go_enter Tryd.func43, Tryd.ntmps43
        go_wp2_with fail
        go_ret
        exact ⟨ret_int HR.out, X, ST.out.1, ST.out.2⟩
end Go.Proofs.YtplladlodgfloaaDoor.Gens

/- The program's record: a source that notes what another one tells. Conditions: none but the source's. -/
namespace Go.Proofs.YtplladlodgfloaaDoor.Gens
open Go.RowKit Lists Ints Vals
set_option linter.unusedVariables false

section
variable {σ : Type} {ch : σ → Int → Except Int (Int × σ)} {k : Nat} {cap : Array Value} {B : Nat} {I : σ → (Nat → Prop) → World → Prop}
/-- the box of a source -/
def FB (p k : Nat) (cap : Array Value) (w : World) : Prop := w.heap[p]? = some (.cells #[fv k cap] 74 (0, 0))
theorem FB.cell {p k : Nat} {cap : Array Value} {w : World} (h : FB p k cap w) : w.cell? ⟨p, 0, none⟩ = some (fv k cap) := by rw [Lib.cell_of_heap h]; rfl
theorem FB.lt {p k : Nat} {cap : Array Value} {w : World} (h : FB p k cap w) : p < w.heap.size := (Array.getElem?_eq_some_iff.1 h).1
/-- the state of a source that notes: the inner one's, the box that holds it, the box of what is noted, its row -/
def IR (B k : Nat) (cap : Array Value) (I : σ → (Nat → Prop) → World → Prop) (nb tb : Nat) (s : σ × List Int) (X : Nat → Prop) (w : World) : Prop :=
  ∃ (X0 : Nat → Prop) (A : Option Addr) (c : Nat), I s.1 X0 w ∧ FB nb k cap w ∧ LB tb A s.2.length c w ∧ Own w (tb + 1) A c s.2 ∧ s.2.length ≤ 4294967296 ∧ nb < tb ∧ B ≤ nb ∧ ¬ X0 nb ∧ ¬ X0 tb ∧ (∀ g, rowOf A = some g → ¬ X0 g) ∧ ∀ b, X b ↔ (X0 b ∨ b = nb ∨ b = tb ∨ rowOf A = some b)
theorem own_row_lt {w : World} {base c : Nat} {A : Option Addr} {z : List Int} (h : Own w base A c z) {g : Nat} (hg : rowOf A = some g) : g < w.heap.size := by
  rcases h.2 with ⟨he, _⟩ | ⟨g', cap, cur, he, _, hh, _⟩
  · injection he with he; subst he; cases hg
  · injection he with he; subst he
    have : g' = g := by simpa [rowOf] using hg
    subst this
    exact (Array.getElem?_eq_some_iff.1 hh).1
theorem own_kept {w w' : World} {base c : Nat} {A : Option Addr} {z : List Int} (h : Own w base A c z) (hk : ∀ g, rowOf A = some g → w'.heap[g]? = w.heap[g]?) : Own w' base A c z := by
  refine ⟨h.1, ?_⟩
  rcases h.2 with h0 | ⟨g, cap, cur, he, hb, hh, h1⟩
  · exact .inl h0
  · refine .inr ⟨g, cap, cur, he, hb, ?_, h1⟩
    injection he with he; subst he
    rw [hk g rfl]; exact hh
theorem IR.keep (S : Src ch k cap B I) {nb tb : Nat} {s : σ × List Int} {X : Nat → Prop} {w w' : World} (h : IR B k cap I nb tb s X w) (hk : ∀ b, b < B ∨ X b → w'.heap[b]? = w.heap[b]?) (hs : w.heap.size ≤ w'.heap.size) : IR B k cap I nb tb s X w' := by
  obtain ⟨X0, A, c, h1, h2, h3, h4, h5, h6, h7, h8, h9, h10, h11⟩ := h
  exact ⟨X0, A, c, S.keep s.1 X0 w w' h1 (fun b hb => hk b (hb.elim .inl (fun h => .inr ((h11 b).2 (.inl h))))) hs, (hk nb (.inr ((h11 nb).2 (.inr (.inl rfl))))).trans h2, (hk tb (.inr ((h11 tb).2 (.inr (.inr (.inl rfl)))))).trans h3,
    own_kept h4 (fun g hg => hk g (.inr ((h11 g).2 (.inr (.inr (.inr hg)))))), h5, h6, h7, h8, h9, h10, h11⟩
theorem IR.lt (S : Src ch k cap B I) {nb tb : Nat} {s : σ × List Int} {X : Nat → Prop} {w : World} (h : IR B k cap I nb tb s X w) : B ≤ w.heap.size ∧ ∀ b, X b → B ≤ b ∧ b < w.heap.size := by
  obtain ⟨X0, A, c, h1, h2, h3, h4, h5, h6, h7, h8, h9, h10, h11⟩ := h
  obtain ⟨q1, q2⟩ := S.lt s.1 X0 w h1
  refine ⟨q1, fun b hb => ?_⟩
  rcases (h11 b).1 hb with h | rfl | rfl | h
  · exact q2 b h
  · exact ⟨h7, h2.lt⟩
  · exact ⟨by omega, h3.lt⟩
  · exact ⟨by have := h4.ge b h; omega, own_row_lt h4 h⟩
/-- behind the inner call: memory as the notes want it -/
theorem IR.mid {nb tb c : Nat} {r : List Int} {X0 X' : Nat → Prop} {A : Option Addr} {w w1 : World} (h2 : FB nb k cap w) (h3 : LB tb A r.length c w) (h4 : Own w (tb + 1) A c r) (h8 : ¬ X0 nb) (h9 : ¬ X0 tb) (h10 : ∀ g, rowOf A = some g → ¬ X0 g) (hm : Mv X0 w w1 X') :
    FB nb k cap w1 ∧ LB tb A r.length c w1 ∧ Own w1 (tb + 1) A c r ∧ ¬ X' nb ∧ ¬ X' tb ∧ ∀ g, rowOf A = some g → ¬ X' g :=
  ⟨(hm.block nb h2.lt h8).trans h2, (hm.block tb h3.lt h9).trans h3, own_kept h4 (fun g hg => hm.block g (own_row_lt h4 hg) (h10 g hg)), Mv.not hm h2.lt h8, Mv.not hm h3.lt h9, fun g hg => Mv.not hm (own_row_lt h4 hg) (h10 g hg)⟩

theorem At.one_new (w : World) (x : Int) : At (w.alloc (.cells #[.int .i64 x] 3)) (w.heap.size + 1) (some ⟨w.heap.size, 0, none⟩) [x] := fun hp => by
  refine ⟨w.heap.size, 0, rfl, by omega, fun j hj => ?_⟩
  have hj : j = 0 := by simpa using hj
  subst hj
  rw [Lib.cell_of_heap (new_obj w _)]; rfl
theorem IR.bad {nb tb c : Nat} {r : List Int} {X X0 X' : Nat → Prop} {A : Option Addr} {w w1 : World} (hX : ∀ b, X b ↔ (X0 b ∨ b = nb ∨ b = tb ∨ rowOf A = some b)) (hm : Mv X0 w w1 X') : Mv X w w1 (fun _ => False) :=
  ⟨hm.os, hm.tape, hm.output, hm.size, fun b hb hx => hm.block b hb (fun h => hx ((hX b).2 (.inl h))), fun b h => h.elim⟩
/-- one number more is noted -/
theorem IR.next (S : Src ch k cap B I) {nb tb c c' : Nat} {s' : σ} {r zl : List Int} {X X0 X' : Nat → Prop} {A A' : Option Addr} {w w1 w5 : World} {O : Obj} (h2 : FB nb k cap w1) (h3 : LB tb A r.length c w1) (h4 : Own w1 (tb + 1) A c r) (h6 : nb < tb) (h7 : B ≤ nb) (h8 : ¬ X' nb) (h9 : ¬ X' tb) (h10 : ∀ g, rowOf A = some g → ¬ X' g)
    (hX : ∀ b, X b ↔ (X0 b ∨ b = nb ∨ b = tb ∨ rowOf A = some b)) (hi : I s' X' w1) (hm : Mv X0 w w1 X') (g5 : (w1.alloc O).grownBy w5 (rowOf A)) (own5 : Own w5 (tb + 1) A' c' zl) (r5 : rowOf A' = rowOf A ∨ rowOf A' = some (w1.alloc O).heap.size) (hl : zl.length ≤ 4294967296) :
    LB tb A r.length c w5 ∧ IR B k cap I nb tb (s', zl) (fun b => X' b ∨ b = nb ∨ b = tb ∨ rowOf A' = some b) (w5.setCell ⟨tb, 0, none⟩ (.slice A' zl.length c')) ∧
      Mv X w (w5.setCell ⟨tb, 0, none⟩ (.slice A' zl.length c')) (fun b => X' b ∨ b = nb ∨ b = tb ∨ rowOf A' = some b) := by
  have hsz : (w1.alloc O).heap.size = w1.heap.size + 1 := by simp
  have s5 := g5.size
  have hr : ∀ g, rowOf A = some g → tb + 1 ≤ g := h4.ge
  have blk : ∀ b, b < w1.heap.size → rowOf A ≠ some b → w5.heap[b]? = w1.heap[b]? := fun b hb hn => (g5.block b (by omega) (fun e => hn e.symm)).trans (Below.heap_alloc _ _ _ hb)
  have blk2 : ∀ b, b < w1.heap.size → rowOf A ≠ some b → b ≠ tb → (w5.setCell ⟨tb, 0, none⟩ (.slice A' zl.length c')).heap[b]? = w1.heap[b]? := fun b hb hn ht => (Below.heap_setCell _ _ _ _ ht).trans (blk b hb hn)
  have ht5 : LB tb A r.length c w5 := (blk tb h3.lt (fun e => by have := hr tb e; omega)).trans h3
  obtain ⟨q1, q2⟩ := S.lt s' X' w1 hi
  have hmx := hm.size
  have hnew : ∀ g, rowOf A' = some g → tb + 1 ≤ g := own5.ge
  refine ⟨ht5, ⟨X', A', c', S.keep s' X' w1 _ hi (fun b hb => ?_) (by simp [World.setCell]; omega), ?_, ht5.put A' zl.length c', own_kept own5 (fun g hg => Below.heap_setCell _ _ _ _ (by show g ≠ tb; have := hnew g hg; omega)), hl, h6, h7, h8, h9, fun g hg hx => ?_, fun b => Iff.rfl⟩, ⟨?_, ?_, ?_, by simp [World.setCell]; omega, fun b hb hx => ?_, fun b hb => ?_⟩⟩
  · rcases hb with hb | hb
    · exact blk2 b (by omega) (fun e => by have := hr b e; omega) (by omega)
    · exact blk2 b (q2 b hb).2 (fun e => h10 b e hb) (fun e => h9 (e ▸ hb))
  · exact (blk2 nb h2.lt (fun e => by have := hr nb e; omega) (by omega)).trans h2
  · rcases r5 with e | e
    · exact h10 g (by rw [← e]; exact hg) hx
    · rw [e] at hg
      have : (w1.alloc O).heap.size = g := by injection hg
      have := (q2 g hx).2
      omega
  · show w5.os = w.os; exact (g5.os.trans (show (w1.alloc O).os = w1.os from rfl)).trans hm.os
  · show w5.tape = w.tape; exact (g5.tape.trans (show (w1.alloc O).tape = w1.tape from rfl)).trans hm.tape
  · show w5.output = w.output; exact (g5.output.trans (show (w1.alloc O).output = w1.output from rfl)).trans hm.output
  · have hn : ¬ X0 b ∧ b ≠ nb ∧ b ≠ tb ∧ rowOf A ≠ some b := ⟨fun h => hx ((hX b).2 (.inl h)), fun h => hx ((hX b).2 (.inr (.inl h))), fun h => hx ((hX b).2 (.inr (.inr (.inl h)))), fun h => hx ((hX b).2 (.inr (.inr (.inr h))))⟩
    exact (blk2 b (by omega) hn.2.2.2 hn.2.2.1).trans (hm.block b hb hn.1)
  · rcases hb with h | rfl | rfl | h
    · exact (hm.new b h).imp (fun h => (hX b).2 (.inl h)) id
    · exact .inl ((hX b).2 (.inr (.inl rfl)))
    · exact .inl ((hX b).2 (.inr (.inr (.inl rfl))))
    · rcases r5 with e | e
      · exact .inl ((hX b).2 (.inr (.inr (.inr (by rw [← e]; exact h)))))
      · rw [e] at h
        have : (w1.alloc O).heap.size = b := by injection h
        exact .inr (by omega)

set_option maxHeartbeats 1000000 in
set_option maxRecDepth 100000 in
theorem src_rec (S : Src ch k cap B I) (nb tb : Nat) : Src (recC ch) 52 #[.pointer (some ⟨nb, 0, none⟩), .pointer (some ⟨tb, 0, none⟩)] B (IR B k cap I nb tb) := by
  refine ⟨fun s X w w' h hk hs => h.keep S hk hs, fun s X w h => h.lt S, rec_bounded S.bnd, fun args w => ?_, fun s X w m h0 h1 hI hne => ?_⟩
  · rfl
  · obtain ⟨s, r⟩ := s
    obtain ⟨X0, A, c, j1, j2, j3, j4, j5, j6, j7, j8, j9, j10, j11⟩ := hI
    simp only at j1 j3 j4 j5
    have hlr : r.length < 2000000 := by
      by_cases h : r.length < 2000000
      · exact h
      · exact absurd (by simp only [recC]; rw [if_neg h]) hne
    have HRC := Lib.hid (show recC ch (s, r) m = (match ch s m with | .error e => .error e | .ok (x, s') => .ok (x, (s', r ++ [x]))) by simp only [recC]; rw [if_pos hlr]; cases ch s m <;> rfl)
    have hent := S.ent
    have HC := Lib.hid (S.call s X0 w m h0 h1 j1 (fun e => hne (by rw [HRC.out, e])))
    have HJ := Lib.hid (And.intro j2 (And.intro j3 (And.intro j4 (And.intro j8 (And.intro j9 (And.intro j10 j11))))))
    have f0 := j2.cell
    clear j1 j2 j3 j4 j5 j8 j9 j10 j11 hne
    show Calls Tryd.prog 52 #[.int .i64 m, .pointer (some ⟨nb, 0, none⟩), .pointer (some ⟨tb, 0, none⟩)] w _
    go_enter Tryd.func52, Tryd.ntmps52
    go_wp2_with fail
    refine HC.out.mono ?_
    intro e w1 hs
    rcases hs.split with ⟨er, X', hc, rfl, hm1⟩ | ⟨x, s', X', hc, rfl, hi1, hm1⟩
    · refine ⟨rfl, ?_⟩
      show SPost _ (recC ch (s, r) m) _ _ _ _
      rw [HRC.out, hc]
      exact ⟨rfl, _, IR.bad (c := c) (r := r) HJ.out.2.2.2.2.2.2 hm1⟩
    have MD := IR.mid HJ.out.1 HJ.out.2.1 HJ.out.2.2.1 HJ.out.2.2.2.1 HJ.out.2.2.2.2.1 HJ.out.2.2.2.2.2.1 hm1
    have e0 := MD.2.1.cell
    have e1 := MD.2.1.free
    have HMD := Lib.hid MD
    have HN := Lib.hid (And.intro hc (And.intro hi1 hm1))
    clear hs hc hi1 hm1 MD HC f0
    go_wp2_with (first
      | (at_builtin
         refine wpList_append_ints rfl (.tmp 9) (.tmp 11) rfl (tb + 1) c A r (HMD.out.2.2.1.below (bel1 _ _)) (w1.heap.size + 1) (some ⟨w1.heap.size, 0, none⟩) 1 [x] (At.one_new w1 x) rfl rfl (by simp; omega) (by have := HMD.out.2.1.lt; simp; omega) ?_
         intro A' c' w5 zl hz own5 g5 r5
         have NX := IR.next (k := k) (cap := cap) S HMD.out.1 HMD.out.2.1 HMD.out.2.2.1 j6 j7 HMD.out.2.2.2.1 HMD.out.2.2.2.2.1 HMD.out.2.2.2.2.2 HJ.out.2.2.2.2.2.2 HN.out.2.1 HN.out.2.2 g5 own5 r5 (by rw [hz.out]; simp; omega)
         have t0 := NX.1.cell
         have t1 := NX.1.free
         have NX := Lib.hid NX.2
         clear own5 g5 r5))
    go_ret
    show SPost _ (recC ch (s, r) m) _ _ _ _
    rw [HRC.out, HN.out.1]
    show SPost _ (.ok (x, (s', r ++ [x]))) _ _ _ _
    rw [← hz.out]
    exact ⟨rfl, _, NX.out.1, NX.out.2⟩
theorem own_less {w : World} {base base' c : Nat} {A : Option Addr} {z : List Int} (h : Own w base A c z) (hb : base' ≤ base) : Own w base' A c z := by
  refine ⟨h.1, ?_⟩
  rcases h.2 with h0 | ⟨g, cap, cur, he, hb2, hh, h1⟩
  · exact .inl h0
  · exact .inr ⟨g, cap, cur, he, by omega, hh, h1⟩
/-- the boxes at record's start -/
theorem rec_boxes (S : Src ch k cap B I) {s : σ} {X : Nat → Prop} (w : World) (hI : I s X w) (O : Obj) :
    IR B k cap I (w.heap.size + 1) (w.heap.size + 1 + 1) (s, []) (fun b => X b ∨ b = w.heap.size + 1 ∨ b = w.heap.size + 1 + 1 ∨ rowOf none = some b) (((w.alloc O).alloc (.cells #[fv k cap] 74)).alloc (.cells #[.slice none 0 0] 25)) ∧
      Mv X w (((w.alloc O).alloc (.cells #[fv k cap] 74)).alloc (.cells #[.slice none 0 0] 25)) (fun b => X b ∨ b = w.heap.size + 1 ∨ b = w.heap.size + 1 + 1 ∨ rowOf none = some b) ∧
      Below w.heap.size w (((w.alloc O).alloc (.cells #[fv k cap] 74)).alloc (.cells #[.slice none 0 0] 25)) ∧
      (((w.alloc O).alloc (.cells #[fv k cap] 74)).alloc (.cells #[.slice none 0 0] 25)).heap.size = w.heap.size + 3 := by
  obtain ⟨q1, q2⟩ := S.lt s X w hI
  have hb : Below w.heap.size w (((w.alloc O).alloc (.cells #[fv k cap] 74)).alloc (.cells #[.slice none 0 0] 25)) := (((Below.refl _ _).alloc (Nat.le_refl _) _).alloc (by simp) _).alloc (by simp; omega) _
  have hm : Mv X w (((w.alloc O).alloc (.cells #[fv k cap] 74)).alloc (.cells #[.slice none 0 0] 25)) X := Mv.of_below hb
  have z1 : (w.alloc O).heap.size = w.heap.size + 1 := by simp
  have z2 : ((w.alloc O).alloc (.cells #[fv k cap] 74)).heap.size = w.heap.size + 1 + 1 := by simp
  refine ⟨⟨X, none, 0, S.below hI hb, ?_, ?_, Own.none, by simp, by omega, by omega, S.not hI (by omega), S.not hI (by omega), (fun g h => by cases h), fun b => Iff.rfl⟩, ⟨hm.os, hm.tape, hm.output, hm.size, hm.block, fun b h => ?_⟩, hb, by simp⟩
  · have h1 := new_obj (w.alloc O) (.cells #[fv k cap] 74)
    rw [z1] at h1
    exact (Below.heap_alloc _ _ _ (by rw [z2]; omega)).trans h1
  · have h1 := new_obj ((w.alloc O).alloc (.cells #[fv k cap] 74)) (.cells #[.slice none 0 0] 25)
    rw [z2] at h1
    exact h1
  · rcases h with h | h | h | h
    · exact .inl h
    · exact .inr (by omega)
    · exact .inr (by omega)
    · cases h

set_option maxHeartbeats 1000000 in
set_option maxRecDepth 100000 in
/-- the program's record: the choices -/
theorem record_ok (S : Src ch k cap B I) {n : Nat} {g : Gn} {A : Option Addr} {c : Nat} {s s' : σ} {X : Nat → Prop} {w : World} {cs : List Int} {t : Tr} (hg : GAt w (GBel B) n (gv g A c) g) (hr : Right g) (hsz : g.size ≤ 30) (hI : I s X w) (hp : play ch g s = .ok (cs, t, s')) (hln : cs.length ≤ 2000000) :
    Calls Tryd.prog 42 #[gv g A c, fv k cap] w fun e w' => ∃ (A' : Option Addr) (c' : Nat) (X' : Nat → Prop), e = .returned (.slice A' cs.length c') ∧ Own w' w.heap.size A' c' cs ∧ Mv X w w' X' := by
  have hBw := (S.lt s X w hI).1
  have RB := rec_boxes S w hI (.cells #[.int .i64 g.kind, .int .i64 g.a, .int .i64 g.b, .slice A g.subs.length c] 24)
  have RP := rec_play S.bnd hr hp [] (by simpa using hln)
  have HC := value_ok (src_rec S (w.heap.size + 1) (w.heap.size + 1 + 1)) n g (gv g A c) (s, []) _ _ (hg.below (RB.2.2.1.mono hBw)) hr hsz RB.1 (by rw [RP]; intro h; cases h)
  rw [RP] at HC
  have HM := Lib.hid RB.2.1
  have HC := Lib.hid HC
  clear hI hg hr hsz hp RP RB
  go_enter Tryd.func42, Tryd.ntmps42
  go_wp2_with fail
  refine HC.out.mono ?_
  rintro e w1 ⟨A1, c1, X1, rfl, hi, hm, _, _⟩
  obtain ⟨X0, A2, c2, _, _, hl, ho, _⟩ := hi
  simp only [List.nil_append] at hl ho
  have f0 := hl.cell
  have HO := Lib.hid (own_less ho (show w.heap.size ≤ w.heap.size + 1 + 1 + 1 by omega))
  have HMV := Lib.hid (Mv.trans HM.out hm)
  clear hl ho hm HC HM
  go_wp2_with fail
  go_ret
  exact ⟨A2, c2, X1, rfl, HO.out, HMV.out⟩
end
end Go.Proofs.YtplladlodgfloaaDoor.Gens

/- The program's Mend. Conditions: the sizes. -/
namespace Go.Proofs.YtplladlodgfloaaDoor.Gens
open Go.RowKit Lists Ints Vals
set_option linter.unusedVariables false

/-- what Mend tells -/
def mendL (t : Gn) (l : List Int) : List Int := if genV t = 0 then (match play mendC t l with | .ok (c, _, _) => c | .error _ => []) else []
theorem mendL_of {t : Gn} {l c r : List Int} {v : Tr} (h0 : genV t = 0) (h : play mendC t l = .ok (c, v, r)) : mendL t l = c := by
  unfold mendL; rw [if_pos h0, h]
theorem mend_run {t : Gn} (l : List Int) (h0 : genV t = 0) : ∃ v r, play mendC t l = .ok (mendL t l, v, r) ∧ (mendL t l).length ≤ 1399680 := by
  obtain ⟨hr, hl⟩ := gen_right h0
  obtain ⟨c, v, r, h⟩ := mend_ex hr l
  refine ⟨v, r, ?_, ?_⟩
  · rw [mendL_of h0 h, h]
  · rw [mendL_of h0 h]
    exact Nat.le_trans (play_long mend_bounded t hr l c v r h) (small_long hl)
theorem small30 {t : Gn} (h0 : genV t = 0) : t.size ≤ 30 := small_size (gen_right h0).2

set_option maxHeartbeats 2000000 in
set_option maxRecDepth 100000 in
theorem mend_prog {n : Nat} {t : Gn} {v : Value} {L : Option Addr} {l : List Int} {lc : Nat} (w : World) (h : GAt w (GBel w.heap.size) n v t) (hat : At w w.heap.size L l) (hcap : l.length ≤ lc) (hl : l.length ≤ 4294967296) (hsz : t.size ≤ 4294967296) :
    Calls Tryd.prog 32 #[v, .slice L l.length lc] w fun e w' => ∃ (A' : Option Addr) (c' : Nat), e = .returned (.tuple #[.slice A' (mendL t l).length c', errOf (genV t)]) ∧ Own w' w.heap.size A' c' (mendL t l) ∧ Below w.heap.size w w' := by
  obtain ⟨m, A, c, e, hw, rfl, _⟩ := h.open_
  have b1 : Below w.heap.size w ((w.alloc (gc t A c)).alloc (.cells #[.slice L l.length lc] 25)) := ((Below.refl _ _).alloc (Nat.le_refl _) _).alloc (by simp) _
  have s1 : (w.alloc (gc t A c)).heap.size = w.heap.size + 1 := by simp
  have g1 : G4 w.heap.size (.int .i64 t.kind) (.int .i64 t.a) (.int .i64 t.b) (.slice A t.subs.length c) ((w.alloc (gc t A c)).alloc (.cells #[.slice L l.length lc] 25)) := (Below.heap_alloc _ _ _ (by omega)).trans (new_obj w _)
  have l1 : LB (w.heap.size + 1) L l.length lc ((w.alloc (gc t A c)).alloc (.cells #[.slice L l.length lc] 25)) := by
    have := new_obj (w.alloc (gc t A c)) (.cells #[.slice L l.length lc] 25)
    rw [s1] at this; exact this
  have z1 : ((w.alloc (gc t A c)).alloc (.cells #[.slice L l.length lc] 25)).heap.size = w.heap.size + 2 := by simp
  have C1 := gcheck _ (h.below b1) (by simp; omega) hsz
  have HB := Lib.hid (And.intro b1 (And.intro g1 (And.intro l1 z1)))
  have HT := Lib.hid (And.intro h (And.intro hat (And.intro hcap hl)))
  clear h hat hcap hl hsz e hw b1 s1 g1 l1 z1
  by_cases hz : genV t = 0
  · obtain ⟨v', r, hp, hlen⟩ := mend_run l hz
    have HR := Lib.hid (And.intro (gen_right hz).1 (And.intro (small30 hz) (And.intro hp hlen)))
    rw [hz, errOf_ok] at C1 ⊢
    have C1 := Lib.hid C1
    clear hz hp hlen
    generalize mendL t l = cs at HR ⊢
    go_enter Tryd.func32, Tryd.ntmps32
    go_wp2_with fail
    generalize (w.alloc (gc t A c)).alloc (.cells #[.slice L l.length lc] 25) = W1 at *
    refine C1.out.mono ?_
    rintro e w2 ⟨rfl, hb2⟩
    have B2 := Lib.hid (HB.out.1.trans (hb2.mono HB.out.1.size))
    obtain ⟨k0, k1, k2, k3⟩ := (HB.out.2.1.below hb2).facts
    have IS := Lib.hid (show IL w.heap.size (w.heap.size + 1) l (fun b => b = w.heap.size + 1) w2 from ⟨fun b => Iff.rfl, by omega, HT.out.2.2.2, B2.out.size, L, lc, (hb2.block _ HB.out.2.2.1.lt).trans HB.out.2.2.1, HT.out.2.1.below B2.out, HT.out.2.2.1⟩)
    have RC := record_ok (src_mend w.heap.size (w.heap.size + 1)) (HT.out.1.below B2.out) HR.out.1 HR.out.2.1 IS.out HR.out.2.2.1 (by have := HR.out.2.2.2; omega)
    have RC := Lib.hid RC
    clear hb2 C1
    go_wp2_with fail
    refine RC.out.mono ?_
    rintro e w3 ⟨A', c', X', rfl, hown, hmv⟩
    have HO := Lib.hid (own_less hown B2.out.size)
    have B3 := Lib.hid (B2.out.trans (Mv.below hmv (fun b hb => by show w.heap.size ≤ b; have : b = w.heap.size + 1 := hb; omega) B2.out.size))
    clear hown hmv RC
    go_wp2_with fail
    go_ret2
    exact ⟨A', c', rfl, HO.out, B3.out⟩
  · have RE := Lib.hid (errOf_no hz)
    have HL := Lib.hid (show mendL t l = [] by unfold mendL; rw [if_neg hz])
    rw [errOf_no hz] at C1
    generalize genV t = q at C1 RE
    have C1 := Lib.hid C1
    clear hz
    go_enter Tryd.func32, Tryd.ntmps32
    go_wp2_with fail
    generalize (w.alloc (gc t A c)).alloc (.cells #[.slice L l.length lc] 25) = W1 at *
    refine C1.out.mono ?_
    rintro e w2 ⟨rfl, hb2⟩
    have B2 := Lib.hid (HB.out.1.trans (hb2.mono HB.out.1.size))
    clear hb2
    go_wp2_with fail
    go_ret2
    exact ⟨none, 0, by rw [HL.out, RE.out]; rfl, by rw [HL.out]; exact Own.none, B2.out⟩
end Go.Proofs.YtplladlodgfloaaDoor.Gens

/- Plain laws: what Replay tells. No program. -/
namespace Go.Proofs.YtplladlodgfloaaDoor.Gens
open Vals
set_option linter.unusedVariables false

theorem read_err {l : List Int} {m e : Int} (h : readC l m = .error e) : e = 1 ∨ e = 5 := by
  unfold readC at h
  split at h
  · injection h with h; omega
  · split at h
    · cases h
    · injection h with h; omega
theorem rep_err {f : List Int → Except Int (List Int × Tr × List Int)} (hf : ∀ s e, f s = .error e → e = 1 ∨ e = 5) : ∀ n s e, rep f n s = .error e → e = 1 ∨ e = 5
  | 0, s, e, h => by simp [rep] at h
  | n + 1, s, e, h => by
    simp only [rep] at h
    cases h1 : f s with
    | error e1 => rw [h1] at h; injection h with h; rw [← h]; exact hf s e1 h1
    | ok p =>
      obtain ⟨c1, v, s1⟩ := p
      rw [h1] at h
      cases h2 : rep f n s1 with
      | error e2 => simp only [h2] at h; injection h with h; rw [← h]; exact rep_err hf n s1 e2 h2
      | ok q => simp only [h2] at h; cases h
mutual
theorem play_err : ∀ (g : Gn) (s : List Int) (e : Int), play readC g s = .error e → e = 1 ∨ e = 5
  | .node k a b subs, s, e, h => by
    simp only [play] at h
    split at h
    · cases h
    · split at h
      · cases h1 : readC s (b - a) with
        | error e1 => rw [h1] at h; injection h with h; rw [← h]; exact read_err h1
        | ok p => rw [h1] at h; cases h
      · split at h
        · cases h1 : readC s (subs.length - 1) with
          | error e1 => rw [h1] at h; injection h with h; rw [← h]; exact read_err h1
          | ok p =>
            obtain ⟨x, s1⟩ := p
            simp only [h1] at h
            cases h2 : playAt readC subs x.toNat s1 with
            | error e2 => simp only [h2] at h; injection h with h; rw [← h]; exact at_err subs x.toNat s1 e2 h2
            | ok q => simp only [h2] at h; cases h
        · split at h
          · cases h1 : playAll readC subs s with
            | error e1 => simp only [h1] at h; injection h with h; rw [← h]; exact all_err subs s e1 h1
            | ok q => simp only [h1] at h; cases h
          · cases h1 : readC s a with
            | error e1 => rw [h1] at h; injection h with h; rw [← h]; exact read_err h1
            | ok p =>
              obtain ⟨x, s1⟩ := p
              simp only [h1] at h
              cases h2 : playRep readC subs x.toNat s1 with
              | error e2 => simp only [h2] at h; injection h with h; rw [← h]; exact rep_err' subs x.toNat s1 e2 h2
              | ok q => simp only [h2] at h; cases h
theorem at_err : ∀ (l : List Gn) n s e, playAt readC l n s = .error e → e = 1 ∨ e = 5
  | [], n, s, e, h => by simp [playAt] at h
  | g :: l, 0, s, e, h => by simp only [playAt] at h; exact play_err g s e h
  | g :: l, n + 1, s, e, h => by simp only [playAt] at h; exact at_err l n s e h
theorem all_err : ∀ (l : List Gn) s e, playAll readC l s = .error e → e = 1 ∨ e = 5
  | [], s, e, h => by simp [playAll] at h
  | g :: l, s, e, h => by
    simp only [playAll] at h
    cases h1 : play readC g s with
    | error e1 => rw [h1] at h; injection h with h; rw [← h]; exact play_err g s e1 h1
    | ok p =>
      obtain ⟨c1, v, s1⟩ := p
      simp only [h1] at h
      cases h2 : playAll readC l s1 with
      | error e2 => simp only [h2] at h; injection h with h; rw [← h]; exact all_err l s1 e2 h2
      | ok q => simp only [h2] at h; cases h
theorem rep_err' : ∀ (l : List Gn) n s e, playRep readC l n s = .error e → e = 1 ∨ e = 5
  | [], n, s, e, h => by simp [playRep] at h
  | g :: l, n, s, e, h => by simp only [playRep] at h; exact rep_err (fun s e h => play_err g s e h) n s e h
end
/-- what Replay tells of a right generator -/
def repG (t : Gn) (l : List Int) : Except Int Tr := match play readC t l with
  | .ok (_, v, r) => if r = [] then .ok v else .error 3
  | .error e => .error e
/-- what Replay tells -/
def repV (t : Gn) (l : List Int) : Except Int Tr := if genV t = 0 then repG t l else .error (genV t)
def trOf (r : Except Int Tr) : Tr := match r with | .ok v => v | .error _ => .node false 0 []
def errI (r : Except Int Tr) : Int := match r with | .ok _ => 0 | .error e => e
end Go.Proofs.YtplladlodgfloaaDoor.Gens

/- What is tried in a tape's place: the mathematics. No program. -/
namespace Go.Proofs.YtplladlodgfloaaDoor.Gens
open Go.RowKit Lists Ints Vals
set_option linter.unusedVariables false

/-- a list without the place i -/
def lackL (l : List Int) (i : Nat) : List Int := l.take i ++ l.drop (i + 1)
/-- what is tried at the place i -/
def triesL (l : List Int) (i : Nat) : List (List Int) := if 0 < l.getD i 0 then [l.set i 0, l.set i (l.getD i 0 / 2), l.set i (l.getD i 0 - 1), lackL l i] else [lackL l i]
/-- what is kept of one that is tried -/
def keptL (t : Gn) (l x : List Int) : List (List Int) := if lessL (mendL t x) l = true then [mendL t x] else []
def lessAt (t : Gn) (l : List Int) (i : Nat) : List (List Int) := (triesL l i).flatMap (keptL t l)
def lessTo (t : Gn) (l : List Int) (k : Nat) : List (List Int) := (List.range k).flatMap (lessAt t l)
/-- the candidates -/
def roseL (t : Gn) (l : List Int) : List (List Int) := lessTo t l l.length

theorem lessTo_zero (t : Gn) (l : List Int) : lessTo t l 0 = [] := rfl
theorem lessTo_succ (t : Gn) (l : List Int) (k : Nat) : lessTo t l (k + 1) = lessTo t l k ++ lessAt t l k := by
  unfold lessTo
  rw [List.range_succ, List.flatMap_append, List.flatMap_singleton]
theorem lessAt_four (t : Gn) (l : List Int) (i : Nat) (h : 0 < l.getD i 0) : lessAt t l i = keptL t l (l.set i 0) ++ keptL t l (l.set i (l.getD i 0 / 2)) ++ keptL t l (l.set i (l.getD i 0 - 1)) ++ keptL t l (lackL l i) := by
  unfold lessAt triesL
  rw [if_pos h]
  simp [List.append_assoc]
theorem lessAt_one (t : Gn) (l : List Int) (i : Nat) (h : ¬ 0 < l.getD i 0) : lessAt t l i = keptL t l (lackL l i) := by
  unfold lessAt triesL
  rw [if_neg h]
  simp
theorem kept_len (t : Gn) (l x : List Int) : (keptL t l x).length ≤ 1 := by unfold keptL; split <;> simp
theorem lessAt_len (t : Gn) (l : List Int) (i : Nat) : (lessAt t l i).length ≤ 4 := by
  by_cases h : 0 < l.getD i 0
  · rw [lessAt_four t l i h]
    have a := kept_len t l (l.set i 0)
    have b := kept_len t l (l.set i (l.getD i 0 / 2))
    have c := kept_len t l (l.set i (l.getD i 0 - 1))
    have d := kept_len t l (lackL l i)
    simp only [List.length_append]
    omega
  · rw [lessAt_one t l i h]
    have d := kept_len t l (lackL l i)
    omega
theorem lessTo_len (t : Gn) (l : List Int) : ∀ k, (lessTo t l k).length ≤ 4 * k
  | 0 => by simp [lessTo_zero]
  | k + 1 => by
    rw [lessTo_succ, List.length_append]
    have := lessTo_len t l k
    have := lessAt_len t l k
    omega
theorem rose_len (t : Gn) (l : List Int) : (roseL t l).length ≤ 4 * l.length := lessTo_len t l l.length
theorem kept_mem {t : Gn} {l x y : List Int} (h : y ∈ keptL t l x) : y = mendL t x ∧ lessL y l = true := by
  unfold keptL at h
  split at h
  · rename_i hl
    have : y = mendL t x := by simpa using h
    subst this
    exact ⟨rfl, hl⟩
  · cases h
theorem rose_mem {t : Gn} {l y : List Int} (h : y ∈ roseL t l) : (∃ x, y = mendL t x) ∧ lessL y l = true := by
  unfold roseL lessTo at h
  obtain ⟨i, _, h1⟩ := List.mem_flatMap.1 h
  unfold lessAt at h1
  obtain ⟨x, _, h2⟩ := List.mem_flatMap.1 h1
  obtain ⟨h3, h4⟩ := kept_mem h2
  exact ⟨⟨x, h3⟩, h4⟩
theorem lack_len (l : List Int) (i : Nat) : (lackL l i).length ≤ l.length := by
  unfold lackL
  simp only [List.length_append, List.length_take, List.length_drop]
  omega
theorem lack_len' (l : List Int) (i : Nat) (h : i < l.length) : (lackL l i).length + 1 = l.length := by
  unfold lackL
  simp only [List.length_append, List.length_take, List.length_drop]
  omega
/-- each can be played -/
theorem rep_mend {t : Gn} (h0 : genV t = 0) (x : List Int) : ∃ v, repV t (mendL t x) = .ok v := by
  obtain ⟨v, r, h1, _⟩ := mend_run (t := t) x h0
  refine ⟨v, ?_⟩
  have h2 := mend_read (gen_right h0).1 h1 []
  rw [List.append_nil] at h2
  unfold repV repG
  rw [if_pos h0, h2]
  rfl
theorem rose_facts {t : Gn} (h0 : genV t = 0) (l : List Int) : (roseL t l).length ≤ 4 * l.length ∧ ∀ y ∈ roseL t l, (∃ v, repV t y = .ok v) ∧ lessL y l = true ∧ y.length ≤ 1399680 := by
  refine ⟨rose_len t l, fun y hy => ?_⟩
  obtain ⟨⟨x, rfl⟩, h2⟩ := rose_mem hy
  obtain ⟨_, _, _, hl⟩ := mend_run (t := t) x h0
  exact ⟨rep_mend h0 x, h2, hl⟩
/-- what can be played is mended as it is -/
theorem rep_own {t : Gn} {l : List Int} (h : errI (repV t l) = 0) : genV t = 0 ∧ mendL t l = l := by
  unfold repV at h
  by_cases h0 : genV t = 0
  · rw [if_pos h0] at h
    refine ⟨h0, ?_⟩
    obtain ⟨v, r, h1, _⟩ := mend_run (t := t) l h0
    have h3 := read_own (gen_right h0).1 h1
    refine h3.1 ?_
    unfold repG at h
    cases hp : play readC t l with
    | error e =>
      rw [hp] at h
      have h : e = 0 := h
      rcases play_err t l e hp with h' | h' <;> omega
    | ok p =>
      obtain ⟨c, v', r'⟩ := p
      rw [hp] at h
      by_cases hr' : r' = []
      · subst hr'; exact ⟨c, v', rfl⟩
      · have h : errI (if r' = [] then Except.ok v' else Except.error 3) = 0 := h
        rw [if_neg hr'] at h
        have h : (3 : Int) = 0 := h
        omega
  · rw [if_neg h0] at h
    exact absurd h h0
end Go.Proofs.YtplladlodgfloaaDoor.Gens

/- The program's with and without (package rose). Conditions: the sizes. -/
namespace Go.Proofs.YtplladlodgfloaaDoor.Gens
open Go.RowKit Lists Ints Vals
set_option linter.unusedVariables false

theorem own_stored {w : World} {base c : Nat} {A : Option Addr} {z : List Int} (h : Own w base A c z) (i : Nat) (hi : i < z.length) (x : Int) :
    ∃ g, A = some ⟨g, 0, none⟩ ∧ base ≤ g ∧ g < w.heap.size ∧ w.cell? ⟨g, i, none⟩ = some (.int .i64 (z.getD i 0)) ∧ w.frozen? ⟨g, i, none⟩ = false ∧ Own (w.setCell ⟨g, i, none⟩ (.int .i64 x)) base A c (z.set i x) ∧ w.grownBy (w.setCell ⟨g, i, none⟩ (.int .i64 x)) (some g) := by
  have h0 := h
  unfold Own at h
  rcases h.2 with ⟨he, hn⟩ | ⟨g, cap, cur, he, hb, hh, _⟩
  · omega
  · injection he with e1 e2 e3
    subst e1
    obtain ⟨s1, s2⟩ := h.stored i (.int .i64 x)
    refine ⟨g, rfl, hb, (Array.getElem?_eq_some_iff.1 hh).1, ?_, h.frozenAt i, ?_, s2⟩
    · rw [h.cellAt i (by omega), List.getElem?_map, List.getElem?_eq_getElem hi]
      simp [List.getD, List.getElem?_eq_getElem hi]
    · unfold Own
      rw [List.length_set, List.map_set]
      exact s1

set_option maxHeartbeats 2000000 in
set_option maxRecDepth 100000 in
theorem with_ok {L : Option Addr} {l : List Int} {lc N : Nat} (w : World) (hat : At w N L l) (hN : N ≤ w.heap.size) (hln : l.length ≤ 4294967296) (i : Nat) (hi : i < l.length) (x : Int) :
    Calls Tryd.prog 34 #[.slice L l.length lc, .int .i64 i, .int .i64 x] w (NewL (l.set i x) w) := by
  have C := Lib.hid (clone_ok (lc := lc) w hat hN hln)
  have HL := Lib.hid (show (l.set i x).length = l.length by simp)
  clear hat hN
  go_enter Tryd.func34, Tryd.ntmps34
  go_wp2_with fail
  ((with_reducible refine C.out.mono ?_))
  rintro e w1 ⟨A1, c1, rfl, own1, hb1⟩
  obtain ⟨g, rfl, hg, hlt, k0, k1, own2, g2⟩ := own_stored own1 i hi x
  have O2 := Lib.hid own2
  have B2 := Lib.hid (hb1.grown g2 hb1.size (by intro k hk; cases hk; exact hg))
  clear own1 own2 g2 hb1 C
  go_wp2_with fail
  go_ret
  exact ⟨some ⟨g, 0, none⟩, c1, (by rw [HL.out]; rfl), O2.out, B2.out⟩

theorem rows_two {w : World} {b N : Nat} {D E : Option Addr} {x y : List Int} {d e : Nat} {T : TypeId} (hN : b < N) (h : w.heap[b]? = some (.cells #[.slice D x.length d, .slice E y.length e] T (0, 0))) (hd : x.length ≤ d) (he : y.length ≤ e) (hx : At w N D x) (hy : At w N E y) : RowsAt w N (some ⟨b, 0, none⟩) [x, y] := fun _ =>
  ⟨b, 0, rfl, hN, fun j hj => by
    have hj : j < 2 := hj
    obtain rfl | rfl : j = 0 ∨ j = 1 := by omega
    · exact ⟨D, d, by rw [Lib.cell_of_heap h]; rfl, hd, hx⟩
    · exact ⟨E, e, by rw [Lib.cell_of_heap h]; rfl, he, hy⟩⟩
theorem rs_take {w : World} {N : Nat} {A : Option Addr} {l : List Int} (h : At w N A l) (k : Nat) : At w N A (l.take k) := fun hp => by
  rw [List.length_take] at hp
  obtain ⟨b, o, e, hb, hc⟩ := h (by omega)
  refine ⟨b, o, e, hb, fun j hj => ?_⟩
  rw [List.length_take] at hj
  rw [hc j (by omega)]
  simp [List.getD, show j < k by omega]
theorem rs_drop {w : World} {N b off : Nat} {l : List Int} (h : At w N (some ⟨b, off, none⟩) l) (k : Nat) : At w N (some ⟨b, off + k, none⟩) (l.drop k) := fun hp => by
  rw [List.length_drop] at hp
  obtain ⟨b', o', e, hb, hc⟩ := h (by omega)
  injection e with e
  injection e with e1 e2
  subst e1; subst e2
  refine ⟨b, off + k, rfl, hb, fun j hj => ?_⟩
  rw [List.length_drop] at hj
  have h1 := hc (k + j) (by omega)
  rw [show off + k + j = off + (k + j) by omega, h1]
  simp [List.getD, List.getElem?_drop]

theorem bel_new (w : World) (o : Obj) : Below w.heap.size w (w.alloc o).drew := ((Below.refl _ _).alloc (Nat.le_refl _) _).drew
theorem heap_new3 (w : World) (o : Obj) : (w.alloc o).drew.heap[w.heap.size]? = some o := heap_new2 w o
theorem lt_new (w : World) (o : Obj) : w.heap.size < (w.alloc o).drew.heap.size := by show w.heap.size < (w.alloc o).heap.size; simp
/-- the call in without -/
theorem lack_call (w w' : World) {b off N lc : Nat} {l : List Int} (i : Nat) (hi : i < l.length) (hcap : l.length ≤ lc) (hat : At w N (some ⟨b, off, none⟩) l) (hN : N ≤ w.heap.size) (hln : l.length ≤ 4294967296) (hb : Below w.heap.size w w') (E : Option Addr) (e : Nat) (T : TypeId) (g : Nat) (hg : w.heap.size ≤ g) (hg2 : g < w'.heap.size)
    (hE : E = if lc = i + 1 then some ⟨b, off, none⟩ else some ⟨b, off + (i + 1), none⟩) (he : e = lc - (i + 1)) (h : w'.heap[g]? = some (.cells #[.slice (some ⟨b, off, none⟩) i lc, .slice E (l.length - (i + 1)) e] T (0, 0))) :
    Calls Tryd.prog 46 #[.slice (some ⟨g, 0, none⟩) 2 2] w' fun e w2 => ∃ (A : Option Addr) (c : Nat), e = .returned (.slice A (lackL l i).length c) ∧ Own w2 w.heap.size A c (lackL l i) ∧ Below w.heap.size w w2 := by
  have h1 : (l.take i).length = i := by rw [List.length_take]; omega
  have h2 : (l.drop (i + 1)).length = l.length - (i + 1) := by rw [List.length_drop]
  have hf : [l.take i, l.drop (i + 1)].flatten = lackL l i := by simp [lackL]
  rw [← h2] at h
  have h := (show w'.heap[g]? = some (.cells #[.slice (some ⟨b, off, none⟩) (l.take i).length lc, .slice E (l.drop (i + 1)).length e] T (0, 0)) by rw [h1]; exact h)
  have hw : At w' w'.heap.size (some ⟨b, off, none⟩) l := (hat.below (hb.mono hN)).more (Nat.le_trans hN hb.size)
  have hE' : At w' w'.heap.size E (l.drop (i + 1)) := by
    subst hE
    by_cases hc : lc = i + 1
    · intro hp
      rw [h2] at hp
      omega
    · rw [if_neg hc]
      exact rs_drop hw (i + 1)
  have R := rows_two hg2 h (by omega) (by omega) (rs_take hw i) hE'
  have C := concat_ok [l.take i, l.drop (i + 1)] (some ⟨g, 0, none⟩) 2 w'.heap.size w' R (Nat.le_refl _) (by simp) (by rw [hf]; exact Nat.le_trans (lack_len l i) hln)
  rw [hf] at C
  refine C.mono ?_
  rintro e w2 ⟨A, c, rfl, ho, hb2⟩
  exact ⟨A, c, rfl, own_less ho hb.size, hb.trans (hb2.mono hb.size)⟩

set_option maxHeartbeats 4000000 in
set_option maxRecDepth 100000 in
theorem without_ok {L : Option Addr} {l : List Int} {lc N : Nat} (w : World) (hat : At w N L l) (hN : N ≤ w.heap.size) (hcap : l.length ≤ lc) (hln : l.length ≤ 4294967296) (i : Nat) (hi : i < l.length) :
    Calls Tryd.prog 35 #[.slice L l.length lc, .int .i64 i] w (NewL (lackL l i) w) := by
  obtain ⟨b, off, rfl, _, _⟩ := hat (by omega)
  have C := Lib.hid (fun w' hb E e T g => lack_call w w' i hi hcap hat hN hln hb E e T g)
  clear hat hN
  generalize lackL l i = z at *
  generalize l.length = m at *
  by_cases hc : lc = i + 1
  · subst hc
    obtain rfl : m = i + 1 := by omega
    have CC := Lib.hid (fun w' hb g T hg hg2 (h : w'.heap[g]? = some (.cells #[.slice (some ⟨b, off, none⟩) i (i + 1), .slice (some ⟨b, off, none⟩) 0 0] T (0, 0))) => C.out w' hb (some ⟨b, off, none⟩) (i + 1 - (i + 1)) T g hg hg2 (by rw [if_pos rfl]) rfl (by simpa using h))
    clear C
    have s0 : IntKind.i64.wrap ((i : Int) + 1) = (i : Int) + 1 := IntWalk.i64_in _ (by omega)
    have s1 : (0 : Int) ≤ (i : Int) + 1 := by omega
    have s2 : ((i : Int) + 1).toNat = i + 1 := by omega
    have s3 : (0 : Int) ≤ (i : Int) := by omega
    have s4 : (i : Int) ≤ ((i + 1 : Nat) : Int) := by omega
    have s6 : (i : Int) ≤ (i : Int) + 1 := by omega
    have s5 : (i : Int) + 1 ≤ ((i + 1 : Nat) : Int) := by omega
    clear hcap hi
    go_enter Tryd.func35, Tryd.ntmps35
    go_wp2_with fail
    go_region_held3 (fun w' => True) (trivial) (((with_reducible refine (CC.out _ (bel_new _ _) w.heap.size _ (Nat.le_refl _) (lt_new _ _) (heap_new3 _ _)).mono ?_); rintro e w2 ⟨A2, c2, rfl, ho, hb⟩))
    go_wp2_with fail
    go_ret
    exact ⟨A2, c2, rfl, ho, hb⟩
  · have CC := Lib.hid (fun w' hb g T hg hg2 h => C.out w' hb (some ⟨b, off + (i + 1), none⟩) (lc - (i + 1)) T g hg hg2 (by rw [if_neg hc]) rfl h)
    have hc2 : i + 1 < lc := by omega
    clear C
    have s0 : IntKind.i64.wrap ((i : Int) + 1) = (i : Int) + 1 := IntWalk.i64_in _ (by omega)
    have s1 : (0 : Int) ≤ (i : Int) + 1 := by omega
    have s2 : ((i : Int) + 1).toNat = i + 1 := by omega
    have s3 : (0 : Int) ≤ (i : Int) := by omega
    have s4 : (i : Int) ≤ (lc : Int) := by omega
    have s5 : (i : Int) + 1 ≤ (m : Int) := by omega
    have s6 : (m : Int) ≤ (lc : Int) := by omega
    have s7 : ¬ (i + 1 = lc) := by omega
    have s8 : ¬ (lc = i + 1) := by omega
    clear hc
    go_enter Tryd.func35, Tryd.ntmps35
    go_wp2_with fail
    go_region_held3 (fun w' => True) (trivial) (((with_reducible refine (CC.out _ (bel_new _ _) w.heap.size _ (Nat.le_refl _) (lt_new _ _) (heap_new3 _ _)).mono ?_); rintro e w2 ⟨A2, c2, rfl, ho, hb⟩))
    go_wp2_with fail
    go_ret
    exact ⟨A2, c2, rfl, ho, hb⟩
end Go.Proofs.YtplladlodgfloaaDoor.Gens
