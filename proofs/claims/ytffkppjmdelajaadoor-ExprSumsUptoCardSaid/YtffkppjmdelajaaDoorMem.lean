/- Small laws on memory: what is laid behind a call's own blocks; a block that holds a seed. -/
import Derived.Test.YtffkppjmdelajaaDoorMath
namespace Go.Proofs.YtffkppjmdelajaaDoor.Rng
open Go.RowKit

theorem ret_bool {b : Bool} (h : b = true) : Ending.returned (.bool b) = .returned (.bool true) := by rw [h]
theorem after {w w1 : World} {o : Obj} (h : Below (w.alloc o).heap.size (w.alloc o) w1) : Below w.heap.size w w1 :=
  Below.trans ((Below.refl _ _).alloc (Nat.le_refl _) _) (h.mono (by simp))
theorem on {a b c : World} (h : Below a.heap.size a b) (k : Below b.heap.size b c) : Below a.heap.size a c := h.trans (k.mono h.size)
/-- Block b holds a seed, and may be written. -/
structure InT (b : Nat) (x y : Int) (w : World) : Prop where
  c0 : w.cell? ⟨b, 0, none⟩ = some (.int .u64 x)
  c1 : w.cell? ⟨b, 1, none⟩ = some (.int .u64 y)
  f0 : w.frozen? ⟨b, 0, none⟩ = false
  f1 : w.frozen? ⟨b, 1, none⟩ = false
  lt : b < w.heap.size

theorem InT.below {b : Nat} {x y : Int} {w w' : World} (h : InT b x y w) (hb : Below w.heap.size w w') : InT b x y w' :=
  ⟨(hb.cell (p := ⟨b, 0, none⟩) h.lt).trans h.c0, (hb.cell (p := ⟨b, 1, none⟩) h.lt).trans h.c1, (hb.frozen (p := ⟨b, 0, none⟩) h.lt).trans h.f0, (hb.frozen (p := ⟨b, 1, none⟩) h.lt).trans h.f1, Nat.lt_of_lt_of_le h.lt hb.size⟩
theorem InT.set {b : Nat} {x y : Int} {w : World} (h : InT b x y w) (x' y' : Int) (o : Obj) : InT b x' y' (((w.setCell ⟨b, 0, none⟩ (.int .u64 x')).setCell ⟨b, 1, none⟩ (.int .u64 y')).alloc o) := by
  have ne : (⟨b, 0, none⟩ : Addr) ≠ ⟨b, 1, none⟩ := by simp
  have lt := h.lt
  have k0 : (w.setCell ⟨b, 0, none⟩ (.int .u64 x')).cell? ⟨b, 0, none⟩ = some (.int .u64 x') := World.cell?_setCell_same w _ _ h.c0
  have k1 : (w.setCell ⟨b, 0, none⟩ (.int .u64 x')).cell? ⟨b, 1, none⟩ = some (.int .u64 y) := (World.cell?_setCell_other w _ _ _ ne).trans h.c1
  have q0 : ((w.setCell ⟨b, 0, none⟩ (.int .u64 x')).setCell ⟨b, 1, none⟩ (.int .u64 y')).cell? ⟨b, 0, none⟩ = some (.int .u64 x') := (World.cell?_setCell_other _ _ _ _ ne.symm).trans k0
  have q1 : ((w.setCell ⟨b, 0, none⟩ (.int .u64 x')).setCell ⟨b, 1, none⟩ (.int .u64 y')).cell? ⟨b, 1, none⟩ = some (.int .u64 y') := World.cell?_setCell_same _ _ _ k1
  have z : ((w.setCell ⟨b, 0, none⟩ (.int .u64 x')).setCell ⟨b, 1, none⟩ (.int .u64 y')).heap.size = w.heap.size := by simp [World.setCell]
  have bl : Below ((w.setCell ⟨b, 0, none⟩ (.int .u64 x')).setCell ⟨b, 1, none⟩ (.int .u64 y')).heap.size ((w.setCell ⟨b, 0, none⟩ (.int .u64 x')).setCell ⟨b, 1, none⟩ (.int .u64 y')) (((w.setCell ⟨b, 0, none⟩ (.int .u64 x')).setCell ⟨b, 1, none⟩ (.int .u64 y')).alloc o) := (Below.refl _ _).alloc (Nat.le_refl _) _
  exact InT.below ⟨q0, q1, by simp [h.f0], by simp [h.f1], by rw [z]; exact lt⟩ bl

theorem InT.fresh {w : World} {b T : Nat} (x y : Int) (h : w.heap.size = b) : InT b x y (w.alloc (.cells #[.int .u64 x, .int .u64 y] T)) := by
  subst h
  exact ⟨by simp, by simp, by simp, by simp, by simp⟩
theorem InT.alloc {b : Nat} {x y : Int} {w : World} (h : InT b x y w) (o : Obj) : InT b x y (w.alloc o) := h.below ((Below.refl _ _).alloc (Nat.le_refl _) _)
theorem InT.belowB {B b : Nat} {x y : Int} {w w' : World} (h : InT b x y w) (hb : Below B w w') (hB : b < B) : InT b x y w' :=
  ⟨(hb.cell (p := ⟨b, 0, none⟩) hB).trans h.c0, (hb.cell (p := ⟨b, 1, none⟩) hB).trans h.c1, (hb.frozen (p := ⟨b, 0, none⟩) hB).trans h.f0, (hb.frozen (p := ⟨b, 1, none⟩) hB).trans h.f1, Nat.lt_of_lt_of_le h.lt hb.size⟩
theorem InT.set0 {b : Nat} {x y : Int} {w : World} (h : InT b x y w) (x' y' : Int) : InT b x' y' ((w.setCell ⟨b, 0, none⟩ (.int .u64 x')).setCell ⟨b, 1, none⟩ (.int .u64 y')) := by
  have ne : (⟨b, 0, none⟩ : Addr) ≠ ⟨b, 1, none⟩ := by simp
  have k0 : (w.setCell ⟨b, 0, none⟩ (.int .u64 x')).cell? ⟨b, 0, none⟩ = some (.int .u64 x') := World.cell?_setCell_same w _ _ h.c0
  have k1 : (w.setCell ⟨b, 0, none⟩ (.int .u64 x')).cell? ⟨b, 1, none⟩ = some (.int .u64 y) := (World.cell?_setCell_other w _ _ _ ne).trans h.c1
  exact ⟨(World.cell?_setCell_other _ _ _ _ ne.symm).trans k0, World.cell?_setCell_same _ _ _ k1, by simp [h.f0], by simp [h.f1], by have := h.lt; simpa [World.setCell] using this⟩
end Go.Proofs.YtffkppjmdelajaaDoor.Rng
