/- The contracts of laws.toFrac and laws.szFrac: a fraction that came in. -/
import Derived.Test.YthokphoojmpajaeDoorGEq
import Derived.Test.YthokphoojmpajaeDoorFracLaw
namespace Go.Proofs.YthokphoojmpajaeDoor
open Go.RowKit Go.Proofs.Pin

/-- A box of three cells. -/
def GBox (W : World) (B : Nat) (t : TypeId) (x y z : Value) : Prop := W.heap[B]? = some (.cells #[x, y, z] t (0, 0))
theorem gbox_kept {W W' : World} {B : Nat} {t : TypeId} {x y z : Value} {row : Option Nat} (h : GBox W B t x y z) (hg : W.grownBy W' row) (hne : some B ≠ row) : GBox W' B t x y z := (hg.block B (Array.getElem?_eq_some_iff.1 h).1 hne).trans h
theorem gbox_keep {W W' : World} {B : Nat} {t : TypeId} {x y z : Value} (h : GBox W B t x y z) (hb : Below W.heap.size W W') : GBox W' B t x y z := (hb.block B (Array.getElem?_eq_some_iff.1 h).1).trans h
theorem gbox_new (W : World) (t : TypeId) (x y z : Value) : GBox (W.alloc (.cells #[x, y, z] t)) W.heap.size t x y z := World.alloc_heap_new W _
theorem gbox_cells {W : World} {B : Nat} {t : TypeId} {x y z : Value} (h : GBox W B t x y z) : W.cell? ⟨B, 0, none⟩ = some x ∧ W.cell? ⟨B, 1, none⟩ = some y ∧ W.cell? ⟨B, 2, none⟩ = some z ∧ (∀ j, W.frozen? ⟨B, j, none⟩ = false) ∧ B < W.heap.size := by
  have e : W.heap[B]? = _ := h
  exact ⟨by simp [World.cell?, e], by simp [World.cell?, e], by simp [World.cell?, e], fun j => by simp [World.frozen?, e], (Array.getElem?_eq_some_iff.1 h).1⟩
theorem gbox_set1 {W : World} {B : Nat} {t : TypeId} {x y z : Value} (h : GBox W B t x y z) (v : Value) : GBox (W.setCell ⟨B, 1, none⟩ v) B t x v z := by
  show (W.heap.modify B _)[B]? = _
  rw [Array.getElem?_modify, if_pos rfl, show W.heap[B]? = _ from h]
  rfl

end Go.Proofs.YthokphoojmpajaeDoor
