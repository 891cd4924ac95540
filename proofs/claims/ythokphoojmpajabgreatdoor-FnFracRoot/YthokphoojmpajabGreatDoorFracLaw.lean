/- The contracts of laws.eqFrac, laws.markFrac and laws.heldFrac. -/
import Derived.Test.YthokphoojmpajabGreatDoorGEq
import Derived.Test.YthokphoojmpajabGreatDoorGMark
import Derived.RangeFuncBox
namespace Go.Proofs.YthokphoojmpajabGreatDoor
open Go.RowKit Go.Proofs.Pin

theorem sl_dN {w : World} {a : Option Addr} {zs : List Int} (h : Sl w a zs) (q : Nat) : Sl (w.drewN q) a zs := h
theorem gr_set (w : World) (b i : Nat) (v : Value) : w.grownBy (w.setCell ⟨b, i, none⟩ v) (some b) :=
  ⟨rfl, rfl, rfl, by simp, fun k _ hk => Below.heap_setCell _ _ _ _ (fun e => hk (by simp [e]))⟩
/-- A fraction as a value. -/
def fracV (b : Bool) (r : Option Addr) (lr cr : Nat) (s : Option Addr) (ls cs : Nat) : Value := .agg #[.bool b, .slice r lr cr, .slice s ls cs]

/-- Two blocks have turned, one behind the other. -/
def grown2 (w w' : World) (r s : Option Nat) : Prop := ∃ w1, w.grownBy w1 r ∧ w1.grownBy w' s
theorem sl_two {w w' : World} {r s : Option Nat} {b : Option Addr} {ys : List Int} (h : Sl w b ys) (hg : grown2 w w' r s) (h1 : ∀ g, r = some g → Apart b ys g) (h2 : ∀ g, s = some g → Apart b ys g) : Sl w' b ys := by
  obtain ⟨w1, g1, g2⟩ := hg
  exact (h.apartR g1 h1).apartR g2 h2
theorem below_two {B : Nat} {w0 w w' : World} {r s : Option Nat} (h : Below B w0 w) (hg : grown2 w w' r s) (hB : B ≤ w0.heap.size) (h1 : ∀ g, r = some g → B ≤ g) (h2 : ∀ g, s = some g → B ≤ g) : Below B w0 w' := by
  obtain ⟨w1, g1, g2⟩ := hg
  have k1 := h.grown g1 (Nat.le_trans hB h.size) h1
  exact k1.grown g2 (Nat.le_trans hB k1.size) h2

theorem own_block_lt {w : World} {base cap : Nat} {a : Option Addr} {zs : List Int} (h : OwnI w base a cap zs) : ∀ k, a.map (·.block) = some k → k < w.heap.size := by
  intro k hk
  rcases h.parts with ⟨rfl, _⟩ | ⟨g', rfl, _, hl⟩
  · cases hk
  · cases hk; exact hl

/-- The box of a fraction. -/
def FBox (W : World) (B : Nat) (b : Bool) (x y : Value) : Prop := W.heap[B]? = some (.cells #[.bool b, x, y] 25 (0, 0))
theorem fbox_kept {W W' : World} {B : Nat} {b : Bool} {x y : Value} {row : Option Nat} (h : FBox W B b x y) (hg : W.grownBy W' row) (hne : some B ≠ row) : FBox W' B b x y := (hg.block B (Array.getElem?_eq_some_iff.1 h).1 hne).trans h
theorem fbox_keep {W W' : World} {B : Nat} {b : Bool} {x y : Value} (h : FBox W B b x y) (hb : Below W.heap.size W W') : FBox W' B b x y := (hb.block B (Array.getElem?_eq_some_iff.1 h).1).trans h
theorem fbox_two {W W' : World} {B : Nat} {b : Bool} {x y : Value} {r s : Option Nat} (h : FBox W B b x y) (hg : grown2 W W' r s) (h1 : some B ≠ r) (h2 : some B ≠ s) : FBox W' B b x y := by
  obtain ⟨w1, g1, g2⟩ := hg
  exact fbox_kept (fbox_kept h g1 h1) g2 h2
theorem fbox_new (W : World) (b : Bool) (x y : Value) : FBox (W.alloc (.cells #[.bool b, x, y] 25)) W.heap.size b x y := World.alloc_heap_new W _
theorem fbox_cells {W : World} {B : Nat} {b : Bool} {x y : Value} (h : FBox W B b x y) : W.cell? ⟨B, 0, none⟩ = some (.bool b) ∧ W.cell? ⟨B, 1, none⟩ = some x ∧ W.cell? ⟨B, 2, none⟩ = some y := by
  have e : W.heap[B]? = _ := h
  simp [World.cell?, e]
end Go.Proofs.YthokphoojmpajabGreatDoor
