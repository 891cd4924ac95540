/- Fractions as impl reckons with them: sign, negated, whole. -/
import Derived.Test.YthokphoojmpajahDoorFracLaw
import Derived.RangeFuncBox
namespace Go.Proofs.YthokphoojmpajahDoor
open Go.RowKit Go.Proofs.Pin

/-- A fraction that is reckoned with, as a value: its top, its bottom, its sign. -/
def frV (r : Option Addr) (lr cr : Nat) (s : Option Addr) (ls cs : Nat) (b : Bool) : Value := .agg #[.slice r lr cr, .slice s ls cs, .bool b]
def sgnF (b : Bool) (n : Nat) : Int := if n = 0 then 0 else if b then -1 else 1
def negB (b : Bool) (n : Nat) : Bool := !b && decide (0 < n)

/-- A block of the call's own that holds just these cells. -/
def BoxC (W : World) (B : Nat) (t : TypeId) (cs : Array Value) : Prop := W.heap[B]? = some (.cells cs t (0, 0))
theorem boxc_lt {W : World} {B : Nat} {t : TypeId} {cs : Array Value} (h : BoxC W B t cs) : B < W.heap.size := (Array.getElem?_eq_some_iff.1 h).1
theorem boxc_kept {W W' : World} {B : Nat} {t : TypeId} {cs : Array Value} {row : Option Nat} (h : BoxC W B t cs) (hg : W.grownBy W' row) (hne : some B ≠ row) : BoxC W' B t cs := (hg.block B (boxc_lt h) hne).trans h
theorem boxc_keep {W W' : World} {B : Nat} {t : TypeId} {cs : Array Value} (h : BoxC W B t cs) (hb : Below W.heap.size W W') : BoxC W' B t cs := (hb.block B (boxc_lt h)).trans h
theorem boxc_new (W : World) (t : TypeId) (cs : Array Value) : BoxC (W.alloc (.cells cs t)) W.heap.size t cs := World.alloc_heap_new W _
theorem boxc_alloc {W : World} {B : Nat} {t : TypeId} {cs : Array Value} (h : BoxC W B t cs) (o : Obj) : BoxC (W.alloc o) B t cs := boxc_kept h (World.grownBy_alloc W o none) (by simp)
theorem boxc_cell {W : World} {B : Nat} {t : TypeId} {cs : Array Value} (h : BoxC W B t cs) (i : Nat) : W.cell? ⟨B, i, none⟩ = cs[i]? := by
  have e : W.heap[B]? = _ := h
  simp [World.cell?, e]
theorem boxc_frozen {W : World} {B : Nat} {t : TypeId} {cs : Array Value} (h : BoxC W B t cs) (i : Nat) : W.frozen? ⟨B, i, none⟩ = false := by
  have e : W.heap[B]? = _ := h
  simp [World.frozen?, e]
theorem boxc3 {W : World} {B : Nat} {t : TypeId} {x y z : Value} (h : BoxC W B t #[x, y, z]) : W.cell? ⟨B, 0, none⟩ = some x ∧ W.cell? ⟨B, 1, none⟩ = some y ∧ W.cell? ⟨B, 2, none⟩ = some z ∧ (∀ j, W.frozen? ⟨B, j, none⟩ = false) ∧ B < W.heap.size :=
  ⟨boxc_cell h 0, boxc_cell h 1, boxc_cell h 2, boxc_frozen h, boxc_lt h⟩
theorem boxc2 {W : World} {B : Nat} {t : TypeId} {x y : Value} (h : BoxC W B t #[x, y]) : W.cell? ⟨B, 0, none⟩ = some x ∧ W.cell? ⟨B, 1, none⟩ = some y ∧ (∀ j, W.frozen? ⟨B, j, none⟩ = false) ∧ B < W.heap.size :=
  ⟨boxc_cell h 0, boxc_cell h 1, boxc_frozen h, boxc_lt h⟩
theorem boxc_set0 {W : World} {B : Nat} {t : TypeId} {x y z : Value} (h : BoxC W B t #[x, y, z]) (v : Value) : BoxC (W.setCell ⟨B, 0, none⟩ v) B t #[v, y, z] := by
  show (W.heap.modify B _)[B]? = _
  rw [Array.getElem?_modify, if_pos rfl, show W.heap[B]? = _ from h]
  rfl
theorem boxc_set1 {W : World} {B : Nat} {t : TypeId} {x y z : Value} (h : BoxC W B t #[x, y, z]) (v : Value) : BoxC (W.setCell ⟨B, 1, none⟩ v) B t #[x, v, z] := by
  show (W.heap.modify B _)[B]? = _
  rw [Array.getElem?_modify, if_pos rfl, show W.heap[B]? = _ from h]
  rfl
theorem boxc_set2 {W : World} {B : Nat} {t : TypeId} {x y z : Value} (h : BoxC W B t #[x, y, z]) (v : Value) : BoxC (W.setCell ⟨B, 2, none⟩ v) B t #[x, y, v] := by
  show (W.heap.modify B _)[B]? = _
  rw [Array.getElem?_modify, if_pos rfl, show W.heap[B]? = _ from h]
  rfl
theorem below_set3 {B : Nat} {w w' : World} (h : Below B w w') {g : Nat} (hg : B ≤ g) (x y z : Value) : Below B w (((w'.setCell ⟨g, 0, none⟩ x).setCell ⟨g, 1, none⟩ y).setCell ⟨g, 2, none⟩ z) := ((h.setCell (p := ⟨g, 0, none⟩) hg x).setCell (p := ⟨g, 1, none⟩) hg y).setCell (p := ⟨g, 2, none⟩) hg z
theorem below_set2 {B : Nat} {w w' : World} (h : Below B w w') {g : Nat} (hg : B ≤ g) (x y : Value) : Below B w ((w'.setCell ⟨g, 0, none⟩ x).setCell ⟨g, 1, none⟩ y) := (h.setCell (p := ⟨g, 0, none⟩) hg x).setCell (p := ⟨g, 1, none⟩) hg y
theorem gr_set3 (w : World) (g : Nat) (x y z : Value) : w.grownBy (((w.setCell ⟨g, 0, none⟩ x).setCell ⟨g, 1, none⟩ y).setCell ⟨g, 2, none⟩ z) (some g) := grown_two (grown_two (gr_set _ _ _ _) (gr_set _ _ _ _)) (gr_set _ _ _ _)
theorem gr_set2 (w : World) (g : Nat) (x y : Value) : w.grownBy ((w.setCell ⟨g, 0, none⟩ x).setCell ⟨g, 1, none⟩ y) (some g) := grown_two (gr_set _ _ _ _) (gr_set _ _ _ _)

theorem keep_set3 {W : World} {B g i : Nat} {v : Option Value} (h : W.cell? ⟨B, i, none⟩ = v) (hne : B ≠ g) (x y z : Value) : (((W.setCell ⟨g, 0, none⟩ x).setCell ⟨g, 1, none⟩ y).setCell ⟨g, 2, none⟩ z).cell? ⟨B, i, none⟩ = v := by
  have e : (((W.setCell ⟨g, 0, none⟩ x).setCell ⟨g, 1, none⟩ y).setCell ⟨g, 2, none⟩ z).heap[B]? = W.heap[B]? := by
    rw [Below.heap_setCell _ _ _ _ (by simp; omega), Below.heap_setCell _ _ _ _ (by simp; omega), Below.heap_setCell _ _ _ _ (by simp; omega)]
  rw [← h]
  unfold World.cell?
  simp only [e]
theorem own_far {w w' : World} {base g c : Nat} {r : Option Addr} {X : List Int} (o : OwnI w base r c X) (hg : w.grownBy w' (some g)) (hlt : g < base) : OwnI w' base r c X :=
  o.keptR hg (fun k hk j hj => by cases hk; have := own_ge o j hj; omega)
theorem ap_seq {w2 w3 : World} {b2 b3 c2 c3 : Nat} {r2 r3 : Option Addr} {X Y : List Int} (o2 : OwnI w2 b2 r2 c2 X) (o3 : OwnI w3 b3 r3 c3 Y) (hb : w2.heap.size ≤ b3) : ∀ x y, r2 = some x → r3 = some y → x.block ≠ y.block := by
  intro x y hx hy
  have h1 := own_block_lt o2 x.block (by rw [hx]; rfl)
  have h2 := own_ge o3 y.block (by rw [hy]; rfl)
  omega
theorem below_un1 {B : Nat} {w w' : World} (h : Below B w.drew w') : Below B w w' := ⟨h.os, h.tape, h.output, h.size, h.block⟩

theorem below_un2 {w w' : World} (h : Below w.drew.heap.size w.drew w') : Below w.heap.size w w' := ⟨h.os, h.tape, h.output, h.size, h.block⟩

theorem own_blk1 {w : World} {base g : Nat} {zs : List Int} (h : w.heap[g]? = some (.cells (zs.map (Value.int .i64)).toArray 3 (0, 0))) (hb : base ≤ g) (hl : zs.length ≤ maxLen) : OwnI w base (some ⟨g, 0, none⟩) zs.length zs :=
  ⟨by simp, .inr ⟨g, zs.length, _, rfl, hb, h, Nat.le_refl _, hl, by simp, by simp [← List.map_take]⟩⟩

end Go.Proofs.YthokphoojmpajahDoor
