/- The contracts of laws.eqFrac, laws.markFrac and laws.heldFrac. -/
import Derived.Test.YthokphoojmpajahDoorGEq
import Derived.Test.YthokphoojmpajahDoorGMark
import Derived.RangeFuncBox
namespace Go.Proofs.YthokphoojmpajahDoor
open Go.RowKit Go.Proofs.Pin

theorem sl_dN {w : World} {a : Option Addr} {zs : List Int} (h : Sl w a zs) (q : Nat) : Sl (w.drewN q) a zs := h
theorem gr_set (w : World) (b i : Nat) (v : Value) : w.grownBy (w.setCell ⟨b, i, none⟩ v) (some b) :=
  ⟨rfl, rfl, rfl, by simp, fun k _ hk => Below.heap_setCell _ _ _ _ (fun e => hk (by simp [e]))⟩
/-- A fraction as a value. -/
def fracV (b : Bool) (r : Option Addr) (lr cr : Nat) (s : Option Addr) (ls cs : Nat) : Value := .agg #[.bool b, .slice r lr cr, .slice s ls cs]

set_option maxRecDepth 20000 in
theorem eqFrac_any (b : Bool) (r1 s1 r2 s2 : Option Addr) (c1 d1 c2 d2 : Nat) (X Y : List Int) (w : World) (h1 : Sl w r1 X) (k1 : Sl w s1 Y) (h2 : Sl w r2 X) (k2 : Sl w s2 Y) (hX : X.length ≤ 1048576) (hY : Y.length ≤ 1048576) :
    Calls Tryd.prog 10 #[fracV b r1 X.length c1 s1 Y.length d1, fracV b r2 X.length c2 s2 Y.length d2] w fun e w' => e = .returned (.bool true) ∧ Below w.heap.size w w' := by
  unfold fracV
  have hbb : (b != b) = false := by simp
  have heX : decide (X = X) = true := by simp
  have heY : decide (Y = Y) = true := by simp
  have hb1 : Below w.heap.size w ((w.alloc (.cells #[.bool b, .slice r1 X.length c1, .slice s1 Y.length d1] 27)).alloc (.cells #[.bool b, .slice r2 X.length c2, .slice s2 Y.length d2] 27)) := ((Below.refl _ w).alloc (Nat.le_refl _) _).alloc (by simp) _
  have H1 := h1.keep hb1
  have K1 := k1.keep hb1
  have H2 := h2.keep hb1
  have K2 := k2.keep hb1
  go_enter Tryd.func10, Tryd.ntmps10
  go_wp2_with fail
  refine (eqIntS_any _ _ _ _ X X _ H1 H2 hX hX).mono ?_
  rintro e w1 ⟨rfl, q, rfl⟩
  go_wp2_with fail
  refine (eqIntS_any _ _ _ _ Y Y _ (sl_dN K1 q) (sl_dN K2 q) hY hY).mono ?_
  rintro e w2 ⟨rfl, q2, rfl⟩
  go_wp2
  go_ret
  exact ⟨rfl, below_dN hb1 _⟩

/-- Two blocks have turned, one behind the other. -/
def grown2 (w w' : World) (r s : Option Nat) : Prop := ∃ w1, w.grownBy w1 r ∧ w1.grownBy w' s
theorem sl_two {w w' : World} {r s : Option Nat} {b : Option Addr} {ys : List Int} (h : Sl w b ys) (hg : grown2 w w' r s) (h1 : ∀ g, r = some g → Apart b ys g) (h2 : ∀ g, s = some g → Apart b ys g) : Sl w' b ys := by
  obtain ⟨w1, g1, g2⟩ := hg
  exact (h.apartR g1 h1).apartR g2 h2
theorem below_two {B : Nat} {w0 w w' : World} {r s : Option Nat} (h : Below B w0 w) (hg : grown2 w w' r s) (hB : B ≤ w0.heap.size) (h1 : ∀ g, r = some g → B ≤ g) (h2 : ∀ g, s = some g → B ≤ g) : Below B w0 w' := by
  obtain ⟨w1, g1, g2⟩ := hg
  have k1 := h.grown g1 (Nat.le_trans hB h.size) h1
  exact k1.grown g2 (Nat.le_trans hB k1.size) h2

theorem own_block_lt {w : World} {base cap : Nat} {a : Option Addr} {zs : List Int} (h : OwnI w base a cap zs) : ∀ k, a.map (·.block) = some k → k < w.heap.size := by
  intro k hk
  rcases h.parts with ⟨rfl, _⟩ | ⟨g', rfl, _, hl⟩
  · cases hk
  · cases hk; exact hl

set_option maxRecDepth 20000 in
theorem markFrac_any (b : Bool) (base base2 : Nat) (r s : Option Addr) (c d : Nat) (X Y : List Int) (k : Int) (w : World) (h : OwnI w base r c X) (h2 : OwnI w base2 s d Y) (hap : ∀ i j, r.map (·.block) = some i → s.map (·.block) = some j → i ≠ j) (hX : X.length ≤ 1048576) (hY : Y.length ≤ 1048576) (hk0 : 0 ≤ k) (hk1 : k ≤ 10000000) :
    Calls Tryd.prog 13 #[fracV b r X.length c s Y.length d, .int .i64 k] w fun e w' => e = .returned (.int .i64 (k + X.length + Y.length)) ∧ OwnI w' base r c (marked k X.length) ∧ OwnI w' base2 s d (marked (k + X.length) Y.length) ∧ grown2 w w' (r.map (·.block)) (s.map (·.block)) := by
  unfold fracV
  obtain ⟨w0, hw0⟩ : ∃ w0, w0 = w.alloc (.cells #[.bool b, .slice r X.length c, .slice s Y.length d] 27) := ⟨_, rfl⟩
  have hg0 : w.grownBy w0 none := by rw [hw0]; exact World.grownBy_alloc _ _ _
  have H := h.kept hg0 (fun _ _ e => by cases e)
  have H2 := h2.kept hg0 (fun _ _ e => by cases e)
  have lr := own_block_lt h
  have hc2 : w0.cell? ⟨w.heap.size, 2, none⟩ = some (.slice s Y.length d) := by rw [hw0]; simp [go_sem]
  go_enter Tryd.func13, Tryd.ntmps13
  go_wp2_with fail
  rw [← hw0]
  refine (mark_any base r c X k w0 H hX hk0 (by omega)).mono ?_
  rintro e w1 ⟨rfl, o1, g1⟩
  have H3 : OwnI w1 base2 s d Y := H2.keptR g1 (fun i hi j hj => (hap i j hi hj).symm)
  have hc3 : w1.cell? ⟨w.heap.size, 2, none⟩ = some (.slice s Y.length d) := g1.cell hc2 (fun e => by have := lr _ e.symm; simp at this)
  clear hw0 hc2
  go_wp2_with fail
  refine (mark_any base2 s d Y (k + X.length) w1 H3 hY (by omega) (by omega)).mono ?_
  rintro e w2 ⟨rfl, o2, g2⟩
  go_wp2
  go_ret
  refine ⟨rfl, o1.keptR g2 (fun i hi j hj => hap j i hj hi), o2, w1, ?_, g2⟩
  have hg0' : w.grownBy w0 (r.map (·.block)) := ⟨hg0.os, hg0.tape, hg0.output, hg0.size, fun i hi _ => hg0.block i hi (fun e => by cases e)⟩
  exact grown_two hg0' g1

set_option maxRecDepth 20000 in
theorem heldFrac_any (b : Bool) (r s : Option Addr) (c d n m : Nat) (k : Int) (w : World) (h : Sl w r (marked k n)) (h2 : Sl w s (marked (k + n) m)) (hn : n ≤ 1048576) (hm : m ≤ 1048576) (hk0 : 0 ≤ k) (hk1 : k ≤ 10000000) :
    Calls Tryd.prog 14 #[fracV b r n c s m d, .int .i64 k] w fun e w' => e = .returned (.int .i64 (k + n + m)) ∧ Below w.heap.size w w' := by
  unfold fracV
  have hb1 : Below w.heap.size w (w.alloc (.cells #[.bool b, .slice r n c, .slice s m d] 27)) := (Below.refl _ w).alloc (Nat.le_refl _) _
  have H := h.keep hb1
  have H2 := h2.keep hb1
  go_enter Tryd.func14, Tryd.ntmps14
  go_wp2_with fail
  refine (held_any r c n k _ H hn hk0 (by omega)).mono ?_
  rintro e w1 ⟨rfl, rfl⟩
  go_wp2_with fail
  refine (held_any s d m (k + n) _ H2 hm (by omega) (by omega)).mono ?_
  rintro e w2 ⟨rfl, rfl⟩
  go_wp2
  go_ret
  exact ⟨rfl, hb1⟩

/-- The box of a fraction. -/
def FBox (W : World) (B : Nat) (b : Bool) (x y : Value) : Prop := W.heap[B]? = some (.cells #[.bool b, x, y] 27 (0, 0))
theorem fbox_kept {W W' : World} {B : Nat} {b : Bool} {x y : Value} {row : Option Nat} (h : FBox W B b x y) (hg : W.grownBy W' row) (hne : some B ≠ row) : FBox W' B b x y := (hg.block B (Array.getElem?_eq_some_iff.1 h).1 hne).trans h
theorem fbox_keep {W W' : World} {B : Nat} {b : Bool} {x y : Value} (h : FBox W B b x y) (hb : Below W.heap.size W W') : FBox W' B b x y := (hb.block B (Array.getElem?_eq_some_iff.1 h).1).trans h
theorem fbox_two {W W' : World} {B : Nat} {b : Bool} {x y : Value} {r s : Option Nat} (h : FBox W B b x y) (hg : grown2 W W' r s) (h1 : some B ≠ r) (h2 : some B ≠ s) : FBox W' B b x y := by
  obtain ⟨w1, g1, g2⟩ := hg
  exact fbox_kept (fbox_kept h g1 h1) g2 h2
theorem fbox_new (W : World) (b : Bool) (x y : Value) : FBox (W.alloc (.cells #[.bool b, x, y] 27)) W.heap.size b x y := World.alloc_heap_new W _
theorem fbox_cells {W : World} {B : Nat} {b : Bool} {x y : Value} (h : FBox W B b x y) : W.cell? ⟨B, 0, none⟩ = some (.bool b) ∧ W.cell? ⟨B, 1, none⟩ = some x ∧ W.cell? ⟨B, 2, none⟩ = some y := by
  have e : W.heap[B]? = _ := h
  simp [World.cell?, e]
end Go.Proofs.YthokphoojmpajahDoor
