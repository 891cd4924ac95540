/- The contracts of laws.toFrac and laws.szFrac: a fraction that came in. -/
import Derived.Test.YthokphoojmpajahDoorGEq
import Derived.Test.YthokphoojmpajahDoorFracLaw
namespace Go.Proofs.YthokphoojmpajahDoor
open Go.RowKit Go.Proofs.Pin

set_option maxRecDepth 20000 in
theorem szS_any (a : Option Addr) (n cap : Nat) (l : Int) (w : World) (hn : n ≤ 9223372036854775807) (h0 : 0 ≤ l) (h1 : l ≤ 1048576) :
    Calls Tryd.prog 17 #[.slice a n cap, .int .i64 l] w fun e w' => e = .returned (.int .i64 (if (n : Int) ≤ l then l - n else -1)) ∧ w' = w := by
  by_cases h : (n : Int) ≤ l
  · rw [if_pos h]
    have h' : ¬ l - (n : Int) < 0 := by omega
    go_enter Tryd.func17, Tryd.ntmps17
    go_wp2
    go_ret
    exact ⟨rfl, rfl⟩
  · rw [if_neg h]
    have h' : l - (n : Int) < 0 := by omega
    go_enter Tryd.func17, Tryd.ntmps17
    go_wp2
    go_ret
    exact ⟨rfl, rfl⟩

set_option maxRecDepth 20000 in
theorem szFrac_any (b : Bool) (r s : Option Addr) (n m c d : Nat) (w : World) (hn : n ≤ 9223372036854775807) (hm : m ≤ 9223372036854775807) :
    Calls Tryd.prog 6 #[fracV b r n c s m d, .int .i64 1048576] w fun e w' => ∃ l : Int, e = .returned (.int .i64 l) ∧ (l < 0 ∨ (0 ≤ l ∧ n ≤ 1048576 ∧ m ≤ 1048576)) ∧ Below w.heap.size w w' := by
  unfold fracV
  have B0 : Below w.heap.size w (w.alloc (.cells #[.bool b, .slice r n c, .slice s m d] 24)) := (Below.refl _ w).alloc (Nat.le_refl _) _
  by_cases h1 : (n : Int) ≤ 1048576
  · by_cases h2 : (m : Int) ≤ 1048576 - (n : Int)
    · have K1 := szS_any r n c 1048576 (w.alloc (.cells #[.bool b, .slice r n c, .slice s m d] 24)) hn (by omega) (by omega)
      have K2 := szS_any s m d (1048576 - (n : Int)) (w.alloc (.cells #[.bool b, .slice r n c, .slice s m d] 24)) hm (by omega) (by omega)
      rw [if_pos h1] at K1
      rw [if_pos h2] at K2
      have k1 : Hid _ := K1
      have k2 : Hid _ := K2
      have e1 : ¬ (1048576 : Int) - n < 0 := by omega
      have e2 : ¬ (1048576 : Int) - n - m < 0 := by omega
      clear K1 K2
      go_enter Tryd.func6, Tryd.ntmps6
      go_wp2_with fail
      refine Calls.mono k1.out ?_
      rintro e w' ⟨rfl, rfl⟩
      go_wp2_with fail
      refine Calls.mono k2.out ?_
      rintro e w' ⟨rfl, rfl⟩
      go_wp2
      go_ret
      exact ⟨_, rfl, .inr ⟨by omega, by omega, by omega⟩, B0⟩
    · have K1 := szS_any r n c 1048576 (w.alloc (.cells #[.bool b, .slice r n c, .slice s m d] 24)) hn (by omega) (by omega)
      have K2 := szS_any s m d (1048576 - (n : Int)) (w.alloc (.cells #[.bool b, .slice r n c, .slice s m d] 24)) hm (by omega) (by omega)
      rw [if_pos h1] at K1
      rw [if_neg h2] at K2
      have k1 : Hid _ := K1
      have k2 : Hid _ := K2
      have e1 : ¬ (1048576 : Int) - n < 0 := by omega
      clear K1 K2
      go_enter Tryd.func6, Tryd.ntmps6
      go_wp2_with fail
      refine Calls.mono k1.out ?_
      rintro e w' ⟨rfl, rfl⟩
      go_wp2_with fail
      refine Calls.mono k2.out ?_
      rintro e w' ⟨rfl, rfl⟩
      go_wp2
      go_ret
      exact ⟨_, rfl, .inl (by omega), B0⟩
  · have K1 := szS_any r n c 1048576 (w.alloc (.cells #[.bool b, .slice r n c, .slice s m d] 24)) hn (by omega) (by omega)
    rw [if_neg h1] at K1
    have k1 : Hid _ := K1
    clear K1
    go_enter Tryd.func6, Tryd.ntmps6
    go_wp2_with fail
    refine Calls.mono k1.out ?_
    rintro e w' ⟨rfl, rfl⟩
    go_wp2
    go_ret
    exact ⟨_, rfl, .inl (by omega), B0⟩

/-- A box of three cells. -/
def GBox (W : World) (B : Nat) (t : TypeId) (x y z : Value) : Prop := W.heap[B]? = some (.cells #[x, y, z] t (0, 0))
theorem gbox_kept {W W' : World} {B : Nat} {t : TypeId} {x y z : Value} {row : Option Nat} (h : GBox W B t x y z) (hg : W.grownBy W' row) (hne : some B ≠ row) : GBox W' B t x y z := (hg.block B (Array.getElem?_eq_some_iff.1 h).1 hne).trans h
theorem gbox_keep {W W' : World} {B : Nat} {t : TypeId} {x y z : Value} (h : GBox W B t x y z) (hb : Below W.heap.size W W') : GBox W' B t x y z := (hb.block B (Array.getElem?_eq_some_iff.1 h).1).trans h
theorem gbox_new (W : World) (t : TypeId) (x y z : Value) : GBox (W.alloc (.cells #[x, y, z] t)) W.heap.size t x y z := World.alloc_heap_new W _
theorem gbox_cells {W : World} {B : Nat} {t : TypeId} {x y z : Value} (h : GBox W B t x y z) : W.cell? ⟨B, 0, none⟩ = some x ∧ W.cell? ⟨B, 1, none⟩ = some y ∧ W.cell? ⟨B, 2, none⟩ = some z ∧ (∀ j, W.frozen? ⟨B, j, none⟩ = false) ∧ B < W.heap.size := by
  have e : W.heap[B]? = _ := h
  exact ⟨by simp [World.cell?, e], by simp [World.cell?, e], by simp [World.cell?, e], fun j => by simp [World.frozen?, e], (Array.getElem?_eq_some_iff.1 h).1⟩
theorem gbox_set1 {W : World} {B : Nat} {t : TypeId} {x y z : Value} (h : GBox W B t x y z) (v : Value) : GBox (W.setCell ⟨B, 1, none⟩ v) B t x v z := by
  show (W.heap.modify B _)[B]? = _
  rw [Array.getElem?_modify, if_pos rfl, show W.heap[B]? = _ from h]
  rfl

set_option maxRecDepth 20000 in
set_option maxHeartbeats 1000000 in
theorem toFrac_any (b : Bool) (r s : Option Addr) (cr cs : Nat) (X Y : List Int) (w : World) (hX : Sl w r X) (hY : Sl w s Y) (lX : X.length ≤ 1048576) (lY : Y.length ≤ 1048576) :
    Calls Tryd.prog 8 #[fracV b r X.length cr s Y.length cs] w fun e w' => ∃ g1 g2, e = .returned (fracV b (some ⟨g1, 0, none⟩) X.length X.length (some ⟨g2, 0, none⟩) Y.length Y.length) ∧ OwnI w' w.heap.size (some ⟨g1, 0, none⟩) X.length X ∧ OwnI w' w.heap.size (some ⟨g2, 0, none⟩) Y.length Y ∧ g1 ≠ g2 ∧ Below w.heap.size w w' := by
  unfold fracV
  obtain ⟨W0, hW0⟩ : ∃ W0, W0 = ((w.alloc (.cells #[.bool b, .slice r X.length cr, .slice s Y.length cs] 24)).alloc (.cells #[.bool false, .slice none 0 0, .slice none 0 0] 27)).alloc (.cells #[.bool b, .slice none 0 0, .slice none 0 0] 27) := ⟨_, rfl⟩
  have z0 : W0.heap.size = w.heap.size + 3 := by rw [hW0]; simp
  have B0 : Below w.heap.size w W0 := by rw [hW0]; exact (((Below.refl _ w).alloc (Nat.le_refl _) _).alloc (by simp) _).alloc (by simp; omega) _
  have g0 : GBox W0 w.heap.size 24 (.bool b) (.slice r X.length cr) (.slice s Y.length cs) := by rw [hW0]; exact gbox_kept (gbox_kept (gbox_new w _ _ _ _) (World.grownBy_alloc _ _ none) (by simp)) (World.grownBy_alloc _ _ none) (by simp)
  have g1 : GBox W0 (w.heap.size + 1) 27 (.bool false) (.slice none 0 0) (.slice none 0 0) := by
    rw [hW0]
    have h := gbox_new (w.alloc (.cells #[.bool b, .slice r X.length cr, .slice s Y.length cs] 24)) 27 (.bool false) (.slice none 0 0) (.slice none 0 0)
    rw [World.size_alloc] at h
    exact gbox_kept h (World.grownBy_alloc _ _ none) (by simp)
  have g2 : GBox W0 (w.heap.size + 1 + 1) 27 (.bool b) (.slice none 0 0) (.slice none 0 0) := by
    rw [hW0]
    have h := gbox_new ((w.alloc (.cells #[.bool b, .slice r X.length cr, .slice s Y.length cs] 24)).alloc (.cells #[.bool false, .slice none 0 0, .slice none 0 0] 27)) 27 (.bool b) (.slice none 0 0) (.slice none 0 0)
    rw [World.size_alloc, World.size_alloc] at h
    exact h
  have C1 : Hid _ := toIntS_any r cr X W0 (hX.keep B0) lX
  have sY0 := hY.keep B0
  have aY : Apart s Y (w.heap.size + 1 + 1) := hY.later (by omega)
  have aY1 : Apart s Y (w.heap.size + 1) := hY.later (by omega)
  go_enter Tryd.func8, Tryd.ntmps8
  go_wp2_with fail
  rw [← hW0]
  clear hW0 hX hY
  refine Calls.mono C1.out ?_
  rintro e w1 ⟨rfl, o1, b1⟩
  obtain ⟨u, hu⟩ : ∃ u, u = W0.heap.size := ⟨_, rfl⟩
  have zu : w.heap.size + 1 + 1 < u := by omega
  have oX : OwnI w1 u (some ⟨u, 0, none⟩) X.length X := by rw [hu]; exact o1
  rw [← hu]
  have lx := own_lt oX
  have k0 := gbox_keep g0 b1
  have k1 := gbox_keep g1 b1
  have k2 := gbox_keep g2 b1
  have sY1 := sY0.keep b1
  have B1 : Below w.heap.size w w1 := B0.trans (b1.mono B0.size)
  obtain ⟨c00, c01, c02, f0, n0⟩ := gbox_cells k0
  obtain ⟨c20, c21, c22, f2, n2⟩ := gbox_cells k2
  have gr : w1.grownBy (w1.setCell ⟨w.heap.size + 1 + 1, 1, none⟩ (.slice (some ⟨u, 0, none⟩) X.length X.length)) (some (w.heap.size + 1 + 1)) := gr_set _ _ _ _
  obtain ⟨W1, hW1⟩ : ∃ W1, W1 = w1.setCell ⟨w.heap.size + 1 + 1, 1, none⟩ (.slice (some ⟨u, 0, none⟩) X.length X.length) := ⟨_, rfl⟩
  have m0 : GBox W1 w.heap.size 24 (.bool b) (.slice r X.length cr) (.slice s Y.length cs) := by rw [hW1]; exact gbox_kept k0 gr (by simp; omega)
  have m1 : GBox W1 (w.heap.size + 1) 27 (.bool false) (.slice none 0 0) (.slice none 0 0) := by rw [hW1]; exact gbox_kept k1 gr (by simp)
  have m2 : GBox W1 (w.heap.size + 1 + 1) 27 (.bool b) (.slice (some ⟨u, 0, none⟩) X.length X.length) (.slice none 0 0) := by rw [hW1]; exact gbox_set1 k2 _
  have sY2 : Sl W1 s Y := by rw [hW1]; exact sY1.apart gr aY
  have oX1 : OwnI W1 u (some ⟨u, 0, none⟩) X.length X := by rw [hW1]; exact oX.kept gr (fun y hy e => by cases hy; simp at e; omega)
  have B2 : Below w.heap.size w W1 := by rw [hW1]; exact B1.grown gr B1.size (fun k hk => by cases hk; omega)
  have zW : W1.heap.size = w1.heap.size := by rw [hW1]; simp
  have C2 : Hid _ := toIntS_any s cs Y W1 sY2 lY
  have zB : w.heap.size ≤ u := by omega
  clear C1 o1 b1 g0 g1 g2 k0 k1 k2 sY0 sY1 gr aY B0 B1 oX hu z0
  go_wp2_with fail
  rw [← hW1]
  clear hW1
  refine Calls.mono C2.out ?_
  rintro e w3 ⟨rfl, o3, b3⟩
  obtain ⟨t, ht⟩ : ∃ t, t = W1.heap.size := ⟨_, rfl⟩
  have zt : u < t := by rw [ht, zW]; exact lx
  have oY : OwnI w3 t (some ⟨t, 0, none⟩) Y.length Y := by rw [ht]; exact o3
  rw [← ht]
  have oX3 := oX1.keep b3
  have p1 := gbox_keep m1 b3
  have p2 := gbox_keep m2 b3
  have B3 : Below w.heap.size w w3 := B2.trans (b3.mono B2.size)
  have lt3 := own_lt oY
  obtain ⟨d10, d11, d12, f1, n1⟩ := gbox_cells p1
  obtain ⟨d20, d21, d22, f2', n2'⟩ := gbox_cells p2
  clear C2 o3 b3 m0 m1 m2 c00 c01 c02 f0 n0 c20 c21 c22 f2 n2 oX1 sY2 ht zW aY1
  have HX : Hid (OwnI w3 u (some ⟨u, 0, none⟩) X.length X ∧ OwnI w3 t (some ⟨t, 0, none⟩) Y.length Y ∧ Below w.heap.size w w3) := ⟨oX3, oY, B3⟩
  clear oX3 oY B3 p1 p2 B2
  go_wp2
  obtain ⟨W4, hW4⟩ : ∃ W4, W4 = (((w3.setCell ⟨w.heap.size + 1 + 1, 2, none⟩ (.slice (some ⟨t, 0, none⟩) Y.length Y.length)).setCell ⟨w.heap.size + 1, 0, none⟩ (.bool b)).setCell ⟨w.heap.size + 1, 1, none⟩ (.slice (some ⟨u, 0, none⟩) X.length X.length)).setCell ⟨w.heap.size + 1, 2, none⟩ (.slice (some ⟨t, 0, none⟩) Y.length Y.length) := ⟨_, rfl⟩
  have hg4 : grown2 w3 W4 (some (w.heap.size + 1 + 1)) (some (w.heap.size + 1)) := by rw [hW4]; exact ⟨_, gr_set _ _ _ _, grown_two (grown_two (gr_set _ _ _ _) (gr_set _ _ _ _)) (gr_set _ _ _ _)⟩
  obtain ⟨wm, g1, g2⟩ := hg4
  obtain ⟨oX3, oY3, B3⟩ := HX.out
  have hoX : OwnI W4 w.heap.size (some ⟨u, 0, none⟩) X.length X := ((oX3.mono zB).kept g1 (fun y hy e => by cases hy; simp at e; omega)).kept g2 (fun y hy e => by cases hy; simp at e; omega)
  have hoY : OwnI W4 w.heap.size (some ⟨t, 0, none⟩) Y.length Y := ((oY3.mono (by omega)).kept g1 (fun y hy e => by cases hy; simp at e; omega)).kept g2 (fun y hy e => by cases hy; simp at e; omega)
  have hB : Below w.heap.size w W4 := (B3.grown g1 B3.size (fun k hk => by cases hk; omega)).grown g2 (Nat.le_trans B3.size g1.size) (fun k hk => by cases hk; omega)
  subst hW4
  refine ⟨rfl, .agg #[.bool b, .slice (some ⟨u, 0, none⟩) X.length X.length, .slice (some ⟨t, 0, none⟩) Y.length Y.length], ?_, u, t, rfl, hoX, hoY, by omega, hB⟩
  clear hoX hoY hB g1 g2 oX3 oY3 B3 HX
  simp [results, Tryd.f8, go_sem, d10, d11, d12]
end Go.Proofs.YthokphoojmpajahDoor
