/- Fractions as impl reckons with them: sumOf, of two. -/
import Derived.Test.YthokphoojmpajafDoorFr6
namespace Go.Proofs.YthokphoojmpajafDoor
open Go.RowKit Go.Proofs.Pin

theorem sm_zero (b : Bool) (x : Nat) (y : Nat) : smT false b (0 * y) (x * 1) = x := by
  unfold smT
  rw [Nat.zero_mul, Nat.mul_one]
  cases b <;> simp <;> omega
theorem smB_zero {b : Bool} {x : Nat} (y : Nat) (h : b = true → x ≠ 0) : smB false b (0 * y) (x * 1) = b := by
  unfold smB
  rw [Nat.zero_mul, Nat.mul_one]
  cases b with
  | false => simp
  | true => have := h rfl; simp; omega

theorem plus_zero (a : Option Addr) (r s : Option Addr) (cr cs x y : Nat) (b : Bool) (w : World) (ha : Sl w a [1]) (hx : Sl w r (dgs x)) (hy : Sl w s (dgs y)) (lx : (dgs x).length ≤ 2000) (ly : (dgs y).length ≤ 2000) (hb : b = true → x ≠ 0) :
    Calls Tryd.prog 50 #[frV none 0 0 a 1 1 false, frV r (dgs x).length cr s (dgs y).length cs b] w fun e w' => ∃ r2 c2 s2 d2, e = .returned (frV r2 (dgs x).length c2 s2 (dgs y).length d2 b) ∧ OwnI w' w.heap.size r2 c2 (dgs x) ∧ OwnI w' w.heap.size s2 d2 (dgs y) ∧ Below w.heap.size w w' := by
  have h := frPlus_any none a r s 0 1 cr cs 0 1 x y false b w (.inl rfl) ha hx hy (by decide) (by decide) lx ly
  rw [sm_zero, smB_zero y hb, Nat.one_mul] at h
  exact h

set_option maxRecDepth 20000 in
set_option maxHeartbeats 2000000 in
theorem sumOf_two (g : Nat) (r s r' s' : Option Addr) (cr cs cr' cs' x y x' y' : Nat) (b b' : Bool) (w : World)
    (hk : BoxC w g 47 #[.slice r (dgs x).length cr, .slice s (dgs y).length cs, .bool b, .slice r' (dgs x').length cr', .slice s' (dgs y').length cs', .bool b'])
    (hx : Sl w r (dgs x)) (hy : Sl w s (dgs y)) (hx' : Sl w r' (dgs x')) (hy' : Sl w s' (dgs y')) (lx : (dgs x).length ≤ 2000) (ly : (dgs y).length ≤ 2000) (lx' : (dgs x').length ≤ 2000) (ly' : (dgs y').length ≤ 2000) (hb : b = true → x ≠ 0) :
    Calls Tryd.prog 30 #[.slice (some ⟨g, 0, none⟩) 2 2] w fun e w' => ∃ r2 c2 s2 d2, e = .returned (frV r2 (dgs (smT b b' (x * y') (x' * y))).length c2 s2 (dgs (y * y')).length d2 (smB b b' (x * y') (x' * y))) ∧ OwnI w' w.heap.size r2 c2 (dgs (smT b b' (x * y') (x' * y))) ∧ OwnI w' w.heap.size s2 d2 (dgs (y * y')) ∧ Below w.heap.size w w' := by
  have C1 : Hid (∀ W a, Sl W a [1] → Sl W r (dgs x) → Sl W s (dgs y) → Calls Tryd.prog 50 #[frV none 0 0 a 1 1 false, frV r (dgs x).length cr s (dgs y).length cs b] W fun e w' => ∃ r2 c2 s2 d2, e = .returned (frV r2 (dgs x).length c2 s2 (dgs y).length d2 b) ∧ OwnI w' W.heap.size r2 c2 (dgs x) ∧ OwnI w' W.heap.size s2 d2 (dgs y) ∧ Below W.heap.size W w') := fun W a h1 h2 h3 => plus_zero a r s cr cs x y b W h1 h2 h3 lx ly hb
  have C2 : Hid (∀ W r0 c0 s0 d0, Sl W r0 (dgs x) → Sl W s0 (dgs y) → Sl W r' (dgs x') → Sl W s' (dgs y') → Calls Tryd.prog 50 #[frV r0 (dgs x).length c0 s0 (dgs y).length d0 b, frV r' (dgs x').length cr' s' (dgs y').length cs' b'] W fun e w' => ∃ r2 c2 s2 d2, e = .returned (frV r2 (dgs (smT b b' (x * y') (x' * y))).length c2 s2 (dgs (y * y')).length d2 (smB b b' (x * y') (x' * y))) ∧ OwnI w' W.heap.size r2 c2 (dgs (smT b b' (x * y') (x' * y))) ∧ OwnI w' W.heap.size s2 d2 (dgs (y * y')) ∧ Below W.heap.size W w') := fun W r0 c0 s0 d0 h1 h2 h3 h4 => frPlus_any r0 s0 r' s' c0 d0 cr' cs' x y x' y' b b' W h1 h2 h3 h4 lx ly lx' ly'
  have CW : Hid (∀ W, Calls Tryd.prog 49 #[.slice none 0 0] W fun e w' => ∃ g, e = .returned (.agg #[.slice none 0 0, .slice (some ⟨g, 0, none⟩) 1 1]) ∧ OwnI w' W.heap.size (some ⟨g, 0, none⟩) 1 [1] ∧ Below W.heap.size W w') := fun W => whole_any none 0 0 W
  obtain ⟨X, hX⟩ : ∃ X, X = dgs x := ⟨_, rfl⟩
  obtain ⟨Y, hY⟩ : ∃ Y, Y = dgs y := ⟨_, rfl⟩
  obtain ⟨X', hX'⟩ : ∃ X', X' = dgs x' := ⟨_, rfl⟩
  obtain ⟨Y', hY'⟩ : ∃ Y', Y' = dgs y' := ⟨_, rfl⟩
  obtain ⟨P, hP⟩ : ∃ P, P = dgs (smT b b' (x * y') (x' * y)) := ⟨_, rfl⟩
  obtain ⟨Q, hQ⟩ : ∃ Q, Q = dgs (y * y') := ⟨_, rfl⟩
  obtain ⟨Z, hZ⟩ : ∃ Z, Z = smB b b' (x * y') (x' * y) := ⟨_, rfl⟩
  rw [← hX, ← hY] at C1
  rw [← hX, ← hY, ← hX', ← hY', ← hP, ← hQ, ← hZ] at C2
  rw [← hX] at hx
  rw [← hY] at hy
  rw [← hX'] at hx'
  rw [← hY'] at hy'
  rw [← hX, ← hY, ← hX', ← hY'] at hk
  rw [← hP, ← hQ, ← hZ]
  clear hX hY hX' hY' hP hQ hZ lx ly lx' ly' hb
  unfold frV at C1 C2 ⊢
  have gl := boxc_lt hk
  have B0 : Below w.heap.size w (w.alloc (.cells #[.slice none 0 0, .slice none 0 0, .bool false] 47)) := (Below.refl _ w).alloc (Nat.le_refl _) _
  have k0 := boxc_new w 47 #[.slice none 0 0, .slice none 0 0, .bool false]
  go_enter Tryd.func30, Tryd.ntmps30
  go_wp2_with fail
  refine Calls.mono (CW.out _) ?_
  rintro e w1 ⟨u, rfl, o1, b1⟩
  have s1 := o1.sl
  have B1 := B0.trans (b1.mono B0.size)
  have k1 := boxc_keep k0 b1
  have kg := boxc_keep hk B1
  have x1 := hx.keep B1
  have y1 := hy.keep B1
  have x1' := hx'.keep B1
  have y1' := hy'.keep B1
  clear o1 b1 B0 k0 hx hy CW
  obtain ⟨w2, hw2⟩ : ∃ w2, w2 = w1.alloc (.cells #[.slice none 0 0, .slice (some ⟨u, 0, none⟩) 1 1, .bool false] 47) := ⟨_, rfl⟩
  obtain ⟨v, hv⟩ : ∃ v, v = w1.heap.size := ⟨_, rfl⟩
  have b2 : Below w1.heap.size w1 w2 := by rw [hw2]; exact (Below.refl _ w1).alloc (Nat.le_refl _) _
  have kv : BoxC w2 v 47 #[.slice none 0 0, .slice (some ⟨u, 0, none⟩) 1 1, .bool false] := by rw [hw2, hv]; exact boxc_new _ _ _
  have kg2 := boxc_keep kg b2
  have k2 := boxc_keep k1 b2
  have B2 := B1.trans (b2.mono B1.size)
  have hvl : w.heap.size < v := by rw [hv]; exact boxc_lt k1
  have s2 := s1.keep b2
  have x2 := x1.keep b2
  have y2 := y1.keep b2
  have x2' := x1'.keep b2
  have y2' := y1'.keep b2
  go_wp2_with fail
  rw [← hw2, ← hv]
  clear hw2 hv b2 B1 k1 kg s1 x1 y1 x1' y1' hk
  have c0 := boxc_cell kg2 0
  have c1 := boxc_cell kg2 1
  have c2 := boxc_cell kg2 2
  obtain ⟨e0, e1, e2, _, vn⟩ := boxc3 kv
  simp only [List.getElem?_toArray, List.getElem?_cons_zero, List.getElem?_cons_succ] at c0 c1 c2
  have ne1 : ¬ v = w2.heap.size := by omega
  have ne2 : ¬ g = w2.heap.size := by have := boxc_lt kg2; omega
  have gl2 := boxc_lt kg2
  obtain ⟨w3, hw3⟩ : ∃ w3, w3 = w2.alloc (.cells #[.slice r X.length cr, .slice s Y.length cs, .bool b] 47) := ⟨_, rfl⟩
  have b3 : Below w2.heap.size w2 w3 := by rw [hw3]; exact (Below.refl _ w2).alloc (Nat.le_refl _) _
  refine wp_loop_rounds 3 ?_
  rw [rounds_succ]
  go_wp2_with fail
  rw [← hw3]
  refine Calls.mono (C1.out _ _ (s2.keep b3) (x2.keep b3) (y2.keep b3)) ?_
  rintro e w4 ⟨r4, c4, s4, d4, rfl, o4, p4, b4⟩
  have b34 : Below w2.heap.size w2 w4 := b3.trans (b4.mono b3.size)
  have kv4 := boxc_keep kv b34
  have kg4 := boxc_keep kg2 b34
  have k4 := boxc_keep k2 b34
  have x4' := x2'.keep b34
  have y4' := y2'.keep b34
  have B4 := B2.trans (b34.mono B2.size)
  have v3 : v < w3.heap.size := Nat.lt_of_lt_of_le vn b3.size
  clear hw3 b3 b4 b34 kv kg2 k2 x2' y2' s2 x2 y2 B2 C1 c0 c1 c2 e0 e1 e2 ne1 ne2
  obtain ⟨e0, e1, e2, ef, vn4⟩ := boxc3 kv4
  obtain ⟨w5, hw5⟩ : ∃ w5, w5 = ((w4.setCell ⟨v, 0, none⟩ (.slice r4 X.length c4)).setCell ⟨v, 1, none⟩ (.slice s4 Y.length d4)).setCell ⟨v, 2, none⟩ (.bool b) := ⟨_, rfl⟩
  have g5 : w4.grownBy w5 (some v) := by rw [hw5]; exact gr_set3 _ _ _ _ _
  have kv5 : BoxC w5 v 47 #[.slice r4 X.length c4, .slice s4 Y.length d4, .bool b] := by rw [hw5]; exact boxc_set2 (boxc_set1 (boxc_set0 kv4 _) _) _
  have kg5 := boxc_kept kg4 g5 (by simp; omega)
  have k5 := boxc_kept k4 g5 (by simp; omega)
  have o5 := (own_far o4 g5 v3).sl
  have p5 := (own_far p4 g5 v3).sl
  have B5 : Below w.heap.size w w5 := B4.grown g5 B4.size (fun k hk => by cases hk; omega)
  have x5' : Sl w5 r' X' := x4'.apart g5 ((hx'.later (Nat.le_of_lt hvl)))
  have y5' : Sl w5 s' Y' := y4'.apart g5 ((hy'.later (Nat.le_of_lt hvl)))
  go_wp2_with fail
  rw [← hw5]
  rw [rounds_succ]
  clear kv4 kg4 k4 x4' y4' B4 o4 p4 e0 e1 e2 ef hw5
  have c3 := boxc_cell kg5 3
  have c4' := boxc_cell kg5 4
  have c5 := boxc_cell kg5 5
  simp only [List.getElem?_toArray, List.getElem?_cons_zero, List.getElem?_cons_succ] at c3 c4' c5
  obtain ⟨f0, f1, f2, ff, vn5⟩ := boxc3 kv5
  have gl5 := boxc_lt kg5
  have ne1 : ¬ v = w5.heap.size := by omega
  have ne2 : ¬ g = w5.heap.size := by omega
  obtain ⟨w6, hw6⟩ : ∃ w6, w6 = w5.alloc (.cells #[.slice r' X'.length cr', .slice s' Y'.length cs', .bool b'] 47) := ⟨_, rfl⟩
  have b6 : Below w5.heap.size w5 w6 := by rw [hw6]; exact (Below.refl _ w5).alloc (Nat.le_refl _) _
  go_wp2_with fail
  rw [← hw6]
  refine Calls.mono (C2.out _ _ _ _ _ (o5.keep b6) (p5.keep b6) (x5'.keep b6) (y5'.keep b6)) ?_
  rintro e w7 ⟨r7, c7, s7, d7, rfl, o7, p7, b7⟩
  have b67 : Below w5.heap.size w5 w7 := b6.trans (b7.mono b6.size)
  have kv7 := boxc_keep kv5 b67
  have k7 := boxc_keep k5 b67
  have B7 := B5.trans (b67.mono B5.size)
  have v6 : v < w6.heap.size := Nat.lt_of_lt_of_le vn5 b6.size
  have z6 : w.heap.size < w6.heap.size := Nat.lt_of_lt_of_le (boxc_lt k5) b6.size
  have H7 : Hid (OwnI w7 w6.heap.size r7 c7 P ∧ OwnI w7 w6.heap.size s7 d7 Q ∧ Below w.heap.size w w7) := ⟨o7, p7, B7⟩
  clear hw6 b6 b7 b67 kv5 kg5 k5 x5' y5' B5 o5 p5 C2 c3 c4' c5 f0 f1 f2 ff ne1 ne2 o7 p7 B7 hx' hy'
  obtain ⟨e0, e1, e2, ef, en⟩ := boxc3 kv7
  obtain ⟨f0, f1, f2, ff, fn⟩ := boxc3 k7
  clear kv7 k7
  have ne3 : ¬ v = w.heap.size := by omega
  have ne4 : ¬ w.heap.size = v := by omega
  go_wp2_with fail
  rw [rounds_succ]
  go_wp2
  have g8 := gr_set3 w7 v (.slice r7 P.length c7) (.slice s7 Q.length d7) (.bool Z)
  have g9 := gr_set3 (((w7.setCell ⟨v, 0, none⟩ (.slice r7 P.length c7)).setCell ⟨v, 1, none⟩ (.slice s7 Q.length d7)).setCell ⟨v, 2, none⟩ (.bool Z)) w.heap.size (.slice r7 P.length c7) (.slice s7 Q.length d7) (.bool Z)
  have oP := (own_far (own_far H7.out.1 g8 v6) g9 z6).mono (Nat.le_of_lt z6)
  have oQ := (own_far (own_far H7.out.2.1 g8 v6) g9 z6).mono (Nat.le_of_lt z6)
  have hB := below_set3 (below_set3 H7.out.2.2 (Nat.le_of_lt hvl) (.slice r7 P.length c7) (.slice s7 Q.length d7) (.bool Z)) (Nat.le_refl _) (.slice r7 P.length c7) (.slice s7 Q.length d7) (.bool Z)
  refine ⟨rfl, .agg #[.slice r7 P.length c7, .slice s7 Q.length d7, .bool Z], ?_, r7, c7, s7, d7, rfl, oP, oQ, hB⟩
  clear g8 g9 oP oQ hB
  simp [results, Tryd.f30, go_sem, f0, f1, f2]
end Go.Proofs.YthokphoojmpajafDoor
