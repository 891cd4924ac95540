/- The contracts of impl.FracFloor and spec.FracFloor. -/
import Derived.Test.YthokphoojmpajagDoorGFr8
import Derived.Test.YthokphoojmpajagDoorGFr6
import Derived.Test.YthokphoojmpajagDoorGSp
namespace Go.Proofs.YthokphoojmpajagDoor
open Go.RowKit Go.Proofs.Pin

/-- The whole number that is not above, without its sign. -/
def flQ (b : Bool) (x y : Nat) : Nat := if b = true ∧ x % y ≠ 0 then x / y + 1 else x / y
def floorA (b : Bool) (x y : Nat) : FAns := ⟨b, dgs (flQ b x y), [1], true⟩
theorem flQ_le {b : Bool} {x y : Nat} (hy : y ≠ 0) : flQ b x y ≤ x := by
  unfold flQ
  split
  · rename_i h
    have h1 : y ≠ 1 := fun e => h.2 (by rw [e]; exact Nat.mod_one x)
    have h2 : x ≠ 0 := fun e => h.2 (by rw [e]; exact Nat.zero_mod y)
    have := Nat.div_lt_self (n := x) (k := y) (by omega) (by omega)
    omega
  · exact Nat.div_le_self x y
theorem flQ_pos {b : Bool} {x y : Nat} (hx : b = true → x ≠ 0) (hb : b = true) : flQ b x y ≠ 0 := by
  unfold flQ
  split
  · exact Nat.succ_ne_zero _
  · rename_i h
    have hm : x % y = 0 := by
      rcases Nat.eq_zero_or_pos (x % y) with h1 | h1
      · exact h1
      · exact absurd ⟨hb, by omega⟩ h
    intro h0
    have := Nat.div_add_mod x y
    rw [h0, hm] at this
    simp at this
    exact hx hb this.symm
theorem makeA_one {b : Bool} {q : Nat} (hb : b = true → q ≠ 0) (hl : (dgs q).length ≤ 256) : makeA b q 1 = ⟨b, dgs q, [1], true⟩ := by
  have h1 : loX q 1 = dgs q := by unfold loX; rw [Nat.gcd_one_right, Nat.div_one]
  have h2 : loY q 1 = [1] := by unfold loY; rw [Nat.gcd_one_right]; rfl
  unfold makeA
  rw [h1, h2, if_pos ⟨hl, by decide⟩]
  cases b with
  | false => simp
  | true => have := (dgs_pos_len q).2 (hb rfl); simp [this]
theorem floorA_len (b : Bool) (X Y : List Int) : (op1A floorA b X Y).X.length ≤ 256 ∧ (op1A floorA b X Y).Y.length ≤ 256 := by
  cases h : fokB b X Y with
  | false => rw [op1A_no h]; exact ⟨Nat.zero_le _, Nat.zero_le _⟩
  | true =>
    obtain ⟨x, y, rfl, rfl, lx, ly, hy, _⟩ := fok_parts h
    rw [op1A_yes h]
    exact ⟨Nat.le_trans (dgs_len_le (flQ_le hy)) lx, by show ([1] : List Int).length ≤ 256; decide⟩

set_option maxRecDepth 20000 in
set_option maxHeartbeats 2000000 in
theorem frFloor_any (r s : Option Addr) (cr cs x y : Nat) (b : Bool) (w : World) (hx : Sl w r (dgs x)) (hy : Sl w s (dgs y)) (lx : (dgs x).length ≤ 256) (ly : (dgs y).length ≤ 256) (kx : (dgs x).length ≤ cr) (hy0 : y ≠ 0) :
    Calls Tryd.prog 51 #[frV r (dgs x).length cr s (dgs y).length cs b] w fun e w' => ∃ r2 c2 s2, e = .returned (frV r2 (dgs (flQ b x y)).length c2 s2 1 1 b) ∧ Sl w' r2 (dgs (flQ b x y)) ∧ Sl w' s2 [1] ∧ Below w.heap.size w w' := by
  have CD : Hid (∀ W, Sl W r (dgs x) → Sl W s (dgs y) → Calls Tryd.prog 75 #[.slice r (dgs x).length cr, .slice s (dgs y).length cs] W fun e w' => ∃ a c a' c', e = .returned (.tuple #[.slice a (dgs (x / y)).length c, .slice a' (dgs (x % y)).length c']) ∧ OwnI w' W.heap.size a c (dgs (x / y)) ∧ Below W.heap.size W w') := fun W h1 h2 => (divBy_any r s cr cs x y W h1 h2 (by omega) (by omega) hy0 kx).mono fun e w' ⟨r1, c1, s1, d1, h1, h2, _, _, h4⟩ => ⟨r1, c1, s1, d1, h1, h2, h4⟩
  have lq : (dgs (x / y)).length ≤ 256 := Nat.le_trans (dgs_len_le (Nat.div_le_self x y)) lx
  have CP : Hid (∀ W a c g, Sl W a (dgs (x / y)) → Sl W (some ⟨g, 0, none⟩) [1] → Calls Tryd.prog 76 #[.slice a (dgs (x / y)).length c, .slice (some ⟨g, 0, none⟩) 1 1] W fun e w' => ∃ a c, e = .returned (.slice a (dgs (x / y + 1)).length c) ∧ OwnI w' W.heap.size a c (dgs (x / y + 1)) ∧ Below W.heap.size W w') := fun W a c g h1 h2 => plus_any a (some ⟨g, 0, none⟩) c 1 (x / y) 1 W h1 h2 (by omega) (by decide)
  have CW : Hid (∀ W a n c, Calls Tryd.prog 59 #[.slice a n c] W fun e w' => ∃ g, e = .returned (.agg #[.slice a n c, .slice (some ⟨g, 0, none⟩) 1 1]) ∧ OwnI w' W.heap.size (some ⟨g, 0, none⟩) 1 [1] ∧ Below W.heap.size W w') := fun W a n c => whole_any a n c W
  have hm : (0 : Int) < ((dgs (x % y)).length : Int) ↔ x % y ≠ 0 := by have := dgs_pos_len (x % y); omega
  have hcase : (b = false ∧ flQ b x y = x / y) ∨ (b = true ∧ x % y = 0 ∧ flQ b x y = x / y) ∨ (b = true ∧ x % y ≠ 0 ∧ flQ b x y = x / y + 1) := by
    unfold flQ
    cases b with
    | false => exact .inl ⟨rfl, by simp⟩
    | true =>
      by_cases h : x % y = 0
      · exact .inr (.inl ⟨rfl, h, by simp [h]⟩)
      · exact .inr (.inr ⟨rfl, h, by simp [h]⟩)
  obtain ⟨w0, hw0⟩ : ∃ w0, w0 = (w.alloc (.cells #[.slice r (dgs x).length cr, .slice s (dgs y).length cs, .bool b] 45)).alloc (.cells #[.slice none 0 0, .slice none 0 0, .bool false] 45) := ⟨_, rfl⟩
  have B0 : Below w.heap.size w w0 := by rw [hw0]; exact ((Below.refl _ w).alloc (Nat.le_refl _) _).alloc (by simp) _
  have k1 : BoxC w0 w.heap.size 45 #[.slice r (dgs x).length cr, .slice s (dgs y).length cs, .bool b] := by rw [hw0]; exact boxc_alloc (boxc_new _ _ _) _
  have k2 : BoxC w0 (w.heap.size + 1) 45 #[.slice none 0 0, .slice none 0 0, .bool false] := by
    rw [hw0]
    have h := boxc_new (w.alloc (.cells #[.slice r (dgs x).length cr, .slice s (dgs y).length cs, .bool b] 45)) 45 #[.slice none 0 0, .slice none 0 0, .bool false]
    rw [World.size_alloc] at h
    exact h
  have x0 := hx.keep B0
  have y0 := hy.keep B0
  obtain ⟨X, hX⟩ : ∃ X, X = dgs x := ⟨_, rfl⟩
  obtain ⟨Y, hY⟩ : ∃ Y, Y = dgs y := ⟨_, rfl⟩
  obtain ⟨M, hM⟩ : ∃ M, M = dgs (x % y) := ⟨_, rfl⟩
  obtain ⟨D, hD⟩ : ∃ D, D = dgs (x / y) := ⟨_, rfl⟩
  obtain ⟨E, hE⟩ : ∃ E, E = dgs (x / y + 1) := ⟨_, rfl⟩
  rw [← hX, ← hY, ← hM, ← hD] at CD
  rw [← hD, ← hE] at CP
  rw [← hX, ← hY] at hw0 k1
  rw [← hX] at x0
  rw [← hY] at y0
  rw [← hM] at hm
  rw [← hX, ← hY]
  have fin : ∀ (Q : List Int) (w3 : World) (a3 : Option Addr) (c3 : Nat) (g3 : Nat) (base : Nat), OwnI w3 base a3 c3 Q → OwnI w3 base (some ⟨g3, 0, none⟩) 1 [1] → w.heap.size + 1 < base → Below w.heap.size w w3 →
      Sl (((w3.setCell ⟨w.heap.size + 1, 0, none⟩ (.slice a3 Q.length c3)).setCell ⟨w.heap.size + 1, 1, none⟩ (.slice (some ⟨g3, 0, none⟩) 1 1)).setCell ⟨w.heap.size + 1, 2, none⟩ (.bool b)) a3 Q ∧ Sl (((w3.setCell ⟨w.heap.size + 1, 0, none⟩ (.slice a3 Q.length c3)).setCell ⟨w.heap.size + 1, 1, none⟩ (.slice (some ⟨g3, 0, none⟩) 1 1)).setCell ⟨w.heap.size + 1, 2, none⟩ (.bool b)) (some ⟨g3, 0, none⟩) [1] ∧ Below w.heap.size w (((w3.setCell ⟨w.heap.size + 1, 0, none⟩ (.slice a3 Q.length c3)).setCell ⟨w.heap.size + 1, 1, none⟩ (.slice (some ⟨g3, 0, none⟩) 1 1)).setCell ⟨w.heap.size + 1, 2, none⟩ (.bool b)) :=
    fun Q w3 a3 c3 g3 base h1 h2 h3 h4 => ⟨(own_far h1 (gr_set3 _ _ _ _ _) h3).sl, (own_far h2 (gr_set3 _ _ _ _ _) h3).sl, below_set3 h4 (Nat.le_succ _) _ _ _⟩
  have FIN : Hid _ := fin
  clear fin hX hY hM lx ly kx hy0 hx hy lq
  have n1 := boxc_lt k2
  rcases hcase with ⟨rfl, e⟩ | ⟨rfl, h0, e⟩ | ⟨rfl, h0, e⟩
  · rw [e, ← hD]
    clear e hD hE hm CP
    unfold frV
    go_enter Tryd.func51, Tryd.ntmps51
    go_wp2_with fail
    rw [← hw0]
    refine Calls.mono (CD.out _ x0 y0) ?_
    rintro e w1 ⟨a1, c1, a1', c1', rfl, o1, b1⟩
    have z1 : w0.heap.size ≤ w1.heap.size := b1.size
    have k11 := boxc_keep k1 b1
    have K2 : Hid (BoxC w1 (w.heap.size + 1) 45 #[.slice none 0 0, .slice none 0 0, .bool false]) := boxc_keep k2 b1
    have HB : Hid (Below w.heap.size w w1) := B0.trans (b1.mono B0.size)
    obtain ⟨p0, p1, p2, _, m1⟩ := boxc3 k11
    have p2d : w1.drew.cell? ⟨w.heap.size, 2, none⟩ = some (.bool false) := p2
    clear hw0 CD x0 y0 k1 k2 b1 B0 k11
    go_wp2_with fail
    go_region_held3 (fun w' => w'.cell? ⟨w.heap.size, 2, none⟩ = some (.bool false))
      (first | (with_reducible exact p2d) | (with_reducible exact keep_set3 (by assumption) (by omega) _ _ _) | (rw [b2.cell (by simp; omega)]; with_reducible assumption))
      (first | (go_at_call 59; refine Calls.mono (CW.out w1.drew _ _ _) ?_; rintro e w2 ⟨g2, rfl, o2, b2⟩; have z2 : w1.heap.size ≤ w2.heap.size := b2.size; have b2' := below_un2 b2; obtain ⟨d0, d1, d2, df, dn⟩ := boxc3 (boxc_keep K2.out b2')))
    have H := FIN.out D w2 a1 c1 g2 w0.heap.size (OwnI.keep o1 b2') (o2.mono z1) n1 (HB.out.trans (b2'.mono HB.out.size))
    go_wp2
    refine ⟨rfl, .agg #[.slice a1 D.length c1, .slice (some ⟨g2, 0, none⟩) 1 1, .bool false], ?_, a1, c1, some ⟨g2, 0, none⟩, rfl, H.1, H.2.1, H.2.2⟩
    simp [results, Tryd.f51, go_sem, d0, d1, d2]
  · rw [e, ← hD]
    have hM0 : ¬ (0 : Int) < (M.length : Int) := fun h => hm.1 h h0
    clear e hD hE hm CP h0
    unfold frV
    go_enter Tryd.func51, Tryd.ntmps51
    go_wp2_with fail
    rw [← hw0]
    refine Calls.mono (CD.out _ x0 y0) ?_
    rintro e w1 ⟨a1, c1, a1', c1', rfl, o1, b1⟩
    have z1 : w0.heap.size ≤ w1.heap.size := b1.size
    have k11 := boxc_keep k1 b1
    have K2 : Hid (BoxC w1 (w.heap.size + 1) 45 #[.slice none 0 0, .slice none 0 0, .bool false]) := boxc_keep k2 b1
    have HB : Hid (Below w.heap.size w w1) := B0.trans (b1.mono B0.size)
    obtain ⟨p0, p1, p2, _, m1⟩ := boxc3 k11
    have p2d : w1.drew.cell? ⟨w.heap.size, 2, none⟩ = some (.bool true) := p2
    clear hw0 CD x0 y0 k1 k2 b1 B0 k11
    go_wp2_with fail
    go_region_held3 (fun w' => w'.cell? ⟨w.heap.size, 2, none⟩ = some (.bool true))
      (first | (with_reducible exact p2d) | (with_reducible exact keep_set3 (by assumption) (by omega) _ _ _) | (rw [b2.cell (by simp; omega)]; with_reducible assumption))
      (first | (go_at_call 59; refine Calls.mono (CW.out w1.drew _ _ _) ?_; rintro e w2 ⟨g2, rfl, o2, b2⟩; have z2 : w1.heap.size ≤ w2.heap.size := b2.size; have b2' := below_un2 b2; obtain ⟨d0, d1, d2, df, dn⟩ := boxc3 (boxc_keep K2.out b2')))
    have H := FIN.out D w2 a1 c1 g2 w0.heap.size (OwnI.keep o1 b2') (o2.mono z1) n1 (HB.out.trans (b2'.mono HB.out.size))
    go_wp2
    refine ⟨rfl, .agg #[.slice a1 D.length c1, .slice (some ⟨g2, 0, none⟩) 1 1, .bool true], ?_, a1, c1, some ⟨g2, 0, none⟩, rfl, H.1, H.2.1, H.2.2⟩
    simp [results, Tryd.f51, go_sem, d0, d1, d2]
  · rw [e, ← hE]
    have hM1 : (0 : Int) < (M.length : Int) := hm.2 h0
    clear e hD hE hm h0
    unfold frV
    go_enter Tryd.func51, Tryd.ntmps51
    go_wp2_with fail
    rw [← hw0]
    refine Calls.mono (CD.out _ x0 y0) ?_
    rintro e w1 ⟨a1, c1, a1', c1', rfl, o1, b1⟩
    have z1 : w0.heap.size ≤ w1.heap.size := b1.size
    have k11 := boxc_keep k1 b1
    have k21 := boxc_keep k2 b1
    have B1 := B0.trans (b1.mono B0.size)
    obtain ⟨wa, hwa⟩ : ∃ wa, wa = w1.alloc (.cells #[.int .i64 1] 3) := ⟨_, rfl⟩
    have ba : Below w1.heap.size w1 wa := by rw [hwa]; exact (Below.refl _ w1).alloc (Nat.le_refl _) _
    have oa : OwnI wa w1.heap.size (some ⟨w1.heap.size, 0, none⟩) 1 [1] := by rw [hwa]; exact own_blk1 (zs := [1]) (World.alloc_heap_new _ _) (Nat.le_refl _) (by simp; unfold maxLen; omega)
    obtain ⟨p0, p1, p2, _, m1⟩ := boxc3 k11
    clear hw0 CD x0 y0 k1 k2 b1 B0
    go_wp2_with fail
    rw [← hwa]
    refine Calls.mono (CP.out _ _ _ _ (o1.sl.keep ba) oa.sl) ?_
    rintro e w5 ⟨a5, c5, rfl, o5, b5⟩
    have b15 : Below w1.heap.size w1 w5 := ba.trans (b5.mono ba.size)
    have k15 := boxc_keep k11 b15
    have K2 : Hid (BoxC w5 (w.heap.size + 1) 45 #[.slice none 0 0, .slice none 0 0, .bool false]) := boxc_keep k21 b15
    have HB : Hid (Below w.heap.size w w5) := B1.trans (b15.mono B1.size)
    have za := ba.size
    have z5 := b5.size
    clear p0 p1 p2 CP
    obtain ⟨p0, p1, p2, _, m5⟩ := boxc3 k15
    have p2d : w5.drew.cell? ⟨w.heap.size, 2, none⟩ = some (.bool true) := p2
    clear hwa ba b5 b15 k11 k21 B1 k15 oa o1
    go_wp2_with fail
    go_region_held3 (fun w' => w'.cell? ⟨w.heap.size, 2, none⟩ = some (.bool true))
      (first | (with_reducible exact p2d) | (with_reducible exact keep_set3 (by assumption) (by omega) _ _ _) | (rw [b2.cell (by simp; omega)]; with_reducible assumption))
      (first | (go_at_call 59; refine Calls.mono (CW.out w5.drew _ _ _) ?_; rintro e w2 ⟨g2, rfl, o2, b2⟩; have z2 : w5.heap.size ≤ w2.heap.size := b2.size; have b2' := below_un2 b2; obtain ⟨d0, d1, d2, df, dn⟩ := boxc3 (boxc_keep K2.out b2')))
    have H := FIN.out E w2 a5 c5 g2 w0.heap.size ((OwnI.keep o5 b2').mono (by omega)) (o2.mono (by show w0.heap.size ≤ w5.heap.size; omega)) n1 (HB.out.trans (b2'.mono HB.out.size))
    go_wp2
    refine ⟨rfl, .agg #[.slice a5 E.length c5, .slice (some ⟨g2, 0, none⟩) 1 1, .bool true], ?_, a5, c5, some ⟨g2, 0, none⟩, rfl, H.1, H.2.1, H.2.2⟩
    simp [results, Tryd.f51, go_sem, d0, d1, d2]
set_option maxRecDepth 20000 in
set_option maxHeartbeats 1000000 in
theorem implFloor_any (b : Bool) (r s : Option Addr) (cr cs : Nat) (X Y : List Int) (w : World) (hh : Hdl w) (hX : Sl w r X) (hY : Sl w s Y) (lX : X.length ≤ 1048576) (lY : Y.length ≤ 1048576) (cX : X.length ≤ cr) (cY : Y.length ≤ cs) :
    Calls Tryd.prog 25 #[fracV b r X.length cr s Y.length cs] w fun e w' => RetF w e w' (op1A floorA b X Y) := by
  obtain ⟨w0, hw0⟩ : ∃ w0, w0 = (w.alloc (.cells #[.bool b, .slice r X.length cr, .slice s Y.length cs] 26)).alloc (.cells #[.bool false, .slice none 0 0, .slice none 0 0] 26) := ⟨_, rfl⟩
  have B0 : Below w.heap.size w w0 := by rw [hw0]; exact ((Below.refl _ w).alloc (Nat.le_refl _) _).alloc (by simp) _
  have k2 : BoxC w0 (w.heap.size + 1) 26 #[.bool false, .slice none 0 0, .slice none 0 0] := by
    rw [hw0]
    have h := boxc_new (w.alloc (.cells #[.bool b, .slice r X.length cr, .slice s Y.length cs] 26)) 26 #[.bool false, .slice none 0 0, .slice none 0 0]
    rw [World.size_alloc] at h
    exact h
  cases h : fokB b X Y with
  | false =>
    rw [op1A_no h]
    have C1 : Hid _ := taken_no b r s cr cs X Y w0 (hX.keep B0) (hY.keep B0) lX lY cX cY h
    have CF : Hid (∀ t W, Hdl W → Calls Tryd.prog 32 #[flt t] W fun e w' => e = .returned (.bool true) ∧ Below W.heap.size W w') := fun t W h => isFault_hit t W h
    unfold fracV fr0 flt at C1
    unfold flt at CF
    unfold frV at C1
    unfold fracV
    clear h lX lY cX cY hX hY
    go_enter Tryd.func25, Tryd.ntmps25
    go_wp2_with fail
    rw [← hw0]
    refine Calls.mono C1.out ?_
    rintro e w1 ⟨⟨t, rfl⟩, b1⟩
    have k21 := boxc_keep k2 b1
    have B1 := B0.trans (b1.mono B0.size)
    have B2 : Below w.heap.size w (w1.alloc (.cells #[.slice none 0 0, .slice none 0 0, .bool false] 45)) := B1.alloc B1.size _
    have h2 := hh.keep B2 hh.pos
    have k22 := boxc_alloc k21 (.cells #[.slice none 0 0, .slice none 0 0, .bool false] 45)
    clear hw0 b1 B0 k2 C1
    go_wp2_with fail
    refine Calls.mono (CF.out t _ h2) ?_
    rintro e w2 ⟨rfl, b2⟩
    obtain ⟨d0, d1, d2, df, dn⟩ := boxc3 (boxc_keep k22 b2)
    have HB : Hid (Below w.heap.size w w2) := B2.trans (b2.mono B2.size)
    clear CF h2 b2 B1 B2 k21 k22 hh
    go_wp2
    refine ⟨rfl, .tuple #[.agg #[.bool false, .slice none 0 0, .slice none 0 0], .bool false], ?_, retF_no (below_set3 HB.out (by omega) _ _ _)⟩
    simp [results, Tryd.f25, go_sem, d0, d1, d2]
  | true =>
    have C1 : Hid _ := taken_yes b r s cr cs X Y w0 (hX.keep B0) (hY.keep B0) lX lY cX cY h
    obtain ⟨x, y, rfl, rfl, lx, ly, hy0, hb0, _⟩ := fok_parts h
    rw [op1A_yes h]
    unfold floorA
    have lq : (dgs (flQ b x y)).length ≤ 256 := Nat.le_trans (dgs_len_le (flQ_le hy0)) lx
    have CG : Hid (∀ W, Sl W r (dgs x) → Sl W s (dgs y) → Calls Tryd.prog 51 #[frV r (dgs x).length cr s (dgs y).length cs b] W fun e w' => ∃ r2 c2 s2, e = .returned (frV r2 (dgs (flQ b x y)).length c2 s2 1 1 b) ∧ Sl w' r2 (dgs (flQ b x y)) ∧ Sl w' s2 [1] ∧ Below W.heap.size W w') := fun W h1 h2 => frFloor_any r s cr cs x y b W h1 h2 lx ly cX hy0
    have C2 : Hid (∀ W r2 c2 s2, Sl W r2 (dgs (flQ b x y)) → Sl W s2 [1] → Calls Tryd.prog 33 #[frV r2 (dgs (flQ b x y)).length c2 s2 1 1 b, .nilIface] W fun e w' => ∃ r' cr' s' cs', e = .returned (.tuple #[fracV b r' (dgs (flQ b x y)).length cr' s' 1 cs', .bool true]) ∧ OwnI w' W.heap.size r' cr' (dgs (flQ b x y)) ∧ OwnI w' W.heap.size s' cs' [1] ∧ Ap r' s' ∧ Below W.heap.size W w') := fun W r2 c2 s2 h1 h2 => told_ok _ r2 s2 c2 1 (dgs (flQ b x y)) [1] b W h1 h2 (by omega) (by decide) rfl
    have CF : Hid (∀ W, Calls Tryd.prog 32 #[.nilIface] W fun e w' => e = .returned (.bool false) ∧ Below W.heap.size W w') := fun W => isFault_nil W
    obtain ⟨X, hXe⟩ : ∃ X, X = dgs x := ⟨_, rfl⟩
    obtain ⟨Y, hYe⟩ : ∃ Y, Y = dgs y := ⟨_, rfl⟩
    obtain ⟨Q, hQe⟩ : ∃ Q, Q = dgs (flQ b x y) := ⟨_, rfl⟩
    rw [← hXe] at hX
    rw [← hYe] at hY
    rw [← hXe, ← hYe] at C1 hw0
    rw [← hXe, ← hYe, ← hQe] at CG
    rw [← hQe] at C2
    rw [← hXe, ← hYe, ← hQe]
    unfold fracV at C1 C2
    unfold frV at C1 C2 CG
    unfold fracV
    clear h lX lY cX cY hh hXe hYe hQe lx ly hy0 hb0 lq
    go_enter Tryd.func25, Tryd.ntmps25
    go_wp2_with fail
    rw [← hw0]
    refine Calls.mono C1.out ?_
    rintro e w1 ⟨rfl, b1⟩
    have k21 := boxc_keep k2 b1
    have B1 := B0.trans (b1.mono B0.size)
    have B2 : Below w.heap.size w (w1.alloc (.cells #[.slice r X.length cr, .slice s Y.length cs, .bool b] 45)) := B1.alloc B1.size _
    have k22 := boxc_alloc k21 (.cells #[.slice r X.length cr, .slice s Y.length cs, .bool b] 45)
    have kx := boxc_new w1 45 #[.slice r X.length cr, .slice s Y.length cs, .bool b]
    clear hw0 b1 B0 k2 C1
    go_wp2_with fail
    refine Calls.mono (CF.out _) ?_
    rintro e w2 ⟨rfl, b2⟩
    have k23 := boxc_keep k22 b2
    have B3 := B2.trans (b2.mono B2.size)
    obtain ⟨c0, c1, c2, _, _⟩ := boxc3 (boxc_keep kx b2)
    clear b2 B1 B2 k21 k22 kx CF
    go_wp2_with fail
    refine Calls.mono (CG.out _ (hX.keep B3) (hY.keep B3)) ?_
    rintro e w3 ⟨r3, c3, s3, rfl, t3, u3, b3⟩
    have k24 := boxc_keep k23 b3
    have B4 := B3.trans (b3.mono B3.size)
    clear b3 B3 k23 CG c0 c1 c2 hX hY
    go_wp2_with fail
    refine Calls.mono (C2.out _ _ _ _ t3 u3) ?_
    rintro e w4 ⟨r4, c4, s4, e4, rfl, o4, p4, ap4, b4⟩
    obtain ⟨d0, d1, d2, df, dn⟩ := boxc3 (boxc_keep k24 b4)
    have H : Hid (RetF w _ _ ⟨b, Q, [1], true⟩) := retF_fin (A := ⟨b, Q, [1], true⟩) o4 p4 ap4 (B4.trans (b4.mono B4.size)) (Nat.le_succ w.heap.size) (boxc_lt k24) (.bool b) (.slice r4 Q.length c4) (.slice s4 1 e4)
    clear C2 b4 B4 k24 o4 p4 ap4 t3 u3
    unfold fracV at H
    go_wp2
    refine ⟨rfl, .tuple #[.agg #[.bool b, .slice r4 Q.length c4, .slice s4 1 e4], .bool true], ?_, H.out⟩
    simp [results, Tryd.f25, go_sem, d0, d1, d2]
set_option maxRecDepth 20000 in
set_option maxHeartbeats 2000000 in
theorem specFloor_any (b : Bool) (r s : Option Addr) (cr cs : Nat) (X Y : List Int) (w : World) (hX : Sl w r X) (hY : Sl w s Y) (lX : X.length ≤ 1048576) (lY : Y.length ≤ 1048576) :
    Calls Tryd.prog 24 #[fracV b r X.length cr s Y.length cs] w fun e w' => RetS w e w' (op1A floorA b X Y) := by
  obtain ⟨w0, hw0⟩ : ∃ w0, w0 = (w.alloc (.cells #[.bool b, .slice r X.length cr, .slice s Y.length cs] 26)).alloc (.cells #[.bool false, .slice none 0 0, .slice none 0 0] 26) := ⟨_, rfl⟩
  have B0 : Below w.heap.size w w0 := by rw [hw0]; exact ((Below.refl _ w).alloc (Nat.le_refl _) _).alloc (by simp) _
  have k1 : BoxC w0 w.heap.size 26 #[.bool b, .slice r X.length cr, .slice s Y.length cs] := by rw [hw0]; exact boxc_alloc (boxc_new _ _ _) _
  have k2 : BoxC w0 (w.heap.size + 1) 26 #[.bool false, .slice none 0 0, .slice none 0 0] := by
    rw [hw0]
    have h := boxc_new (w.alloc (.cells #[.bool b, .slice r X.length cr, .slice s Y.length cs] 26)) 26 #[.bool false, .slice none 0 0, .slice none 0 0]
    rw [World.size_alloc] at h
    exact h
  have C1 : Hid _ := specFok_any b r s cr cs X Y w0 (hX.keep B0) (hY.keep B0) lX lY
  cases h : fokB b X Y with
  | false =>
    rw [op1A_no h]
    rw [h] at C1
    unfold fracV at C1 ⊢
    clear h lX lY hX hY
    go_enter Tryd.func24, Tryd.ntmps24
    go_wp2_with fail
    rw [← hw0]
    refine Calls.mono C1.out ?_
    rintro e w1 ⟨rfl, b1⟩
    obtain ⟨d0, d1, d2, df, dn⟩ := boxc3 (boxc_keep k2 b1)
    have HB : Hid (Below w.heap.size w w1) := B0.trans (b1.mono B0.size)
    clear hw0 b1 B0 k1 k2 C1
    go_wp2
    refine ⟨rfl, .tuple #[.agg #[.bool false, .slice none 0 0, .slice none 0 0], .bool false], ?_, retS_no (below_set3 HB.out (by omega) _ _ _)⟩
    simp [results, Tryd.f24, go_sem, d0, d1, d2]
  | true =>
    rw [h] at C1
    obtain ⟨x, y, rfl, rfl, lx, ly, hy0, hb0, _⟩ := fok_parts h
    rw [op1A_yes h]
    have lq : (dgs (flQ b x y)).length ≤ 256 := Nat.le_trans (dgs_len_le (flQ_le hy0)) lx
    have ld : (dgs (x / y)).length ≤ 256 := Nat.le_trans (dgs_len_le (Nat.div_le_self x y)) lx
    have CD : Hid (∀ W, Sl W r (dgs x) → Sl W s (dgs y) → Calls Tryd.prog 49 #[.slice r (dgs x).length cr, .slice s (dgs y).length cs] W fun e w' => ∃ a c a' c', e = .returned (.tuple #[.slice a (dgs (x / y)).length c, .slice a' (dgs (x % y)).length c']) ∧ Sl w' a (dgs (x / y)) ∧ Below W.heap.size W w') := fun W h1 h2 => (l1Div_any r s cr cs x y W h1 h2 (by omega) (by omega) hy0).mono fun e w' ⟨r1, c1, s1, d1, h1, h2, _, h4⟩ => ⟨r1, c1, s1, d1, h1, h2.sl, h4⟩
    have CP : Hid (∀ W a c g, Sl W a (dgs (x / y)) → Sl W (some ⟨g, 0, none⟩) [1] → Calls Tryd.prog 50 #[.slice a (dgs (x / y)).length c, .slice (some ⟨g, 0, none⟩) 1 1] W fun e w' => ∃ a c, e = .returned (.slice a (dgs (x / y + 1)).length c) ∧ Sl w' a (dgs (x / y + 1)) ∧ Below W.heap.size W w') := fun W a c g h1 h2 => (l1Add_any a (some ⟨g, 0, none⟩) c 1 (x / y) 1 W h1 h2 (by omega) (by decide)).mono fun e w' ⟨r1, c1, h1, h2, h4⟩ => ⟨r1, c1, h1, h2.sl, h4⟩
    have CM : Hid (∀ W a c g, Sl W a (dgs (flQ b x y)) → Sl W (some ⟨g, 0, none⟩) [1] → Calls Tryd.prog 40 #[.bool b, .slice a (dgs (flQ b x y)).length c, .slice (some ⟨g, 0, none⟩) 1 1] W fun e w' => RetS W e w' (floorA b x y)) := fun W a c g h1 h2 => by
      have h5 := l2Make_any b a (some ⟨g, 0, none⟩) c 1 (flQ b x y) 1 W h1 h2 (by omega) (by decide) (by decide)
      rw [makeA_one (fun hb => flQ_pos hb0 hb) lq] at h5
      exact h5
    have hm : (0 : Int) < ((dgs (x % y)).length : Int) ↔ x % y ≠ 0 := by have := dgs_pos_len (x % y); omega
    have hcase : (b = false ∧ flQ b x y = x / y) ∨ (b = true ∧ x % y = 0 ∧ flQ b x y = x / y) ∨ (b = true ∧ x % y ≠ 0 ∧ flQ b x y = x / y + 1) := by
      unfold flQ
      cases b with
      | false => exact .inl ⟨rfl, by simp⟩
      | true =>
        by_cases h : x % y = 0
        · exact .inr (.inl ⟨rfl, h, by simp [h]⟩)
        · exact .inr (.inr ⟨rfl, h, by simp [h]⟩)
    obtain ⟨A, hA⟩ : ∃ A, A = floorA b x y := ⟨_, rfl⟩
    obtain ⟨X, hXe⟩ : ∃ X, X = dgs x := ⟨_, rfl⟩
    obtain ⟨Y, hYe⟩ : ∃ Y, Y = dgs y := ⟨_, rfl⟩
    obtain ⟨M, hM⟩ : ∃ M, M = dgs (x % y) := ⟨_, rfl⟩
    obtain ⟨D, hD⟩ : ∃ D, D = dgs (x / y) := ⟨_, rfl⟩
    obtain ⟨E, hE⟩ : ∃ E, E = dgs (x / y + 1) := ⟨_, rfl⟩
    rw [← hA] at CM
    rw [← hXe] at hX
    rw [← hYe] at hY
    rw [← hXe, ← hYe] at C1 hw0 k1
    rw [← hXe, ← hYe, ← hM, ← hD] at CD
    rw [← hD, ← hE] at CP
    rw [← hM] at hm
    rw [← hA, ← hXe, ← hYe]
    clear hA hXe hYe hM lx ly lX lY h lq ld hy0 hb0
    unfold fracV at C1
    rcases hcase with ⟨rfl, e⟩ | ⟨rfl, h0, e⟩ | ⟨rfl, h0, e⟩
    · rw [e, ← hD] at CM
      clear e hD hE hm CP
      unfold fracV
      go_enter Tryd.func24, Tryd.ntmps24
      go_wp2_with fail
      rw [← hw0]
      refine Calls.mono C1.out ?_
      rintro e w1 ⟨rfl, b1⟩
      have k11 := boxc_keep k1 b1
      have k21 := boxc_keep k2 b1
      have B1 := B0.trans (b1.mono B0.size)
      obtain ⟨p0, p1, p2, _, n1⟩ := boxc3 k11
      clear hw0 b1 B0 k1 k2 C1
      go_wp2_with fail
      refine Calls.mono (CD.out _ (hX.keep B1) (hY.keep B1)) ?_
      rintro e w2 ⟨a2, c2, a2', c2', rfl, o2, b2⟩
      have k12 := boxc_keep k11 b2
      have k22 := boxc_keep k21 b2
      have B2 := B1.trans (b2.mono B1.size)
      clear p0 p1 p2 b2 B1 k11 k21 CD hX hY
      obtain ⟨p0, p1, p2, _, n2⟩ := boxc3 k12
      obtain ⟨wa, hwa⟩ : ∃ wa, wa = w2.alloc (.cells #[.int .i64 1] 3) := ⟨_, rfl⟩
      have ba : Below w2.heap.size w2 wa := by rw [hwa]; exact (Below.refl _ w2).alloc (Nat.le_refl _) _
      have oa : Sl wa (some ⟨w2.heap.size, 0, none⟩) [1] := by rw [hwa]; exact OwnI.sl (base := w2.heap.size) (cap := 1) (own_blk1 (zs := [1]) (World.alloc_heap_new _ _) (Nat.le_refl _) (by simp; unfold maxLen; omega))
      have k2a := boxc_keep k22 ba
      have Ba := B2.trans (ba.mono B2.size)
      go_wp2_with fail
      rw [← hwa]
      refine Calls.mono (CM.out _ _ _ _ (o2.keep ba) oa) ?_
      rintro e w5 ⟨r5, c5, s5, e5, rfl, o5, p5, b5⟩
      obtain ⟨d0, d1, d2, df, dn⟩ := boxc3 (boxc_keep k2a b5)
      have H : Hid (RetS w _ _ A) := retS_fin o5 p5 (Ba.trans (b5.mono Ba.size)) (Nat.le_succ w.heap.size) (boxc_lt k2a) (boxc_lt k2a) (.bool A.b) (.slice r5 A.X.length c5) (.slice s5 A.Y.length e5)
      clear CM o2 oa o5 p5 b5 k12 k22 k2a B2 Ba ba hwa p0 p1 p2
      unfold fracV at H ⊢
      go_wp2
      refine ⟨rfl, .tuple #[.agg #[.bool A.b, .slice r5 A.X.length c5, .slice s5 A.Y.length e5], .bool A.ok], ?_, H.out⟩
      simp [results, Tryd.f24, go_sem, d0, d1, d2]
    · rw [e, ← hD] at CM
      have hM0 : ¬ (0 : Int) < (M.length : Int) := fun h => hm.1 h h0
      clear e hD hE hm CP h0
      unfold fracV
      go_enter Tryd.func24, Tryd.ntmps24
      go_wp2_with fail
      rw [← hw0]
      refine Calls.mono C1.out ?_
      rintro e w1 ⟨rfl, b1⟩
      have k11 := boxc_keep k1 b1
      have k21 := boxc_keep k2 b1
      have B1 := B0.trans (b1.mono B0.size)
      obtain ⟨p0, p1, p2, _, n1⟩ := boxc3 k11
      clear hw0 b1 B0 k1 k2 C1
      go_wp2_with fail
      refine Calls.mono (CD.out _ (hX.keep B1) (hY.keep B1)) ?_
      rintro e w2 ⟨a2, c2, a2', c2', rfl, o2, b2⟩
      have k12 := boxc_keep k11 b2
      have k22 := boxc_keep k21 b2
      have B2 := B1.trans (b2.mono B1.size)
      clear p0 p1 p2 b2 B1 k11 k21 CD hX hY
      obtain ⟨p0, p1, p2, _, n2⟩ := boxc3 k12
      obtain ⟨wa, hwa⟩ : ∃ wa, wa = w2.alloc (.cells #[.int .i64 1] 3) := ⟨_, rfl⟩
      have ba : Below w2.heap.size w2 wa := by rw [hwa]; exact (Below.refl _ w2).alloc (Nat.le_refl _) _
      have oa : Sl wa (some ⟨w2.heap.size, 0, none⟩) [1] := by rw [hwa]; exact OwnI.sl (base := w2.heap.size) (cap := 1) (own_blk1 (zs := [1]) (World.alloc_heap_new _ _) (Nat.le_refl _) (by simp; unfold maxLen; omega))
      have k2a := boxc_keep k22 ba
      have Ba := B2.trans (ba.mono B2.size)
      go_wp2_with fail
      rw [← hwa]
      refine Calls.mono (CM.out _ _ _ _ (o2.keep ba) oa) ?_
      rintro e w5 ⟨r5, c5, s5, e5, rfl, o5, p5, b5⟩
      obtain ⟨d0, d1, d2, df, dn⟩ := boxc3 (boxc_keep k2a b5)
      have H : Hid (RetS w _ _ A) := retS_fin o5 p5 (Ba.trans (b5.mono Ba.size)) (Nat.le_succ w.heap.size) (boxc_lt k2a) (boxc_lt k2a) (.bool A.b) (.slice r5 A.X.length c5) (.slice s5 A.Y.length e5)
      clear CM o2 oa o5 p5 b5 k12 k22 k2a B2 Ba ba hwa p0 p1 p2
      unfold fracV at H ⊢
      go_wp2
      refine ⟨rfl, .tuple #[.agg #[.bool A.b, .slice r5 A.X.length c5, .slice s5 A.Y.length e5], .bool A.ok], ?_, H.out⟩
      simp [results, Tryd.f24, go_sem, d0, d1, d2]
    · rw [e, ← hE] at CM
      have hM1 : (0 : Int) < (M.length : Int) := hm.2 h0
      clear e hD hE hm h0
      unfold fracV
      go_enter Tryd.func24, Tryd.ntmps24
      go_wp2_with fail
      rw [← hw0]
      refine Calls.mono C1.out ?_
      rintro e w1 ⟨rfl, b1⟩
      have k11 := boxc_keep k1 b1
      have k21 := boxc_keep k2 b1
      have B1 := B0.trans (b1.mono B0.size)
      obtain ⟨p0, p1, p2, _, n1⟩ := boxc3 k11
      clear hw0 b1 B0 k1 k2 C1
      go_wp2_with fail
      refine Calls.mono (CD.out _ (hX.keep B1) (hY.keep B1)) ?_
      rintro e w2 ⟨a2, c2, a2', c2', rfl, o2, b2⟩
      have k12 := boxc_keep k11 b2
      have k22 := boxc_keep k21 b2
      have B2 := B1.trans (b2.mono B1.size)
      clear p0 p1 p2 b2 B1 k11 k21 CD hX hY
      obtain ⟨p0, p1, p2, _, n2⟩ := boxc3 k12
      obtain ⟨wb, hwb⟩ : ∃ wb, wb = w2.alloc (.cells #[.int .i64 1] 3) := ⟨_, rfl⟩
      have bb : Below w2.heap.size w2 wb := by rw [hwb]; exact (Below.refl _ w2).alloc (Nat.le_refl _) _
      have ob : Sl wb (some ⟨w2.heap.size, 0, none⟩) [1] := by rw [hwb]; exact OwnI.sl (base := w2.heap.size) (cap := 1) (own_blk1 (zs := [1]) (World.alloc_heap_new _ _) (Nat.le_refl _) (by simp; unfold maxLen; omega))
      go_wp2_with fail
      rw [← hwb]
      refine Calls.mono (CP.out _ _ _ _ (o2.keep bb) ob) ?_
      rintro e w6 ⟨a6, c6, rfl, o6, b6⟩
      have b26 : Below w2.heap.size w2 w6 := bb.trans (b6.mono bb.size)
      have k16 := boxc_keep k12 b26
      have k26 := boxc_keep k22 b26
      have B6 := B2.trans (b26.mono B2.size)
      clear p0 p1 p2 CP bb ob hwb b6 b26 k12 k22 B2 o2
      obtain ⟨p0, p1, p2, _, n6⟩ := boxc3 k16
      obtain ⟨wa, hwa⟩ : ∃ wa, wa = w6.alloc (.cells #[.int .i64 1] 3) := ⟨_, rfl⟩
      have ba : Below w6.heap.size w6 wa := by rw [hwa]; exact (Below.refl _ w6).alloc (Nat.le_refl _) _
      have oa : Sl wa (some ⟨w6.heap.size, 0, none⟩) [1] := by rw [hwa]; exact OwnI.sl (base := w6.heap.size) (cap := 1) (own_blk1 (zs := [1]) (World.alloc_heap_new _ _) (Nat.le_refl _) (by simp; unfold maxLen; omega))
      have k2a := boxc_keep k26 ba
      have Ba := B6.trans (ba.mono B6.size)
      go_wp2_with fail
      rw [← hwa]
      refine Calls.mono (CM.out _ _ _ _ (o6.keep ba) oa) ?_
      rintro e w5 ⟨r5, c5, s5, e5, rfl, o5, p5, b5⟩
      obtain ⟨d0, d1, d2, df, dn⟩ := boxc3 (boxc_keep k2a b5)
      have H : Hid (RetS w _ _ A) := retS_fin o5 p5 (Ba.trans (b5.mono Ba.size)) (Nat.le_succ w.heap.size) (boxc_lt k2a) (boxc_lt k2a) (.bool A.b) (.slice r5 A.X.length c5) (.slice s5 A.Y.length e5)
      clear CM o6 oa o5 p5 b5 k16 k26 k2a B6 Ba ba hwa p0 p1 p2
      unfold fracV at H ⊢
      go_wp2
      refine ⟨rfl, .tuple #[.agg #[.bool A.b, .slice r5 A.X.length c5, .slice s5 A.Y.length e5], .bool A.ok], ?_, H.out⟩
      simp [results, Tryd.f24, go_sem, d0, d1, d2]
end Go.Proofs.YthokphoojmpajagDoor
