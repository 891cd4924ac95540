/- For every pair of fractions the law FnExactFracCmp returns true and its arguments read as before; no condition beyond the row's own (the listed variable, tied by the card). -/
import Derived.Test.YthokphoojmpajafDoorCards
import Derived.Test.YthokphoojmpajafDoorTie
import Derived.Test.YthokphoojmpajafDoorFracOpen
import Derived.Test.YthokphoojmpajafDoorFracBy
import Derived.Test.YthokphoojmpajafDoorLaid
import Derived.Test.YthokphoojmpajafDoorFrCmp
import Derived.ChangeVars
import Derived.ChangeSame
import Derived.LaidHandle
import Derived.SevenTiedAt
import Derived.Deep.Cut
namespace Go.Proofs.YthokphoojmpajafDoor
namespace fnExactFracCmp
open Go.ChangeShapes Go.WideShapes Go.ChangeAt Go.RowKit Go.Proofs.Pin

set_option maxRecDepth 100000 in
set_option maxHeartbeats 8000000 in
theorem walk (b : Bool) (a0 : Option Addr) (c0 : Nat) (X : List Int) (a1 : Option Addr) (c1 : Nat) (Y : List Int) (b' : Bool) (a2 : Option Addr) (c2 : Nat) (X' : List Int) (a3 : Option Addr) (c3 : Nat) (Y' : List Int) (w : World) (hh : Hdl w) (sX : Sl w a0 X) (sY : Sl w a1 Y) (sX' : Sl w a2 X') (sY' : Sl w a3 Y') (mX : X.length ≤ 9223372036854775807) (mY : Y.length ≤ 9223372036854775807) (mX' : X'.length ≤ 9223372036854775807) (mY' : Y'.length ≤ 9223372036854775807) :
    Calls Tryd.prog 3 #[fracV b a0 X.length c0 a1 Y.length c1, fracV b' a2 X'.length c2 a3 Y'.length c3] w fun e w' => e = .returned (.bool true) ∧ Below w.heap.size w w' := by
  obtain ⟨w0, hw0⟩ : ∃ w0, w0 = (w.alloc (.cells #[.bool b, .slice a0 X.length c0, .slice a1 Y.length c1] 24)).alloc (.cells #[.bool b', .slice a2 X'.length c2, .slice a3 Y'.length c3] 24) := ⟨_, rfl⟩
  have B0 : Below w.heap.size w w0 := by rw [hw0]; exact ((Below.refl _ w).alloc (Nat.le_refl _) _).alloc (by simp) _
  have kA0 : BoxC w0 w.heap.size 24 #[.bool b, .slice a0 X.length c0, .slice a1 Y.length c1] := by rw [hw0]; exact boxc_alloc (boxc_new _ _ _) _
  have kB0 : BoxC w0 (w.heap.size + 1) 24 #[.bool b', .slice a2 X'.length c2, .slice a3 Y'.length c3] := by
    rw [hw0]
    have h := boxc_new (w.alloc (.cells #[.bool b, .slice a0 X.length c0, .slice a1 Y.length c1] 24)) 24 #[.bool b', .slice a2 X'.length c2, .slice a3 Y'.length c3]
    rw [World.size_alloc] at h
    exact h
  have Z1 : Hid (Calls Tryd.prog 8 #[fracV b a0 X.length c0 a1 Y.length c1, .int .i64 1048576] w0 fun e w' => ∃ l' : Int, e = .returned (.int .i64 l') ∧ (l' < 0 ∨ (0 ≤ l' ∧ l' ≤ 1048576 ∧ X.length ≤ 1048576 ∧ Y.length ≤ 1048576)) ∧ Below w0.heap.size w0 w') := szFrac_at b a0 a1 _ _ c0 c1 1048576 w0 mX mY (by omega) (by omega)
  have Z2 : Hid (∀ (W : World) (l : Int), 0 ≤ l → l ≤ 1048576 → Calls Tryd.prog 8 #[fracV b' a2 X'.length c2 a3 Y'.length c3, .int .i64 l] W fun e w' => ∃ l' : Int, e = .returned (.int .i64 l') ∧ (l' < 0 ∨ (0 ≤ l' ∧ l' ≤ 1048576 ∧ X'.length ≤ 1048576 ∧ Y'.length ≤ 1048576)) ∧ Below W.heap.size W w') := fun W l h0 h1 => szFrac_at b' a2 a3 _ _ c2 c3 l W mX' mY' h0 h1
  unfold fracV at Z1 Z2 ⊢
  clear mX mY mX' mY'
  go_enter Tryd.func3, Tryd.ntmps3
  go_wp2_with fail
  rw [← hw0]
  refine Calls.mono Z1.out ?_
  rintro e w1 ⟨l, rfl, hl, b1⟩
  have B1 : Below w.heap.size w w1 := B0.trans (b1.mono B0.size)
  rcases hl with hneg | ⟨hl0, hl1, lX, lY⟩
  · clear Z1 Z2 b1 kA0 kB0 hw0
    go_wp2
    go_ret
    exact ⟨rfl, B1⟩
  have hl' : ¬ l < 0 := by omega
  have kA1 := boxc_keep kA0 b1
  have kB1 := boxc_keep kB0 b1
  obtain ⟨e0, e1, e2, _, _⟩ := boxc3 kB1
  clear Z1 b1 kA0 kB0 hw0 B0
  go_wp2_with fail
  refine Calls.mono (Z2.out _ _ hl0 hl1) ?_
  rintro e w2 ⟨l2, rfl, hl2, b2⟩
  have B2 : Below w.heap.size w w2 := B1.trans (b2.mono B1.size)
  rcases hl2 with hneg | ⟨hl20, hl21, lX', lY'⟩
  · clear Z2 b2 kA1 kB1 e0 e1 e2
    go_wp2
    go_ret
    exact ⟨rfl, B2⟩
  have hl2' : ¬ l2 < 0 := by omega
  have KA : Hid (BoxC w2 w.heap.size 24 #[.bool b, .slice a0 X.length c0, .slice a1 Y.length c1]) := boxc_keep kA1 b2
  have KB : Hid (BoxC w2 (w.heap.size + 1) 24 #[.bool b', .slice a2 X'.length c2, .slice a3 Y'.length c3]) := boxc_keep kB1 b2
  clear Z2 b2 kA1 kB1 e0 e1 e2 hl0 hl1 hl20 hl21 B1
  have z2 : w.heap.size + 1 < w2.heap.size := boxc_lt KB.out
  have TA : Hid (∀ W, Sl W a0 X → Sl W a1 Y → Calls Tryd.prog 10 #[fracV b a0 X.length c0 a1 Y.length c1] W fun e w' => ∃ g1 g2, e = .returned (fracV b (some ⟨g1, 0, none⟩) X.length X.length (some ⟨g2, 0, none⟩) Y.length Y.length) ∧ OwnI w' W.heap.size (some ⟨g1, 0, none⟩) X.length X ∧ OwnI w' W.heap.size (some ⟨g2, 0, none⟩) Y.length Y ∧ g1 ≠ g2 ∧ Below W.heap.size W w') := fun W h1 h2 => toFrac_any b a0 a1 c0 c1 X Y W h1 h2 lX lY
  have TB : Hid (∀ W, Sl W a2 X' → Sl W a3 Y' → Calls Tryd.prog 10 #[fracV b' a2 X'.length c2 a3 Y'.length c3] W fun e w' => ∃ g1 g2, e = .returned (fracV b' (some ⟨g1, 0, none⟩) X'.length X'.length (some ⟨g2, 0, none⟩) Y'.length Y'.length) ∧ OwnI w' W.heap.size (some ⟨g1, 0, none⟩) X'.length X' ∧ OwnI w' W.heap.size (some ⟨g2, 0, none⟩) Y'.length Y' ∧ g1 ≠ g2 ∧ Below W.heap.size W w') := fun W h1 h2 => toFrac_any b' a2 a3 c2 c3 X' Y' W h1 h2 lX' lY'
  have CS : Hid (∀ W u1 u2 u3 u4, Sl W u1 X → Sl W u2 Y → Sl W u3 X' → Sl W u4 Y' → Calls Tryd.prog 9 #[fracV b u1 X.length X.length u2 Y.length Y.length, fracV b' u3 X'.length X'.length u4 Y'.length Y'.length] W fun e w' => e = .returned (.int .i64 (cmA b X Y b' X' Y')) ∧ Below W.heap.size W w') := fun W u1 u2 u3 u4 h1 h2 h3 h4 => specCmp_any b u1 u2 _ _ X Y b' u3 u4 _ _ X' Y' W h1 h2 h3 h4 lX lY lX' lY'
  have CI : Hid (∀ W u1 u2 u3 u4, Hdl W → Sl W u1 X → Sl W u2 Y → Sl W u3 X' → Sl W u4 Y' → Calls Tryd.prog 11 #[fracV b u1 X.length X.length u2 Y.length Y.length, fracV b' u3 X'.length X'.length u4 Y'.length Y'.length] W fun e w' => e = .returned (.int .i64 (cmA b X Y b' X' Y')) ∧ Below W.heap.size W w') := fun W u1 u2 u3 u4 h0 h1 h2 h3 h4 => implCmp_any b u1 u2 _ _ X Y b' u3 u4 _ _ X' Y' W h0 h1 h2 h3 h4 lX lY (Nat.le_refl _) (Nat.le_refl _) lX' lY' (Nat.le_refl _) (Nat.le_refl _)
  obtain ⟨z, hz⟩ : ∃ z : Int, z = cmA b X Y b' X' Y' := ⟨_, rfl⟩
  rw [← hz] at CS CI
  clear hz
  have hne : (z != z) = false := by simp
  have EQ : Hid (∀ (W : World) (bb : Bool) (r1 s1 r2 s2 : Option Addr) (k1 d1 k2 d2 : Nat) (P Q : List Int), P.length ≤ 1048576 → Q.length ≤ 1048576 → Sl W r1 P → Sl W s1 Q → Sl W r2 P → Sl W s2 Q → Calls Tryd.prog 12 #[fracV bb r1 P.length k1 s1 Q.length d1, fracV bb r2 P.length k2 s2 Q.length d2] W fun e w' => e = .returned (.bool true) ∧ Below W.heap.size W w') := fun W bb r1 s1 r2 s2 k1 d1 k2 d2 P Q lP lQ h1 h2 h3 h4 => eqFrac_any bb r1 s1 r2 s2 k1 d1 k2 d2 P Q W h1 h2 h3 h4 lP lQ
  unfold fracV at TA TB CS CI EQ
  have SA : Hid (Sl w2 a0 X ∧ Sl w2 a1 Y ∧ Sl w2 a2 X' ∧ Sl w2 a3 Y') := ⟨sX.keep B2, sY.keep B2, sX'.keep B2, sY'.keep B2⟩
  have HB : Hid (Below w.heap.size w w2) := B2
  have HH : Hid (Hdl w) := hh
  clear sX sY sX' sY' B2 hh

  obtain ⟨p0, p1, p2, _, n1⟩ := boxc3 KA.out
  obtain ⟨q0, q1, q2, _, n2⟩ := boxc3 KB.out
  have p0d : w2.drew.cell? ⟨w.heap.size, 0, none⟩ = some (.bool b) := p0
  have p1d : w2.drew.cell? ⟨w.heap.size, 1, none⟩ = some (.slice a0 X.length c0) := p1
  have p2d : w2.drew.cell? ⟨w.heap.size, 2, none⟩ = some (.slice a1 Y.length c1) := p2
  have q0d : w2.drew.cell? ⟨w.heap.size + 1, 0, none⟩ = some (.bool b') := q0
  have q1d : w2.drew.cell? ⟨w.heap.size + 1, 1, none⟩ = some (.slice a2 X'.length c2) := q1
  have q2d : w2.drew.cell? ⟨w.heap.size + 1, 2, none⟩ = some (.slice a3 Y'.length c3) := q2
  clear p0 p1 p2 q0 q1 q2
  go_wp2_with fail
  go_region_held3 (fun w' => w'.cell? ⟨w.heap.size, 0, none⟩ = some (.bool b) ∧ w'.cell? ⟨w.heap.size, 1, none⟩ = some (.slice a0 X.length c0) ∧ w'.cell? ⟨w.heap.size, 2, none⟩ = some (.slice a1 Y.length c1) ∧ w'.cell? ⟨w.heap.size + 1, 0, none⟩ = some (.bool b') ∧ w'.cell? ⟨w.heap.size + 1, 1, none⟩ = some (.slice a2 X'.length c2) ∧ w'.cell? ⟨w.heap.size + 1, 2, none⟩ = some (.slice a3 Y'.length c3))
    (first
      | (with_reducible exact ⟨p0d, p1d, p2d, q0d, q1d, q2d⟩)
      | (go_split_ands; refine ⟨?_, ?_, ?_, ?_, ?_, ?_⟩ <;> first | (with_reducible exact cell_big bT (by omega) (by assumption)) | (with_reducible exact cell_big bS (by omega) (by assumption)) | (with_reducible exact cell_big bR (by omega) (by assumption))))
    (first
      | (go_at_call_of 10 (Value.agg #[Value.bool b, Value.slice a0 X.length c0, Value.slice a1 Y.length c1]); (refine Calls.mono (TA.out w2.drew ?_ ?_) ?_); (exact SA.out.1); (exact SA.out.2.1); rintro e wr ⟨ga, gb, rfl, oa, ob, _, br⟩; have bR : Below w2.heap.size w2 wr := below_un2 br)
      | (go_at_call_of 10 (Value.agg #[Value.bool b', Value.slice a2 X'.length c2, Value.slice a3 Y'.length c3]); (refine Calls.mono (TB.out wr ?_ ?_) ?_); (exact Sl.keep SA.out.2.2.1 bR); (exact Sl.keep SA.out.2.2.2 bR); rintro e ws ⟨gc, gd, rfl, oc, od, _, bs⟩; have bS : Below w2.heap.size w2 ws := bR.trans (bs.mono bR.size); have ua := (oa.keep bs).sl; have ub := (ob.keep bs).sl)
      | (go_at_call 9; (refine Calls.mono (CS.out ws _ _ _ _ ?_ ?_ ?_ ?_) ?_); (exact ua); (exact ub); (exact oc.sl); (exact od.sl); rintro e wt ⟨rfl, bt⟩; have bT : Below w2.heap.size w2 wt := bS.trans (bt.mono bS.size)))
  obtain ⟨w3, hw3⟩ : ∃ w3, w3 = wt := ⟨_, rfl⟩
  rw [← hw3] at bT ⊢
  have kA3 := boxc_keep KA.out bT
  have kB3 := boxc_keep KB.out bT
  have p3 := Sl.keep SA.out.1 bT
  have q3 := Sl.keep SA.out.2.1 bT
  have u3 := Sl.keep SA.out.2.2.1 bT
  have v3 := Sl.keep SA.out.2.2.2 bT
  have B3 := Below.trans HB.out (bT.mono HB.out.size)
  clear bT bS bR bt bs br ua ub oa ob oc od hw3 p0d p1d p2d q0d q1d q2d KA KB SA CS
  obtain ⟨kAc0, kAc1, kAc2, _, kAcn⟩ := boxc3 kA3
  go_wp2_with fail
  refine Calls.mono (TA.out _ p3 q3) ?_
  rintro e w4 ⟨x1, x2, rfl, oX4, oZ4, hx12, b4⟩
  clear kAc0 kAc1 kAc2
  have kA4 := boxc_keep kA3 b4
  have kB4 := boxc_keep kB3 b4
  have p4 := p3.keep b4
  have q4 := q3.keep b4
  have u4 := u3.keep b4
  have v4 := v3.keep b4
  have B4 := B3.trans (b4.mono B3.size)
  clear kA3 kB3 p3 q3 u3 v3 B3 b4
  have zB4 := boxc_lt kB4
  obtain ⟨kBc0, kBc1, kBc2, _, kBcn⟩ := boxc3 kB4
  have kBne : ¬ w.heap.size + 1 = w4.heap.size := by omega
  obtain ⟨w5, hw5⟩ : ∃ w5, w5 = w4.alloc (.cells #[.bool b, .slice (some ⟨x1, 0, none⟩) X.length X.length, .slice (some ⟨x2, 0, none⟩) Y.length Y.length] 27) := ⟨_, rfl⟩
  obtain ⟨bx, hbx⟩ : ∃ bx, bx = w4.heap.size := ⟨_, rfl⟩
  have b5 : Below w4.heap.size w4 w5 := by rw [hw5]; exact (Below.refl _ w4).alloc (Nat.le_refl _) _
  have kX5 : BoxC w5 bx 27 #[.bool b, .slice (some ⟨x1, 0, none⟩) X.length X.length, .slice (some ⟨x2, 0, none⟩) Y.length Y.length] := by rw [hw5, hbx]; exact boxc_new _ _ _
  have kA5 := boxc_keep kA4 b5
  have kB5 := boxc_keep kB4 b5
  have p5 := p4.keep b5
  have q5 := q4.keep b5
  have u5 := u4.keep b5
  have v5 := v4.keep b5
  have oX5 := oX4.keep b5
  have oZ5 := oZ4.keep b5
  have B5 := B4.trans (b5.mono B4.size)
  clear kA4 kB4 p4 q4 u4 v4 oX4 oZ4 B4 b5
  go_wp2_with fail
  rw [← hw5, ← hbx]
  clear hw5 hbx
  refine Calls.mono (TB.out _ u5 v5) ?_
  rintro e w6 ⟨y1, y2, rfl, oY6, oV6, hy12, b6⟩
  clear kBc0 kBc1 kBc2
  have kA6 := boxc_keep kA5 b6
  have kB6 := boxc_keep kB5 b6
  have p6 := p5.keep b6
  have q6 := q5.keep b6
  have u6 := u5.keep b6
  have v6 := v5.keep b6
  have oX6 := oX5.keep b6
  have oZ6 := oZ5.keep b6
  have kX6 := boxc_keep kX5 b6
  have B6 := B5.trans (b6.mono B5.size)
  clear kA5 kB5 p5 q5 u5 v5 oX5 oZ5 kX5 B5 b6
  have zX6 := boxc_lt kX6
  obtain ⟨kXc0, kXc1, kXc2, _, kXcn⟩ := boxc3 kX6
  have kXne : ¬ bx = w6.heap.size := by omega
  obtain ⟨w7, hw7⟩ : ∃ w7, w7 = w6.alloc (.cells #[.bool b', .slice (some ⟨y1, 0, none⟩) X'.length X'.length, .slice (some ⟨y2, 0, none⟩) Y'.length Y'.length] 27) := ⟨_, rfl⟩
  obtain ⟨bY, hbY⟩ : ∃ bY, bY = w6.heap.size := ⟨_, rfl⟩
  have b7 : Below w6.heap.size w6 w7 := by rw [hw7]; exact (Below.refl _ w6).alloc (Nat.le_refl _) _
  have kY7 : BoxC w7 bY 27 #[.bool b', .slice (some ⟨y1, 0, none⟩) X'.length X'.length, .slice (some ⟨y2, 0, none⟩) Y'.length Y'.length] := by rw [hw7, hbY]; exact boxc_new _ _ _
  have kA7 := boxc_keep kA6 b7
  have kB7 := boxc_keep kB6 b7
  have p7 := p6.keep b7
  have q7 := q6.keep b7
  have u7 := u6.keep b7
  have v7 := v6.keep b7
  have oX7 := oX6.keep b7
  have oZ7 := oZ6.keep b7
  have kX7 := boxc_keep kX6 b7
  have oY7 := oY6.keep b7
  have oV7 := oV6.keep b7
  have B7 := B6.trans (b7.mono B6.size)
  clear kA6 kB6 p6 q6 u6 v6 oX6 oZ6 kX6 oY6 oV6 B6 b7
  have h7 := Hdl.keep HH.out B7 (Hdl.pos HH.out)
  go_wp2_with fail
  rw [← hw7, ← hbY]
  clear hw7 hbY
  refine Calls.mono (CI.out _ _ _ _ _ h7 oX7.sl oZ7.sl oY7.sl oV7.sl) ?_
  rintro e w8 ⟨rfl, b8⟩
  clear h7
  clear kXc0 kXc1 kXc2
  have kA8 := boxc_keep kA7 b8
  have kB8 := boxc_keep kB7 b8
  have p8 := p7.keep b8
  have q8 := q7.keep b8
  have u8 := u7.keep b8
  have v8 := v7.keep b8
  have oX8 := oX7.keep b8
  have oZ8 := oZ7.keep b8
  have kX8 := boxc_keep kX7 b8
  have oY8 := oY7.keep b8
  have oV8 := oV7.keep b8
  have kY8 := boxc_keep kY7 b8
  have B8 := B7.trans (b8.mono B7.size)
  clear kA7 kB7 p7 q7 u7 v7 oX7 oZ7 kX7 oY7 oV7 kY7 B7 b8
  have zA := boxc_lt kA8
  have zB := boxc_lt kB8
  have zX := boxc_lt kX8
  have zY := boxc_lt kY8
  obtain ⟨kXc0, kXc1, kXc2, _, kXcn⟩ := boxc3 kX8
  obtain ⟨kAc0, kAc1, kAc2, _, kAcn⟩ := boxc3 kA8
  have y0d : w8.drew.cell? ⟨bx, 0, none⟩ = some (.bool b) := kXc0
  have y1d : w8.drew.cell? ⟨bx, 1, none⟩ = some (.slice (some ⟨x1, 0, none⟩) X.length X.length) := kXc1
  have y2d : w8.drew.cell? ⟨bx, 2, none⟩ = some (.slice (some ⟨x2, 0, none⟩) Y.length Y.length) := kXc2
  have y3d : w8.drew.cell? ⟨w.heap.size, 0, none⟩ = some (.bool b) := kAc0
  have y4d : w8.drew.cell? ⟨w.heap.size, 1, none⟩ = some (.slice a0 X.length c0) := kAc1
  have y5d : w8.drew.cell? ⟨w.heap.size, 2, none⟩ = some (.slice a1 Y.length c1) := kAc2
  have bO8 : Below w8.heap.size w8 w8.drew := (Below.refl _ w8).drew
  clear kXc0 kXc1 kXc2 kAc0 kAc1 kAc2
  go_wp2_with fail
  go_region_held3 (fun w' => w'.cell? ⟨bx, 0, none⟩ = some (.bool b) ∧ w'.cell? ⟨bx, 1, none⟩ = some (.slice (some ⟨x1, 0, none⟩) X.length X.length) ∧ w'.cell? ⟨bx, 2, none⟩ = some (.slice (some ⟨x2, 0, none⟩) Y.length Y.length) ∧ w'.cell? ⟨w.heap.size, 0, none⟩ = some (.bool b) ∧ w'.cell? ⟨w.heap.size, 1, none⟩ = some (.slice a0 X.length c0) ∧ w'.cell? ⟨w.heap.size, 2, none⟩ = some (.slice a1 Y.length c1))
    (first
      | (with_reducible exact ⟨y0d, y1d, y2d, y3d, y4d, y5d⟩)
      | (go_split_ands; refine ⟨?_, ?_, ?_, ?_, ?_, ?_⟩ <;> first | (with_reducible exact cell_big bW (by omega) (by assumption)) | (with_reducible exact cell_big bV (by omega) (by assumption))))
    (first
      | (go_at_call 10; (refine Calls.mono (TA.out w8.drew ?_ ?_) ?_); (exact p8); (exact q8); rintro e wv ⟨ga, gb, rfl, oa, ob, _, bv⟩; have bV : Below w8.heap.size w8 wv := below_un2 bv)
      | (go_at_call 12; (refine Calls.mono (EQ.out _ _ _ _ _ _ _ _ _ _ _ _ ?_ ?_ ?_ ?_ ?_ ?_) ?_); (exact lX); (exact lY); (exact Sl.keep oX8.sl bV); (exact Sl.keep oZ8.sl bV); (exact oa.sl); (exact ob.sl); rintro e wu ⟨rfl, bu⟩; have bW : Below w8.heap.size w8 wu := bV.trans (bu.mono bV.size)))
  obtain ⟨w9, hw9⟩ : ∃ w9, w9 = wu := ⟨_, rfl⟩
  rw [← hw9] at bW ⊢
  clear y0d y1d y2d y3d y4d y5d bu bv bV oa ob bO8 hw9
  have kA9 := boxc_keep kA8 bW
  have kB9 := boxc_keep kB8 bW
  have p9 := p8.keep bW
  have q9 := q8.keep bW
  have u9 := u8.keep bW
  have v9 := v8.keep bW
  have oX9 := oX8.keep bW
  have oZ9 := oZ8.keep bW
  have kX9 := boxc_keep kX8 bW
  have oY9 := oY8.keep bW
  have oV9 := oV8.keep bW
  have kY9 := boxc_keep kY8 bW
  have B9 := B8.trans (bW.mono B8.size)
  clear kA8 kB8 p8 q8 u8 v8 oX8 oZ8 kX8 oY8 oV8 kY8 B8 bW
  have yA := boxc_lt kA9
  have yB := boxc_lt kB9
  have yX := boxc_lt kX9
  have yY := boxc_lt kY9
  obtain ⟨kYc0, kYc1, kYc2, _, kYcn⟩ := boxc3 kY9
  obtain ⟨kBc0, kBc1, kBc2, _, kBcn⟩ := boxc3 kB9
  have y0d : w9.drew.cell? ⟨bY, 0, none⟩ = some (.bool b') := kYc0
  have y1d : w9.drew.cell? ⟨bY, 1, none⟩ = some (.slice (some ⟨y1, 0, none⟩) X'.length X'.length) := kYc1
  have y2d : w9.drew.cell? ⟨bY, 2, none⟩ = some (.slice (some ⟨y2, 0, none⟩) Y'.length Y'.length) := kYc2
  have y3d : w9.drew.cell? ⟨w.heap.size + 1, 0, none⟩ = some (.bool b') := kBc0
  have y4d : w9.drew.cell? ⟨w.heap.size + 1, 1, none⟩ = some (.slice a2 X'.length c2) := kBc1
  have y5d : w9.drew.cell? ⟨w.heap.size + 1, 2, none⟩ = some (.slice a3 Y'.length c3) := kBc2
  have bO9 : Below w9.heap.size w9 w9.drew := (Below.refl _ w9).drew
  clear kYc0 kYc1 kYc2 kBc0 kBc1 kBc2
  go_wp2_with fail
  go_region_held3 (fun w' => w'.cell? ⟨bY, 0, none⟩ = some (.bool b') ∧ w'.cell? ⟨bY, 1, none⟩ = some (.slice (some ⟨y1, 0, none⟩) X'.length X'.length) ∧ w'.cell? ⟨bY, 2, none⟩ = some (.slice (some ⟨y2, 0, none⟩) Y'.length Y'.length) ∧ w'.cell? ⟨w.heap.size + 1, 0, none⟩ = some (.bool b') ∧ w'.cell? ⟨w.heap.size + 1, 1, none⟩ = some (.slice a2 X'.length c2) ∧ w'.cell? ⟨w.heap.size + 1, 2, none⟩ = some (.slice a3 Y'.length c3))
    (first
      | (with_reducible exact ⟨y0d, y1d, y2d, y3d, y4d, y5d⟩)
      | (go_split_ands; refine ⟨?_, ?_, ?_, ?_, ?_, ?_⟩ <;> first | (with_reducible exact cell_big bW (by omega) (by assumption)) | (with_reducible exact cell_big bV (by omega) (by assumption))))
    (first
      | (go_at_call 10; (refine Calls.mono (TB.out w9.drew ?_ ?_) ?_); (exact u9); (exact v9); rintro e wv ⟨ga, gb, rfl, oa, ob, _, bv⟩; have bV : Below w9.heap.size w9 wv := below_un2 bv)
      | (go_at_call 12; (refine Calls.mono (EQ.out _ _ _ _ _ _ _ _ _ _ _ _ ?_ ?_ ?_ ?_ ?_ ?_) ?_); (exact lX'); (exact lY'); (exact Sl.keep oY9.sl bV); (exact Sl.keep oV9.sl bV); (exact oa.sl); (exact ob.sl); rintro e wu ⟨rfl, bu⟩; have bW : Below w9.heap.size w9 wu := bV.trans (bu.mono bV.size)))
  obtain ⟨w10, hw10⟩ : ∃ w10, w10 = wu := ⟨_, rfl⟩
  rw [← hw10] at bW ⊢
  clear y0d y1d y2d y3d y4d y5d bu bv bV oa ob bO9 hw10
  have kA10 := boxc_keep kA9 bW
  have kB10 := boxc_keep kB9 bW
  have p10 := p9.keep bW
  have q10 := q9.keep bW
  have u10 := u9.keep bW
  have v10 := v9.keep bW
  have oX10 := oX9.keep bW
  have oZ10 := oZ9.keep bW
  have kX10 := boxc_keep kX9 bW
  have oY10 := oY9.keep bW
  have oV10 := oV9.keep bW
  have kY10 := boxc_keep kY9 bW
  have B10 := B9.trans (bW.mono B9.size)
  clear kA9 kB9 p9 q9 u9 v9 oX9 oZ9 kX9 oY9 oV9 kY9 B9 bW
  go_wp2
  go_ret
  exact ⟨rfl, B10⟩

set_option maxRecDepth 100000 in
theorem lifted (os : Os) (started : os.Started) (H : Type) (enc : TypeId × Value → H) :
    ReturnsInHanded {} Tryd.checked os 3 .any (fun w args => (Rows.fnExactFracCmpSpec.pre enc Tryd.prog Tryd.f3 [] false w args ∧ laidMetH Tryd.prog laidL w) ∧ sizedMet enc Tryd.prog Tryd.f3 (OpenSpec.ofChange Rows.fnExactFracCmpSpec) false w args)
      (Rows.fnExactFracCmpSpec.post enc Tryd.prog Tryd.f3 false true false false) := by
  refine returnsInHanded_of_change_and (C := Tryd.checked) (X := fun w _ => laidMetH Tryd.prog laidL w) (fun _ _ _ hh h => h.of_heap hh) ownK started (by kernel_rfl) Tryd.func3
    (ChangeSpec.witness_at (enc := enc) (C := Tryd.checked) (os := os) (X := fun w _ => laidMetH Tryd.prog laidL w) false { World.holding Tryd.prog os ⟨#[], #[], []⟩ with heap := (World.holding Tryd.prog os ⟨#[], #[], []⟩).heap.modify 0 fun | .cells _ t frozen => .cells #[.iface 98 (.agg #[.pointer (some ⟨1, 49, none⟩)])] t frozen | o => o } #[.agg #[.bool false, .slice none 0 0, .slice none 0 0], .agg #[.bool false, .slice none 0 0, .slice none 0 0]] 8 rfl (by kernel_rfl) (by kernel_rfl) (by kernel_rfl) (by kernel_rfl) (by kernel_rfl) (laidMetH_of_parts (laidMet_nil _ _) (by kernel_rfl))) ?_
  intro W base args ds gs before hval0 hW _ _ hL _
  have hval : ∀ (j : Nat) t v, Tryd.f3.params[j]? = some t → args[j]? = some v → Value.okWide Tryd.prog W .any base t v := hval0
  have hW' := hW
  obtain ⟨p, q, hA0, hV0, rfl, hfz, hnd⟩ := hW
  have hA : DataW.TrodAll enc Tryd.prog W 0 (fun _ => true) true Tryd.f3.params.toList args.toList ds p := hA0
  have hV : DataW.TrodVars enc Tryd.prog W (fun _ => true) [] gs q := hV0
  rw [Tryd.params3] at hA hval
  obtain ⟨v0, vs0, d0, ds0, p0, q0, hargs, rfl, rfl, h0, r0⟩ := trodAll_cons hA
  obtain ⟨v1, vs1, d1, ds1, p1, q1, rfl, rfl, rfl, h1, r1⟩ := trodAll_cons r0
  obtain ⟨rfl, rfl, rfl⟩ := trodAll_nil r1
  obtain rfl : args = #[v0, v1] := by cases args; simp_all
  obtain ⟨rfl, rfl⟩ := trodVars_none hV
  obtain ⟨cs0, rfl, hcs0⟩ := okWide_struct Tryd.underlying24 (hval 0 24 v0 rfl rfl)
  have k0 := h0
  have lt0 : ∀ x ∈ p0, x.block < W.heap.size := by obtain ⟨m, hm⟩ := k0; exact DataW.trod_lt m _ _ _ hm
  obtain ⟨b0, aa0, la0, ca0, za0, ab0, lb0, cb0, zb0, rfl, wa0, wb0, ha0, hb0⟩ := frac_open hcs0 h0
  obtain ⟨sa0, ea0⟩ := isRow_sl wa0
  obtain ⟨sb0, eb0⟩ := isRow_sl wb0
  obtain ⟨cs1, rfl, hcs1⟩ := okWide_struct Tryd.underlying24 (hval 1 24 v1 rfl rfl)
  have k1 := h1
  have lt1 : ∀ x ∈ p1, x.block < W.heap.size := by obtain ⟨m, hm⟩ := k1; exact DataW.trod_lt m _ _ _ hm
  obtain ⟨b1, aa1, la1, ca1, za1, ab1, lb1, cb1, zb1, rfl, wa1, wb1, ha1, hb1⟩ := frac_open hcs1 h1
  obtain ⟨sa1, ea1⟩ := isRow_sl wa1
  obtain ⟨sb1, eb1⟩ := isRow_sl wb1
  clear hA0 hval0 hval hA hV hV0
  have hh := hdl_of_laid hL
  have hw := walk b0 aa0 ca0 (za0.take la0) ab0 cb0 (zb0.take lb0) b1 aa1 ca1 (za1.take la1) ab1 cb1 (zb1.take lb1) W hh sa0 sb0 sa1 sb1 (by rw [ea0]; exact Nat.le_trans ha0 (by simp [maxLen])) (by rw [eb0]; exact Nat.le_trans hb0 (by simp [maxLen])) (by rw [ea1]; exact Nat.le_trans ha1 (by simp [maxLen])) (by rw [eb1]; exact Nat.le_trans hb1 (by simp [maxLen]))
  rw [ea0, eb0, ea1, eb1] at hw
  refine hw.mono fun e W' ⟨he, bel⟩ => ?_
  subst he
  exact ⟨_, rfl, _, _, _, [], _, [], hW', trodAll_mk1 (shut_bool Tryd.underlying4 _), (trodAll_cons_mk (Below.trod laidOutK (by kernel_rfl) (of_decide_eq_true (by kernel_rfl)) k0 bel lt0) (trodAll_cons_mk (Below.trod laidOutK (by kernel_rfl) (of_decide_eq_true (by kernel_rfl)) k1 bel lt1) trodAll_mk0)), rfl, bel.frame _, fun h => by cases h⟩

theorem over : Rows.fnExactFracCmpRow.holds Tryd.pinned (OpenSpec.ofChange Rows.fnExactFracCmpSpec) :=
  OpenClaim.holds_of_wide 3 Tryd.f3 rfl rfl rfl rfl rfl rfl rfl ⟨rfl, rfl, rfl, rfl, rfl⟩ rfl rfl rfl rfl rfl (by kernel_rfl) Tryd.func3 (by kernel_rfl)
    (of_decide_eq_true (by kernel_rfl)) (by unfold Func.isWrapper; first | (rw [if_pos (by decide +kernel)]; kernel_rfl) | (rw [if_neg (by decide +kernel)]; exact ⟨rfl, rfl⟩))
    (fun os started H enc _ => lifted os started H enc)

theorem card : Rows.FnExactFracCmpCardSaid :=
  Claim7.holds_tied_plain_at .later [] [.handle] true Rows.fnExactFracCmpCard.stood.harness true
    over (fun _ h => by cases h) (by kernel_rfl) (fun _ h => by cases h) fnExactFracCmp_row_tie rfl ⟨rfl, rfl⟩ (by kernel_rfl) rfl
    (fun f fn hf hfn => by
      obtain rfl : f = 3 := Option.some.inj ((show Tryd.prog.funcNamed Rows.fnExactFracCmpRow.func = some 3 by kernel_rfl).symm.trans hf) |>.symm
      obtain rfl : fn = Tryd.f3 := (Option.some.inj (Tryd.func3.symm.trans hfn)).symm
      exact ⟨by kernel_rfl, fun j t ht => by
        rw [Tryd.params3] at ht
        have h3 : t = 24 := by
          rcases j with _ | j
          · simp at ht; subst ht; simp
          rcases j with _ | j
          · simp at ht; subst ht; simp
          simp at ht
        rcases h3 with rfl
        · exact (show Tryd.prog.wantsStandIn 24 = false by kernel_rfl)
      ⟩)
    (by kernel_rfl)
end fnExactFracCmp
theorem fnExactFracCmp_holds : Rows.FnExactFracCmpCardSaid := fnExactFracCmp.card
#print axioms fnExactFracCmp_holds
end Go.Proofs.YthokphoojmpajafDoor
