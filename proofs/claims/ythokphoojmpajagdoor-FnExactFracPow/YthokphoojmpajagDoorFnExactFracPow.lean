/- For every fraction and every int the law FnExactFracPow returns true and its arguments read as before; no condition beyond the row's own (the listed variable, tied by the card). -/
import Derived.Test.YthokphoojmpajagDoorCards
import Derived.Test.YthokphoojmpajagDoorTie
import Derived.Test.YthokphoojmpajagDoorFracOpen
import Derived.Test.YthokphoojmpajagDoorFracBy
import Derived.Test.YthokphoojmpajagDoorLaid
import Derived.Test.YthokphoojmpajagDoorFrPow
import Derived.ChangeVars
import Derived.ChangeSame
import Derived.LaidHandle
import Derived.SevenTiedAt
namespace Go.Proofs.YthokphoojmpajagDoor
namespace fnExactFracPow
open Go.ChangeShapes Go.WideShapes Go.ChangeAt Go.RowKit Go.Proofs.Pin

set_option maxRecDepth 100000 in
set_option maxHeartbeats 8000000 in
theorem walk (b : Bool) (a0 : Option Addr) (c0 : Nat) (X : List Int) (a1 : Option Addr) (c1 : Nat) (Y : List Int) (n : Int) (w : World) (hh : Hdl w) (sX : Sl w a0 X) (sY : Sl w a1 Y) (mX : X.length ≤ 9223372036854775807) (mY : Y.length ≤ 9223372036854775807) (hwn : (Lit.int .i64 n).wf = true) :
    Calls Tryd.prog 6 #[fracV b a0 X.length c0 a1 Y.length c1, .int .i64 n] w fun e w' => e = .returned (.bool true) ∧ Below w.heap.size w w' := by
  obtain ⟨w0, hw0⟩ : ∃ w0, w0 = w.alloc (.cells #[.bool b, .slice a0 X.length c0, .slice a1 Y.length c1] 24) := ⟨_, rfl⟩
  have B0 : Below w.heap.size w w0 := by rw [hw0]; exact (Below.refl _ w).alloc (Nat.le_refl _) _
  have kA0 : BoxC w0 w.heap.size 24 #[.bool b, .slice a0 X.length c0, .slice a1 Y.length c1] := by rw [hw0]; exact boxc_new _ _ _
  have Z1 : Hid (Calls Tryd.prog 9 #[fracV b a0 X.length c0 a1 Y.length c1, .int .i64 1048576] w0 fun e w' => ∃ l' : Int, e = .returned (.int .i64 l') ∧ (l' < 0 ∨ (0 ≤ l' ∧ l' ≤ 1048576 ∧ X.length ≤ 1048576 ∧ Y.length ≤ 1048576)) ∧ Below w0.heap.size w0 w') := szFrac_at b a0 a1 _ _ c0 c1 1048576 w0 mX mY (by omega) (by omega)
  unfold fracV at Z1 ⊢
  clear mX mY
  have hbn := bounds_i64 hwn
  go_enter Tryd.func6, Tryd.ntmps6
  go_wp2_with fail
  rw [← hw0]
  refine Calls.mono Z1.out ?_
  rintro e w1 ⟨l, rfl, hl, b1⟩
  have B1 : Below w.heap.size w w1 := B0.trans (b1.mono B0.size)
  rcases hl with hneg | ⟨hl0, hl1, lX, lY⟩
  · clear Z1 b1 kA0 hw0
    go_wp2
    go_ret
    exact ⟨rfl, B1⟩
  have hl' : ¬ l < 0 := by omega
  have kA1 := boxc_keep kA0 b1
  have p1 := sX.keep B1
  have q1 := sY.keep B1
  clear Z1 b1 kA0 hw0 B0 hl0 hl1
  have TA : Hid (∀ W, Sl W a0 X → Sl W a1 Y → Calls Tryd.prog 11 #[fracV b a0 X.length c0 a1 Y.length c1] W fun e w' => ∃ g1 g2, e = .returned (fracV b (some ⟨g1, 0, none⟩) X.length X.length (some ⟨g2, 0, none⟩) Y.length Y.length) ∧ OwnI w' W.heap.size (some ⟨g1, 0, none⟩) X.length X ∧ OwnI w' W.heap.size (some ⟨g2, 0, none⟩) Y.length Y ∧ g1 ≠ g2 ∧ Below W.heap.size W w') := fun W h1 h2 => toFrac_any b a0 a1 c0 c1 X Y W h1 h2 lX lY
  have CS : Hid (∀ W u1 u2, Sl W u1 X → Sl W u2 Y → Calls Tryd.prog 20 #[fracV b u1 X.length X.length u2 Y.length Y.length, .int .i64 n] W fun e w' => RetS W e w' (op1A (powA n) b X Y)) := fun W u1 u2 h1 h2 => specPow_any n b u1 u2 _ _ X Y W h1 h2 lX lY hbn.1 hbn.2
  have CI : Hid (∀ W u1 u2, Hdl W → Sl W u1 X → Sl W u2 Y → Calls Tryd.prog 21 #[fracV b u1 X.length X.length u2 Y.length Y.length, .int .i64 n] W fun e w' => RetF W e w' (op1A (powA n) b X Y)) := fun W u1 u2 h0 h1 h2 => implPow_any n b u1 u2 _ _ X Y W h0 h1 h2 lX lY (Nat.le_refl _) (Nat.le_refl _) hbn.1 hbn.2
  have hlen : (op1A (powA n) b X Y).X.length ≤ 256 ∧ (op1A (powA n) b X Y).Y.length ≤ 256 := by exact powA_len _ _ _ _
  obtain ⟨A, hA⟩ : ∃ A, A = op1A (powA n) b X Y := ⟨_, rfl⟩
  rw [← hA] at CS CI hlen
  have lA : A.X.length ≤ 1048576 := by omega
  have lA' : A.Y.length ≤ 1048576 := by omega
  clear hA hlen
  have EQ : Hid (∀ (W : World) (bb : Bool) (r1 s1 r2 s2 : Option Addr) (k1 d1 k2 d2 : Nat) (P Q : List Int), P.length ≤ 1048576 → Q.length ≤ 1048576 → Sl W r1 P → Sl W s1 Q → Sl W r2 P → Sl W s2 Q → Calls Tryd.prog 13 #[fracV bb r1 P.length k1 s1 Q.length d1, fracV bb r2 P.length k2 s2 Q.length d2] W fun e w' => e = .returned (.bool true) ∧ Below W.heap.size W w') := fun W bb r1 s1 r2 s2 k1 d1 k2 d2 P Q lP lQ h1 h2 h3 h4 => eqFrac_any bb r1 s1 r2 s2 k1 d1 k2 d2 P Q W h1 h2 h3 h4 lP lQ
  have MK : Hid (∀ (W : World) (bb : Bool) (base base2 : Nat) (r s : Option Addr) (c d : Nat) (P Q : List Int) (k : Int), OwnI W base r c P → OwnI W base2 s d Q → (∀ i j, r.map (·.block) = some i → s.map (·.block) = some j → i ≠ j) → P.length ≤ 1048576 → Q.length ≤ 1048576 → 0 ≤ k → k ≤ 10000000 → Calls Tryd.prog 14 #[fracV bb r P.length c s Q.length d, .int .i64 k] W fun e w' => e = .returned (.int .i64 (k + P.length + Q.length)) ∧ OwnI w' base r c (marked k P.length) ∧ OwnI w' base2 s d (marked (k + P.length) Q.length) ∧ grown2 W w' (r.map (·.block)) (s.map (·.block))) := fun W bb base base2 r s c d P Q k h1 h2 h3 h4 h5 h6 h7 => markFrac_any bb base base2 r s c d P Q k W h1 h2 h3 h4 h5 h6 h7
  have HD : Hid (∀ (W : World) (bb : Bool) (r s : Option Addr) (c d n m : Nat), Sl W r (marked 1 n) → Sl W s (marked (1 + (n : Int)) m) → n ≤ 1048576 → m ≤ 1048576 → Calls Tryd.prog 15 #[fracV bb r n c s m d, .int .i64 1] W fun e w' => e = .returned (.int .i64 (1 + n + m)) ∧ Below W.heap.size W w') := fun W bb r s c d n m h1 h2 h3 h4 => heldFrac_any bb r s c d n m 1 W h1 h2 h3 h4 (by omega) (by omega)
  unfold RetS at CS
  unfold RetF at CI
  unfold fracV at TA CS CI EQ MK HD
  have HH : Hid (Hdl w) := hh
  have S0 : Hid (Sl w a0 X ∧ Sl w a1 Y) := ⟨sX, sY⟩
  clear sX sY hh
  obtain ⟨kAc0, kAc1, kAc2, _, kAcn⟩ := boxc3 kA1
  go_wp2_with fail
  refine Calls.mono (TA.out _ p1 q1) ?_
  rintro e w2 ⟨t1, t2, rfl, oT, oS, _, b2⟩
  clear kAc0 kAc1 kAc2
  have kA2 := boxc_keep kA1 b2
  have p2 := p1.keep b2
  have q2 := q1.keep b2
  have B2 := B1.trans (b2.mono B1.size)
  clear kA1 p1 q1 B1 b2
  go_wp2_with fail
  refine Calls.mono (CS.out _ _ _ oT.sl oS.sl) ?_
  rintro e w3 ⟨rw0, cw, sw, dw, rfl, oU, oW, b3⟩
  have sU3 := oU.sl
  have sV3 := oW.sl
  clear oT oS oU oW
  have kA3 := boxc_keep kA2 b3
  have p3 := p2.keep b3
  have q3 := q2.keep b3
  have B3 := B2.trans (b3.mono B2.size)
  clear kA2 p2 q2 B2 b3
  obtain ⟨kAc0, kAc1, kAc2, _, kAcn⟩ := boxc3 kA3
  have kAne : ¬ w.heap.size = w3.heap.size := by omega
  obtain ⟨w4, hw4⟩ : ∃ w4, w4 = w3.alloc (.cells #[.bool A.b, .slice rw0 A.X.length cw, .slice sw A.Y.length dw] 26) := ⟨_, rfl⟩
  obtain ⟨gw, hgw⟩ : ∃ gw, gw = w3.heap.size := ⟨_, rfl⟩
  have b4 : Below w3.heap.size w3 w4 := by rw [hw4]; exact (Below.refl _ w3).alloc (Nat.le_refl _) _
  have kW4 : BoxC w4 gw 26 #[.bool A.b, .slice rw0 A.X.length cw, .slice sw A.Y.length dw] := by rw [hw4, hgw]; exact boxc_new _ _ _
  have kA4 := boxc_keep kA3 b4
  have p4 := p3.keep b4
  have q4 := q3.keep b4
  have sU4 := sU3.keep b4
  have sV4 := sV3.keep b4
  have B4 := B3.trans (b4.mono B3.size)
  clear kA3 p3 q3 sU3 sV3 B3 b4
  have SU : Hid (Sl w4 rw0 A.X ∧ Sl w4 sw A.Y) := ⟨sU4, sV4⟩
  obtain ⟨L3, hL3⟩ : ∃ L3, L3 = w4.heap.size := ⟨_, rfl⟩
  have n3 : gw < L3 := by rw [hL3]; exact boxc_lt kW4
  have n2 : w.heap.size < gw := by rw [hgw]; exact kAcn
  have hL3' : w4.heap.size ≤ L3 := by omega
  go_wp2_with fail
  rw [← hw4, ← hgw]
  clear hw4 hgw
  refine Calls.mono (TA.out _ p4 q4) ?_
  rintro e w5 ⟨x1, x2, rfl, oX5, oZ5, hx12, b5⟩
  rw [← hL3] at oX5 oZ5
  have ix1 := own_lt oX5
  have ix2 := own_lt oZ5
  have jx1 : L3 ≤ x1 := own_ge oX5 x1 rfl
  have jx2 : L3 ≤ x2 := own_ge oZ5 x2 rfl
  clear kAc0 kAc1 kAc2
  have kA5 := boxc_keep kA4 b5
  have p5 := p4.keep b5
  have q5 := q4.keep b5
  have sU5 := sU4.keep b5
  have sV5 := sV4.keep b5
  have kW5 := boxc_keep kW4 b5
  have B5 := B4.trans (b5.mono B4.size)
  clear kA4 p4 q4 sU4 sV4 kW4 B4 b5
  obtain ⟨w6, hw6⟩ : ∃ w6, w6 = w5.alloc (.cells #[.bool b, .slice (some ⟨x1, 0, none⟩) X.length X.length, .slice (some ⟨x2, 0, none⟩) Y.length Y.length] 26) := ⟨_, rfl⟩
  obtain ⟨bx, hbx⟩ : ∃ bx, bx = w5.heap.size := ⟨_, rfl⟩
  have b6 : Below w5.heap.size w5 w6 := by rw [hw6]; exact (Below.refl _ w5).alloc (Nat.le_refl _) _
  have kX6 : BoxC w6 bx 26 #[.bool b, .slice (some ⟨x1, 0, none⟩) X.length X.length, .slice (some ⟨x2, 0, none⟩) Y.length Y.length] := by rw [hw6, hbx]; exact boxc_new _ _ _
  have kA6 := boxc_keep kA5 b6
  have p6 := p5.keep b6
  have q6 := q5.keep b6
  have sU6 := sU5.keep b6
  have sV6 := sV5.keep b6
  have kW6 := boxc_keep kW5 b6
  have oX6 := oX5.keep b6
  have oZ6 := oZ5.keep b6
  have B6 := B5.trans (b6.mono B5.size)
  clear kA5 p5 q5 sU5 sV5 kW5 oX5 oZ5 B5 b6
  rw [← hbx] at ix1 ix2
  obtain ⟨L7, hL7⟩ : ∃ L7, L7 = w6.heap.size := ⟨_, rfl⟩
  have n7 : bx < L7 := by rw [hL7]; exact boxc_lt kX6
  have h7 := Hdl.keep HH.out B6 (Hdl.pos HH.out)
  go_wp2_with fail
  rw [← hw6, ← hbx]
  clear hw6 hbx
  refine Calls.mono (CI.out _ _ _ h7 oX6.sl oZ6.sl) ?_
  rintro e w7 ⟨rg, cg, sg', dg, rfl, oG7, oH7, apG, b7⟩
  rw [← hL7] at oG7 oH7
  have ig1 := own_block_lt oG7
  have ig2 := own_block_lt oH7
  have jg1 := own_ge oG7
  have jg2 := own_ge oH7
  have APG : Hid (∀ i j, rg.map (·.block) = some i → sg'.map (·.block) = some j → i ≠ j) := ap_blocks apG
  have z8 := b7.size
  clear h7 apG
  have kA7 := boxc_keep kA6 b7
  have p7 := p6.keep b7
  have q7 := q6.keep b7
  have sU7 := sU6.keep b7
  have sV7 := sV6.keep b7
  have kW7 := boxc_keep kW6 b7
  have oX7 := oX6.keep b7
  have oZ7 := oZ6.keep b7
  have kX7 := boxc_keep kX6 b7
  have B7 := B6.trans (b7.mono B6.size)
  clear kA6 p6 q6 sU6 sV6 kW6 oX6 oZ6 kX6 B6 b7
  obtain ⟨kWc0, kWc1, kWc2, _, kWcn⟩ := boxc3 kW7
  have kWne : ¬ gw = w7.heap.size := by omega
  obtain ⟨w8, hw8⟩ : ∃ w8, w8 = w7.alloc (.cells #[.bool A.b, .slice rg A.X.length cg, .slice sg' A.Y.length dg] 26) := ⟨_, rfl⟩
  obtain ⟨bg, hbg⟩ : ∃ bg, bg = w7.heap.size := ⟨_, rfl⟩
  have b8 : Below w7.heap.size w7 w8 := by rw [hw8]; exact (Below.refl _ w7).alloc (Nat.le_refl _) _
  have kG8 : BoxC w8 bg 26 #[.bool A.b, .slice rg A.X.length cg, .slice sg' A.Y.length dg] := by rw [hw8, hbg]; exact boxc_new _ _ _
  have kA8 := boxc_keep kA7 b8
  have p8 := p7.keep b8
  have q8 := q7.keep b8
  have sU8 := sU7.keep b8
  have sV8 := sV7.keep b8
  have kW8 := boxc_keep kW7 b8
  have oX8 := oX7.keep b8
  have oZ8 := oZ7.keep b8
  have kX8 := boxc_keep kX7 b8
  have oG8 := oG7.keep b8
  have oH8 := oH7.keep b8
  have B8 := B7.trans (b8.mono B7.size)
  clear kA7 p7 q7 sU7 sV7 kW7 oX7 oZ7 kX7 oG7 oH7 B7 b8
  rw [← hbg] at ig1 ig2
  have n9 : L7 ≤ bg := by omega
  go_wp2_with fail
  rw [← hw8, ← hbg]
  clear hw8 hbg
  refine Calls.mono (EQ.out _ _ _ _ _ _ _ _ _ _ _ _ lA lA' oG8.sl oH8.sl sU8 sV8) ?_
  rintro e w9 ⟨rfl, b9⟩
  clear kWc0 kWc1 kWc2
  have kA9 := boxc_keep kA8 b9
  have p9 := p8.keep b9
  have q9 := q8.keep b9
  have sU9 := sU8.keep b9
  have sV9 := sV8.keep b9
  have kW9 := boxc_keep kW8 b9
  have oX9 := oX8.keep b9
  have oZ9 := oZ8.keep b9
  have kX9 := boxc_keep kX8 b9
  have oG9 := oG8.keep b9
  have oH9 := oH8.keep b9
  have kG9 := boxc_keep kG8 b9
  have B9 := B8.trans (b9.mono B8.size)
  clear kA8 p8 q8 sU8 sV8 kW8 oX8 oZ8 kX8 oG8 oH8 kG8 B8 b9
  obtain ⟨kXc0, kXc1, kXc2, _, kXcn⟩ := boxc3 kX9
  obtain ⟨kAc0, kAc1, kAc2, _, kAcn⟩ := boxc3 kA9
  have y0d : w9.drew.cell? ⟨bx, 0, none⟩ = some (.bool b) := kXc0
  have y1d : w9.drew.cell? ⟨bx, 1, none⟩ = some (.slice (some ⟨x1, 0, none⟩) X.length X.length) := kXc1
  have y2d : w9.drew.cell? ⟨bx, 2, none⟩ = some (.slice (some ⟨x2, 0, none⟩) Y.length Y.length) := kXc2
  have y3d : w9.drew.cell? ⟨w.heap.size, 0, none⟩ = some (.bool b) := kAc0
  have y4d : w9.drew.cell? ⟨w.heap.size, 1, none⟩ = some (.slice a0 X.length c0) := kAc1
  have y5d : w9.drew.cell? ⟨w.heap.size, 2, none⟩ = some (.slice a1 Y.length c1) := kAc2
  have bO9 : Below w9.heap.size w9 w9.drew := (Below.refl _ w9).drew
  clear kXc0 kXc1 kXc2 kAc0 kAc1 kAc2
  go_wp2_with fail
  go_region_held3 (fun w' => w'.cell? ⟨bx, 0, none⟩ = some (.bool b) ∧ w'.cell? ⟨bx, 1, none⟩ = some (.slice (some ⟨x1, 0, none⟩) X.length X.length) ∧ w'.cell? ⟨bx, 2, none⟩ = some (.slice (some ⟨x2, 0, none⟩) Y.length Y.length) ∧ w'.cell? ⟨w.heap.size, 0, none⟩ = some (.bool b) ∧ w'.cell? ⟨w.heap.size, 1, none⟩ = some (.slice a0 X.length c0) ∧ w'.cell? ⟨w.heap.size, 2, none⟩ = some (.slice a1 Y.length c1))
    (first
      | (with_reducible exact ⟨y0d, y1d, y2d, y3d, y4d, y5d⟩)
      | (go_split_ands; refine ⟨?_, ?_, ?_, ?_, ?_, ?_⟩ <;> first | (with_reducible exact cell_big bW (by omega) (by assumption)) | (with_reducible exact cell_big bV (by omega) (by assumption))))
    (first
      | (go_at_call 11; (refine Calls.mono (TA.out w9.drew ?_ ?_) ?_); (exact p9); (exact q9); rintro e wv ⟨ga, gb, rfl, oa, ob, _, bv⟩; have bV : Below w9.heap.size w9 wv := below_un2 bv)
      | (go_at_call 13; (refine Calls.mono (EQ.out _ _ _ _ _ _ _ _ _ _ _ _ ?_ ?_ ?_ ?_ ?_ ?_) ?_); (exact lX); (exact lY); (exact Sl.keep oX9.sl bV); (exact Sl.keep oZ9.sl bV); (exact oa.sl); (exact ob.sl); rintro e wu ⟨rfl, bu⟩; have bW : Below w9.heap.size w9 wu := bV.trans (bu.mono bV.size)))
  obtain ⟨w10, hw10⟩ : ∃ w10, w10 = wu := ⟨_, rfl⟩
  rw [← hw10] at bW ⊢
  clear y0d y1d y2d y3d y4d y5d bu bv bV oa ob bO9 hw10
  have kA10 := boxc_keep kA9 bW
  have p10 := p9.keep bW
  have q10 := q9.keep bW
  have sU10 := sU9.keep bW
  have sV10 := sV9.keep bW
  have kW10 := boxc_keep kW9 bW
  have oX10 := oX9.keep bW
  have oZ10 := oZ9.keep bW
  have kX10 := boxc_keep kX9 bW
  have oG10 := oG9.keep bW
  have oH10 := oH9.keep bW
  have kG10 := boxc_keep kG9 bW
  have B10 := B9.trans (bW.mono B9.size)
  clear kA9 p9 q9 sU9 sV9 kW9 oX9 oZ9 kX9 oG9 oH9 kG9 B9 bW
  obtain ⟨kXc0, kXc1, kXc2, _, kXcn⟩ := boxc3 kX10
  have loA : ∀ k, (some ⟨x1, 0, none⟩ : Option Addr).map (·.block) = some k → L3 ≤ k := fun k hk => by cases hk; exact jx1
  have loB : ∀ k, (some ⟨x2, 0, none⟩ : Option Addr).map (·.block) = some k → L3 ≤ k := fun k hk => by cases hk; exact jx2
  have hiA : ∀ k, (some ⟨x1, 0, none⟩ : Option Addr).map (·.block) = some k → k < bx := fun k hk => by cases hk; exact ix1
  have hiB : ∀ k, (some ⟨x2, 0, none⟩ : Option Addr).map (·.block) = some k → k < bx := fun k hk => by cases hk; exact ix2
  go_wp2_with fail
  refine Calls.mono (MK.out _ _ _ _ _ _ _ _ _ _ 1 oX10 oZ10 (fun i j hi hj => by cases hi; cases hj; exact hx12) lX lY (by omega) (by omega)) ?_
  rintro e w11 ⟨rfl, mk1, mk2, gm⟩
  clear kXc0 kXc1 kXc2
  clear oX10 oZ10
  have kA11 := boxc_two kA10 gm (fun k hk => by have := loA k hk; have := hiA k hk; omega) (fun k hk => by have := loB k hk; have := hiB k hk; omega)
  have p11 : Sl w11 _ _ := sl_old S0.out.1 p10 (by omega : w.heap.size ≤ L3) gm loA loB
  have q11 : Sl w11 _ _ := sl_old S0.out.2 q10 (by omega : w.heap.size ≤ L3) gm loA loB
  have sU11 : Sl w11 _ _ := sl_old SU.out.1 sU10 (by omega : w4.heap.size ≤ L3) gm loA loB
  have sV11 : Sl w11 _ _ := sl_old SU.out.2 sV10 (by omega : w4.heap.size ≤ L3) gm loA loB
  have kW11 := boxc_two kW10 gm (fun k hk => by have := loA k hk; have := hiA k hk; omega) (fun k hk => by have := loB k hk; have := hiB k hk; omega)
  have kX11 := boxc_two kX10 gm (fun k hk => by have := loA k hk; have := hiA k hk; omega) (fun k hk => by have := loB k hk; have := hiB k hk; omega)
  have oG11 := own_new oG10 gm hiA hiB (by omega)
  have oH11 := own_new oH10 gm hiA hiB (by omega)
  have kG11 := boxc_two kG10 gm (fun k hk => by have := loA k hk; have := hiA k hk; omega) (fun k hk => by have := loB k hk; have := hiB k hk; omega)
  have B11 := below_two B10 gm (Nat.le_refl _) (fun k hk => by have := loA k hk; omega) (fun k hk => by have := loB k hk; omega)
  clear kA10 p10 q10 sU10 sV10 kW10 kX10 oG10 oH10 kG10 B10 gm
  clear loA loB hiA hiB
  clear mk1 mk2
  have hk9 : ¬ (1 : Int) + X.length + Y.length < 0 := by omega
  obtain ⟨kGc0, kGc1, kGc2, _, kGcn⟩ := boxc3 kG11
  obtain ⟨kWc0, kWc1, kWc2, _, kWcn⟩ := boxc3 kW11
  go_wp2_with fail
  refine Calls.mono (EQ.out _ _ _ _ _ _ _ _ _ _ _ _ lA lA' oG11.sl oH11.sl sU11 sV11) ?_
  rintro e w12 ⟨rfl, bq⟩
  clear kGc0 kGc1 kGc2 kWc0 kWc1 kWc2
  have kA12 := boxc_keep kA11 bq
  have p12 := p11.keep bq
  have q12 := q11.keep bq
  have sU12 := sU11.keep bq
  have sV12 := sV11.keep bq
  have kW12 := boxc_keep kW11 bq
  have kX12 := boxc_keep kX11 bq
  have oG12 := oG11.keep bq
  have oH12 := oH11.keep bq
  have kG12 := boxc_keep kG11 bq
  have B12 := B11.trans (bq.mono B11.size)
  clear kA11 p11 q11 sU11 sV11 kW11 kX11 oG11 oH11 kG11 B11 bq
  obtain ⟨kGc0, kGc1, kGc2, _, kGcn⟩ := boxc3 kG12
  have loA : ∀ k, (rg : Option Addr).map (·.block) = some k → L7 ≤ k := jg1
  have loB : ∀ k, (sg' : Option Addr).map (·.block) = some k → L7 ≤ k := jg2
  have hiA : ∀ k, (rg : Option Addr).map (·.block) = some k → k < bg := ig1
  have hiB : ∀ k, (sg' : Option Addr).map (·.block) = some k → k < bg := ig2
  go_wp2_with fail
  refine Calls.mono (MK.out _ _ _ _ _ _ _ _ _ _ 1 oG12 oH12 APG.out lA lA' (by omega) (by omega)) ?_
  rintro e w13 ⟨rfl, mk1, mk2, gm⟩
  clear kGc0 kGc1 kGc2
  clear oG12 oH12
  have kA13 := boxc_two kA12 gm (fun k hk => by have := loA k hk; have := hiA k hk; omega) (fun k hk => by have := loB k hk; have := hiB k hk; omega)
  have p13 : Sl w13 _ _ := sl_old S0.out.1 p12 (by omega : w.heap.size ≤ L7) gm loA loB
  have q13 : Sl w13 _ _ := sl_old S0.out.2 q12 (by omega : w.heap.size ≤ L7) gm loA loB
  have sU13 : Sl w13 _ _ := sl_old SU.out.1 sU12 (by omega : w4.heap.size ≤ L7) gm loA loB
  have sV13 : Sl w13 _ _ := sl_old SU.out.2 sV12 (by omega : w4.heap.size ≤ L7) gm loA loB
  have kW13 := boxc_two kW12 gm (fun k hk => by have := loA k hk; have := hiA k hk; omega) (fun k hk => by have := loB k hk; have := hiB k hk; omega)
  have kX13 := boxc_two kX12 gm (fun k hk => by have := loA k hk; have := hiA k hk; omega) (fun k hk => by have := loB k hk; have := hiB k hk; omega)
  have kG13 := boxc_two kG12 gm (fun k hk => by have := loA k hk; have := hiA k hk; omega) (fun k hk => by have := loB k hk; have := hiB k hk; omega)
  have B13 := below_two B12 gm (Nat.le_refl _) (fun k hk => by have := loA k hk; omega) (fun k hk => by have := loB k hk; omega)
  clear kA12 p12 q12 sU12 sV12 kW12 kX12 kG12 B12 gm
  clear loA loB hiA hiB
  have mP13 := mk1.sl
  have mQ13 := mk2.sl
  clear mk1 mk2
  obtain ⟨kGc0, kGc1, kGc2, _, kGcn⟩ := boxc3 kG13
  have hkA : ¬ (1 : Int) + A.X.length + A.Y.length < 0 := by omega
  go_wp2_with fail
  refine Calls.mono (HD.out _ _ _ _ _ _ _ _ mP13 mQ13 lA lA') ?_
  rintro e w14 ⟨rfl, bq⟩
  clear kGc0 kGc1 kGc2
  have kA14 := boxc_keep kA13 bq
  have p14 := p13.keep bq
  have q14 := q13.keep bq
  have sU14 := sU13.keep bq
  have sV14 := sV13.keep bq
  have kW14 := boxc_keep kW13 bq
  have kX14 := boxc_keep kX13 bq
  have kG14 := boxc_keep kG13 bq
  have mP14 := mP13.keep bq
  have mQ14 := mQ13.keep bq
  have B14 := B13.trans (bq.mono B13.size)
  clear kA13 p13 q13 sU13 sV13 kW13 kX13 kG13 mP13 mQ13 B13 bq
  obtain ⟨kAc0, kAc1, kAc2, _, kAcn⟩ := boxc3 kA14
  go_wp2_with fail
  refine Calls.mono (TA.out _ p14 q14) ?_
  rintro e w15 ⟨t3, t4, rfl, oT, oS, _, bq⟩
  clear kAc0 kAc1 kAc2
  have kA15 := boxc_keep kA14 bq
  have p15 := p14.keep bq
  have q15 := q14.keep bq
  have sU15 := sU14.keep bq
  have sV15 := sV14.keep bq
  have kW15 := boxc_keep kW14 bq
  have kX15 := boxc_keep kX14 bq
  have kG15 := boxc_keep kG14 bq
  have mP15 := mP14.keep bq
  have mQ15 := mQ14.keep bq
  have B15 := B14.trans (bq.mono B14.size)
  clear kA14 p14 q14 sU14 sV14 kW14 kX14 kG14 mP14 mQ14 B14 bq
  have h9 := Hdl.keep HH.out B15 (Hdl.pos HH.out)
  go_wp2_with fail
  refine Calls.mono (CI.out _ _ _ h9 oT.sl oS.sl) ?_
  rintro e w16 ⟨rh, ch, sh, dh, rfl, oI, oJ, _, bq⟩
  have sH16 := oI.sl
  have sI16 := oJ.sl
  clear h9 oT oS oI oJ
  have kA16 := boxc_keep kA15 bq
  have p16 := p15.keep bq
  have q16 := q15.keep bq
  have sU16 := sU15.keep bq
  have sV16 := sV15.keep bq
  have kW16 := boxc_keep kW15 bq
  have kX16 := boxc_keep kX15 bq
  have kG16 := boxc_keep kG15 bq
  have mP16 := mP15.keep bq
  have mQ16 := mQ15.keep bq
  have B16 := B15.trans (bq.mono B15.size)
  clear kA15 p15 q15 sU15 sV15 kW15 kX15 kG15 mP15 mQ15 B15 bq
  obtain ⟨kWc0, kWc1, kWc2, _, kWcn⟩ := boxc3 kW16
  have kWne : ¬ gw = w16.heap.size := by omega
  obtain ⟨w17, hw17⟩ : ∃ w17, w17 = w16.alloc (.cells #[.bool A.b, .slice rh A.X.length ch, .slice sh A.Y.length dh] 26) := ⟨_, rfl⟩
  obtain ⟨gh, hgh⟩ : ∃ gh, gh = w16.heap.size := ⟨_, rfl⟩
  have b17 : Below w16.heap.size w16 w17 := by rw [hw17]; exact (Below.refl _ w16).alloc (Nat.le_refl _) _
  have kH17 : BoxC w17 gh 26 #[.bool A.b, .slice rh A.X.length ch, .slice sh A.Y.length dh] := by rw [hw17, hgh]; exact boxc_new _ _ _
  have kA17 := boxc_keep kA16 b17
  have p17 := p16.keep b17
  have q17 := q16.keep b17
  have sU17 := sU16.keep b17
  have sV17 := sV16.keep b17
  have kW17 := boxc_keep kW16 b17
  have kX17 := boxc_keep kX16 b17
  have kG17 := boxc_keep kG16 b17
  have mP17 := mP16.keep b17
  have mQ17 := mQ16.keep b17
  have sH17 := sH16.keep b17
  have sI17 := sI16.keep b17
  have B17 := B16.trans (b17.mono B16.size)
  clear kA16 p16 q16 sU16 sV16 kW16 kX16 kG16 mP16 mQ16 sH16 sI16 B16 b17
  go_wp2_with fail
  rw [← hw17, ← hgh]
  clear hw17 hgh
  refine Calls.mono (EQ.out _ _ _ _ _ _ _ _ _ _ _ _ lA lA' sH17 sI17 sU17 sV17) ?_
  rintro e w18 ⟨rfl, bq⟩
  clear kWc0 kWc1 kWc2
  have kA18 := boxc_keep kA17 bq
  have p18 := p17.keep bq
  have q18 := q17.keep bq
  have sU18 := sU17.keep bq
  have sV18 := sV17.keep bq
  have kW18 := boxc_keep kW17 bq
  have kX18 := boxc_keep kX17 bq
  have kG18 := boxc_keep kG17 bq
  have mP18 := mP17.keep bq
  have mQ18 := mQ17.keep bq
  have sH18 := sH17.keep bq
  have sI18 := sI17.keep bq
  have kH18 := boxc_keep kH17 bq
  have B18 := B17.trans (bq.mono B17.size)
  clear kA17 p17 q17 sU17 sV17 kW17 kX17 kG17 mP17 mQ17 sH17 sI17 kH17 B17 bq
  obtain ⟨kGc0, kGc1, kGc2, _, kGcn⟩ := boxc3 kG18
  go_wp2_with fail
  refine Calls.mono (HD.out _ _ _ _ _ _ _ _ mP18 mQ18 lA lA') ?_
  rintro e w19 ⟨rfl, bq⟩
  have BB := B18.trans (bq.mono B18.size)
  go_wp2
  go_ret
  exact ⟨rfl, BB⟩

set_option maxRecDepth 100000 in
theorem lifted (os : Os) (started : os.Started) (H : Type) (enc : TypeId × Value → H) :
    ReturnsInHanded {} Tryd.checked os 6 .any (fun w args => (Rows.fnExactFracPowSpec.pre enc Tryd.prog Tryd.f6 [] false w args ∧ laidMetH Tryd.prog laidL w) ∧ sizedMet enc Tryd.prog Tryd.f6 (OpenSpec.ofChange Rows.fnExactFracPowSpec) false w args)
      (Rows.fnExactFracPowSpec.post enc Tryd.prog Tryd.f6 false true false false) := by
  refine returnsInHanded_of_change_and (C := Tryd.checked) (X := fun w _ => laidMetH Tryd.prog laidL w) (fun _ _ _ hh h => h.of_heap hh) ownK started (by kernel_rfl) Tryd.func6
    (ChangeSpec.witness_at (enc := enc) (C := Tryd.checked) (os := os) (X := fun w _ => laidMetH Tryd.prog laidL w) false { World.holding Tryd.prog os ⟨#[], #[], []⟩ with heap := (World.holding Tryd.prog os ⟨#[], #[], []⟩).heap.modify 0 fun | .cells _ t frozen => .cells #[.iface 108 (.agg #[.pointer (some ⟨1, 47, none⟩)])] t frozen | o => o } #[.agg #[.bool false, .slice none 0 0, .slice none 0 0], .int .i64 0] 8 rfl (by kernel_rfl) (by kernel_rfl) (by kernel_rfl) (by kernel_rfl) (by kernel_rfl) (laidMetH_of_parts (laidMet_nil _ _) (by kernel_rfl))) ?_
  intro W base args ds gs before hval0 hW _ _ hL _
  have hval : ∀ (j : Nat) t v, Tryd.f6.params[j]? = some t → args[j]? = some v → Value.okWide Tryd.prog W .any base t v := hval0
  have hW' := hW
  obtain ⟨p, q, hA0, hV0, rfl, hfz, hnd⟩ := hW
  have hA : DataW.TrodAll enc Tryd.prog W 0 (fun _ => true) true Tryd.f6.params.toList args.toList ds p := hA0
  have hV : DataW.TrodVars enc Tryd.prog W (fun _ => true) [] gs q := hV0
  rw [Tryd.params6] at hA hval
  obtain ⟨v0, vs0, d0, ds0, p0, q0, hargs, rfl, rfl, h0, r0⟩ := trodAll_cons hA
  obtain ⟨v1, vs1, d1, ds1, p1, q1, rfl, rfl, rfl, h1, r1⟩ := trodAll_cons r0
  obtain ⟨rfl, rfl, rfl⟩ := trodAll_nil r1
  obtain rfl : args = #[v0, v1] := by cases args; simp_all
  obtain ⟨rfl, rfl⟩ := trodVars_none hV
  obtain ⟨cs0, rfl, hcs0⟩ := okWide_struct Tryd.underlying24 (hval 0 24 v0 rfl rfl)
  have k0 := h0
  have lt0 : ∀ x ∈ p0, x.block < W.heap.size := by obtain ⟨m, hm⟩ := k0; exact DataW.trod_lt m _ _ _ hm
  obtain ⟨b0, aa0, la0, ca0, za0, ab0, lb0, cb0, zb0, rfl, wa0, wb0, ha0, hb0⟩ := frac_open hcs0 h0
  obtain ⟨sa0, ea0⟩ := isRow_sl wa0
  obtain ⟨sb0, eb0⟩ := isRow_sl wb0
  obtain ⟨n1, rfl, rfl, rfl, hwn1⟩ := open_int Tryd.underlying3 (hval 1 3 v1 rfl rfl) h1
  clear hA0 hval0 hval hA hV hV0
  have hh := hdl_of_laid hL
  have hw := walk b0 aa0 ca0 (za0.take la0) ab0 cb0 (zb0.take lb0) n1 W hh sa0 sb0  (by rw [ea0]; exact Nat.le_trans ha0 (by simp [maxLen])) (by rw [eb0]; exact Nat.le_trans hb0 (by simp [maxLen])) hwn1
  rw [ea0, eb0] at hw
  refine hw.mono fun e W' ⟨he, bel⟩ => ?_
  subst he
  exact ⟨_, rfl, _, _, _, [], _, [], hW', trodAll_mk1 (shut_bool Tryd.underlying4 _), (trodAll_cons_mk (Below.trod laidOutK (by kernel_rfl) (of_decide_eq_true (by kernel_rfl)) k0 bel lt0) (trodAll_cons_mk (shut_int Tryd.underlying3 hwn1) trodAll_mk0)), rfl, bel.frame _, fun h => by cases h⟩

theorem over : Rows.fnExactFracPowRow.holds Tryd.pinned (OpenSpec.ofChange Rows.fnExactFracPowSpec) :=
  OpenClaim.holds_of_wide 6 Tryd.f6 rfl rfl rfl rfl rfl rfl rfl ⟨rfl, rfl, rfl, rfl, rfl⟩ rfl rfl rfl rfl rfl (by kernel_rfl) Tryd.func6 (by kernel_rfl)
    (of_decide_eq_true (by kernel_rfl)) (by unfold Func.isWrapper; first | (rw [if_pos (by decide +kernel)]; kernel_rfl) | (rw [if_neg (by decide +kernel)]; exact ⟨rfl, rfl⟩))
    (fun os started H enc _ => lifted os started H enc)

theorem card : Rows.FnExactFracPowCardSaid :=
  Claim7.holds_tied_plain_at .later [] [.handle] true Rows.fnExactFracPowCard.stood.harness true
    over (fun _ h => by cases h) (by kernel_rfl) (fun _ h => by cases h) fnExactFracPow_row_tie rfl ⟨rfl, rfl⟩ (by kernel_rfl) rfl
    (fun f fn hf hfn => by
      obtain rfl : f = 6 := Option.some.inj ((show Tryd.prog.funcNamed Rows.fnExactFracPowRow.func = some 6 by kernel_rfl).symm.trans hf) |>.symm
      obtain rfl : fn = Tryd.f6 := (Option.some.inj (Tryd.func6.symm.trans hfn)).symm
      exact ⟨by kernel_rfl, fun j t ht => by
        rw [Tryd.params6] at ht
        have h3 : t = 24 ∨ t = 3 := by
          rcases j with _ | j
          · simp at ht; subst ht; simp
          rcases j with _ | j
          · simp at ht; subst ht; simp
          simp at ht
        rcases h3 with rfl | rfl
        · exact (show Tryd.prog.wantsStandIn 24 = false by kernel_rfl)
        · exact (show Tryd.prog.wantsStandIn 3 = false by kernel_rfl)
      ⟩)
    (by kernel_rfl)
end fnExactFracPow
theorem fnExactFracPow_holds : Rows.FnExactFracPowCardSaid := fnExactFracPow.card
#print axioms fnExactFracPow_holds
end Go.Proofs.YthokphoojmpajagDoor
