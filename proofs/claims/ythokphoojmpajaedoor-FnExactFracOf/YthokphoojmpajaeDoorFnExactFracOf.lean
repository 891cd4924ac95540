/- For every bool and every two slices of ints the law FnExactFracOf returns true and its arguments read as before; no condition beyond the row's own (the listed variable, tied by the card). -/
import Derived.Test.YthokphoojmpajaeDoorCards
import Derived.Test.YthokphoojmpajaeDoorTie
import Derived.Test.YthokphoojmpajaeDoorFracOpen
import Derived.Test.YthokphoojmpajaeDoorFracBy
import Derived.Test.YthokphoojmpajaeDoorLaid
import Derived.Test.YthokphoojmpajaeDoorFrOf
import Derived.ChangeVars
import Derived.ChangeSame
import Derived.LaidHandle
import Derived.SevenTiedAt
namespace Go.Proofs.YthokphoojmpajaeDoor
namespace fnExactFracOf
open Go.ChangeShapes Go.WideShapes Go.ChangeAt Go.RowKit Go.Proofs.Pin

set_option maxRecDepth 100000 in
set_option maxHeartbeats 8000000 in
theorem walk (b : Bool) (a0 : Option Addr) (c0 : Nat) (X : List Int) (a1 : Option Addr) (c1 : Nat) (Y : List Int) (w : World) (hh : Hdl w) (sX : Sl w a0 X) (sY : Sl w a1 Y) :
    Calls Tryd.prog 3 #[.bool b, .slice a0 X.length c0, .slice a1 Y.length c1] w fun e w' => e = .returned (.bool true) ∧ Below w.heap.size w w' := by
  by_cases lX : (1048576 : Int) < (X.length : Int)
  · go_enter Tryd.func3, Tryd.ntmps3
    go_wp2
    go_ret
    exact ⟨rfl, Below.refl _ _⟩
  by_cases lY : (1048576 : Int) < (Y.length : Int)
  · go_enter Tryd.func3, Tryd.ntmps3
    go_wp2
    go_ret
    exact ⟨rfl, Below.refl _ _⟩
  have lX2 : X.length ≤ 1048576 := by omega
  have lY2 : Y.length ≤ 1048576 := by omega
  have TA : Hid (∀ W, Sl W a0 X → Calls Tryd.prog 5 #[.slice a0 X.length c0] W fun e w' => ∃ g, e = .returned (.slice (some ⟨g, 0, none⟩) X.length X.length) ∧ OwnI w' W.heap.size (some ⟨g, 0, none⟩) X.length X ∧ Below W.heap.size W w') := fun W h => (toIntS_any a0 c0 X W h lX2).mono fun e w' ⟨h1, h2, h3⟩ => ⟨_, h1, h2, h3⟩
  have TB : Hid (∀ W, Sl W a1 Y → Calls Tryd.prog 5 #[.slice a1 Y.length c1] W fun e w' => ∃ g, e = .returned (.slice (some ⟨g, 0, none⟩) Y.length Y.length) ∧ OwnI w' W.heap.size (some ⟨g, 0, none⟩) Y.length Y ∧ Below W.heap.size W w') := fun W h => (toIntS_any a1 c1 Y W h lY2).mono fun e w' ⟨h1, h2, h3⟩ => ⟨_, h1, h2, h3⟩
  have CS : Hid (∀ W u1 u2, Sl W u1 X → Sl W u2 Y → Calls Tryd.prog 4 #[.bool b, .slice u1 X.length X.length, .slice u2 Y.length Y.length] W fun e w' => RetS W e w' (ofA b X Y)) := fun W u1 u2 h1 h2 => specFOf_any b u1 u2 _ _ X Y W h1 h2 lX2 lY2
  have CI : Hid (∀ W u1 u2, Hdl W → Sl W u1 X → Sl W u2 Y → Calls Tryd.prog 6 #[.bool b, .slice u1 X.length X.length, .slice u2 Y.length Y.length] W fun e w' => RetF W e w' (ofA b X Y)) := fun W u1 u2 h0 h1 h2 => implFOf_any b u1 u2 _ _ X Y W h0 h1 h2 lX2 lY2 (Nat.le_refl _) (Nat.le_refl _)
  have hlen := ofA_len b X Y
  obtain ⟨A, hA⟩ : ∃ A, A = ofA b X Y := ⟨_, rfl⟩
  rw [← hA] at CS CI hlen
  have lA : A.X.length ≤ 1048576 := by omega
  have lA' : A.Y.length ≤ 1048576 := by omega
  clear hA hlen
  have EQ : Hid (∀ (W : World) (bb : Bool) (r1 s1 r2 s2 : Option Addr) (k1 d1 k2 d2 : Nat) (P Q : List Int), P.length ≤ 1048576 → Q.length ≤ 1048576 → Sl W r1 P → Sl W s1 Q → Sl W r2 P → Sl W s2 Q → Calls Tryd.prog 7 #[fracV bb r1 P.length k1 s1 Q.length d1, fracV bb r2 P.length k2 s2 Q.length d2] W fun e w' => e = .returned (.bool true) ∧ Below W.heap.size W w') := fun W bb r1 s1 r2 s2 k1 d1 k2 d2 P Q lP lQ h1 h2 h3 h4 => eqFrac_any bb r1 s1 r2 s2 k1 d1 k2 d2 P Q W h1 h2 h3 h4 lP lQ
  have ES : Hid (∀ (W : World) (r1 r2 : Option Addr) (k1 k2 : Nat) (P : List Int), P.length ≤ 1048576 → Sl W r1 P → Sl W r2 P → Calls Tryd.prog 8 #[.slice r1 P.length k1, .slice r2 P.length k2] W fun e w' => e = .returned (.bool true) ∧ Below W.heap.size W w') := fun W r1 r2 k1 k2 P lP h1 h2 => (eqIntS_any r1 r2 k1 k2 P P W h1 h2 lP lP).mono fun e w' ⟨k1, q, k2⟩ => ⟨by rw [k1]; simp, by rw [k2]; exact below_dN (Below.refl _ _) q⟩
  have MI : Hid (∀ (W : World) (base : Nat) (r : Option Addr) (c : Nat) (P : List Int) (k : Int), OwnI W base r c P → P.length ≤ 1048576 → 0 ≤ k → k ≤ 10000000 → Calls Tryd.prog 9 #[.slice r P.length c, .int .i64 k] W fun e w' => e = .returned (.int .i64 (k + P.length)) ∧ grown2 W w' (r.map (·.block)) (r.map (·.block))) := fun W base r c P k h1 h2 h3 h4 => (mark_any base r c P k W h1 h2 h3 (by omega)).mono fun e w' ⟨k1, _, k3⟩ => ⟨k1, W, World.grownBy.refl _ _, k3⟩
  have MK : Hid (∀ (W : World) (bb : Bool) (base base2 : Nat) (r s : Option Addr) (c d : Nat) (P Q : List Int) (k : Int), OwnI W base r c P → OwnI W base2 s d Q → (∀ i j, r.map (·.block) = some i → s.map (·.block) = some j → i ≠ j) → P.length ≤ 1048576 → Q.length ≤ 1048576 → 0 ≤ k → k ≤ 10000000 → Calls Tryd.prog 10 #[fracV bb r P.length c s Q.length d, .int .i64 k] W fun e w' => e = .returned (.int .i64 (k + P.length + Q.length)) ∧ OwnI w' base r c (marked k P.length) ∧ OwnI w' base2 s d (marked (k + P.length) Q.length) ∧ grown2 W w' (r.map (·.block)) (s.map (·.block))) := fun W bb base base2 r s c d P Q k h1 h2 h3 h4 h5 h6 h7 => markFrac_any bb base base2 r s c d P Q k W h1 h2 h3 h4 h5 h6 h7
  have HD : Hid (∀ (W : World) (bb : Bool) (r s : Option Addr) (c d n m : Nat), Sl W r (marked 1 n) → Sl W s (marked (1 + (n : Int)) m) → n ≤ 1048576 → m ≤ 1048576 → Calls Tryd.prog 11 #[fracV bb r n c s m d, .int .i64 1] W fun e w' => e = .returned (.int .i64 (1 + n + m)) ∧ Below W.heap.size W w') := fun W bb r s c d n m h1 h2 h3 h4 => heldFrac_any bb r s c d n m 1 W h1 h2 h3 h4 (by omega) (by omega)
  unfold RetS at CS
  unfold RetF at CI
  unfold fracV at CS CI EQ MK HD
  have HH : Hid (Hdl w) := hh
  have S0 : Hid (Sl w a0 X ∧ Sl w a1 Y) := ⟨sX, sY⟩
  have p0 := sX
  have q0 := sY
  have B0 := Below.refl w.heap.size w
  obtain ⟨w0, hw0⟩ : ∃ w0, w0 = w := ⟨_, rfl⟩
  have L0 : w.heap.size ≤ w0.heap.size := by rw [hw0]; exact Nat.le_refl _
  clear sX sY hh
  go_enter Tryd.func3, Tryd.ntmps3
  go_wp2_with fail
  refine Calls.mono (TA.out _ p0) ?_
  rintro e w1 ⟨t1, rfl, oT1, b1⟩
  have p1 := p0.keep b1
  have q1 := q0.keep b1
  have B1 := b1
  clear p0 q0 B0 b1 hw0 L0
  go_wp2_with fail
  refine Calls.mono (TB.out _ q1) ?_
  rintro e w2 ⟨t2, rfl, oS2, b2⟩
  have p2 := p1.keep b2
  have q2 := q1.keep b2
  have oT2 := oT1.keep b2
  have B2 := B1.trans (b2.mono B1.size)
  clear p1 q1 oT1 B1 b2
  go_wp2_with fail
  refine Calls.mono (CS.out _ _ _ oT2.sl oS2.sl) ?_
  rintro e w3 ⟨rw0, cw, sw, dw, rfl, oU, oW, b3⟩
  have sU3 := oU.sl
  have sV3 := oW.sl
  clear oT2 oS2 oU oW
  have p3 := p2.keep b3
  have q3 := q2.keep b3
  have B3 := B2.trans (b3.mono B2.size)
  clear p2 q2 B2 b3
  have bsz3 := B3.size
  obtain ⟨w4, hw4⟩ : ∃ w4, w4 = w3.alloc (.cells #[.bool A.b, .slice rw0 A.X.length cw, .slice sw A.Y.length dw] 24) := ⟨_, rfl⟩
  obtain ⟨gw, hgw⟩ : ∃ gw, gw = w3.heap.size := ⟨_, rfl⟩
  have b4 : Below w3.heap.size w3 w4 := by rw [hw4]; exact (Below.refl _ w3).alloc (Nat.le_refl _) _
  have kW4 : BoxC w4 gw 24 #[.bool A.b, .slice rw0 A.X.length cw, .slice sw A.Y.length dw] := by rw [hw4, hgw]; exact boxc_new _ _ _
  have p4 := p3.keep b4
  have q4 := q3.keep b4
  have sU4 := sU3.keep b4
  have sV4 := sV3.keep b4
  have B4 := B3.trans (b4.mono B3.size)
  clear p3 q3 sU3 sV3 B3 b4
  have SU : Hid (Sl w4 rw0 A.X ∧ Sl w4 sw A.Y) := ⟨sU4, sV4⟩
  obtain ⟨L3, hL3⟩ : ∃ L3, L3 = w4.heap.size := ⟨_, rfl⟩
  have n3 : gw < L3 := by rw [hL3]; exact boxc_lt kW4
  have n2 : w.heap.size ≤ gw := by rw [hgw]; exact bsz3
  have hL3' : w4.heap.size ≤ L3 := by omega
  go_wp2_with fail
  rw [← hw4, ← hgw]
  clear hw4 hgw
  refine Calls.mono (TA.out _ p4) ?_
  rintro e w5 ⟨x1, rfl, oX5, b5⟩
  rw [← hL3] at oX5
  have ix1 := own_lt oX5
  have jx1 : L3 ≤ x1 := own_ge oX5 x1 rfl
  obtain ⟨L5, hL5⟩ : ∃ L5, L5 = w5.heap.size := ⟨_, rfl⟩
  rw [← hL5] at ix1
  have p5 := p4.keep b5
  have q5 := q4.keep b5
  have sU5 := sU4.keep b5
  have sV5 := sV4.keep b5
  have kW5 := boxc_keep kW4 b5
  have B5 := B4.trans (b5.mono B4.size)
  clear p4 q4 sU4 sV4 kW4 B4 b5
  go_wp2_with fail
  refine Calls.mono (TB.out _ q5) ?_
  rintro e w6 ⟨x2, rfl, oZ6, b6⟩
  rw [← hL5] at oZ6
  have ix2 := own_lt oZ6
  have jx2 : L5 ≤ x2 := own_ge oZ6 x2 rfl
  obtain ⟨L7, hL7⟩ : ∃ L7, L7 = w6.heap.size := ⟨_, rfl⟩
  rw [← hL7] at ix2
  have p6 := p5.keep b6
  have q6 := q5.keep b6
  have sU6 := sU5.keep b6
  have sV6 := sV5.keep b6
  have kW6 := boxc_keep kW5 b6
  have oX6 := oX5.keep b6
  have B6 := B5.trans (b6.mono B5.size)
  clear p5 q5 sU5 sV5 kW5 oX5 B5 b6
  have h7 := Hdl.keep HH.out B6 (Hdl.pos HH.out)
  go_wp2_with fail
  refine Calls.mono (CI.out _ _ _ h7 oX6.sl oZ6.sl) ?_
  rintro e w7 ⟨rg, cg, sg', dg, rfl, oG7, oH7, apG, b7⟩
  rw [← hL7] at oG7 oH7
  have ig1 := own_block_lt oG7
  have ig2 := own_block_lt oH7
  have jg1 := own_ge oG7
  have jg2 := own_ge oH7
  have APG : Hid (∀ i j, rg.map (·.block) = some i → sg'.map (·.block) = some j → i ≠ j) := ap_blocks apG
  have z8 := b7.size
  clear h7 apG
  have p7 := p6.keep b7
  have q7 := q6.keep b7
  have sU7 := sU6.keep b7
  have sV7 := sV6.keep b7
  have kW7 := boxc_keep kW6 b7
  have oX7 := oX6.keep b7
  have oZ7 := oZ6.keep b7
  have B7 := B6.trans (b7.mono B6.size)
  clear p6 q6 sU6 sV6 kW6 oX6 oZ6 B6 b7
  obtain ⟨kWc0, kWc1, kWc2, _, kWcn⟩ := boxc3 kW7
  have kWne : ¬ gw = w7.heap.size := by omega
  obtain ⟨w8, hw8⟩ : ∃ w8, w8 = w7.alloc (.cells #[.bool A.b, .slice rg A.X.length cg, .slice sg' A.Y.length dg] 24) := ⟨_, rfl⟩
  obtain ⟨bg, hbg⟩ : ∃ bg, bg = w7.heap.size := ⟨_, rfl⟩
  have b8 : Below w7.heap.size w7 w8 := by rw [hw8]; exact (Below.refl _ w7).alloc (Nat.le_refl _) _
  have kG8 : BoxC w8 bg 24 #[.bool A.b, .slice rg A.X.length cg, .slice sg' A.Y.length dg] := by rw [hw8, hbg]; exact boxc_new _ _ _
  have p8 := p7.keep b8
  have q8 := q7.keep b8
  have sU8 := sU7.keep b8
  have sV8 := sV7.keep b8
  have kW8 := boxc_keep kW7 b8
  have oX8 := oX7.keep b8
  have oZ8 := oZ7.keep b8
  have oG8 := oG7.keep b8
  have oH8 := oH7.keep b8
  have B8 := B7.trans (b8.mono B7.size)
  clear p7 q7 sU7 sV7 kW7 oX7 oZ7 oG7 oH7 B7 b8
  rw [← hbg] at ig1 ig2
  have n9 : L7 ≤ bg := by omega
  go_wp2_with fail
  rw [← hw8, ← hbg]
  clear hw8 hbg
  refine Calls.mono (EQ.out _ _ _ _ _ _ _ _ _ _ _ _ lA lA' oG8.sl oH8.sl sU8 sV8) ?_
  rintro e w9 ⟨rfl, b9⟩
  clear kWc0 kWc1 kWc2
  have p9 := p8.keep b9
  have q9 := q8.keep b9
  have sU9 := sU8.keep b9
  have sV9 := sV8.keep b9
  have kW9 := boxc_keep kW8 b9
  have oX9 := oX8.keep b9
  have oZ9 := oZ8.keep b9
  have oG9 := oG8.keep b9
  have oH9 := oH8.keep b9
  have kG9 := boxc_keep kG8 b9
  have B9 := B8.trans (b9.mono B8.size)
  clear p8 q8 sU8 sV8 kW8 oX8 oZ8 oG8 oH8 kG8 B8 b9
  go_wp2_with fail
  refine Calls.mono (TA.out _ p9) ?_
  rintro e w10 ⟨t3, rfl, oT10, bq⟩
  have p10 := p9.keep bq
  have q10 := q9.keep bq
  have sU10 := sU9.keep bq
  have sV10 := sV9.keep bq
  have kW10 := boxc_keep kW9 bq
  have oX10 := oX9.keep bq
  have oZ10 := oZ9.keep bq
  have oG10 := oG9.keep bq
  have oH10 := oH9.keep bq
  have kG10 := boxc_keep kG9 bq
  have B10 := B9.trans (bq.mono B9.size)
  clear p9 q9 sU9 sV9 kW9 oX9 oZ9 oG9 oH9 kG9 B9 bq
  go_wp2_with fail
  refine Calls.mono (ES.out _ _ _ _ _ _ lX2 oX10.sl oT10.sl) ?_
  rintro e w11 ⟨rfl, bq⟩
  have p11 := p10.keep bq
  have q11 := q10.keep bq
  have sU11 := sU10.keep bq
  have sV11 := sV10.keep bq
  have kW11 := boxc_keep kW10 bq
  have oX11 := oX10.keep bq
  have oZ11 := oZ10.keep bq
  have oG11 := oG10.keep bq
  have oH11 := oH10.keep bq
  have kG11 := boxc_keep kG10 bq
  have oT11 := oT10.keep bq
  have B11 := B10.trans (bq.mono B10.size)
  clear p10 q10 sU10 sV10 kW10 oX10 oZ10 oG10 oH10 kG10 oT10 B10 bq
  clear oT11
  go_wp2_with fail
  refine Calls.mono (TB.out _ q11) ?_
  rintro e w12 ⟨t3, rfl, oT12, bq⟩
  have p12 := p11.keep bq
  have q12 := q11.keep bq
  have sU12 := sU11.keep bq
  have sV12 := sV11.keep bq
  have kW12 := boxc_keep kW11 bq
  have oX12 := oX11.keep bq
  have oZ12 := oZ11.keep bq
  have oG12 := oG11.keep bq
  have oH12 := oH11.keep bq
  have kG12 := boxc_keep kG11 bq
  have B12 := B11.trans (bq.mono B11.size)
  clear p11 q11 sU11 sV11 kW11 oX11 oZ11 oG11 oH11 kG11 B11 bq
  go_wp2_with fail
  refine Calls.mono (ES.out _ _ _ _ _ _ lY2 oZ12.sl oT12.sl) ?_
  rintro e w13 ⟨rfl, bq⟩
  have p13 := p12.keep bq
  have q13 := q12.keep bq
  have sU13 := sU12.keep bq
  have sV13 := sV12.keep bq
  have kW13 := boxc_keep kW12 bq
  have oX13 := oX12.keep bq
  have oZ13 := oZ12.keep bq
  have oG13 := oG12.keep bq
  have oH13 := oH12.keep bq
  have kG13 := boxc_keep kG12 bq
  have oT13 := oT12.keep bq
  have B13 := B12.trans (bq.mono B12.size)
  clear p12 q12 sU12 sV12 kW12 oX12 oZ12 oG12 oH12 kG12 oT12 B12 bq
  clear oT13
  have loA : ∀ k, (some ⟨x1, 0, none⟩ : Option Addr).map (·.block) = some k → L3 ≤ k := fun k hk => by cases hk; exact jx1
  have loB : ∀ k, (some ⟨x1, 0, none⟩ : Option Addr).map (·.block) = some k → L3 ≤ k := fun k hk => by cases hk; exact jx1
  have hiA : ∀ k, (some ⟨x1, 0, none⟩ : Option Addr).map (·.block) = some k → k < L5 := fun k hk => by cases hk; exact ix1
  have hiB : ∀ k, (some ⟨x1, 0, none⟩ : Option Addr).map (·.block) = some k → k < L5 := fun k hk => by cases hk; exact ix1
  go_wp2_with fail
  refine Calls.mono (MI.out _ _ _ _ _ 1 oX13 lX2 (by omega) (by omega)) ?_
  rintro e w14 ⟨rfl, gm⟩
  clear oX13
  have p14 : Sl w14 _ _ := sl_old S0.out.1 p13 (by omega : w.heap.size ≤ L3) gm loA loB
  have q14 : Sl w14 _ _ := sl_old S0.out.2 q13 (by omega : w.heap.size ≤ L3) gm loA loB
  have sU14 : Sl w14 _ _ := sl_old SU.out.1 sU13 (by omega : w4.heap.size ≤ L3) gm loA loB
  have sV14 : Sl w14 _ _ := sl_old SU.out.2 sV13 (by omega : w4.heap.size ≤ L3) gm loA loB
  have kW14 := boxc_two kW13 gm (fun k hk => by have := loA k hk; have := hiA k hk; omega) (fun k hk => by have := loB k hk; have := hiB k hk; omega)
  have oZ14 := own_new oZ13 gm hiA hiB (by omega)
  have oG14 := own_new oG13 gm hiA hiB (by omega)
  have oH14 := own_new oH13 gm hiA hiB (by omega)
  have kG14 := boxc_two kG13 gm (fun k hk => by have := loA k hk; have := hiA k hk; omega) (fun k hk => by have := loB k hk; have := hiB k hk; omega)
  have B14 := below_two B13 gm (Nat.le_refl _) (fun k hk => by have := loA k hk; omega) (fun k hk => by have := loB k hk; omega)
  clear p13 q13 sU13 sV13 kW13 oZ13 oG13 oH13 kG13 B13 gm
  clear loA loB hiA hiB
  have loA : ∀ k, (some ⟨x2, 0, none⟩ : Option Addr).map (·.block) = some k → L5 ≤ k := fun k hk => by cases hk; exact jx2
  have loB : ∀ k, (some ⟨x2, 0, none⟩ : Option Addr).map (·.block) = some k → L5 ≤ k := fun k hk => by cases hk; exact jx2
  have hiA : ∀ k, (some ⟨x2, 0, none⟩ : Option Addr).map (·.block) = some k → k < L7 := fun k hk => by cases hk; exact ix2
  have hiB : ∀ k, (some ⟨x2, 0, none⟩ : Option Addr).map (·.block) = some k → k < L7 := fun k hk => by cases hk; exact ix2
  go_wp2_with fail
  refine Calls.mono (MI.out _ _ _ _ _ _ oZ14 lY2 (by omega) (by omega)) ?_
  rintro e w15 ⟨rfl, gm⟩
  clear oZ14
  have p15 : Sl w15 _ _ := sl_old S0.out.1 p14 (by omega : w.heap.size ≤ L5) gm loA loB
  have q15 : Sl w15 _ _ := sl_old S0.out.2 q14 (by omega : w.heap.size ≤ L5) gm loA loB
  have sU15 : Sl w15 _ _ := sl_old SU.out.1 sU14 (by omega : w4.heap.size ≤ L5) gm loA loB
  have sV15 : Sl w15 _ _ := sl_old SU.out.2 sV14 (by omega : w4.heap.size ≤ L5) gm loA loB
  have kW15 := boxc_two kW14 gm (fun k hk => by have := loA k hk; have := hiA k hk; omega) (fun k hk => by have := loB k hk; have := hiB k hk; omega)
  have oG15 := own_new oG14 gm hiA hiB (by omega)
  have oH15 := own_new oH14 gm hiA hiB (by omega)
  have kG15 := boxc_two kG14 gm (fun k hk => by have := loA k hk; have := hiA k hk; omega) (fun k hk => by have := loB k hk; have := hiB k hk; omega)
  have B15 := below_two B14 gm (Nat.le_refl _) (fun k hk => by have := loA k hk; omega) (fun k hk => by have := loB k hk; omega)
  clear p14 q14 sU14 sV14 kW14 oG14 oH14 kG14 B14 gm
  clear loA loB hiA hiB
  have hk9 : ¬ (1 : Int) + X.length + Y.length < 0 := by omega
  obtain ⟨kGc0, kGc1, kGc2, _, kGcn⟩ := boxc3 kG15
  obtain ⟨kWc0, kWc1, kWc2, _, kWcn⟩ := boxc3 kW15
  go_wp2_with fail
  refine Calls.mono (EQ.out _ _ _ _ _ _ _ _ _ _ _ _ lA lA' oG15.sl oH15.sl sU15 sV15) ?_
  rintro e w16 ⟨rfl, bq⟩
  clear kGc0 kGc1 kGc2 kWc0 kWc1 kWc2
  have p16 := p15.keep bq
  have q16 := q15.keep bq
  have sU16 := sU15.keep bq
  have sV16 := sV15.keep bq
  have kW16 := boxc_keep kW15 bq
  have oG16 := oG15.keep bq
  have oH16 := oH15.keep bq
  have kG16 := boxc_keep kG15 bq
  have B16 := B15.trans (bq.mono B15.size)
  clear p15 q15 sU15 sV15 kW15 oG15 oH15 kG15 B15 bq
  obtain ⟨kGc0, kGc1, kGc2, _, kGcn⟩ := boxc3 kG16
  have loA : ∀ k, (rg : Option Addr).map (·.block) = some k → L7 ≤ k := jg1
  have loB : ∀ k, (sg' : Option Addr).map (·.block) = some k → L7 ≤ k := jg2
  have hiA : ∀ k, (rg : Option Addr).map (·.block) = some k → k < bg := ig1
  have hiB : ∀ k, (sg' : Option Addr).map (·.block) = some k → k < bg := ig2
  go_wp2_with fail
  refine Calls.mono (MK.out _ _ _ _ _ _ _ _ _ _ 1 oG16 oH16 APG.out lA lA' (by omega) (by omega)) ?_
  rintro e w17 ⟨rfl, mk1, mk2, gm⟩
  clear kGc0 kGc1 kGc2
  clear oG16
  clear oH16
  have p17 : Sl w17 _ _ := sl_old S0.out.1 p16 (by omega : w.heap.size ≤ L7) gm loA loB
  have q17 : Sl w17 _ _ := sl_old S0.out.2 q16 (by omega : w.heap.size ≤ L7) gm loA loB
  have sU17 : Sl w17 _ _ := sl_old SU.out.1 sU16 (by omega : w4.heap.size ≤ L7) gm loA loB
  have sV17 : Sl w17 _ _ := sl_old SU.out.2 sV16 (by omega : w4.heap.size ≤ L7) gm loA loB
  have kW17 := boxc_two kW16 gm (fun k hk => by have := loA k hk; have := hiA k hk; omega) (fun k hk => by have := loB k hk; have := hiB k hk; omega)
  have kG17 := boxc_two kG16 gm (fun k hk => by have := loA k hk; have := hiA k hk; omega) (fun k hk => by have := loB k hk; have := hiB k hk; omega)
  have B17 := below_two B16 gm (Nat.le_refl _) (fun k hk => by have := loA k hk; omega) (fun k hk => by have := loB k hk; omega)
  clear p16 q16 sU16 sV16 kW16 kG16 B16 gm
  clear loA loB hiA hiB
  have mP17 := mk1.sl
  have mQ17 := mk2.sl
  clear mk1 mk2
  obtain ⟨kGc0, kGc1, kGc2, _, kGcn⟩ := boxc3 kG17
  have hkA : ¬ (1 : Int) + A.X.length + A.Y.length < 0 := by omega
  go_wp2_with fail
  refine Calls.mono (HD.out _ _ _ _ _ _ _ _ mP17 mQ17 lA lA') ?_
  rintro e w18 ⟨rfl, bq⟩
  clear kGc0 kGc1 kGc2
  have p18 := p17.keep bq
  have q18 := q17.keep bq
  have sU18 := sU17.keep bq
  have sV18 := sV17.keep bq
  have kW18 := boxc_keep kW17 bq
  have kG18 := boxc_keep kG17 bq
  have mP18 := mP17.keep bq
  have mQ18 := mQ17.keep bq
  have B18 := B17.trans (bq.mono B17.size)
  clear p17 q17 sU17 sV17 kW17 kG17 mP17 mQ17 B17 bq
  go_wp2_with fail
  refine Calls.mono (TA.out _ p18) ?_
  rintro e w19 ⟨t5, rfl, oT19, bq⟩
  have p19 := p18.keep bq
  have q19 := q18.keep bq
  have sU19 := sU18.keep bq
  have sV19 := sV18.keep bq
  have kW19 := boxc_keep kW18 bq
  have kG19 := boxc_keep kG18 bq
  have mP19 := mP18.keep bq
  have mQ19 := mQ18.keep bq
  have B19 := B18.trans (bq.mono B18.size)
  clear p18 q18 sU18 sV18 kW18 kG18 mP18 mQ18 B18 bq
  go_wp2_with fail
  refine Calls.mono (TB.out _ q19) ?_
  rintro e w20 ⟨t6, rfl, oS20, bq⟩
  have p20 := p19.keep bq
  have q20 := q19.keep bq
  have sU20 := sU19.keep bq
  have sV20 := sV19.keep bq
  have kW20 := boxc_keep kW19 bq
  have kG20 := boxc_keep kG19 bq
  have mP20 := mP19.keep bq
  have mQ20 := mQ19.keep bq
  have oT20 := oT19.keep bq
  have B20 := B19.trans (bq.mono B19.size)
  clear p19 q19 sU19 sV19 kW19 kG19 mP19 mQ19 oT19 B19 bq
  have h9 := Hdl.keep HH.out B20 (Hdl.pos HH.out)
  go_wp2_with fail
  refine Calls.mono (CI.out _ _ _ h9 oT20.sl oS20.sl) ?_
  rintro e w21 ⟨rh, ch, sh, dh, rfl, oI, oJ, _, bq⟩
  have sH21 := oI.sl
  have sI21 := oJ.sl
  clear h9 oT20 oS20 oI oJ
  have p21 := p20.keep bq
  have q21 := q20.keep bq
  have sU21 := sU20.keep bq
  have sV21 := sV20.keep bq
  have kW21 := boxc_keep kW20 bq
  have kG21 := boxc_keep kG20 bq
  have mP21 := mP20.keep bq
  have mQ21 := mQ20.keep bq
  have B21 := B20.trans (bq.mono B20.size)
  clear p20 q20 sU20 sV20 kW20 kG20 mP20 mQ20 B20 bq
  obtain ⟨kWc0, kWc1, kWc2, _, kWcn⟩ := boxc3 kW21
  have kWne : ¬ gw = w21.heap.size := by omega
  obtain ⟨w22, hw22⟩ : ∃ w22, w22 = w21.alloc (.cells #[.bool A.b, .slice rh A.X.length ch, .slice sh A.Y.length dh] 24) := ⟨_, rfl⟩
  obtain ⟨gh, hgh⟩ : ∃ gh, gh = w21.heap.size := ⟨_, rfl⟩
  have b22 : Below w21.heap.size w21 w22 := by rw [hw22]; exact (Below.refl _ w21).alloc (Nat.le_refl _) _
  have kH22 : BoxC w22 gh 24 #[.bool A.b, .slice rh A.X.length ch, .slice sh A.Y.length dh] := by rw [hw22, hgh]; exact boxc_new _ _ _
  have p22 := p21.keep b22
  have q22 := q21.keep b22
  have sU22 := sU21.keep b22
  have sV22 := sV21.keep b22
  have kW22 := boxc_keep kW21 b22
  have kG22 := boxc_keep kG21 b22
  have mP22 := mP21.keep b22
  have mQ22 := mQ21.keep b22
  have sH22 := sH21.keep b22
  have sI22 := sI21.keep b22
  have B22 := B21.trans (b22.mono B21.size)
  clear p21 q21 sU21 sV21 kW21 kG21 mP21 mQ21 sH21 sI21 B21 b22
  go_wp2_with fail
  rw [← hw22, ← hgh]
  clear hw22 hgh
  refine Calls.mono (EQ.out _ _ _ _ _ _ _ _ _ _ _ _ lA lA' sH22 sI22 sU22 sV22) ?_
  rintro e w23 ⟨rfl, bq⟩
  clear kWc0 kWc1 kWc2
  have p23 := p22.keep bq
  have q23 := q22.keep bq
  have sU23 := sU22.keep bq
  have sV23 := sV22.keep bq
  have kW23 := boxc_keep kW22 bq
  have kG23 := boxc_keep kG22 bq
  have mP23 := mP22.keep bq
  have mQ23 := mQ22.keep bq
  have sH23 := sH22.keep bq
  have sI23 := sI22.keep bq
  have kH23 := boxc_keep kH22 bq
  have B23 := B22.trans (bq.mono B22.size)
  clear p22 q22 sU22 sV22 kW22 kG22 mP22 mQ22 sH22 sI22 kH22 B22 bq
  obtain ⟨kGc0, kGc1, kGc2, _, kGcn⟩ := boxc3 kG23
  go_wp2_with fail
  refine Calls.mono (HD.out _ _ _ _ _ _ _ _ mP23 mQ23 lA lA') ?_
  rintro e w24 ⟨rfl, bq⟩
  have BB := B23.trans (bq.mono B23.size)
  go_wp2
  go_ret
  exact ⟨rfl, BB⟩

set_option maxRecDepth 100000 in
theorem lifted (os : Os) (started : os.Started) (H : Type) (enc : TypeId × Value → H) :
    ReturnsInHanded {} Tryd.checked os 3 .any (fun w args => (Rows.fnExactFracOfSpec.pre enc Tryd.prog Tryd.f3 [] false w args ∧ laidMetH Tryd.prog laidL w) ∧ sizedMet enc Tryd.prog Tryd.f3 (OpenSpec.ofChange Rows.fnExactFracOfSpec) false w args)
      (Rows.fnExactFracOfSpec.post enc Tryd.prog Tryd.f3 false true false false) := by
  refine returnsInHanded_of_change_and (C := Tryd.checked) (X := fun w _ => laidMetH Tryd.prog laidL w) (fun _ _ _ hh h => h.of_heap hh) ownK started (by kernel_rfl) Tryd.func3
    (ChangeSpec.witness_at (enc := enc) (C := Tryd.checked) (os := os) (X := fun w _ => laidMetH Tryd.prog laidL w) false { World.holding Tryd.prog os ⟨#[], #[], []⟩ with heap := (World.holding Tryd.prog os ⟨#[], #[], []⟩).heap.modify 0 fun | .cells _ t frozen => .cells #[.iface 77 (.agg #[.pointer (some ⟨1, 41, none⟩)])] t frozen | o => o } #[.bool false, .slice none 0 0, .slice none 0 0] 8 rfl (by kernel_rfl) (by kernel_rfl) (by kernel_rfl) (by kernel_rfl) (by kernel_rfl) (laidMetH_of_parts (laidMet_nil _ _) (by kernel_rfl))) ?_
  intro W base args ds gs before hval0 hW _ _ hL _
  have hval : ∀ (j : Nat) t v, Tryd.f3.params[j]? = some t → args[j]? = some v → Value.okWide Tryd.prog W .any base t v := hval0
  have hW' := hW
  obtain ⟨p, q, hA0, hV0, rfl, hfz, hnd⟩ := hW
  have hA : DataW.TrodAll enc Tryd.prog W 0 (fun _ => true) true Tryd.f3.params.toList args.toList ds p := hA0
  have hV : DataW.TrodVars enc Tryd.prog W (fun _ => true) [] gs q := hV0
  rw [Tryd.params3] at hA hval
  obtain ⟨v0, vs0, d0, ds0, p0, q0, hargs, rfl, rfl, h0, r0⟩ := trodAll_cons hA
  obtain ⟨v1, vs1, d1, ds1, p1, q1, rfl, rfl, rfl, h1, r1⟩ := trodAll_cons r0
  obtain ⟨v2, vs2, d2, ds2, p2, q2, rfl, rfl, rfl, h2, r2⟩ := trodAll_cons r1
  obtain ⟨rfl, rfl, rfl⟩ := trodAll_nil r2
  obtain rfl : args = #[v0, v1, v2] := by cases args; simp_all
  obtain ⟨rfl, rfl⟩ := trodVars_none hV
  obtain ⟨n0, rfl, rfl, rfl⟩ := open_bool Tryd.underlying4 (hval 0 4 v0 rfl rfl) h0
  obtain ⟨aa1, la1, ca1, rfl⟩ := okWide_slice Tryd.underlying22 (hval 1 22 v1 rfl rfl)
  have k1 := h1
  have lt1 : ∀ x ∈ p1, x.block < W.heap.size := by obtain ⟨m, hm⟩ := k1; exact DataW.trod_lt m _ _ _ hm
  obtain ⟨za1, wa1⟩ : ∃ zs, IsRow .i64 W aa1 la1 ca1 zs := by
    obtain ⟨fuel, hf⟩ := h1
    obtain ⟨a', l', c', zs, he, hr, _⟩ := row_open hf
    simp at he
    obtain ⟨rfl, rfl, rfl⟩ := he
    exact ⟨zs, hr⟩
  obtain ⟨sa1, ea1⟩ := isRow_sl wa1
  obtain ⟨aa2, la2, ca2, rfl⟩ := okWide_slice Tryd.underlying22 (hval 2 22 v2 rfl rfl)
  have k2 := h2
  have lt2 : ∀ x ∈ p2, x.block < W.heap.size := by obtain ⟨m, hm⟩ := k2; exact DataW.trod_lt m _ _ _ hm
  obtain ⟨za2, wa2⟩ : ∃ zs, IsRow .i64 W aa2 la2 ca2 zs := by
    obtain ⟨fuel, hf⟩ := h2
    obtain ⟨a', l', c', zs, he, hr, _⟩ := row_open hf
    simp at he
    obtain ⟨rfl, rfl, rfl⟩ := he
    exact ⟨zs, hr⟩
  obtain ⟨sa2, ea2⟩ := isRow_sl wa2
  clear hA0 hval0 hval hA hV hV0
  have hh := hdl_of_laid hL
  have hw := walk n0 aa1 ca1 (za1.take la1) aa2 ca2 (za2.take la2) W hh  sa1 sa2   
  rw [ea1, ea2] at hw
  refine hw.mono fun e W' ⟨he, bel⟩ => ?_
  subst he
  exact ⟨_, rfl, _, _, _, [], _, [], hW', trodAll_mk1 (shut_bool Tryd.underlying4 _), (trodAll_cons_mk (shut_bool Tryd.underlying4 n0) (trodAll_cons_mk (Below.trod laidOutK (by kernel_rfl) (of_decide_eq_true (by kernel_rfl)) k1 bel lt1) (trodAll_cons_mk (Below.trod laidOutK (by kernel_rfl) (of_decide_eq_true (by kernel_rfl)) k2 bel lt2) trodAll_mk0))), rfl, bel.frame _, fun h => by cases h⟩

theorem over : Rows.fnExactFracOfRow.holds Tryd.pinned (OpenSpec.ofChange Rows.fnExactFracOfSpec) :=
  OpenClaim.holds_of_wide 3 Tryd.f3 rfl rfl rfl rfl rfl rfl rfl ⟨rfl, rfl, rfl, rfl, rfl⟩ rfl rfl rfl rfl rfl (by kernel_rfl) Tryd.func3 (by kernel_rfl)
    (of_decide_eq_true (by kernel_rfl)) (by unfold Func.isWrapper; first | (rw [if_pos (by decide +kernel)]; kernel_rfl) | (rw [if_neg (by decide +kernel)]; exact ⟨rfl, rfl⟩))
    (fun os started H enc _ => lifted os started H enc)

theorem card : Rows.FnExactFracOfCardSaid :=
  Claim7.holds_tied_plain_at .later [] [.handle] true Rows.fnExactFracOfCard.stood.harness true
    over (fun _ h => by cases h) (by kernel_rfl) (fun _ h => by cases h) fnExactFracOf_row_tie rfl ⟨rfl, rfl⟩ (by kernel_rfl) rfl
    (fun f fn hf hfn => by
      obtain rfl : f = 3 := Option.some.inj ((show Tryd.prog.funcNamed Rows.fnExactFracOfRow.func = some 3 by kernel_rfl).symm.trans hf) |>.symm
      obtain rfl : fn = Tryd.f3 := (Option.some.inj (Tryd.func3.symm.trans hfn)).symm
      exact ⟨by kernel_rfl, fun j t ht => by
        rw [Tryd.params3] at ht
        have h3 : t = 4 ∨ t = 22 := by
          rcases j with _ | j
          · simp at ht; subst ht; simp
          rcases j with _ | j
          · simp at ht; subst ht; simp
          rcases j with _ | j
          · simp at ht; subst ht; simp
          simp at ht
        rcases h3 with rfl | rfl
        · exact (show Tryd.prog.wantsStandIn 4 = false by kernel_rfl)
        · exact (show Tryd.prog.wantsStandIn 22 = false by kernel_rfl)
      ⟩)
    (by kernel_rfl)
end fnExactFracOf
theorem fnExactFracOf_holds : Rows.FnExactFracOfCardSaid := fnExactFracOf.card
#print axioms fnExactFracOf_holds
end Go.Proofs.YthokphoojmpajaeDoor
