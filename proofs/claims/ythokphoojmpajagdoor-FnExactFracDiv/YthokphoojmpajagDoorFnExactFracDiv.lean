/- For every pair of fractions the law FnExactFracDiv returns true and its arguments read as before; no condition beyond the row's own (the listed variable, tied by the card). -/
import Derived.Test.YthokphoojmpajagDoorCards
import Derived.Test.YthokphoojmpajagDoorTie
import Derived.Test.YthokphoojmpajagDoorFracOpen
import Derived.Test.YthokphoojmpajagDoorFracBy
import Derived.Test.YthokphoojmpajagDoorLaid
import Derived.Test.YthokphoojmpajagDoorFrDiv
import Derived.Test.YthokphoojmpajagDoorSpDiv
import Derived.ChangeVars
import Derived.ChangeSame
import Derived.LaidHandle
import Derived.SevenTiedAt
import Derived.Deep.Cut
namespace Go.Proofs.YthokphoojmpajagDoor
namespace fnExactFracDiv
open Go.ChangeShapes Go.WideShapes Go.ChangeAt Go.RowKit Go.Proofs.Pin

set_option maxRecDepth 100000 in
set_option maxHeartbeats 8000000 in
theorem walk (b : Bool) (a0 : Option Addr) (c0 : Nat) (X : List Int) (a1 : Option Addr) (c1 : Nat) (Y : List Int) (b' : Bool) (a2 : Option Addr) (c2 : Nat) (X' : List Int) (a3 : Option Addr) (c3 : Nat) (Y' : List Int) (w : World) (hh : Hdl w) (sX : Sl w a0 X) (sY : Sl w a1 Y) (sX' : Sl w a2 X') (sY' : Sl w a3 Y') (mX : X.length ≤ 9223372036854775807) (mY : Y.length ≤ 9223372036854775807) (mX' : X'.length ≤ 9223372036854775807) (mY' : Y'.length ≤ 9223372036854775807) :
    Calls Tryd.prog 5 #[fracV b a0 X.length c0 a1 Y.length c1, fracV b' a2 X'.length c2 a3 Y'.length c3] w fun e w' => e = .returned (.bool true) ∧ Below w.heap.size w w' := by
  obtain ⟨w0, hw0⟩ : ∃ w0, w0 = (w.alloc (.cells #[.bool b, .slice a0 X.length c0, .slice a1 Y.length c1] 24)).alloc (.cells #[.bool b', .slice a2 X'.length c2, .slice a3 Y'.length c3] 24) := ⟨_, rfl⟩
  have B0 : Below w.heap.size w w0 := by rw [hw0]; exact ((Below.refl _ w).alloc (Nat.le_refl _) _).alloc (by simp) _
  have kA0 : BoxC w0 w.heap.size 24 #[.bool b, .slice a0 X.length c0, .slice a1 Y.length c1] := by rw [hw0]; exact boxc_alloc (boxc_new _ _ _) _
  have kB0 : BoxC w0 (w.heap.size + 1) 24 #[.bool b', .slice a2 X'.length c2, .slice a3 Y'.length c3] := by
    rw [hw0]
    have h := boxc_new (w.alloc (.cells #[.bool b, .slice a0 X.length c0, .slice a1 Y.length c1] 24)) 24 #[.bool b', .slice a2 X'.length c2, .slice a3 Y'.length c3]
    rw [World.size_alloc] at h
    exact h
  have Z1 : Hid (Calls Tryd.prog 9 #[fracV b a0 X.length c0 a1 Y.length c1, .int .i64 1048576] w0 fun e w' => ∃ l' : Int, e = .returned (.int .i64 l') ∧ (l' < 0 ∨ (0 ≤ l' ∧ l' ≤ 1048576 ∧ X.length ≤ 1048576 ∧ Y.length ≤ 1048576)) ∧ Below w0.heap.size w0 w') := szFrac_at b a0 a1 _ _ c0 c1 1048576 w0 mX mY (by omega) (by omega)
  have Z2 : Hid (∀ (W : World) (l : Int), 0 ≤ l → l ≤ 1048576 → Calls Tryd.prog 9 #[fracV b' a2 X'.length c2 a3 Y'.length c3, .int .i64 l] W fun e w' => ∃ l' : Int, e = .returned (.int .i64 l') ∧ (l' < 0 ∨ (0 ≤ l' ∧ l' ≤ 1048576 ∧ X'.length ≤ 1048576 ∧ Y'.length ≤ 1048576)) ∧ Below W.heap.size W w') := fun W l h0 h1 => szFrac_at b' a2 a3 _ _ c2 c3 l W mX' mY' h0 h1
  unfold fracV at Z1 Z2 ⊢
  clear mX mY mX' mY'
  go_enter Tryd.func5, Tryd.ntmps5
  go_wp2_with fail
  rw [← hw0]
  refine Calls.mono Z1.out ?_
  rintro e w1 ⟨l, rfl, hl, b1⟩
  have B1 : Below w.heap.size w w1 := B0.trans (b1.mono B0.size)
  rcases hl with hneg | ⟨hl0, hl1, lX, lY⟩
  · clear Z1 Z2 b1 kA0 kB0 hw0
    go_wp2
    go_ret
    exact ⟨rfl, B1⟩
  have hl' : ¬ l < 0 := by omega
  have kA1 := boxc_keep kA0 b1
  have kB1 := boxc_keep kB0 b1
  obtain ⟨e0, e1, e2, _, _⟩ := boxc3 kB1
  clear Z1 b1 kA0 kB0 hw0 B0
  go_wp2_with fail
  refine Calls.mono (Z2.out _ _ hl0 hl1) ?_
  rintro e w2 ⟨l2, rfl, hl2, b2⟩
  have B2 : Below w.heap.size w w2 := B1.trans (b2.mono B1.size)
  rcases hl2 with hneg | ⟨hl20, hl21, lX', lY'⟩
  · clear Z2 b2 kA1 kB1 e0 e1 e2
    go_wp2
    go_ret
    exact ⟨rfl, B2⟩
  have hl2' : ¬ l2 < 0 := by omega
  have KA : Hid (BoxC w2 w.heap.size 24 #[.bool b, .slice a0 X.length c0, .slice a1 Y.length c1]) := boxc_keep kA1 b2
  have KB : Hid (BoxC w2 (w.heap.size + 1) 24 #[.bool b', .slice a2 X'.length c2, .slice a3 Y'.length c3]) := boxc_keep kB1 b2
  clear Z2 b2 kA1 kB1 e0 e1 e2 hl0 hl1 hl20 hl21 B1
  have z2 : w.heap.size + 1 < w2.heap.size := boxc_lt KB.out
  have TA : Hid (∀ W, Sl W a0 X → Sl W a1 Y → Calls Tryd.prog 11 #[fracV b a0 X.length c0 a1 Y.length c1] W fun e w' => ∃ g1 g2, e = .returned (fracV b (some ⟨g1, 0, none⟩) X.length X.length (some ⟨g2, 0, none⟩) Y.length Y.length) ∧ OwnI w' W.heap.size (some ⟨g1, 0, none⟩) X.length X ∧ OwnI w' W.heap.size (some ⟨g2, 0, none⟩) Y.length Y ∧ g1 ≠ g2 ∧ Below W.heap.size W w') := fun W h1 h2 => toFrac_any b a0 a1 c0 c1 X Y W h1 h2 lX lY
  have TB : Hid (∀ W, Sl W a2 X' → Sl W a3 Y' → Calls Tryd.prog 11 #[fracV b' a2 X'.length c2 a3 Y'.length c3] W fun e w' => ∃ g1 g2, e = .returned (fracV b' (some ⟨g1, 0, none⟩) X'.length X'.length (some ⟨g2, 0, none⟩) Y'.length Y'.length) ∧ OwnI w' W.heap.size (some ⟨g1, 0, none⟩) X'.length X' ∧ OwnI w' W.heap.size (some ⟨g2, 0, none⟩) Y'.length Y' ∧ g1 ≠ g2 ∧ Below W.heap.size W w') := fun W h1 h2 => toFrac_any b' a2 a3 c2 c3 X' Y' W h1 h2 lX' lY'
  have CS : Hid (∀ W u1 u2 u3 u4, Sl W u1 X → Sl W u2 Y → Sl W u3 X' → Sl W u4 Y' → Calls Tryd.prog 18 #[fracV b u1 X.length X.length u2 Y.length Y.length, fracV b' u3 X'.length X'.length u4 Y'.length Y'.length] W fun e w' => RetS W e w' (op2A divA b X Y b' X' Y')) := fun W u1 u2 u3 u4 h1 h2 h3 h4 => specDiv_any b u1 u2 _ _ X Y b' u3 u4 _ _ X' Y' W h1 h2 h3 h4 lX lY lX' lY'
  have CI : Hid (∀ W u1 u2 u3 u4, Hdl W → Sl W u1 X → Sl W u2 Y → Sl W u3 X' → Sl W u4 Y' → Calls Tryd.prog 19 #[fracV b u1 X.length X.length u2 Y.length Y.length, fracV b' u3 X'.length X'.length u4 Y'.length Y'.length] W fun e w' => RetF W e w' (op2A divA b X Y b' X' Y')) := fun W u1 u2 u3 u4 h0 h1 h2 h3 h4 => implDiv_any b u1 u2 _ _ X Y b' u3 u4 _ _ X' Y' W h0 h1 h2 h3 h4 lX lY (Nat.le_refl _) (Nat.le_refl _) lX' lY' (Nat.le_refl _) (Nat.le_refl _)
  have hlen := divA_len b X Y b' X' Y'
  obtain ⟨A, hA⟩ : ∃ A, A = op2A divA b X Y b' X' Y' := ⟨_, rfl⟩
  rw [← hA] at CS CI hlen
  have lA : A.X.length ≤ 1048576 := by omega
  have lA' : A.Y.length ≤ 1048576 := by omega
  clear hA hlen
  have EQ : Hid (∀ (W : World) (bb : Bool) (r1 s1 r2 s2 : Option Addr) (k1 d1 k2 d2 : Nat) (P Q : List Int), P.length ≤ 1048576 → Q.length ≤ 1048576 → Sl W r1 P → Sl W s1 Q → Sl W r2 P → Sl W s2 Q → Calls Tryd.prog 13 #[fracV bb r1 P.length k1 s1 Q.length d1, fracV bb r2 P.length k2 s2 Q.length d2] W fun e w' => e = .returned (.bool true) ∧ Below W.heap.size W w') := fun W bb r1 s1 r2 s2 k1 d1 k2 d2 P Q lP lQ h1 h2 h3 h4 => eqFrac_any bb r1 s1 r2 s2 k1 d1 k2 d2 P Q W h1 h2 h3 h4 lP lQ
  have MK : Hid (∀ (W : World) (bb : Bool) (base base2 : Nat) (r s : Option Addr) (c d : Nat) (P Q : List Int) (k : Int), OwnI W base r c P → OwnI W base2 s d Q → (∀ i j, r.map (·.block) = some i → s.map (·.block) = some j → i ≠ j) → P.length ≤ 1048576 → Q.length ≤ 1048576 → 0 ≤ k → k ≤ 10000000 → Calls Tryd.prog 14 #[fracV bb r P.length c s Q.length d, .int .i64 k] W fun e w' => e = .returned (.int .i64 (k + P.length + Q.length)) ∧ OwnI w' base r c (marked k P.length) ∧ OwnI w' base2 s d (marked (k + P.length) Q.length) ∧ grown2 W w' (r.map (·.block)) (s.map (·.block))) := fun W bb base base2 r s c d P Q k h1 h2 h3 h4 h5 h6 h7 => markFrac_any bb base base2 r s c d P Q k W h1 h2 h3 h4 h5 h6 h7
  have HD : Hid (∀ (W : World) (bb : Bool) (r s : Option Addr) (c d n m : Nat), Sl W r (marked 1 n) → Sl W s (marked (1 + (n : Int)) m) → n ≤ 1048576 → m ≤ 1048576 → Calls Tryd.prog 15 #[fracV bb r n c s m d, .int .i64 1] W fun e w' => e = .returned (.int .i64 (1 + n + m)) ∧ Below W.heap.size W w') := fun W bb r s c d n m h1 h2 h3 h4 => heldFrac_any bb r s c d n m 1 W h1 h2 h3 h4 (by omega) (by omega)
  unfold RetS at CS
  unfold RetF at CI
  unfold fracV at TA TB CS CI EQ MK HD
  have SA : Hid (Sl w2 a0 X ∧ Sl w2 a1 Y ∧ Sl w2 a2 X' ∧ Sl w2 a3 Y') := ⟨sX.keep B2, sY.keep B2, sX'.keep B2, sY'.keep B2⟩
  have HB : Hid (Below w.heap.size w w2) := B2
  have HH : Hid (Hdl w) := hh
  have S0 : Hid (Sl w a0 X ∧ Sl w a1 Y ∧ Sl w a2 X' ∧ Sl w a3 Y') := ⟨sX, sY, sX', sY'⟩
  clear sX sY sX' sY' B2 hh

  go_upto_region 8 with fail
  go_cut [6, 7] from 27 to 35 (fun v u wx => ∃ g r c s d, v = .pointer (some ⟨g, 0, none⟩) ∧ u = .bool A.ok ∧ BoxC wx g 26 #[.bool A.b, .slice r A.X.length c, .slice s A.Y.length d] ∧ Sl wx r A.X ∧ Sl wx s A.Y ∧ w2.heap.size ≤ g ∧ Below w2.heap.size w2 wx)
  case first =>
    obtain ⟨p0, p1, p2, _, n1⟩ := boxc3 KA.out
    obtain ⟨q0, q1, q2, _, n2⟩ := boxc3 KB.out
    have p0d : w2.drew.cell? ⟨w.heap.size, 0, none⟩ = some (.bool b) := p0
    have p1d : w2.drew.cell? ⟨w.heap.size, 1, none⟩ = some (.slice a0 X.length c0) := p1
    have p2d : w2.drew.cell? ⟨w.heap.size, 2, none⟩ = some (.slice a1 Y.length c1) := p2
    have q0d : w2.drew.cell? ⟨w.heap.size + 1, 0, none⟩ = some (.bool b') := q0
    have q1d : w2.drew.cell? ⟨w.heap.size + 1, 1, none⟩ = some (.slice a2 X'.length c2) := q1
    have q2d : w2.drew.cell? ⟨w.heap.size + 1, 2, none⟩ = some (.slice a3 Y'.length c3) := q2
    have bA : Below w2.heap.size w2 (w2.alloc (.cells #[.bool false, .slice none 0 0, .slice none 0 0] 26)).drew := ((Below.refl _ w2).alloc (Nat.le_refl _) _).drew
    have bD : Below w2.heap.size w2 w2.drew := (Below.refl _ w2).drew
    clear p0 p1 p2 q0 q1 q2
    go_region_held3 (fun w' => w'.cell? ⟨w.heap.size, 0, none⟩ = some (.bool b) ∧ w'.cell? ⟨w.heap.size, 1, none⟩ = some (.slice a0 X.length c0) ∧ w'.cell? ⟨w.heap.size, 2, none⟩ = some (.slice a1 Y.length c1) ∧ w'.cell? ⟨w.heap.size + 1, 0, none⟩ = some (.bool b') ∧ w'.cell? ⟨w.heap.size + 1, 1, none⟩ = some (.slice a2 X'.length c2) ∧ w'.cell? ⟨w.heap.size + 1, 2, none⟩ = some (.slice a3 Y'.length c3))
      (first
        | (with_reducible exact ⟨p0d, p1d, p2d, q0d, q1d, q2d⟩)
        | (go_split_ands; refine ⟨?_, ?_, ?_, ?_, ?_, ?_⟩ <;> first
          | (with_reducible exact keep_set3 (by assumption) (by omega) _ _ _)
          | (with_reducible exact cell_big bT (by omega) (by assumption))
          | (with_reducible exact cell_big bS (by omega) (by assumption))
          | (with_reducible exact cell_big bR (by omega) (by assumption))
          | (with_reducible exact cell_big bA (by omega) (by assumption))
          | (with_reducible exact cell_new bT (by omega) (by assumption))
          | (with_reducible exact cell_new bS (by omega) (by assumption))
          | (with_reducible exact cell_new bR (by omega) (by assumption))))
      (first
        | (go_at_call_of 11 (Value.agg #[Value.bool b, Value.slice a0 X.length c0, Value.slice a1 Y.length c1]); first
          | ((with_reducible refine Calls.mono (TA.out w2.drew ?_ ?_) ?_); (exact SA.out.1); (exact SA.out.2.1); rintro e wr ⟨ga, gb, rfl, oa, ob, _, br⟩; have bR : Below w2.heap.size w2 wr := below_un2 br; have zR : w2.heap.size ≤ wr.heap.size := bR.size)
          | ((with_reducible refine Calls.mono (TA.out (w2.alloc (.cells #[.bool false, .slice none 0 0, .slice none 0 0] 26)).drew ?_ ?_) ?_); (exact Sl.keep SA.out.1 bA); (exact Sl.keep SA.out.2.1 bA); rintro e wr ⟨ga, gb, rfl, oa, ob, _, br⟩; have bR : Below w2.heap.size w2 wr := bA.trans (br.mono bA.size); have zR : w2.heap.size ≤ wr.heap.size := bR.size; have kz := boxc_keep (boxc_new w2 26 #[.bool false, .slice none 0 0, .slice none 0 0]) (below_un2 br)))
        | (go_at_call_of 11 (Value.agg #[Value.bool b', Value.slice a2 X'.length c2, Value.slice a3 Y'.length c3]); first
          | ((with_reducible refine Calls.mono (TB.out wr ?_ ?_) ?_); (exact Sl.keep SA.out.2.2.1 bR); (exact Sl.keep SA.out.2.2.2 bR); rintro e ws ⟨gc, gd, rfl, oc, od, _, bs⟩; have bS : Below w2.heap.size w2 ws := bR.trans (bs.mono bR.size); have zS : wr.heap.size ≤ ws.heap.size := bs.size; have ua := (oa.keep bs).sl; have ub := (ob.keep bs).sl; try (have kz := boxc_keep kz bs))
          | ((with_reducible refine Calls.mono (TB.out (wr.alloc (.cells #[.bool false, .slice none 0 0, .slice none 0 0] 26)) ?_ ?_) ?_); (exact (Sl.keep SA.out.2.2.1 bR).keep ((Below.refl _ wr).alloc (Nat.le_refl _) _)); (exact (Sl.keep SA.out.2.2.2 bR).keep ((Below.refl _ wr).alloc (Nat.le_refl _) _)); rintro e ws ⟨gc, gd, rfl, oc, od, _, bs⟩; have bs2 : Below wr.heap.size wr ws := ((Below.refl _ wr).alloc (Nat.le_refl _) _).trans (bs.mono (by simp)); have bS : Below w2.heap.size w2 ws := bR.trans (bs2.mono bR.size); have zS : wr.heap.size ≤ ws.heap.size := bs2.size; have ua := (oa.keep bs2).sl; have ub := (ob.keep bs2).sl; have kz := boxc_keep (boxc_new wr 26 #[.bool false, .slice none 0 0, .slice none 0 0]) bs))
        | (go_at_call 18; first
          | ((with_reducible refine Calls.mono (CS.out ws _ _ _ _ ?_ ?_ ?_ ?_) ?_); (exact ua); (exact ub); (exact oc.sl); (exact od.sl); rintro e wt ⟨rt, ct, st, dt, rfl, ot, ot2, bt⟩; have bT : Below w2.heap.size w2 wt := bS.trans (bt.mono bS.size); have zT : ws.heap.size ≤ wt.heap.size := bt.size; try (have hz := boxc_lt kz; have kz := boxc_keep kz bt); try (obtain ⟨d0, d1, d2, df, dn⟩ := boxc3 kz))
          | ((with_reducible refine Calls.mono (CS.out (ws.alloc (.cells #[.bool false, .slice none 0 0, .slice none 0 0] 26)) _ _ _ _ ?_ ?_ ?_ ?_) ?_); (exact ua.keep ((Below.refl _ ws).alloc (Nat.le_refl _) _)); (exact ub.keep ((Below.refl _ ws).alloc (Nat.le_refl _) _)); (exact oc.sl.keep ((Below.refl _ ws).alloc (Nat.le_refl _) _)); (exact od.sl.keep ((Below.refl _ ws).alloc (Nat.le_refl _) _)); rintro e wt ⟨rt, ct, st, dt, rfl, ot, ot2, bt⟩; have bt2 : Below ws.heap.size ws wt := ((Below.refl _ ws).alloc (Nat.le_refl _) _).trans (bt.mono (by simp)); have bT : Below w2.heap.size w2 wt := bS.trans (bt2.mono bS.size); have zT : ws.heap.size ≤ wt.heap.size := bt2.size; have hz : ws.heap.size < (ws.alloc (.cells #[.bool false, .slice none 0 0, .slice none 0 0] 26)).heap.size := (by simp); have kz := boxc_keep (boxc_new ws 26 #[.bool false, .slice none 0 0, .slice none 0 0]) bt; obtain ⟨d0, d1, d2, df, dn⟩ := boxc3 kz)))
    all_goals
      go_wp2_with fail
      go_meet
      first
        | exact ⟨_, _, _, _, _, rfl, rfl, boxc_set2 (boxc_set1 (boxc_set0 kz _) _) _, (own_far ot (gr_set3 _ _ _ _ _) hz).sl, (own_far ot2 (gr_set3 _ _ _ _ _) hz).sl, by omega, below_set3 bT (by omega) _ _ _⟩
        | exact ⟨_, _, _, _, _, rfl, rfl, boxc_new _ _ _, ot.sl.keep ((Below.refl _ wt).alloc (Nat.le_refl _) _), ot2.sl.keep ((Below.refl _ wt).alloc (Nat.le_refl _) _), bT.size, bT.alloc bT.size _⟩

  case rest =>
    obtain ⟨gw, rw0, cw, sw, dw, rfl, rfl, kW, sU, sV, hgw, b3⟩ := hcut
    obtain ⟨w3, hw3⟩ : ∃ w3, w3 = wc := ⟨_, rfl⟩
    subst hw3
    have kA3 := boxc_keep KA.out b3
    have kB3 := boxc_keep KB.out b3
    have kW3 := kW
    have p3 := Sl.keep SA.out.1 b3
    have q3 := Sl.keep SA.out.2.1 b3
    have u3 := Sl.keep SA.out.2.2.1 b3
    have v3 := Sl.keep SA.out.2.2.2 b3
    have sU3 := sU
    have sV3 := sV
    have B3 := Below.trans HB.out (b3.mono HB.out.size)
    have n3 : gw < w3.heap.size := boxc_lt kW
    have m3 := b3.size
    have SU : Hid (Sl w3 rw0 A.X ∧ Sl w3 sw A.Y) := ⟨sU, sV⟩
    obtain ⟨L3, hL3⟩ : ∃ L3, L3 = w3.heap.size := ⟨_, rfl⟩
    rw [← hL3] at n3 m3
    have hL3' : w3.heap.size ≤ L3 := by omega
    clear kW sU sV b3 KA KB SA
    obtain ⟨kAc0, kAc1, kAc2, _, kAcn⟩ := boxc3 kA3
    go_wp2_with fail
    refine Calls.mono (TA.out _ p3 q3) ?_
    rintro e w4 ⟨x1, x2, rfl, oX4, oZ4, hx12, b4⟩
    rw [← hL3] at oX4 oZ4
    have ix1 := own_lt oX4
    have ix2 := own_lt oZ4
    have jx1 : L3 ≤ x1 := own_ge oX4 x1 rfl
    have jx2 : L3 ≤ x2 := own_ge oZ4 x2 rfl
    clear kAc0 kAc1 kAc2
    have kA4 := boxc_keep kA3 b4
    have kB4 := boxc_keep kB3 b4
    have kW4 := boxc_keep kW3 b4
    have p4 := p3.keep b4
    have q4 := q3.keep b4
    have u4 := u3.keep b4
    have v4 := v3.keep b4
    have sU4 := sU3.keep b4
    have sV4 := sV3.keep b4
    have B4 := B3.trans (b4.mono B3.size)
    clear kA3 kB3 kW3 p3 q3 u3 v3 sU3 sV3 B3 b4
    obtain ⟨kBc0, kBc1, kBc2, _, kBcn⟩ := boxc3 kB4
    have kBne : ¬ w.heap.size + 1 = w4.heap.size := by omega
    obtain ⟨w5, hw5⟩ : ∃ w5, w5 = w4.alloc (.cells #[.bool b, .slice (some ⟨x1, 0, none⟩) X.length X.length, .slice (some ⟨x2, 0, none⟩) Y.length Y.length] 26) := ⟨_, rfl⟩
    obtain ⟨bx, hbx⟩ : ∃ bx, bx = w4.heap.size := ⟨_, rfl⟩
    have b5 : Below w4.heap.size w4 w5 := by rw [hw5]; exact (Below.refl _ w4).alloc (Nat.le_refl _) _
    have kX5 : BoxC w5 bx 26 #[.bool b, .slice (some ⟨x1, 0, none⟩) X.length X.length, .slice (some ⟨x2, 0, none⟩) Y.length Y.length] := by rw [hw5, hbx]; exact boxc_new _ _ _
    have kA5 := boxc_keep kA4 b5
    have kB5 := boxc_keep kB4 b5
    have kW5 := boxc_keep kW4 b5
    have p5 := p4.keep b5
    have q5 := q4.keep b5
    have u5 := u4.keep b5
    have v5 := v4.keep b5
    have sU5 := sU4.keep b5
    have sV5 := sV4.keep b5
    have oX5 := oX4.keep b5
    have oZ5 := oZ4.keep b5
    have B5 := B4.trans (b5.mono B4.size)
    clear kA4 kB4 kW4 p4 q4 u4 v4 sU4 sV4 oX4 oZ4 B4 b5
    rw [← hbx] at ix1 ix2
    obtain ⟨L5, hL5⟩ : ∃ L5, L5 = w5.heap.size := ⟨_, rfl⟩
    have n5 : bx < L5 := by rw [hL5]; exact boxc_lt kX5
    go_wp2_with fail
    rw [← hw5, ← hbx]
    clear hw5 hbx
    refine Calls.mono (TB.out _ u5 v5) ?_
    rintro e w6 ⟨y1, y2, rfl, oY6, oV6, hy12, b6⟩
    rw [← hL5] at oY6 oV6
    have iy1 := own_lt oY6
    have iy2 := own_lt oV6
    have jy1 : L5 ≤ y1 := own_ge oY6 y1 rfl
    have jy2 : L5 ≤ y2 := own_ge oV6 y2 rfl
    clear kBc0 kBc1 kBc2
    have kA6 := boxc_keep kA5 b6
    have kB6 := boxc_keep kB5 b6
    have kW6 := boxc_keep kW5 b6
    have p6 := p5.keep b6
    have q6 := q5.keep b6
    have u6 := u5.keep b6
    have v6 := v5.keep b6
    have sU6 := sU5.keep b6
    have sV6 := sV5.keep b6
    have oX6 := oX5.keep b6
    have oZ6 := oZ5.keep b6
    have kX6 := boxc_keep kX5 b6
    have B6 := B5.trans (b6.mono B5.size)
    clear kA5 kB5 kW5 p5 q5 u5 v5 sU5 sV5 oX5 oZ5 kX5 B5 b6
    obtain ⟨kXc0, kXc1, kXc2, _, kXcn⟩ := boxc3 kX6
    have kXne : ¬ bx = w6.heap.size := by omega
    obtain ⟨w7, hw7⟩ : ∃ w7, w7 = w6.alloc (.cells #[.bool b', .slice (some ⟨y1, 0, none⟩) X'.length X'.length, .slice (some ⟨y2, 0, none⟩) Y'.length Y'.length] 26) := ⟨_, rfl⟩
    obtain ⟨bY, hbY⟩ : ∃ bY, bY = w6.heap.size := ⟨_, rfl⟩
    have b7 : Below w6.heap.size w6 w7 := by rw [hw7]; exact (Below.refl _ w6).alloc (Nat.le_refl _) _
    have kY7 : BoxC w7 bY 26 #[.bool b', .slice (some ⟨y1, 0, none⟩) X'.length X'.length, .slice (some ⟨y2, 0, none⟩) Y'.length Y'.length] := by rw [hw7, hbY]; exact boxc_new _ _ _
    have kA7 := boxc_keep kA6 b7
    have kB7 := boxc_keep kB6 b7
    have kW7 := boxc_keep kW6 b7
    have p7 := p6.keep b7
    have q7 := q6.keep b7
    have u7 := u6.keep b7
    have v7 := v6.keep b7
    have sU7 := sU6.keep b7
    have sV7 := sV6.keep b7
    have oX7 := oX6.keep b7
    have oZ7 := oZ6.keep b7
    have kX7 := boxc_keep kX6 b7
    have oY7 := oY6.keep b7
    have oV7 := oV6.keep b7
    have B7 := B6.trans (b7.mono B6.size)
    clear kA6 kB6 kW6 p6 q6 u6 v6 sU6 sV6 oX6 oZ6 kX6 oY6 oV6 B6 b7
    rw [← hbY] at iy1 iy2
    obtain ⟨L7, hL7⟩ : ∃ L7, L7 = w7.heap.size := ⟨_, rfl⟩
    have n7 : bY < L7 := by rw [hL7]; exact boxc_lt kY7
    have h7 := Hdl.keep HH.out B7 (Hdl.pos HH.out)
    go_wp2_with fail
    rw [← hw7, ← hbY]
    clear hw7 hbY
    refine Calls.mono (CI.out _ _ _ _ _ h7 oX7.sl oZ7.sl oY7.sl oV7.sl) ?_
    rintro e w8 ⟨rg, cg, sg', dg, rfl, oG8, oH8, apG, b8⟩
    rw [← hL7] at oG8 oH8
    have ig1 := own_block_lt oG8
    have ig2 := own_block_lt oH8
    have jg1 := own_ge oG8
    have jg2 := own_ge oH8
    have APG : Hid (∀ i j, rg.map (·.block) = some i → sg'.map (·.block) = some j → i ≠ j) := ap_blocks apG
    have z8 := b8.size
    clear h7 apG
    clear kXc0 kXc1 kXc2
    have kA8 := boxc_keep kA7 b8
    have kB8 := boxc_keep kB7 b8
    have kW8 := boxc_keep kW7 b8
    have p8 := p7.keep b8
    have q8 := q7.keep b8
    have u8 := u7.keep b8
    have v8 := v7.keep b8
    have sU8 := sU7.keep b8
    have sV8 := sV7.keep b8
    have oX8 := oX7.keep b8
    have oZ8 := oZ7.keep b8
    have kX8 := boxc_keep kX7 b8
    have oY8 := oY7.keep b8
    have oV8 := oV7.keep b8
    have kY8 := boxc_keep kY7 b8
    have B8 := B7.trans (b8.mono B7.size)
    clear kA7 kB7 kW7 p7 q7 u7 v7 sU7 sV7 oX7 oZ7 kX7 oY7 oV7 kY7 B7 b8
    obtain ⟨kWc0, kWc1, kWc2, _, kWcn⟩ := boxc3 kW8
    have kWne : ¬ gw = w8.heap.size := by omega
    obtain ⟨w9, hw9⟩ : ∃ w9, w9 = w8.alloc (.cells #[.bool A.b, .slice rg A.X.length cg, .slice sg' A.Y.length dg] 26) := ⟨_, rfl⟩
    obtain ⟨bg, hbg⟩ : ∃ bg, bg = w8.heap.size := ⟨_, rfl⟩
    have b9 : Below w8.heap.size w8 w9 := by rw [hw9]; exact (Below.refl _ w8).alloc (Nat.le_refl _) _
    have kG9 : BoxC w9 bg 26 #[.bool A.b, .slice rg A.X.length cg, .slice sg' A.Y.length dg] := by rw [hw9, hbg]; exact boxc_new _ _ _
    have kA9 := boxc_keep kA8 b9
    have kB9 := boxc_keep kB8 b9
    have kW9 := boxc_keep kW8 b9
    have p9 := p8.keep b9
    have q9 := q8.keep b9
    have u9 := u8.keep b9
    have v9 := v8.keep b9
    have sU9 := sU8.keep b9
    have sV9 := sV8.keep b9
    have oX9 := oX8.keep b9
    have oZ9 := oZ8.keep b9
    have kX9 := boxc_keep kX8 b9
    have oY9 := oY8.keep b9
    have oV9 := oV8.keep b9
    have kY9 := boxc_keep kY8 b9
    have oG9 := oG8.keep b9
    have oH9 := oH8.keep b9
    have B9 := B8.trans (b9.mono B8.size)
    clear kA8 kB8 kW8 p8 q8 u8 v8 sU8 sV8 oX8 oZ8 kX8 oY8 oV8 kY8 oG8 oH8 B8 b9
    rw [← hbg] at ig1 ig2
    have n9 : L7 ≤ bg := by omega
    go_wp2_with fail
    rw [← hw9, ← hbg]
    clear hw9 hbg
    refine Calls.mono (EQ.out _ _ _ _ _ _ _ _ _ _ _ _ lA lA' oG9.sl oH9.sl sU9 sV9) ?_
    rintro e w10 ⟨rfl, b10⟩
    clear kWc0 kWc1 kWc2
    have kA10 := boxc_keep kA9 b10
    have kB10 := boxc_keep kB9 b10
    have kW10 := boxc_keep kW9 b10
    have p10 := p9.keep b10
    have q10 := q9.keep b10
    have u10 := u9.keep b10
    have v10 := v9.keep b10
    have sU10 := sU9.keep b10
    have sV10 := sV9.keep b10
    have oX10 := oX9.keep b10
    have oZ10 := oZ9.keep b10
    have kX10 := boxc_keep kX9 b10
    have oY10 := oY9.keep b10
    have oV10 := oV9.keep b10
    have kY10 := boxc_keep kY9 b10
    have oG10 := oG9.keep b10
    have oH10 := oH9.keep b10
    have kG10 := boxc_keep kG9 b10
    have B10 := B9.trans (b10.mono B9.size)
    clear kA9 kB9 kW9 p9 q9 u9 v9 sU9 sV9 oX9 oZ9 kX9 oY9 oV9 kY9 oG9 oH9 kG9 B9 b10
    obtain ⟨kXc0, kXc1, kXc2, _, kXcn⟩ := boxc3 kX10
    obtain ⟨kAc0, kAc1, kAc2, _, kAcn⟩ := boxc3 kA10
    have y0d : w10.drew.cell? ⟨bx, 0, none⟩ = some (.bool b) := kXc0
    have y1d : w10.drew.cell? ⟨bx, 1, none⟩ = some (.slice (some ⟨x1, 0, none⟩) X.length X.length) := kXc1
    have y2d : w10.drew.cell? ⟨bx, 2, none⟩ = some (.slice (some ⟨x2, 0, none⟩) Y.length Y.length) := kXc2
    have y3d : w10.drew.cell? ⟨w.heap.size, 0, none⟩ = some (.bool b) := kAc0
    have y4d : w10.drew.cell? ⟨w.heap.size, 1, none⟩ = some (.slice a0 X.length c0) := kAc1
    have y5d : w10.drew.cell? ⟨w.heap.size, 2, none⟩ = some (.slice a1 Y.length c1) := kAc2
    have bO10 : Below w10.heap.size w10 w10.drew := (Below.refl _ w10).drew
    clear kXc0 kXc1 kXc2 kAc0 kAc1 kAc2
    go_wp2_with fail
    go_region_held3 (fun w' => w'.cell? ⟨bx, 0, none⟩ = some (.bool b) ∧ w'.cell? ⟨bx, 1, none⟩ = some (.slice (some ⟨x1, 0, none⟩) X.length X.length) ∧ w'.cell? ⟨bx, 2, none⟩ = some (.slice (some ⟨x2, 0, none⟩) Y.length Y.length) ∧ w'.cell? ⟨w.heap.size, 0, none⟩ = some (.bool b) ∧ w'.cell? ⟨w.heap.size, 1, none⟩ = some (.slice a0 X.length c0) ∧ w'.cell? ⟨w.heap.size, 2, none⟩ = some (.slice a1 Y.length c1))
      (first
        | (with_reducible exact ⟨y0d, y1d, y2d, y3d, y4d, y5d⟩)
        | (go_split_ands; refine ⟨?_, ?_, ?_, ?_, ?_, ?_⟩ <;> first | (with_reducible exact cell_big bW (by omega) (by assumption)) | (with_reducible exact cell_big bV (by omega) (by assumption))))
      (first
        | (go_at_call 11; (refine Calls.mono (TA.out w10.drew ?_ ?_) ?_); (exact p10); (exact q10); rintro e wv ⟨ga, gb, rfl, oa, ob, _, bv⟩; have bV : Below w10.heap.size w10 wv := below_un2 bv)
        | (go_at_call 13; (refine Calls.mono (EQ.out _ _ _ _ _ _ _ _ _ _ _ _ ?_ ?_ ?_ ?_ ?_ ?_) ?_); (exact lX); (exact lY); (exact Sl.keep oX10.sl bV); (exact Sl.keep oZ10.sl bV); (exact oa.sl); (exact ob.sl); rintro e wu ⟨rfl, bu⟩; have bW : Below w10.heap.size w10 wu := bV.trans (bu.mono bV.size)))
    obtain ⟨w11, hw11⟩ : ∃ w11, w11 = wu := ⟨_, rfl⟩
    rw [← hw11] at bW ⊢
    clear y0d y1d y2d y3d y4d y5d bu bv bV oa ob bO10 hw11
    have kA11 := boxc_keep kA10 bW
    have kB11 := boxc_keep kB10 bW
    have kW11 := boxc_keep kW10 bW
    have p11 := p10.keep bW
    have q11 := q10.keep bW
    have u11 := u10.keep bW
    have v11 := v10.keep bW
    have sU11 := sU10.keep bW
    have sV11 := sV10.keep bW
    have oX11 := oX10.keep bW
    have oZ11 := oZ10.keep bW
    have kX11 := boxc_keep kX10 bW
    have oY11 := oY10.keep bW
    have oV11 := oV10.keep bW
    have kY11 := boxc_keep kY10 bW
    have oG11 := oG10.keep bW
    have oH11 := oH10.keep bW
    have kG11 := boxc_keep kG10 bW
    have B11 := B10.trans (bW.mono B10.size)
    clear kA10 kB10 kW10 p10 q10 u10 v10 sU10 sV10 oX10 oZ10 kX10 oY10 oV10 kY10 oG10 oH10 kG10 B10 bW
    obtain ⟨kYc0, kYc1, kYc2, _, kYcn⟩ := boxc3 kY11
    obtain ⟨kBc0, kBc1, kBc2, _, kBcn⟩ := boxc3 kB11
    have y0d : w11.drew.cell? ⟨bY, 0, none⟩ = some (.bool b') := kYc0
    have y1d : w11.drew.cell? ⟨bY, 1, none⟩ = some (.slice (some ⟨y1, 0, none⟩) X'.length X'.length) := kYc1
    have y2d : w11.drew.cell? ⟨bY, 2, none⟩ = some (.slice (some ⟨y2, 0, none⟩) Y'.length Y'.length) := kYc2
    have y3d : w11.drew.cell? ⟨w.heap.size + 1, 0, none⟩ = some (.bool b') := kBc0
    have y4d : w11.drew.cell? ⟨w.heap.size + 1, 1, none⟩ = some (.slice a2 X'.length c2) := kBc1
    have y5d : w11.drew.cell? ⟨w.heap.size + 1, 2, none⟩ = some (.slice a3 Y'.length c3) := kBc2
    have bO11 : Below w11.heap.size w11 w11.drew := (Below.refl _ w11).drew
    clear kYc0 kYc1 kYc2 kBc0 kBc1 kBc2
    go_wp2_with fail
    go_region_held3 (fun w' => w'.cell? ⟨bY, 0, none⟩ = some (.bool b') ∧ w'.cell? ⟨bY, 1, none⟩ = some (.slice (some ⟨y1, 0, none⟩) X'.length X'.length) ∧ w'.cell? ⟨bY, 2, none⟩ = some (.slice (some ⟨y2, 0, none⟩) Y'.length Y'.length) ∧ w'.cell? ⟨w.heap.size + 1, 0, none⟩ = some (.bool b') ∧ w'.cell? ⟨w.heap.size + 1, 1, none⟩ = some (.slice a2 X'.length c2) ∧ w'.cell? ⟨w.heap.size + 1, 2, none⟩ = some (.slice a3 Y'.length c3))
      (first
        | (with_reducible exact ⟨y0d, y1d, y2d, y3d, y4d, y5d⟩)
        | (go_split_ands; refine ⟨?_, ?_, ?_, ?_, ?_, ?_⟩ <;> first | (with_reducible exact cell_big bW (by omega) (by assumption)) | (with_reducible exact cell_big bV (by omega) (by assumption))))
      (first
        | (go_at_call 11; (refine Calls.mono (TB.out w11.drew ?_ ?_) ?_); (exact u11); (exact v11); rintro e wv ⟨ga, gb, rfl, oa, ob, _, bv⟩; have bV : Below w11.heap.size w11 wv := below_un2 bv)
        | (go_at_call 13; (refine Calls.mono (EQ.out _ _ _ _ _ _ _ _ _ _ _ _ ?_ ?_ ?_ ?_ ?_ ?_) ?_); (exact lX'); (exact lY'); (exact Sl.keep oY11.sl bV); (exact Sl.keep oV11.sl bV); (exact oa.sl); (exact ob.sl); rintro e wu ⟨rfl, bu⟩; have bW : Below w11.heap.size w11 wu := bV.trans (bu.mono bV.size)))
    obtain ⟨w12, hw12⟩ : ∃ w12, w12 = wu := ⟨_, rfl⟩
    rw [← hw12] at bW ⊢
    clear y0d y1d y2d y3d y4d y5d bu bv bV oa ob bO11 hw12
    have kA12 := boxc_keep kA11 bW
    have kB12 := boxc_keep kB11 bW
    have kW12 := boxc_keep kW11 bW
    have p12 := p11.keep bW
    have q12 := q11.keep bW
    have u12 := u11.keep bW
    have v12 := v11.keep bW
    have sU12 := sU11.keep bW
    have sV12 := sV11.keep bW
    have oX12 := oX11.keep bW
    have oZ12 := oZ11.keep bW
    have kX12 := boxc_keep kX11 bW
    have oY12 := oY11.keep bW
    have oV12 := oV11.keep bW
    have kY12 := boxc_keep kY11 bW
    have oG12 := oG11.keep bW
    have oH12 := oH11.keep bW
    have kG12 := boxc_keep kG11 bW
    have B12 := B11.trans (bW.mono B11.size)
    clear kA11 kB11 kW11 p11 q11 u11 v11 sU11 sV11 oX11 oZ11 kX11 oY11 oV11 kY11 oG11 oH11 kG11 B11 bW
    obtain ⟨kXc0, kXc1, kXc2, _, kXcn⟩ := boxc3 kX12
    have loA : ∀ k, (some ⟨x1, 0, none⟩ : Option Addr).map (·.block) = some k → L3 ≤ k := fun k hk => by cases hk; exact jx1
    have loB : ∀ k, (some ⟨x2, 0, none⟩ : Option Addr).map (·.block) = some k → L3 ≤ k := fun k hk => by cases hk; exact jx2
    have hiA : ∀ k, (some ⟨x1, 0, none⟩ : Option Addr).map (·.block) = some k → k < bx := fun k hk => by cases hk; exact ix1
    have hiB : ∀ k, (some ⟨x2, 0, none⟩ : Option Addr).map (·.block) = some k → k < bx := fun k hk => by cases hk; exact ix2
    go_wp2_with fail
    refine Calls.mono (MK.out _ _ _ _ _ _ _ _ _ _ 1 oX12 oZ12 (fun i j hi hj => by cases hi; cases hj; exact hx12) lX lY (by omega) (by omega)) ?_
    rintro e w13 ⟨rfl, mk1, mk2, gm⟩
    clear kXc0 kXc1 kXc2
    clear oX12 oZ12
    have kA13 := boxc_two kA12 gm (fun k hk => by have := loA k hk; have := hiA k hk; omega) (fun k hk => by have := loB k hk; have := hiB k hk; omega)
    have kB13 := boxc_two kB12 gm (fun k hk => by have := loA k hk; have := hiA k hk; omega) (fun k hk => by have := loB k hk; have := hiB k hk; omega)
    have kW13 := boxc_two kW12 gm (fun k hk => by have := loA k hk; have := hiA k hk; omega) (fun k hk => by have := loB k hk; have := hiB k hk; omega)
    have p13 : Sl w13 _ _ := sl_old S0.out.1 p12 (by omega : w.heap.size ≤ L3) gm loA loB
    have q13 : Sl w13 _ _ := sl_old S0.out.2.1 q12 (by omega : w.heap.size ≤ L3) gm loA loB
    have u13 : Sl w13 _ _ := sl_old S0.out.2.2.1 u12 (by omega : w.heap.size ≤ L3) gm loA loB
    have v13 : Sl w13 _ _ := sl_old S0.out.2.2.2 v12 (by omega : w.heap.size ≤ L3) gm loA loB
    have sU13 : Sl w13 _ _ := sl_old SU.out.1 sU12 (by omega : w3.heap.size ≤ L3) gm loA loB
    have sV13 : Sl w13 _ _ := sl_old SU.out.2 sV12 (by omega : w3.heap.size ≤ L3) gm loA loB
    have kX13 := boxc_two kX12 gm (fun k hk => by have := loA k hk; have := hiA k hk; omega) (fun k hk => by have := loB k hk; have := hiB k hk; omega)
    have oY13 := own_new oY12 gm hiA hiB (by omega)
    have oV13 := own_new oV12 gm hiA hiB (by omega)
    have kY13 := boxc_two kY12 gm (fun k hk => by have := loA k hk; have := hiA k hk; omega) (fun k hk => by have := loB k hk; have := hiB k hk; omega)
    have oG13 := own_new oG12 gm hiA hiB (by omega)
    have oH13 := own_new oH12 gm hiA hiB (by omega)
    have kG13 := boxc_two kG12 gm (fun k hk => by have := loA k hk; have := hiA k hk; omega) (fun k hk => by have := loB k hk; have := hiB k hk; omega)
    have B13 := below_two B12 gm (Nat.le_refl _) (fun k hk => by have := loA k hk; omega) (fun k hk => by have := loB k hk; omega)
    clear kA12 kB12 kW12 p12 q12 u12 v12 sU12 sV12 kX12 oY12 oV12 kY12 oG12 oH12 kG12 B12 gm
    clear loA loB hiA hiB
    clear mk1 mk2
    obtain ⟨kYc0, kYc1, kYc2, _, kYcn⟩ := boxc3 kY13
    have loA : ∀ k, (some ⟨y1, 0, none⟩ : Option Addr).map (·.block) = some k → L5 ≤ k := fun k hk => by cases hk; exact jy1
    have loB : ∀ k, (some ⟨y2, 0, none⟩ : Option Addr).map (·.block) = some k → L5 ≤ k := fun k hk => by cases hk; exact jy2
    have hiA : ∀ k, (some ⟨y1, 0, none⟩ : Option Addr).map (·.block) = some k → k < bY := fun k hk => by cases hk; exact iy1
    have hiB : ∀ k, (some ⟨y2, 0, none⟩ : Option Addr).map (·.block) = some k → k < bY := fun k hk => by cases hk; exact iy2
    go_wp2_with fail
    refine Calls.mono (MK.out _ _ _ _ _ _ _ _ _ _ _ oY13 oV13 (fun i j hi hj => by cases hi; cases hj; exact hy12) lX' lY' (by omega) (by omega)) ?_
    rintro e w14 ⟨rfl, mk1, mk2, gm⟩
    clear kYc0 kYc1 kYc2
    clear oY13 oV13
    have kA14 := boxc_two kA13 gm (fun k hk => by have := loA k hk; have := hiA k hk; omega) (fun k hk => by have := loB k hk; have := hiB k hk; omega)
    have kB14 := boxc_two kB13 gm (fun k hk => by have := loA k hk; have := hiA k hk; omega) (fun k hk => by have := loB k hk; have := hiB k hk; omega)
    have kW14 := boxc_two kW13 gm (fun k hk => by have := loA k hk; have := hiA k hk; omega) (fun k hk => by have := loB k hk; have := hiB k hk; omega)
    have p14 : Sl w14 _ _ := sl_old S0.out.1 p13 (by omega : w.heap.size ≤ L5) gm loA loB
    have q14 : Sl w14 _ _ := sl_old S0.out.2.1 q13 (by omega : w.heap.size ≤ L5) gm loA loB
    have u14 : Sl w14 _ _ := sl_old S0.out.2.2.1 u13 (by omega : w.heap.size ≤ L5) gm loA loB
    have v14 : Sl w14 _ _ := sl_old S0.out.2.2.2 v13 (by omega : w.heap.size ≤ L5) gm loA loB
    have sU14 : Sl w14 _ _ := sl_old SU.out.1 sU13 (by omega : w3.heap.size ≤ L5) gm loA loB
    have sV14 : Sl w14 _ _ := sl_old SU.out.2 sV13 (by omega : w3.heap.size ≤ L5) gm loA loB
    have kX14 := boxc_two kX13 gm (fun k hk => by have := loA k hk; have := hiA k hk; omega) (fun k hk => by have := loB k hk; have := hiB k hk; omega)
    have kY14 := boxc_two kY13 gm (fun k hk => by have := loA k hk; have := hiA k hk; omega) (fun k hk => by have := loB k hk; have := hiB k hk; omega)
    have oG14 := own_new oG13 gm hiA hiB (by omega)
    have oH14 := own_new oH13 gm hiA hiB (by omega)
    have kG14 := boxc_two kG13 gm (fun k hk => by have := loA k hk; have := hiA k hk; omega) (fun k hk => by have := loB k hk; have := hiB k hk; omega)
    have B14 := below_two B13 gm (Nat.le_refl _) (fun k hk => by have := loA k hk; omega) (fun k hk => by have := loB k hk; omega)
    clear kA13 kB13 kW13 p13 q13 u13 v13 sU13 sV13 kX13 kY13 oG13 oH13 kG13 B13 gm
    clear loA loB hiA hiB
    clear mk1 mk2
    have hk9 : ¬ (1 : Int) + X.length + Y.length + X'.length + Y'.length < 0 := by omega
    obtain ⟨kGc0, kGc1, kGc2, _, kGcn⟩ := boxc3 kG14
    obtain ⟨kWc0, kWc1, kWc2, _, kWcn⟩ := boxc3 kW14
    go_wp2_with fail
    refine Calls.mono (EQ.out _ _ _ _ _ _ _ _ _ _ _ _ lA lA' oG14.sl oH14.sl sU14 sV14) ?_
    rintro e w15 ⟨rfl, bq⟩
    clear kGc0 kGc1 kGc2 kWc0 kWc1 kWc2
    have kA15 := boxc_keep kA14 bq
    have kB15 := boxc_keep kB14 bq
    have kW15 := boxc_keep kW14 bq
    have p15 := p14.keep bq
    have q15 := q14.keep bq
    have u15 := u14.keep bq
    have v15 := v14.keep bq
    have sU15 := sU14.keep bq
    have sV15 := sV14.keep bq
    have kX15 := boxc_keep kX14 bq
    have kY15 := boxc_keep kY14 bq
    have oG15 := oG14.keep bq
    have oH15 := oH14.keep bq
    have kG15 := boxc_keep kG14 bq
    have B15 := B14.trans (bq.mono B14.size)
    clear kA14 kB14 kW14 p14 q14 u14 v14 sU14 sV14 kX14 kY14 oG14 oH14 kG14 B14 bq
    obtain ⟨kGc0, kGc1, kGc2, _, kGcn⟩ := boxc3 kG15
    have loA : ∀ k, (rg : Option Addr).map (·.block) = some k → L7 ≤ k := jg1
    have loB : ∀ k, (sg' : Option Addr).map (·.block) = some k → L7 ≤ k := jg2
    have hiA : ∀ k, (rg : Option Addr).map (·.block) = some k → k < bg := ig1
    have hiB : ∀ k, (sg' : Option Addr).map (·.block) = some k → k < bg := ig2
    go_wp2_with fail
    refine Calls.mono (MK.out _ _ _ _ _ _ _ _ _ _ 1 oG15 oH15 APG.out lA lA' (by omega) (by omega)) ?_
    rintro e w16 ⟨rfl, mk1, mk2, gm⟩
    clear kGc0 kGc1 kGc2
    clear oG15 oH15
    have kA16 := boxc_two kA15 gm (fun k hk => by have := loA k hk; have := hiA k hk; omega) (fun k hk => by have := loB k hk; have := hiB k hk; omega)
    have kB16 := boxc_two kB15 gm (fun k hk => by have := loA k hk; have := hiA k hk; omega) (fun k hk => by have := loB k hk; have := hiB k hk; omega)
    have kW16 := boxc_two kW15 gm (fun k hk => by have := loA k hk; have := hiA k hk; omega) (fun k hk => by have := loB k hk; have := hiB k hk; omega)
    have p16 : Sl w16 _ _ := sl_old S0.out.1 p15 (by omega : w.heap.size ≤ L7) gm loA loB
    have q16 : Sl w16 _ _ := sl_old S0.out.2.1 q15 (by omega : w.heap.size ≤ L7) gm loA loB
    have u16 : Sl w16 _ _ := sl_old S0.out.2.2.1 u15 (by omega : w.heap.size ≤ L7) gm loA loB
    have v16 : Sl w16 _ _ := sl_old S0.out.2.2.2 v15 (by omega : w.heap.size ≤ L7) gm loA loB
    have sU16 : Sl w16 _ _ := sl_old SU.out.1 sU15 (by omega : w3.heap.size ≤ L7) gm loA loB
    have sV16 : Sl w16 _ _ := sl_old SU.out.2 sV15 (by omega : w3.heap.size ≤ L7) gm loA loB
    have kX16 := boxc_two kX15 gm (fun k hk => by have := loA k hk; have := hiA k hk; omega) (fun k hk => by have := loB k hk; have := hiB k hk; omega)
    have kY16 := boxc_two kY15 gm (fun k hk => by have := loA k hk; have := hiA k hk; omega) (fun k hk => by have := loB k hk; have := hiB k hk; omega)
    have kG16 := boxc_two kG15 gm (fun k hk => by have := loA k hk; have := hiA k hk; omega) (fun k hk => by have := loB k hk; have := hiB k hk; omega)
    have B16 := below_two B15 gm (Nat.le_refl _) (fun k hk => by have := loA k hk; omega) (fun k hk => by have := loB k hk; omega)
    clear kA15 kB15 kW15 p15 q15 u15 v15 sU15 sV15 kX15 kY15 kG15 B15 gm
    clear loA loB hiA hiB
    have mP16 := mk1.sl
    have mQ16 := mk2.sl
    clear mk1 mk2
    obtain ⟨kGc0, kGc1, kGc2, _, kGcn⟩ := boxc3 kG16
    have hkA : ¬ (1 : Int) + A.X.length + A.Y.length < 0 := by omega
    go_wp2_with fail
    refine Calls.mono (HD.out _ _ _ _ _ _ _ _ mP16 mQ16 lA lA') ?_
    rintro e w17 ⟨rfl, bq⟩
    clear kGc0 kGc1 kGc2
    have kA17 := boxc_keep kA16 bq
    have kB17 := boxc_keep kB16 bq
    have kW17 := boxc_keep kW16 bq
    have p17 := p16.keep bq
    have q17 := q16.keep bq
    have u17 := u16.keep bq
    have v17 := v16.keep bq
    have sU17 := sU16.keep bq
    have sV17 := sV16.keep bq
    have kX17 := boxc_keep kX16 bq
    have kY17 := boxc_keep kY16 bq
    have kG17 := boxc_keep kG16 bq
    have mP17 := mP16.keep bq
    have mQ17 := mQ16.keep bq
    have B17 := B16.trans (bq.mono B16.size)
    clear kA16 kB16 kW16 p16 q16 u16 v16 sU16 sV16 kX16 kY16 kG16 mP16 mQ16 B16 bq
    have KA : Hid _ := kA17
    have KB : Hid _ := kB17
    have SA : Hid (Sl w17 a0 X ∧ Sl w17 a1 Y ∧ Sl w17 a2 X' ∧ Sl w17 a3 Y') := ⟨p17, q17, u17, v17⟩
    have HW : Hid (Hdl w17) := Hdl.keep HH.out B17 (Hdl.pos HH.out)
    have z2' : w.heap.size + 1 < w17.heap.size := boxc_lt KB.out
    clear kA17 kB17 p17 q17 u17 v17
    go_upto_region 31 with fail
    go_cut [15, 16] from 94 to 102 (fun v u wx => ∃ g r c s d, v = .pointer (some ⟨g, 0, none⟩) ∧ u = .bool A.ok ∧ BoxC wx g 26 #[.bool A.b, .slice r A.X.length c, .slice s A.Y.length d] ∧ Sl wx r A.X ∧ Sl wx s A.Y ∧ w17.heap.size ≤ g ∧ Below w17.heap.size w17 wx)
    case first =>
      obtain ⟨p0, p1, p2, _, n1⟩ := boxc3 KA.out
      obtain ⟨q0, q1, q2, _, n2⟩ := boxc3 KB.out
      have p0d : w17.drew.cell? ⟨w.heap.size, 0, none⟩ = some (.bool b) := p0
      have p1d : w17.drew.cell? ⟨w.heap.size, 1, none⟩ = some (.slice a0 X.length c0) := p1
      have p2d : w17.drew.cell? ⟨w.heap.size, 2, none⟩ = some (.slice a1 Y.length c1) := p2
      have q0d : w17.drew.cell? ⟨w.heap.size + 1, 0, none⟩ = some (.bool b') := q0
      have q1d : w17.drew.cell? ⟨w.heap.size + 1, 1, none⟩ = some (.slice a2 X'.length c2) := q1
      have q2d : w17.drew.cell? ⟨w.heap.size + 1, 2, none⟩ = some (.slice a3 Y'.length c3) := q2
      have bA : Below w17.heap.size w17 (w17.alloc (.cells #[.bool false, .slice none 0 0, .slice none 0 0] 26)).drew := ((Below.refl _ w17).alloc (Nat.le_refl _) _).drew
      have bD : Below w17.heap.size w17 w17.drew := (Below.refl _ w17).drew
      clear p0 p1 p2 q0 q1 q2
      go_region_held3 (fun w' => w'.cell? ⟨w.heap.size, 0, none⟩ = some (.bool b) ∧ w'.cell? ⟨w.heap.size, 1, none⟩ = some (.slice a0 X.length c0) ∧ w'.cell? ⟨w.heap.size, 2, none⟩ = some (.slice a1 Y.length c1) ∧ w'.cell? ⟨w.heap.size + 1, 0, none⟩ = some (.bool b') ∧ w'.cell? ⟨w.heap.size + 1, 1, none⟩ = some (.slice a2 X'.length c2) ∧ w'.cell? ⟨w.heap.size + 1, 2, none⟩ = some (.slice a3 Y'.length c3))
        (first
          | (with_reducible exact ⟨p0d, p1d, p2d, q0d, q1d, q2d⟩)
          | (go_split_ands; refine ⟨?_, ?_, ?_, ?_, ?_, ?_⟩ <;> first
            | (with_reducible exact keep_set3 (by assumption) (by omega) _ _ _)
            | (with_reducible exact cell_big bT (by omega) (by assumption))
            | (with_reducible exact cell_big bS (by omega) (by assumption))
            | (with_reducible exact cell_big bR (by omega) (by assumption))
            | (with_reducible exact cell_big bA (by omega) (by assumption))
            | (with_reducible exact cell_new bT (by omega) (by assumption))
            | (with_reducible exact cell_new bS (by omega) (by assumption))
            | (with_reducible exact cell_new bR (by omega) (by assumption))))
        (first
          | (go_at_call_of 11 (Value.agg #[Value.bool b, Value.slice a0 X.length c0, Value.slice a1 Y.length c1]); first
            | ((with_reducible refine Calls.mono (TA.out w17.drew ?_ ?_) ?_); (exact SA.out.1); (exact SA.out.2.1); rintro e wr ⟨ga, gb, rfl, oa, ob, _, br⟩; have bR : Below w17.heap.size w17 wr := below_un2 br; have zR : w17.heap.size ≤ wr.heap.size := bR.size)
            | ((with_reducible refine Calls.mono (TA.out (w17.alloc (.cells #[.bool false, .slice none 0 0, .slice none 0 0] 26)).drew ?_ ?_) ?_); (exact Sl.keep SA.out.1 bA); (exact Sl.keep SA.out.2.1 bA); rintro e wr ⟨ga, gb, rfl, oa, ob, _, br⟩; have bR : Below w17.heap.size w17 wr := bA.trans (br.mono bA.size); have zR : w17.heap.size ≤ wr.heap.size := bR.size; have kz := boxc_keep (boxc_new w17 26 #[.bool false, .slice none 0 0, .slice none 0 0]) (below_un2 br)))
          | (go_at_call_of 11 (Value.agg #[Value.bool b', Value.slice a2 X'.length c2, Value.slice a3 Y'.length c3]); first
            | ((with_reducible refine Calls.mono (TB.out wr ?_ ?_) ?_); (exact Sl.keep SA.out.2.2.1 bR); (exact Sl.keep SA.out.2.2.2 bR); rintro e ws ⟨gc, gd, rfl, oc, od, _, bs⟩; have bS : Below w17.heap.size w17 ws := bR.trans (bs.mono bR.size); have zS : wr.heap.size ≤ ws.heap.size := bs.size; have ua := (oa.keep bs).sl; have ub := (ob.keep bs).sl; try (have kz := boxc_keep kz bs))
            | ((with_reducible refine Calls.mono (TB.out (wr.alloc (.cells #[.bool false, .slice none 0 0, .slice none 0 0] 26)) ?_ ?_) ?_); (exact (Sl.keep SA.out.2.2.1 bR).keep ((Below.refl _ wr).alloc (Nat.le_refl _) _)); (exact (Sl.keep SA.out.2.2.2 bR).keep ((Below.refl _ wr).alloc (Nat.le_refl _) _)); rintro e ws ⟨gc, gd, rfl, oc, od, _, bs⟩; have bs2 : Below wr.heap.size wr ws := ((Below.refl _ wr).alloc (Nat.le_refl _) _).trans (bs.mono (by simp)); have bS : Below w17.heap.size w17 ws := bR.trans (bs2.mono bR.size); have zS : wr.heap.size ≤ ws.heap.size := bs2.size; have ua := (oa.keep bs2).sl; have ub := (ob.keep bs2).sl; have kz := boxc_keep (boxc_new wr 26 #[.bool false, .slice none 0 0, .slice none 0 0]) bs))
          | (go_at_call 19; first
            | ((with_reducible refine Calls.mono (CI.out ws _ _ _ _ ?_ ?_ ?_ ?_ ?_) ?_); (exact Hdl.keep HW.out bS (Hdl.pos HW.out)); (exact ua); (exact ub); (exact oc.sl); (exact od.sl); rintro e wt ⟨rt, ct, st, dt, rfl, ot, ot2, _, bt⟩; have bT : Below w17.heap.size w17 wt := bS.trans (bt.mono bS.size); have zT : ws.heap.size ≤ wt.heap.size := bt.size; try (have hz := boxc_lt kz; have kz := boxc_keep kz bt); try (obtain ⟨d0, d1, d2, df, dn⟩ := boxc3 kz))
            | ((with_reducible refine Calls.mono (CI.out (ws.alloc (.cells #[.bool false, .slice none 0 0, .slice none 0 0] 26)) _ _ _ _ ?_ ?_ ?_ ?_ ?_) ?_); (exact Hdl.keep HW.out (bS.alloc bS.size _) (Hdl.pos HW.out)); (exact ua.keep ((Below.refl _ ws).alloc (Nat.le_refl _) _)); (exact ub.keep ((Below.refl _ ws).alloc (Nat.le_refl _) _)); (exact oc.sl.keep ((Below.refl _ ws).alloc (Nat.le_refl _) _)); (exact od.sl.keep ((Below.refl _ ws).alloc (Nat.le_refl _) _)); rintro e wt ⟨rt, ct, st, dt, rfl, ot, ot2, _, bt⟩; have bt2 : Below ws.heap.size ws wt := ((Below.refl _ ws).alloc (Nat.le_refl _) _).trans (bt.mono (by simp)); have bT : Below w17.heap.size w17 wt := bS.trans (bt2.mono bS.size); have zT : ws.heap.size ≤ wt.heap.size := bt2.size; have hz : ws.heap.size < (ws.alloc (.cells #[.bool false, .slice none 0 0, .slice none 0 0] 26)).heap.size := (by simp); have kz := boxc_keep (boxc_new ws 26 #[.bool false, .slice none 0 0, .slice none 0 0]) bt; obtain ⟨d0, d1, d2, df, dn⟩ := boxc3 kz)))
      all_goals
        go_wp2_with fail
        go_meet
        first
          | exact ⟨_, _, _, _, _, rfl, rfl, boxc_set2 (boxc_set1 (boxc_set0 kz _) _) _, (own_far ot (gr_set3 _ _ _ _ _) hz).sl, (own_far ot2 (gr_set3 _ _ _ _ _) hz).sl, by omega, below_set3 bT (by omega) _ _ _⟩
          | exact ⟨_, _, _, _, _, rfl, rfl, boxc_new _ _ _, ot.sl.keep ((Below.refl _ wt).alloc (Nat.le_refl _) _), ot2.sl.keep ((Below.refl _ wt).alloc (Nat.le_refl _) _), bT.size, bT.alloc bT.size _⟩
    case rest =>
      obtain ⟨gh, rh, ch, sh, dh, rfl, rfl, kH, sH, sI, _, bq⟩ := hcut
      obtain ⟨w18, hw18⟩ : ∃ w18, w18 = wc := ⟨_, rfl⟩
      subst hw18
      have kW18 := boxc_keep kW17 bq
      have sU18 := sU17.keep bq
      have sV18 := sV17.keep bq
      have kX18 := boxc_keep kX17 bq
      have kY18 := boxc_keep kY17 bq
      have kG18 := boxc_keep kG17 bq
      have mP18 := mP17.keep bq
      have mQ18 := mQ17.keep bq
      have B18 := B17.trans (bq.mono B17.size)
      clear kW17 sU17 sV17 kX17 kY17 kG17 mP17 mQ17 B17 bq
      have kH18 := kH
      have sH18 := sH
      have sI18 := sI
      clear kH sH sI
      obtain ⟨kHc0, kHc1, kHc2, _, kHcn⟩ := boxc3 kH18
      obtain ⟨kWc0, kWc1, kWc2, _, kWcn⟩ := boxc3 kW18
      go_wp2_with fail
      refine Calls.mono (EQ.out _ _ _ _ _ _ _ _ _ _ _ _ lA lA' sH18 sI18 sU18 sV18) ?_
      rintro e w19 ⟨rfl, bq⟩
      clear kHc0 kHc1 kHc2 kWc0 kWc1 kWc2
      have kW19 := boxc_keep kW18 bq
      have sU19 := sU18.keep bq
      have sV19 := sV18.keep bq
      have kX19 := boxc_keep kX18 bq
      have kY19 := boxc_keep kY18 bq
      have kG19 := boxc_keep kG18 bq
      have mP19 := mP18.keep bq
      have mQ19 := mQ18.keep bq
      have kH19 := boxc_keep kH18 bq
      have sH19 := sH18.keep bq
      have sI19 := sI18.keep bq
      have B19 := B18.trans (bq.mono B18.size)
      clear kW18 sU18 sV18 kX18 kY18 kG18 mP18 mQ18 kH18 sH18 sI18 B18 bq
      obtain ⟨kGc0, kGc1, kGc2, _, kGcn⟩ := boxc3 kG19
      go_wp2_with fail
      refine Calls.mono (HD.out _ _ _ _ _ _ _ _ mP19 mQ19 lA lA') ?_
      rintro e w20 ⟨rfl, bq⟩
      have BB := B19.trans (bq.mono B19.size)
      go_wp2
      go_ret
      exact ⟨rfl, BB⟩

set_option maxRecDepth 100000 in
theorem lifted (os : Os) (started : os.Started) (H : Type) (enc : TypeId × Value → H) :
    ReturnsInHanded {} Tryd.checked os 5 .any (fun w args => (Rows.fnExactFracDivSpec.pre enc Tryd.prog Tryd.f5 [] false w args ∧ laidMetH Tryd.prog laidL w) ∧ sizedMet enc Tryd.prog Tryd.f5 (OpenSpec.ofChange Rows.fnExactFracDivSpec) false w args)
      (Rows.fnExactFracDivSpec.post enc Tryd.prog Tryd.f5 false true false false) := by
  refine returnsInHanded_of_change_and (C := Tryd.checked) (X := fun w _ => laidMetH Tryd.prog laidL w) (fun _ _ _ hh h => h.of_heap hh) ownK started (by kernel_rfl) Tryd.func5
    (ChangeSpec.witness_at (enc := enc) (C := Tryd.checked) (os := os) (X := fun w _ => laidMetH Tryd.prog laidL w) false { World.holding Tryd.prog os ⟨#[], #[], []⟩ with heap := (World.holding Tryd.prog os ⟨#[], #[], []⟩).heap.modify 0 fun | .cells _ t frozen => .cells #[.iface 108 (.agg #[.pointer (some ⟨1, 47, none⟩)])] t frozen | o => o } #[.agg #[.bool false, .slice none 0 0, .slice none 0 0], .agg #[.bool false, .slice none 0 0, .slice none 0 0]] 8 rfl (by kernel_rfl) (by kernel_rfl) (by kernel_rfl) (by kernel_rfl) (by kernel_rfl) (laidMetH_of_parts (laidMet_nil _ _) (by kernel_rfl))) ?_
  intro W base args ds gs before hval0 hW _ _ hL _
  have hval : ∀ (j : Nat) t v, Tryd.f5.params[j]? = some t → args[j]? = some v → Value.okWide Tryd.prog W .any base t v := hval0
  have hW' := hW
  obtain ⟨p, q, hA0, hV0, rfl, hfz, hnd⟩ := hW
  have hA : DataW.TrodAll enc Tryd.prog W 0 (fun _ => true) true Tryd.f5.params.toList args.toList ds p := hA0
  have hV : DataW.TrodVars enc Tryd.prog W (fun _ => true) [] gs q := hV0
  rw [Tryd.params5] at hA hval
  obtain ⟨v0, vs0, d0, ds0, p0, q0, hargs, rfl, rfl, h0, r0⟩ := trodAll_cons hA
  obtain ⟨v1, vs1, d1, ds1, p1, q1, rfl, rfl, rfl, h1, r1⟩ := trodAll_cons r0
  obtain ⟨rfl, rfl, rfl⟩ := trodAll_nil r1
  obtain rfl : args = #[v0, v1] := by cases args; simp_all
  obtain ⟨rfl, rfl⟩ := trodVars_none hV
  obtain ⟨cs0, rfl, hcs0⟩ := okWide_struct Tryd.underlying24 (hval 0 24 v0 rfl rfl)
  have k0 := h0
  have lt0 : ∀ x ∈ p0, x.block < W.heap.size := by obtain ⟨m, hm⟩ := k0; exact DataW.trod_lt m _ _ _ hm
  obtain ⟨b0, aa0, la0, ca0, za0, ab0, lb0, cb0, zb0, rfl, wa0, wb0, ha0, hb0⟩ := frac_open hcs0 h0
  obtain ⟨sa0, ea0⟩ := isRow_sl wa0
  obtain ⟨sb0, eb0⟩ := isRow_sl wb0
  obtain ⟨cs1, rfl, hcs1⟩ := okWide_struct Tryd.underlying24 (hval 1 24 v1 rfl rfl)
  have k1 := h1
  have lt1 : ∀ x ∈ p1, x.block < W.heap.size := by obtain ⟨m, hm⟩ := k1; exact DataW.trod_lt m _ _ _ hm
  obtain ⟨b1, aa1, la1, ca1, za1, ab1, lb1, cb1, zb1, rfl, wa1, wb1, ha1, hb1⟩ := frac_open hcs1 h1
  obtain ⟨sa1, ea1⟩ := isRow_sl wa1
  obtain ⟨sb1, eb1⟩ := isRow_sl wb1
  clear hA0 hval0 hval hA hV hV0
  have hh := hdl_of_laid hL
  have hw := walk b0 aa0 ca0 (za0.take la0) ab0 cb0 (zb0.take lb0) b1 aa1 ca1 (za1.take la1) ab1 cb1 (zb1.take lb1) W hh sa0 sb0 sa1 sb1 (by rw [ea0]; exact Nat.le_trans ha0 (by simp [maxLen])) (by rw [eb0]; exact Nat.le_trans hb0 (by simp [maxLen])) (by rw [ea1]; exact Nat.le_trans ha1 (by simp [maxLen])) (by rw [eb1]; exact Nat.le_trans hb1 (by simp [maxLen]))
  rw [ea0, eb0, ea1, eb1] at hw
  refine hw.mono fun e W' ⟨he, bel⟩ => ?_
  subst he
  exact ⟨_, rfl, _, _, _, [], _, [], hW', trodAll_mk1 (shut_bool Tryd.underlying4 _), (trodAll_cons_mk (Below.trod laidOutK (by kernel_rfl) (of_decide_eq_true (by kernel_rfl)) k0 bel lt0) (trodAll_cons_mk (Below.trod laidOutK (by kernel_rfl) (of_decide_eq_true (by kernel_rfl)) k1 bel lt1) trodAll_mk0)), rfl, bel.frame _, fun h => by cases h⟩

theorem over : Rows.fnExactFracDivRow.holds Tryd.pinned (OpenSpec.ofChange Rows.fnExactFracDivSpec) :=
  OpenClaim.holds_of_wide 5 Tryd.f5 rfl rfl rfl rfl rfl rfl rfl ⟨rfl, rfl, rfl, rfl, rfl⟩ rfl rfl rfl rfl rfl (by kernel_rfl) Tryd.func5 (by kernel_rfl)
    (of_decide_eq_true (by kernel_rfl)) (by unfold Func.isWrapper; first | (rw [if_pos (by decide +kernel)]; kernel_rfl) | (rw [if_neg (by decide +kernel)]; exact ⟨rfl, rfl⟩))
    (fun os started H enc _ => lifted os started H enc)

theorem card : Rows.FnExactFracDivCardSaid :=
  Claim7.holds_tied_plain_at .later [] [.handle] true Rows.fnExactFracDivCard.stood.harness true
    over (fun _ h => by cases h) (by kernel_rfl) (fun _ h => by cases h) fnExactFracDiv_row_tie rfl ⟨rfl, rfl⟩ (by kernel_rfl) rfl
    (fun f fn hf hfn => by
      obtain rfl : f = 5 := Option.some.inj ((show Tryd.prog.funcNamed Rows.fnExactFracDivRow.func = some 5 by kernel_rfl).symm.trans hf) |>.symm
      obtain rfl : fn = Tryd.f5 := (Option.some.inj (Tryd.func5.symm.trans hfn)).symm
      exact ⟨by kernel_rfl, fun j t ht => by
        rw [Tryd.params5] at ht
        have h3 : t = 24 := by
          rcases j with _ | j
          · simp at ht; subst ht; simp
          rcases j with _ | j
          · simp at ht; subst ht; simp
          simp at ht
        rcases h3 with rfl
        · exact (show Tryd.prog.wantsStandIn 24 = false by kernel_rfl)
      ⟩)
    (by kernel_rfl)
end fnExactFracDiv
theorem fnExactFracDiv_holds : Rows.FnExactFracDivCardSaid := fnExactFracDiv.card
#print axioms fnExactFracDiv_holds
end Go.Proofs.YthokphoojmpajagDoor
