/- For every two slices of bytes the law FnFracOrder returns true and leaves its arguments as they were; no condition beyond the row's own (the listed variable, tied by the card). -/
import Derived.Test.YthokphoojmpajabDoorCards
import Derived.Test.YthokphoojmpajabDoorTie
import Derived.Test.YthokphoojmpajabDoorFracOpen
import Derived.Test.YthokphoojmpajabDoorLaid
import Derived.Test.YthokphoojmpajabDoorDrawFracs
import Derived.Test.YthokphoojmpajabDoorPwFrac
import Derived.Test.YthokphoojmpajabDoorOrdNum
import Derived.ChangeVars
import Derived.ChangeSame
import Derived.LaidHandle
import Derived.SevenTiedAt
import Derived.OpenShut
import Derived.Deep.Cut
namespace Go.Proofs.YthokphoojmpajabDoor
namespace fnFracOrder
open Go.ChangeShapes Go.WideShapes Go.ChangeAt Go.RowKit Go.Proofs.Pin

set_option maxRecDepth 100000 in
set_option maxHeartbeats 16000000 in
theorem walk (a0 : Option Addr) (len0 cap0 : Nat) (z0 : List Int) (a1 : Option Addr) (len1 cap1 : Nat) (z1 : List Int) (w : World) (hh : Hdl w) (w0 : IsRow .u8 w a0 len0 cap0 z0) (w1 : IsRow .u8 w a1 len1 cap1 z1) :
    Calls Tryd.prog 4 #[.slice a0 len0 cap0, .slice a1 len1 cap1] w fun e w' => e = .returned (.bool true) ∧ Below w.heap.size w w' := by
  obtain ⟨h1, h2, h3, h4⟩ := isRow_u8b w0
  obtain ⟨k1, k2, k3, k4⟩ := isRow_u8b w1
  clear w0 w1
  by_cases hb0 : (1048576 : Int) < (len0 : Int)
  · go_enter Tryd.func4, Tryd.ntmps4
    go_wp2
    go_ret
    exact ⟨rfl, Below.refl _ _⟩
  by_cases hb1 : (1048576 : Int) < (len1 : Int)
  · go_enter Tryd.func4, Tryd.ntmps4
    go_wp2
    go_ret
    exact ⟨rfl, Below.refl _ _⟩
  have C0 : Hid _ := drawFracCmp_any a0 len0 cap0 _ w h1 h2 h3 (by omega) h4
  have C1 : Hid (∀ w1, Below w.heap.size w w1 → Calls Tryd.prog 5 #[.slice a1 len1 cap1] w1 fun e w' => ∃ f r cr X s cs Y, e = .returned (fracV f r X.length cr s Y.length cs) ∧ OwnI w' w1.heap.size r cr X ∧ OwnI w' w1.heap.size s cs Y ∧ fokB f X Y = true ∧ X.length ≤ 256 ∧ Y.length ≤ 256 ∧ Below w1.heap.size w1 w') := fun w1 hB => goodFrac_any a1 len1 cap1 _ w1 (by
      rcases k1 with h0 | ⟨b, off, he, hlt, hc⟩
      · exact .inl h0
      · exact .inr ⟨b, off, he, Nat.lt_of_lt_of_le hlt hB.size, fun i hi => (hB.cell (p := ⟨b, off + i, none⟩) hlt).trans (hc i hi)⟩) k2 k3 (by omega) k4
  have hl0 : (len0 : Int) ≤ 1048576 := by omega
  have hl1 : (len1 : Int) ≤ 1048576 := by omega
  have HH : Hid (Hdl w) := hh
  unfold TwoRet FrO at C0
  unfold fracV at C0 C1
  clear h1 h2 h3 h4 k1 k2 k3 k4 hh
  go_enter Tryd.func4, Tryd.ntmps4
  go_wp2_with fail
  refine Calls.mono C0.out ?_
  rintro e w1 ⟨f, r, cr, X, s, cs, Y, f', r', cr', X', s', cs', Y', rfl, ⟨oX, oY, lX, lY⟩, ⟨oX', oY', lX', lY'⟩, B1⟩
  clear C0
  have cX := own_cap oX
  have cY := own_cap oY
  have cX' := own_cap oX'
  have cY' := own_cap oY'
  have pA1 := oX.sl
  have qA1 := oY.sl
  have pB1 := oX'.sl
  have qB1 := oY'.sl
  obtain ⟨w2, hw2⟩ : ∃ w2, w2 = (w1.alloc (.cells #[.bool f, .slice r X.length cr, .slice s Y.length cs] 25)).alloc (.cells #[.bool f', .slice r' X'.length cr', .slice s' Y'.length cs'] 25) := ⟨_, rfl⟩
  obtain ⟨ga, hga⟩ : ∃ ga, ga = w1.heap.size := ⟨_, rfl⟩
  have b2 : Below w1.heap.size w1 w2 := by rw [hw2]; exact ((Below.refl _ w1).alloc (Nat.le_refl _) _).alloc (by simp) _
  have kA2 : BoxC w2 ga 25 #[.bool f, .slice r X.length cr, .slice s Y.length cs] := by rw [hw2, hga]; exact boxc_alloc (boxc_new _ _ _) _
  have kB2 : BoxC w2 (ga + 1) 25 #[.bool f', .slice r' X'.length cr', .slice s' Y'.length cs'] := by
    rw [hw2, hga]
    have h := boxc_new (w1.alloc (.cells #[.bool f, .slice r X.length cr, .slice s Y.length cs] 25)) 25 #[.bool f', .slice r' X'.length cr', .slice s' Y'.length cs']
    rw [World.size_alloc] at h
    exact h
  clear oX oY oX' oY'
  have pA2 := pA1.keep b2
  have qA2 := qA1.keep b2
  have pB2 := pB1.keep b2
  have qB2 := qB1.keep b2
  have B2 := B1.trans (b2.mono B1.size)
  clear pA1 qA1 pB1 qB1 B1 b2
  go_upto_region 4 with fail
  rw [← hw2, ← hga]
  clear hw2 hga
  go_wp2_with fail
  refine Calls.mono (C1.out _ B2) ?_
  rintro e w3 ⟨f3, r3, c3, X3, s3, d3, Y3, rfl, oX3, oY3, _, lX3, lY3, b3⟩
  clear C1
  have cX3 := own_cap oX3
  have cY3 := own_cap oY3
  have pC3 := oX3.sl
  have qC3 := oY3.sl
  clear oX3 oY3
  have pA3 := pA2.keep b3
  have qA3 := qA2.keep b3
  have pB3 := pB2.keep b3
  have qB3 := qB2.keep b3
  have kA3 := boxc_keep kA2 b3
  have kB3 := boxc_keep kB2 b3
  have B3 := B2.trans (b3.mono B2.size)
  clear pA2 qA2 pB2 qB2 kA2 kB2 B2 b3
  obtain ⟨w4, hw4⟩ : ∃ w4, w4 = w3.alloc (.cells #[.bool f3, .slice r3 X3.length c3, .slice s3 Y3.length d3] 25) := ⟨_, rfl⟩
  obtain ⟨gc, hgc⟩ : ∃ gc, gc = w3.heap.size := ⟨_, rfl⟩
  have b4 : Below w3.heap.size w3 w4 := by rw [hw4]; exact (Below.refl _ w3).alloc (Nat.le_refl _) _
  have kC4 : BoxC w4 gc 25 #[.bool f3, .slice r3 X3.length c3, .slice s3 Y3.length d3] := by rw [hw4, hgc]; exact boxc_new _ _ _
  have pA4 := pA3.keep b4
  have qA4 := qA3.keep b4
  have pB4 := pB3.keep b4
  have qB4 := qB3.keep b4
  have kA4 := boxc_keep kA3 b4
  have kB4 := boxc_keep kB3 b4
  have pC4 := pC3.keep b4
  have qC4 := qC3.keep b4
  have B4 := B3.trans (b4.mono B3.size)
  clear pA3 qA3 pB3 qB3 kA3 kB3 pC3 qC3 B3 b4
  go_upto_region 5 with fail
  rw [← hw4, ← hgc]
  clear hw4 hgc
  have CAB : Hid (∀ W, Hdl W → Sl W r X → Sl W s Y → Sl W r' X' → Sl W s' Y' → Calls Tryd.prog 12 #[fracV f r X.length cr s Y.length cs, fracV f' r' X'.length cr' s' Y'.length cs'] W fun e w' => e = .returned (.int .i64 (cmA f X Y f' X' Y')) ∧ Below W.heap.size W w') := fun W h0 h1 h2 h3 h4 => implCmp_any f r s cr cs X Y f' r' s' cr' cs' X' Y' W h0 h1 h2 h3 h4 (by omega) (by omega) cX cY (by omega) (by omega) cX' cY'
  have SAB : Hid (∀ W, Sl W r X → Sl W s Y → Sl W r' X' → Sl W s' Y' → Calls Tryd.prog 13 #[fracV f r X.length cr s Y.length cs, fracV f' r' X'.length cr' s' Y'.length cs'] W fun e w' => e = .returned (.int .i64 (cmA f X Y f' X' Y')) ∧ Below W.heap.size W w') := fun W h1 h2 h3 h4 => specCmp_any f r s cr cs X Y f' r' s' cr' cs' X' Y' W h1 h2 h3 h4 (by omega) (by omega) (by omega) (by omega)
  have CBA : Hid (∀ W, Hdl W → Sl W r' X' → Sl W s' Y' → Sl W r X → Sl W s Y → Calls Tryd.prog 12 #[fracV f' r' X'.length cr' s' Y'.length cs', fracV f r X.length cr s Y.length cs] W fun e w' => e = .returned (.int .i64 (cmA f' X' Y' f X Y)) ∧ Below W.heap.size W w') := fun W h0 h1 h2 h3 h4 => implCmp_any f' r' s' cr' cs' X' Y' f r s cr cs X Y W h0 h1 h2 h3 h4 (by omega) (by omega) cX' cY' (by omega) (by omega) cX cY
  have CBC : Hid (∀ W, Hdl W → Sl W r' X' → Sl W s' Y' → Sl W r3 X3 → Sl W s3 Y3 → Calls Tryd.prog 12 #[fracV f' r' X'.length cr' s' Y'.length cs', fracV f3 r3 X3.length c3 s3 Y3.length d3] W fun e w' => e = .returned (.int .i64 (cmA f' X' Y' f3 X3 Y3)) ∧ Below W.heap.size W w') := fun W h0 h1 h2 h3 h4 => implCmp_any f' r' s' cr' cs' X' Y' f3 r3 s3 c3 d3 X3 Y3 W h0 h1 h2 h3 h4 (by omega) (by omega) cX' cY' (by omega) (by omega) cX3 cY3
  have CAC : Hid (∀ W, Hdl W → Sl W r X → Sl W s Y → Sl W r3 X3 → Sl W s3 Y3 → Calls Tryd.prog 12 #[fracV f r X.length cr s Y.length cs, fracV f3 r3 X3.length c3 s3 Y3.length d3] W fun e w' => e = .returned (.int .i64 (cmA f X Y f3 X3 Y3)) ∧ Below W.heap.size W w') := fun W h0 h1 h2 h3 h4 => implCmp_any f r s cr cs X Y f3 r3 s3 c3 d3 X3 Y3 W h0 h1 h2 h3 h4 (by omega) (by omega) cX cY (by omega) (by omega) cX3 cY3
  have KA : Hid (∀ W, Sl W r X → Sl W s Y → Calls Tryd.prog 14 #[fracV f r X.length cr s Y.length cs] W fun e w' => e = .returned (.bool (fokB f X Y)) ∧ Below W.heap.size W w') := fun W h1 h2 => specFok_any f r s cr cs X Y W h1 h2 (by omega) (by omega)
  have KB : Hid (∀ W, Sl W r' X' → Sl W s' Y' → Calls Tryd.prog 14 #[fracV f' r' X'.length cr' s' Y'.length cs'] W fun e w' => e = .returned (.bool (fokB f' X' Y')) ∧ Below W.heap.size W w') := fun W h1 h2 => specFok_any f' r' s' cr' cs' X' Y' W h1 h2 (by omega) (by omega)
  have SB : Hid (∀ W, Hdl W → Sl W r X → Sl W s Y → Sl W r' X' → Sl W s' Y' → Calls Tryd.prog 15 #[fracV f r X.length cr s Y.length cs, fracV f' r' X'.length cr' s' Y'.length cs'] W fun e w' => RetF W e w' (op2A subA f X Y f' X' Y')) := fun W h0 h1 h2 h3 h4 => implSub_any f r s cr cs X Y f' r' s' cr' cs' X' Y' W h0 h1 h2 h3 h4 (by omega) (by omega) cX cY (by omega) (by omega) cX' cY'
  have hDl := subA_len f X Y f' X' Y'
  have OF := order_facts f X Y f' X' Y' f3 X3 Y3
  obtain ⟨m, hm⟩ : ∃ m, m = cmA f X Y f' X' Y' := ⟨_, rfl⟩
  obtain ⟨m2, hm2⟩ : ∃ m2, m2 = cmA f' X' Y' f X Y := ⟨_, rfl⟩
  obtain ⟨n1, hn1⟩ : ∃ n1, n1 = cmA f' X' Y' f3 X3 Y3 := ⟨_, rfl⟩
  obtain ⟨n2, hn2⟩ : ∃ n2, n2 = cmA f X Y f3 X3 Y3 := ⟨_, rfl⟩
  obtain ⟨D, hD⟩ : ∃ D, D = op2A subA f X Y f' X' Y' := ⟨_, rfl⟩
  obtain ⟨oA, hoA⟩ : ∃ oA, oA = fokB f X Y := ⟨_, rfl⟩
  obtain ⟨oB, hoB⟩ : ∃ oB, oB = fokB f' X' Y' := ⟨_, rfl⟩
  rw [← hm] at CAB SAB OF
  rw [← hm2] at CBA OF
  rw [← hn1] at CBC OF
  rw [← hn2] at CAC OF
  rw [← hD] at SB OF hDl
  rw [← hoA] at KA OF
  rw [← hoB] at KB OF
  have SG : Hid (∀ W rd sd cd dd, Hdl W → Sl W rd D.X → Sl W sd D.Y → D.X.length ≤ cd → D.Y.length ≤ dd → Calls Tryd.prog 16 #[fracV D.b rd D.X.length cd sd D.Y.length dd] W fun e w' => e = .returned (.int .i64 (sgA D.b D.X D.Y)) ∧ Below W.heap.size W w') := fun W rd sd cd dd h0 h1 h2 h3 h4 => implSign_any D.b rd sd cd dd D.X D.Y W h0 h1 h2 (by omega) (by omega) h3 h4
  obtain ⟨sd0, hsd0⟩ : ∃ sd0, sd0 = sgA D.b D.X D.Y := ⟨_, rfl⟩
  rw [← hsd0] at SG OF
  have PW : Hid (f = f' ∧ X = X' ∧ Y = Y' → ∀ W, Sl W r X → Sl W s Y → Sl W r' X' → Sl W s' Y' → Calls Tryd.prog 10 #[fracV f r X.length cr s Y.length cs, fracV f' r' X'.length cr' s' Y'.length cs'] W fun e w' => e = .returned (.bool true) ∧ Below W.heap.size W w') := by
    rintro ⟨rfl, rfl, rfl⟩ W h1 h2 h3 h4
    exact pwFrac_any f r s r' s' cr cs cr' cs' X Y W h1 h2 h3 h4 (by omega) (by omega)
  unfold RetF at SB
  unfold fracV at CAB SAB CBA CBC CAC KA KB SB SG PW
  have HOF : Hid _ := OF
  clear OF hm hm2 hn1 hn2 hD hoA hoB hsd0 hDl cX cY cX' cY' cX3 cY3
  have hd4 := Hdl.keep HH.out B4 (Hdl.pos HH.out)
  obtain ⟨kAc0, kAc1, kAc2, _, kAcn⟩ := boxc3 kA4
  obtain ⟨kBc0, kBc1, kBc2, _, kBcn⟩ := boxc3 kB4
  go_wp2_with fail
  refine Calls.mono (CAB.out _ hd4 pA4 qA4 pB4 qB4) ?_
  rintro e w5 ⟨rfl, bq⟩
  clear kAc0 kAc1 kAc2 kBc0 kBc1 kBc2
  clear hd4
  have pA5 := pA4.keep bq
  have qA5 := qA4.keep bq
  have pB5 := pB4.keep bq
  have qB5 := qB4.keep bq
  have kA5 := boxc_keep kA4 bq
  have kB5 := boxc_keep kB4 bq
  have pC5 := pC4.keep bq
  have qC5 := qC4.keep bq
  have kC5 := boxc_keep kC4 bq
  have B5 := B4.trans (bq.mono B4.size)
  clear pA4 qA4 pB4 qB4 kA4 kB4 pC4 qC4 kC4 B4 bq
  rcases HOF.out with ⟨rfl, rfl⟩ | ⟨rfl, rfl, rfl⟩ | ⟨htri, hanti, hzero, hsub, htr⟩
  · obtain ⟨kAc0, kAc1, kAc2, _, kAcn⟩ := boxc3 kA5
    obtain ⟨kBc0, kBc1, kBc2, _, kBcn⟩ := boxc3 kB5
    go_wp2_with fail
    refine Calls.mono (SAB.out _ pA5 qA5 pB5 qB5) ?_
    rintro e w6 ⟨rfl, bq⟩
    clear kAc0 kAc1 kAc2 kBc0 kBc1 kBc2
    have pA6 := pA5.keep bq
    have qA6 := qA5.keep bq
    have pB6 := pB5.keep bq
    have qB6 := qB5.keep bq
    have kA6 := boxc_keep kA5 bq
    have kB6 := boxc_keep kB5 bq
    have pC6 := pC5.keep bq
    have qC6 := qC5.keep bq
    have kC6 := boxc_keep kC5 bq
    have B6 := B5.trans (bq.mono B5.size)
    clear pA5 qA5 pB5 qB5 kA5 kB5 pC5 qC5 kC5 B5 bq
    obtain ⟨kAc0, kAc1, kAc2, _, kAcn⟩ := boxc3 kA6
    go_wp2_with fail
    refine Calls.mono (KA.out _ pA6 qA6) ?_
    rintro e w7 ⟨rfl, bq⟩
    clear kAc0 kAc1 kAc2
    have pA7 := pA6.keep bq
    have qA7 := qA6.keep bq
    have pB7 := pB6.keep bq
    have qB7 := qB6.keep bq
    have kA7 := boxc_keep kA6 bq
    have kB7 := boxc_keep kB6 bq
    have pC7 := pC6.keep bq
    have qC7 := qC6.keep bq
    have kC7 := boxc_keep kC6 bq
    have B7 := B6.trans (bq.mono B6.size)
    clear pA6 qA6 pB6 qB6 kA6 kB6 pC6 qC6 kC6 B6 bq
    have HBB : Hid (Below w.heap.size w w7) := B7
    clear CAB SAB CBA CBC CAC KA KB SB SG PW HOF pA7 qA7 pB7 qB7 kA7 kB7 pC7 qC7 kC7 B7
    go_wp2
    go_ret
    exact ⟨rfl, HBB.out⟩
  · obtain ⟨kAc0, kAc1, kAc2, _, kAcn⟩ := boxc3 kA5
    obtain ⟨kBc0, kBc1, kBc2, _, kBcn⟩ := boxc3 kB5
    go_wp2_with fail
    refine Calls.mono (SAB.out _ pA5 qA5 pB5 qB5) ?_
    rintro e w6 ⟨rfl, bq⟩
    clear kAc0 kAc1 kAc2 kBc0 kBc1 kBc2
    have pA6 := pA5.keep bq
    have qA6 := qA5.keep bq
    have pB6 := pB5.keep bq
    have qB6 := qB5.keep bq
    have kA6 := boxc_keep kA5 bq
    have kB6 := boxc_keep kB5 bq
    have pC6 := pC5.keep bq
    have qC6 := qC5.keep bq
    have kC6 := boxc_keep kC5 bq
    have B6 := B5.trans (bq.mono B5.size)
    clear pA5 qA5 pB5 qB5 kA5 kB5 pC5 qC5 kC5 B5 bq
    obtain ⟨kAc0, kAc1, kAc2, _, kAcn⟩ := boxc3 kA6
    go_wp2_with fail
    refine Calls.mono (KA.out _ pA6 qA6) ?_
    rintro e w7 ⟨rfl, bq⟩
    clear kAc0 kAc1 kAc2
    have pA7 := pA6.keep bq
    have qA7 := qA6.keep bq
    have pB7 := pB6.keep bq
    have qB7 := qB6.keep bq
    have kA7 := boxc_keep kA6 bq
    have kB7 := boxc_keep kB6 bq
    have pC7 := pC6.keep bq
    have qC7 := qC6.keep bq
    have kC7 := boxc_keep kC6 bq
    have B7 := B6.trans (bq.mono B6.size)
    clear pA6 qA6 pB6 qB6 kA6 kB6 pC6 qC6 kC6 B6 bq
    obtain ⟨kBc0, kBc1, kBc2, _, kBcn⟩ := boxc3 kB7
    go_wp2_with fail
    refine Calls.mono (KB.out _ pB7 qB7) ?_
    rintro e w8 ⟨rfl, bq⟩
    clear kBc0 kBc1 kBc2
    have pA8 := pA7.keep bq
    have qA8 := qA7.keep bq
    have pB8 := pB7.keep bq
    have qB8 := qB7.keep bq
    have kA8 := boxc_keep kA7 bq
    have kB8 := boxc_keep kB7 bq
    have pC8 := pC7.keep bq
    have qC8 := qC7.keep bq
    have kC8 := boxc_keep kC7 bq
    have B8 := B7.trans (bq.mono B7.size)
    clear pA7 qA7 pB7 qB7 kA7 kB7 pC7 qC7 kC7 B7 bq
    have HBB : Hid (Below w.heap.size w w8) := B8
    clear CAB SAB CBA CBC CAC KA KB SB SG PW HOF pA8 qA8 pB8 qB8 kA8 kB8 pC8 qC8 kC8 B8
    go_wp2
    go_ret
    exact ⟨rfl, HBB.out⟩
  · have HSUB : Hid _ := hsub
    have HTR : Hid _ := htr
    have HZ : Hid _ := hzero
    clear HOF hsub htr hzero KA KB
    rcases htri with rfl | rfl | rfl
    · obtain rfl : m2 = -1 := by rw [hanti]
      clear hanti
      obtain ⟨kAc0, kAc1, kAc2, _, kAcn⟩ := boxc3 kA5
      obtain ⟨kBc0, kBc1, kBc2, _, kBcn⟩ := boxc3 kB5
      go_wp2_with fail
      refine Calls.mono (SAB.out _ pA5 qA5 pB5 qB5) ?_
      rintro e w6 ⟨rfl, bq⟩
      clear kAc0 kAc1 kAc2 kBc0 kBc1 kBc2
      have pA6 := pA5.keep bq
      have qA6 := qA5.keep bq
      have pB6 := pB5.keep bq
      have qB6 := qB5.keep bq
      have kA6 := boxc_keep kA5 bq
      have kB6 := boxc_keep kB5 bq
      have pC6 := pC5.keep bq
      have qC6 := qC5.keep bq
      have kC6 := boxc_keep kC5 bq
      have B6 := B5.trans (bq.mono B5.size)
      clear pA5 qA5 pB5 qB5 kA5 kB5 pC5 qC5 kC5 B5 bq
      have hd6 := Hdl.keep HH.out B6 (Hdl.pos HH.out)
      obtain ⟨kAc0, kAc1, kAc2, _, kAcn⟩ := boxc3 kA6
      obtain ⟨kBc0, kBc1, kBc2, _, kBcn⟩ := boxc3 kB6
      go_wp2_with fail
      refine Calls.mono (CBA.out _ hd6 pB6 qB6 pA6 qA6) ?_
      rintro e w7 ⟨rfl, bq⟩
      clear kAc0 kAc1 kAc2 kBc0 kBc1 kBc2
      clear hd6
      have pA7 := pA6.keep bq
      have qA7 := qA6.keep bq
      have pB7 := pB6.keep bq
      have qB7 := qB6.keep bq
      have kA7 := boxc_keep kA6 bq
      have kB7 := boxc_keep kB6 bq
      have pC7 := pC6.keep bq
      have qC7 := qC6.keep bq
      have kC7 := boxc_keep kC6 bq
      have B7 := B6.trans (bq.mono B6.size)
      clear pA6 qA6 pB6 qB6 kA6 kB6 pC6 qC6 kC6 B6 bq
      have hd7 := Hdl.keep HH.out B7 (Hdl.pos HH.out)
      obtain ⟨kAc0, kAc1, kAc2, _, kAcn⟩ := boxc3 kA7
      obtain ⟨kBc0, kBc1, kBc2, _, kBcn⟩ := boxc3 kB7
      go_wp2_with fail
      refine Calls.mono (SB.out _ hd7 pA7 qA7 pB7 qB7) ?_
      rintro e w8 ⟨rd, cd, sd, dd, rfl, oD, oE, _, bq⟩
      clear kAc0 kAc1 kAc2 kBc0 kBc1 kBc2
      clear hd7
      have pA8 := pA7.keep bq
      have qA8 := qA7.keep bq
      have pB8 := pB7.keep bq
      have qB8 := qB7.keep bq
      have kA8 := boxc_keep kA7 bq
      have kB8 := boxc_keep kB7 bq
      have pC8 := pC7.keep bq
      have qC8 := qC7.keep bq
      have kC8 := boxc_keep kC7 bq
      have B8 := B7.trans (bq.mono B7.size)
      clear pA7 qA7 pB7 qB7 kA7 kB7 pC7 qC7 kC7 B7 bq
      have pD8 := oD.sl
      have qD8 := oE.sl
      have cD := own_cap oD
      have cE := own_cap oE
      clear oD oE
      obtain ⟨w9, hw9⟩ : ∃ w9, w9 = w8.alloc (.cells #[.bool D.b, .slice rd D.X.length cd, .slice sd D.Y.length dd] 25) := ⟨_, rfl⟩
      obtain ⟨gd, hgd⟩ : ∃ gd, gd = w8.heap.size := ⟨_, rfl⟩
      have b9 : Below w8.heap.size w8 w9 := by rw [hw9]; exact (Below.refl _ w8).alloc (Nat.le_refl _) _
      have kD9 : BoxC w9 gd 25 #[.bool D.b, .slice rd D.X.length cd, .slice sd D.Y.length dd] := by rw [hw9, hgd]; exact boxc_new _ _ _
      have pA9 := pA8.keep b9
      have qA9 := qA8.keep b9
      have pB9 := pB8.keep b9
      have qB9 := qB8.keep b9
      have kA9 := boxc_keep kA8 b9
      have kB9 := boxc_keep kB8 b9
      have pC9 := pC8.keep b9
      have qC9 := qC8.keep b9
      have kC9 := boxc_keep kC8 b9
      have pD9 := pD8.keep b9
      have qD9 := qD8.keep b9
      have B9 := B8.trans (b9.mono B8.size)
      clear pA8 qA8 pB8 qB8 kA8 kB8 pC8 qC8 kC8 pD8 qD8 B8 b9
      go_upto_region 11 with fail
      rw [← hw9, ← hgd]
      clear hw9 hgd
      cases hok : D.ok with
      | false =>
        clear pD9
        clear qD9
        clear kD9
        have hd9 := Hdl.keep HH.out B9 (Hdl.pos HH.out)
        obtain ⟨kBc0, kBc1, kBc2, _, kBcn⟩ := boxc3 kB9
        obtain ⟨kCc0, kCc1, kCc2, _, kCcn⟩ := boxc3 kC9
        go_wp2_with fail
        refine Calls.mono (CBC.out _ hd9 pB9 qB9 pC9 qC9) ?_
        rintro e w10 ⟨rfl, bq⟩
        clear kBc0 kBc1 kBc2 kCc0 kCc1 kCc2
        clear hd9
        have pA10 := pA9.keep bq
        have qA10 := qA9.keep bq
        have pB10 := pB9.keep bq
        have qB10 := qB9.keep bq
        have kA10 := boxc_keep kA9 bq
        have kB10 := boxc_keep kB9 bq
        have pC10 := pC9.keep bq
        have qC10 := qC9.keep bq
        have kC10 := boxc_keep kC9 bq
        have B10 := B9.trans (bq.mono B9.size)
        clear pA9 qA9 pB9 qB9 kA9 kB9 pC9 qC9 kC9 B9 bq
        by_cases hnm : n1 = 1
        · obtain rfl := HTR.out hnm
          subst hnm
          have hd10 := Hdl.keep HH.out B10 (Hdl.pos HH.out)
          obtain ⟨kAc0, kAc1, kAc2, _, kAcn⟩ := boxc3 kA10
          obtain ⟨kCc0, kCc1, kCc2, _, kCcn⟩ := boxc3 kC10
          go_wp2_with fail
          refine Calls.mono (CAC.out _ hd10 pA10 qA10 pC10 qC10) ?_
          rintro e w11 ⟨rfl, bq⟩
          clear kAc0 kAc1 kAc2 kCc0 kCc1 kCc2
          clear hd10
          have pA11 := pA10.keep bq
          have qA11 := qA10.keep bq
          have pB11 := pB10.keep bq
          have qB11 := qB10.keep bq
          have kA11 := boxc_keep kA10 bq
          have kB11 := boxc_keep kB10 bq
          have pC11 := pC10.keep bq
          have qC11 := qC10.keep bq
          have kC11 := boxc_keep kC10 bq
          have B11 := B10.trans (bq.mono B10.size)
          clear pA10 qA10 pB10 qB10 kA10 kB10 pC10 qC10 kC10 B10 bq
          have HBB : Hid (Below w.heap.size w w11) := B11
          clear CAB SAB CBA CBC CAC SB SG PW HSUB HTR HZ HH pA11 qA11 pB11 qB11 kA11 kB11 pC11 qC11 kC11 B11
          go_wp2
          go_ret
          exact ⟨rfl, HBB.out⟩
        · have hnb : ((1 : Int) != n1) = true := by rw [bne_iff_ne]; exact fun h => hnm h.symm
          have HBB : Hid (Below w.heap.size w w10) := B10
          clear CAB SAB CBA CBC CAC SB SG PW HSUB HTR HZ HH hnm pA10 qA10 pB10 qB10 kA10 kB10 pC10 qC10 kC10 B10
          go_wp2
          go_ret
          exact ⟨rfl, HBB.out⟩
      | true =>
        obtain rfl := HSUB.out hok
        have hd9 := Hdl.keep HH.out B9 (Hdl.pos HH.out)
        obtain ⟨kDc0, kDc1, kDc2, _, kDcn⟩ := boxc3 kD9
        go_wp2_with fail
        refine Calls.mono (SG.out _ _ _ _ _ hd9 pD9 qD9 cD cE) ?_
        rintro e w10 ⟨rfl, bq⟩
        clear kDc0 kDc1 kDc2
        clear hd9
        have pA10 := pA9.keep bq
        have qA10 := qA9.keep bq
        have pB10 := pB9.keep bq
        have qB10 := qB9.keep bq
        have kA10 := boxc_keep kA9 bq
        have kB10 := boxc_keep kB9 bq
        have pC10 := pC9.keep bq
        have qC10 := qC9.keep bq
        have kC10 := boxc_keep kC9 bq
        have pD10 := pD9.keep bq
        have qD10 := qD9.keep bq
        have kD10 := boxc_keep kD9 bq
        have B10 := B9.trans (bq.mono B9.size)
        clear pA9 qA9 pB9 qB9 kA9 kB9 pC9 qC9 kC9 pD9 qD9 kD9 B9 bq
        clear pD10
        clear qD10
        clear kD10
        have hd10 := Hdl.keep HH.out B10 (Hdl.pos HH.out)
        obtain ⟨kBc0, kBc1, kBc2, _, kBcn⟩ := boxc3 kB10
        obtain ⟨kCc0, kCc1, kCc2, _, kCcn⟩ := boxc3 kC10
        go_wp2_with fail
        refine Calls.mono (CBC.out _ hd10 pB10 qB10 pC10 qC10) ?_
        rintro e w11 ⟨rfl, bq⟩
        clear kBc0 kBc1 kBc2 kCc0 kCc1 kCc2
        clear hd10
        have pA11 := pA10.keep bq
        have qA11 := qA10.keep bq
        have pB11 := pB10.keep bq
        have qB11 := qB10.keep bq
        have kA11 := boxc_keep kA10 bq
        have kB11 := boxc_keep kB10 bq
        have pC11 := pC10.keep bq
        have qC11 := qC10.keep bq
        have kC11 := boxc_keep kC10 bq
        have B11 := B10.trans (bq.mono B10.size)
        clear pA10 qA10 pB10 qB10 kA10 kB10 pC10 qC10 kC10 B10 bq
        by_cases hnm : n1 = 1
        · obtain rfl := HTR.out hnm
          subst hnm
          have hd11 := Hdl.keep HH.out B11 (Hdl.pos HH.out)
          obtain ⟨kAc0, kAc1, kAc2, _, kAcn⟩ := boxc3 kA11
          obtain ⟨kCc0, kCc1, kCc2, _, kCcn⟩ := boxc3 kC11
          go_wp2_with fail
          refine Calls.mono (CAC.out _ hd11 pA11 qA11 pC11 qC11) ?_
          rintro e w12 ⟨rfl, bq⟩
          clear kAc0 kAc1 kAc2 kCc0 kCc1 kCc2
          clear hd11
          have pA12 := pA11.keep bq
          have qA12 := qA11.keep bq
          have pB12 := pB11.keep bq
          have qB12 := qB11.keep bq
          have kA12 := boxc_keep kA11 bq
          have kB12 := boxc_keep kB11 bq
          have pC12 := pC11.keep bq
          have qC12 := qC11.keep bq
          have kC12 := boxc_keep kC11 bq
          have B12 := B11.trans (bq.mono B11.size)
          clear pA11 qA11 pB11 qB11 kA11 kB11 pC11 qC11 kC11 B11 bq
          have HBB : Hid (Below w.heap.size w w12) := B12
          clear CAB SAB CBA CBC CAC SB SG PW HSUB HTR HZ HH pA12 qA12 pB12 qB12 kA12 kB12 pC12 qC12 kC12 B12
          go_wp2
          go_ret
          exact ⟨rfl, HBB.out⟩
        · have hnb : ((1 : Int) != n1) = true := by rw [bne_iff_ne]; exact fun h => hnm h.symm
          have HBB : Hid (Below w.heap.size w w11) := B11
          clear CAB SAB CBA CBC CAC SB SG PW HSUB HTR HZ HH hnm pA11 qA11 pB11 qB11 kA11 kB11 pC11 qC11 kC11 B11
          go_wp2
          go_ret
          exact ⟨rfl, HBB.out⟩
    · obtain rfl : m2 = 0 := by rw [hanti]; rfl
      clear hanti
      obtain ⟨kAc0, kAc1, kAc2, _, kAcn⟩ := boxc3 kA5
      obtain ⟨kBc0, kBc1, kBc2, _, kBcn⟩ := boxc3 kB5
      go_wp2_with fail
      refine Calls.mono (SAB.out _ pA5 qA5 pB5 qB5) ?_
      rintro e w6 ⟨rfl, bq⟩
      clear kAc0 kAc1 kAc2 kBc0 kBc1 kBc2
      have pA6 := pA5.keep bq
      have qA6 := qA5.keep bq
      have pB6 := pB5.keep bq
      have qB6 := qB5.keep bq
      have kA6 := boxc_keep kA5 bq
      have kB6 := boxc_keep kB5 bq
      have pC6 := pC5.keep bq
      have qC6 := qC5.keep bq
      have kC6 := boxc_keep kC5 bq
      have B6 := B5.trans (bq.mono B5.size)
      clear pA5 qA5 pB5 qB5 kA5 kB5 pC5 qC5 kC5 B5 bq
      have hd6 := Hdl.keep HH.out B6 (Hdl.pos HH.out)
      obtain ⟨kAc0, kAc1, kAc2, _, kAcn⟩ := boxc3 kA6
      obtain ⟨kBc0, kBc1, kBc2, _, kBcn⟩ := boxc3 kB6
      go_wp2_with fail
      refine Calls.mono (CBA.out _ hd6 pB6 qB6 pA6 qA6) ?_
      rintro e w7 ⟨rfl, bq⟩
      clear kAc0 kAc1 kAc2 kBc0 kBc1 kBc2
      clear hd6
      have pA7 := pA6.keep bq
      have qA7 := qA6.keep bq
      have pB7 := pB6.keep bq
      have qB7 := qB6.keep bq
      have kA7 := boxc_keep kA6 bq
      have kB7 := boxc_keep kB6 bq
      have pC7 := pC6.keep bq
      have qC7 := qC6.keep bq
      have kC7 := boxc_keep kC6 bq
      have B7 := B6.trans (bq.mono B6.size)
      clear pA6 qA6 pB6 qB6 kA6 kB6 pC6 qC6 kC6 B6 bq
      have hd7 := Hdl.keep HH.out B7 (Hdl.pos HH.out)
      obtain ⟨kAc0, kAc1, kAc2, _, kAcn⟩ := boxc3 kA7
      obtain ⟨kBc0, kBc1, kBc2, _, kBcn⟩ := boxc3 kB7
      go_wp2_with fail
      refine Calls.mono (SB.out _ hd7 pA7 qA7 pB7 qB7) ?_
      rintro e w8 ⟨rd, cd, sd, dd, rfl, oD, oE, _, bq⟩
      clear kAc0 kAc1 kAc2 kBc0 kBc1 kBc2
      clear hd7
      have pA8 := pA7.keep bq
      have qA8 := qA7.keep bq
      have pB8 := pB7.keep bq
      have qB8 := qB7.keep bq
      have kA8 := boxc_keep kA7 bq
      have kB8 := boxc_keep kB7 bq
      have pC8 := pC7.keep bq
      have qC8 := qC7.keep bq
      have kC8 := boxc_keep kC7 bq
      have B8 := B7.trans (bq.mono B7.size)
      clear pA7 qA7 pB7 qB7 kA7 kB7 pC7 qC7 kC7 B7 bq
      have pD8 := oD.sl
      have qD8 := oE.sl
      have cD := own_cap oD
      have cE := own_cap oE
      clear oD oE
      obtain ⟨w9, hw9⟩ : ∃ w9, w9 = w8.alloc (.cells #[.bool D.b, .slice rd D.X.length cd, .slice sd D.Y.length dd] 25) := ⟨_, rfl⟩
      obtain ⟨gd, hgd⟩ : ∃ gd, gd = w8.heap.size := ⟨_, rfl⟩
      have b9 : Below w8.heap.size w8 w9 := by rw [hw9]; exact (Below.refl _ w8).alloc (Nat.le_refl _) _
      have kD9 : BoxC w9 gd 25 #[.bool D.b, .slice rd D.X.length cd, .slice sd D.Y.length dd] := by rw [hw9, hgd]; exact boxc_new _ _ _
      have pA9 := pA8.keep b9
      have qA9 := qA8.keep b9
      have pB9 := pB8.keep b9
      have qB9 := qB8.keep b9
      have kA9 := boxc_keep kA8 b9
      have kB9 := boxc_keep kB8 b9
      have pC9 := pC8.keep b9
      have qC9 := qC8.keep b9
      have kC9 := boxc_keep kC8 b9
      have pD9 := pD8.keep b9
      have qD9 := qD8.keep b9
      have B9 := B8.trans (b9.mono B8.size)
      clear pA8 qA8 pB8 qB8 kA8 kB8 pC8 qC8 kC8 pD8 qD8 B8 b9
      go_upto_region 11 with fail
      rw [← hw9, ← hgd]
      clear hw9 hgd
      cases hok : D.ok with
      | false =>
        clear pD9
        clear qD9
        clear kD9
        obtain ⟨kAc0, kAc1, kAc2, _, kAcn⟩ := boxc3 kA9
        obtain ⟨kBc0, kBc1, kBc2, _, kBcn⟩ := boxc3 kB9
        go_wp2_with fail
        refine Calls.mono (PW.out (HZ.out (by simp)) _ pA9 qA9 pB9 qB9) ?_
        rintro e w10 ⟨rfl, bq⟩
        clear kAc0 kAc1 kAc2 kBc0 kBc1 kBc2
        have pA10 := pA9.keep bq
        have qA10 := qA9.keep bq
        have pB10 := pB9.keep bq
        have qB10 := qB9.keep bq
        have kA10 := boxc_keep kA9 bq
        have kB10 := boxc_keep kB9 bq
        have pC10 := pC9.keep bq
        have qC10 := qC9.keep bq
        have kC10 := boxc_keep kC9 bq
        have B10 := B9.trans (bq.mono B9.size)
        clear pA9 qA9 pB9 qB9 kA9 kB9 pC9 qC9 kC9 B9 bq
        have hd10 := Hdl.keep HH.out B10 (Hdl.pos HH.out)
        obtain ⟨kBc0, kBc1, kBc2, _, kBcn⟩ := boxc3 kB10
        obtain ⟨kCc0, kCc1, kCc2, _, kCcn⟩ := boxc3 kC10
        go_wp2_with fail
        refine Calls.mono (CBC.out _ hd10 pB10 qB10 pC10 qC10) ?_
        rintro e w11 ⟨rfl, bq⟩
        clear kBc0 kBc1 kBc2 kCc0 kCc1 kCc2
        clear hd10
        have pA11 := pA10.keep bq
        have qA11 := qA10.keep bq
        have pB11 := pB10.keep bq
        have qB11 := qB10.keep bq
        have kA11 := boxc_keep kA10 bq
        have kB11 := boxc_keep kB10 bq
        have pC11 := pC10.keep bq
        have qC11 := qC10.keep bq
        have kC11 := boxc_keep kC10 bq
        have B11 := B10.trans (bq.mono B10.size)
        clear pA10 qA10 pB10 qB10 kA10 kB10 pC10 qC10 kC10 B10 bq
        by_cases hnm : n1 = 0
        · obtain rfl := HTR.out hnm
          subst hnm
          have hd11 := Hdl.keep HH.out B11 (Hdl.pos HH.out)
          obtain ⟨kAc0, kAc1, kAc2, _, kAcn⟩ := boxc3 kA11
          obtain ⟨kCc0, kCc1, kCc2, _, kCcn⟩ := boxc3 kC11
          go_wp2_with fail
          refine Calls.mono (CAC.out _ hd11 pA11 qA11 pC11 qC11) ?_
          rintro e w12 ⟨rfl, bq⟩
          clear kAc0 kAc1 kAc2 kCc0 kCc1 kCc2
          clear hd11
          have pA12 := pA11.keep bq
          have qA12 := qA11.keep bq
          have pB12 := pB11.keep bq
          have qB12 := qB11.keep bq
          have kA12 := boxc_keep kA11 bq
          have kB12 := boxc_keep kB11 bq
          have pC12 := pC11.keep bq
          have qC12 := qC11.keep bq
          have kC12 := boxc_keep kC11 bq
          have B12 := B11.trans (bq.mono B11.size)
          clear pA11 qA11 pB11 qB11 kA11 kB11 pC11 qC11 kC11 B11 bq
          have HBB : Hid (Below w.heap.size w w12) := B12
          clear CAB SAB CBA CBC CAC SB SG PW HSUB HTR HZ HH pA12 qA12 pB12 qB12 kA12 kB12 pC12 qC12 kC12 B12
          go_wp2
          go_ret
          exact ⟨rfl, HBB.out⟩
        · have hnb : ((0 : Int) != n1) = true := by rw [bne_iff_ne]; exact fun h => hnm h.symm
          have HBB : Hid (Below w.heap.size w w11) := B11
          clear CAB SAB CBA CBC CAC SB SG PW HSUB HTR HZ HH hnm pA11 qA11 pB11 qB11 kA11 kB11 pC11 qC11 kC11 B11
          go_wp2
          go_ret
          exact ⟨rfl, HBB.out⟩
      | true =>
        obtain rfl := HSUB.out hok
        have hd9 := Hdl.keep HH.out B9 (Hdl.pos HH.out)
        obtain ⟨kDc0, kDc1, kDc2, _, kDcn⟩ := boxc3 kD9
        go_wp2_with fail
        refine Calls.mono (SG.out _ _ _ _ _ hd9 pD9 qD9 cD cE) ?_
        rintro e w10 ⟨rfl, bq⟩
        clear kDc0 kDc1 kDc2
        clear hd9
        have pA10 := pA9.keep bq
        have qA10 := qA9.keep bq
        have pB10 := pB9.keep bq
        have qB10 := qB9.keep bq
        have kA10 := boxc_keep kA9 bq
        have kB10 := boxc_keep kB9 bq
        have pC10 := pC9.keep bq
        have qC10 := qC9.keep bq
        have kC10 := boxc_keep kC9 bq
        have pD10 := pD9.keep bq
        have qD10 := qD9.keep bq
        have kD10 := boxc_keep kD9 bq
        have B10 := B9.trans (bq.mono B9.size)
        clear pA9 qA9 pB9 qB9 kA9 kB9 pC9 qC9 kC9 pD9 qD9 kD9 B9 bq
        clear pD10
        clear qD10
        clear kD10
        obtain ⟨kAc0, kAc1, kAc2, _, kAcn⟩ := boxc3 kA10
        obtain ⟨kBc0, kBc1, kBc2, _, kBcn⟩ := boxc3 kB10
        go_wp2_with fail
        refine Calls.mono (PW.out (HZ.out (by simp)) _ pA10 qA10 pB10 qB10) ?_
        rintro e w11 ⟨rfl, bq⟩
        clear kAc0 kAc1 kAc2 kBc0 kBc1 kBc2
        have pA11 := pA10.keep bq
        have qA11 := qA10.keep bq
        have pB11 := pB10.keep bq
        have qB11 := qB10.keep bq
        have kA11 := boxc_keep kA10 bq
        have kB11 := boxc_keep kB10 bq
        have pC11 := pC10.keep bq
        have qC11 := qC10.keep bq
        have kC11 := boxc_keep kC10 bq
        have B11 := B10.trans (bq.mono B10.size)
        clear pA10 qA10 pB10 qB10 kA10 kB10 pC10 qC10 kC10 B10 bq
        have hd11 := Hdl.keep HH.out B11 (Hdl.pos HH.out)
        obtain ⟨kBc0, kBc1, kBc2, _, kBcn⟩ := boxc3 kB11
        obtain ⟨kCc0, kCc1, kCc2, _, kCcn⟩ := boxc3 kC11
        go_wp2_with fail
        refine Calls.mono (CBC.out _ hd11 pB11 qB11 pC11 qC11) ?_
        rintro e w12 ⟨rfl, bq⟩
        clear kBc0 kBc1 kBc2 kCc0 kCc1 kCc2
        clear hd11
        have pA12 := pA11.keep bq
        have qA12 := qA11.keep bq
        have pB12 := pB11.keep bq
        have qB12 := qB11.keep bq
        have kA12 := boxc_keep kA11 bq
        have kB12 := boxc_keep kB11 bq
        have pC12 := pC11.keep bq
        have qC12 := qC11.keep bq
        have kC12 := boxc_keep kC11 bq
        have B12 := B11.trans (bq.mono B11.size)
        clear pA11 qA11 pB11 qB11 kA11 kB11 pC11 qC11 kC11 B11 bq
        by_cases hnm : n1 = 0
        · obtain rfl := HTR.out hnm
          subst hnm
          have hd12 := Hdl.keep HH.out B12 (Hdl.pos HH.out)
          obtain ⟨kAc0, kAc1, kAc2, _, kAcn⟩ := boxc3 kA12
          obtain ⟨kCc0, kCc1, kCc2, _, kCcn⟩ := boxc3 kC12
          go_wp2_with fail
          refine Calls.mono (CAC.out _ hd12 pA12 qA12 pC12 qC12) ?_
          rintro e w13 ⟨rfl, bq⟩
          clear kAc0 kAc1 kAc2 kCc0 kCc1 kCc2
          clear hd12
          have pA13 := pA12.keep bq
          have qA13 := qA12.keep bq
          have pB13 := pB12.keep bq
          have qB13 := qB12.keep bq
          have kA13 := boxc_keep kA12 bq
          have kB13 := boxc_keep kB12 bq
          have pC13 := pC12.keep bq
          have qC13 := qC12.keep bq
          have kC13 := boxc_keep kC12 bq
          have B13 := B12.trans (bq.mono B12.size)
          clear pA12 qA12 pB12 qB12 kA12 kB12 pC12 qC12 kC12 B12 bq
          have HBB : Hid (Below w.heap.size w w13) := B13
          clear CAB SAB CBA CBC CAC SB SG PW HSUB HTR HZ HH pA13 qA13 pB13 qB13 kA13 kB13 pC13 qC13 kC13 B13
          go_wp2
          go_ret
          exact ⟨rfl, HBB.out⟩
        · have hnb : ((0 : Int) != n1) = true := by rw [bne_iff_ne]; exact fun h => hnm h.symm
          have HBB : Hid (Below w.heap.size w w12) := B12
          clear CAB SAB CBA CBC CAC SB SG PW HSUB HTR HZ HH hnm pA12 qA12 pB12 qB12 kA12 kB12 pC12 qC12 kC12 B12
          go_wp2
          go_ret
          exact ⟨rfl, HBB.out⟩
    · obtain rfl : m2 = 1 := by rw [hanti]; rfl
      clear hanti
      obtain ⟨kAc0, kAc1, kAc2, _, kAcn⟩ := boxc3 kA5
      obtain ⟨kBc0, kBc1, kBc2, _, kBcn⟩ := boxc3 kB5
      go_wp2_with fail
      refine Calls.mono (SAB.out _ pA5 qA5 pB5 qB5) ?_
      rintro e w6 ⟨rfl, bq⟩
      clear kAc0 kAc1 kAc2 kBc0 kBc1 kBc2
      have pA6 := pA5.keep bq
      have qA6 := qA5.keep bq
      have pB6 := pB5.keep bq
      have qB6 := qB5.keep bq
      have kA6 := boxc_keep kA5 bq
      have kB6 := boxc_keep kB5 bq
      have pC6 := pC5.keep bq
      have qC6 := qC5.keep bq
      have kC6 := boxc_keep kC5 bq
      have B6 := B5.trans (bq.mono B5.size)
      clear pA5 qA5 pB5 qB5 kA5 kB5 pC5 qC5 kC5 B5 bq
      have hd6 := Hdl.keep HH.out B6 (Hdl.pos HH.out)
      obtain ⟨kAc0, kAc1, kAc2, _, kAcn⟩ := boxc3 kA6
      obtain ⟨kBc0, kBc1, kBc2, _, kBcn⟩ := boxc3 kB6
      go_wp2_with fail
      refine Calls.mono (CBA.out _ hd6 pB6 qB6 pA6 qA6) ?_
      rintro e w7 ⟨rfl, bq⟩
      clear kAc0 kAc1 kAc2 kBc0 kBc1 kBc2
      clear hd6
      have pA7 := pA6.keep bq
      have qA7 := qA6.keep bq
      have pB7 := pB6.keep bq
      have qB7 := qB6.keep bq
      have kA7 := boxc_keep kA6 bq
      have kB7 := boxc_keep kB6 bq
      have pC7 := pC6.keep bq
      have qC7 := qC6.keep bq
      have kC7 := boxc_keep kC6 bq
      have B7 := B6.trans (bq.mono B6.size)
      clear pA6 qA6 pB6 qB6 kA6 kB6 pC6 qC6 kC6 B6 bq
      have hd7 := Hdl.keep HH.out B7 (Hdl.pos HH.out)
      obtain ⟨kAc0, kAc1, kAc2, _, kAcn⟩ := boxc3 kA7
      obtain ⟨kBc0, kBc1, kBc2, _, kBcn⟩ := boxc3 kB7
      go_wp2_with fail
      refine Calls.mono (SB.out _ hd7 pA7 qA7 pB7 qB7) ?_
      rintro e w8 ⟨rd, cd, sd, dd, rfl, oD, oE, _, bq⟩
      clear kAc0 kAc1 kAc2 kBc0 kBc1 kBc2
      clear hd7
      have pA8 := pA7.keep bq
      have qA8 := qA7.keep bq
      have pB8 := pB7.keep bq
      have qB8 := qB7.keep bq
      have kA8 := boxc_keep kA7 bq
      have kB8 := boxc_keep kB7 bq
      have pC8 := pC7.keep bq
      have qC8 := qC7.keep bq
      have kC8 := boxc_keep kC7 bq
      have B8 := B7.trans (bq.mono B7.size)
      clear pA7 qA7 pB7 qB7 kA7 kB7 pC7 qC7 kC7 B7 bq
      have pD8 := oD.sl
      have qD8 := oE.sl
      have cD := own_cap oD
      have cE := own_cap oE
      clear oD oE
      obtain ⟨w9, hw9⟩ : ∃ w9, w9 = w8.alloc (.cells #[.bool D.b, .slice rd D.X.length cd, .slice sd D.Y.length dd] 25) := ⟨_, rfl⟩
      obtain ⟨gd, hgd⟩ : ∃ gd, gd = w8.heap.size := ⟨_, rfl⟩
      have b9 : Below w8.heap.size w8 w9 := by rw [hw9]; exact (Below.refl _ w8).alloc (Nat.le_refl _) _
      have kD9 : BoxC w9 gd 25 #[.bool D.b, .slice rd D.X.length cd, .slice sd D.Y.length dd] := by rw [hw9, hgd]; exact boxc_new _ _ _
      have pA9 := pA8.keep b9
      have qA9 := qA8.keep b9
      have pB9 := pB8.keep b9
      have qB9 := qB8.keep b9
      have kA9 := boxc_keep kA8 b9
      have kB9 := boxc_keep kB8 b9
      have pC9 := pC8.keep b9
      have qC9 := qC8.keep b9
      have kC9 := boxc_keep kC8 b9
      have pD9 := pD8.keep b9
      have qD9 := qD8.keep b9
      have B9 := B8.trans (b9.mono B8.size)
      clear pA8 qA8 pB8 qB8 kA8 kB8 pC8 qC8 kC8 pD8 qD8 B8 b9
      go_upto_region 11 with fail
      rw [← hw9, ← hgd]
      clear hw9 hgd
      cases hok : D.ok with
      | false =>
        clear pD9
        clear qD9
        clear kD9
        have hd9 := Hdl.keep HH.out B9 (Hdl.pos HH.out)
        obtain ⟨kBc0, kBc1, kBc2, _, kBcn⟩ := boxc3 kB9
        obtain ⟨kCc0, kCc1, kCc2, _, kCcn⟩ := boxc3 kC9
        go_wp2_with fail
        refine Calls.mono (CBC.out _ hd9 pB9 qB9 pC9 qC9) ?_
        rintro e w10 ⟨rfl, bq⟩
        clear kBc0 kBc1 kBc2 kCc0 kCc1 kCc2
        clear hd9
        have pA10 := pA9.keep bq
        have qA10 := qA9.keep bq
        have pB10 := pB9.keep bq
        have qB10 := qB9.keep bq
        have kA10 := boxc_keep kA9 bq
        have kB10 := boxc_keep kB9 bq
        have pC10 := pC9.keep bq
        have qC10 := qC9.keep bq
        have kC10 := boxc_keep kC9 bq
        have B10 := B9.trans (bq.mono B9.size)
        clear pA9 qA9 pB9 qB9 kA9 kB9 pC9 qC9 kC9 B9 bq
        by_cases hnm : n1 = -1
        · obtain rfl := HTR.out hnm
          subst hnm
          have hd10 := Hdl.keep HH.out B10 (Hdl.pos HH.out)
          obtain ⟨kAc0, kAc1, kAc2, _, kAcn⟩ := boxc3 kA10
          obtain ⟨kCc0, kCc1, kCc2, _, kCcn⟩ := boxc3 kC10
          go_wp2_with fail
          refine Calls.mono (CAC.out _ hd10 pA10 qA10 pC10 qC10) ?_
          rintro e w11 ⟨rfl, bq⟩
          clear kAc0 kAc1 kAc2 kCc0 kCc1 kCc2
          clear hd10
          have pA11 := pA10.keep bq
          have qA11 := qA10.keep bq
          have pB11 := pB10.keep bq
          have qB11 := qB10.keep bq
          have kA11 := boxc_keep kA10 bq
          have kB11 := boxc_keep kB10 bq
          have pC11 := pC10.keep bq
          have qC11 := qC10.keep bq
          have kC11 := boxc_keep kC10 bq
          have B11 := B10.trans (bq.mono B10.size)
          clear pA10 qA10 pB10 qB10 kA10 kB10 pC10 qC10 kC10 B10 bq
          have HBB : Hid (Below w.heap.size w w11) := B11
          clear CAB SAB CBA CBC CAC SB SG PW HSUB HTR HZ HH pA11 qA11 pB11 qB11 kA11 kB11 pC11 qC11 kC11 B11
          go_wp2
          go_ret
          exact ⟨rfl, HBB.out⟩
        · have hnb : ((-1 : Int) != n1) = true := by rw [bne_iff_ne]; exact fun h => hnm h.symm
          have HBB : Hid (Below w.heap.size w w10) := B10
          clear CAB SAB CBA CBC CAC SB SG PW HSUB HTR HZ HH hnm pA10 qA10 pB10 qB10 kA10 kB10 pC10 qC10 kC10 B10
          go_wp2
          go_ret
          exact ⟨rfl, HBB.out⟩
      | true =>
        obtain rfl := HSUB.out hok
        have hd9 := Hdl.keep HH.out B9 (Hdl.pos HH.out)
        obtain ⟨kDc0, kDc1, kDc2, _, kDcn⟩ := boxc3 kD9
        go_wp2_with fail
        refine Calls.mono (SG.out _ _ _ _ _ hd9 pD9 qD9 cD cE) ?_
        rintro e w10 ⟨rfl, bq⟩
        clear kDc0 kDc1 kDc2
        clear hd9
        have pA10 := pA9.keep bq
        have qA10 := qA9.keep bq
        have pB10 := pB9.keep bq
        have qB10 := qB9.keep bq
        have kA10 := boxc_keep kA9 bq
        have kB10 := boxc_keep kB9 bq
        have pC10 := pC9.keep bq
        have qC10 := qC9.keep bq
        have kC10 := boxc_keep kC9 bq
        have pD10 := pD9.keep bq
        have qD10 := qD9.keep bq
        have kD10 := boxc_keep kD9 bq
        have B10 := B9.trans (bq.mono B9.size)
        clear pA9 qA9 pB9 qB9 kA9 kB9 pC9 qC9 kC9 pD9 qD9 kD9 B9 bq
        clear pD10
        clear qD10
        clear kD10
        have hd10 := Hdl.keep HH.out B10 (Hdl.pos HH.out)
        obtain ⟨kBc0, kBc1, kBc2, _, kBcn⟩ := boxc3 kB10
        obtain ⟨kCc0, kCc1, kCc2, _, kCcn⟩ := boxc3 kC10
        go_wp2_with fail
        refine Calls.mono (CBC.out _ hd10 pB10 qB10 pC10 qC10) ?_
        rintro e w11 ⟨rfl, bq⟩
        clear kBc0 kBc1 kBc2 kCc0 kCc1 kCc2
        clear hd10
        have pA11 := pA10.keep bq
        have qA11 := qA10.keep bq
        have pB11 := pB10.keep bq
        have qB11 := qB10.keep bq
        have kA11 := boxc_keep kA10 bq
        have kB11 := boxc_keep kB10 bq
        have pC11 := pC10.keep bq
        have qC11 := qC10.keep bq
        have kC11 := boxc_keep kC10 bq
        have B11 := B10.trans (bq.mono B10.size)
        clear pA10 qA10 pB10 qB10 kA10 kB10 pC10 qC10 kC10 B10 bq
        by_cases hnm : n1 = -1
        · obtain rfl := HTR.out hnm
          subst hnm
          have hd11 := Hdl.keep HH.out B11 (Hdl.pos HH.out)
          obtain ⟨kAc0, kAc1, kAc2, _, kAcn⟩ := boxc3 kA11
          obtain ⟨kCc0, kCc1, kCc2, _, kCcn⟩ := boxc3 kC11
          go_wp2_with fail
          refine Calls.mono (CAC.out _ hd11 pA11 qA11 pC11 qC11) ?_
          rintro e w12 ⟨rfl, bq⟩
          clear kAc0 kAc1 kAc2 kCc0 kCc1 kCc2
          clear hd11
          have pA12 := pA11.keep bq
          have qA12 := qA11.keep bq
          have pB12 := pB11.keep bq
          have qB12 := qB11.keep bq
          have kA12 := boxc_keep kA11 bq
          have kB12 := boxc_keep kB11 bq
          have pC12 := pC11.keep bq
          have qC12 := qC11.keep bq
          have kC12 := boxc_keep kC11 bq
          have B12 := B11.trans (bq.mono B11.size)
          clear pA11 qA11 pB11 qB11 kA11 kB11 pC11 qC11 kC11 B11 bq
          have HBB : Hid (Below w.heap.size w w12) := B12
          clear CAB SAB CBA CBC CAC SB SG PW HSUB HTR HZ HH pA12 qA12 pB12 qB12 kA12 kB12 pC12 qC12 kC12 B12
          go_wp2
          go_ret
          exact ⟨rfl, HBB.out⟩
        · have hnb : ((-1 : Int) != n1) = true := by rw [bne_iff_ne]; exact fun h => hnm h.symm
          have HBB : Hid (Below w.heap.size w w11) := B11
          clear CAB SAB CBA CBC CAC SB SG PW HSUB HTR HZ HH hnm pA11 qA11 pB11 qB11 kA11 kB11 pC11 qC11 kC11 B11
          go_wp2
          go_ret
          exact ⟨rfl, HBB.out⟩

set_option maxRecDepth 100000 in
theorem lifted (os : Os) (started : os.Started) (H : Type) (enc : TypeId × Value → H) :
    ReturnsInHanded {} Tryd.checked os 4 .any (fun w args => (Rows.fnFracOrderSpec.pre enc Tryd.prog Tryd.f4 [] false w args ∧ laidMetH Tryd.prog laidL w) ∧ sizedMet enc Tryd.prog Tryd.f4 (OpenSpec.ofChange Rows.fnFracOrderSpec) false w args)
      (Rows.fnFracOrderSpec.post enc Tryd.prog Tryd.f4 false true false false) := by
  refine returnsInHanded_of_change_and (C := Tryd.checked) (X := fun w _ => laidMetH Tryd.prog laidL w) (fun _ _ _ hh h => h.of_heap hh) ownK started (by kernel_rfl) Tryd.func4
    (ChangeSpec.witness_at (enc := enc) (C := Tryd.checked) (os := os) (X := fun w _ => laidMetH Tryd.prog laidL w) false { World.holding Tryd.prog os ⟨#[], #[], []⟩ with heap := (World.holding Tryd.prog os ⟨#[], #[], []⟩).heap.modify 0 fun | .cells _ t frozen => .cells #[.iface 123 (.agg #[.pointer (some ⟨1, 54, none⟩)])] t frozen | o => o } #[.slice none 0 0, .slice none 0 0] 8 rfl (by kernel_rfl) (by kernel_rfl) (by kernel_rfl) (by kernel_rfl) (by kernel_rfl) (laidMetH_of_parts (laidMet_nil _ _) (by kernel_rfl))) ?_
  intro W base args ds gs before hval0 hW _ _ hL _
  have hval : ∀ (j : Nat) t v, Tryd.f4.params[j]? = some t → args[j]? = some v → Value.okWide Tryd.prog W .any base t v := hval0
  have hW' := hW
  obtain ⟨p, q, hA0, hV0, rfl, hfz, hnd⟩ := hW
  have hA : DataW.TrodAll enc Tryd.prog W 0 (fun _ => true) true Tryd.f4.params.toList args.toList ds p := hA0
  have hV : DataW.TrodVars enc Tryd.prog W (fun _ => true) [] gs q := hV0
  rw [Tryd.params4] at hA hval
  obtain ⟨v0, vs0, d0, ds0, p0, q0, hargs, rfl, rfl, h0, r0⟩ := trodAll_cons hA
  obtain ⟨v1, vs1, d1, ds1, p1, q1, rfl, rfl, rfl, h1, r1⟩ := trodAll_cons r0
  obtain ⟨rfl, rfl, rfl⟩ := trodAll_nil r1
  obtain rfl : args = #[v0, v1] := by cases args; simp_all
  obtain ⟨rfl, rfl⟩ := trodVars_none hV
  obtain ⟨aa0, la0, ca0, rfl⟩ := okWide_slice Tryd.underlying22 (hval 0 22 v0 rfl rfl)
  have k0 := h0
  have lt0 : ∀ x ∈ p0, x.block < W.heap.size := by obtain ⟨m, hm⟩ := k0; exact DataW.trod_lt m _ _ _ hm
  obtain ⟨za0, wa0⟩ : ∃ zs, IsRow .u8 W aa0 la0 ca0 zs := by
    obtain ⟨fuel, hf⟩ := h0
    rcases open_ints Tryd.underlying22 Tryd.underlying5 (by kernel_rfl) hf with ⟨hcs, _⟩ | ⟨x, l, c, zs, hcs, _, hl, hm, hz, _, hcell, hwz⟩
    · simp [Value.cells] at hcs
      obtain ⟨rfl, rfl, rfl⟩ := hcs
      exact ⟨[], .inl ⟨rfl, rfl, rfl, rfl⟩⟩
    · simp [Value.cells] at hcs
      obtain ⟨rfl, rfl, rfl⟩ := hcs
      exact ⟨zs, .inr ⟨_, rfl, hl, hm, by simpa using hz, hcell, hwz⟩⟩
  obtain ⟨aa1, la1, ca1, rfl⟩ := okWide_slice Tryd.underlying22 (hval 1 22 v1 rfl rfl)
  have k1 := h1
  have lt1 : ∀ x ∈ p1, x.block < W.heap.size := by obtain ⟨m, hm⟩ := k1; exact DataW.trod_lt m _ _ _ hm
  obtain ⟨za1, wa1⟩ : ∃ zs, IsRow .u8 W aa1 la1 ca1 zs := by
    obtain ⟨fuel, hf⟩ := h1
    rcases open_ints Tryd.underlying22 Tryd.underlying5 (by kernel_rfl) hf with ⟨hcs, _⟩ | ⟨x, l, c, zs, hcs, _, hl, hm, hz, _, hcell, hwz⟩
    · simp [Value.cells] at hcs
      obtain ⟨rfl, rfl, rfl⟩ := hcs
      exact ⟨[], .inl ⟨rfl, rfl, rfl, rfl⟩⟩
    · simp [Value.cells] at hcs
      obtain ⟨rfl, rfl, rfl⟩ := hcs
      exact ⟨zs, .inr ⟨_, rfl, hl, hm, by simpa using hz, hcell, hwz⟩⟩
  clear hA0 hval0 hval hA hV hV0
  have hh := hdl_of_laid hL
  have hw := walk aa0 la0 ca0 za0 aa1 la1 ca1 za1 W hh wa0 wa1  
  refine hw.mono fun e W' ⟨he, bel⟩ => ?_
  subst he
  exact ⟨_, rfl, _, _, _, [], _, [], hW', trodAll_mk1 (shut_bool Tryd.underlying4 _), (trodAll_cons_mk (Below.trod laidOutK (by kernel_rfl) (of_decide_eq_true (by kernel_rfl)) k0 bel lt0) (trodAll_cons_mk (Below.trod laidOutK (by kernel_rfl) (of_decide_eq_true (by kernel_rfl)) k1 bel lt1) trodAll_mk0)), rfl, bel.frame _, fun h => by cases h⟩

theorem over : Rows.fnFracOrderRow.holds Tryd.pinned (OpenSpec.ofChange Rows.fnFracOrderSpec) :=
  OpenClaim.holds_of_wide 4 Tryd.f4 rfl rfl rfl rfl rfl rfl rfl ⟨rfl, rfl, rfl, rfl, rfl⟩ rfl rfl rfl rfl rfl (by kernel_rfl) Tryd.func4 (by kernel_rfl)
    (of_decide_eq_true (by kernel_rfl)) (by unfold Func.isWrapper; first | (rw [if_pos (by decide +kernel)]; kernel_rfl) | (rw [if_neg (by decide +kernel)]; exact ⟨rfl, rfl⟩))
    (fun os started H enc _ => lifted os started H enc)

theorem card : Rows.FnFracOrderCardSaid :=
  Claim7.holds_tied_plain_at .later [] [.handle] true Rows.fnFracOrderCard.stood.harness true
    over (fun _ h => by cases h) (by kernel_rfl) (fun _ h => by cases h) fnFracOrder_row_tie rfl ⟨rfl, rfl⟩ (by kernel_rfl) rfl
    (fun f fn hf hfn => by
      obtain rfl : f = 4 := Option.some.inj ((show Tryd.prog.funcNamed Rows.fnFracOrderRow.func = some 4 by kernel_rfl).symm.trans hf) |>.symm
      obtain rfl : fn = Tryd.f4 := (Option.some.inj (Tryd.func4.symm.trans hfn)).symm
      exact ⟨by kernel_rfl, fun j t ht => by
        rw [Tryd.params4] at ht
        have h3 : t = 22 := by
          rcases j with _ | j
          · simp at ht; subst ht; simp
          rcases j with _ | j
          · simp at ht; subst ht; simp
          simp at ht
        rcases h3 with rfl
        · exact (show Tryd.prog.wantsStandIn 22 = false by kernel_rfl)
      ⟩)
    (by kernel_rfl)
end fnFracOrder
theorem fnFracOrder_holds : Rows.FnFracOrderCardSaid := fnFracOrder.card
#print axioms fnFracOrder_holds
end Go.Proofs.YthokphoojmpajabDoor
