/- For every two slices of bytes the law FnNumTop returns true and leaves its arguments as they were: fractions are a field, as long as all that comes up is there; no condition beyond the row's own (the listed variable, tied by the card). -/
import Derived.Test.YthokphoojmpajaaGreatDoorCards
import Derived.Test.YthokphoojmpajaaGreatDoorTie
import Derived.Test.YthokphoojmpajaaGreatDoorFracOpen
import Derived.Test.YthokphoojmpajaaGreatDoorLaid
import Derived.Test.YthokphoojmpajaaGreatDoorDrawFracs
import Derived.Test.YthokphoojmpajaaGreatDoorTopC
import Derived.ChangeVars
import Derived.ChangeSame
import Derived.LaidHandle
import Derived.SevenTiedAt
import Derived.OpenShut
import Derived.Deep.Cut
namespace Go.Proofs.YthokphoojmpajaaGreatDoor
namespace fnNumTop
open Go.ChangeShapes Go.WideShapes Go.ChangeAt Go.RowKit Go.Proofs.Pin

set_option maxRecDepth 200000 in
set_option maxHeartbeats 64000000 in
theorem walk (a0 : Option Addr) (len0 cap0 : Nat) (z0 : List Int) (a1 : Option Addr) (len1 cap1 : Nat) (z1 : List Int) (w : World) (hh : Hdl w) (w0 : IsRow .u8 w a0 len0 cap0 z0) (w1 : IsRow .u8 w a1 len1 cap1 z1) :
    Calls Tryz.prog 3 #[.slice a0 len0 cap0, .slice a1 len1 cap1] w fun e w' => e = .returned (.bool true) ∧ Below w.heap.size w w' := by
  obtain ⟨h1, h2, h3, h4⟩ := isRow_u8b w0
  obtain ⟨k1, k2, k3, k4⟩ := isRow_u8b w1
  clear w0 w1
  by_cases hb0 : (1048576 : Int) < (len0 : Int)
  · go_enter Tryz.func3, Tryz.ntmps3
    go_wp2
    go_ret
    exact ⟨rfl, Below.refl _ _⟩
  by_cases hb1 : (1048576 : Int) < (len1 : Int)
  · go_enter Tryz.func3, Tryz.ntmps3
    go_wp2
    go_ret
    exact ⟨rfl, Below.refl _ _⟩
  have C0 : Hid _ := drawFracAdd_any a0 len0 cap0 _ w h1 h2 h3 (by omega) h4
  have C1 : Hid (∀ w1, Below w.heap.size w w1 → Calls Tryz.prog 5 #[.slice a1 len1 cap1] w1 fun e w' => ∃ f r cr X s cs Y, e = .returned (fracV f r X.length cr s Y.length cs) ∧ OwnI w' w1.heap.size r cr X ∧ OwnI w' w1.heap.size s cs Y ∧ fokB f X Y = true ∧ X.length ≤ 256 ∧ Y.length ≤ 256 ∧ Below w1.heap.size w1 w') := fun w1 hB => goodFrac_any a1 len1 cap1 _ w1 (by
      rcases k1 with h0 | ⟨b, off, he, hlt, hc⟩
      · exact .inl h0
      · exact .inr ⟨b, off, he, Nat.lt_of_lt_of_le hlt hB.size, fun i hi => (hB.cell (p := ⟨b, off + i, none⟩) hlt).trans (hc i hi)⟩) k2 k3 (by omega) k4
  have hl0 : (len0 : Int) ≤ 1048576 := by omega
  have hl1 : (len1 : Int) ≤ 1048576 := by omega
  have HH : Hid (Hdl w) := hh
  have ADD : Hid _ := topAdd
  have MUL : Hid _ := topMul
  have SUB : Hid _ := topSub
  have DIV : Hid _ := topDiv
  have SAD : Hid _ := topsAdd
  have SMU : Hid _ := topsMul
  have PW : Hid _ := topPw
  have SG : Hid _ := topSg
  unfold TwoRet FrO at C0
  unfold fracV at C0 C1 ADD MUL SUB DIV SAD SMU PW SG
  clear h1 h2 h3 h4 k1 k2 k3 k4 hh
  go_enter Tryz.func3, Tryz.ntmps3
  go_wp2_with fail
  refine Calls.mono C0.out ?_
  rintro e w1 ⟨f, rA, cA, X, sA, dA, Y, f', rB, cB, X', sB, dB, Y', rfl, ⟨oX, oY, lX, lY⟩, ⟨oX', oY', lX', lY'⟩, B1⟩
  clear C0
  obtain ⟨A, hA⟩ : ∃ A : FAns, A = ⟨f, X, Y, true⟩ := ⟨_, rfl⟩
  obtain ⟨B, hB⟩ : ∃ B : FAns, B = ⟨f', X', Y', true⟩ := ⟨_, rfl⟩
  have FA1 : FrR w1 A rA sA cA dA := by rw [hA]; exact ⟨oX.sl, oY.sl, own_cap oX, own_cap oY, lX, lY⟩
  have FB1 : FrR w1 B rB sB cB dB := by rw [hB]; exact ⟨oX'.sl, oY'.sl, own_cap oX', own_cap oY', lX', lY'⟩
  have hAok : Hid (A.ok = true) := by rw [hA]; exact rfl
  obtain rfl : f = A.b := by rw [hA]
  obtain rfl : X = A.X := by rw [hA]
  obtain rfl : Y = A.Y := by rw [hA]
  obtain rfl : f' = B.b := by rw [hB]
  obtain rfl : X' = B.X := by rw [hB]
  obtain rfl : Y' = B.Y := by rw [hB]
  clear oX oY oX' oY' lX lY lX' lY' hA hB
  obtain ⟨w2, hw2⟩ : ∃ w2, w2 = (w1.alloc (.cells #[.bool A.b, .slice rA A.X.length cA, .slice sA A.Y.length dA] 25)).alloc (.cells #[.bool B.b, .slice rB B.X.length cB, .slice sB B.Y.length dB] 25) := ⟨_, rfl⟩
  obtain ⟨gA, hga⟩ : ∃ gA, gA = w1.heap.size := ⟨_, rfl⟩
  have b2 : Below w1.heap.size w1 w2 := by rw [hw2]; exact ((Below.refl _ w1).alloc (Nat.le_refl _) _).alloc (by simp) _
  have kA2 : BoxC w2 gA 25 #[.bool A.b, .slice rA A.X.length cA, .slice sA A.Y.length dA] := by rw [hw2, hga]; exact boxc_alloc (boxc_new _ _ _) _
  have kB2 : BoxC w2 (gA + 1) 25 #[.bool B.b, .slice rB B.X.length cB, .slice sB B.Y.length dB] := by
    rw [hw2, hga]
    have h := boxc_new (w1.alloc (.cells #[.bool A.b, .slice rA A.X.length cA, .slice sA A.Y.length dA] 25)) 25 #[.bool B.b, .slice rB B.X.length cB, .slice sB B.Y.length dB]
    rw [World.size_alloc] at h
    exact h
  have FA2 := FA1.keep b2
  have FB2 := FB1.keep b2
  have B2 := B1.trans (b2.mono B1.size)
  clear FA1 FB1 B1 b2
  go_upto_region 4 with fail
  rw [← hw2, ← hga]
  clear hw2 hga
  go_wp2_with fail
  refine Calls.mono (C1.out _ B2) ?_
  rintro e w3 ⟨f3, rC, cC, X3, sC, dC, Y3, rfl, oX3, oY3, _, lX3, lY3, b3⟩
  clear C1
  obtain ⟨C, hC⟩ : ∃ C : FAns, C = ⟨f3, X3, Y3, true⟩ := ⟨_, rfl⟩
  have FC3 : FrR w3 C rC sC cC dC := by rw [hC]; exact ⟨oX3.sl, oY3.sl, own_cap oX3, own_cap oY3, Nat.le_trans lX3 (by decide), Nat.le_trans lY3 (by decide)⟩
  obtain rfl : f3 = C.b := by rw [hC]
  obtain rfl : X3 = C.X := by rw [hC]
  obtain rfl : Y3 = C.Y := by rw [hC]
  clear oX3 oY3 lX3 lY3 hC
  have FA3 := FA2.keep b3
  have FB3 := FB2.keep b3
  have kA3 := boxc_keep kA2 b3
  have kB3 := boxc_keep kB2 b3
  have B3 := B2.trans (b3.mono B2.size)
  clear FA2 FB2 kA2 kB2 B2 b3
  obtain ⟨w4, hw4⟩ : ∃ w4, w4 = w3.alloc (.cells #[.bool C.b, .slice rC C.X.length cC, .slice sC C.Y.length dC] 25) := ⟨_, rfl⟩
  obtain ⟨gC, hgC⟩ : ∃ gC, gC = w3.heap.size := ⟨_, rfl⟩
  have b4 : Below w3.heap.size w3 w4 := by rw [hw4]; exact (Below.refl _ w3).alloc (Nat.le_refl _) _
  have kC4 : BoxC w4 gC 25 #[.bool C.b, .slice rC C.X.length cC, .slice sC C.Y.length dC] := by rw [hw4, hgC]; exact boxc_new _ _ _
  have FA4 := FA3.keep b4
  have FB4 := FB3.keep b4
  have kA4 := boxc_keep kA3 b4
  have kB4 := boxc_keep kB3 b4
  have FC4 := FC3.keep b4
  have B4 := B3.trans (b4.mono B3.size)
  clear FA3 FB3 kA3 kB3 FC3 B3 b4
  go_upto_region 5 with fail
  rw [← hw4, ← hgC]
  clear hw4 hgC
  obtain ⟨S, hqS⟩ : ∃ S, S = opF addA A B := ⟨_, rfl⟩
  have hS : Hid (S = opF addA A B) := hqS
  clear hqS
  obtain ⟨P, hqP⟩ : ∃ P, P = opF mulA A B := ⟨_, rfl⟩
  have hP : Hid (P = opF mulA A B) := hqP
  clear hqP
  obtain ⟨BC, hqBC⟩ : ∃ BC, BC = opF addA B C := ⟨_, rfl⟩
  have hBC : Hid (BC = opF addA B C) := hqBC
  clear hqBC
  obtain ⟨PC, hqPC⟩ : ∃ PC, PC = opF mulA B C := ⟨_, rfl⟩
  have hPC : Hid (PC = opF mulA B C) := hqPC
  clear hqPC
  obtain ⟨AC, hqAC⟩ : ∃ AC, AC = opF mulA A C := ⟨_, rfl⟩
  have hAC : Hid (AC = opF mulA A C) := hqAC
  clear hqAC
  obtain ⟨L1, hqL1⟩ : ∃ L1, L1 = opF addA S C := ⟨_, rfl⟩
  have hL1 : Hid (L1 = opF addA S C) := hqL1
  clear hqL1
  obtain ⟨L2, hqL2⟩ : ∃ L2, L2 = opF mulA P C := ⟨_, rfl⟩
  have hL2 : Hid (L2 = opF mulA P C) := hqL2
  clear hqL2
  obtain ⟨L3, hqL3⟩ : ∃ L3, L3 = opF mulA A BC := ⟨_, rfl⟩
  have hL3 : Hid (L3 = opF mulA A BC) := hqL3
  clear hqL3
  have hd4 := Hdl.keep HH.out B4 (Hdl.pos HH.out)
  obtain ⟨kAc0, kAc1, kAc2, _, kAcn⟩ := boxc3 kA4
  obtain ⟨kBc0, kBc1, kBc2, _, kBcn⟩ := boxc3 kB4
  go_wp2_with fail
  refine Calls.mono (ADD.out _ _ _ S _ _ _ _ _ _ _ _ hS.out hd4 FA4 FB4) ?_
  rintro e w5 ⟨rS, sS, cS, dS, rfl, FS5, bq⟩
  clear kAc0 kAc1 kAc2 kBc0 kBc1 kBc2
  clear hd4
  have FA5 := FA4.keep bq
  have FB5 := FB4.keep bq
  have kA5 := boxc_keep kA4 bq
  have kB5 := boxc_keep kB4 bq
  have FC5 := FC4.keep bq
  have kC5 := boxc_keep kC4 bq
  have B5 := B4.trans (bq.mono B4.size)
  clear FA4 FB4 kA4 kB4 FC4 kC4 B4 bq
  obtain ⟨w6, hw6⟩ : ∃ w6, w6 = w5.alloc (.cells #[.bool S.b, .slice rS S.X.length cS, .slice sS S.Y.length dS] 25) := ⟨_, rfl⟩
  obtain ⟨gS, hgS⟩ : ∃ gS, gS = w5.heap.size := ⟨_, rfl⟩
  have b6 : Below w5.heap.size w5 w6 := by rw [hw6]; exact (Below.refl _ w5).alloc (Nat.le_refl _) _
  have kS6 : BoxC w6 gS 25 #[.bool S.b, .slice rS S.X.length cS, .slice sS S.Y.length dS] := by rw [hw6, hgS]; exact boxc_new _ _ _
  have FA6 := FA5.keep b6
  have FB6 := FB5.keep b6
  have kA6 := boxc_keep kA5 b6
  have kB6 := boxc_keep kB5 b6
  have FC6 := FC5.keep b6
  have kC6 := boxc_keep kC5 b6
  have FS6 := FS5.keep b6
  have B6 := B5.trans (b6.mono B5.size)
  clear FA5 FB5 kA5 kB5 FC5 kC5 FS5 B5 b6
  go_upto_region 6 with fail
  rw [← hw6, ← hgS]
  clear hw6 hgS
  obtain ⟨kAc0, kAc1, kAc2, _, kAcn⟩ := boxc3 kA6
  obtain ⟨kBc0, kBc1, kBc2, _, kBcn⟩ := boxc3 kB6
  go_wp2_with fail
  refine Calls.mono (SAD.out _ _ _ S _ _ _ _ _ _ _ _ hS.out FA6 FB6) ?_
  rintro e w7 ⟨rW, sW, cW, dW, rfl, FW7, bq⟩
  clear kAc0 kAc1 kAc2 kBc0 kBc1 kBc2
  have FA7 := FA6.keep bq
  have FB7 := FB6.keep bq
  have kA7 := boxc_keep kA6 bq
  have kB7 := boxc_keep kB6 bq
  have FC7 := FC6.keep bq
  have kC7 := boxc_keep kC6 bq
  have FS7 := FS6.keep bq
  have kS7 := boxc_keep kS6 bq
  have B7 := B6.trans (bq.mono B6.size)
  clear FA6 FB6 kA6 kB6 FC6 kC6 FS6 kS6 B6 bq
  obtain ⟨w8, hw8⟩ : ∃ w8, w8 = w7.alloc (.cells #[.bool S.b, .slice rW S.X.length cW, .slice sW S.Y.length dW] 25) := ⟨_, rfl⟩
  obtain ⟨gW, hgW⟩ : ∃ gW, gW = w7.heap.size := ⟨_, rfl⟩
  have b8 : Below w7.heap.size w7 w8 := by rw [hw8]; exact (Below.refl _ w7).alloc (Nat.le_refl _) _
  have kW8 : BoxC w8 gW 25 #[.bool S.b, .slice rW S.X.length cW, .slice sW S.Y.length dW] := by rw [hw8, hgW]; exact boxc_new _ _ _
  have FA8 := FA7.keep b8
  have FB8 := FB7.keep b8
  have kA8 := boxc_keep kA7 b8
  have kB8 := boxc_keep kB7 b8
  have FC8 := FC7.keep b8
  have kC8 := boxc_keep kC7 b8
  have FS8 := FS7.keep b8
  have kS8 := boxc_keep kS7 b8
  have FW8 := FW7.keep b8
  have B8 := B7.trans (b8.mono B7.size)
  clear FA7 FB7 kA7 kB7 FC7 kC7 FS7 kS7 FW7 B7 b8
  go_upto_region 7 with fail
  rw [← hw8, ← hgW]
  clear hw8 hgW
  have neS : (S.ok != S.ok) = false := by simp
  obtain ⟨kSc0, kSc1, kSc2, _, kScn⟩ := boxc3 kS8
  obtain ⟨kWc0, kWc1, kWc2, _, kWcn⟩ := boxc3 kW8
  go_wp2_with fail
  refine Calls.mono (PW.out _ _ _ _ _ _ _ _ _ _ FS8 FW8) ?_
  rintro e w9 ⟨rfl, bq⟩
  clear kSc0 kSc1 kSc2 kWc0 kWc1 kWc2
  have FA9 := FA8.keep bq
  have FB9 := FB8.keep bq
  have kA9 := boxc_keep kA8 bq
  have kB9 := boxc_keep kB8 bq
  have FC9 := FC8.keep bq
  have kC9 := boxc_keep kC8 bq
  have FS9 := FS8.keep bq
  have kS9 := boxc_keep kS8 bq
  have FW9 := FW8.keep bq
  have kW9 := boxc_keep kW8 bq
  have B9 := B8.trans (bq.mono B8.size)
  clear FA8 FB8 kA8 kB8 FC8 kC8 FS8 kS8 FW8 kW8 B8 bq
  clear kW9 FW9
  have hd9 := Hdl.keep HH.out B9 (Hdl.pos HH.out)
  obtain ⟨kAc0, kAc1, kAc2, _, kAcn⟩ := boxc3 kA9
  obtain ⟨kBc0, kBc1, kBc2, _, kBcn⟩ := boxc3 kB9
  go_wp2_with fail
  refine Calls.mono (MUL.out _ _ _ P _ _ _ _ _ _ _ _ hP.out hd9 FA9 FB9) ?_
  rintro e w10 ⟨rP, sP, cP, dP, rfl, FP10, bq⟩
  clear kAc0 kAc1 kAc2 kBc0 kBc1 kBc2
  clear hd9
  have FA10 := FA9.keep bq
  have FB10 := FB9.keep bq
  have kA10 := boxc_keep kA9 bq
  have kB10 := boxc_keep kB9 bq
  have FC10 := FC9.keep bq
  have kC10 := boxc_keep kC9 bq
  have FS10 := FS9.keep bq
  have kS10 := boxc_keep kS9 bq
  have B10 := B9.trans (bq.mono B9.size)
  clear FA9 FB9 kA9 kB9 FC9 kC9 FS9 kS9 B9 bq
  obtain ⟨w11, hw11⟩ : ∃ w11, w11 = w10.alloc (.cells #[.bool P.b, .slice rP P.X.length cP, .slice sP P.Y.length dP] 25) := ⟨_, rfl⟩
  obtain ⟨gP, hgP⟩ : ∃ gP, gP = w10.heap.size := ⟨_, rfl⟩
  have b11 : Below w10.heap.size w10 w11 := by rw [hw11]; exact (Below.refl _ w10).alloc (Nat.le_refl _) _
  have kP11 : BoxC w11 gP 25 #[.bool P.b, .slice rP P.X.length cP, .slice sP P.Y.length dP] := by rw [hw11, hgP]; exact boxc_new _ _ _
  have FA11 := FA10.keep b11
  have FB11 := FB10.keep b11
  have kA11 := boxc_keep kA10 b11
  have kB11 := boxc_keep kB10 b11
  have FC11 := FC10.keep b11
  have kC11 := boxc_keep kC10 b11
  have FS11 := FS10.keep b11
  have kS11 := boxc_keep kS10 b11
  have FP11 := FP10.keep b11
  have B11 := B10.trans (b11.mono B10.size)
  clear FA10 FB10 kA10 kB10 FC10 kC10 FS10 kS10 FP10 B10 b11
  go_upto_region 10 with fail
  rw [← hw11, ← hgP]
  clear hw11 hgP
  obtain ⟨kAc0, kAc1, kAc2, _, kAcn⟩ := boxc3 kA11
  obtain ⟨kBc0, kBc1, kBc2, _, kBcn⟩ := boxc3 kB11
  go_wp2_with fail
  refine Calls.mono (SMU.out _ _ _ P _ _ _ _ _ _ _ _ hP.out FA11 FB11) ?_
  rintro e w12 ⟨rV, sV, cV, dV, rfl, FV12, bq⟩
  clear kAc0 kAc1 kAc2 kBc0 kBc1 kBc2
  have FA12 := FA11.keep bq
  have FB12 := FB11.keep bq
  have kA12 := boxc_keep kA11 bq
  have kB12 := boxc_keep kB11 bq
  have FC12 := FC11.keep bq
  have kC12 := boxc_keep kC11 bq
  have FS12 := FS11.keep bq
  have kS12 := boxc_keep kS11 bq
  have FP12 := FP11.keep bq
  have kP12 := boxc_keep kP11 bq
  have B12 := B11.trans (bq.mono B11.size)
  clear FA11 FB11 kA11 kB11 FC11 kC11 FS11 kS11 FP11 kP11 B11 bq
  obtain ⟨w13, hw13⟩ : ∃ w13, w13 = w12.alloc (.cells #[.bool P.b, .slice rV P.X.length cV, .slice sV P.Y.length dV] 25) := ⟨_, rfl⟩
  obtain ⟨gV, hgV⟩ : ∃ gV, gV = w12.heap.size := ⟨_, rfl⟩
  have b13 : Below w12.heap.size w12 w13 := by rw [hw13]; exact (Below.refl _ w12).alloc (Nat.le_refl _) _
  have kV13 : BoxC w13 gV 25 #[.bool P.b, .slice rV P.X.length cV, .slice sV P.Y.length dV] := by rw [hw13, hgV]; exact boxc_new _ _ _
  have FA13 := FA12.keep b13
  have FB13 := FB12.keep b13
  have kA13 := boxc_keep kA12 b13
  have kB13 := boxc_keep kB12 b13
  have FC13 := FC12.keep b13
  have kC13 := boxc_keep kC12 b13
  have FS13 := FS12.keep b13
  have kS13 := boxc_keep kS12 b13
  have FP13 := FP12.keep b13
  have kP13 := boxc_keep kP12 b13
  have FV13 := FV12.keep b13
  have B13 := B12.trans (b13.mono B12.size)
  clear FA12 FB12 kA12 kB12 FC12 kC12 FS12 kS12 FP12 kP12 FV12 B12 b13
  go_upto_region 11 with fail
  rw [← hw13, ← hgV]
  clear hw13 hgV
  have neP : (P.ok != P.ok) = false := by simp
  obtain ⟨kPc0, kPc1, kPc2, _, kPcn⟩ := boxc3 kP13
  obtain ⟨kVc0, kVc1, kVc2, _, kVcn⟩ := boxc3 kV13
  go_wp2_with fail
  refine Calls.mono (PW.out _ _ _ _ _ _ _ _ _ _ FP13 FV13) ?_
  rintro e w14 ⟨rfl, bq⟩
  clear kPc0 kPc1 kPc2 kVc0 kVc1 kVc2
  have FA14 := FA13.keep bq
  have FB14 := FB13.keep bq
  have kA14 := boxc_keep kA13 bq
  have kB14 := boxc_keep kB13 bq
  have FC14 := FC13.keep bq
  have kC14 := boxc_keep kC13 bq
  have FS14 := FS13.keep bq
  have kS14 := boxc_keep kS13 bq
  have FP14 := FP13.keep bq
  have kP14 := boxc_keep kP13 bq
  have FV14 := FV13.keep bq
  have kV14 := boxc_keep kV13 bq
  have B14 := B13.trans (bq.mono B13.size)
  clear FA13 FB13 kA13 kB13 FC13 kC13 FS13 kS13 FP13 kP13 FV13 kV13 B13 bq
  clear kV14 FV14
  clear neS neP
  cases okS : S.ok with
  | false =>
    have HBB : Hid (Below w.heap.size w w14) := B14
    clear ADD MUL SUB DIV SAD SMU PW SG hS hP hBC hPC hAC hL1 hL2 hL3 hAok HH FA14 FB14 kA14 kB14 FC14 kC14 FS14 kS14 FP14 kP14 B14
    go_wp2
    go_ret
    exact ⟨rfl, HBB.out⟩
  | true =>
    cases okP : P.ok with
    | false =>
      have HBB : Hid (Below w.heap.size w w14) := B14
      clear ADD MUL SUB DIV SAD SMU PW SG hS hP hBC hPC hAC hL1 hL2 hL3 hAok HH FA14 FB14 kA14 kB14 FC14 kC14 FS14 kS14 FP14 kP14 B14
      go_wp2
      go_ret
      exact ⟨rfl, HBB.out⟩
    | true =>
      go_upto_region 15 with fail
      have hd14 := Hdl.keep HH.out B14 (Hdl.pos HH.out)
      obtain ⟨kBc0, kBc1, kBc2, _, kBcn⟩ := boxc3 kB14
      obtain ⟨kAc0, kAc1, kAc2, _, kAcn⟩ := boxc3 kA14
      go_wp2_with fail
      refine Calls.mono (ADD.out _ _ _ S _ _ _ _ _ _ _ _ (by rw [hS.out]; exact (top_add (by rw [← hS.out]; exact okS)).symm) hd14 FB14 FA14) ?_
      rintro e w15 ⟨rT, sT, cT, dT, rfl, FT15, bq⟩
      clear kBc0 kBc1 kBc2 kAc0 kAc1 kAc2
      clear hd14
      have FA15 := FA14.keep bq
      have FB15 := FB14.keep bq
      have kA15 := boxc_keep kA14 bq
      have kB15 := boxc_keep kB14 bq
      have FC15 := FC14.keep bq
      have kC15 := boxc_keep kC14 bq
      have FS15 := FS14.keep bq
      have kS15 := boxc_keep kS14 bq
      have FP15 := FP14.keep bq
      have kP15 := boxc_keep kP14 bq
      have B15 := B14.trans (bq.mono B14.size)
      clear FA14 FB14 kA14 kB14 FC14 kC14 FS14 kS14 FP14 kP14 B14 bq
      obtain ⟨w16, hw16⟩ : ∃ w16, w16 = w15.alloc (.cells #[.bool S.b, .slice rT S.X.length cT, .slice sT S.Y.length dT] 25) := ⟨_, rfl⟩
      obtain ⟨gT, hgT⟩ : ∃ gT, gT = w15.heap.size := ⟨_, rfl⟩
      have b16 : Below w15.heap.size w15 w16 := by rw [hw16]; exact (Below.refl _ w15).alloc (Nat.le_refl _) _
      have kT16 : BoxC w16 gT 25 #[.bool S.b, .slice rT S.X.length cT, .slice sT S.Y.length dT] := by rw [hw16, hgT]; exact boxc_new _ _ _
      have FA16 := FA15.keep b16
      have FB16 := FB15.keep b16
      have kA16 := boxc_keep kA15 b16
      have kB16 := boxc_keep kB15 b16
      have FC16 := FC15.keep b16
      have kC16 := boxc_keep kC15 b16
      have FS16 := FS15.keep b16
      have kS16 := boxc_keep kS15 b16
      have FP16 := FP15.keep b16
      have kP16 := boxc_keep kP15 b16
      have FT16 := FT15.keep b16
      have B16 := B15.trans (b16.mono B15.size)
      clear FA15 FB15 kA15 kB15 FC15 kC15 FS15 kS15 FP15 kP15 FT15 B15 b16
      go_upto_region 16 with fail
      rw [← hw16, ← hgT]
      clear hw16 hgT
      have hd16 := Hdl.keep HH.out B16 (Hdl.pos HH.out)
      obtain ⟨kBc0, kBc1, kBc2, _, kBcn⟩ := boxc3 kB16
      obtain ⟨kAc0, kAc1, kAc2, _, kAcn⟩ := boxc3 kA16
      go_wp2_with fail
      refine Calls.mono (MUL.out _ _ _ P _ _ _ _ _ _ _ _ (by rw [hP.out]; exact (top_mul (by rw [← hP.out]; exact okP)).symm) hd16 FB16 FA16) ?_
      rintro e w17 ⟨rQ, sQ, cQ, dQ, rfl, FQ17, bq⟩
      clear kBc0 kBc1 kBc2 kAc0 kAc1 kAc2
      clear hd16
      have FA17 := FA16.keep bq
      have FB17 := FB16.keep bq
      have kA17 := boxc_keep kA16 bq
      have kB17 := boxc_keep kB16 bq
      have FC17 := FC16.keep bq
      have kC17 := boxc_keep kC16 bq
      have FS17 := FS16.keep bq
      have kS17 := boxc_keep kS16 bq
      have FP17 := FP16.keep bq
      have kP17 := boxc_keep kP16 bq
      have FT17 := FT16.keep bq
      have kT17 := boxc_keep kT16 bq
      have B17 := B16.trans (bq.mono B16.size)
      clear FA16 FB16 kA16 kB16 FC16 kC16 FS16 kS16 FP16 kP16 FT16 kT16 B16 bq
      obtain ⟨w18, hw18⟩ : ∃ w18, w18 = w17.alloc (.cells #[.bool P.b, .slice rQ P.X.length cQ, .slice sQ P.Y.length dQ] 25) := ⟨_, rfl⟩
      obtain ⟨gQ, hgQ⟩ : ∃ gQ, gQ = w17.heap.size := ⟨_, rfl⟩
      have b18 : Below w17.heap.size w17 w18 := by rw [hw18]; exact (Below.refl _ w17).alloc (Nat.le_refl _) _
      have kQ18 : BoxC w18 gQ 25 #[.bool P.b, .slice rQ P.X.length cQ, .slice sQ P.Y.length dQ] := by rw [hw18, hgQ]; exact boxc_new _ _ _
      have FA18 := FA17.keep b18
      have FB18 := FB17.keep b18
      have kA18 := boxc_keep kA17 b18
      have kB18 := boxc_keep kB17 b18
      have FC18 := FC17.keep b18
      have kC18 := boxc_keep kC17 b18
      have FS18 := FS17.keep b18
      have kS18 := boxc_keep kS17 b18
      have FP18 := FP17.keep b18
      have kP18 := boxc_keep kP17 b18
      have FT18 := FT17.keep b18
      have kT18 := boxc_keep kT17 b18
      have FQ18 := FQ17.keep b18
      have B18 := B17.trans (b18.mono B17.size)
      clear FA17 FB17 kA17 kB17 FC17 kC17 FS17 kS17 FP17 kP17 FT17 kT17 FQ17 B17 b18
      go_upto_region 17 with fail
      rw [← hw18, ← hgQ]
      clear hw18 hgQ
      try rw [okS]
      try rw [okP]
      obtain ⟨kSc0, kSc1, kSc2, _, kScn⟩ := boxc3 kS18
      obtain ⟨kTc0, kTc1, kTc2, _, kTcn⟩ := boxc3 kT18
      go_wp2_with fail
      refine Calls.mono (PW.out _ _ _ _ _ _ _ _ _ _ FS18 FT18) ?_
      rintro e w19 ⟨rfl, bq⟩
      clear kSc0 kSc1 kSc2 kTc0 kTc1 kTc2
      have FA19 := FA18.keep bq
      have FB19 := FB18.keep bq
      have kA19 := boxc_keep kA18 bq
      have kB19 := boxc_keep kB18 bq
      have FC19 := FC18.keep bq
      have kC19 := boxc_keep kC18 bq
      have FS19 := FS18.keep bq
      have kS19 := boxc_keep kS18 bq
      have FP19 := FP18.keep bq
      have kP19 := boxc_keep kP18 bq
      have FT19 := FT18.keep bq
      have kT19 := boxc_keep kT18 bq
      have FQ19 := FQ18.keep bq
      have kQ19 := boxc_keep kQ18 bq
      have B19 := B18.trans (bq.mono B18.size)
      clear FA18 FB18 kA18 kB18 FC18 kC18 FS18 kS18 FP18 kP18 FT18 kT18 FQ18 kQ18 B18 bq
      obtain ⟨kPc0, kPc1, kPc2, _, kPcn⟩ := boxc3 kP19
      obtain ⟨kQc0, kQc1, kQc2, _, kQcn⟩ := boxc3 kQ19
      go_wp2_with fail
      refine Calls.mono (PW.out _ _ _ _ _ _ _ _ _ _ FP19 FQ19) ?_
      rintro e w20 ⟨rfl, bq⟩
      clear kPc0 kPc1 kPc2 kQc0 kQc1 kQc2
      have FA20 := FA19.keep bq
      have FB20 := FB19.keep bq
      have kA20 := boxc_keep kA19 bq
      have kB20 := boxc_keep kB19 bq
      have FC20 := FC19.keep bq
      have kC20 := boxc_keep kC19 bq
      have FS20 := FS19.keep bq
      have kS20 := boxc_keep kS19 bq
      have FP20 := FP19.keep bq
      have kP20 := boxc_keep kP19 bq
      have FT20 := FT19.keep bq
      have kT20 := boxc_keep kT19 bq
      have FQ20 := FQ19.keep bq
      have kQ20 := boxc_keep kQ19 bq
      have B20 := B19.trans (bq.mono B19.size)
      clear FA19 FB19 kA19 kB19 FC19 kC19 FS19 kS19 FP19 kP19 FT19 kT19 FQ19 kQ19 B19 bq
      clear kT20 FT20 kQ20 FQ20
      have hd20 := Hdl.keep HH.out B20 (Hdl.pos HH.out)
      obtain ⟨kSc0, kSc1, kSc2, _, kScn⟩ := boxc3 kS20
      obtain ⟨kBc0, kBc1, kBc2, _, kBcn⟩ := boxc3 kB20
      go_wp2_with fail
      refine Calls.mono (SUB.out _ _ _ A _ _ _ _ _ _ _ _ (by rw [hS.out]; exact (top_sub hAok.out (by rw [← hS.out]; exact okS)).symm) hd20 FS20 FB20) ?_
      rintro e w21 ⟨rK, sK, cK, dK, rfl, FK21, bq⟩
      clear kSc0 kSc1 kSc2 kBc0 kBc1 kBc2
      clear hd20
      have FA21 := FA20.keep bq
      have FB21 := FB20.keep bq
      have kA21 := boxc_keep kA20 bq
      have kB21 := boxc_keep kB20 bq
      have FC21 := FC20.keep bq
      have kC21 := boxc_keep kC20 bq
      have FS21 := FS20.keep bq
      have kS21 := boxc_keep kS20 bq
      have FP21 := FP20.keep bq
      have kP21 := boxc_keep kP20 bq
      have B21 := B20.trans (bq.mono B20.size)
      clear FA20 FB20 kA20 kB20 FC20 kC20 FS20 kS20 FP20 kP20 B20 bq
      have jkA := boxc_lt kA21
      have jkB := boxc_lt kB21
      have jkC := boxc_lt kC21
      have jkS := boxc_lt kS21
      have jkP := boxc_lt kP21
      have jsz := B21.size
      obtain ⟨w22, hw22⟩ : ∃ w22, w22 = w21.alloc (.cells #[.bool A.b, .slice rK A.X.length cK, .slice sK A.Y.length dK] 25) := ⟨_, rfl⟩
      obtain ⟨gK, hgK⟩ : ∃ gK, gK = w21.heap.size := ⟨_, rfl⟩
      have b22 : Below w21.heap.size w21 w22 := by rw [hw22]; exact (Below.refl _ w21).alloc (Nat.le_refl _) _
      have kK22 : BoxC w22 gK 25 #[.bool A.b, .slice rK A.X.length cK, .slice sK A.Y.length dK] := by rw [hw22, hgK]; exact boxc_new _ _ _
      have FA22 := FA21.keep b22
      have FB22 := FB21.keep b22
      have kA22 := boxc_keep kA21 b22
      have kB22 := boxc_keep kB21 b22
      have FC22 := FC21.keep b22
      have kC22 := boxc_keep kC21 b22
      have FS22 := FS21.keep b22
      have kS22 := boxc_keep kS21 b22
      have FP22 := FP21.keep b22
      have kP22 := boxc_keep kP21 b22
      have FK22 := FK21.keep b22
      have B22 := B21.trans (b22.mono B21.size)
      clear FA21 FB21 kA21 kB21 FC21 kC21 FS21 kS21 FP21 kP21 FK21 B21 b22
      have iKkA : gA < gK := by rw [hgK]; exact jkA
      have iKkB : gA + 1 < gK := by rw [hgK]; exact jkB
      have iKkC : gC < gK := by rw [hgK]; exact jkC
      have iKkS : gS < gK := by rw [hgK]; exact jkS
      have iKkP : gP < gK := by rw [hgK]; exact jkP
      have iK0 : w.heap.size ≤ gK := by rw [hgK]; exact jsz
      clear jsz
      go_upto_region 20 with fail
      rw [← hw22, ← hgK]
      clear hw22 hgK jkA jkB jkC jkS jkP
      have okA := hAok.out
      try rw [okA]
      obtain ⟨kKc0, kKc1, kKc2, _, kKcn⟩ := boxc3 kK22
      obtain ⟨kAc0, kAc1, kAc2, _, kAcn⟩ := boxc3 kA22
      go_wp2_with fail
      refine Calls.mono (PW.out _ _ _ _ _ _ _ _ _ _ FK22 FA22) ?_
      rintro e w23 ⟨rfl, bq⟩
      clear kKc0 kKc1 kKc2 kAc0 kAc1 kAc2
      have FA23 := FA22.keep bq
      have FB23 := FB22.keep bq
      have kA23 := boxc_keep kA22 bq
      have kB23 := boxc_keep kB22 bq
      have FC23 := FC22.keep bq
      have kC23 := boxc_keep kC22 bq
      have FS23 := FS22.keep bq
      have kS23 := boxc_keep kS22 bq
      have FP23 := FP22.keep bq
      have kP23 := boxc_keep kP22 bq
      have FK23 := FK22.keep bq
      have kK23 := boxc_keep kK22 bq
      have B23 := B22.trans (bq.mono B22.size)
      clear FA22 FB22 kA22 kB22 FC22 kC22 FS22 kS22 FP22 kP22 FK22 kK22 B22 bq
      clear FK23
      have hd23 := Hdl.keep HH.out B23 (Hdl.pos HH.out)
      obtain ⟨kBc0, kBc1, kBc2, _, kBcn⟩ := boxc3 kB23
      go_wp2_with fail
      refine Calls.mono (SG.out _ _ _ _ _ _ hd23 FB23) ?_
      rintro e w24 ⟨rfl, bq⟩
      clear kBc0 kBc1 kBc2
      clear hd23
      have FA24 := FA23.keep bq
      have FB24 := FB23.keep bq
      have kA24 := boxc_keep kA23 bq
      have kB24 := boxc_keep kB23 bq
      have FC24 := FC23.keep bq
      have kC24 := boxc_keep kC23 bq
      have FS24 := FS23.keep bq
      have kS24 := boxc_keep kS23 bq
      have FP24 := FP23.keep bq
      have kP24 := boxc_keep kP23 bq
      have kK24 := boxc_keep kK23 bq
      have B24 := B23.trans (bq.mono B23.size)
      clear FA23 FB23 kA23 kB23 FC23 kC23 FS23 kS23 FP23 kP23 kK23 B23 bq
      obtain ⟨z, hz⟩ : ∃ z, z = sgA B.b B.X B.Y := ⟨_, rfl⟩
      have HZ : Hid (z = sgA B.b B.X B.Y) := hz
      rw [← hz]
      clear hz
      by_cases hz0 : z = 0
      · subst hz0
        clear HZ
        clear kK24
        go_upto_region 26 with fail
        have hd24 := Hdl.keep HH.out B24 (Hdl.pos HH.out)
        obtain ⟨kBc0, kBc1, kBc2, _, kBcn⟩ := boxc3 kB24
        obtain ⟨kCc0, kCc1, kCc2, _, kCcn⟩ := boxc3 kC24
        go_wp2_with fail
        refine Calls.mono (ADD.out _ _ _ BC _ _ _ _ _ _ _ _ hBC.out hd24 FB24 FC24) ?_
        rintro e w25 ⟨rBC, sBC, cBC, dBC, rfl, FBC25, bq⟩
        clear kBc0 kBc1 kBc2 kCc0 kCc1 kCc2
        clear hd24
        have FA25 := FA24.keep bq
        have FB25 := FB24.keep bq
        have kA25 := boxc_keep kA24 bq
        have kB25 := boxc_keep kB24 bq
        have FC25 := FC24.keep bq
        have kC25 := boxc_keep kC24 bq
        have FS25 := FS24.keep bq
        have kS25 := boxc_keep kS24 bq
        have FP25 := FP24.keep bq
        have kP25 := boxc_keep kP24 bq
        have B25 := B24.trans (bq.mono B24.size)
        clear FA24 FB24 kA24 kB24 FC24 kC24 FS24 kS24 FP24 kP24 B24 bq
        obtain ⟨w26, hw26⟩ : ∃ w26, w26 = w25.alloc (.cells #[.bool BC.b, .slice rBC BC.X.length cBC, .slice sBC BC.Y.length dBC] 25) := ⟨_, rfl⟩
        obtain ⟨gBC, hgBC⟩ : ∃ gBC, gBC = w25.heap.size := ⟨_, rfl⟩
        have b26 : Below w25.heap.size w25 w26 := by rw [hw26]; exact (Below.refl _ w25).alloc (Nat.le_refl _) _
        have kBC26 : BoxC w26 gBC 25 #[.bool BC.b, .slice rBC BC.X.length cBC, .slice sBC BC.Y.length dBC] := by rw [hw26, hgBC]; exact boxc_new _ _ _
        have FA26 := FA25.keep b26
        have FB26 := FB25.keep b26
        have kA26 := boxc_keep kA25 b26
        have kB26 := boxc_keep kB25 b26
        have FC26 := FC25.keep b26
        have kC26 := boxc_keep kC25 b26
        have FS26 := FS25.keep b26
        have kS26 := boxc_keep kS25 b26
        have FP26 := FP25.keep b26
        have kP26 := boxc_keep kP25 b26
        have FBC26 := FBC25.keep b26
        have B26 := B25.trans (b26.mono B25.size)
        clear FA25 FB25 kA25 kB25 FC25 kC25 FS25 kS25 FP25 kP25 FBC25 B25 b26
        go_upto_region 27 with fail
        rw [← hw26, ← hgBC]
        clear hw26 hgBC
        have hd26 := Hdl.keep HH.out B26 (Hdl.pos HH.out)
        obtain ⟨kBc0, kBc1, kBc2, _, kBcn⟩ := boxc3 kB26
        obtain ⟨kCc0, kCc1, kCc2, _, kCcn⟩ := boxc3 kC26
        go_wp2_with fail
        refine Calls.mono (MUL.out _ _ _ PC _ _ _ _ _ _ _ _ hPC.out hd26 FB26 FC26) ?_
        rintro e w27 ⟨rPC, sPC, cPC, dPC, rfl, FPC27, bq⟩
        clear kBc0 kBc1 kBc2 kCc0 kCc1 kCc2
        clear hd26
        have FA27 := FA26.keep bq
        have FB27 := FB26.keep bq
        have kA27 := boxc_keep kA26 bq
        have kB27 := boxc_keep kB26 bq
        have FC27 := FC26.keep bq
        have kC27 := boxc_keep kC26 bq
        have FS27 := FS26.keep bq
        have kS27 := boxc_keep kS26 bq
        have FP27 := FP26.keep bq
        have kP27 := boxc_keep kP26 bq
        have FBC27 := FBC26.keep bq
        have kBC27 := boxc_keep kBC26 bq
        have B27 := B26.trans (bq.mono B26.size)
        clear FA26 FB26 kA26 kB26 FC26 kC26 FS26 kS26 FP26 kP26 FBC26 kBC26 B26 bq
        obtain ⟨w28, hw28⟩ : ∃ w28, w28 = w27.alloc (.cells #[.bool PC.b, .slice rPC PC.X.length cPC, .slice sPC PC.Y.length dPC] 25) := ⟨_, rfl⟩
        obtain ⟨gPC, hgPC⟩ : ∃ gPC, gPC = w27.heap.size := ⟨_, rfl⟩
        have b28 : Below w27.heap.size w27 w28 := by rw [hw28]; exact (Below.refl _ w27).alloc (Nat.le_refl _) _
        have kPC28 : BoxC w28 gPC 25 #[.bool PC.b, .slice rPC PC.X.length cPC, .slice sPC PC.Y.length dPC] := by rw [hw28, hgPC]; exact boxc_new _ _ _
        have FA28 := FA27.keep b28
        have FB28 := FB27.keep b28
        have kA28 := boxc_keep kA27 b28
        have kB28 := boxc_keep kB27 b28
        have FC28 := FC27.keep b28
        have kC28 := boxc_keep kC27 b28
        have FS28 := FS27.keep b28
        have kS28 := boxc_keep kS27 b28
        have FP28 := FP27.keep b28
        have kP28 := boxc_keep kP27 b28
        have FBC28 := FBC27.keep b28
        have kBC28 := boxc_keep kBC27 b28
        have FPC28 := FPC27.keep b28
        have B28 := B27.trans (b28.mono B27.size)
        clear FA27 FB27 kA27 kB27 FC27 kC27 FS27 kS27 FP27 kP27 FBC27 kBC27 FPC27 B27 b28
        go_upto_region 28 with fail
        rw [← hw28, ← hgPC]
        clear hw28 hgPC
        have hd28 := Hdl.keep HH.out B28 (Hdl.pos HH.out)
        obtain ⟨kAc0, kAc1, kAc2, _, kAcn⟩ := boxc3 kA28
        obtain ⟨kCc0, kCc1, kCc2, _, kCcn⟩ := boxc3 kC28
        go_wp2_with fail
        refine Calls.mono (MUL.out _ _ _ AC _ _ _ _ _ _ _ _ hAC.out hd28 FA28 FC28) ?_
        rintro e w29 ⟨rAC, sAC, cAC, dAC, rfl, FAC29, bq⟩
        clear kAc0 kAc1 kAc2 kCc0 kCc1 kCc2
        clear hd28
        have FA29 := FA28.keep bq
        have FB29 := FB28.keep bq
        have kA29 := boxc_keep kA28 bq
        have kB29 := boxc_keep kB28 bq
        have FC29 := FC28.keep bq
        have kC29 := boxc_keep kC28 bq
        have FS29 := FS28.keep bq
        have kS29 := boxc_keep kS28 bq
        have FP29 := FP28.keep bq
        have kP29 := boxc_keep kP28 bq
        have FBC29 := FBC28.keep bq
        have kBC29 := boxc_keep kBC28 bq
        have FPC29 := FPC28.keep bq
        have kPC29 := boxc_keep kPC28 bq
        have B29 := B28.trans (bq.mono B28.size)
        clear FA28 FB28 kA28 kB28 FC28 kC28 FS28 kS28 FP28 kP28 FBC28 kBC28 FPC28 kPC28 B28 bq
        obtain ⟨w30, hw30⟩ : ∃ w30, w30 = w29.alloc (.cells #[.bool AC.b, .slice rAC AC.X.length cAC, .slice sAC AC.Y.length dAC] 25) := ⟨_, rfl⟩
        obtain ⟨gAC, hgAC⟩ : ∃ gAC, gAC = w29.heap.size := ⟨_, rfl⟩
        have b30 : Below w29.heap.size w29 w30 := by rw [hw30]; exact (Below.refl _ w29).alloc (Nat.le_refl _) _
        have kAC30 : BoxC w30 gAC 25 #[.bool AC.b, .slice rAC AC.X.length cAC, .slice sAC AC.Y.length dAC] := by rw [hw30, hgAC]; exact boxc_new _ _ _
        have FA30 := FA29.keep b30
        have FB30 := FB29.keep b30
        have kA30 := boxc_keep kA29 b30
        have kB30 := boxc_keep kB29 b30
        have FC30 := FC29.keep b30
        have kC30 := boxc_keep kC29 b30
        have FS30 := FS29.keep b30
        have kS30 := boxc_keep kS29 b30
        have FP30 := FP29.keep b30
        have kP30 := boxc_keep kP29 b30
        have FBC30 := FBC29.keep b30
        have kBC30 := boxc_keep kBC29 b30
        have FPC30 := FPC29.keep b30
        have kPC30 := boxc_keep kPC29 b30
        have FAC30 := FAC29.keep b30
        have B30 := B29.trans (b30.mono B29.size)
        clear FA29 FB29 kA29 kB29 FC29 kC29 FS29 kS29 FP29 kP29 FBC29 kBC29 FPC29 kPC29 FAC29 B29 b30
        go_upto_region 29 with fail
        rw [← hw30, ← hgAC]
        clear hw30 hgAC
        cases okBC : BC.ok with
        | false =>
          have HBB : Hid (Below w.heap.size w w30) := B30
          clear ADD MUL SUB DIV SAD SMU PW SG hS hP hBC hPC hAC hL1 hL2 hL3 hAok HH FA30 FB30 kA30 kB30 FC30 kC30 FS30 kS30 FP30 kP30 FBC30 kBC30 FPC30 kPC30 FAC30 kAC30 B30
          go_wp2
          go_ret
          exact ⟨rfl, HBB.out⟩
        | true =>
          cases okPC : PC.ok with
          | false =>
            have HBB : Hid (Below w.heap.size w w30) := B30
            clear ADD MUL SUB DIV SAD SMU PW SG hS hP hBC hPC hAC hL1 hL2 hL3 hAok HH FA30 FB30 kA30 kB30 FC30 kC30 FS30 kS30 FP30 kP30 FBC30 kBC30 FPC30 kPC30 FAC30 kAC30 B30
            go_wp2
            go_ret
            exact ⟨rfl, HBB.out⟩
          | true =>
            cases okAC : AC.ok with
            | false =>
              have HBB : Hid (Below w.heap.size w w30) := B30
              clear ADD MUL SUB DIV SAD SMU PW SG hS hP hBC hPC hAC hL1 hL2 hL3 hAok HH FA30 FB30 kA30 kB30 FC30 kC30 FS30 kS30 FP30 kP30 FBC30 kBC30 FPC30 kPC30 FAC30 kAC30 B30
              go_wp2
              go_ret
              exact ⟨rfl, HBB.out⟩
            | true =>
              go_upto_region 30 with fail
              have hd30 := Hdl.keep HH.out B30 (Hdl.pos HH.out)
              obtain ⟨kSc0, kSc1, kSc2, _, kScn⟩ := boxc3 kS30
              obtain ⟨kCc0, kCc1, kCc2, _, kCcn⟩ := boxc3 kC30
              go_wp2_with fail
              refine Calls.mono (ADD.out _ _ _ L1 _ _ _ _ _ _ _ _ hL1.out hd30 FS30 FC30) ?_
              rintro e w31 ⟨rl, sl, cl, dl, rfl, Fl31, bq⟩
              clear kSc0 kSc1 kSc2 kCc0 kCc1 kCc2
              clear hd30
              have FA31 := FA30.keep bq
              have FB31 := FB30.keep bq
              have kA31 := boxc_keep kA30 bq
              have kB31 := boxc_keep kB30 bq
              have FC31 := FC30.keep bq
              have kC31 := boxc_keep kC30 bq
              have FS31 := FS30.keep bq
              have kS31 := boxc_keep kS30 bq
              have FP31 := FP30.keep bq
              have kP31 := boxc_keep kP30 bq
              have FBC31 := FBC30.keep bq
              have kBC31 := boxc_keep kBC30 bq
              have FPC31 := FPC30.keep bq
              have kPC31 := boxc_keep kPC30 bq
              have FAC31 := FAC30.keep bq
              have kAC31 := boxc_keep kAC30 bq
              have B31 := B30.trans (bq.mono B30.size)
              clear FA30 FB30 kA30 kB30 FC30 kC30 FS30 kS30 FP30 kP30 FBC30 kBC30 FPC30 kPC30 FAC30 kAC30 B30 bq
              have jkA := boxc_lt kA31
              have jkB := boxc_lt kB31
              have jkC := boxc_lt kC31
              have jkS := boxc_lt kS31
              have jkP := boxc_lt kP31
              have jkBC := boxc_lt kBC31
              have jkPC := boxc_lt kPC31
              have jkAC := boxc_lt kAC31
              have jsz := B31.size
              obtain ⟨w32, hw32⟩ : ∃ w32, w32 = w31.alloc (.cells #[.bool L1.b, .slice rl L1.X.length cl, .slice sl L1.Y.length dl] 25) := ⟨_, rfl⟩
              obtain ⟨gl, hgl⟩ : ∃ gl, gl = w31.heap.size := ⟨_, rfl⟩
              have b32 : Below w31.heap.size w31 w32 := by rw [hw32]; exact (Below.refl _ w31).alloc (Nat.le_refl _) _
              have kl32 : BoxC w32 gl 25 #[.bool L1.b, .slice rl L1.X.length cl, .slice sl L1.Y.length dl] := by rw [hw32, hgl]; exact boxc_new _ _ _
              have FA32 := FA31.keep b32
              have FB32 := FB31.keep b32
              have kA32 := boxc_keep kA31 b32
              have kB32 := boxc_keep kB31 b32
              have FC32 := FC31.keep b32
              have kC32 := boxc_keep kC31 b32
              have FS32 := FS31.keep b32
              have kS32 := boxc_keep kS31 b32
              have FP32 := FP31.keep b32
              have kP32 := boxc_keep kP31 b32
              have FBC32 := FBC31.keep b32
              have kBC32 := boxc_keep kBC31 b32
              have FPC32 := FPC31.keep b32
              have kPC32 := boxc_keep kPC31 b32
              have FAC32 := FAC31.keep b32
              have kAC32 := boxc_keep kAC31 b32
              have Fl32 := Fl31.keep b32
              have B32 := B31.trans (b32.mono B31.size)
              clear FA31 FB31 kA31 kB31 FC31 kC31 FS31 kS31 FP31 kP31 FBC31 kBC31 FPC31 kPC31 FAC31 kAC31 Fl31 B31 b32
              have ilkA : gA < gl := by rw [hgl]; exact jkA
              have ilkB : gA + 1 < gl := by rw [hgl]; exact jkB
              have ilkC : gC < gl := by rw [hgl]; exact jkC
              have ilkS : gS < gl := by rw [hgl]; exact jkS
              have ilkP : gP < gl := by rw [hgl]; exact jkP
              have ilkBC : gBC < gl := by rw [hgl]; exact jkBC
              have ilkPC : gPC < gl := by rw [hgl]; exact jkPC
              have ilkAC : gAC < gl := by rw [hgl]; exact jkAC
              have il0 : w.heap.size ≤ gl := by rw [hgl]; exact jsz
              clear jsz
              go_upto_region 31 with fail
              rw [← hw32, ← hgl]
              clear hw32 hgl jkA jkB jkC jkS jkP jkBC jkPC jkAC
              have hd32 := Hdl.keep HH.out B32 (Hdl.pos HH.out)
              obtain ⟨kAc0, kAc1, kAc2, _, kAcn⟩ := boxc3 kA32
              obtain ⟨kBCc0, kBCc1, kBCc2, _, kBCcn⟩ := boxc3 kBC32
              go_wp2_with fail
              refine Calls.mono (ADD.out _ _ _ L1 _ _ _ _ _ _ _ _ (by rw [hL1.out, hS.out, hBC.out]; exact top_assoc (by rw [← hS.out]; exact okS) (by rw [← hBC.out]; exact okBC)) hd32 FA32 FBC32) ?_
              rintro e w33 ⟨rn, sn, cn, dn, rfl, Fn33, bq⟩
              clear kAc0 kAc1 kAc2 kBCc0 kBCc1 kBCc2
              clear hd32
              have FA33 := FA32.keep bq
              have FB33 := FB32.keep bq
              have kA33 := boxc_keep kA32 bq
              have kB33 := boxc_keep kB32 bq
              have FC33 := FC32.keep bq
              have kC33 := boxc_keep kC32 bq
              have FS33 := FS32.keep bq
              have kS33 := boxc_keep kS32 bq
              have FP33 := FP32.keep bq
              have kP33 := boxc_keep kP32 bq
              have FBC33 := FBC32.keep bq
              have kBC33 := boxc_keep kBC32 bq
              have FPC33 := FPC32.keep bq
              have kPC33 := boxc_keep kPC32 bq
              have FAC33 := FAC32.keep bq
              have kAC33 := boxc_keep kAC32 bq
              have Fl33 := Fl32.keep bq
              have kl33 := boxc_keep kl32 bq
              have B33 := B32.trans (bq.mono B32.size)
              clear FA32 FB32 kA32 kB32 FC32 kC32 FS32 kS32 FP32 kP32 FBC32 kBC32 FPC32 kPC32 FAC32 kAC32 Fl32 kl32 B32 bq
              have jkA := boxc_lt kA33
              have jkB := boxc_lt kB33
              have jkC := boxc_lt kC33
              have jkS := boxc_lt kS33
              have jkP := boxc_lt kP33
              have jkBC := boxc_lt kBC33
              have jkPC := boxc_lt kPC33
              have jkAC := boxc_lt kAC33
              have jkl := boxc_lt kl33
              have jsz := B33.size
              obtain ⟨w34, hw34⟩ : ∃ w34, w34 = w33.alloc (.cells #[.bool L1.b, .slice rn L1.X.length cn, .slice sn L1.Y.length dn] 25) := ⟨_, rfl⟩
              obtain ⟨gn, hgn⟩ : ∃ gn, gn = w33.heap.size := ⟨_, rfl⟩
              have b34 : Below w33.heap.size w33 w34 := by rw [hw34]; exact (Below.refl _ w33).alloc (Nat.le_refl _) _
              have kn34 : BoxC w34 gn 25 #[.bool L1.b, .slice rn L1.X.length cn, .slice sn L1.Y.length dn] := by rw [hw34, hgn]; exact boxc_new _ _ _
              have FA34 := FA33.keep b34
              have FB34 := FB33.keep b34
              have kA34 := boxc_keep kA33 b34
              have kB34 := boxc_keep kB33 b34
              have FC34 := FC33.keep b34
              have kC34 := boxc_keep kC33 b34
              have FS34 := FS33.keep b34
              have kS34 := boxc_keep kS33 b34
              have FP34 := FP33.keep b34
              have kP34 := boxc_keep kP33 b34
              have FBC34 := FBC33.keep b34
              have kBC34 := boxc_keep kBC33 b34
              have FPC34 := FPC33.keep b34
              have kPC34 := boxc_keep kPC33 b34
              have FAC34 := FAC33.keep b34
              have kAC34 := boxc_keep kAC33 b34
              have Fl34 := Fl33.keep b34
              have kl34 := boxc_keep kl33 b34
              have Fn34 := Fn33.keep b34
              have B34 := B33.trans (b34.mono B33.size)
              clear FA33 FB33 kA33 kB33 FC33 kC33 FS33 kS33 FP33 kP33 FBC33 kBC33 FPC33 kPC33 FAC33 kAC33 Fl33 kl33 Fn33 B33 b34
              have inkA : gA < gn := by rw [hgn]; exact jkA
              have inkB : gA + 1 < gn := by rw [hgn]; exact jkB
              have inkC : gC < gn := by rw [hgn]; exact jkC
              have inkS : gS < gn := by rw [hgn]; exact jkS
              have inkP : gP < gn := by rw [hgn]; exact jkP
              have inkBC : gBC < gn := by rw [hgn]; exact jkBC
              have inkPC : gPC < gn := by rw [hgn]; exact jkPC
              have inkAC : gAC < gn := by rw [hgn]; exact jkAC
              have inkl : gl < gn := by rw [hgn]; exact jkl
              have in0 : w.heap.size ≤ gn := by rw [hgn]; exact jsz
              clear jsz
              go_upto_region 32 with fail
              rw [← hw34, ← hgn]
              clear hw34 hgn jkA jkB jkC jkS jkP jkBC jkPC jkAC jkl
              cases okL1 : L1.ok with
              | false =>
                clear Fl34 Fn34
                go_upto_region 34 with fail
                have hd34 := Hdl.keep HH.out B34 (Hdl.pos HH.out)
                obtain ⟨kPc0, kPc1, kPc2, _, kPcn⟩ := boxc3 kP34
                obtain ⟨kCc0, kCc1, kCc2, _, kCcn⟩ := boxc3 kC34
                go_wp2_with fail
                refine Calls.mono (MUL.out _ _ _ L2 _ _ _ _ _ _ _ _ hL2.out hd34 FP34 FC34) ?_
                rintro e w35 ⟨rl2, sl2, cl2, dl2, rfl, Fl235, bq⟩
                clear kPc0 kPc1 kPc2 kCc0 kCc1 kCc2
                clear hd34
                have FA35 := FA34.keep bq
                have FB35 := FB34.keep bq
                have kA35 := boxc_keep kA34 bq
                have kB35 := boxc_keep kB34 bq
                have FC35 := FC34.keep bq
                have kC35 := boxc_keep kC34 bq
                have FS35 := FS34.keep bq
                have kS35 := boxc_keep kS34 bq
                have FP35 := FP34.keep bq
                have kP35 := boxc_keep kP34 bq
                have FBC35 := FBC34.keep bq
                have kBC35 := boxc_keep kBC34 bq
                have FPC35 := FPC34.keep bq
                have kPC35 := boxc_keep kPC34 bq
                have FAC35 := FAC34.keep bq
                have kAC35 := boxc_keep kAC34 bq
                have kl35 := boxc_keep kl34 bq
                have kn35 := boxc_keep kn34 bq
                have B35 := B34.trans (bq.mono B34.size)
                clear FA34 FB34 kA34 kB34 FC34 kC34 FS34 kS34 FP34 kP34 FBC34 kBC34 FPC34 kPC34 FAC34 kAC34 kl34 kn34 B34 bq
                obtain ⟨w36, hw36⟩ : ∃ w36, w36 = ((w35.setCell ⟨gl, 0, none⟩ (.bool L2.b)).setCell ⟨gl, 1, none⟩ (.slice rl2 L2.X.length cl2)).setCell ⟨gl, 2, none⟩ (.slice sl2 L2.Y.length dl2) := ⟨_, rfl⟩
                have gs : w35.grownBy w36 (some gl) := by rw [hw36]; exact gr_set3 _ _ _ _ _
                have FA36 := FrR.put FA35 kl35 (.bool L2.b) (.slice rl2 L2.X.length cl2) (.slice sl2 L2.Y.length dl2)
                rw [← hw36] at FA36
                have FB36 := FrR.put FB35 kl35 (.bool L2.b) (.slice rl2 L2.X.length cl2) (.slice sl2 L2.Y.length dl2)
                rw [← hw36] at FB36
                have kA36 := boxc_kept kA35 gs (by intro e; have := Option.some.inj e; omega)
                have kB36 := boxc_kept kB35 gs (by intro e; have := Option.some.inj e; omega)
                have FC36 := FrR.put FC35 kl35 (.bool L2.b) (.slice rl2 L2.X.length cl2) (.slice sl2 L2.Y.length dl2)
                rw [← hw36] at FC36
                have kC36 := boxc_kept kC35 gs (by intro e; have := Option.some.inj e; omega)
                have FS36 := FrR.put FS35 kl35 (.bool L2.b) (.slice rl2 L2.X.length cl2) (.slice sl2 L2.Y.length dl2)
                rw [← hw36] at FS36
                have kS36 := boxc_kept kS35 gs (by intro e; have := Option.some.inj e; omega)
                have FP36 := FrR.put FP35 kl35 (.bool L2.b) (.slice rl2 L2.X.length cl2) (.slice sl2 L2.Y.length dl2)
                rw [← hw36] at FP36
                have kP36 := boxc_kept kP35 gs (by intro e; have := Option.some.inj e; omega)
                have FBC36 := FrR.put FBC35 kl35 (.bool L2.b) (.slice rl2 L2.X.length cl2) (.slice sl2 L2.Y.length dl2)
                rw [← hw36] at FBC36
                have kBC36 := boxc_kept kBC35 gs (by intro e; have := Option.some.inj e; omega)
                have FPC36 := FrR.put FPC35 kl35 (.bool L2.b) (.slice rl2 L2.X.length cl2) (.slice sl2 L2.Y.length dl2)
                rw [← hw36] at FPC36
                have kPC36 := boxc_kept kPC35 gs (by intro e; have := Option.some.inj e; omega)
                have FAC36 := FrR.put FAC35 kl35 (.bool L2.b) (.slice rl2 L2.X.length cl2) (.slice sl2 L2.Y.length dl2)
                rw [← hw36] at FAC36
                have kAC36 := boxc_kept kAC35 gs (by intro e; have := Option.some.inj e; omega)
                have kl36 : BoxC w36 gl 25 #[.bool L2.b, .slice rl2 L2.X.length cl2, .slice sl2 L2.Y.length dl2] := by rw [hw36]; exact boxc_set2 (boxc_set1 (boxc_set0 kl35 _) _) _
                have kn36 := boxc_kept kn35 gs (by intro e; have := Option.some.inj e; omega)
                have Fl236 := FrR.put Fl235 kl35 (.bool L2.b) (.slice rl2 L2.X.length cl2) (.slice sl2 L2.Y.length dl2)
                rw [← hw36] at Fl236
                have B36 : Below w.heap.size w w36 := by rw [hw36]; exact below_set3 B35 (by omega) _ _ _
                obtain ⟨zc0, zc1, zc2, zcf, zcn⟩ := boxc3 kl35
                clear gs FA35 FB35 kA35 kB35 FC35 kC35 FS35 kS35 FP35 kP35 FBC35 kBC35 FPC35 kPC35 FAC35 kAC35 kl35 kn35 Fl235 B35
                go_upto_region 35 with fail
                rw [← hw36]
                clear hw36 zc0 zc1 zc2 zcf zcn
                have hd36 := Hdl.keep HH.out B36 (Hdl.pos HH.out)
                obtain ⟨kAc0, kAc1, kAc2, _, kAcn⟩ := boxc3 kA36
                obtain ⟨kPCc0, kPCc1, kPCc2, _, kPCcn⟩ := boxc3 kPC36
                go_wp2_with fail
                refine Calls.mono (MUL.out _ _ _ L2 _ _ _ _ _ _ _ _ (by rw [hL2.out, hP.out, hPC.out]; exact top_massoc (by rw [← hP.out]; exact okP) (by rw [← hPC.out]; exact okPC)) hd36 FA36 FPC36) ?_
                rintro e w37 ⟨rn2, sn2, cn2, dn2, rfl, Fn237, bq⟩
                clear kAc0 kAc1 kAc2 kPCc0 kPCc1 kPCc2
                clear hd36
                have FA37 := FA36.keep bq
                have FB37 := FB36.keep bq
                have kA37 := boxc_keep kA36 bq
                have kB37 := boxc_keep kB36 bq
                have FC37 := FC36.keep bq
                have kC37 := boxc_keep kC36 bq
                have FS37 := FS36.keep bq
                have kS37 := boxc_keep kS36 bq
                have FP37 := FP36.keep bq
                have kP37 := boxc_keep kP36 bq
                have FBC37 := FBC36.keep bq
                have kBC37 := boxc_keep kBC36 bq
                have FPC37 := FPC36.keep bq
                have kPC37 := boxc_keep kPC36 bq
                have FAC37 := FAC36.keep bq
                have kAC37 := boxc_keep kAC36 bq
                have kl37 := boxc_keep kl36 bq
                have kn37 := boxc_keep kn36 bq
                have Fl237 := Fl236.keep bq
                have B37 := B36.trans (bq.mono B36.size)
                clear FA36 FB36 kA36 kB36 FC36 kC36 FS36 kS36 FP36 kP36 FBC36 kBC36 FPC36 kPC36 FAC36 kAC36 kl36 kn36 Fl236 B36 bq
                obtain ⟨w38, hw38⟩ : ∃ w38, w38 = ((w37.setCell ⟨gn, 0, none⟩ (.bool L2.b)).setCell ⟨gn, 1, none⟩ (.slice rn2 L2.X.length cn2)).setCell ⟨gn, 2, none⟩ (.slice sn2 L2.Y.length dn2) := ⟨_, rfl⟩
                have gs : w37.grownBy w38 (some gn) := by rw [hw38]; exact gr_set3 _ _ _ _ _
                have FA38 := FrR.put FA37 kn37 (.bool L2.b) (.slice rn2 L2.X.length cn2) (.slice sn2 L2.Y.length dn2)
                rw [← hw38] at FA38
                have FB38 := FrR.put FB37 kn37 (.bool L2.b) (.slice rn2 L2.X.length cn2) (.slice sn2 L2.Y.length dn2)
                rw [← hw38] at FB38
                have kA38 := boxc_kept kA37 gs (by intro e; have := Option.some.inj e; omega)
                have kB38 := boxc_kept kB37 gs (by intro e; have := Option.some.inj e; omega)
                have FC38 := FrR.put FC37 kn37 (.bool L2.b) (.slice rn2 L2.X.length cn2) (.slice sn2 L2.Y.length dn2)
                rw [← hw38] at FC38
                have kC38 := boxc_kept kC37 gs (by intro e; have := Option.some.inj e; omega)
                have FS38 := FrR.put FS37 kn37 (.bool L2.b) (.slice rn2 L2.X.length cn2) (.slice sn2 L2.Y.length dn2)
                rw [← hw38] at FS38
                have kS38 := boxc_kept kS37 gs (by intro e; have := Option.some.inj e; omega)
                have FP38 := FrR.put FP37 kn37 (.bool L2.b) (.slice rn2 L2.X.length cn2) (.slice sn2 L2.Y.length dn2)
                rw [← hw38] at FP38
                have kP38 := boxc_kept kP37 gs (by intro e; have := Option.some.inj e; omega)
                have FBC38 := FrR.put FBC37 kn37 (.bool L2.b) (.slice rn2 L2.X.length cn2) (.slice sn2 L2.Y.length dn2)
                rw [← hw38] at FBC38
                have kBC38 := boxc_kept kBC37 gs (by intro e; have := Option.some.inj e; omega)
                have FPC38 := FrR.put FPC37 kn37 (.bool L2.b) (.slice rn2 L2.X.length cn2) (.slice sn2 L2.Y.length dn2)
                rw [← hw38] at FPC38
                have kPC38 := boxc_kept kPC37 gs (by intro e; have := Option.some.inj e; omega)
                have FAC38 := FrR.put FAC37 kn37 (.bool L2.b) (.slice rn2 L2.X.length cn2) (.slice sn2 L2.Y.length dn2)
                rw [← hw38] at FAC38
                have kAC38 := boxc_kept kAC37 gs (by intro e; have := Option.some.inj e; omega)
                have kl38 := boxc_kept kl37 gs (by intro e; have := Option.some.inj e; omega)
                have kn38 : BoxC w38 gn 25 #[.bool L2.b, .slice rn2 L2.X.length cn2, .slice sn2 L2.Y.length dn2] := by rw [hw38]; exact boxc_set2 (boxc_set1 (boxc_set0 kn37 _) _) _
                have Fl238 := FrR.put Fl237 kn37 (.bool L2.b) (.slice rn2 L2.X.length cn2) (.slice sn2 L2.Y.length dn2)
                rw [← hw38] at Fl238
                have Fn238 := FrR.put Fn237 kn37 (.bool L2.b) (.slice rn2 L2.X.length cn2) (.slice sn2 L2.Y.length dn2)
                rw [← hw38] at Fn238
                have B38 : Below w.heap.size w w38 := by rw [hw38]; exact below_set3 B37 (by omega) _ _ _
                obtain ⟨zc0, zc1, zc2, zcf, zcn⟩ := boxc3 kn37
                clear gs FA37 FB37 kA37 kB37 FC37 kC37 FS37 kS37 FP37 kP37 FBC37 kBC37 FPC37 kPC37 FAC37 kAC37 kl37 kn37 Fl237 Fn237 B37
                go_upto_region 36 with fail
                rw [← hw38]
                clear hw38 zc0 zc1 zc2 zcf zcn
                cases okL2 : L2.ok with
                | false =>
                  clear Fl238 Fn238
                  go_upto_region 38 with fail
                  have hd38 := Hdl.keep HH.out B38 (Hdl.pos HH.out)
                  obtain ⟨kAc0, kAc1, kAc2, _, kAcn⟩ := boxc3 kA38
                  obtain ⟨kBCc0, kBCc1, kBCc2, _, kBCcn⟩ := boxc3 kBC38
                  go_wp2_with fail
                  refine Calls.mono (MUL.out _ _ _ L3 _ _ _ _ _ _ _ _ hL3.out hd38 FA38 FBC38) ?_
                  rintro e w39 ⟨rl3, sl3, cl3, dl3, rfl, Fl339, bq⟩
                  clear kAc0 kAc1 kAc2 kBCc0 kBCc1 kBCc2
                  clear hd38
                  have FA39 := FA38.keep bq
                  have FB39 := FB38.keep bq
                  have kA39 := boxc_keep kA38 bq
                  have kB39 := boxc_keep kB38 bq
                  have FC39 := FC38.keep bq
                  have kC39 := boxc_keep kC38 bq
                  have FS39 := FS38.keep bq
                  have kS39 := boxc_keep kS38 bq
                  have FP39 := FP38.keep bq
                  have kP39 := boxc_keep kP38 bq
                  have FBC39 := FBC38.keep bq
                  have kBC39 := boxc_keep kBC38 bq
                  have FPC39 := FPC38.keep bq
                  have kPC39 := boxc_keep kPC38 bq
                  have FAC39 := FAC38.keep bq
                  have kAC39 := boxc_keep kAC38 bq
                  have kl39 := boxc_keep kl38 bq
                  have kn39 := boxc_keep kn38 bq
                  have B39 := B38.trans (bq.mono B38.size)
                  clear FA38 FB38 kA38 kB38 FC38 kC38 FS38 kS38 FP38 kP38 FBC38 kBC38 FPC38 kPC38 FAC38 kAC38 kl38 kn38 B38 bq
                  obtain ⟨w40, hw40⟩ : ∃ w40, w40 = ((w39.setCell ⟨gl, 0, none⟩ (.bool L3.b)).setCell ⟨gl, 1, none⟩ (.slice rl3 L3.X.length cl3)).setCell ⟨gl, 2, none⟩ (.slice sl3 L3.Y.length dl3) := ⟨_, rfl⟩
                  have gs : w39.grownBy w40 (some gl) := by rw [hw40]; exact gr_set3 _ _ _ _ _
                  have FA40 := FrR.put FA39 kl39 (.bool L3.b) (.slice rl3 L3.X.length cl3) (.slice sl3 L3.Y.length dl3)
                  rw [← hw40] at FA40
                  have FB40 := FrR.put FB39 kl39 (.bool L3.b) (.slice rl3 L3.X.length cl3) (.slice sl3 L3.Y.length dl3)
                  rw [← hw40] at FB40
                  have kA40 := boxc_kept kA39 gs (by intro e; have := Option.some.inj e; omega)
                  have kB40 := boxc_kept kB39 gs (by intro e; have := Option.some.inj e; omega)
                  have FC40 := FrR.put FC39 kl39 (.bool L3.b) (.slice rl3 L3.X.length cl3) (.slice sl3 L3.Y.length dl3)
                  rw [← hw40] at FC40
                  have kC40 := boxc_kept kC39 gs (by intro e; have := Option.some.inj e; omega)
                  have FS40 := FrR.put FS39 kl39 (.bool L3.b) (.slice rl3 L3.X.length cl3) (.slice sl3 L3.Y.length dl3)
                  rw [← hw40] at FS40
                  have kS40 := boxc_kept kS39 gs (by intro e; have := Option.some.inj e; omega)
                  have FP40 := FrR.put FP39 kl39 (.bool L3.b) (.slice rl3 L3.X.length cl3) (.slice sl3 L3.Y.length dl3)
                  rw [← hw40] at FP40
                  have kP40 := boxc_kept kP39 gs (by intro e; have := Option.some.inj e; omega)
                  have FBC40 := FrR.put FBC39 kl39 (.bool L3.b) (.slice rl3 L3.X.length cl3) (.slice sl3 L3.Y.length dl3)
                  rw [← hw40] at FBC40
                  have kBC40 := boxc_kept kBC39 gs (by intro e; have := Option.some.inj e; omega)
                  have FPC40 := FrR.put FPC39 kl39 (.bool L3.b) (.slice rl3 L3.X.length cl3) (.slice sl3 L3.Y.length dl3)
                  rw [← hw40] at FPC40
                  have kPC40 := boxc_kept kPC39 gs (by intro e; have := Option.some.inj e; omega)
                  have FAC40 := FrR.put FAC39 kl39 (.bool L3.b) (.slice rl3 L3.X.length cl3) (.slice sl3 L3.Y.length dl3)
                  rw [← hw40] at FAC40
                  have kAC40 := boxc_kept kAC39 gs (by intro e; have := Option.some.inj e; omega)
                  have kl40 : BoxC w40 gl 25 #[.bool L3.b, .slice rl3 L3.X.length cl3, .slice sl3 L3.Y.length dl3] := by rw [hw40]; exact boxc_set2 (boxc_set1 (boxc_set0 kl39 _) _) _
                  have kn40 := boxc_kept kn39 gs (by intro e; have := Option.some.inj e; omega)
                  have Fl340 := FrR.put Fl339 kl39 (.bool L3.b) (.slice rl3 L3.X.length cl3) (.slice sl3 L3.Y.length dl3)
                  rw [← hw40] at Fl340
                  have B40 : Below w.heap.size w w40 := by rw [hw40]; exact below_set3 B39 (by omega) _ _ _
                  obtain ⟨zc0, zc1, zc2, zcf, zcn⟩ := boxc3 kl39
                  clear gs FA39 FB39 kA39 kB39 FC39 kC39 FS39 kS39 FP39 kP39 FBC39 kBC39 FPC39 kPC39 FAC39 kAC39 kl39 kn39 Fl339 B39
                  go_upto_region 39 with fail
                  rw [← hw40]
                  clear hw40 zc0 zc1 zc2 zcf zcn
                  have hd40 := Hdl.keep HH.out B40 (Hdl.pos HH.out)
                  obtain ⟨kPc0, kPc1, kPc2, _, kPcn⟩ := boxc3 kP40
                  obtain ⟨kACc0, kACc1, kACc2, _, kACcn⟩ := boxc3 kAC40
                  go_wp2_with fail
                  refine Calls.mono (ADD.out _ _ _ L3 _ _ _ _ _ _ _ _ (by rw [hL3.out, hBC.out, hP.out, hAC.out]; exact top_dist (by rw [← hBC.out]; exact okBC) (by rw [← hP.out]; exact okP) (by rw [← hAC.out]; exact okAC)) hd40 FP40 FAC40) ?_
                  rintro e w41 ⟨rn3, sn3, cn3, dn3, rfl, Fn341, bq⟩
                  clear kPc0 kPc1 kPc2 kACc0 kACc1 kACc2
                  clear hd40
                  have FA41 := FA40.keep bq
                  have FB41 := FB40.keep bq
                  have kA41 := boxc_keep kA40 bq
                  have kB41 := boxc_keep kB40 bq
                  have FC41 := FC40.keep bq
                  have kC41 := boxc_keep kC40 bq
                  have FS41 := FS40.keep bq
                  have kS41 := boxc_keep kS40 bq
                  have FP41 := FP40.keep bq
                  have kP41 := boxc_keep kP40 bq
                  have FBC41 := FBC40.keep bq
                  have kBC41 := boxc_keep kBC40 bq
                  have FPC41 := FPC40.keep bq
                  have kPC41 := boxc_keep kPC40 bq
                  have FAC41 := FAC40.keep bq
                  have kAC41 := boxc_keep kAC40 bq
                  have kl41 := boxc_keep kl40 bq
                  have kn41 := boxc_keep kn40 bq
                  have Fl341 := Fl340.keep bq
                  have B41 := B40.trans (bq.mono B40.size)
                  clear FA40 FB40 kA40 kB40 FC40 kC40 FS40 kS40 FP40 kP40 FBC40 kBC40 FPC40 kPC40 FAC40 kAC40 kl40 kn40 Fl340 B40 bq
                  obtain ⟨w42, hw42⟩ : ∃ w42, w42 = ((w41.setCell ⟨gn, 0, none⟩ (.bool L3.b)).setCell ⟨gn, 1, none⟩ (.slice rn3 L3.X.length cn3)).setCell ⟨gn, 2, none⟩ (.slice sn3 L3.Y.length dn3) := ⟨_, rfl⟩
                  have gs : w41.grownBy w42 (some gn) := by rw [hw42]; exact gr_set3 _ _ _ _ _
                  have FA42 := FrR.put FA41 kn41 (.bool L3.b) (.slice rn3 L3.X.length cn3) (.slice sn3 L3.Y.length dn3)
                  rw [← hw42] at FA42
                  have FB42 := FrR.put FB41 kn41 (.bool L3.b) (.slice rn3 L3.X.length cn3) (.slice sn3 L3.Y.length dn3)
                  rw [← hw42] at FB42
                  have kA42 := boxc_kept kA41 gs (by intro e; have := Option.some.inj e; omega)
                  have kB42 := boxc_kept kB41 gs (by intro e; have := Option.some.inj e; omega)
                  have FC42 := FrR.put FC41 kn41 (.bool L3.b) (.slice rn3 L3.X.length cn3) (.slice sn3 L3.Y.length dn3)
                  rw [← hw42] at FC42
                  have kC42 := boxc_kept kC41 gs (by intro e; have := Option.some.inj e; omega)
                  have FS42 := FrR.put FS41 kn41 (.bool L3.b) (.slice rn3 L3.X.length cn3) (.slice sn3 L3.Y.length dn3)
                  rw [← hw42] at FS42
                  have kS42 := boxc_kept kS41 gs (by intro e; have := Option.some.inj e; omega)
                  have FP42 := FrR.put FP41 kn41 (.bool L3.b) (.slice rn3 L3.X.length cn3) (.slice sn3 L3.Y.length dn3)
                  rw [← hw42] at FP42
                  have kP42 := boxc_kept kP41 gs (by intro e; have := Option.some.inj e; omega)
                  have FBC42 := FrR.put FBC41 kn41 (.bool L3.b) (.slice rn3 L3.X.length cn3) (.slice sn3 L3.Y.length dn3)
                  rw [← hw42] at FBC42
                  have kBC42 := boxc_kept kBC41 gs (by intro e; have := Option.some.inj e; omega)
                  have FPC42 := FrR.put FPC41 kn41 (.bool L3.b) (.slice rn3 L3.X.length cn3) (.slice sn3 L3.Y.length dn3)
                  rw [← hw42] at FPC42
                  have kPC42 := boxc_kept kPC41 gs (by intro e; have := Option.some.inj e; omega)
                  have FAC42 := FrR.put FAC41 kn41 (.bool L3.b) (.slice rn3 L3.X.length cn3) (.slice sn3 L3.Y.length dn3)
                  rw [← hw42] at FAC42
                  have kAC42 := boxc_kept kAC41 gs (by intro e; have := Option.some.inj e; omega)
                  have kl42 := boxc_kept kl41 gs (by intro e; have := Option.some.inj e; omega)
                  have kn42 : BoxC w42 gn 25 #[.bool L3.b, .slice rn3 L3.X.length cn3, .slice sn3 L3.Y.length dn3] := by rw [hw42]; exact boxc_set2 (boxc_set1 (boxc_set0 kn41 _) _) _
                  have Fl342 := FrR.put Fl341 kn41 (.bool L3.b) (.slice rn3 L3.X.length cn3) (.slice sn3 L3.Y.length dn3)
                  rw [← hw42] at Fl342
                  have Fn342 := FrR.put Fn341 kn41 (.bool L3.b) (.slice rn3 L3.X.length cn3) (.slice sn3 L3.Y.length dn3)
                  rw [← hw42] at Fn342
                  have B42 : Below w.heap.size w w42 := by rw [hw42]; exact below_set3 B41 (by omega) _ _ _
                  obtain ⟨zc0, zc1, zc2, zcf, zcn⟩ := boxc3 kn41
                  clear gs FA41 FB41 kA41 kB41 FC41 kC41 FS41 kS41 FP41 kP41 FBC41 kBC41 FPC41 kPC41 FAC41 kAC41 kl41 kn41 Fl341 Fn341 B41
                  go_upto_region 40 with fail
                  rw [← hw42]
                  clear hw42 zc0 zc1 zc2 zcf zcn
                  cases okL3 : L3.ok with
                  | false =>
                    have HBB : Hid (Below w.heap.size w w42) := B42
                    clear ADD MUL SUB DIV SAD SMU PW SG hS hP hBC hPC hAC hL1 hL2 hL3 hAok HH FA42 FB42 kA42 kB42 FC42 kC42 FS42 kS42 FP42 kP42 FBC42 kBC42 FPC42 kPC42 FAC42 kAC42 kl42 kn42 Fl342 Fn342 B42
                    go_wp2
                    go_ret
                    exact ⟨rfl, HBB.out⟩
                  | true =>
                    obtain ⟨klc0, klc1, klc2, _, klcn⟩ := boxc3 kl42
                    obtain ⟨knc0, knc1, knc2, _, kncn⟩ := boxc3 kn42
                    go_wp2_with fail
                    refine Calls.mono (PW.out _ L3 _ _ _ _ _ _ _ _ Fl342 Fn342) ?_
                    rintro e w43 ⟨rfl, bq⟩
                    clear klc0 klc1 klc2 knc0 knc1 knc2
                    have FA43 := FA42.keep bq
                    have FB43 := FB42.keep bq
                    have kA43 := boxc_keep kA42 bq
                    have kB43 := boxc_keep kB42 bq
                    have FC43 := FC42.keep bq
                    have kC43 := boxc_keep kC42 bq
                    have FS43 := FS42.keep bq
                    have kS43 := boxc_keep kS42 bq
                    have FP43 := FP42.keep bq
                    have kP43 := boxc_keep kP42 bq
                    have FBC43 := FBC42.keep bq
                    have kBC43 := boxc_keep kBC42 bq
                    have FPC43 := FPC42.keep bq
                    have kPC43 := boxc_keep kPC42 bq
                    have FAC43 := FAC42.keep bq
                    have kAC43 := boxc_keep kAC42 bq
                    have kl43 := boxc_keep kl42 bq
                    have kn43 := boxc_keep kn42 bq
                    have Fl343 := Fl342.keep bq
                    have Fn343 := Fn342.keep bq
                    have B43 := B42.trans (bq.mono B42.size)
                    clear FA42 FB42 kA42 kB42 FC42 kC42 FS42 kS42 FP42 kP42 FBC42 kBC42 FPC42 kPC42 FAC42 kAC42 kl42 kn42 Fl342 Fn342 B42 bq
                    have HBB : Hid (Below w.heap.size w w43) := B43
                    clear ADD MUL SUB DIV SAD SMU PW SG hS hP hBC hPC hAC hL1 hL2 hL3 hAok HH FA43 FB43 kA43 kB43 FC43 kC43 FS43 kS43 FP43 kP43 FBC43 kBC43 FPC43 kPC43 FAC43 kAC43 kl43 kn43 Fl343 Fn343 B43
                    go_wp2
                    go_ret
                    exact ⟨rfl, HBB.out⟩
                | true =>
                  obtain ⟨klc0, klc1, klc2, _, klcn⟩ := boxc3 kl38
                  obtain ⟨knc0, knc1, knc2, _, kncn⟩ := boxc3 kn38
                  go_wp2_with fail
                  refine Calls.mono (PW.out _ L2 _ _ _ _ _ _ _ _ Fl238 Fn238) ?_
                  rintro e w39 ⟨rfl, bq⟩
                  clear klc0 klc1 klc2 knc0 knc1 knc2
                  have FA39 := FA38.keep bq
                  have FB39 := FB38.keep bq
                  have kA39 := boxc_keep kA38 bq
                  have kB39 := boxc_keep kB38 bq
                  have FC39 := FC38.keep bq
                  have kC39 := boxc_keep kC38 bq
                  have FS39 := FS38.keep bq
                  have kS39 := boxc_keep kS38 bq
                  have FP39 := FP38.keep bq
                  have kP39 := boxc_keep kP38 bq
                  have FBC39 := FBC38.keep bq
                  have kBC39 := boxc_keep kBC38 bq
                  have FPC39 := FPC38.keep bq
                  have kPC39 := boxc_keep kPC38 bq
                  have FAC39 := FAC38.keep bq
                  have kAC39 := boxc_keep kAC38 bq
                  have kl39 := boxc_keep kl38 bq
                  have kn39 := boxc_keep kn38 bq
                  have Fl239 := Fl238.keep bq
                  have Fn239 := Fn238.keep bq
                  have B39 := B38.trans (bq.mono B38.size)
                  clear FA38 FB38 kA38 kB38 FC38 kC38 FS38 kS38 FP38 kP38 FBC38 kBC38 FPC38 kPC38 FAC38 kAC38 kl38 kn38 Fl238 Fn238 B38 bq
                  clear Fl239 Fn239
                  go_upto_region 38 with fail
                  have hd39 := Hdl.keep HH.out B39 (Hdl.pos HH.out)
                  obtain ⟨kAc0, kAc1, kAc2, _, kAcn⟩ := boxc3 kA39
                  obtain ⟨kBCc0, kBCc1, kBCc2, _, kBCcn⟩ := boxc3 kBC39
                  go_wp2_with fail
                  refine Calls.mono (MUL.out _ _ _ L3 _ _ _ _ _ _ _ _ hL3.out hd39 FA39 FBC39) ?_
                  rintro e w40 ⟨rl3, sl3, cl3, dl3, rfl, Fl340, bq⟩
                  clear kAc0 kAc1 kAc2 kBCc0 kBCc1 kBCc2
                  clear hd39
                  have FA40 := FA39.keep bq
                  have FB40 := FB39.keep bq
                  have kA40 := boxc_keep kA39 bq
                  have kB40 := boxc_keep kB39 bq
                  have FC40 := FC39.keep bq
                  have kC40 := boxc_keep kC39 bq
                  have FS40 := FS39.keep bq
                  have kS40 := boxc_keep kS39 bq
                  have FP40 := FP39.keep bq
                  have kP40 := boxc_keep kP39 bq
                  have FBC40 := FBC39.keep bq
                  have kBC40 := boxc_keep kBC39 bq
                  have FPC40 := FPC39.keep bq
                  have kPC40 := boxc_keep kPC39 bq
                  have FAC40 := FAC39.keep bq
                  have kAC40 := boxc_keep kAC39 bq
                  have kl40 := boxc_keep kl39 bq
                  have kn40 := boxc_keep kn39 bq
                  have B40 := B39.trans (bq.mono B39.size)
                  clear FA39 FB39 kA39 kB39 FC39 kC39 FS39 kS39 FP39 kP39 FBC39 kBC39 FPC39 kPC39 FAC39 kAC39 kl39 kn39 B39 bq
                  obtain ⟨w41, hw41⟩ : ∃ w41, w41 = ((w40.setCell ⟨gl, 0, none⟩ (.bool L3.b)).setCell ⟨gl, 1, none⟩ (.slice rl3 L3.X.length cl3)).setCell ⟨gl, 2, none⟩ (.slice sl3 L3.Y.length dl3) := ⟨_, rfl⟩
                  have gs : w40.grownBy w41 (some gl) := by rw [hw41]; exact gr_set3 _ _ _ _ _
                  have FA41 := FrR.put FA40 kl40 (.bool L3.b) (.slice rl3 L3.X.length cl3) (.slice sl3 L3.Y.length dl3)
                  rw [← hw41] at FA41
                  have FB41 := FrR.put FB40 kl40 (.bool L3.b) (.slice rl3 L3.X.length cl3) (.slice sl3 L3.Y.length dl3)
                  rw [← hw41] at FB41
                  have kA41 := boxc_kept kA40 gs (by intro e; have := Option.some.inj e; omega)
                  have kB41 := boxc_kept kB40 gs (by intro e; have := Option.some.inj e; omega)
                  have FC41 := FrR.put FC40 kl40 (.bool L3.b) (.slice rl3 L3.X.length cl3) (.slice sl3 L3.Y.length dl3)
                  rw [← hw41] at FC41
                  have kC41 := boxc_kept kC40 gs (by intro e; have := Option.some.inj e; omega)
                  have FS41 := FrR.put FS40 kl40 (.bool L3.b) (.slice rl3 L3.X.length cl3) (.slice sl3 L3.Y.length dl3)
                  rw [← hw41] at FS41
                  have kS41 := boxc_kept kS40 gs (by intro e; have := Option.some.inj e; omega)
                  have FP41 := FrR.put FP40 kl40 (.bool L3.b) (.slice rl3 L3.X.length cl3) (.slice sl3 L3.Y.length dl3)
                  rw [← hw41] at FP41
                  have kP41 := boxc_kept kP40 gs (by intro e; have := Option.some.inj e; omega)
                  have FBC41 := FrR.put FBC40 kl40 (.bool L3.b) (.slice rl3 L3.X.length cl3) (.slice sl3 L3.Y.length dl3)
                  rw [← hw41] at FBC41
                  have kBC41 := boxc_kept kBC40 gs (by intro e; have := Option.some.inj e; omega)
                  have FPC41 := FrR.put FPC40 kl40 (.bool L3.b) (.slice rl3 L3.X.length cl3) (.slice sl3 L3.Y.length dl3)
                  rw [← hw41] at FPC41
                  have kPC41 := boxc_kept kPC40 gs (by intro e; have := Option.some.inj e; omega)
                  have FAC41 := FrR.put FAC40 kl40 (.bool L3.b) (.slice rl3 L3.X.length cl3) (.slice sl3 L3.Y.length dl3)
                  rw [← hw41] at FAC41
                  have kAC41 := boxc_kept kAC40 gs (by intro e; have := Option.some.inj e; omega)
                  have kl41 : BoxC w41 gl 25 #[.bool L3.b, .slice rl3 L3.X.length cl3, .slice sl3 L3.Y.length dl3] := by rw [hw41]; exact boxc_set2 (boxc_set1 (boxc_set0 kl40 _) _) _
                  have kn41 := boxc_kept kn40 gs (by intro e; have := Option.some.inj e; omega)
                  have Fl341 := FrR.put Fl340 kl40 (.bool L3.b) (.slice rl3 L3.X.length cl3) (.slice sl3 L3.Y.length dl3)
                  rw [← hw41] at Fl341
                  have B41 : Below w.heap.size w w41 := by rw [hw41]; exact below_set3 B40 (by omega) _ _ _
                  obtain ⟨zc0, zc1, zc2, zcf, zcn⟩ := boxc3 kl40
                  clear gs FA40 FB40 kA40 kB40 FC40 kC40 FS40 kS40 FP40 kP40 FBC40 kBC40 FPC40 kPC40 FAC40 kAC40 kl40 kn40 Fl340 B40
                  go_upto_region 39 with fail
                  rw [← hw41]
                  clear hw41 zc0 zc1 zc2 zcf zcn
                  have hd41 := Hdl.keep HH.out B41 (Hdl.pos HH.out)
                  obtain ⟨kPc0, kPc1, kPc2, _, kPcn⟩ := boxc3 kP41
                  obtain ⟨kACc0, kACc1, kACc2, _, kACcn⟩ := boxc3 kAC41
                  go_wp2_with fail
                  refine Calls.mono (ADD.out _ _ _ L3 _ _ _ _ _ _ _ _ (by rw [hL3.out, hBC.out, hP.out, hAC.out]; exact top_dist (by rw [← hBC.out]; exact okBC) (by rw [← hP.out]; exact okP) (by rw [← hAC.out]; exact okAC)) hd41 FP41 FAC41) ?_
                  rintro e w42 ⟨rn3, sn3, cn3, dn3, rfl, Fn342, bq⟩
                  clear kPc0 kPc1 kPc2 kACc0 kACc1 kACc2
                  clear hd41
                  have FA42 := FA41.keep bq
                  have FB42 := FB41.keep bq
                  have kA42 := boxc_keep kA41 bq
                  have kB42 := boxc_keep kB41 bq
                  have FC42 := FC41.keep bq
                  have kC42 := boxc_keep kC41 bq
                  have FS42 := FS41.keep bq
                  have kS42 := boxc_keep kS41 bq
                  have FP42 := FP41.keep bq
                  have kP42 := boxc_keep kP41 bq
                  have FBC42 := FBC41.keep bq
                  have kBC42 := boxc_keep kBC41 bq
                  have FPC42 := FPC41.keep bq
                  have kPC42 := boxc_keep kPC41 bq
                  have FAC42 := FAC41.keep bq
                  have kAC42 := boxc_keep kAC41 bq
                  have kl42 := boxc_keep kl41 bq
                  have kn42 := boxc_keep kn41 bq
                  have Fl342 := Fl341.keep bq
                  have B42 := B41.trans (bq.mono B41.size)
                  clear FA41 FB41 kA41 kB41 FC41 kC41 FS41 kS41 FP41 kP41 FBC41 kBC41 FPC41 kPC41 FAC41 kAC41 kl41 kn41 Fl341 B41 bq
                  obtain ⟨w43, hw43⟩ : ∃ w43, w43 = ((w42.setCell ⟨gn, 0, none⟩ (.bool L3.b)).setCell ⟨gn, 1, none⟩ (.slice rn3 L3.X.length cn3)).setCell ⟨gn, 2, none⟩ (.slice sn3 L3.Y.length dn3) := ⟨_, rfl⟩
                  have gs : w42.grownBy w43 (some gn) := by rw [hw43]; exact gr_set3 _ _ _ _ _
                  have FA43 := FrR.put FA42 kn42 (.bool L3.b) (.slice rn3 L3.X.length cn3) (.slice sn3 L3.Y.length dn3)
                  rw [← hw43] at FA43
                  have FB43 := FrR.put FB42 kn42 (.bool L3.b) (.slice rn3 L3.X.length cn3) (.slice sn3 L3.Y.length dn3)
                  rw [← hw43] at FB43
                  have kA43 := boxc_kept kA42 gs (by intro e; have := Option.some.inj e; omega)
                  have kB43 := boxc_kept kB42 gs (by intro e; have := Option.some.inj e; omega)
                  have FC43 := FrR.put FC42 kn42 (.bool L3.b) (.slice rn3 L3.X.length cn3) (.slice sn3 L3.Y.length dn3)
                  rw [← hw43] at FC43
                  have kC43 := boxc_kept kC42 gs (by intro e; have := Option.some.inj e; omega)
                  have FS43 := FrR.put FS42 kn42 (.bool L3.b) (.slice rn3 L3.X.length cn3) (.slice sn3 L3.Y.length dn3)
                  rw [← hw43] at FS43
                  have kS43 := boxc_kept kS42 gs (by intro e; have := Option.some.inj e; omega)
                  have FP43 := FrR.put FP42 kn42 (.bool L3.b) (.slice rn3 L3.X.length cn3) (.slice sn3 L3.Y.length dn3)
                  rw [← hw43] at FP43
                  have kP43 := boxc_kept kP42 gs (by intro e; have := Option.some.inj e; omega)
                  have FBC43 := FrR.put FBC42 kn42 (.bool L3.b) (.slice rn3 L3.X.length cn3) (.slice sn3 L3.Y.length dn3)
                  rw [← hw43] at FBC43
                  have kBC43 := boxc_kept kBC42 gs (by intro e; have := Option.some.inj e; omega)
                  have FPC43 := FrR.put FPC42 kn42 (.bool L3.b) (.slice rn3 L3.X.length cn3) (.slice sn3 L3.Y.length dn3)
                  rw [← hw43] at FPC43
                  have kPC43 := boxc_kept kPC42 gs (by intro e; have := Option.some.inj e; omega)
                  have FAC43 := FrR.put FAC42 kn42 (.bool L3.b) (.slice rn3 L3.X.length cn3) (.slice sn3 L3.Y.length dn3)
                  rw [← hw43] at FAC43
                  have kAC43 := boxc_kept kAC42 gs (by intro e; have := Option.some.inj e; omega)
                  have kl43 := boxc_kept kl42 gs (by intro e; have := Option.some.inj e; omega)
                  have kn43 : BoxC w43 gn 25 #[.bool L3.b, .slice rn3 L3.X.length cn3, .slice sn3 L3.Y.length dn3] := by rw [hw43]; exact boxc_set2 (boxc_set1 (boxc_set0 kn42 _) _) _
                  have Fl343 := FrR.put Fl342 kn42 (.bool L3.b) (.slice rn3 L3.X.length cn3) (.slice sn3 L3.Y.length dn3)
                  rw [← hw43] at Fl343
                  have Fn343 := FrR.put Fn342 kn42 (.bool L3.b) (.slice rn3 L3.X.length cn3) (.slice sn3 L3.Y.length dn3)
                  rw [← hw43] at Fn343
                  have B43 : Below w.heap.size w w43 := by rw [hw43]; exact below_set3 B42 (by omega) _ _ _
                  obtain ⟨zc0, zc1, zc2, zcf, zcn⟩ := boxc3 kn42
                  clear gs FA42 FB42 kA42 kB42 FC42 kC42 FS42 kS42 FP42 kP42 FBC42 kBC42 FPC42 kPC42 FAC42 kAC42 kl42 kn42 Fl342 Fn342 B42
                  go_upto_region 40 with fail
                  rw [← hw43]
                  clear hw43 zc0 zc1 zc2 zcf zcn
                  cases okL3 : L3.ok with
                  | false =>
                    have HBB : Hid (Below w.heap.size w w43) := B43
                    clear ADD MUL SUB DIV SAD SMU PW SG hS hP hBC hPC hAC hL1 hL2 hL3 hAok HH FA43 FB43 kA43 kB43 FC43 kC43 FS43 kS43 FP43 kP43 FBC43 kBC43 FPC43 kPC43 FAC43 kAC43 kl43 kn43 Fl343 Fn343 B43
                    go_wp2
                    go_ret
                    exact ⟨rfl, HBB.out⟩
                  | true =>
                    obtain ⟨klc0, klc1, klc2, _, klcn⟩ := boxc3 kl43
                    obtain ⟨knc0, knc1, knc2, _, kncn⟩ := boxc3 kn43
                    go_wp2_with fail
                    refine Calls.mono (PW.out _ L3 _ _ _ _ _ _ _ _ Fl343 Fn343) ?_
                    rintro e w44 ⟨rfl, bq⟩
                    clear klc0 klc1 klc2 knc0 knc1 knc2
                    have FA44 := FA43.keep bq
                    have FB44 := FB43.keep bq
                    have kA44 := boxc_keep kA43 bq
                    have kB44 := boxc_keep kB43 bq
                    have FC44 := FC43.keep bq
                    have kC44 := boxc_keep kC43 bq
                    have FS44 := FS43.keep bq
                    have kS44 := boxc_keep kS43 bq
                    have FP44 := FP43.keep bq
                    have kP44 := boxc_keep kP43 bq
                    have FBC44 := FBC43.keep bq
                    have kBC44 := boxc_keep kBC43 bq
                    have FPC44 := FPC43.keep bq
                    have kPC44 := boxc_keep kPC43 bq
                    have FAC44 := FAC43.keep bq
                    have kAC44 := boxc_keep kAC43 bq
                    have kl44 := boxc_keep kl43 bq
                    have kn44 := boxc_keep kn43 bq
                    have Fl344 := Fl343.keep bq
                    have Fn344 := Fn343.keep bq
                    have B44 := B43.trans (bq.mono B43.size)
                    clear FA43 FB43 kA43 kB43 FC43 kC43 FS43 kS43 FP43 kP43 FBC43 kBC43 FPC43 kPC43 FAC43 kAC43 kl43 kn43 Fl343 Fn343 B43 bq
                    have HBB : Hid (Below w.heap.size w w44) := B44
                    clear ADD MUL SUB DIV SAD SMU PW SG hS hP hBC hPC hAC hL1 hL2 hL3 hAok HH FA44 FB44 kA44 kB44 FC44 kC44 FS44 kS44 FP44 kP44 FBC44 kBC44 FPC44 kPC44 FAC44 kAC44 kl44 kn44 Fl344 Fn344 B44
                    go_wp2
                    go_ret
                    exact ⟨rfl, HBB.out⟩
              | true =>
                obtain ⟨klc0, klc1, klc2, _, klcn⟩ := boxc3 kl34
                obtain ⟨knc0, knc1, knc2, _, kncn⟩ := boxc3 kn34
                go_wp2_with fail
                refine Calls.mono (PW.out _ L1 _ _ _ _ _ _ _ _ Fl34 Fn34) ?_
                rintro e w35 ⟨rfl, bq⟩
                clear klc0 klc1 klc2 knc0 knc1 knc2
                have FA35 := FA34.keep bq
                have FB35 := FB34.keep bq
                have kA35 := boxc_keep kA34 bq
                have kB35 := boxc_keep kB34 bq
                have FC35 := FC34.keep bq
                have kC35 := boxc_keep kC34 bq
                have FS35 := FS34.keep bq
                have kS35 := boxc_keep kS34 bq
                have FP35 := FP34.keep bq
                have kP35 := boxc_keep kP34 bq
                have FBC35 := FBC34.keep bq
                have kBC35 := boxc_keep kBC34 bq
                have FPC35 := FPC34.keep bq
                have kPC35 := boxc_keep kPC34 bq
                have FAC35 := FAC34.keep bq
                have kAC35 := boxc_keep kAC34 bq
                have Fl35 := Fl34.keep bq
                have kl35 := boxc_keep kl34 bq
                have Fn35 := Fn34.keep bq
                have kn35 := boxc_keep kn34 bq
                have B35 := B34.trans (bq.mono B34.size)
                clear FA34 FB34 kA34 kB34 FC34 kC34 FS34 kS34 FP34 kP34 FBC34 kBC34 FPC34 kPC34 FAC34 kAC34 Fl34 kl34 Fn34 kn34 B34 bq
                clear Fl35 Fn35
                go_upto_region 34 with fail
                have hd35 := Hdl.keep HH.out B35 (Hdl.pos HH.out)
                obtain ⟨kPc0, kPc1, kPc2, _, kPcn⟩ := boxc3 kP35
                obtain ⟨kCc0, kCc1, kCc2, _, kCcn⟩ := boxc3 kC35
                go_wp2_with fail
                refine Calls.mono (MUL.out _ _ _ L2 _ _ _ _ _ _ _ _ hL2.out hd35 FP35 FC35) ?_
                rintro e w36 ⟨rl2, sl2, cl2, dl2, rfl, Fl236, bq⟩
                clear kPc0 kPc1 kPc2 kCc0 kCc1 kCc2
                clear hd35
                have FA36 := FA35.keep bq
                have FB36 := FB35.keep bq
                have kA36 := boxc_keep kA35 bq
                have kB36 := boxc_keep kB35 bq
                have FC36 := FC35.keep bq
                have kC36 := boxc_keep kC35 bq
                have FS36 := FS35.keep bq
                have kS36 := boxc_keep kS35 bq
                have FP36 := FP35.keep bq
                have kP36 := boxc_keep kP35 bq
                have FBC36 := FBC35.keep bq
                have kBC36 := boxc_keep kBC35 bq
                have FPC36 := FPC35.keep bq
                have kPC36 := boxc_keep kPC35 bq
                have FAC36 := FAC35.keep bq
                have kAC36 := boxc_keep kAC35 bq
                have kl36 := boxc_keep kl35 bq
                have kn36 := boxc_keep kn35 bq
                have B36 := B35.trans (bq.mono B35.size)
                clear FA35 FB35 kA35 kB35 FC35 kC35 FS35 kS35 FP35 kP35 FBC35 kBC35 FPC35 kPC35 FAC35 kAC35 kl35 kn35 B35 bq
                obtain ⟨w37, hw37⟩ : ∃ w37, w37 = ((w36.setCell ⟨gl, 0, none⟩ (.bool L2.b)).setCell ⟨gl, 1, none⟩ (.slice rl2 L2.X.length cl2)).setCell ⟨gl, 2, none⟩ (.slice sl2 L2.Y.length dl2) := ⟨_, rfl⟩
                have gs : w36.grownBy w37 (some gl) := by rw [hw37]; exact gr_set3 _ _ _ _ _
                have FA37 := FrR.put FA36 kl36 (.bool L2.b) (.slice rl2 L2.X.length cl2) (.slice sl2 L2.Y.length dl2)
                rw [← hw37] at FA37
                have FB37 := FrR.put FB36 kl36 (.bool L2.b) (.slice rl2 L2.X.length cl2) (.slice sl2 L2.Y.length dl2)
                rw [← hw37] at FB37
                have kA37 := boxc_kept kA36 gs (by intro e; have := Option.some.inj e; omega)
                have kB37 := boxc_kept kB36 gs (by intro e; have := Option.some.inj e; omega)
                have FC37 := FrR.put FC36 kl36 (.bool L2.b) (.slice rl2 L2.X.length cl2) (.slice sl2 L2.Y.length dl2)
                rw [← hw37] at FC37
                have kC37 := boxc_kept kC36 gs (by intro e; have := Option.some.inj e; omega)
                have FS37 := FrR.put FS36 kl36 (.bool L2.b) (.slice rl2 L2.X.length cl2) (.slice sl2 L2.Y.length dl2)
                rw [← hw37] at FS37
                have kS37 := boxc_kept kS36 gs (by intro e; have := Option.some.inj e; omega)
                have FP37 := FrR.put FP36 kl36 (.bool L2.b) (.slice rl2 L2.X.length cl2) (.slice sl2 L2.Y.length dl2)
                rw [← hw37] at FP37
                have kP37 := boxc_kept kP36 gs (by intro e; have := Option.some.inj e; omega)
                have FBC37 := FrR.put FBC36 kl36 (.bool L2.b) (.slice rl2 L2.X.length cl2) (.slice sl2 L2.Y.length dl2)
                rw [← hw37] at FBC37
                have kBC37 := boxc_kept kBC36 gs (by intro e; have := Option.some.inj e; omega)
                have FPC37 := FrR.put FPC36 kl36 (.bool L2.b) (.slice rl2 L2.X.length cl2) (.slice sl2 L2.Y.length dl2)
                rw [← hw37] at FPC37
                have kPC37 := boxc_kept kPC36 gs (by intro e; have := Option.some.inj e; omega)
                have FAC37 := FrR.put FAC36 kl36 (.bool L2.b) (.slice rl2 L2.X.length cl2) (.slice sl2 L2.Y.length dl2)
                rw [← hw37] at FAC37
                have kAC37 := boxc_kept kAC36 gs (by intro e; have := Option.some.inj e; omega)
                have kl37 : BoxC w37 gl 25 #[.bool L2.b, .slice rl2 L2.X.length cl2, .slice sl2 L2.Y.length dl2] := by rw [hw37]; exact boxc_set2 (boxc_set1 (boxc_set0 kl36 _) _) _
                have kn37 := boxc_kept kn36 gs (by intro e; have := Option.some.inj e; omega)
                have Fl237 := FrR.put Fl236 kl36 (.bool L2.b) (.slice rl2 L2.X.length cl2) (.slice sl2 L2.Y.length dl2)
                rw [← hw37] at Fl237
                have B37 : Below w.heap.size w w37 := by rw [hw37]; exact below_set3 B36 (by omega) _ _ _
                obtain ⟨zc0, zc1, zc2, zcf, zcn⟩ := boxc3 kl36
                clear gs FA36 FB36 kA36 kB36 FC36 kC36 FS36 kS36 FP36 kP36 FBC36 kBC36 FPC36 kPC36 FAC36 kAC36 kl36 kn36 Fl236 B36
                go_upto_region 35 with fail
                rw [← hw37]
                clear hw37 zc0 zc1 zc2 zcf zcn
                have hd37 := Hdl.keep HH.out B37 (Hdl.pos HH.out)
                obtain ⟨kAc0, kAc1, kAc2, _, kAcn⟩ := boxc3 kA37
                obtain ⟨kPCc0, kPCc1, kPCc2, _, kPCcn⟩ := boxc3 kPC37
                go_wp2_with fail
                refine Calls.mono (MUL.out _ _ _ L2 _ _ _ _ _ _ _ _ (by rw [hL2.out, hP.out, hPC.out]; exact top_massoc (by rw [← hP.out]; exact okP) (by rw [← hPC.out]; exact okPC)) hd37 FA37 FPC37) ?_
                rintro e w38 ⟨rn2, sn2, cn2, dn2, rfl, Fn238, bq⟩
                clear kAc0 kAc1 kAc2 kPCc0 kPCc1 kPCc2
                clear hd37
                have FA38 := FA37.keep bq
                have FB38 := FB37.keep bq
                have kA38 := boxc_keep kA37 bq
                have kB38 := boxc_keep kB37 bq
                have FC38 := FC37.keep bq
                have kC38 := boxc_keep kC37 bq
                have FS38 := FS37.keep bq
                have kS38 := boxc_keep kS37 bq
                have FP38 := FP37.keep bq
                have kP38 := boxc_keep kP37 bq
                have FBC38 := FBC37.keep bq
                have kBC38 := boxc_keep kBC37 bq
                have FPC38 := FPC37.keep bq
                have kPC38 := boxc_keep kPC37 bq
                have FAC38 := FAC37.keep bq
                have kAC38 := boxc_keep kAC37 bq
                have kl38 := boxc_keep kl37 bq
                have kn38 := boxc_keep kn37 bq
                have Fl238 := Fl237.keep bq
                have B38 := B37.trans (bq.mono B37.size)
                clear FA37 FB37 kA37 kB37 FC37 kC37 FS37 kS37 FP37 kP37 FBC37 kBC37 FPC37 kPC37 FAC37 kAC37 kl37 kn37 Fl237 B37 bq
                obtain ⟨w39, hw39⟩ : ∃ w39, w39 = ((w38.setCell ⟨gn, 0, none⟩ (.bool L2.b)).setCell ⟨gn, 1, none⟩ (.slice rn2 L2.X.length cn2)).setCell ⟨gn, 2, none⟩ (.slice sn2 L2.Y.length dn2) := ⟨_, rfl⟩
                have gs : w38.grownBy w39 (some gn) := by rw [hw39]; exact gr_set3 _ _ _ _ _
                have FA39 := FrR.put FA38 kn38 (.bool L2.b) (.slice rn2 L2.X.length cn2) (.slice sn2 L2.Y.length dn2)
                rw [← hw39] at FA39
                have FB39 := FrR.put FB38 kn38 (.bool L2.b) (.slice rn2 L2.X.length cn2) (.slice sn2 L2.Y.length dn2)
                rw [← hw39] at FB39
                have kA39 := boxc_kept kA38 gs (by intro e; have := Option.some.inj e; omega)
                have kB39 := boxc_kept kB38 gs (by intro e; have := Option.some.inj e; omega)
                have FC39 := FrR.put FC38 kn38 (.bool L2.b) (.slice rn2 L2.X.length cn2) (.slice sn2 L2.Y.length dn2)
                rw [← hw39] at FC39
                have kC39 := boxc_kept kC38 gs (by intro e; have := Option.some.inj e; omega)
                have FS39 := FrR.put FS38 kn38 (.bool L2.b) (.slice rn2 L2.X.length cn2) (.slice sn2 L2.Y.length dn2)
                rw [← hw39] at FS39
                have kS39 := boxc_kept kS38 gs (by intro e; have := Option.some.inj e; omega)
                have FP39 := FrR.put FP38 kn38 (.bool L2.b) (.slice rn2 L2.X.length cn2) (.slice sn2 L2.Y.length dn2)
                rw [← hw39] at FP39
                have kP39 := boxc_kept kP38 gs (by intro e; have := Option.some.inj e; omega)
                have FBC39 := FrR.put FBC38 kn38 (.bool L2.b) (.slice rn2 L2.X.length cn2) (.slice sn2 L2.Y.length dn2)
                rw [← hw39] at FBC39
                have kBC39 := boxc_kept kBC38 gs (by intro e; have := Option.some.inj e; omega)
                have FPC39 := FrR.put FPC38 kn38 (.bool L2.b) (.slice rn2 L2.X.length cn2) (.slice sn2 L2.Y.length dn2)
                rw [← hw39] at FPC39
                have kPC39 := boxc_kept kPC38 gs (by intro e; have := Option.some.inj e; omega)
                have FAC39 := FrR.put FAC38 kn38 (.bool L2.b) (.slice rn2 L2.X.length cn2) (.slice sn2 L2.Y.length dn2)
                rw [← hw39] at FAC39
                have kAC39 := boxc_kept kAC38 gs (by intro e; have := Option.some.inj e; omega)
                have kl39 := boxc_kept kl38 gs (by intro e; have := Option.some.inj e; omega)
                have kn39 : BoxC w39 gn 25 #[.bool L2.b, .slice rn2 L2.X.length cn2, .slice sn2 L2.Y.length dn2] := by rw [hw39]; exact boxc_set2 (boxc_set1 (boxc_set0 kn38 _) _) _
                have Fl239 := FrR.put Fl238 kn38 (.bool L2.b) (.slice rn2 L2.X.length cn2) (.slice sn2 L2.Y.length dn2)
                rw [← hw39] at Fl239
                have Fn239 := FrR.put Fn238 kn38 (.bool L2.b) (.slice rn2 L2.X.length cn2) (.slice sn2 L2.Y.length dn2)
                rw [← hw39] at Fn239
                have B39 : Below w.heap.size w w39 := by rw [hw39]; exact below_set3 B38 (by omega) _ _ _
                obtain ⟨zc0, zc1, zc2, zcf, zcn⟩ := boxc3 kn38
                clear gs FA38 FB38 kA38 kB38 FC38 kC38 FS38 kS38 FP38 kP38 FBC38 kBC38 FPC38 kPC38 FAC38 kAC38 kl38 kn38 Fl238 Fn238 B38
                go_upto_region 36 with fail
                rw [← hw39]
                clear hw39 zc0 zc1 zc2 zcf zcn
                cases okL2 : L2.ok with
                | false =>
                  clear Fl239 Fn239
                  go_upto_region 38 with fail
                  have hd39 := Hdl.keep HH.out B39 (Hdl.pos HH.out)
                  obtain ⟨kAc0, kAc1, kAc2, _, kAcn⟩ := boxc3 kA39
                  obtain ⟨kBCc0, kBCc1, kBCc2, _, kBCcn⟩ := boxc3 kBC39
                  go_wp2_with fail
                  refine Calls.mono (MUL.out _ _ _ L3 _ _ _ _ _ _ _ _ hL3.out hd39 FA39 FBC39) ?_
                  rintro e w40 ⟨rl3, sl3, cl3, dl3, rfl, Fl340, bq⟩
                  clear kAc0 kAc1 kAc2 kBCc0 kBCc1 kBCc2
                  clear hd39
                  have FA40 := FA39.keep bq
                  have FB40 := FB39.keep bq
                  have kA40 := boxc_keep kA39 bq
                  have kB40 := boxc_keep kB39 bq
                  have FC40 := FC39.keep bq
                  have kC40 := boxc_keep kC39 bq
                  have FS40 := FS39.keep bq
                  have kS40 := boxc_keep kS39 bq
                  have FP40 := FP39.keep bq
                  have kP40 := boxc_keep kP39 bq
                  have FBC40 := FBC39.keep bq
                  have kBC40 := boxc_keep kBC39 bq
                  have FPC40 := FPC39.keep bq
                  have kPC40 := boxc_keep kPC39 bq
                  have FAC40 := FAC39.keep bq
                  have kAC40 := boxc_keep kAC39 bq
                  have kl40 := boxc_keep kl39 bq
                  have kn40 := boxc_keep kn39 bq
                  have B40 := B39.trans (bq.mono B39.size)
                  clear FA39 FB39 kA39 kB39 FC39 kC39 FS39 kS39 FP39 kP39 FBC39 kBC39 FPC39 kPC39 FAC39 kAC39 kl39 kn39 B39 bq
                  obtain ⟨w41, hw41⟩ : ∃ w41, w41 = ((w40.setCell ⟨gl, 0, none⟩ (.bool L3.b)).setCell ⟨gl, 1, none⟩ (.slice rl3 L3.X.length cl3)).setCell ⟨gl, 2, none⟩ (.slice sl3 L3.Y.length dl3) := ⟨_, rfl⟩
                  have gs : w40.grownBy w41 (some gl) := by rw [hw41]; exact gr_set3 _ _ _ _ _
                  have FA41 := FrR.put FA40 kl40 (.bool L3.b) (.slice rl3 L3.X.length cl3) (.slice sl3 L3.Y.length dl3)
                  rw [← hw41] at FA41
                  have FB41 := FrR.put FB40 kl40 (.bool L3.b) (.slice rl3 L3.X.length cl3) (.slice sl3 L3.Y.length dl3)
                  rw [← hw41] at FB41
                  have kA41 := boxc_kept kA40 gs (by intro e; have := Option.some.inj e; omega)
                  have kB41 := boxc_kept kB40 gs (by intro e; have := Option.some.inj e; omega)
                  have FC41 := FrR.put FC40 kl40 (.bool L3.b) (.slice rl3 L3.X.length cl3) (.slice sl3 L3.Y.length dl3)
                  rw [← hw41] at FC41
                  have kC41 := boxc_kept kC40 gs (by intro e; have := Option.some.inj e; omega)
                  have FS41 := FrR.put FS40 kl40 (.bool L3.b) (.slice rl3 L3.X.length cl3) (.slice sl3 L3.Y.length dl3)
                  rw [← hw41] at FS41
                  have kS41 := boxc_kept kS40 gs (by intro e; have := Option.some.inj e; omega)
                  have FP41 := FrR.put FP40 kl40 (.bool L3.b) (.slice rl3 L3.X.length cl3) (.slice sl3 L3.Y.length dl3)
                  rw [← hw41] at FP41
                  have kP41 := boxc_kept kP40 gs (by intro e; have := Option.some.inj e; omega)
                  have FBC41 := FrR.put FBC40 kl40 (.bool L3.b) (.slice rl3 L3.X.length cl3) (.slice sl3 L3.Y.length dl3)
                  rw [← hw41] at FBC41
                  have kBC41 := boxc_kept kBC40 gs (by intro e; have := Option.some.inj e; omega)
                  have FPC41 := FrR.put FPC40 kl40 (.bool L3.b) (.slice rl3 L3.X.length cl3) (.slice sl3 L3.Y.length dl3)
                  rw [← hw41] at FPC41
                  have kPC41 := boxc_kept kPC40 gs (by intro e; have := Option.some.inj e; omega)
                  have FAC41 := FrR.put FAC40 kl40 (.bool L3.b) (.slice rl3 L3.X.length cl3) (.slice sl3 L3.Y.length dl3)
                  rw [← hw41] at FAC41
                  have kAC41 := boxc_kept kAC40 gs (by intro e; have := Option.some.inj e; omega)
                  have kl41 : BoxC w41 gl 25 #[.bool L3.b, .slice rl3 L3.X.length cl3, .slice sl3 L3.Y.length dl3] := by rw [hw41]; exact boxc_set2 (boxc_set1 (boxc_set0 kl40 _) _) _
                  have kn41 := boxc_kept kn40 gs (by intro e; have := Option.some.inj e; omega)
                  have Fl341 := FrR.put Fl340 kl40 (.bool L3.b) (.slice rl3 L3.X.length cl3) (.slice sl3 L3.Y.length dl3)
                  rw [← hw41] at Fl341
                  have B41 : Below w.heap.size w w41 := by rw [hw41]; exact below_set3 B40 (by omega) _ _ _
                  obtain ⟨zc0, zc1, zc2, zcf, zcn⟩ := boxc3 kl40
                  clear gs FA40 FB40 kA40 kB40 FC40 kC40 FS40 kS40 FP40 kP40 FBC40 kBC40 FPC40 kPC40 FAC40 kAC40 kl40 kn40 Fl340 B40
                  go_upto_region 39 with fail
                  rw [← hw41]
                  clear hw41 zc0 zc1 zc2 zcf zcn
                  have hd41 := Hdl.keep HH.out B41 (Hdl.pos HH.out)
                  obtain ⟨kPc0, kPc1, kPc2, _, kPcn⟩ := boxc3 kP41
                  obtain ⟨kACc0, kACc1, kACc2, _, kACcn⟩ := boxc3 kAC41
                  go_wp2_with fail
                  refine Calls.mono (ADD.out _ _ _ L3 _ _ _ _ _ _ _ _ (by rw [hL3.out, hBC.out, hP.out, hAC.out]; exact top_dist (by rw [← hBC.out]; exact okBC) (by rw [← hP.out]; exact okP) (by rw [← hAC.out]; exact okAC)) hd41 FP41 FAC41) ?_
                  rintro e w42 ⟨rn3, sn3, cn3, dn3, rfl, Fn342, bq⟩
                  clear kPc0 kPc1 kPc2 kACc0 kACc1 kACc2
                  clear hd41
                  have FA42 := FA41.keep bq
                  have FB42 := FB41.keep bq
                  have kA42 := boxc_keep kA41 bq
                  have kB42 := boxc_keep kB41 bq
                  have FC42 := FC41.keep bq
                  have kC42 := boxc_keep kC41 bq
                  have FS42 := FS41.keep bq
                  have kS42 := boxc_keep kS41 bq
                  have FP42 := FP41.keep bq
                  have kP42 := boxc_keep kP41 bq
                  have FBC42 := FBC41.keep bq
                  have kBC42 := boxc_keep kBC41 bq
                  have FPC42 := FPC41.keep bq
                  have kPC42 := boxc_keep kPC41 bq
                  have FAC42 := FAC41.keep bq
                  have kAC42 := boxc_keep kAC41 bq
                  have kl42 := boxc_keep kl41 bq
                  have kn42 := boxc_keep kn41 bq
                  have Fl342 := Fl341.keep bq
                  have B42 := B41.trans (bq.mono B41.size)
                  clear FA41 FB41 kA41 kB41 FC41 kC41 FS41 kS41 FP41 kP41 FBC41 kBC41 FPC41 kPC41 FAC41 kAC41 kl41 kn41 Fl341 B41 bq
                  obtain ⟨w43, hw43⟩ : ∃ w43, w43 = ((w42.setCell ⟨gn, 0, none⟩ (.bool L3.b)).setCell ⟨gn, 1, none⟩ (.slice rn3 L3.X.length cn3)).setCell ⟨gn, 2, none⟩ (.slice sn3 L3.Y.length dn3) := ⟨_, rfl⟩
                  have gs : w42.grownBy w43 (some gn) := by rw [hw43]; exact gr_set3 _ _ _ _ _
                  have FA43 := FrR.put FA42 kn42 (.bool L3.b) (.slice rn3 L3.X.length cn3) (.slice sn3 L3.Y.length dn3)
                  rw [← hw43] at FA43
                  have FB43 := FrR.put FB42 kn42 (.bool L3.b) (.slice rn3 L3.X.length cn3) (.slice sn3 L3.Y.length dn3)
                  rw [← hw43] at FB43
                  have kA43 := boxc_kept kA42 gs (by intro e; have := Option.some.inj e; omega)
                  have kB43 := boxc_kept kB42 gs (by intro e; have := Option.some.inj e; omega)
                  have FC43 := FrR.put FC42 kn42 (.bool L3.b) (.slice rn3 L3.X.length cn3) (.slice sn3 L3.Y.length dn3)
                  rw [← hw43] at FC43
                  have kC43 := boxc_kept kC42 gs (by intro e; have := Option.some.inj e; omega)
                  have FS43 := FrR.put FS42 kn42 (.bool L3.b) (.slice rn3 L3.X.length cn3) (.slice sn3 L3.Y.length dn3)
                  rw [← hw43] at FS43
                  have kS43 := boxc_kept kS42 gs (by intro e; have := Option.some.inj e; omega)
                  have FP43 := FrR.put FP42 kn42 (.bool L3.b) (.slice rn3 L3.X.length cn3) (.slice sn3 L3.Y.length dn3)
                  rw [← hw43] at FP43
                  have kP43 := boxc_kept kP42 gs (by intro e; have := Option.some.inj e; omega)
                  have FBC43 := FrR.put FBC42 kn42 (.bool L3.b) (.slice rn3 L3.X.length cn3) (.slice sn3 L3.Y.length dn3)
                  rw [← hw43] at FBC43
                  have kBC43 := boxc_kept kBC42 gs (by intro e; have := Option.some.inj e; omega)
                  have FPC43 := FrR.put FPC42 kn42 (.bool L3.b) (.slice rn3 L3.X.length cn3) (.slice sn3 L3.Y.length dn3)
                  rw [← hw43] at FPC43
                  have kPC43 := boxc_kept kPC42 gs (by intro e; have := Option.some.inj e; omega)
                  have FAC43 := FrR.put FAC42 kn42 (.bool L3.b) (.slice rn3 L3.X.length cn3) (.slice sn3 L3.Y.length dn3)
                  rw [← hw43] at FAC43
                  have kAC43 := boxc_kept kAC42 gs (by intro e; have := Option.some.inj e; omega)
                  have kl43 := boxc_kept kl42 gs (by intro e; have := Option.some.inj e; omega)
                  have kn43 : BoxC w43 gn 25 #[.bool L3.b, .slice rn3 L3.X.length cn3, .slice sn3 L3.Y.length dn3] := by rw [hw43]; exact boxc_set2 (boxc_set1 (boxc_set0 kn42 _) _) _
                  have Fl343 := FrR.put Fl342 kn42 (.bool L3.b) (.slice rn3 L3.X.length cn3) (.slice sn3 L3.Y.length dn3)
                  rw [← hw43] at Fl343
                  have Fn343 := FrR.put Fn342 kn42 (.bool L3.b) (.slice rn3 L3.X.length cn3) (.slice sn3 L3.Y.length dn3)
                  rw [← hw43] at Fn343
                  have B43 : Below w.heap.size w w43 := by rw [hw43]; exact below_set3 B42 (by omega) _ _ _
                  obtain ⟨zc0, zc1, zc2, zcf, zcn⟩ := boxc3 kn42
                  clear gs FA42 FB42 kA42 kB42 FC42 kC42 FS42 kS42 FP42 kP42 FBC42 kBC42 FPC42 kPC42 FAC42 kAC42 kl42 kn42 Fl342 Fn342 B42
                  go_upto_region 40 with fail
                  rw [← hw43]
                  clear hw43 zc0 zc1 zc2 zcf zcn
                  cases okL3 : L3.ok with
                  | false =>
                    have HBB : Hid (Below w.heap.size w w43) := B43
                    clear ADD MUL SUB DIV SAD SMU PW SG hS hP hBC hPC hAC hL1 hL2 hL3 hAok HH FA43 FB43 kA43 kB43 FC43 kC43 FS43 kS43 FP43 kP43 FBC43 kBC43 FPC43 kPC43 FAC43 kAC43 kl43 kn43 Fl343 Fn343 B43
                    go_wp2
                    go_ret
                    exact ⟨rfl, HBB.out⟩
                  | true =>
                    obtain ⟨klc0, klc1, klc2, _, klcn⟩ := boxc3 kl43
                    obtain ⟨knc0, knc1, knc2, _, kncn⟩ := boxc3 kn43
                    go_wp2_with fail
                    refine Calls.mono (PW.out _ L3 _ _ _ _ _ _ _ _ Fl343 Fn343) ?_
                    rintro e w44 ⟨rfl, bq⟩
                    clear klc0 klc1 klc2 knc0 knc1 knc2
                    have FA44 := FA43.keep bq
                    have FB44 := FB43.keep bq
                    have kA44 := boxc_keep kA43 bq
                    have kB44 := boxc_keep kB43 bq
                    have FC44 := FC43.keep bq
                    have kC44 := boxc_keep kC43 bq
                    have FS44 := FS43.keep bq
                    have kS44 := boxc_keep kS43 bq
                    have FP44 := FP43.keep bq
                    have kP44 := boxc_keep kP43 bq
                    have FBC44 := FBC43.keep bq
                    have kBC44 := boxc_keep kBC43 bq
                    have FPC44 := FPC43.keep bq
                    have kPC44 := boxc_keep kPC43 bq
                    have FAC44 := FAC43.keep bq
                    have kAC44 := boxc_keep kAC43 bq
                    have kl44 := boxc_keep kl43 bq
                    have kn44 := boxc_keep kn43 bq
                    have Fl344 := Fl343.keep bq
                    have Fn344 := Fn343.keep bq
                    have B44 := B43.trans (bq.mono B43.size)
                    clear FA43 FB43 kA43 kB43 FC43 kC43 FS43 kS43 FP43 kP43 FBC43 kBC43 FPC43 kPC43 FAC43 kAC43 kl43 kn43 Fl343 Fn343 B43 bq
                    have HBB : Hid (Below w.heap.size w w44) := B44
                    clear ADD MUL SUB DIV SAD SMU PW SG hS hP hBC hPC hAC hL1 hL2 hL3 hAok HH FA44 FB44 kA44 kB44 FC44 kC44 FS44 kS44 FP44 kP44 FBC44 kBC44 FPC44 kPC44 FAC44 kAC44 kl44 kn44 Fl344 Fn344 B44
                    go_wp2
                    go_ret
                    exact ⟨rfl, HBB.out⟩
                | true =>
                  obtain ⟨klc0, klc1, klc2, _, klcn⟩ := boxc3 kl39
                  obtain ⟨knc0, knc1, knc2, _, kncn⟩ := boxc3 kn39
                  go_wp2_with fail
                  refine Calls.mono (PW.out _ L2 _ _ _ _ _ _ _ _ Fl239 Fn239) ?_
                  rintro e w40 ⟨rfl, bq⟩
                  clear klc0 klc1 klc2 knc0 knc1 knc2
                  have FA40 := FA39.keep bq
                  have FB40 := FB39.keep bq
                  have kA40 := boxc_keep kA39 bq
                  have kB40 := boxc_keep kB39 bq
                  have FC40 := FC39.keep bq
                  have kC40 := boxc_keep kC39 bq
                  have FS40 := FS39.keep bq
                  have kS40 := boxc_keep kS39 bq
                  have FP40 := FP39.keep bq
                  have kP40 := boxc_keep kP39 bq
                  have FBC40 := FBC39.keep bq
                  have kBC40 := boxc_keep kBC39 bq
                  have FPC40 := FPC39.keep bq
                  have kPC40 := boxc_keep kPC39 bq
                  have FAC40 := FAC39.keep bq
                  have kAC40 := boxc_keep kAC39 bq
                  have kl40 := boxc_keep kl39 bq
                  have kn40 := boxc_keep kn39 bq
                  have Fl240 := Fl239.keep bq
                  have Fn240 := Fn239.keep bq
                  have B40 := B39.trans (bq.mono B39.size)
                  clear FA39 FB39 kA39 kB39 FC39 kC39 FS39 kS39 FP39 kP39 FBC39 kBC39 FPC39 kPC39 FAC39 kAC39 kl39 kn39 Fl239 Fn239 B39 bq
                  clear Fl240 Fn240
                  go_upto_region 38 with fail
                  have hd40 := Hdl.keep HH.out B40 (Hdl.pos HH.out)
                  obtain ⟨kAc0, kAc1, kAc2, _, kAcn⟩ := boxc3 kA40
                  obtain ⟨kBCc0, kBCc1, kBCc2, _, kBCcn⟩ := boxc3 kBC40
                  go_wp2_with fail
                  refine Calls.mono (MUL.out _ _ _ L3 _ _ _ _ _ _ _ _ hL3.out hd40 FA40 FBC40) ?_
                  rintro e w41 ⟨rl3, sl3, cl3, dl3, rfl, Fl341, bq⟩
                  clear kAc0 kAc1 kAc2 kBCc0 kBCc1 kBCc2
                  clear hd40
                  have FA41 := FA40.keep bq
                  have FB41 := FB40.keep bq
                  have kA41 := boxc_keep kA40 bq
                  have kB41 := boxc_keep kB40 bq
                  have FC41 := FC40.keep bq
                  have kC41 := boxc_keep kC40 bq
                  have FS41 := FS40.keep bq
                  have kS41 := boxc_keep kS40 bq
                  have FP41 := FP40.keep bq
                  have kP41 := boxc_keep kP40 bq
                  have FBC41 := FBC40.keep bq
                  have kBC41 := boxc_keep kBC40 bq
                  have FPC41 := FPC40.keep bq
                  have kPC41 := boxc_keep kPC40 bq
                  have FAC41 := FAC40.keep bq
                  have kAC41 := boxc_keep kAC40 bq
                  have kl41 := boxc_keep kl40 bq
                  have kn41 := boxc_keep kn40 bq
                  have B41 := B40.trans (bq.mono B40.size)
                  clear FA40 FB40 kA40 kB40 FC40 kC40 FS40 kS40 FP40 kP40 FBC40 kBC40 FPC40 kPC40 FAC40 kAC40 kl40 kn40 B40 bq
                  obtain ⟨w42, hw42⟩ : ∃ w42, w42 = ((w41.setCell ⟨gl, 0, none⟩ (.bool L3.b)).setCell ⟨gl, 1, none⟩ (.slice rl3 L3.X.length cl3)).setCell ⟨gl, 2, none⟩ (.slice sl3 L3.Y.length dl3) := ⟨_, rfl⟩
                  have gs : w41.grownBy w42 (some gl) := by rw [hw42]; exact gr_set3 _ _ _ _ _
                  have FA42 := FrR.put FA41 kl41 (.bool L3.b) (.slice rl3 L3.X.length cl3) (.slice sl3 L3.Y.length dl3)
                  rw [← hw42] at FA42
                  have FB42 := FrR.put FB41 kl41 (.bool L3.b) (.slice rl3 L3.X.length cl3) (.slice sl3 L3.Y.length dl3)
                  rw [← hw42] at FB42
                  have kA42 := boxc_kept kA41 gs (by intro e; have := Option.some.inj e; omega)
                  have kB42 := boxc_kept kB41 gs (by intro e; have := Option.some.inj e; omega)
                  have FC42 := FrR.put FC41 kl41 (.bool L3.b) (.slice rl3 L3.X.length cl3) (.slice sl3 L3.Y.length dl3)
                  rw [← hw42] at FC42
                  have kC42 := boxc_kept kC41 gs (by intro e; have := Option.some.inj e; omega)
                  have FS42 := FrR.put FS41 kl41 (.bool L3.b) (.slice rl3 L3.X.length cl3) (.slice sl3 L3.Y.length dl3)
                  rw [← hw42] at FS42
                  have kS42 := boxc_kept kS41 gs (by intro e; have := Option.some.inj e; omega)
                  have FP42 := FrR.put FP41 kl41 (.bool L3.b) (.slice rl3 L3.X.length cl3) (.slice sl3 L3.Y.length dl3)
                  rw [← hw42] at FP42
                  have kP42 := boxc_kept kP41 gs (by intro e; have := Option.some.inj e; omega)
                  have FBC42 := FrR.put FBC41 kl41 (.bool L3.b) (.slice rl3 L3.X.length cl3) (.slice sl3 L3.Y.length dl3)
                  rw [← hw42] at FBC42
                  have kBC42 := boxc_kept kBC41 gs (by intro e; have := Option.some.inj e; omega)
                  have FPC42 := FrR.put FPC41 kl41 (.bool L3.b) (.slice rl3 L3.X.length cl3) (.slice sl3 L3.Y.length dl3)
                  rw [← hw42] at FPC42
                  have kPC42 := boxc_kept kPC41 gs (by intro e; have := Option.some.inj e; omega)
                  have FAC42 := FrR.put FAC41 kl41 (.bool L3.b) (.slice rl3 L3.X.length cl3) (.slice sl3 L3.Y.length dl3)
                  rw [← hw42] at FAC42
                  have kAC42 := boxc_kept kAC41 gs (by intro e; have := Option.some.inj e; omega)
                  have kl42 : BoxC w42 gl 25 #[.bool L3.b, .slice rl3 L3.X.length cl3, .slice sl3 L3.Y.length dl3] := by rw [hw42]; exact boxc_set2 (boxc_set1 (boxc_set0 kl41 _) _) _
                  have kn42 := boxc_kept kn41 gs (by intro e; have := Option.some.inj e; omega)
                  have Fl342 := FrR.put Fl341 kl41 (.bool L3.b) (.slice rl3 L3.X.length cl3) (.slice sl3 L3.Y.length dl3)
                  rw [← hw42] at Fl342
                  have B42 : Below w.heap.size w w42 := by rw [hw42]; exact below_set3 B41 (by omega) _ _ _
                  obtain ⟨zc0, zc1, zc2, zcf, zcn⟩ := boxc3 kl41
                  clear gs FA41 FB41 kA41 kB41 FC41 kC41 FS41 kS41 FP41 kP41 FBC41 kBC41 FPC41 kPC41 FAC41 kAC41 kl41 kn41 Fl341 B41
                  go_upto_region 39 with fail
                  rw [← hw42]
                  clear hw42 zc0 zc1 zc2 zcf zcn
                  have hd42 := Hdl.keep HH.out B42 (Hdl.pos HH.out)
                  obtain ⟨kPc0, kPc1, kPc2, _, kPcn⟩ := boxc3 kP42
                  obtain ⟨kACc0, kACc1, kACc2, _, kACcn⟩ := boxc3 kAC42
                  go_wp2_with fail
                  refine Calls.mono (ADD.out _ _ _ L3 _ _ _ _ _ _ _ _ (by rw [hL3.out, hBC.out, hP.out, hAC.out]; exact top_dist (by rw [← hBC.out]; exact okBC) (by rw [← hP.out]; exact okP) (by rw [← hAC.out]; exact okAC)) hd42 FP42 FAC42) ?_
                  rintro e w43 ⟨rn3, sn3, cn3, dn3, rfl, Fn343, bq⟩
                  clear kPc0 kPc1 kPc2 kACc0 kACc1 kACc2
                  clear hd42
                  have FA43 := FA42.keep bq
                  have FB43 := FB42.keep bq
                  have kA43 := boxc_keep kA42 bq
                  have kB43 := boxc_keep kB42 bq
                  have FC43 := FC42.keep bq
                  have kC43 := boxc_keep kC42 bq
                  have FS43 := FS42.keep bq
                  have kS43 := boxc_keep kS42 bq
                  have FP43 := FP42.keep bq
                  have kP43 := boxc_keep kP42 bq
                  have FBC43 := FBC42.keep bq
                  have kBC43 := boxc_keep kBC42 bq
                  have FPC43 := FPC42.keep bq
                  have kPC43 := boxc_keep kPC42 bq
                  have FAC43 := FAC42.keep bq
                  have kAC43 := boxc_keep kAC42 bq
                  have kl43 := boxc_keep kl42 bq
                  have kn43 := boxc_keep kn42 bq
                  have Fl343 := Fl342.keep bq
                  have B43 := B42.trans (bq.mono B42.size)
                  clear FA42 FB42 kA42 kB42 FC42 kC42 FS42 kS42 FP42 kP42 FBC42 kBC42 FPC42 kPC42 FAC42 kAC42 kl42 kn42 Fl342 B42 bq
                  obtain ⟨w44, hw44⟩ : ∃ w44, w44 = ((w43.setCell ⟨gn, 0, none⟩ (.bool L3.b)).setCell ⟨gn, 1, none⟩ (.slice rn3 L3.X.length cn3)).setCell ⟨gn, 2, none⟩ (.slice sn3 L3.Y.length dn3) := ⟨_, rfl⟩
                  have gs : w43.grownBy w44 (some gn) := by rw [hw44]; exact gr_set3 _ _ _ _ _
                  have FA44 := FrR.put FA43 kn43 (.bool L3.b) (.slice rn3 L3.X.length cn3) (.slice sn3 L3.Y.length dn3)
                  rw [← hw44] at FA44
                  have FB44 := FrR.put FB43 kn43 (.bool L3.b) (.slice rn3 L3.X.length cn3) (.slice sn3 L3.Y.length dn3)
                  rw [← hw44] at FB44
                  have kA44 := boxc_kept kA43 gs (by intro e; have := Option.some.inj e; omega)
                  have kB44 := boxc_kept kB43 gs (by intro e; have := Option.some.inj e; omega)
                  have FC44 := FrR.put FC43 kn43 (.bool L3.b) (.slice rn3 L3.X.length cn3) (.slice sn3 L3.Y.length dn3)
                  rw [← hw44] at FC44
                  have kC44 := boxc_kept kC43 gs (by intro e; have := Option.some.inj e; omega)
                  have FS44 := FrR.put FS43 kn43 (.bool L3.b) (.slice rn3 L3.X.length cn3) (.slice sn3 L3.Y.length dn3)
                  rw [← hw44] at FS44
                  have kS44 := boxc_kept kS43 gs (by intro e; have := Option.some.inj e; omega)
                  have FP44 := FrR.put FP43 kn43 (.bool L3.b) (.slice rn3 L3.X.length cn3) (.slice sn3 L3.Y.length dn3)
                  rw [← hw44] at FP44
                  have kP44 := boxc_kept kP43 gs (by intro e; have := Option.some.inj e; omega)
                  have FBC44 := FrR.put FBC43 kn43 (.bool L3.b) (.slice rn3 L3.X.length cn3) (.slice sn3 L3.Y.length dn3)
                  rw [← hw44] at FBC44
                  have kBC44 := boxc_kept kBC43 gs (by intro e; have := Option.some.inj e; omega)
                  have FPC44 := FrR.put FPC43 kn43 (.bool L3.b) (.slice rn3 L3.X.length cn3) (.slice sn3 L3.Y.length dn3)
                  rw [← hw44] at FPC44
                  have kPC44 := boxc_kept kPC43 gs (by intro e; have := Option.some.inj e; omega)
                  have FAC44 := FrR.put FAC43 kn43 (.bool L3.b) (.slice rn3 L3.X.length cn3) (.slice sn3 L3.Y.length dn3)
                  rw [← hw44] at FAC44
                  have kAC44 := boxc_kept kAC43 gs (by intro e; have := Option.some.inj e; omega)
                  have kl44 := boxc_kept kl43 gs (by intro e; have := Option.some.inj e; omega)
                  have kn44 : BoxC w44 gn 25 #[.bool L3.b, .slice rn3 L3.X.length cn3, .slice sn3 L3.Y.length dn3] := by rw [hw44]; exact boxc_set2 (boxc_set1 (boxc_set0 kn43 _) _) _
                  have Fl344 := FrR.put Fl343 kn43 (.bool L3.b) (.slice rn3 L3.X.length cn3) (.slice sn3 L3.Y.length dn3)
                  rw [← hw44] at Fl344
                  have Fn344 := FrR.put Fn343 kn43 (.bool L3.b) (.slice rn3 L3.X.length cn3) (.slice sn3 L3.Y.length dn3)
                  rw [← hw44] at Fn344
                  have B44 : Below w.heap.size w w44 := by rw [hw44]; exact below_set3 B43 (by omega) _ _ _
                  obtain ⟨zc0, zc1, zc2, zcf, zcn⟩ := boxc3 kn43
                  clear gs FA43 FB43 kA43 kB43 FC43 kC43 FS43 kS43 FP43 kP43 FBC43 kBC43 FPC43 kPC43 FAC43 kAC43 kl43 kn43 Fl343 Fn343 B43
                  go_upto_region 40 with fail
                  rw [← hw44]
                  clear hw44 zc0 zc1 zc2 zcf zcn
                  cases okL3 : L3.ok with
                  | false =>
                    have HBB : Hid (Below w.heap.size w w44) := B44
                    clear ADD MUL SUB DIV SAD SMU PW SG hS hP hBC hPC hAC hL1 hL2 hL3 hAok HH FA44 FB44 kA44 kB44 FC44 kC44 FS44 kS44 FP44 kP44 FBC44 kBC44 FPC44 kPC44 FAC44 kAC44 kl44 kn44 Fl344 Fn344 B44
                    go_wp2
                    go_ret
                    exact ⟨rfl, HBB.out⟩
                  | true =>
                    obtain ⟨klc0, klc1, klc2, _, klcn⟩ := boxc3 kl44
                    obtain ⟨knc0, knc1, knc2, _, kncn⟩ := boxc3 kn44
                    go_wp2_with fail
                    refine Calls.mono (PW.out _ L3 _ _ _ _ _ _ _ _ Fl344 Fn344) ?_
                    rintro e w45 ⟨rfl, bq⟩
                    clear klc0 klc1 klc2 knc0 knc1 knc2
                    have FA45 := FA44.keep bq
                    have FB45 := FB44.keep bq
                    have kA45 := boxc_keep kA44 bq
                    have kB45 := boxc_keep kB44 bq
                    have FC45 := FC44.keep bq
                    have kC45 := boxc_keep kC44 bq
                    have FS45 := FS44.keep bq
                    have kS45 := boxc_keep kS44 bq
                    have FP45 := FP44.keep bq
                    have kP45 := boxc_keep kP44 bq
                    have FBC45 := FBC44.keep bq
                    have kBC45 := boxc_keep kBC44 bq
                    have FPC45 := FPC44.keep bq
                    have kPC45 := boxc_keep kPC44 bq
                    have FAC45 := FAC44.keep bq
                    have kAC45 := boxc_keep kAC44 bq
                    have kl45 := boxc_keep kl44 bq
                    have kn45 := boxc_keep kn44 bq
                    have Fl345 := Fl344.keep bq
                    have Fn345 := Fn344.keep bq
                    have B45 := B44.trans (bq.mono B44.size)
                    clear FA44 FB44 kA44 kB44 FC44 kC44 FS44 kS44 FP44 kP44 FBC44 kBC44 FPC44 kPC44 FAC44 kAC44 kl44 kn44 Fl344 Fn344 B44 bq
                    have HBB : Hid (Below w.heap.size w w45) := B45
                    clear ADD MUL SUB DIV SAD SMU PW SG hS hP hBC hPC hAC hL1 hL2 hL3 hAok HH FA45 FB45 kA45 kB45 FC45 kC45 FS45 kS45 FP45 kP45 FBC45 kBC45 FPC45 kPC45 FAC45 kAC45 kl45 kn45 Fl345 Fn345 B45
                    go_wp2
                    go_ret
                    exact ⟨rfl, HBB.out⟩
      · have hzb : (z != 0) = true := by rw [bne_iff_ne]; exact hz0
        have hd24 := Hdl.keep HH.out B24 (Hdl.pos HH.out)
        obtain ⟨kPc0, kPc1, kPc2, _, kPcn⟩ := boxc3 kP24
        obtain ⟨kBc0, kBc1, kBc2, _, kBcn⟩ := boxc3 kB24
        go_wp2_with fail
        refine Calls.mono (DIV.out _ _ _ A _ _ _ _ _ _ _ _ (by rw [hP.out]; exact (top_div hAok.out (by rw [← hP.out]; exact okP) (sg_some (by rw [← HZ.out]; exact hz0))).symm) hd24 FP24 FB24) ?_
        rintro e w25 ⟨rK2, sK2, cK2, dK2, rfl, FK225, bq⟩
        clear kPc0 kPc1 kPc2 kBc0 kBc1 kBc2
        clear hd24
        have FA25 := FA24.keep bq
        have FB25 := FB24.keep bq
        have kA25 := boxc_keep kA24 bq
        have kB25 := boxc_keep kB24 bq
        have FC25 := FC24.keep bq
        have kC25 := boxc_keep kC24 bq
        have FS25 := FS24.keep bq
        have kS25 := boxc_keep kS24 bq
        have FP25 := FP24.keep bq
        have kP25 := boxc_keep kP24 bq
        have kK25 := boxc_keep kK24 bq
        have B25 := B24.trans (bq.mono B24.size)
        clear FA24 FB24 kA24 kB24 FC24 kC24 FS24 kS24 FP24 kP24 kK24 B24 bq
        obtain ⟨w26, hw26⟩ : ∃ w26, w26 = ((w25.setCell ⟨gK, 0, none⟩ (.bool A.b)).setCell ⟨gK, 1, none⟩ (.slice rK2 A.X.length cK2)).setCell ⟨gK, 2, none⟩ (.slice sK2 A.Y.length dK2) := ⟨_, rfl⟩
        have gs : w25.grownBy w26 (some gK) := by rw [hw26]; exact gr_set3 _ _ _ _ _
        have FA26 := FrR.put FA25 kK25 (.bool A.b) (.slice rK2 A.X.length cK2) (.slice sK2 A.Y.length dK2)
        rw [← hw26] at FA26
        have FB26 := FrR.put FB25 kK25 (.bool A.b) (.slice rK2 A.X.length cK2) (.slice sK2 A.Y.length dK2)
        rw [← hw26] at FB26
        have kA26 := boxc_kept kA25 gs (by intro e; have := Option.some.inj e; omega)
        have kB26 := boxc_kept kB25 gs (by intro e; have := Option.some.inj e; omega)
        have FC26 := FrR.put FC25 kK25 (.bool A.b) (.slice rK2 A.X.length cK2) (.slice sK2 A.Y.length dK2)
        rw [← hw26] at FC26
        have kC26 := boxc_kept kC25 gs (by intro e; have := Option.some.inj e; omega)
        have FS26 := FrR.put FS25 kK25 (.bool A.b) (.slice rK2 A.X.length cK2) (.slice sK2 A.Y.length dK2)
        rw [← hw26] at FS26
        have kS26 := boxc_kept kS25 gs (by intro e; have := Option.some.inj e; omega)
        have FP26 := FrR.put FP25 kK25 (.bool A.b) (.slice rK2 A.X.length cK2) (.slice sK2 A.Y.length dK2)
        rw [← hw26] at FP26
        have kP26 := boxc_kept kP25 gs (by intro e; have := Option.some.inj e; omega)
        have kK26 : BoxC w26 gK 25 #[.bool A.b, .slice rK2 A.X.length cK2, .slice sK2 A.Y.length dK2] := by rw [hw26]; exact boxc_set2 (boxc_set1 (boxc_set0 kK25 _) _) _
        have FK226 := FrR.put FK225 kK25 (.bool A.b) (.slice rK2 A.X.length cK2) (.slice sK2 A.Y.length dK2)
        rw [← hw26] at FK226
        have B26 : Below w.heap.size w w26 := by rw [hw26]; exact below_set3 B25 (by omega) _ _ _
        obtain ⟨zc0, zc1, zc2, zcf, zcn⟩ := boxc3 kK25
        clear gs FA25 FB25 kA25 kB25 FC25 kC25 FS25 kS25 FP25 kP25 kK25 FK225 B25
        go_upto_region 24 with fail
        rw [← hw26]
        clear hw26 zc0 zc1 zc2 zcf zcn
        try rw [okA]
        obtain ⟨kKc0, kKc1, kKc2, _, kKcn⟩ := boxc3 kK26
        obtain ⟨kAc0, kAc1, kAc2, _, kAcn⟩ := boxc3 kA26
        go_wp2_with fail
        refine Calls.mono (PW.out _ _ _ _ _ _ _ _ _ _ FK226 FA26) ?_
        rintro e w27 ⟨rfl, bq⟩
        clear kKc0 kKc1 kKc2 kAc0 kAc1 kAc2
        have FA27 := FA26.keep bq
        have FB27 := FB26.keep bq
        have kA27 := boxc_keep kA26 bq
        have kB27 := boxc_keep kB26 bq
        have FC27 := FC26.keep bq
        have kC27 := boxc_keep kC26 bq
        have FS27 := FS26.keep bq
        have kS27 := boxc_keep kS26 bq
        have FP27 := FP26.keep bq
        have kP27 := boxc_keep kP26 bq
        have kK27 := boxc_keep kK26 bq
        have FK227 := FK226.keep bq
        have B27 := B26.trans (bq.mono B26.size)
        clear FA26 FB26 kA26 kB26 FC26 kC26 FS26 kS26 FP26 kP26 kK26 FK226 B26 bq
        clear HZ hz0 hzb
        clear kK27 FK227
        go_upto_region 26 with fail
        have hd27 := Hdl.keep HH.out B27 (Hdl.pos HH.out)
        obtain ⟨kBc0, kBc1, kBc2, _, kBcn⟩ := boxc3 kB27
        obtain ⟨kCc0, kCc1, kCc2, _, kCcn⟩ := boxc3 kC27
        go_wp2_with fail
        refine Calls.mono (ADD.out _ _ _ BC _ _ _ _ _ _ _ _ hBC.out hd27 FB27 FC27) ?_
        rintro e w28 ⟨rBC, sBC, cBC, dBC, rfl, FBC28, bq⟩
        clear kBc0 kBc1 kBc2 kCc0 kCc1 kCc2
        clear hd27
        have FA28 := FA27.keep bq
        have FB28 := FB27.keep bq
        have kA28 := boxc_keep kA27 bq
        have kB28 := boxc_keep kB27 bq
        have FC28 := FC27.keep bq
        have kC28 := boxc_keep kC27 bq
        have FS28 := FS27.keep bq
        have kS28 := boxc_keep kS27 bq
        have FP28 := FP27.keep bq
        have kP28 := boxc_keep kP27 bq
        have B28 := B27.trans (bq.mono B27.size)
        clear FA27 FB27 kA27 kB27 FC27 kC27 FS27 kS27 FP27 kP27 B27 bq
        obtain ⟨w29, hw29⟩ : ∃ w29, w29 = w28.alloc (.cells #[.bool BC.b, .slice rBC BC.X.length cBC, .slice sBC BC.Y.length dBC] 25) := ⟨_, rfl⟩
        obtain ⟨gBC, hgBC⟩ : ∃ gBC, gBC = w28.heap.size := ⟨_, rfl⟩
        have b29 : Below w28.heap.size w28 w29 := by rw [hw29]; exact (Below.refl _ w28).alloc (Nat.le_refl _) _
        have kBC29 : BoxC w29 gBC 25 #[.bool BC.b, .slice rBC BC.X.length cBC, .slice sBC BC.Y.length dBC] := by rw [hw29, hgBC]; exact boxc_new _ _ _
        have FA29 := FA28.keep b29
        have FB29 := FB28.keep b29
        have kA29 := boxc_keep kA28 b29
        have kB29 := boxc_keep kB28 b29
        have FC29 := FC28.keep b29
        have kC29 := boxc_keep kC28 b29
        have FS29 := FS28.keep b29
        have kS29 := boxc_keep kS28 b29
        have FP29 := FP28.keep b29
        have kP29 := boxc_keep kP28 b29
        have FBC29 := FBC28.keep b29
        have B29 := B28.trans (b29.mono B28.size)
        clear FA28 FB28 kA28 kB28 FC28 kC28 FS28 kS28 FP28 kP28 FBC28 B28 b29
        go_upto_region 27 with fail
        rw [← hw29, ← hgBC]
        clear hw29 hgBC
        have hd29 := Hdl.keep HH.out B29 (Hdl.pos HH.out)
        obtain ⟨kBc0, kBc1, kBc2, _, kBcn⟩ := boxc3 kB29
        obtain ⟨kCc0, kCc1, kCc2, _, kCcn⟩ := boxc3 kC29
        go_wp2_with fail
        refine Calls.mono (MUL.out _ _ _ PC _ _ _ _ _ _ _ _ hPC.out hd29 FB29 FC29) ?_
        rintro e w30 ⟨rPC, sPC, cPC, dPC, rfl, FPC30, bq⟩
        clear kBc0 kBc1 kBc2 kCc0 kCc1 kCc2
        clear hd29
        have FA30 := FA29.keep bq
        have FB30 := FB29.keep bq
        have kA30 := boxc_keep kA29 bq
        have kB30 := boxc_keep kB29 bq
        have FC30 := FC29.keep bq
        have kC30 := boxc_keep kC29 bq
        have FS30 := FS29.keep bq
        have kS30 := boxc_keep kS29 bq
        have FP30 := FP29.keep bq
        have kP30 := boxc_keep kP29 bq
        have FBC30 := FBC29.keep bq
        have kBC30 := boxc_keep kBC29 bq
        have B30 := B29.trans (bq.mono B29.size)
        clear FA29 FB29 kA29 kB29 FC29 kC29 FS29 kS29 FP29 kP29 FBC29 kBC29 B29 bq
        obtain ⟨w31, hw31⟩ : ∃ w31, w31 = w30.alloc (.cells #[.bool PC.b, .slice rPC PC.X.length cPC, .slice sPC PC.Y.length dPC] 25) := ⟨_, rfl⟩
        obtain ⟨gPC, hgPC⟩ : ∃ gPC, gPC = w30.heap.size := ⟨_, rfl⟩
        have b31 : Below w30.heap.size w30 w31 := by rw [hw31]; exact (Below.refl _ w30).alloc (Nat.le_refl _) _
        have kPC31 : BoxC w31 gPC 25 #[.bool PC.b, .slice rPC PC.X.length cPC, .slice sPC PC.Y.length dPC] := by rw [hw31, hgPC]; exact boxc_new _ _ _
        have FA31 := FA30.keep b31
        have FB31 := FB30.keep b31
        have kA31 := boxc_keep kA30 b31
        have kB31 := boxc_keep kB30 b31
        have FC31 := FC30.keep b31
        have kC31 := boxc_keep kC30 b31
        have FS31 := FS30.keep b31
        have kS31 := boxc_keep kS30 b31
        have FP31 := FP30.keep b31
        have kP31 := boxc_keep kP30 b31
        have FBC31 := FBC30.keep b31
        have kBC31 := boxc_keep kBC30 b31
        have FPC31 := FPC30.keep b31
        have B31 := B30.trans (b31.mono B30.size)
        clear FA30 FB30 kA30 kB30 FC30 kC30 FS30 kS30 FP30 kP30 FBC30 kBC30 FPC30 B30 b31
        go_upto_region 28 with fail
        rw [← hw31, ← hgPC]
        clear hw31 hgPC
        have hd31 := Hdl.keep HH.out B31 (Hdl.pos HH.out)
        obtain ⟨kAc0, kAc1, kAc2, _, kAcn⟩ := boxc3 kA31
        obtain ⟨kCc0, kCc1, kCc2, _, kCcn⟩ := boxc3 kC31
        go_wp2_with fail
        refine Calls.mono (MUL.out _ _ _ AC _ _ _ _ _ _ _ _ hAC.out hd31 FA31 FC31) ?_
        rintro e w32 ⟨rAC, sAC, cAC, dAC, rfl, FAC32, bq⟩
        clear kAc0 kAc1 kAc2 kCc0 kCc1 kCc2
        clear hd31
        have FA32 := FA31.keep bq
        have FB32 := FB31.keep bq
        have kA32 := boxc_keep kA31 bq
        have kB32 := boxc_keep kB31 bq
        have FC32 := FC31.keep bq
        have kC32 := boxc_keep kC31 bq
        have FS32 := FS31.keep bq
        have kS32 := boxc_keep kS31 bq
        have FP32 := FP31.keep bq
        have kP32 := boxc_keep kP31 bq
        have FBC32 := FBC31.keep bq
        have kBC32 := boxc_keep kBC31 bq
        have FPC32 := FPC31.keep bq
        have kPC32 := boxc_keep kPC31 bq
        have B32 := B31.trans (bq.mono B31.size)
        clear FA31 FB31 kA31 kB31 FC31 kC31 FS31 kS31 FP31 kP31 FBC31 kBC31 FPC31 kPC31 B31 bq
        obtain ⟨w33, hw33⟩ : ∃ w33, w33 = w32.alloc (.cells #[.bool AC.b, .slice rAC AC.X.length cAC, .slice sAC AC.Y.length dAC] 25) := ⟨_, rfl⟩
        obtain ⟨gAC, hgAC⟩ : ∃ gAC, gAC = w32.heap.size := ⟨_, rfl⟩
        have b33 : Below w32.heap.size w32 w33 := by rw [hw33]; exact (Below.refl _ w32).alloc (Nat.le_refl _) _
        have kAC33 : BoxC w33 gAC 25 #[.bool AC.b, .slice rAC AC.X.length cAC, .slice sAC AC.Y.length dAC] := by rw [hw33, hgAC]; exact boxc_new _ _ _
        have FA33 := FA32.keep b33
        have FB33 := FB32.keep b33
        have kA33 := boxc_keep kA32 b33
        have kB33 := boxc_keep kB32 b33
        have FC33 := FC32.keep b33
        have kC33 := boxc_keep kC32 b33
        have FS33 := FS32.keep b33
        have kS33 := boxc_keep kS32 b33
        have FP33 := FP32.keep b33
        have kP33 := boxc_keep kP32 b33
        have FBC33 := FBC32.keep b33
        have kBC33 := boxc_keep kBC32 b33
        have FPC33 := FPC32.keep b33
        have kPC33 := boxc_keep kPC32 b33
        have FAC33 := FAC32.keep b33
        have B33 := B32.trans (b33.mono B32.size)
        clear FA32 FB32 kA32 kB32 FC32 kC32 FS32 kS32 FP32 kP32 FBC32 kBC32 FPC32 kPC32 FAC32 B32 b33
        go_upto_region 29 with fail
        rw [← hw33, ← hgAC]
        clear hw33 hgAC
        cases okBC : BC.ok with
        | false =>
          have HBB : Hid (Below w.heap.size w w33) := B33
          clear ADD MUL SUB DIV SAD SMU PW SG hS hP hBC hPC hAC hL1 hL2 hL3 hAok HH FA33 FB33 kA33 kB33 FC33 kC33 FS33 kS33 FP33 kP33 FBC33 kBC33 FPC33 kPC33 FAC33 kAC33 B33
          go_wp2
          go_ret
          exact ⟨rfl, HBB.out⟩
        | true =>
          cases okPC : PC.ok with
          | false =>
            have HBB : Hid (Below w.heap.size w w33) := B33
            clear ADD MUL SUB DIV SAD SMU PW SG hS hP hBC hPC hAC hL1 hL2 hL3 hAok HH FA33 FB33 kA33 kB33 FC33 kC33 FS33 kS33 FP33 kP33 FBC33 kBC33 FPC33 kPC33 FAC33 kAC33 B33
            go_wp2
            go_ret
            exact ⟨rfl, HBB.out⟩
          | true =>
            cases okAC : AC.ok with
            | false =>
              have HBB : Hid (Below w.heap.size w w33) := B33
              clear ADD MUL SUB DIV SAD SMU PW SG hS hP hBC hPC hAC hL1 hL2 hL3 hAok HH FA33 FB33 kA33 kB33 FC33 kC33 FS33 kS33 FP33 kP33 FBC33 kBC33 FPC33 kPC33 FAC33 kAC33 B33
              go_wp2
              go_ret
              exact ⟨rfl, HBB.out⟩
            | true =>
              go_upto_region 30 with fail
              have hd33 := Hdl.keep HH.out B33 (Hdl.pos HH.out)
              obtain ⟨kSc0, kSc1, kSc2, _, kScn⟩ := boxc3 kS33
              obtain ⟨kCc0, kCc1, kCc2, _, kCcn⟩ := boxc3 kC33
              go_wp2_with fail
              refine Calls.mono (ADD.out _ _ _ L1 _ _ _ _ _ _ _ _ hL1.out hd33 FS33 FC33) ?_
              rintro e w34 ⟨rl, sl, cl, dl, rfl, Fl34, bq⟩
              clear kSc0 kSc1 kSc2 kCc0 kCc1 kCc2
              clear hd33
              have FA34 := FA33.keep bq
              have FB34 := FB33.keep bq
              have kA34 := boxc_keep kA33 bq
              have kB34 := boxc_keep kB33 bq
              have FC34 := FC33.keep bq
              have kC34 := boxc_keep kC33 bq
              have FS34 := FS33.keep bq
              have kS34 := boxc_keep kS33 bq
              have FP34 := FP33.keep bq
              have kP34 := boxc_keep kP33 bq
              have FBC34 := FBC33.keep bq
              have kBC34 := boxc_keep kBC33 bq
              have FPC34 := FPC33.keep bq
              have kPC34 := boxc_keep kPC33 bq
              have FAC34 := FAC33.keep bq
              have kAC34 := boxc_keep kAC33 bq
              have B34 := B33.trans (bq.mono B33.size)
              clear FA33 FB33 kA33 kB33 FC33 kC33 FS33 kS33 FP33 kP33 FBC33 kBC33 FPC33 kPC33 FAC33 kAC33 B33 bq
              have jkA := boxc_lt kA34
              have jkB := boxc_lt kB34
              have jkC := boxc_lt kC34
              have jkS := boxc_lt kS34
              have jkP := boxc_lt kP34
              have jkBC := boxc_lt kBC34
              have jkPC := boxc_lt kPC34
              have jkAC := boxc_lt kAC34
              have jsz := B34.size
              obtain ⟨w35, hw35⟩ : ∃ w35, w35 = w34.alloc (.cells #[.bool L1.b, .slice rl L1.X.length cl, .slice sl L1.Y.length dl] 25) := ⟨_, rfl⟩
              obtain ⟨gl, hgl⟩ : ∃ gl, gl = w34.heap.size := ⟨_, rfl⟩
              have b35 : Below w34.heap.size w34 w35 := by rw [hw35]; exact (Below.refl _ w34).alloc (Nat.le_refl _) _
              have kl35 : BoxC w35 gl 25 #[.bool L1.b, .slice rl L1.X.length cl, .slice sl L1.Y.length dl] := by rw [hw35, hgl]; exact boxc_new _ _ _
              have FA35 := FA34.keep b35
              have FB35 := FB34.keep b35
              have kA35 := boxc_keep kA34 b35
              have kB35 := boxc_keep kB34 b35
              have FC35 := FC34.keep b35
              have kC35 := boxc_keep kC34 b35
              have FS35 := FS34.keep b35
              have kS35 := boxc_keep kS34 b35
              have FP35 := FP34.keep b35
              have kP35 := boxc_keep kP34 b35
              have FBC35 := FBC34.keep b35
              have kBC35 := boxc_keep kBC34 b35
              have FPC35 := FPC34.keep b35
              have kPC35 := boxc_keep kPC34 b35
              have FAC35 := FAC34.keep b35
              have kAC35 := boxc_keep kAC34 b35
              have Fl35 := Fl34.keep b35
              have B35 := B34.trans (b35.mono B34.size)
              clear FA34 FB34 kA34 kB34 FC34 kC34 FS34 kS34 FP34 kP34 FBC34 kBC34 FPC34 kPC34 FAC34 kAC34 Fl34 B34 b35
              have ilkA : gA < gl := by rw [hgl]; exact jkA
              have ilkB : gA + 1 < gl := by rw [hgl]; exact jkB
              have ilkC : gC < gl := by rw [hgl]; exact jkC
              have ilkS : gS < gl := by rw [hgl]; exact jkS
              have ilkP : gP < gl := by rw [hgl]; exact jkP
              have ilkBC : gBC < gl := by rw [hgl]; exact jkBC
              have ilkPC : gPC < gl := by rw [hgl]; exact jkPC
              have ilkAC : gAC < gl := by rw [hgl]; exact jkAC
              have il0 : w.heap.size ≤ gl := by rw [hgl]; exact jsz
              clear jsz
              go_upto_region 31 with fail
              rw [← hw35, ← hgl]
              clear hw35 hgl jkA jkB jkC jkS jkP jkBC jkPC jkAC
              have hd35 := Hdl.keep HH.out B35 (Hdl.pos HH.out)
              obtain ⟨kAc0, kAc1, kAc2, _, kAcn⟩ := boxc3 kA35
              obtain ⟨kBCc0, kBCc1, kBCc2, _, kBCcn⟩ := boxc3 kBC35
              go_wp2_with fail
              refine Calls.mono (ADD.out _ _ _ L1 _ _ _ _ _ _ _ _ (by rw [hL1.out, hS.out, hBC.out]; exact top_assoc (by rw [← hS.out]; exact okS) (by rw [← hBC.out]; exact okBC)) hd35 FA35 FBC35) ?_
              rintro e w36 ⟨rn, sn, cn, dn, rfl, Fn36, bq⟩
              clear kAc0 kAc1 kAc2 kBCc0 kBCc1 kBCc2
              clear hd35
              have FA36 := FA35.keep bq
              have FB36 := FB35.keep bq
              have kA36 := boxc_keep kA35 bq
              have kB36 := boxc_keep kB35 bq
              have FC36 := FC35.keep bq
              have kC36 := boxc_keep kC35 bq
              have FS36 := FS35.keep bq
              have kS36 := boxc_keep kS35 bq
              have FP36 := FP35.keep bq
              have kP36 := boxc_keep kP35 bq
              have FBC36 := FBC35.keep bq
              have kBC36 := boxc_keep kBC35 bq
              have FPC36 := FPC35.keep bq
              have kPC36 := boxc_keep kPC35 bq
              have FAC36 := FAC35.keep bq
              have kAC36 := boxc_keep kAC35 bq
              have Fl36 := Fl35.keep bq
              have kl36 := boxc_keep kl35 bq
              have B36 := B35.trans (bq.mono B35.size)
              clear FA35 FB35 kA35 kB35 FC35 kC35 FS35 kS35 FP35 kP35 FBC35 kBC35 FPC35 kPC35 FAC35 kAC35 Fl35 kl35 B35 bq
              have jkA := boxc_lt kA36
              have jkB := boxc_lt kB36
              have jkC := boxc_lt kC36
              have jkS := boxc_lt kS36
              have jkP := boxc_lt kP36
              have jkBC := boxc_lt kBC36
              have jkPC := boxc_lt kPC36
              have jkAC := boxc_lt kAC36
              have jkl := boxc_lt kl36
              have jsz := B36.size
              obtain ⟨w37, hw37⟩ : ∃ w37, w37 = w36.alloc (.cells #[.bool L1.b, .slice rn L1.X.length cn, .slice sn L1.Y.length dn] 25) := ⟨_, rfl⟩
              obtain ⟨gn, hgn⟩ : ∃ gn, gn = w36.heap.size := ⟨_, rfl⟩
              have b37 : Below w36.heap.size w36 w37 := by rw [hw37]; exact (Below.refl _ w36).alloc (Nat.le_refl _) _
              have kn37 : BoxC w37 gn 25 #[.bool L1.b, .slice rn L1.X.length cn, .slice sn L1.Y.length dn] := by rw [hw37, hgn]; exact boxc_new _ _ _
              have FA37 := FA36.keep b37
              have FB37 := FB36.keep b37
              have kA37 := boxc_keep kA36 b37
              have kB37 := boxc_keep kB36 b37
              have FC37 := FC36.keep b37
              have kC37 := boxc_keep kC36 b37
              have FS37 := FS36.keep b37
              have kS37 := boxc_keep kS36 b37
              have FP37 := FP36.keep b37
              have kP37 := boxc_keep kP36 b37
              have FBC37 := FBC36.keep b37
              have kBC37 := boxc_keep kBC36 b37
              have FPC37 := FPC36.keep b37
              have kPC37 := boxc_keep kPC36 b37
              have FAC37 := FAC36.keep b37
              have kAC37 := boxc_keep kAC36 b37
              have Fl37 := Fl36.keep b37
              have kl37 := boxc_keep kl36 b37
              have Fn37 := Fn36.keep b37
              have B37 := B36.trans (b37.mono B36.size)
              clear FA36 FB36 kA36 kB36 FC36 kC36 FS36 kS36 FP36 kP36 FBC36 kBC36 FPC36 kPC36 FAC36 kAC36 Fl36 kl36 Fn36 B36 b37
              have inkA : gA < gn := by rw [hgn]; exact jkA
              have inkB : gA + 1 < gn := by rw [hgn]; exact jkB
              have inkC : gC < gn := by rw [hgn]; exact jkC
              have inkS : gS < gn := by rw [hgn]; exact jkS
              have inkP : gP < gn := by rw [hgn]; exact jkP
              have inkBC : gBC < gn := by rw [hgn]; exact jkBC
              have inkPC : gPC < gn := by rw [hgn]; exact jkPC
              have inkAC : gAC < gn := by rw [hgn]; exact jkAC
              have inkl : gl < gn := by rw [hgn]; exact jkl
              have in0 : w.heap.size ≤ gn := by rw [hgn]; exact jsz
              clear jsz
              go_upto_region 32 with fail
              rw [← hw37, ← hgn]
              clear hw37 hgn jkA jkB jkC jkS jkP jkBC jkPC jkAC jkl
              cases okL1 : L1.ok with
              | false =>
                clear Fl37 Fn37
                go_upto_region 34 with fail
                have hd37 := Hdl.keep HH.out B37 (Hdl.pos HH.out)
                obtain ⟨kPc0, kPc1, kPc2, _, kPcn⟩ := boxc3 kP37
                obtain ⟨kCc0, kCc1, kCc2, _, kCcn⟩ := boxc3 kC37
                go_wp2_with fail
                refine Calls.mono (MUL.out _ _ _ L2 _ _ _ _ _ _ _ _ hL2.out hd37 FP37 FC37) ?_
                rintro e w38 ⟨rl2, sl2, cl2, dl2, rfl, Fl238, bq⟩
                clear kPc0 kPc1 kPc2 kCc0 kCc1 kCc2
                clear hd37
                have FA38 := FA37.keep bq
                have FB38 := FB37.keep bq
                have kA38 := boxc_keep kA37 bq
                have kB38 := boxc_keep kB37 bq
                have FC38 := FC37.keep bq
                have kC38 := boxc_keep kC37 bq
                have FS38 := FS37.keep bq
                have kS38 := boxc_keep kS37 bq
                have FP38 := FP37.keep bq
                have kP38 := boxc_keep kP37 bq
                have FBC38 := FBC37.keep bq
                have kBC38 := boxc_keep kBC37 bq
                have FPC38 := FPC37.keep bq
                have kPC38 := boxc_keep kPC37 bq
                have FAC38 := FAC37.keep bq
                have kAC38 := boxc_keep kAC37 bq
                have kl38 := boxc_keep kl37 bq
                have kn38 := boxc_keep kn37 bq
                have B38 := B37.trans (bq.mono B37.size)
                clear FA37 FB37 kA37 kB37 FC37 kC37 FS37 kS37 FP37 kP37 FBC37 kBC37 FPC37 kPC37 FAC37 kAC37 kl37 kn37 B37 bq
                obtain ⟨w39, hw39⟩ : ∃ w39, w39 = ((w38.setCell ⟨gl, 0, none⟩ (.bool L2.b)).setCell ⟨gl, 1, none⟩ (.slice rl2 L2.X.length cl2)).setCell ⟨gl, 2, none⟩ (.slice sl2 L2.Y.length dl2) := ⟨_, rfl⟩
                have gs : w38.grownBy w39 (some gl) := by rw [hw39]; exact gr_set3 _ _ _ _ _
                have FA39 := FrR.put FA38 kl38 (.bool L2.b) (.slice rl2 L2.X.length cl2) (.slice sl2 L2.Y.length dl2)
                rw [← hw39] at FA39
                have FB39 := FrR.put FB38 kl38 (.bool L2.b) (.slice rl2 L2.X.length cl2) (.slice sl2 L2.Y.length dl2)
                rw [← hw39] at FB39
                have kA39 := boxc_kept kA38 gs (by intro e; have := Option.some.inj e; omega)
                have kB39 := boxc_kept kB38 gs (by intro e; have := Option.some.inj e; omega)
                have FC39 := FrR.put FC38 kl38 (.bool L2.b) (.slice rl2 L2.X.length cl2) (.slice sl2 L2.Y.length dl2)
                rw [← hw39] at FC39
                have kC39 := boxc_kept kC38 gs (by intro e; have := Option.some.inj e; omega)
                have FS39 := FrR.put FS38 kl38 (.bool L2.b) (.slice rl2 L2.X.length cl2) (.slice sl2 L2.Y.length dl2)
                rw [← hw39] at FS39
                have kS39 := boxc_kept kS38 gs (by intro e; have := Option.some.inj e; omega)
                have FP39 := FrR.put FP38 kl38 (.bool L2.b) (.slice rl2 L2.X.length cl2) (.slice sl2 L2.Y.length dl2)
                rw [← hw39] at FP39
                have kP39 := boxc_kept kP38 gs (by intro e; have := Option.some.inj e; omega)
                have FBC39 := FrR.put FBC38 kl38 (.bool L2.b) (.slice rl2 L2.X.length cl2) (.slice sl2 L2.Y.length dl2)
                rw [← hw39] at FBC39
                have kBC39 := boxc_kept kBC38 gs (by intro e; have := Option.some.inj e; omega)
                have FPC39 := FrR.put FPC38 kl38 (.bool L2.b) (.slice rl2 L2.X.length cl2) (.slice sl2 L2.Y.length dl2)
                rw [← hw39] at FPC39
                have kPC39 := boxc_kept kPC38 gs (by intro e; have := Option.some.inj e; omega)
                have FAC39 := FrR.put FAC38 kl38 (.bool L2.b) (.slice rl2 L2.X.length cl2) (.slice sl2 L2.Y.length dl2)
                rw [← hw39] at FAC39
                have kAC39 := boxc_kept kAC38 gs (by intro e; have := Option.some.inj e; omega)
                have kl39 : BoxC w39 gl 25 #[.bool L2.b, .slice rl2 L2.X.length cl2, .slice sl2 L2.Y.length dl2] := by rw [hw39]; exact boxc_set2 (boxc_set1 (boxc_set0 kl38 _) _) _
                have kn39 := boxc_kept kn38 gs (by intro e; have := Option.some.inj e; omega)
                have Fl239 := FrR.put Fl238 kl38 (.bool L2.b) (.slice rl2 L2.X.length cl2) (.slice sl2 L2.Y.length dl2)
                rw [← hw39] at Fl239
                have B39 : Below w.heap.size w w39 := by rw [hw39]; exact below_set3 B38 (by omega) _ _ _
                obtain ⟨zc0, zc1, zc2, zcf, zcn⟩ := boxc3 kl38
                clear gs FA38 FB38 kA38 kB38 FC38 kC38 FS38 kS38 FP38 kP38 FBC38 kBC38 FPC38 kPC38 FAC38 kAC38 kl38 kn38 Fl238 B38
                go_upto_region 35 with fail
                rw [← hw39]
                clear hw39 zc0 zc1 zc2 zcf zcn
                have hd39 := Hdl.keep HH.out B39 (Hdl.pos HH.out)
                obtain ⟨kAc0, kAc1, kAc2, _, kAcn⟩ := boxc3 kA39
                obtain ⟨kPCc0, kPCc1, kPCc2, _, kPCcn⟩ := boxc3 kPC39
                go_wp2_with fail
                refine Calls.mono (MUL.out _ _ _ L2 _ _ _ _ _ _ _ _ (by rw [hL2.out, hP.out, hPC.out]; exact top_massoc (by rw [← hP.out]; exact okP) (by rw [← hPC.out]; exact okPC)) hd39 FA39 FPC39) ?_
                rintro e w40 ⟨rn2, sn2, cn2, dn2, rfl, Fn240, bq⟩
                clear kAc0 kAc1 kAc2 kPCc0 kPCc1 kPCc2
                clear hd39
                have FA40 := FA39.keep bq
                have FB40 := FB39.keep bq
                have kA40 := boxc_keep kA39 bq
                have kB40 := boxc_keep kB39 bq
                have FC40 := FC39.keep bq
                have kC40 := boxc_keep kC39 bq
                have FS40 := FS39.keep bq
                have kS40 := boxc_keep kS39 bq
                have FP40 := FP39.keep bq
                have kP40 := boxc_keep kP39 bq
                have FBC40 := FBC39.keep bq
                have kBC40 := boxc_keep kBC39 bq
                have FPC40 := FPC39.keep bq
                have kPC40 := boxc_keep kPC39 bq
                have FAC40 := FAC39.keep bq
                have kAC40 := boxc_keep kAC39 bq
                have kl40 := boxc_keep kl39 bq
                have kn40 := boxc_keep kn39 bq
                have Fl240 := Fl239.keep bq
                have B40 := B39.trans (bq.mono B39.size)
                clear FA39 FB39 kA39 kB39 FC39 kC39 FS39 kS39 FP39 kP39 FBC39 kBC39 FPC39 kPC39 FAC39 kAC39 kl39 kn39 Fl239 B39 bq
                obtain ⟨w41, hw41⟩ : ∃ w41, w41 = ((w40.setCell ⟨gn, 0, none⟩ (.bool L2.b)).setCell ⟨gn, 1, none⟩ (.slice rn2 L2.X.length cn2)).setCell ⟨gn, 2, none⟩ (.slice sn2 L2.Y.length dn2) := ⟨_, rfl⟩
                have gs : w40.grownBy w41 (some gn) := by rw [hw41]; exact gr_set3 _ _ _ _ _
                have FA41 := FrR.put FA40 kn40 (.bool L2.b) (.slice rn2 L2.X.length cn2) (.slice sn2 L2.Y.length dn2)
                rw [← hw41] at FA41
                have FB41 := FrR.put FB40 kn40 (.bool L2.b) (.slice rn2 L2.X.length cn2) (.slice sn2 L2.Y.length dn2)
                rw [← hw41] at FB41
                have kA41 := boxc_kept kA40 gs (by intro e; have := Option.some.inj e; omega)
                have kB41 := boxc_kept kB40 gs (by intro e; have := Option.some.inj e; omega)
                have FC41 := FrR.put FC40 kn40 (.bool L2.b) (.slice rn2 L2.X.length cn2) (.slice sn2 L2.Y.length dn2)
                rw [← hw41] at FC41
                have kC41 := boxc_kept kC40 gs (by intro e; have := Option.some.inj e; omega)
                have FS41 := FrR.put FS40 kn40 (.bool L2.b) (.slice rn2 L2.X.length cn2) (.slice sn2 L2.Y.length dn2)
                rw [← hw41] at FS41
                have kS41 := boxc_kept kS40 gs (by intro e; have := Option.some.inj e; omega)
                have FP41 := FrR.put FP40 kn40 (.bool L2.b) (.slice rn2 L2.X.length cn2) (.slice sn2 L2.Y.length dn2)
                rw [← hw41] at FP41
                have kP41 := boxc_kept kP40 gs (by intro e; have := Option.some.inj e; omega)
                have FBC41 := FrR.put FBC40 kn40 (.bool L2.b) (.slice rn2 L2.X.length cn2) (.slice sn2 L2.Y.length dn2)
                rw [← hw41] at FBC41
                have kBC41 := boxc_kept kBC40 gs (by intro e; have := Option.some.inj e; omega)
                have FPC41 := FrR.put FPC40 kn40 (.bool L2.b) (.slice rn2 L2.X.length cn2) (.slice sn2 L2.Y.length dn2)
                rw [← hw41] at FPC41
                have kPC41 := boxc_kept kPC40 gs (by intro e; have := Option.some.inj e; omega)
                have FAC41 := FrR.put FAC40 kn40 (.bool L2.b) (.slice rn2 L2.X.length cn2) (.slice sn2 L2.Y.length dn2)
                rw [← hw41] at FAC41
                have kAC41 := boxc_kept kAC40 gs (by intro e; have := Option.some.inj e; omega)
                have kl41 := boxc_kept kl40 gs (by intro e; have := Option.some.inj e; omega)
                have kn41 : BoxC w41 gn 25 #[.bool L2.b, .slice rn2 L2.X.length cn2, .slice sn2 L2.Y.length dn2] := by rw [hw41]; exact boxc_set2 (boxc_set1 (boxc_set0 kn40 _) _) _
                have Fl241 := FrR.put Fl240 kn40 (.bool L2.b) (.slice rn2 L2.X.length cn2) (.slice sn2 L2.Y.length dn2)
                rw [← hw41] at Fl241
                have Fn241 := FrR.put Fn240 kn40 (.bool L2.b) (.slice rn2 L2.X.length cn2) (.slice sn2 L2.Y.length dn2)
                rw [← hw41] at Fn241
                have B41 : Below w.heap.size w w41 := by rw [hw41]; exact below_set3 B40 (by omega) _ _ _
                obtain ⟨zc0, zc1, zc2, zcf, zcn⟩ := boxc3 kn40
                clear gs FA40 FB40 kA40 kB40 FC40 kC40 FS40 kS40 FP40 kP40 FBC40 kBC40 FPC40 kPC40 FAC40 kAC40 kl40 kn40 Fl240 Fn240 B40
                go_upto_region 36 with fail
                rw [← hw41]
                clear hw41 zc0 zc1 zc2 zcf zcn
                cases okL2 : L2.ok with
                | false =>
                  clear Fl241 Fn241
                  go_upto_region 38 with fail
                  have hd41 := Hdl.keep HH.out B41 (Hdl.pos HH.out)
                  obtain ⟨kAc0, kAc1, kAc2, _, kAcn⟩ := boxc3 kA41
                  obtain ⟨kBCc0, kBCc1, kBCc2, _, kBCcn⟩ := boxc3 kBC41
                  go_wp2_with fail
                  refine Calls.mono (MUL.out _ _ _ L3 _ _ _ _ _ _ _ _ hL3.out hd41 FA41 FBC41) ?_
                  rintro e w42 ⟨rl3, sl3, cl3, dl3, rfl, Fl342, bq⟩
                  clear kAc0 kAc1 kAc2 kBCc0 kBCc1 kBCc2
                  clear hd41
                  have FA42 := FA41.keep bq
                  have FB42 := FB41.keep bq
                  have kA42 := boxc_keep kA41 bq
                  have kB42 := boxc_keep kB41 bq
                  have FC42 := FC41.keep bq
                  have kC42 := boxc_keep kC41 bq
                  have FS42 := FS41.keep bq
                  have kS42 := boxc_keep kS41 bq
                  have FP42 := FP41.keep bq
                  have kP42 := boxc_keep kP41 bq
                  have FBC42 := FBC41.keep bq
                  have kBC42 := boxc_keep kBC41 bq
                  have FPC42 := FPC41.keep bq
                  have kPC42 := boxc_keep kPC41 bq
                  have FAC42 := FAC41.keep bq
                  have kAC42 := boxc_keep kAC41 bq
                  have kl42 := boxc_keep kl41 bq
                  have kn42 := boxc_keep kn41 bq
                  have B42 := B41.trans (bq.mono B41.size)
                  clear FA41 FB41 kA41 kB41 FC41 kC41 FS41 kS41 FP41 kP41 FBC41 kBC41 FPC41 kPC41 FAC41 kAC41 kl41 kn41 B41 bq
                  obtain ⟨w43, hw43⟩ : ∃ w43, w43 = ((w42.setCell ⟨gl, 0, none⟩ (.bool L3.b)).setCell ⟨gl, 1, none⟩ (.slice rl3 L3.X.length cl3)).setCell ⟨gl, 2, none⟩ (.slice sl3 L3.Y.length dl3) := ⟨_, rfl⟩
                  have gs : w42.grownBy w43 (some gl) := by rw [hw43]; exact gr_set3 _ _ _ _ _
                  have FA43 := FrR.put FA42 kl42 (.bool L3.b) (.slice rl3 L3.X.length cl3) (.slice sl3 L3.Y.length dl3)
                  rw [← hw43] at FA43
                  have FB43 := FrR.put FB42 kl42 (.bool L3.b) (.slice rl3 L3.X.length cl3) (.slice sl3 L3.Y.length dl3)
                  rw [← hw43] at FB43
                  have kA43 := boxc_kept kA42 gs (by intro e; have := Option.some.inj e; omega)
                  have kB43 := boxc_kept kB42 gs (by intro e; have := Option.some.inj e; omega)
                  have FC43 := FrR.put FC42 kl42 (.bool L3.b) (.slice rl3 L3.X.length cl3) (.slice sl3 L3.Y.length dl3)
                  rw [← hw43] at FC43
                  have kC43 := boxc_kept kC42 gs (by intro e; have := Option.some.inj e; omega)
                  have FS43 := FrR.put FS42 kl42 (.bool L3.b) (.slice rl3 L3.X.length cl3) (.slice sl3 L3.Y.length dl3)
                  rw [← hw43] at FS43
                  have kS43 := boxc_kept kS42 gs (by intro e; have := Option.some.inj e; omega)
                  have FP43 := FrR.put FP42 kl42 (.bool L3.b) (.slice rl3 L3.X.length cl3) (.slice sl3 L3.Y.length dl3)
                  rw [← hw43] at FP43
                  have kP43 := boxc_kept kP42 gs (by intro e; have := Option.some.inj e; omega)
                  have FBC43 := FrR.put FBC42 kl42 (.bool L3.b) (.slice rl3 L3.X.length cl3) (.slice sl3 L3.Y.length dl3)
                  rw [← hw43] at FBC43
                  have kBC43 := boxc_kept kBC42 gs (by intro e; have := Option.some.inj e; omega)
                  have FPC43 := FrR.put FPC42 kl42 (.bool L3.b) (.slice rl3 L3.X.length cl3) (.slice sl3 L3.Y.length dl3)
                  rw [← hw43] at FPC43
                  have kPC43 := boxc_kept kPC42 gs (by intro e; have := Option.some.inj e; omega)
                  have FAC43 := FrR.put FAC42 kl42 (.bool L3.b) (.slice rl3 L3.X.length cl3) (.slice sl3 L3.Y.length dl3)
                  rw [← hw43] at FAC43
                  have kAC43 := boxc_kept kAC42 gs (by intro e; have := Option.some.inj e; omega)
                  have kl43 : BoxC w43 gl 25 #[.bool L3.b, .slice rl3 L3.X.length cl3, .slice sl3 L3.Y.length dl3] := by rw [hw43]; exact boxc_set2 (boxc_set1 (boxc_set0 kl42 _) _) _
                  have kn43 := boxc_kept kn42 gs (by intro e; have := Option.some.inj e; omega)
                  have Fl343 := FrR.put Fl342 kl42 (.bool L3.b) (.slice rl3 L3.X.length cl3) (.slice sl3 L3.Y.length dl3)
                  rw [← hw43] at Fl343
                  have B43 : Below w.heap.size w w43 := by rw [hw43]; exact below_set3 B42 (by omega) _ _ _
                  obtain ⟨zc0, zc1, zc2, zcf, zcn⟩ := boxc3 kl42
                  clear gs FA42 FB42 kA42 kB42 FC42 kC42 FS42 kS42 FP42 kP42 FBC42 kBC42 FPC42 kPC42 FAC42 kAC42 kl42 kn42 Fl342 B42
                  go_upto_region 39 with fail
                  rw [← hw43]
                  clear hw43 zc0 zc1 zc2 zcf zcn
                  have hd43 := Hdl.keep HH.out B43 (Hdl.pos HH.out)
                  obtain ⟨kPc0, kPc1, kPc2, _, kPcn⟩ := boxc3 kP43
                  obtain ⟨kACc0, kACc1, kACc2, _, kACcn⟩ := boxc3 kAC43
                  go_wp2_with fail
                  refine Calls.mono (ADD.out _ _ _ L3 _ _ _ _ _ _ _ _ (by rw [hL3.out, hBC.out, hP.out, hAC.out]; exact top_dist (by rw [← hBC.out]; exact okBC) (by rw [← hP.out]; exact okP) (by rw [← hAC.out]; exact okAC)) hd43 FP43 FAC43) ?_
                  rintro e w44 ⟨rn3, sn3, cn3, dn3, rfl, Fn344, bq⟩
                  clear kPc0 kPc1 kPc2 kACc0 kACc1 kACc2
                  clear hd43
                  have FA44 := FA43.keep bq
                  have FB44 := FB43.keep bq
                  have kA44 := boxc_keep kA43 bq
                  have kB44 := boxc_keep kB43 bq
                  have FC44 := FC43.keep bq
                  have kC44 := boxc_keep kC43 bq
                  have FS44 := FS43.keep bq
                  have kS44 := boxc_keep kS43 bq
                  have FP44 := FP43.keep bq
                  have kP44 := boxc_keep kP43 bq
                  have FBC44 := FBC43.keep bq
                  have kBC44 := boxc_keep kBC43 bq
                  have FPC44 := FPC43.keep bq
                  have kPC44 := boxc_keep kPC43 bq
                  have FAC44 := FAC43.keep bq
                  have kAC44 := boxc_keep kAC43 bq
                  have kl44 := boxc_keep kl43 bq
                  have kn44 := boxc_keep kn43 bq
                  have Fl344 := Fl343.keep bq
                  have B44 := B43.trans (bq.mono B43.size)
                  clear FA43 FB43 kA43 kB43 FC43 kC43 FS43 kS43 FP43 kP43 FBC43 kBC43 FPC43 kPC43 FAC43 kAC43 kl43 kn43 Fl343 B43 bq
                  obtain ⟨w45, hw45⟩ : ∃ w45, w45 = ((w44.setCell ⟨gn, 0, none⟩ (.bool L3.b)).setCell ⟨gn, 1, none⟩ (.slice rn3 L3.X.length cn3)).setCell ⟨gn, 2, none⟩ (.slice sn3 L3.Y.length dn3) := ⟨_, rfl⟩
                  have gs : w44.grownBy w45 (some gn) := by rw [hw45]; exact gr_set3 _ _ _ _ _
                  have FA45 := FrR.put FA44 kn44 (.bool L3.b) (.slice rn3 L3.X.length cn3) (.slice sn3 L3.Y.length dn3)
                  rw [← hw45] at FA45
                  have FB45 := FrR.put FB44 kn44 (.bool L3.b) (.slice rn3 L3.X.length cn3) (.slice sn3 L3.Y.length dn3)
                  rw [← hw45] at FB45
                  have kA45 := boxc_kept kA44 gs (by intro e; have := Option.some.inj e; omega)
                  have kB45 := boxc_kept kB44 gs (by intro e; have := Option.some.inj e; omega)
                  have FC45 := FrR.put FC44 kn44 (.bool L3.b) (.slice rn3 L3.X.length cn3) (.slice sn3 L3.Y.length dn3)
                  rw [← hw45] at FC45
                  have kC45 := boxc_kept kC44 gs (by intro e; have := Option.some.inj e; omega)
                  have FS45 := FrR.put FS44 kn44 (.bool L3.b) (.slice rn3 L3.X.length cn3) (.slice sn3 L3.Y.length dn3)
                  rw [← hw45] at FS45
                  have kS45 := boxc_kept kS44 gs (by intro e; have := Option.some.inj e; omega)
                  have FP45 := FrR.put FP44 kn44 (.bool L3.b) (.slice rn3 L3.X.length cn3) (.slice sn3 L3.Y.length dn3)
                  rw [← hw45] at FP45
                  have kP45 := boxc_kept kP44 gs (by intro e; have := Option.some.inj e; omega)
                  have FBC45 := FrR.put FBC44 kn44 (.bool L3.b) (.slice rn3 L3.X.length cn3) (.slice sn3 L3.Y.length dn3)
                  rw [← hw45] at FBC45
                  have kBC45 := boxc_kept kBC44 gs (by intro e; have := Option.some.inj e; omega)
                  have FPC45 := FrR.put FPC44 kn44 (.bool L3.b) (.slice rn3 L3.X.length cn3) (.slice sn3 L3.Y.length dn3)
                  rw [← hw45] at FPC45
                  have kPC45 := boxc_kept kPC44 gs (by intro e; have := Option.some.inj e; omega)
                  have FAC45 := FrR.put FAC44 kn44 (.bool L3.b) (.slice rn3 L3.X.length cn3) (.slice sn3 L3.Y.length dn3)
                  rw [← hw45] at FAC45
                  have kAC45 := boxc_kept kAC44 gs (by intro e; have := Option.some.inj e; omega)
                  have kl45 := boxc_kept kl44 gs (by intro e; have := Option.some.inj e; omega)
                  have kn45 : BoxC w45 gn 25 #[.bool L3.b, .slice rn3 L3.X.length cn3, .slice sn3 L3.Y.length dn3] := by rw [hw45]; exact boxc_set2 (boxc_set1 (boxc_set0 kn44 _) _) _
                  have Fl345 := FrR.put Fl344 kn44 (.bool L3.b) (.slice rn3 L3.X.length cn3) (.slice sn3 L3.Y.length dn3)
                  rw [← hw45] at Fl345
                  have Fn345 := FrR.put Fn344 kn44 (.bool L3.b) (.slice rn3 L3.X.length cn3) (.slice sn3 L3.Y.length dn3)
                  rw [← hw45] at Fn345
                  have B45 : Below w.heap.size w w45 := by rw [hw45]; exact below_set3 B44 (by omega) _ _ _
                  obtain ⟨zc0, zc1, zc2, zcf, zcn⟩ := boxc3 kn44
                  clear gs FA44 FB44 kA44 kB44 FC44 kC44 FS44 kS44 FP44 kP44 FBC44 kBC44 FPC44 kPC44 FAC44 kAC44 kl44 kn44 Fl344 Fn344 B44
                  go_upto_region 40 with fail
                  rw [← hw45]
                  clear hw45 zc0 zc1 zc2 zcf zcn
                  cases okL3 : L3.ok with
                  | false =>
                    have HBB : Hid (Below w.heap.size w w45) := B45
                    clear ADD MUL SUB DIV SAD SMU PW SG hS hP hBC hPC hAC hL1 hL2 hL3 hAok HH FA45 FB45 kA45 kB45 FC45 kC45 FS45 kS45 FP45 kP45 FBC45 kBC45 FPC45 kPC45 FAC45 kAC45 kl45 kn45 Fl345 Fn345 B45
                    go_wp2
                    go_ret
                    exact ⟨rfl, HBB.out⟩
                  | true =>
                    obtain ⟨klc0, klc1, klc2, _, klcn⟩ := boxc3 kl45
                    obtain ⟨knc0, knc1, knc2, _, kncn⟩ := boxc3 kn45
                    go_wp2_with fail
                    refine Calls.mono (PW.out _ L3 _ _ _ _ _ _ _ _ Fl345 Fn345) ?_
                    rintro e w46 ⟨rfl, bq⟩
                    clear klc0 klc1 klc2 knc0 knc1 knc2
                    have FA46 := FA45.keep bq
                    have FB46 := FB45.keep bq
                    have kA46 := boxc_keep kA45 bq
                    have kB46 := boxc_keep kB45 bq
                    have FC46 := FC45.keep bq
                    have kC46 := boxc_keep kC45 bq
                    have FS46 := FS45.keep bq
                    have kS46 := boxc_keep kS45 bq
                    have FP46 := FP45.keep bq
                    have kP46 := boxc_keep kP45 bq
                    have FBC46 := FBC45.keep bq
                    have kBC46 := boxc_keep kBC45 bq
                    have FPC46 := FPC45.keep bq
                    have kPC46 := boxc_keep kPC45 bq
                    have FAC46 := FAC45.keep bq
                    have kAC46 := boxc_keep kAC45 bq
                    have kl46 := boxc_keep kl45 bq
                    have kn46 := boxc_keep kn45 bq
                    have Fl346 := Fl345.keep bq
                    have Fn346 := Fn345.keep bq
                    have B46 := B45.trans (bq.mono B45.size)
                    clear FA45 FB45 kA45 kB45 FC45 kC45 FS45 kS45 FP45 kP45 FBC45 kBC45 FPC45 kPC45 FAC45 kAC45 kl45 kn45 Fl345 Fn345 B45 bq
                    have HBB : Hid (Below w.heap.size w w46) := B46
                    clear ADD MUL SUB DIV SAD SMU PW SG hS hP hBC hPC hAC hL1 hL2 hL3 hAok HH FA46 FB46 kA46 kB46 FC46 kC46 FS46 kS46 FP46 kP46 FBC46 kBC46 FPC46 kPC46 FAC46 kAC46 kl46 kn46 Fl346 Fn346 B46
                    go_wp2
                    go_ret
                    exact ⟨rfl, HBB.out⟩
                | true =>
                  obtain ⟨klc0, klc1, klc2, _, klcn⟩ := boxc3 kl41
                  obtain ⟨knc0, knc1, knc2, _, kncn⟩ := boxc3 kn41
                  go_wp2_with fail
                  refine Calls.mono (PW.out _ L2 _ _ _ _ _ _ _ _ Fl241 Fn241) ?_
                  rintro e w42 ⟨rfl, bq⟩
                  clear klc0 klc1 klc2 knc0 knc1 knc2
                  have FA42 := FA41.keep bq
                  have FB42 := FB41.keep bq
                  have kA42 := boxc_keep kA41 bq
                  have kB42 := boxc_keep kB41 bq
                  have FC42 := FC41.keep bq
                  have kC42 := boxc_keep kC41 bq
                  have FS42 := FS41.keep bq
                  have kS42 := boxc_keep kS41 bq
                  have FP42 := FP41.keep bq
                  have kP42 := boxc_keep kP41 bq
                  have FBC42 := FBC41.keep bq
                  have kBC42 := boxc_keep kBC41 bq
                  have FPC42 := FPC41.keep bq
                  have kPC42 := boxc_keep kPC41 bq
                  have FAC42 := FAC41.keep bq
                  have kAC42 := boxc_keep kAC41 bq
                  have kl42 := boxc_keep kl41 bq
                  have kn42 := boxc_keep kn41 bq
                  have Fl242 := Fl241.keep bq
                  have Fn242 := Fn241.keep bq
                  have B42 := B41.trans (bq.mono B41.size)
                  clear FA41 FB41 kA41 kB41 FC41 kC41 FS41 kS41 FP41 kP41 FBC41 kBC41 FPC41 kPC41 FAC41 kAC41 kl41 kn41 Fl241 Fn241 B41 bq
                  clear Fl242 Fn242
                  go_upto_region 38 with fail
                  have hd42 := Hdl.keep HH.out B42 (Hdl.pos HH.out)
                  obtain ⟨kAc0, kAc1, kAc2, _, kAcn⟩ := boxc3 kA42
                  obtain ⟨kBCc0, kBCc1, kBCc2, _, kBCcn⟩ := boxc3 kBC42
                  go_wp2_with fail
                  refine Calls.mono (MUL.out _ _ _ L3 _ _ _ _ _ _ _ _ hL3.out hd42 FA42 FBC42) ?_
                  rintro e w43 ⟨rl3, sl3, cl3, dl3, rfl, Fl343, bq⟩
                  clear kAc0 kAc1 kAc2 kBCc0 kBCc1 kBCc2
                  clear hd42
                  have FA43 := FA42.keep bq
                  have FB43 := FB42.keep bq
                  have kA43 := boxc_keep kA42 bq
                  have kB43 := boxc_keep kB42 bq
                  have FC43 := FC42.keep bq
                  have kC43 := boxc_keep kC42 bq
                  have FS43 := FS42.keep bq
                  have kS43 := boxc_keep kS42 bq
                  have FP43 := FP42.keep bq
                  have kP43 := boxc_keep kP42 bq
                  have FBC43 := FBC42.keep bq
                  have kBC43 := boxc_keep kBC42 bq
                  have FPC43 := FPC42.keep bq
                  have kPC43 := boxc_keep kPC42 bq
                  have FAC43 := FAC42.keep bq
                  have kAC43 := boxc_keep kAC42 bq
                  have kl43 := boxc_keep kl42 bq
                  have kn43 := boxc_keep kn42 bq
                  have B43 := B42.trans (bq.mono B42.size)
                  clear FA42 FB42 kA42 kB42 FC42 kC42 FS42 kS42 FP42 kP42 FBC42 kBC42 FPC42 kPC42 FAC42 kAC42 kl42 kn42 B42 bq
                  obtain ⟨w44, hw44⟩ : ∃ w44, w44 = ((w43.setCell ⟨gl, 0, none⟩ (.bool L3.b)).setCell ⟨gl, 1, none⟩ (.slice rl3 L3.X.length cl3)).setCell ⟨gl, 2, none⟩ (.slice sl3 L3.Y.length dl3) := ⟨_, rfl⟩
                  have gs : w43.grownBy w44 (some gl) := by rw [hw44]; exact gr_set3 _ _ _ _ _
                  have FA44 := FrR.put FA43 kl43 (.bool L3.b) (.slice rl3 L3.X.length cl3) (.slice sl3 L3.Y.length dl3)
                  rw [← hw44] at FA44
                  have FB44 := FrR.put FB43 kl43 (.bool L3.b) (.slice rl3 L3.X.length cl3) (.slice sl3 L3.Y.length dl3)
                  rw [← hw44] at FB44
                  have kA44 := boxc_kept kA43 gs (by intro e; have := Option.some.inj e; omega)
                  have kB44 := boxc_kept kB43 gs (by intro e; have := Option.some.inj e; omega)
                  have FC44 := FrR.put FC43 kl43 (.bool L3.b) (.slice rl3 L3.X.length cl3) (.slice sl3 L3.Y.length dl3)
                  rw [← hw44] at FC44
                  have kC44 := boxc_kept kC43 gs (by intro e; have := Option.some.inj e; omega)
                  have FS44 := FrR.put FS43 kl43 (.bool L3.b) (.slice rl3 L3.X.length cl3) (.slice sl3 L3.Y.length dl3)
                  rw [← hw44] at FS44
                  have kS44 := boxc_kept kS43 gs (by intro e; have := Option.some.inj e; omega)
                  have FP44 := FrR.put FP43 kl43 (.bool L3.b) (.slice rl3 L3.X.length cl3) (.slice sl3 L3.Y.length dl3)
                  rw [← hw44] at FP44
                  have kP44 := boxc_kept kP43 gs (by intro e; have := Option.some.inj e; omega)
                  have FBC44 := FrR.put FBC43 kl43 (.bool L3.b) (.slice rl3 L3.X.length cl3) (.slice sl3 L3.Y.length dl3)
                  rw [← hw44] at FBC44
                  have kBC44 := boxc_kept kBC43 gs (by intro e; have := Option.some.inj e; omega)
                  have FPC44 := FrR.put FPC43 kl43 (.bool L3.b) (.slice rl3 L3.X.length cl3) (.slice sl3 L3.Y.length dl3)
                  rw [← hw44] at FPC44
                  have kPC44 := boxc_kept kPC43 gs (by intro e; have := Option.some.inj e; omega)
                  have FAC44 := FrR.put FAC43 kl43 (.bool L3.b) (.slice rl3 L3.X.length cl3) (.slice sl3 L3.Y.length dl3)
                  rw [← hw44] at FAC44
                  have kAC44 := boxc_kept kAC43 gs (by intro e; have := Option.some.inj e; omega)
                  have kl44 : BoxC w44 gl 25 #[.bool L3.b, .slice rl3 L3.X.length cl3, .slice sl3 L3.Y.length dl3] := by rw [hw44]; exact boxc_set2 (boxc_set1 (boxc_set0 kl43 _) _) _
                  have kn44 := boxc_kept kn43 gs (by intro e; have := Option.some.inj e; omega)
                  have Fl344 := FrR.put Fl343 kl43 (.bool L3.b) (.slice rl3 L3.X.length cl3) (.slice sl3 L3.Y.length dl3)
                  rw [← hw44] at Fl344
                  have B44 : Below w.heap.size w w44 := by rw [hw44]; exact below_set3 B43 (by omega) _ _ _
                  obtain ⟨zc0, zc1, zc2, zcf, zcn⟩ := boxc3 kl43
                  clear gs FA43 FB43 kA43 kB43 FC43 kC43 FS43 kS43 FP43 kP43 FBC43 kBC43 FPC43 kPC43 FAC43 kAC43 kl43 kn43 Fl343 B43
                  go_upto_region 39 with fail
                  rw [← hw44]
                  clear hw44 zc0 zc1 zc2 zcf zcn
                  have hd44 := Hdl.keep HH.out B44 (Hdl.pos HH.out)
                  obtain ⟨kPc0, kPc1, kPc2, _, kPcn⟩ := boxc3 kP44
                  obtain ⟨kACc0, kACc1, kACc2, _, kACcn⟩ := boxc3 kAC44
                  go_wp2_with fail
                  refine Calls.mono (ADD.out _ _ _ L3 _ _ _ _ _ _ _ _ (by rw [hL3.out, hBC.out, hP.out, hAC.out]; exact top_dist (by rw [← hBC.out]; exact okBC) (by rw [← hP.out]; exact okP) (by rw [← hAC.out]; exact okAC)) hd44 FP44 FAC44) ?_
                  rintro e w45 ⟨rn3, sn3, cn3, dn3, rfl, Fn345, bq⟩
                  clear kPc0 kPc1 kPc2 kACc0 kACc1 kACc2
                  clear hd44
                  have FA45 := FA44.keep bq
                  have FB45 := FB44.keep bq
                  have kA45 := boxc_keep kA44 bq
                  have kB45 := boxc_keep kB44 bq
                  have FC45 := FC44.keep bq
                  have kC45 := boxc_keep kC44 bq
                  have FS45 := FS44.keep bq
                  have kS45 := boxc_keep kS44 bq
                  have FP45 := FP44.keep bq
                  have kP45 := boxc_keep kP44 bq
                  have FBC45 := FBC44.keep bq
                  have kBC45 := boxc_keep kBC44 bq
                  have FPC45 := FPC44.keep bq
                  have kPC45 := boxc_keep kPC44 bq
                  have FAC45 := FAC44.keep bq
                  have kAC45 := boxc_keep kAC44 bq
                  have kl45 := boxc_keep kl44 bq
                  have kn45 := boxc_keep kn44 bq
                  have Fl345 := Fl344.keep bq
                  have B45 := B44.trans (bq.mono B44.size)
                  clear FA44 FB44 kA44 kB44 FC44 kC44 FS44 kS44 FP44 kP44 FBC44 kBC44 FPC44 kPC44 FAC44 kAC44 kl44 kn44 Fl344 B44 bq
                  obtain ⟨w46, hw46⟩ : ∃ w46, w46 = ((w45.setCell ⟨gn, 0, none⟩ (.bool L3.b)).setCell ⟨gn, 1, none⟩ (.slice rn3 L3.X.length cn3)).setCell ⟨gn, 2, none⟩ (.slice sn3 L3.Y.length dn3) := ⟨_, rfl⟩
                  have gs : w45.grownBy w46 (some gn) := by rw [hw46]; exact gr_set3 _ _ _ _ _
                  have FA46 := FrR.put FA45 kn45 (.bool L3.b) (.slice rn3 L3.X.length cn3) (.slice sn3 L3.Y.length dn3)
                  rw [← hw46] at FA46
                  have FB46 := FrR.put FB45 kn45 (.bool L3.b) (.slice rn3 L3.X.length cn3) (.slice sn3 L3.Y.length dn3)
                  rw [← hw46] at FB46
                  have kA46 := boxc_kept kA45 gs (by intro e; have := Option.some.inj e; omega)
                  have kB46 := boxc_kept kB45 gs (by intro e; have := Option.some.inj e; omega)
                  have FC46 := FrR.put FC45 kn45 (.bool L3.b) (.slice rn3 L3.X.length cn3) (.slice sn3 L3.Y.length dn3)
                  rw [← hw46] at FC46
                  have kC46 := boxc_kept kC45 gs (by intro e; have := Option.some.inj e; omega)
                  have FS46 := FrR.put FS45 kn45 (.bool L3.b) (.slice rn3 L3.X.length cn3) (.slice sn3 L3.Y.length dn3)
                  rw [← hw46] at FS46
                  have kS46 := boxc_kept kS45 gs (by intro e; have := Option.some.inj e; omega)
                  have FP46 := FrR.put FP45 kn45 (.bool L3.b) (.slice rn3 L3.X.length cn3) (.slice sn3 L3.Y.length dn3)
                  rw [← hw46] at FP46
                  have kP46 := boxc_kept kP45 gs (by intro e; have := Option.some.inj e; omega)
                  have FBC46 := FrR.put FBC45 kn45 (.bool L3.b) (.slice rn3 L3.X.length cn3) (.slice sn3 L3.Y.length dn3)
                  rw [← hw46] at FBC46
                  have kBC46 := boxc_kept kBC45 gs (by intro e; have := Option.some.inj e; omega)
                  have FPC46 := FrR.put FPC45 kn45 (.bool L3.b) (.slice rn3 L3.X.length cn3) (.slice sn3 L3.Y.length dn3)
                  rw [← hw46] at FPC46
                  have kPC46 := boxc_kept kPC45 gs (by intro e; have := Option.some.inj e; omega)
                  have FAC46 := FrR.put FAC45 kn45 (.bool L3.b) (.slice rn3 L3.X.length cn3) (.slice sn3 L3.Y.length dn3)
                  rw [← hw46] at FAC46
                  have kAC46 := boxc_kept kAC45 gs (by intro e; have := Option.some.inj e; omega)
                  have kl46 := boxc_kept kl45 gs (by intro e; have := Option.some.inj e; omega)
                  have kn46 : BoxC w46 gn 25 #[.bool L3.b, .slice rn3 L3.X.length cn3, .slice sn3 L3.Y.length dn3] := by rw [hw46]; exact boxc_set2 (boxc_set1 (boxc_set0 kn45 _) _) _
                  have Fl346 := FrR.put Fl345 kn45 (.bool L3.b) (.slice rn3 L3.X.length cn3) (.slice sn3 L3.Y.length dn3)
                  rw [← hw46] at Fl346
                  have Fn346 := FrR.put Fn345 kn45 (.bool L3.b) (.slice rn3 L3.X.length cn3) (.slice sn3 L3.Y.length dn3)
                  rw [← hw46] at Fn346
                  have B46 : Below w.heap.size w w46 := by rw [hw46]; exact below_set3 B45 (by omega) _ _ _
                  obtain ⟨zc0, zc1, zc2, zcf, zcn⟩ := boxc3 kn45
                  clear gs FA45 FB45 kA45 kB45 FC45 kC45 FS45 kS45 FP45 kP45 FBC45 kBC45 FPC45 kPC45 FAC45 kAC45 kl45 kn45 Fl345 Fn345 B45
                  go_upto_region 40 with fail
                  rw [← hw46]
                  clear hw46 zc0 zc1 zc2 zcf zcn
                  cases okL3 : L3.ok with
                  | false =>
                    have HBB : Hid (Below w.heap.size w w46) := B46
                    clear ADD MUL SUB DIV SAD SMU PW SG hS hP hBC hPC hAC hL1 hL2 hL3 hAok HH FA46 FB46 kA46 kB46 FC46 kC46 FS46 kS46 FP46 kP46 FBC46 kBC46 FPC46 kPC46 FAC46 kAC46 kl46 kn46 Fl346 Fn346 B46
                    go_wp2
                    go_ret
                    exact ⟨rfl, HBB.out⟩
                  | true =>
                    obtain ⟨klc0, klc1, klc2, _, klcn⟩ := boxc3 kl46
                    obtain ⟨knc0, knc1, knc2, _, kncn⟩ := boxc3 kn46
                    go_wp2_with fail
                    refine Calls.mono (PW.out _ L3 _ _ _ _ _ _ _ _ Fl346 Fn346) ?_
                    rintro e w47 ⟨rfl, bq⟩
                    clear klc0 klc1 klc2 knc0 knc1 knc2
                    have FA47 := FA46.keep bq
                    have FB47 := FB46.keep bq
                    have kA47 := boxc_keep kA46 bq
                    have kB47 := boxc_keep kB46 bq
                    have FC47 := FC46.keep bq
                    have kC47 := boxc_keep kC46 bq
                    have FS47 := FS46.keep bq
                    have kS47 := boxc_keep kS46 bq
                    have FP47 := FP46.keep bq
                    have kP47 := boxc_keep kP46 bq
                    have FBC47 := FBC46.keep bq
                    have kBC47 := boxc_keep kBC46 bq
                    have FPC47 := FPC46.keep bq
                    have kPC47 := boxc_keep kPC46 bq
                    have FAC47 := FAC46.keep bq
                    have kAC47 := boxc_keep kAC46 bq
                    have kl47 := boxc_keep kl46 bq
                    have kn47 := boxc_keep kn46 bq
                    have Fl347 := Fl346.keep bq
                    have Fn347 := Fn346.keep bq
                    have B47 := B46.trans (bq.mono B46.size)
                    clear FA46 FB46 kA46 kB46 FC46 kC46 FS46 kS46 FP46 kP46 FBC46 kBC46 FPC46 kPC46 FAC46 kAC46 kl46 kn46 Fl346 Fn346 B46 bq
                    have HBB : Hid (Below w.heap.size w w47) := B47
                    clear ADD MUL SUB DIV SAD SMU PW SG hS hP hBC hPC hAC hL1 hL2 hL3 hAok HH FA47 FB47 kA47 kB47 FC47 kC47 FS47 kS47 FP47 kP47 FBC47 kBC47 FPC47 kPC47 FAC47 kAC47 kl47 kn47 Fl347 Fn347 B47
                    go_wp2
                    go_ret
                    exact ⟨rfl, HBB.out⟩
              | true =>
                obtain ⟨klc0, klc1, klc2, _, klcn⟩ := boxc3 kl37
                obtain ⟨knc0, knc1, knc2, _, kncn⟩ := boxc3 kn37
                go_wp2_with fail
                refine Calls.mono (PW.out _ L1 _ _ _ _ _ _ _ _ Fl37 Fn37) ?_
                rintro e w38 ⟨rfl, bq⟩
                clear klc0 klc1 klc2 knc0 knc1 knc2
                have FA38 := FA37.keep bq
                have FB38 := FB37.keep bq
                have kA38 := boxc_keep kA37 bq
                have kB38 := boxc_keep kB37 bq
                have FC38 := FC37.keep bq
                have kC38 := boxc_keep kC37 bq
                have FS38 := FS37.keep bq
                have kS38 := boxc_keep kS37 bq
                have FP38 := FP37.keep bq
                have kP38 := boxc_keep kP37 bq
                have FBC38 := FBC37.keep bq
                have kBC38 := boxc_keep kBC37 bq
                have FPC38 := FPC37.keep bq
                have kPC38 := boxc_keep kPC37 bq
                have FAC38 := FAC37.keep bq
                have kAC38 := boxc_keep kAC37 bq
                have Fl38 := Fl37.keep bq
                have kl38 := boxc_keep kl37 bq
                have Fn38 := Fn37.keep bq
                have kn38 := boxc_keep kn37 bq
                have B38 := B37.trans (bq.mono B37.size)
                clear FA37 FB37 kA37 kB37 FC37 kC37 FS37 kS37 FP37 kP37 FBC37 kBC37 FPC37 kPC37 FAC37 kAC37 Fl37 kl37 Fn37 kn37 B37 bq
                clear Fl38 Fn38
                go_upto_region 34 with fail
                have hd38 := Hdl.keep HH.out B38 (Hdl.pos HH.out)
                obtain ⟨kPc0, kPc1, kPc2, _, kPcn⟩ := boxc3 kP38
                obtain ⟨kCc0, kCc1, kCc2, _, kCcn⟩ := boxc3 kC38
                go_wp2_with fail
                refine Calls.mono (MUL.out _ _ _ L2 _ _ _ _ _ _ _ _ hL2.out hd38 FP38 FC38) ?_
                rintro e w39 ⟨rl2, sl2, cl2, dl2, rfl, Fl239, bq⟩
                clear kPc0 kPc1 kPc2 kCc0 kCc1 kCc2
                clear hd38
                have FA39 := FA38.keep bq
                have FB39 := FB38.keep bq
                have kA39 := boxc_keep kA38 bq
                have kB39 := boxc_keep kB38 bq
                have FC39 := FC38.keep bq
                have kC39 := boxc_keep kC38 bq
                have FS39 := FS38.keep bq
                have kS39 := boxc_keep kS38 bq
                have FP39 := FP38.keep bq
                have kP39 := boxc_keep kP38 bq
                have FBC39 := FBC38.keep bq
                have kBC39 := boxc_keep kBC38 bq
                have FPC39 := FPC38.keep bq
                have kPC39 := boxc_keep kPC38 bq
                have FAC39 := FAC38.keep bq
                have kAC39 := boxc_keep kAC38 bq
                have kl39 := boxc_keep kl38 bq
                have kn39 := boxc_keep kn38 bq
                have B39 := B38.trans (bq.mono B38.size)
                clear FA38 FB38 kA38 kB38 FC38 kC38 FS38 kS38 FP38 kP38 FBC38 kBC38 FPC38 kPC38 FAC38 kAC38 kl38 kn38 B38 bq
                obtain ⟨w40, hw40⟩ : ∃ w40, w40 = ((w39.setCell ⟨gl, 0, none⟩ (.bool L2.b)).setCell ⟨gl, 1, none⟩ (.slice rl2 L2.X.length cl2)).setCell ⟨gl, 2, none⟩ (.slice sl2 L2.Y.length dl2) := ⟨_, rfl⟩
                have gs : w39.grownBy w40 (some gl) := by rw [hw40]; exact gr_set3 _ _ _ _ _
                have FA40 := FrR.put FA39 kl39 (.bool L2.b) (.slice rl2 L2.X.length cl2) (.slice sl2 L2.Y.length dl2)
                rw [← hw40] at FA40
                have FB40 := FrR.put FB39 kl39 (.bool L2.b) (.slice rl2 L2.X.length cl2) (.slice sl2 L2.Y.length dl2)
                rw [← hw40] at FB40
                have kA40 := boxc_kept kA39 gs (by intro e; have := Option.some.inj e; omega)
                have kB40 := boxc_kept kB39 gs (by intro e; have := Option.some.inj e; omega)
                have FC40 := FrR.put FC39 kl39 (.bool L2.b) (.slice rl2 L2.X.length cl2) (.slice sl2 L2.Y.length dl2)
                rw [← hw40] at FC40
                have kC40 := boxc_kept kC39 gs (by intro e; have := Option.some.inj e; omega)
                have FS40 := FrR.put FS39 kl39 (.bool L2.b) (.slice rl2 L2.X.length cl2) (.slice sl2 L2.Y.length dl2)
                rw [← hw40] at FS40
                have kS40 := boxc_kept kS39 gs (by intro e; have := Option.some.inj e; omega)
                have FP40 := FrR.put FP39 kl39 (.bool L2.b) (.slice rl2 L2.X.length cl2) (.slice sl2 L2.Y.length dl2)
                rw [← hw40] at FP40
                have kP40 := boxc_kept kP39 gs (by intro e; have := Option.some.inj e; omega)
                have FBC40 := FrR.put FBC39 kl39 (.bool L2.b) (.slice rl2 L2.X.length cl2) (.slice sl2 L2.Y.length dl2)
                rw [← hw40] at FBC40
                have kBC40 := boxc_kept kBC39 gs (by intro e; have := Option.some.inj e; omega)
                have FPC40 := FrR.put FPC39 kl39 (.bool L2.b) (.slice rl2 L2.X.length cl2) (.slice sl2 L2.Y.length dl2)
                rw [← hw40] at FPC40
                have kPC40 := boxc_kept kPC39 gs (by intro e; have := Option.some.inj e; omega)
                have FAC40 := FrR.put FAC39 kl39 (.bool L2.b) (.slice rl2 L2.X.length cl2) (.slice sl2 L2.Y.length dl2)
                rw [← hw40] at FAC40
                have kAC40 := boxc_kept kAC39 gs (by intro e; have := Option.some.inj e; omega)
                have kl40 : BoxC w40 gl 25 #[.bool L2.b, .slice rl2 L2.X.length cl2, .slice sl2 L2.Y.length dl2] := by rw [hw40]; exact boxc_set2 (boxc_set1 (boxc_set0 kl39 _) _) _
                have kn40 := boxc_kept kn39 gs (by intro e; have := Option.some.inj e; omega)
                have Fl240 := FrR.put Fl239 kl39 (.bool L2.b) (.slice rl2 L2.X.length cl2) (.slice sl2 L2.Y.length dl2)
                rw [← hw40] at Fl240
                have B40 : Below w.heap.size w w40 := by rw [hw40]; exact below_set3 B39 (by omega) _ _ _
                obtain ⟨zc0, zc1, zc2, zcf, zcn⟩ := boxc3 kl39
                clear gs FA39 FB39 kA39 kB39 FC39 kC39 FS39 kS39 FP39 kP39 FBC39 kBC39 FPC39 kPC39 FAC39 kAC39 kl39 kn39 Fl239 B39
                go_upto_region 35 with fail
                rw [← hw40]
                clear hw40 zc0 zc1 zc2 zcf zcn
                have hd40 := Hdl.keep HH.out B40 (Hdl.pos HH.out)
                obtain ⟨kAc0, kAc1, kAc2, _, kAcn⟩ := boxc3 kA40
                obtain ⟨kPCc0, kPCc1, kPCc2, _, kPCcn⟩ := boxc3 kPC40
                go_wp2_with fail
                refine Calls.mono (MUL.out _ _ _ L2 _ _ _ _ _ _ _ _ (by rw [hL2.out, hP.out, hPC.out]; exact top_massoc (by rw [← hP.out]; exact okP) (by rw [← hPC.out]; exact okPC)) hd40 FA40 FPC40) ?_
                rintro e w41 ⟨rn2, sn2, cn2, dn2, rfl, Fn241, bq⟩
                clear kAc0 kAc1 kAc2 kPCc0 kPCc1 kPCc2
                clear hd40
                have FA41 := FA40.keep bq
                have FB41 := FB40.keep bq
                have kA41 := boxc_keep kA40 bq
                have kB41 := boxc_keep kB40 bq
                have FC41 := FC40.keep bq
                have kC41 := boxc_keep kC40 bq
                have FS41 := FS40.keep bq
                have kS41 := boxc_keep kS40 bq
                have FP41 := FP40.keep bq
                have kP41 := boxc_keep kP40 bq
                have FBC41 := FBC40.keep bq
                have kBC41 := boxc_keep kBC40 bq
                have FPC41 := FPC40.keep bq
                have kPC41 := boxc_keep kPC40 bq
                have FAC41 := FAC40.keep bq
                have kAC41 := boxc_keep kAC40 bq
                have kl41 := boxc_keep kl40 bq
                have kn41 := boxc_keep kn40 bq
                have Fl241 := Fl240.keep bq
                have B41 := B40.trans (bq.mono B40.size)
                clear FA40 FB40 kA40 kB40 FC40 kC40 FS40 kS40 FP40 kP40 FBC40 kBC40 FPC40 kPC40 FAC40 kAC40 kl40 kn40 Fl240 B40 bq
                obtain ⟨w42, hw42⟩ : ∃ w42, w42 = ((w41.setCell ⟨gn, 0, none⟩ (.bool L2.b)).setCell ⟨gn, 1, none⟩ (.slice rn2 L2.X.length cn2)).setCell ⟨gn, 2, none⟩ (.slice sn2 L2.Y.length dn2) := ⟨_, rfl⟩
                have gs : w41.grownBy w42 (some gn) := by rw [hw42]; exact gr_set3 _ _ _ _ _
                have FA42 := FrR.put FA41 kn41 (.bool L2.b) (.slice rn2 L2.X.length cn2) (.slice sn2 L2.Y.length dn2)
                rw [← hw42] at FA42
                have FB42 := FrR.put FB41 kn41 (.bool L2.b) (.slice rn2 L2.X.length cn2) (.slice sn2 L2.Y.length dn2)
                rw [← hw42] at FB42
                have kA42 := boxc_kept kA41 gs (by intro e; have := Option.some.inj e; omega)
                have kB42 := boxc_kept kB41 gs (by intro e; have := Option.some.inj e; omega)
                have FC42 := FrR.put FC41 kn41 (.bool L2.b) (.slice rn2 L2.X.length cn2) (.slice sn2 L2.Y.length dn2)
                rw [← hw42] at FC42
                have kC42 := boxc_kept kC41 gs (by intro e; have := Option.some.inj e; omega)
                have FS42 := FrR.put FS41 kn41 (.bool L2.b) (.slice rn2 L2.X.length cn2) (.slice sn2 L2.Y.length dn2)
                rw [← hw42] at FS42
                have kS42 := boxc_kept kS41 gs (by intro e; have := Option.some.inj e; omega)
                have FP42 := FrR.put FP41 kn41 (.bool L2.b) (.slice rn2 L2.X.length cn2) (.slice sn2 L2.Y.length dn2)
                rw [← hw42] at FP42
                have kP42 := boxc_kept kP41 gs (by intro e; have := Option.some.inj e; omega)
                have FBC42 := FrR.put FBC41 kn41 (.bool L2.b) (.slice rn2 L2.X.length cn2) (.slice sn2 L2.Y.length dn2)
                rw [← hw42] at FBC42
                have kBC42 := boxc_kept kBC41 gs (by intro e; have := Option.some.inj e; omega)
                have FPC42 := FrR.put FPC41 kn41 (.bool L2.b) (.slice rn2 L2.X.length cn2) (.slice sn2 L2.Y.length dn2)
                rw [← hw42] at FPC42
                have kPC42 := boxc_kept kPC41 gs (by intro e; have := Option.some.inj e; omega)
                have FAC42 := FrR.put FAC41 kn41 (.bool L2.b) (.slice rn2 L2.X.length cn2) (.slice sn2 L2.Y.length dn2)
                rw [← hw42] at FAC42
                have kAC42 := boxc_kept kAC41 gs (by intro e; have := Option.some.inj e; omega)
                have kl42 := boxc_kept kl41 gs (by intro e; have := Option.some.inj e; omega)
                have kn42 : BoxC w42 gn 25 #[.bool L2.b, .slice rn2 L2.X.length cn2, .slice sn2 L2.Y.length dn2] := by rw [hw42]; exact boxc_set2 (boxc_set1 (boxc_set0 kn41 _) _) _
                have Fl242 := FrR.put Fl241 kn41 (.bool L2.b) (.slice rn2 L2.X.length cn2) (.slice sn2 L2.Y.length dn2)
                rw [← hw42] at Fl242
                have Fn242 := FrR.put Fn241 kn41 (.bool L2.b) (.slice rn2 L2.X.length cn2) (.slice sn2 L2.Y.length dn2)
                rw [← hw42] at Fn242
                have B42 : Below w.heap.size w w42 := by rw [hw42]; exact below_set3 B41 (by omega) _ _ _
                obtain ⟨zc0, zc1, zc2, zcf, zcn⟩ := boxc3 kn41
                clear gs FA41 FB41 kA41 kB41 FC41 kC41 FS41 kS41 FP41 kP41 FBC41 kBC41 FPC41 kPC41 FAC41 kAC41 kl41 kn41 Fl241 Fn241 B41
                go_upto_region 36 with fail
                rw [← hw42]
                clear hw42 zc0 zc1 zc2 zcf zcn
                cases okL2 : L2.ok with
                | false =>
                  clear Fl242 Fn242
                  go_upto_region 38 with fail
                  have hd42 := Hdl.keep HH.out B42 (Hdl.pos HH.out)
                  obtain ⟨kAc0, kAc1, kAc2, _, kAcn⟩ := boxc3 kA42
                  obtain ⟨kBCc0, kBCc1, kBCc2, _, kBCcn⟩ := boxc3 kBC42
                  go_wp2_with fail
                  refine Calls.mono (MUL.out _ _ _ L3 _ _ _ _ _ _ _ _ hL3.out hd42 FA42 FBC42) ?_
                  rintro e w43 ⟨rl3, sl3, cl3, dl3, rfl, Fl343, bq⟩
                  clear kAc0 kAc1 kAc2 kBCc0 kBCc1 kBCc2
                  clear hd42
                  have FA43 := FA42.keep bq
                  have FB43 := FB42.keep bq
                  have kA43 := boxc_keep kA42 bq
                  have kB43 := boxc_keep kB42 bq
                  have FC43 := FC42.keep bq
                  have kC43 := boxc_keep kC42 bq
                  have FS43 := FS42.keep bq
                  have kS43 := boxc_keep kS42 bq
                  have FP43 := FP42.keep bq
                  have kP43 := boxc_keep kP42 bq
                  have FBC43 := FBC42.keep bq
                  have kBC43 := boxc_keep kBC42 bq
                  have FPC43 := FPC42.keep bq
                  have kPC43 := boxc_keep kPC42 bq
                  have FAC43 := FAC42.keep bq
                  have kAC43 := boxc_keep kAC42 bq
                  have kl43 := boxc_keep kl42 bq
                  have kn43 := boxc_keep kn42 bq
                  have B43 := B42.trans (bq.mono B42.size)
                  clear FA42 FB42 kA42 kB42 FC42 kC42 FS42 kS42 FP42 kP42 FBC42 kBC42 FPC42 kPC42 FAC42 kAC42 kl42 kn42 B42 bq
                  obtain ⟨w44, hw44⟩ : ∃ w44, w44 = ((w43.setCell ⟨gl, 0, none⟩ (.bool L3.b)).setCell ⟨gl, 1, none⟩ (.slice rl3 L3.X.length cl3)).setCell ⟨gl, 2, none⟩ (.slice sl3 L3.Y.length dl3) := ⟨_, rfl⟩
                  have gs : w43.grownBy w44 (some gl) := by rw [hw44]; exact gr_set3 _ _ _ _ _
                  have FA44 := FrR.put FA43 kl43 (.bool L3.b) (.slice rl3 L3.X.length cl3) (.slice sl3 L3.Y.length dl3)
                  rw [← hw44] at FA44
                  have FB44 := FrR.put FB43 kl43 (.bool L3.b) (.slice rl3 L3.X.length cl3) (.slice sl3 L3.Y.length dl3)
                  rw [← hw44] at FB44
                  have kA44 := boxc_kept kA43 gs (by intro e; have := Option.some.inj e; omega)
                  have kB44 := boxc_kept kB43 gs (by intro e; have := Option.some.inj e; omega)
                  have FC44 := FrR.put FC43 kl43 (.bool L3.b) (.slice rl3 L3.X.length cl3) (.slice sl3 L3.Y.length dl3)
                  rw [← hw44] at FC44
                  have kC44 := boxc_kept kC43 gs (by intro e; have := Option.some.inj e; omega)
                  have FS44 := FrR.put FS43 kl43 (.bool L3.b) (.slice rl3 L3.X.length cl3) (.slice sl3 L3.Y.length dl3)
                  rw [← hw44] at FS44
                  have kS44 := boxc_kept kS43 gs (by intro e; have := Option.some.inj e; omega)
                  have FP44 := FrR.put FP43 kl43 (.bool L3.b) (.slice rl3 L3.X.length cl3) (.slice sl3 L3.Y.length dl3)
                  rw [← hw44] at FP44
                  have kP44 := boxc_kept kP43 gs (by intro e; have := Option.some.inj e; omega)
                  have FBC44 := FrR.put FBC43 kl43 (.bool L3.b) (.slice rl3 L3.X.length cl3) (.slice sl3 L3.Y.length dl3)
                  rw [← hw44] at FBC44
                  have kBC44 := boxc_kept kBC43 gs (by intro e; have := Option.some.inj e; omega)
                  have FPC44 := FrR.put FPC43 kl43 (.bool L3.b) (.slice rl3 L3.X.length cl3) (.slice sl3 L3.Y.length dl3)
                  rw [← hw44] at FPC44
                  have kPC44 := boxc_kept kPC43 gs (by intro e; have := Option.some.inj e; omega)
                  have FAC44 := FrR.put FAC43 kl43 (.bool L3.b) (.slice rl3 L3.X.length cl3) (.slice sl3 L3.Y.length dl3)
                  rw [← hw44] at FAC44
                  have kAC44 := boxc_kept kAC43 gs (by intro e; have := Option.some.inj e; omega)
                  have kl44 : BoxC w44 gl 25 #[.bool L3.b, .slice rl3 L3.X.length cl3, .slice sl3 L3.Y.length dl3] := by rw [hw44]; exact boxc_set2 (boxc_set1 (boxc_set0 kl43 _) _) _
                  have kn44 := boxc_kept kn43 gs (by intro e; have := Option.some.inj e; omega)
                  have Fl344 := FrR.put Fl343 kl43 (.bool L3.b) (.slice rl3 L3.X.length cl3) (.slice sl3 L3.Y.length dl3)
                  rw [← hw44] at Fl344
                  have B44 : Below w.heap.size w w44 := by rw [hw44]; exact below_set3 B43 (by omega) _ _ _
                  obtain ⟨zc0, zc1, zc2, zcf, zcn⟩ := boxc3 kl43
                  clear gs FA43 FB43 kA43 kB43 FC43 kC43 FS43 kS43 FP43 kP43 FBC43 kBC43 FPC43 kPC43 FAC43 kAC43 kl43 kn43 Fl343 B43
                  go_upto_region 39 with fail
                  rw [← hw44]
                  clear hw44 zc0 zc1 zc2 zcf zcn
                  have hd44 := Hdl.keep HH.out B44 (Hdl.pos HH.out)
                  obtain ⟨kPc0, kPc1, kPc2, _, kPcn⟩ := boxc3 kP44
                  obtain ⟨kACc0, kACc1, kACc2, _, kACcn⟩ := boxc3 kAC44
                  go_wp2_with fail
                  refine Calls.mono (ADD.out _ _ _ L3 _ _ _ _ _ _ _ _ (by rw [hL3.out, hBC.out, hP.out, hAC.out]; exact top_dist (by rw [← hBC.out]; exact okBC) (by rw [← hP.out]; exact okP) (by rw [← hAC.out]; exact okAC)) hd44 FP44 FAC44) ?_
                  rintro e w45 ⟨rn3, sn3, cn3, dn3, rfl, Fn345, bq⟩
                  clear kPc0 kPc1 kPc2 kACc0 kACc1 kACc2
                  clear hd44
                  have FA45 := FA44.keep bq
                  have FB45 := FB44.keep bq
                  have kA45 := boxc_keep kA44 bq
                  have kB45 := boxc_keep kB44 bq
                  have FC45 := FC44.keep bq
                  have kC45 := boxc_keep kC44 bq
                  have FS45 := FS44.keep bq
                  have kS45 := boxc_keep kS44 bq
                  have FP45 := FP44.keep bq
                  have kP45 := boxc_keep kP44 bq
                  have FBC45 := FBC44.keep bq
                  have kBC45 := boxc_keep kBC44 bq
                  have FPC45 := FPC44.keep bq
                  have kPC45 := boxc_keep kPC44 bq
                  have FAC45 := FAC44.keep bq
                  have kAC45 := boxc_keep kAC44 bq
                  have kl45 := boxc_keep kl44 bq
                  have kn45 := boxc_keep kn44 bq
                  have Fl345 := Fl344.keep bq
                  have B45 := B44.trans (bq.mono B44.size)
                  clear FA44 FB44 kA44 kB44 FC44 kC44 FS44 kS44 FP44 kP44 FBC44 kBC44 FPC44 kPC44 FAC44 kAC44 kl44 kn44 Fl344 B44 bq
                  obtain ⟨w46, hw46⟩ : ∃ w46, w46 = ((w45.setCell ⟨gn, 0, none⟩ (.bool L3.b)).setCell ⟨gn, 1, none⟩ (.slice rn3 L3.X.length cn3)).setCell ⟨gn, 2, none⟩ (.slice sn3 L3.Y.length dn3) := ⟨_, rfl⟩
                  have gs : w45.grownBy w46 (some gn) := by rw [hw46]; exact gr_set3 _ _ _ _ _
                  have FA46 := FrR.put FA45 kn45 (.bool L3.b) (.slice rn3 L3.X.length cn3) (.slice sn3 L3.Y.length dn3)
                  rw [← hw46] at FA46
                  have FB46 := FrR.put FB45 kn45 (.bool L3.b) (.slice rn3 L3.X.length cn3) (.slice sn3 L3.Y.length dn3)
                  rw [← hw46] at FB46
                  have kA46 := boxc_kept kA45 gs (by intro e; have := Option.some.inj e; omega)
                  have kB46 := boxc_kept kB45 gs (by intro e; have := Option.some.inj e; omega)
                  have FC46 := FrR.put FC45 kn45 (.bool L3.b) (.slice rn3 L3.X.length cn3) (.slice sn3 L3.Y.length dn3)
                  rw [← hw46] at FC46
                  have kC46 := boxc_kept kC45 gs (by intro e; have := Option.some.inj e; omega)
                  have FS46 := FrR.put FS45 kn45 (.bool L3.b) (.slice rn3 L3.X.length cn3) (.slice sn3 L3.Y.length dn3)
                  rw [← hw46] at FS46
                  have kS46 := boxc_kept kS45 gs (by intro e; have := Option.some.inj e; omega)
                  have FP46 := FrR.put FP45 kn45 (.bool L3.b) (.slice rn3 L3.X.length cn3) (.slice sn3 L3.Y.length dn3)
                  rw [← hw46] at FP46
                  have kP46 := boxc_kept kP45 gs (by intro e; have := Option.some.inj e; omega)
                  have FBC46 := FrR.put FBC45 kn45 (.bool L3.b) (.slice rn3 L3.X.length cn3) (.slice sn3 L3.Y.length dn3)
                  rw [← hw46] at FBC46
                  have kBC46 := boxc_kept kBC45 gs (by intro e; have := Option.some.inj e; omega)
                  have FPC46 := FrR.put FPC45 kn45 (.bool L3.b) (.slice rn3 L3.X.length cn3) (.slice sn3 L3.Y.length dn3)
                  rw [← hw46] at FPC46
                  have kPC46 := boxc_kept kPC45 gs (by intro e; have := Option.some.inj e; omega)
                  have FAC46 := FrR.put FAC45 kn45 (.bool L3.b) (.slice rn3 L3.X.length cn3) (.slice sn3 L3.Y.length dn3)
                  rw [← hw46] at FAC46
                  have kAC46 := boxc_kept kAC45 gs (by intro e; have := Option.some.inj e; omega)
                  have kl46 := boxc_kept kl45 gs (by intro e; have := Option.some.inj e; omega)
                  have kn46 : BoxC w46 gn 25 #[.bool L3.b, .slice rn3 L3.X.length cn3, .slice sn3 L3.Y.length dn3] := by rw [hw46]; exact boxc_set2 (boxc_set1 (boxc_set0 kn45 _) _) _
                  have Fl346 := FrR.put Fl345 kn45 (.bool L3.b) (.slice rn3 L3.X.length cn3) (.slice sn3 L3.Y.length dn3)
                  rw [← hw46] at Fl346
                  have Fn346 := FrR.put Fn345 kn45 (.bool L3.b) (.slice rn3 L3.X.length cn3) (.slice sn3 L3.Y.length dn3)
                  rw [← hw46] at Fn346
                  have B46 : Below w.heap.size w w46 := by rw [hw46]; exact below_set3 B45 (by omega) _ _ _
                  obtain ⟨zc0, zc1, zc2, zcf, zcn⟩ := boxc3 kn45
                  clear gs FA45 FB45 kA45 kB45 FC45 kC45 FS45 kS45 FP45 kP45 FBC45 kBC45 FPC45 kPC45 FAC45 kAC45 kl45 kn45 Fl345 Fn345 B45
                  go_upto_region 40 with fail
                  rw [← hw46]
                  clear hw46 zc0 zc1 zc2 zcf zcn
                  cases okL3 : L3.ok with
                  | false =>
                    have HBB : Hid (Below w.heap.size w w46) := B46
                    clear ADD MUL SUB DIV SAD SMU PW SG hS hP hBC hPC hAC hL1 hL2 hL3 hAok HH FA46 FB46 kA46 kB46 FC46 kC46 FS46 kS46 FP46 kP46 FBC46 kBC46 FPC46 kPC46 FAC46 kAC46 kl46 kn46 Fl346 Fn346 B46
                    go_wp2
                    go_ret
                    exact ⟨rfl, HBB.out⟩
                  | true =>
                    obtain ⟨klc0, klc1, klc2, _, klcn⟩ := boxc3 kl46
                    obtain ⟨knc0, knc1, knc2, _, kncn⟩ := boxc3 kn46
                    go_wp2_with fail
                    refine Calls.mono (PW.out _ L3 _ _ _ _ _ _ _ _ Fl346 Fn346) ?_
                    rintro e w47 ⟨rfl, bq⟩
                    clear klc0 klc1 klc2 knc0 knc1 knc2
                    have FA47 := FA46.keep bq
                    have FB47 := FB46.keep bq
                    have kA47 := boxc_keep kA46 bq
                    have kB47 := boxc_keep kB46 bq
                    have FC47 := FC46.keep bq
                    have kC47 := boxc_keep kC46 bq
                    have FS47 := FS46.keep bq
                    have kS47 := boxc_keep kS46 bq
                    have FP47 := FP46.keep bq
                    have kP47 := boxc_keep kP46 bq
                    have FBC47 := FBC46.keep bq
                    have kBC47 := boxc_keep kBC46 bq
                    have FPC47 := FPC46.keep bq
                    have kPC47 := boxc_keep kPC46 bq
                    have FAC47 := FAC46.keep bq
                    have kAC47 := boxc_keep kAC46 bq
                    have kl47 := boxc_keep kl46 bq
                    have kn47 := boxc_keep kn46 bq
                    have Fl347 := Fl346.keep bq
                    have Fn347 := Fn346.keep bq
                    have B47 := B46.trans (bq.mono B46.size)
                    clear FA46 FB46 kA46 kB46 FC46 kC46 FS46 kS46 FP46 kP46 FBC46 kBC46 FPC46 kPC46 FAC46 kAC46 kl46 kn46 Fl346 Fn346 B46 bq
                    have HBB : Hid (Below w.heap.size w w47) := B47
                    clear ADD MUL SUB DIV SAD SMU PW SG hS hP hBC hPC hAC hL1 hL2 hL3 hAok HH FA47 FB47 kA47 kB47 FC47 kC47 FS47 kS47 FP47 kP47 FBC47 kBC47 FPC47 kPC47 FAC47 kAC47 kl47 kn47 Fl347 Fn347 B47
                    go_wp2
                    go_ret
                    exact ⟨rfl, HBB.out⟩
                | true =>
                  obtain ⟨klc0, klc1, klc2, _, klcn⟩ := boxc3 kl42
                  obtain ⟨knc0, knc1, knc2, _, kncn⟩ := boxc3 kn42
                  go_wp2_with fail
                  refine Calls.mono (PW.out _ L2 _ _ _ _ _ _ _ _ Fl242 Fn242) ?_
                  rintro e w43 ⟨rfl, bq⟩
                  clear klc0 klc1 klc2 knc0 knc1 knc2
                  have FA43 := FA42.keep bq
                  have FB43 := FB42.keep bq
                  have kA43 := boxc_keep kA42 bq
                  have kB43 := boxc_keep kB42 bq
                  have FC43 := FC42.keep bq
                  have kC43 := boxc_keep kC42 bq
                  have FS43 := FS42.keep bq
                  have kS43 := boxc_keep kS42 bq
                  have FP43 := FP42.keep bq
                  have kP43 := boxc_keep kP42 bq
                  have FBC43 := FBC42.keep bq
                  have kBC43 := boxc_keep kBC42 bq
                  have FPC43 := FPC42.keep bq
                  have kPC43 := boxc_keep kPC42 bq
                  have FAC43 := FAC42.keep bq
                  have kAC43 := boxc_keep kAC42 bq
                  have kl43 := boxc_keep kl42 bq
                  have kn43 := boxc_keep kn42 bq
                  have Fl243 := Fl242.keep bq
                  have Fn243 := Fn242.keep bq
                  have B43 := B42.trans (bq.mono B42.size)
                  clear FA42 FB42 kA42 kB42 FC42 kC42 FS42 kS42 FP42 kP42 FBC42 kBC42 FPC42 kPC42 FAC42 kAC42 kl42 kn42 Fl242 Fn242 B42 bq
                  clear Fl243 Fn243
                  go_upto_region 38 with fail
                  have hd43 := Hdl.keep HH.out B43 (Hdl.pos HH.out)
                  obtain ⟨kAc0, kAc1, kAc2, _, kAcn⟩ := boxc3 kA43
                  obtain ⟨kBCc0, kBCc1, kBCc2, _, kBCcn⟩ := boxc3 kBC43
                  go_wp2_with fail
                  refine Calls.mono (MUL.out _ _ _ L3 _ _ _ _ _ _ _ _ hL3.out hd43 FA43 FBC43) ?_
                  rintro e w44 ⟨rl3, sl3, cl3, dl3, rfl, Fl344, bq⟩
                  clear kAc0 kAc1 kAc2 kBCc0 kBCc1 kBCc2
                  clear hd43
                  have FA44 := FA43.keep bq
                  have FB44 := FB43.keep bq
                  have kA44 := boxc_keep kA43 bq
                  have kB44 := boxc_keep kB43 bq
                  have FC44 := FC43.keep bq
                  have kC44 := boxc_keep kC43 bq
                  have FS44 := FS43.keep bq
                  have kS44 := boxc_keep kS43 bq
                  have FP44 := FP43.keep bq
                  have kP44 := boxc_keep kP43 bq
                  have FBC44 := FBC43.keep bq
                  have kBC44 := boxc_keep kBC43 bq
                  have FPC44 := FPC43.keep bq
                  have kPC44 := boxc_keep kPC43 bq
                  have FAC44 := FAC43.keep bq
                  have kAC44 := boxc_keep kAC43 bq
                  have kl44 := boxc_keep kl43 bq
                  have kn44 := boxc_keep kn43 bq
                  have B44 := B43.trans (bq.mono B43.size)
                  clear FA43 FB43 kA43 kB43 FC43 kC43 FS43 kS43 FP43 kP43 FBC43 kBC43 FPC43 kPC43 FAC43 kAC43 kl43 kn43 B43 bq
                  obtain ⟨w45, hw45⟩ : ∃ w45, w45 = ((w44.setCell ⟨gl, 0, none⟩ (.bool L3.b)).setCell ⟨gl, 1, none⟩ (.slice rl3 L3.X.length cl3)).setCell ⟨gl, 2, none⟩ (.slice sl3 L3.Y.length dl3) := ⟨_, rfl⟩
                  have gs : w44.grownBy w45 (some gl) := by rw [hw45]; exact gr_set3 _ _ _ _ _
                  have FA45 := FrR.put FA44 kl44 (.bool L3.b) (.slice rl3 L3.X.length cl3) (.slice sl3 L3.Y.length dl3)
                  rw [← hw45] at FA45
                  have FB45 := FrR.put FB44 kl44 (.bool L3.b) (.slice rl3 L3.X.length cl3) (.slice sl3 L3.Y.length dl3)
                  rw [← hw45] at FB45
                  have kA45 := boxc_kept kA44 gs (by intro e; have := Option.some.inj e; omega)
                  have kB45 := boxc_kept kB44 gs (by intro e; have := Option.some.inj e; omega)
                  have FC45 := FrR.put FC44 kl44 (.bool L3.b) (.slice rl3 L3.X.length cl3) (.slice sl3 L3.Y.length dl3)
                  rw [← hw45] at FC45
                  have kC45 := boxc_kept kC44 gs (by intro e; have := Option.some.inj e; omega)
                  have FS45 := FrR.put FS44 kl44 (.bool L3.b) (.slice rl3 L3.X.length cl3) (.slice sl3 L3.Y.length dl3)
                  rw [← hw45] at FS45
                  have kS45 := boxc_kept kS44 gs (by intro e; have := Option.some.inj e; omega)
                  have FP45 := FrR.put FP44 kl44 (.bool L3.b) (.slice rl3 L3.X.length cl3) (.slice sl3 L3.Y.length dl3)
                  rw [← hw45] at FP45
                  have kP45 := boxc_kept kP44 gs (by intro e; have := Option.some.inj e; omega)
                  have FBC45 := FrR.put FBC44 kl44 (.bool L3.b) (.slice rl3 L3.X.length cl3) (.slice sl3 L3.Y.length dl3)
                  rw [← hw45] at FBC45
                  have kBC45 := boxc_kept kBC44 gs (by intro e; have := Option.some.inj e; omega)
                  have FPC45 := FrR.put FPC44 kl44 (.bool L3.b) (.slice rl3 L3.X.length cl3) (.slice sl3 L3.Y.length dl3)
                  rw [← hw45] at FPC45
                  have kPC45 := boxc_kept kPC44 gs (by intro e; have := Option.some.inj e; omega)
                  have FAC45 := FrR.put FAC44 kl44 (.bool L3.b) (.slice rl3 L3.X.length cl3) (.slice sl3 L3.Y.length dl3)
                  rw [← hw45] at FAC45
                  have kAC45 := boxc_kept kAC44 gs (by intro e; have := Option.some.inj e; omega)
                  have kl45 : BoxC w45 gl 25 #[.bool L3.b, .slice rl3 L3.X.length cl3, .slice sl3 L3.Y.length dl3] := by rw [hw45]; exact boxc_set2 (boxc_set1 (boxc_set0 kl44 _) _) _
                  have kn45 := boxc_kept kn44 gs (by intro e; have := Option.some.inj e; omega)
                  have Fl345 := FrR.put Fl344 kl44 (.bool L3.b) (.slice rl3 L3.X.length cl3) (.slice sl3 L3.Y.length dl3)
                  rw [← hw45] at Fl345
                  have B45 : Below w.heap.size w w45 := by rw [hw45]; exact below_set3 B44 (by omega) _ _ _
                  obtain ⟨zc0, zc1, zc2, zcf, zcn⟩ := boxc3 kl44
                  clear gs FA44 FB44 kA44 kB44 FC44 kC44 FS44 kS44 FP44 kP44 FBC44 kBC44 FPC44 kPC44 FAC44 kAC44 kl44 kn44 Fl344 B44
                  go_upto_region 39 with fail
                  rw [← hw45]
                  clear hw45 zc0 zc1 zc2 zcf zcn
                  have hd45 := Hdl.keep HH.out B45 (Hdl.pos HH.out)
                  obtain ⟨kPc0, kPc1, kPc2, _, kPcn⟩ := boxc3 kP45
                  obtain ⟨kACc0, kACc1, kACc2, _, kACcn⟩ := boxc3 kAC45
                  go_wp2_with fail
                  refine Calls.mono (ADD.out _ _ _ L3 _ _ _ _ _ _ _ _ (by rw [hL3.out, hBC.out, hP.out, hAC.out]; exact top_dist (by rw [← hBC.out]; exact okBC) (by rw [← hP.out]; exact okP) (by rw [← hAC.out]; exact okAC)) hd45 FP45 FAC45) ?_
                  rintro e w46 ⟨rn3, sn3, cn3, dn3, rfl, Fn346, bq⟩
                  clear kPc0 kPc1 kPc2 kACc0 kACc1 kACc2
                  clear hd45
                  have FA46 := FA45.keep bq
                  have FB46 := FB45.keep bq
                  have kA46 := boxc_keep kA45 bq
                  have kB46 := boxc_keep kB45 bq
                  have FC46 := FC45.keep bq
                  have kC46 := boxc_keep kC45 bq
                  have FS46 := FS45.keep bq
                  have kS46 := boxc_keep kS45 bq
                  have FP46 := FP45.keep bq
                  have kP46 := boxc_keep kP45 bq
                  have FBC46 := FBC45.keep bq
                  have kBC46 := boxc_keep kBC45 bq
                  have FPC46 := FPC45.keep bq
                  have kPC46 := boxc_keep kPC45 bq
                  have FAC46 := FAC45.keep bq
                  have kAC46 := boxc_keep kAC45 bq
                  have kl46 := boxc_keep kl45 bq
                  have kn46 := boxc_keep kn45 bq
                  have Fl346 := Fl345.keep bq
                  have B46 := B45.trans (bq.mono B45.size)
                  clear FA45 FB45 kA45 kB45 FC45 kC45 FS45 kS45 FP45 kP45 FBC45 kBC45 FPC45 kPC45 FAC45 kAC45 kl45 kn45 Fl345 B45 bq
                  obtain ⟨w47, hw47⟩ : ∃ w47, w47 = ((w46.setCell ⟨gn, 0, none⟩ (.bool L3.b)).setCell ⟨gn, 1, none⟩ (.slice rn3 L3.X.length cn3)).setCell ⟨gn, 2, none⟩ (.slice sn3 L3.Y.length dn3) := ⟨_, rfl⟩
                  have gs : w46.grownBy w47 (some gn) := by rw [hw47]; exact gr_set3 _ _ _ _ _
                  have FA47 := FrR.put FA46 kn46 (.bool L3.b) (.slice rn3 L3.X.length cn3) (.slice sn3 L3.Y.length dn3)
                  rw [← hw47] at FA47
                  have FB47 := FrR.put FB46 kn46 (.bool L3.b) (.slice rn3 L3.X.length cn3) (.slice sn3 L3.Y.length dn3)
                  rw [← hw47] at FB47
                  have kA47 := boxc_kept kA46 gs (by intro e; have := Option.some.inj e; omega)
                  have kB47 := boxc_kept kB46 gs (by intro e; have := Option.some.inj e; omega)
                  have FC47 := FrR.put FC46 kn46 (.bool L3.b) (.slice rn3 L3.X.length cn3) (.slice sn3 L3.Y.length dn3)
                  rw [← hw47] at FC47
                  have kC47 := boxc_kept kC46 gs (by intro e; have := Option.some.inj e; omega)
                  have FS47 := FrR.put FS46 kn46 (.bool L3.b) (.slice rn3 L3.X.length cn3) (.slice sn3 L3.Y.length dn3)
                  rw [← hw47] at FS47
                  have kS47 := boxc_kept kS46 gs (by intro e; have := Option.some.inj e; omega)
                  have FP47 := FrR.put FP46 kn46 (.bool L3.b) (.slice rn3 L3.X.length cn3) (.slice sn3 L3.Y.length dn3)
                  rw [← hw47] at FP47
                  have kP47 := boxc_kept kP46 gs (by intro e; have := Option.some.inj e; omega)
                  have FBC47 := FrR.put FBC46 kn46 (.bool L3.b) (.slice rn3 L3.X.length cn3) (.slice sn3 L3.Y.length dn3)
                  rw [← hw47] at FBC47
                  have kBC47 := boxc_kept kBC46 gs (by intro e; have := Option.some.inj e; omega)
                  have FPC47 := FrR.put FPC46 kn46 (.bool L3.b) (.slice rn3 L3.X.length cn3) (.slice sn3 L3.Y.length dn3)
                  rw [← hw47] at FPC47
                  have kPC47 := boxc_kept kPC46 gs (by intro e; have := Option.some.inj e; omega)
                  have FAC47 := FrR.put FAC46 kn46 (.bool L3.b) (.slice rn3 L3.X.length cn3) (.slice sn3 L3.Y.length dn3)
                  rw [← hw47] at FAC47
                  have kAC47 := boxc_kept kAC46 gs (by intro e; have := Option.some.inj e; omega)
                  have kl47 := boxc_kept kl46 gs (by intro e; have := Option.some.inj e; omega)
                  have kn47 : BoxC w47 gn 25 #[.bool L3.b, .slice rn3 L3.X.length cn3, .slice sn3 L3.Y.length dn3] := by rw [hw47]; exact boxc_set2 (boxc_set1 (boxc_set0 kn46 _) _) _
                  have Fl347 := FrR.put Fl346 kn46 (.bool L3.b) (.slice rn3 L3.X.length cn3) (.slice sn3 L3.Y.length dn3)
                  rw [← hw47] at Fl347
                  have Fn347 := FrR.put Fn346 kn46 (.bool L3.b) (.slice rn3 L3.X.length cn3) (.slice sn3 L3.Y.length dn3)
                  rw [← hw47] at Fn347
                  have B47 : Below w.heap.size w w47 := by rw [hw47]; exact below_set3 B46 (by omega) _ _ _
                  obtain ⟨zc0, zc1, zc2, zcf, zcn⟩ := boxc3 kn46
                  clear gs FA46 FB46 kA46 kB46 FC46 kC46 FS46 kS46 FP46 kP46 FBC46 kBC46 FPC46 kPC46 FAC46 kAC46 kl46 kn46 Fl346 Fn346 B46
                  go_upto_region 40 with fail
                  rw [← hw47]
                  clear hw47 zc0 zc1 zc2 zcf zcn
                  cases okL3 : L3.ok with
                  | false =>
                    have HBB : Hid (Below w.heap.size w w47) := B47
                    clear ADD MUL SUB DIV SAD SMU PW SG hS hP hBC hPC hAC hL1 hL2 hL3 hAok HH FA47 FB47 kA47 kB47 FC47 kC47 FS47 kS47 FP47 kP47 FBC47 kBC47 FPC47 kPC47 FAC47 kAC47 kl47 kn47 Fl347 Fn347 B47
                    go_wp2
                    go_ret
                    exact ⟨rfl, HBB.out⟩
                  | true =>
                    obtain ⟨klc0, klc1, klc2, _, klcn⟩ := boxc3 kl47
                    obtain ⟨knc0, knc1, knc2, _, kncn⟩ := boxc3 kn47
                    go_wp2_with fail
                    refine Calls.mono (PW.out _ L3 _ _ _ _ _ _ _ _ Fl347 Fn347) ?_
                    rintro e w48 ⟨rfl, bq⟩
                    clear klc0 klc1 klc2 knc0 knc1 knc2
                    have FA48 := FA47.keep bq
                    have FB48 := FB47.keep bq
                    have kA48 := boxc_keep kA47 bq
                    have kB48 := boxc_keep kB47 bq
                    have FC48 := FC47.keep bq
                    have kC48 := boxc_keep kC47 bq
                    have FS48 := FS47.keep bq
                    have kS48 := boxc_keep kS47 bq
                    have FP48 := FP47.keep bq
                    have kP48 := boxc_keep kP47 bq
                    have FBC48 := FBC47.keep bq
                    have kBC48 := boxc_keep kBC47 bq
                    have FPC48 := FPC47.keep bq
                    have kPC48 := boxc_keep kPC47 bq
                    have FAC48 := FAC47.keep bq
                    have kAC48 := boxc_keep kAC47 bq
                    have kl48 := boxc_keep kl47 bq
                    have kn48 := boxc_keep kn47 bq
                    have Fl348 := Fl347.keep bq
                    have Fn348 := Fn347.keep bq
                    have B48 := B47.trans (bq.mono B47.size)
                    clear FA47 FB47 kA47 kB47 FC47 kC47 FS47 kS47 FP47 kP47 FBC47 kBC47 FPC47 kPC47 FAC47 kAC47 kl47 kn47 Fl347 Fn347 B47 bq
                    have HBB : Hid (Below w.heap.size w w48) := B48
                    clear ADD MUL SUB DIV SAD SMU PW SG hS hP hBC hPC hAC hL1 hL2 hL3 hAok HH FA48 FB48 kA48 kB48 FC48 kC48 FS48 kS48 FP48 kP48 FBC48 kBC48 FPC48 kPC48 FAC48 kAC48 kl48 kn48 Fl348 Fn348 B48
                    go_wp2
                    go_ret
                    exact ⟨rfl, HBB.out⟩

set_option maxRecDepth 100000 in
theorem lifted (os : Os) (started : os.Started) (H : Type) (enc : TypeId × Value → H) :
    ReturnsInHanded {} Tryz.checked os 3 .any (fun w args => (Rows.fnNumTopSpec.pre enc Tryz.prog Tryz.f3 [] false w args ∧ laidMetH Tryz.prog laidL w) ∧ sizedMet enc Tryz.prog Tryz.f3 (OpenSpec.ofChange Rows.fnNumTopSpec) false w args)
      (Rows.fnNumTopSpec.post enc Tryz.prog Tryz.f3 false true false false) := by
  refine returnsInHanded_of_change_and (C := Tryz.checked) (X := fun w _ => laidMetH Tryz.prog laidL w) (fun _ _ _ hh h => h.of_heap hh) ownK started (by kernel_rfl) Tryz.func3
    (ChangeSpec.witness_at (enc := enc) (C := Tryz.checked) (os := os) (X := fun w _ => laidMetH Tryz.prog laidL w) false { World.holding Tryz.prog os ⟨#[], #[], []⟩ with heap := (World.holding Tryz.prog os ⟨#[], #[], []⟩).heap.modify 0 fun | .cells _ t frozen => .cells #[.iface 106 (.agg #[.pointer (some ⟨1, 43, none⟩)])] t frozen | o => o } #[.slice none 0 0, .slice none 0 0] 8 rfl (by kernel_rfl) (by kernel_rfl) (by kernel_rfl) (by kernel_rfl) (by kernel_rfl) (laidMetH_of_parts (laidMet_nil _ _) (by kernel_rfl))) ?_
  intro W base args ds gs before hval0 hW _ _ hL _
  have hval : ∀ (j : Nat) t v, Tryz.f3.params[j]? = some t → args[j]? = some v → Value.okWide Tryz.prog W .any base t v := hval0
  have hW' := hW
  obtain ⟨p, q, hA0, hV0, rfl, hfz, hnd⟩ := hW
  have hA : DataW.TrodAll enc Tryz.prog W 0 (fun _ => true) true Tryz.f3.params.toList args.toList ds p := hA0
  have hV : DataW.TrodVars enc Tryz.prog W (fun _ => true) [] gs q := hV0
  rw [Tryz.params3] at hA hval
  obtain ⟨v0, vs0, d0, ds0, p0, q0, hargs, rfl, rfl, h0, r0⟩ := trodAll_cons hA
  obtain ⟨v1, vs1, d1, ds1, p1, q1, rfl, rfl, rfl, h1, r1⟩ := trodAll_cons r0
  obtain ⟨rfl, rfl, rfl⟩ := trodAll_nil r1
  obtain rfl : args = #[v0, v1] := by cases args; simp_all
  obtain ⟨rfl, rfl⟩ := trodVars_none hV
  obtain ⟨aa0, la0, ca0, rfl⟩ := okWide_slice Tryz.underlying22 (hval 0 22 v0 rfl rfl)
  have k0 := h0
  have lt0 : ∀ x ∈ p0, x.block < W.heap.size := by obtain ⟨m, hm⟩ := k0; exact DataW.trod_lt m _ _ _ hm
  obtain ⟨za0, wa0⟩ : ∃ zs, IsRow .u8 W aa0 la0 ca0 zs := by
    obtain ⟨fuel, hf⟩ := h0
    rcases open_ints Tryz.underlying22 Tryz.underlying5 (by kernel_rfl) hf with ⟨hcs, _⟩ | ⟨x, l, c, zs, hcs, _, hl, hm, hz, _, hcell, hwz⟩
    · simp [Value.cells] at hcs
      obtain ⟨rfl, rfl, rfl⟩ := hcs
      exact ⟨[], .inl ⟨rfl, rfl, rfl, rfl⟩⟩
    · simp [Value.cells] at hcs
      obtain ⟨rfl, rfl, rfl⟩ := hcs
      exact ⟨zs, .inr ⟨_, rfl, hl, hm, by simpa using hz, hcell, hwz⟩⟩
  obtain ⟨aa1, la1, ca1, rfl⟩ := okWide_slice Tryz.underlying22 (hval 1 22 v1 rfl rfl)
  have k1 := h1
  have lt1 : ∀ x ∈ p1, x.block < W.heap.size := by obtain ⟨m, hm⟩ := k1; exact DataW.trod_lt m _ _ _ hm
  obtain ⟨za1, wa1⟩ : ∃ zs, IsRow .u8 W aa1 la1 ca1 zs := by
    obtain ⟨fuel, hf⟩ := h1
    rcases open_ints Tryz.underlying22 Tryz.underlying5 (by kernel_rfl) hf with ⟨hcs, _⟩ | ⟨x, l, c, zs, hcs, _, hl, hm, hz, _, hcell, hwz⟩
    · simp [Value.cells] at hcs
      obtain ⟨rfl, rfl, rfl⟩ := hcs
      exact ⟨[], .inl ⟨rfl, rfl, rfl, rfl⟩⟩
    · simp [Value.cells] at hcs
      obtain ⟨rfl, rfl, rfl⟩ := hcs
      exact ⟨zs, .inr ⟨_, rfl, hl, hm, by simpa using hz, hcell, hwz⟩⟩
  clear hA0 hval0 hval hA hV hV0
  have hh := hdl_of_laid hL
  have hw := walk aa0 la0 ca0 za0 aa1 la1 ca1 za1 W hh wa0 wa1  
  refine hw.mono fun e W' ⟨he, bel⟩ => ?_
  subst he
  exact ⟨_, rfl, _, _, _, [], _, [], hW', trodAll_mk1 (shut_bool Tryz.underlying4 _), (trodAll_cons_mk (Below.trod laidOutK (by kernel_rfl) (of_decide_eq_true (by kernel_rfl)) k0 bel lt0) (trodAll_cons_mk (Below.trod laidOutK (by kernel_rfl) (of_decide_eq_true (by kernel_rfl)) k1 bel lt1) trodAll_mk0)), rfl, bel.frame _, fun h => by cases h⟩

theorem over : Rows.fnNumTopRow.holds Tryz.pinned (OpenSpec.ofChange Rows.fnNumTopSpec) :=
  OpenClaim.holds_of_wide 3 Tryz.f3 rfl rfl rfl rfl rfl rfl rfl ⟨rfl, rfl, rfl, rfl, rfl⟩ rfl rfl rfl rfl rfl (by kernel_rfl) Tryz.func3 (by kernel_rfl)
    (of_decide_eq_true (by kernel_rfl)) (by unfold Func.isWrapper; first | (rw [if_pos (by decide +kernel)]; kernel_rfl) | (rw [if_neg (by decide +kernel)]; exact ⟨rfl, rfl⟩))
    (fun os started H enc _ => lifted os started H enc)

theorem card : Rows.FnNumTopCardSaid :=
  Claim7.holds_tied_plain_at .later [] [.handle] true Rows.fnNumTopCard.stood.harness true
    over (fun _ h => by cases h) (by kernel_rfl) (fun _ h => by cases h) fnNumTop_row_tie rfl ⟨rfl, rfl⟩ (by kernel_rfl) rfl
    (fun f fn hf hfn => by
      obtain rfl : f = 3 := Option.some.inj ((show Tryz.prog.funcNamed Rows.fnNumTopRow.func = some 3 by kernel_rfl).symm.trans hf) |>.symm
      obtain rfl : fn = Tryz.f3 := (Option.some.inj (Tryz.func3.symm.trans hfn)).symm
      exact ⟨by kernel_rfl, fun j t ht => by
        rw [Tryz.params3] at ht
        have h3 : t = 22 := by
          rcases j with _ | j
          · simp at ht; subst ht; simp
          rcases j with _ | j
          · simp at ht; subst ht; simp
          simp at ht
        rcases h3 with rfl
        · exact (show Tryz.prog.wantsStandIn 22 = false by kernel_rfl)
      ⟩)
    (by kernel_rfl)
end fnNumTop
theorem fnNumTop_holds : Rows.FnNumTopCardSaid := fnNumTop.card
#print axioms fnNumTop_holds
end Go.Proofs.YthokphoojmpajaaGreatDoor
