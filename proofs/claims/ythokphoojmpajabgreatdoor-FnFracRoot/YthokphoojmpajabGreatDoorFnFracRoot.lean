/- For every slice of bytes the law FnFracRoot returns true and leaves its argument as it was; no condition beyond the row's own (the listed variable, tied by the card). -/
import Derived.Test.YthokphoojmpajabGreatDoorCards
import Derived.Test.YthokphoojmpajabGreatDoorTie
import Derived.Test.YthokphoojmpajabGreatDoorFracOpen
import Derived.Test.YthokphoojmpajabGreatDoorLaid
import Derived.Test.YthokphoojmpajabGreatDoorTopR
import Derived.Test.YthokphoojmpajabGreatDoorGPw
import Derived.ChangeVars
import Derived.ChangeSame
import Derived.LaidHandle
import Derived.SevenTiedAt
import Derived.OpenShut
import Derived.Deep.Cut
import Derived.Deep.RegionHeld3
namespace Go.Proofs.YthokphoojmpajabGreatDoor
namespace fnFracRoot
open Go.ChangeShapes Go.WideShapes Go.ChangeAt Go.RowKit Go.Proofs.Pin

theorem cellR_big {B i : Nat} {V W : World} {v : Option Value} (hb : Below V.heap.size V W) (hB : B < V.heap.size) (h : V.drew.cell? ⟨B, i, none⟩ = v) : W.cell? ⟨B, i, none⟩ = v := (hb.cell (p := ⟨B, i, none⟩) hB).trans h
theorem cellR_new {B i : Nat} {V W : World} {v : Option Value} {o : Obj} (hb : Below V.heap.size V W) (hB : B < V.heap.size) (h : V.drew.cell? ⟨B, i, none⟩ = v) : (W.alloc o).cell? ⟨B, i, none⟩ = v := by
  rw [World.cell?_alloc_lt _ _ _ (Nat.lt_of_lt_of_le hB hb.size)]
  exact cellR_big hb hB h

set_option maxRecDepth 200000 in
set_option maxHeartbeats 64000000 in
theorem walk (a0 : Option Addr) (len0 cap0 : Nat) (z0 : List Int) (w : World) (hh : Hdl w) (w0 : IsRow .u8 w a0 len0 cap0 z0) :
    Calls Tryz.prog 3 #[.slice a0 len0 cap0] w fun e w' => e = .returned (.bool true) ∧ Below w.heap.size w w' := by
  obtain ⟨h1, h2, h3, h4⟩ := isRow_u8b w0
  clear w0
  by_cases hb0 : (1048576 : Int) < (len0 : Int)
  · go_enter Tryz.func3, Tryz.ntmps3
    go_wp2
    go_ret
    exact ⟨rfl, Below.refl _ _⟩
  have C0 : Hid _ := drawFracRoot_any a0 len0 cap0 _ w h1 h2 h3 (by omega) h4
  have hl0 : (len0 : Int) ≤ 1048576 := by omega
  have HH : Hid (Hdl w) := hh
  have ADD : Hid _ := topAdd
  have MUL : Hid _ := topMul
  have ROOT : Hid _ := topRoot
  have SROOT : Hid _ := topsRoot
  have ABS : Hid _ := topAbs
  have FLO : Hid _ := topFloor
  have CMP : Hid _ := topCmp
  have OK : Hid _ := topOk
  have PW : Hid _ := topPw
  have SG : Hid _ := topSg
  have ONE : Hid _ := topInt1
  have SAME : Hid (∀ (W : World) (r r' : Option Addr) (c c' : Nat) (Z : List Int), Sl W r Z → Sl W r' Z → Z.length ≤ 300 → Calls Tryz.prog 17 #[.slice r Z.length c, .slice r' Z.length c'] W fun e w' => e = .returned (.bool true) ∧ Below W.heap.size W w') := fun W r r' c c' Z h1 h2 h3 => (same_any r r' c c' Z Z W h1 h2 (by omega) (by omega)).mono fun e w' ⟨h, q, hq⟩ => ⟨by rw [h]; simp, by rw [hq]; exact below_dN (Below.refl _ _) q⟩
  unfold fracV at C0 ADD MUL ROOT SROOT ABS FLO CMP OK PW SG ONE
  clear h1 h2 h3 h4 hh
  go_enter Tryz.func3, Tryz.ntmps3
  go_wp2_with fail
  refine Calls.mono C0.out ?_
  rintro e w1 ⟨F, rF, sF, cF, dF, rfl, hFok', FF1, B1⟩
  have hFok : Hid (F.ok = true) := hFok'
  clear C0 hFok'
  obtain ⟨w2, hw2⟩ : ∃ w2, w2 = w1.alloc (.cells #[.bool F.b, .slice rF F.X.length cF, .slice sF F.Y.length dF] 25) := ⟨_, rfl⟩
  obtain ⟨gF, hgF⟩ : ∃ gF, gF = w1.heap.size := ⟨_, rfl⟩
  have b2 : Below w1.heap.size w1 w2 := by rw [hw2]; exact (Below.refl _ w1).alloc (Nat.le_refl _) _
  have kF2 : BoxC w2 gF 25 #[.bool F.b, .slice rF F.X.length cF, .slice sF F.Y.length dF] := by rw [hw2, hgF]; exact boxc_new _ _ _
  have FF2 := FF1.keep b2
  have B2 := B1.trans (b2.mono B1.size)
  clear FF1 B1 b2
  go_upto_region 4 with fail
  rw [← hw2, ← hgF]
  clear hw2 hgF
  obtain ⟨R, hqR⟩ : ∃ R, R = op1F rootA F := ⟨_, rfl⟩
  have hR : Hid (R = op1F rootA F) := hqR
  clear hqR
  obtain ⟨Q, hqQ⟩ : ∃ Q, Q = opF mulA F F := ⟨_, rfl⟩
  have hQ : Hid (Q = opF mulA F F) := hqQ
  clear hqQ
  obtain ⟨AB, hqAB⟩ : ∃ AB, AB = op1F absA F := ⟨_, rfl⟩
  have hAB : Hid (AB = op1F absA F) := hqAB
  clear hqAB
  obtain ⟨N, hqN⟩ : ∃ N, N = op1F floorA F := ⟨_, rfl⟩
  have hN : Hid (N = op1F floorA F) := hqN
  clear hqN
  obtain ⟨U, hqU⟩ : ∃ U, U = opF addA N oneA := ⟨_, rfl⟩
  have hU : Hid (U = opF addA N oneA) := hqU
  clear hqU
  have hd2 := Hdl.keep HH.out B2 (Hdl.pos HH.out)
  obtain ⟨kFc0, kFc1, kFc2, _, kFcn⟩ := boxc3 kF2
  go_wp2_with fail
  refine Calls.mono (ROOT.out _ _ R _ _ _ _ hR.out hd2 FF2) ?_
  rintro e w3 ⟨rR, sR, cR, dR, rfl, FR3, bq⟩
  clear kFc0 kFc1 kFc2
  clear hd2
  have FF3 := FF2.keep bq
  have kF3 := boxc_keep kF2 bq
  have B3 := B2.trans (bq.mono B2.size)
  clear FF2 kF2 B2 bq
  obtain ⟨w4, hw4⟩ : ∃ w4, w4 = w3.alloc (.cells #[.bool R.b, .slice rR R.X.length cR, .slice sR R.Y.length dR] 25) := ⟨_, rfl⟩
  obtain ⟨gR, hgR⟩ : ∃ gR, gR = w3.heap.size := ⟨_, rfl⟩
  have b4 : Below w3.heap.size w3 w4 := by rw [hw4]; exact (Below.refl _ w3).alloc (Nat.le_refl _) _
  have kR4 : BoxC w4 gR 25 #[.bool R.b, .slice rR R.X.length cR, .slice sR R.Y.length dR] := by rw [hw4, hgR]; exact boxc_new _ _ _
  have FF4 := FF3.keep b4
  have kF4 := boxc_keep kF3 b4
  have FR4 := FR3.keep b4
  have B4 := B3.trans (b4.mono B3.size)
  clear FF3 kF3 FR3 B3 b4
  go_upto_region 5 with fail
  rw [← hw4, ← hgR]
  clear hw4 hgR
  obtain ⟨kFc0, kFc1, kFc2, _, kFcn⟩ := boxc3 kF4
  go_wp2_with fail
  refine Calls.mono (SROOT.out _ _ R _ _ _ _ hR.out FF4) ?_
  rintro e w5 ⟨rW, sW, cW, dW, rfl, FW5, bq⟩
  clear kFc0 kFc1 kFc2
  have FF5 := FF4.keep bq
  have kF5 := boxc_keep kF4 bq
  have FR5 := FR4.keep bq
  have kR5 := boxc_keep kR4 bq
  have B5 := B4.trans (bq.mono B4.size)
  clear FF4 kF4 FR4 kR4 B4 bq
  obtain ⟨w6, hw6⟩ : ∃ w6, w6 = w5.alloc (.cells #[.bool R.b, .slice rW R.X.length cW, .slice sW R.Y.length dW] 25) := ⟨_, rfl⟩
  obtain ⟨gW, hgW⟩ : ∃ gW, gW = w5.heap.size := ⟨_, rfl⟩
  have b6 : Below w5.heap.size w5 w6 := by rw [hw6]; exact (Below.refl _ w5).alloc (Nat.le_refl _) _
  have kW6 : BoxC w6 gW 25 #[.bool R.b, .slice rW R.X.length cW, .slice sW R.Y.length dW] := by rw [hw6, hgW]; exact boxc_new _ _ _
  have FF6 := FF5.keep b6
  have kF6 := boxc_keep kF5 b6
  have FR6 := FR5.keep b6
  have kR6 := boxc_keep kR5 b6
  have FW6 := FW5.keep b6
  have B6 := B5.trans (b6.mono B5.size)
  clear FF5 kF5 FR5 kR5 FW5 B5 b6
  go_upto_region 6 with fail
  rw [← hw6, ← hgW]
  clear hw6 hgW
  have neR : (R.ok != R.ok) = false := by simp
  go_upto_region 8 with fail
  clear neR
  clear kW6 FW6
  cases okR : R.ok with
  | false =>
    clear kR6 FR6
    go_upto_region 12 with fail
    have hd6 := Hdl.keep HH.out B6 (Hdl.pos HH.out)
    obtain ⟨kFc0, kFc1, kFc2, _, kFcn⟩ := boxc3 kF6
    go_wp2_with fail
    refine Calls.mono (MUL.out _ _ _ Q _ _ _ _ _ _ _ _ hQ.out hd6 FF6 FF6) ?_
    rintro e w7 ⟨rQ, sQ, cQ, dQ, rfl, FQ7, bq⟩
    clear kFc0 kFc1 kFc2
    clear hd6
    have FF7 := FF6.keep bq
    have kF7 := boxc_keep kF6 bq
    have B7 := B6.trans (bq.mono B6.size)
    clear FF6 kF6 B6 bq
    obtain ⟨w8, hw8⟩ : ∃ w8, w8 = w7.alloc (.cells #[.bool Q.b, .slice rQ Q.X.length cQ, .slice sQ Q.Y.length dQ] 25) := ⟨_, rfl⟩
    obtain ⟨gQ, hgQ⟩ : ∃ gQ, gQ = w7.heap.size := ⟨_, rfl⟩
    have b8 : Below w7.heap.size w7 w8 := by rw [hw8]; exact (Below.refl _ w7).alloc (Nat.le_refl _) _
    have kQ8 : BoxC w8 gQ 25 #[.bool Q.b, .slice rQ Q.X.length cQ, .slice sQ Q.Y.length dQ] := by rw [hw8, hgQ]; exact boxc_new _ _ _
    have FF8 := FF7.keep b8
    have kF8 := boxc_keep kF7 b8
    have FQ8 := FQ7.keep b8
    have B8 := B7.trans (b8.mono B7.size)
    clear FF7 kF7 FQ7 B7 b8
    go_upto_region 13 with fail
    rw [← hw8, ← hgQ]
    clear hw8 hgQ
    cases okQ : Q.ok with
    | false =>
      clear kQ8 FQ8
      go_upto_region 18 with fail
      have hd8 := Hdl.keep HH.out B8 (Hdl.pos HH.out)
      obtain ⟨kFc0, kFc1, kFc2, _, kFcn⟩ := boxc3 kF8
      go_wp2_with fail
      refine Calls.mono (FLO.out _ _ N _ _ _ _ hN.out hd8 FF8) ?_
      rintro e w9 ⟨rN, sN, cN, dN, rfl, FN9, bq⟩
      clear kFc0 kFc1 kFc2
      clear hd8
      have FF9 := FF8.keep bq
      have kF9 := boxc_keep kF8 bq
      have B9 := B8.trans (bq.mono B8.size)
      clear FF8 kF8 B8 bq
      obtain ⟨w10, hw10⟩ : ∃ w10, w10 = w9.alloc (.cells #[.bool N.b, .slice rN N.X.length cN, .slice sN N.Y.length dN] 25) := ⟨_, rfl⟩
      obtain ⟨gN, hgN⟩ : ∃ gN, gN = w9.heap.size := ⟨_, rfl⟩
      have b10 : Below w9.heap.size w9 w10 := by rw [hw10]; exact (Below.refl _ w9).alloc (Nat.le_refl _) _
      have kN10 : BoxC w10 gN 25 #[.bool N.b, .slice rN N.X.length cN, .slice sN N.Y.length dN] := by rw [hw10, hgN]; exact boxc_new _ _ _
      have FF10 := FF9.keep b10
      have kF10 := boxc_keep kF9 b10
      have FN10 := FN9.keep b10
      have B10 := B9.trans (b10.mono B9.size)
      clear FF9 kF9 FN9 B9 b10
      go_upto_region 19 with fail
      rw [← hw10, ← hgN]
      clear hw10 hgN
      obtain ⟨kFc0, kFc1, kFc2, _, kFcn⟩ := boxc3 kF10
      go_wp2_with fail
      refine Calls.mono (OK.out _ _ _ _ _ _ FF10) ?_
      rintro e w11 ⟨rfl, bq⟩
      clear kFc0 kFc1 kFc2
      have FF11 := FF10.keep bq
      have kF11 := boxc_keep kF10 bq
      have FN11 := FN10.keep bq
      have kN11 := boxc_keep kN10 bq
      have B11 := B10.trans (bq.mono B10.size)
      clear FF10 kF10 FN10 kN10 B10 bq
      cases hk : fokB F.b F.X F.Y with
      | false =>
        have f1 := floor_no hk
        rw [← hN.out, ← hQ.out] at f1
        have okN := f1.1
        try rw [okN]
        clear f1 hk
        have HBB : Hid (Below w.heap.size w w11) := B11
        clear ADD MUL ROOT SROOT ABS FLO CMP OK PW SG ONE SAME hR hQ hAB hN hU hFok HH FF11 kF11 FN11 kN11 B11
        go_wp2
        go_ret
        exact ⟨rfl, HBB.out⟩
      | true =>
        have f1 := floor_yes hk
        rw [← hN.out, ← hU.out] at f1
        obtain ⟨okN, hNY, hcm, hup⟩ := f1
        try rw [okN]
        have HUP : Hid _ := hup
        have HCM : Hid _ := hcm
        have HNY : Hid (N.Y = [1]) := hNY
        clear hup hcm hNY hk
        go_upto_region 23 with fail
        obtain ⟨nc0, nc1, nc2, _, ncn⟩ := boxc3 kN11
        have n0d : w11.drew.cell? ⟨gN, 0, none⟩ = some (.bool N.b) := nc0
        have n1d : w11.drew.cell? ⟨gN, 1, none⟩ = some (.slice rN N.X.length cN) := nc1
        have n2d : w11.drew.cell? ⟨gN, 2, none⟩ = some (.slice sN N.Y.length dN) := nc2
        have bA : Below w11.heap.size w11 (w11.alloc (.cells #[.bool false, .slice none 0 0, .slice none 0 0] 25)).drew := ((Below.refl _ w11).alloc (Nat.le_refl _) _).drew
        have bD : Below w11.heap.size w11 w11.drew := (Below.refl _ w11).drew
        have HB11 : Hid (Below w.heap.size w w11) := B11
        clear nc0 nc1 nc2
        have HN11 : Hid (FrR w11 N rN sN cN dN) := FN11
        have HFF11 : Hid (FrR w11 F rF sF cF dF) := FF11
        have HKF : Hid (BoxC w11 gF 25 #[.bool F.b, .slice rF F.X.length cF, .slice sF F.Y.length dF]) := kF11
        have HKN : Hid (BoxC w11 gN 25 #[.bool N.b, .slice rN N.X.length cN, .slice sN N.Y.length dN]) := kN11
        clear B11 FF11 kF11 FN11 kN11
        go_cut [18, 19] from 100 to 106 (fun v u wx => ∃ g r c s d, v = .pointer (some ⟨g, 0, none⟩) ∧ u = .bool U.ok ∧ BoxC wx g 25 #[.bool U.b, .slice r U.X.length c, .slice s U.Y.length d] ∧ FrR wx U r s c d ∧ Below w11.heap.size w11 wx)
        case first =>
          go_region_held3 (fun w' => w'.cell? ⟨gN, 0, none⟩ = some (.bool N.b) ∧ w'.cell? ⟨gN, 1, none⟩ = some (.slice rN N.X.length cN) ∧ w'.cell? ⟨gN, 2, none⟩ = some (.slice sN N.Y.length dN))
            (first
              | (with_reducible exact ⟨n0d, n1d, n2d⟩)
              | (go_split_ands; refine ⟨?_, ?_, ?_⟩ <;> first
                | (with_reducible exact keep_set3 (by assumption) (by omega) _ _ _)
                | (with_reducible exact cellR_big bS (by omega) (by assumption))
                | (with_reducible exact cellR_big bR (by omega) (by assumption))
                | (with_reducible exact cellR_big bA (by omega) (by assumption))
                | (with_reducible exact cellR_new bS (by omega) (by assumption))
                | (with_reducible exact cellR_new bR (by omega) (by assumption))))
            (first
              | (go_at_call 15; first
                | ((with_reducible refine Calls.mono (ONE.out w11.drew) ?_); rintro e wr ⟨r1, s1, c1, d1, rfl, F1, br⟩; have bR : Below w11.heap.size w11 wr := below_un2 br; have zR : w11.heap.size ≤ wr.heap.size := bR.size)
                | ((with_reducible refine Calls.mono (ONE.out (w11.alloc (.cells #[.bool false, .slice none 0 0, .slice none 0 0] 25)).drew) ?_); rintro e wr ⟨r1, s1, c1, d1, rfl, F1, br⟩; have bR : Below w11.heap.size w11 wr := bA.trans (br.mono bA.size); have zR : w11.heap.size ≤ wr.heap.size := bR.size; have kz := boxc_keep (boxc_new w11 25 #[.bool false, .slice none 0 0, .slice none 0 0]) (below_un2 br)))
              | (go_at_call 14; first
                | ((with_reducible refine Calls.mono (ADD.out wr _ _ U _ _ _ _ _ _ _ _ hU.out ?_ ?_ ?_) ?_); (exact Hdl.keep HH.out (HB11.out.trans (bR.mono (by exact HB11.out.size))) (Hdl.pos HH.out)); (exact FrR.keep HN11.out bR); (exact F1); rintro e ws ⟨rU, sU, cU, dU, rfl, FU, bs⟩; have bS : Below w11.heap.size w11 ws := bR.trans (bs.mono bR.size); have zS : wr.heap.size ≤ ws.heap.size := bs.size; try (have hz := boxc_lt kz; have kz := boxc_keep kz bs); try (obtain ⟨d0, d1', d2, df, dn⟩ := boxc3 kz))
                | ((with_reducible refine Calls.mono (ADD.out (wr.alloc (.cells #[.bool false, .slice none 0 0, .slice none 0 0] 25)) _ _ U _ _ _ _ _ _ _ _ hU.out ?_ ?_ ?_) ?_); (exact Hdl.keep HH.out ((HB11.out.trans (bR.mono (by exact HB11.out.size))).alloc (HB11.out.trans (bR.mono (by exact HB11.out.size))).size _) (Hdl.pos HH.out)); (exact FrR.keep (FrR.keep HN11.out bR) ((Below.refl _ wr).alloc (Nat.le_refl _) _)); (exact FrR.keep F1 ((Below.refl _ wr).alloc (Nat.le_refl _) _)); rintro e ws ⟨rU, sU, cU, dU, rfl, FU, bs⟩; have bs2 : Below wr.heap.size wr ws := ((Below.refl _ wr).alloc (Nat.le_refl _) _).trans (bs.mono (by simp)); have bS : Below w11.heap.size w11 ws := bR.trans (bs2.mono bR.size); have zS : wr.heap.size ≤ ws.heap.size := bs2.size; have kz := boxc_keep (boxc_new wr 25 #[.bool false, .slice none 0 0, .slice none 0 0]) bs; obtain ⟨d0, d1', d2, df, dn⟩ := boxc3 kz)))
          all_goals
            go_wp2_with fail
            go_meet
            first
              | exact ⟨_, _, _, _, _, rfl, rfl, boxc_set2 (boxc_set1 (boxc_set0 kz _) _) _, FrR.put FU kz _ _ _, below_set3 bS (by omega) _ _ _⟩
              | exact ⟨_, _, _, _, _, rfl, rfl, boxc_new _ _ _, FU.keep ((Below.refl _ ws).alloc (Nat.le_refl _) _), bS.alloc bS.size _⟩
        case rest =>
          obtain ⟨gU, rU, cU, sU, dU, rfl, rfl, kU0, FU0, bU⟩ := hcut
          clear n0d n1d n2d bA bD ONE ADD
          obtain ⟨w12, hw12⟩ : ∃ w12, w12 = wc := ⟨_, rfl⟩
          rw [← hw12] at kU0 FU0 bU ⊢
          clear hw12
          have kU12 := kU0
          have FU12 := FU0
          have kN12 := boxc_keep HKN.out bU
          have kF12 := boxc_keep HKF.out bU
          have FN12 := FrR.keep HN11.out bU
          have FF12 := FrR.keep HFF11.out bU
          have B12 := HB11.out.trans (bU.mono (by exact HB11.out.size))
          clear kU0 FU0 bU HKN HKF HN11 HFF11 HB11
          have SAME1 : Hid (∀ W r' c', FrR W N rN sN cN dN → Sl W r' [1] → Calls Tryz.prog 17 #[.slice sN N.Y.length dN, .slice r' 1 c'] W fun e w' => e = .returned (.bool true) ∧ Below W.heap.size W w') := by
            intro W r' c' h1 h2
            have h3 := h1.2.1
            rw [HNY.out] at h3 ⊢
            exact SAME.out W sN r' dN c' [1] h3 h2 (by decide)
          have hd12 := Hdl.keep HH.out B12 (Hdl.pos HH.out)
          obtain ⟨kNc0, kNc1, kNc2, _, kNcn⟩ := boxc3 kN12
          obtain ⟨kFc0, kFc1, kFc2, _, kFcn⟩ := boxc3 kF12
          go_wp2_with fail
          refine Calls.mono (CMP.out _ _ _ _ _ _ _ _ _ _ _ hd12 FN12 FF12) ?_
          rintro e w13 ⟨rfl, bq⟩
          clear kNc0 kNc1 kNc2 kFc0 kFc1 kFc2
          clear hd12
          have kU13 := boxc_keep kU12 bq
          have FU13 := FU12.keep bq
          have kN13 := boxc_keep kN12 bq
          have FN13 := FN12.keep bq
          have kF13 := boxc_keep kF12 bq
          have FF13 := FF12.keep bq
          have B13 := B12.trans (bq.mono B12.size)
          clear kU12 FU12 kN12 FN12 kF12 FF12 B12 bq
          obtain ⟨m1, hm1⟩ : ∃ m1, m1 = cmA N.b N.X N.Y F.b F.X F.Y := ⟨_, rfl⟩
          have hm0 : m1 ≤ 0 := by rw [hm1]; exact HCM.out
          rw [← hm1]
          clear hm1 HCM
          cases okU : U.ok with
          | false =>
            obtain ⟨wl, hwl⟩ : ∃ wl, wl = w13.alloc (.cells #[.int .i64 1] 3) := ⟨_, rfl⟩
            have bl : Below w13.heap.size w13 wl := by rw [hwl]; exact (Below.refl _ w13).alloc (Nat.le_refl _) _
            have ol : OwnI wl w13.heap.size (some ⟨w13.heap.size, 0, none⟩) 1 [1] := by rw [hwl]; exact own_lit w13 1
            have FNl := FN13.keep bl
            have Bl := B13.trans (bl.mono B13.size)
            obtain ⟨kNc0, kNc1, kNc2, _, kNcn⟩ := boxc3 kN13
            go_wp2_with fail
            rw [← hwl]
            clear hwl
            refine Calls.mono (SAME1.out _ _ _ FNl ol.sl) ?_
            rintro e wz ⟨rfl, bz⟩
            have HBB : Hid (Below w.heap.size w wz) := Bl.trans (bz.mono Bl.size)
            clear MUL ROOT SROOT ABS FLO CMP OK PW SG SAME SAME1 hR hQ hAB hN hU hFok HH HUP HNY FNl ol bl bz Bl kU13 FU13 kN13 FN13 kF13 FF13 B13
            clear kNc0 kNc1 kNc2
            go_wp2
            go_ret
            exact ⟨rfl, HBB.out⟩
          | true =>
            have hmm := HUP.out okU
            have hd13 := Hdl.keep HH.out B13 (Hdl.pos HH.out)
            obtain ⟨kFc0, kFc1, kFc2, _, kFcn⟩ := boxc3 kF13
            obtain ⟨kUc0, kUc1, kUc2, _, kUcn⟩ := boxc3 kU13
            go_wp2_with fail
            refine Calls.mono (CMP.out _ _ _ _ _ _ _ _ _ _ _ hd13 FF13 FU13) ?_
            rw [hmm]
            rintro e w14 ⟨rfl, bq⟩
            clear kFc0 kFc1 kFc2 kUc0 kUc1 kUc2
            clear hd13 hmm
            have kU14 := boxc_keep kU13 bq
            have FU14 := FU13.keep bq
            have kN14 := boxc_keep kN13 bq
            have FN14 := FN13.keep bq
            have kF14 := boxc_keep kF13 bq
            have FF14 := FF13.keep bq
            have B14 := B13.trans (bq.mono B13.size)
            clear kU13 FU13 kN13 FN13 kF13 FF13 B13 bq
            obtain ⟨wl, hwl⟩ : ∃ wl, wl = w14.alloc (.cells #[.int .i64 1] 3) := ⟨_, rfl⟩
            have bl : Below w14.heap.size w14 wl := by rw [hwl]; exact (Below.refl _ w14).alloc (Nat.le_refl _) _
            have ol : OwnI wl w14.heap.size (some ⟨w14.heap.size, 0, none⟩) 1 [1] := by rw [hwl]; exact own_lit w14 1
            have FNl := FN14.keep bl
            have Bl := B14.trans (bl.mono B14.size)
            obtain ⟨kNc0, kNc1, kNc2, _, kNcn⟩ := boxc3 kN14
            go_wp2_with fail
            rw [← hwl]
            clear hwl
            refine Calls.mono (SAME1.out _ _ _ FNl ol.sl) ?_
            rintro e wz ⟨rfl, bz⟩
            have HBB : Hid (Below w.heap.size w wz) := Bl.trans (bz.mono Bl.size)
            clear MUL ROOT SROOT ABS FLO CMP OK PW SG SAME SAME1 hR hQ hAB hN hU hFok HH HUP HNY FNl ol bl bz Bl kU14 FU14 kN14 FN14 kF14 FF14 B14
            clear kNc0 kNc1 kNc2
            go_wp2
            go_ret
            exact ⟨rfl, HBB.out⟩
    | true =>
      have r2 := root_two (F := F) (by rw [← hQ.out]; exact okQ)
      rw [← hQ.out, ← hAB.out] at r2
      have hd8 := Hdl.keep HH.out B8 (Hdl.pos HH.out)
      obtain ⟨kQc0, kQc1, kQc2, _, kQcn⟩ := boxc3 kQ8
      go_wp2_with fail
      refine Calls.mono (ROOT.out _ _ AB _ _ _ _ r2.1.symm hd8 FQ8) ?_
      rintro e w9 ⟨rT, sT, cT, dT, rfl, FT9, bq⟩
      clear kQc0 kQc1 kQc2
      clear hd8
      have FF9 := FF8.keep bq
      have kF9 := boxc_keep kF8 bq
      have FQ9 := FQ8.keep bq
      have kQ9 := boxc_keep kQ8 bq
      have B9 := B8.trans (bq.mono B8.size)
      clear FF8 kF8 FQ8 kQ8 B8 bq
      obtain ⟨w10, hw10⟩ : ∃ w10, w10 = w9.alloc (.cells #[.bool AB.b, .slice rT AB.X.length cT, .slice sT AB.Y.length dT] 25) := ⟨_, rfl⟩
      obtain ⟨gT, hgT⟩ : ∃ gT, gT = w9.heap.size := ⟨_, rfl⟩
      have b10 : Below w9.heap.size w9 w10 := by rw [hw10]; exact (Below.refl _ w9).alloc (Nat.le_refl _) _
      have kT10 : BoxC w10 gT 25 #[.bool AB.b, .slice rT AB.X.length cT, .slice sT AB.Y.length dT] := by rw [hw10, hgT]; exact boxc_new _ _ _
      have FF10 := FF9.keep b10
      have kF10 := boxc_keep kF9 b10
      have FQ10 := FQ9.keep b10
      have kQ10 := boxc_keep kQ9 b10
      have FT10 := FT9.keep b10
      have B10 := B9.trans (b10.mono B9.size)
      clear FF9 kF9 FQ9 kQ9 FT9 B9 b10
      go_upto_region 15 with fail
      rw [← hw10, ← hgT]
      clear hw10 hgT
      have hd10 := Hdl.keep HH.out B10 (Hdl.pos HH.out)
      obtain ⟨kFc0, kFc1, kFc2, _, kFcn⟩ := boxc3 kF10
      go_wp2_with fail
      refine Calls.mono (ABS.out _ _ AB _ _ _ _ hAB.out hd10 FF10) ?_
      rintro e w11 ⟨rU2, sU2, cU2, dU2, rfl, FU211, bq⟩
      clear kFc0 kFc1 kFc2
      clear hd10
      have FF11 := FF10.keep bq
      have kF11 := boxc_keep kF10 bq
      have FQ11 := FQ10.keep bq
      have kQ11 := boxc_keep kQ10 bq
      have FT11 := FT10.keep bq
      have kT11 := boxc_keep kT10 bq
      have B11 := B10.trans (bq.mono B10.size)
      clear FF10 kF10 FQ10 kQ10 FT10 kT10 B10 bq
      obtain ⟨w12, hw12⟩ : ∃ w12, w12 = w11.alloc (.cells #[.bool AB.b, .slice rU2 AB.X.length cU2, .slice sU2 AB.Y.length dU2] 25) := ⟨_, rfl⟩
      obtain ⟨gU2, hgU2⟩ : ∃ gU2, gU2 = w11.heap.size := ⟨_, rfl⟩
      have b12 : Below w11.heap.size w11 w12 := by rw [hw12]; exact (Below.refl _ w11).alloc (Nat.le_refl _) _
      have kU212 : BoxC w12 gU2 25 #[.bool AB.b, .slice rU2 AB.X.length cU2, .slice sU2 AB.Y.length dU2] := by rw [hw12, hgU2]; exact boxc_new _ _ _
      have FF12 := FF11.keep b12
      have kF12 := boxc_keep kF11 b12
      have FQ12 := FQ11.keep b12
      have kQ12 := boxc_keep kQ11 b12
      have FT12 := FT11.keep b12
      have kT12 := boxc_keep kT11 b12
      have FU212 := FU211.keep b12
      have B12 := B11.trans (b12.mono B11.size)
      clear FF11 kF11 FQ11 kQ11 FT11 kT11 FU211 B11 b12
      go_upto_region 16 with fail
      rw [← hw12, ← hgU2]
      clear hw12 hgU2
      have okAB := r2.2
      try rw [okAB]
      clear okAB r2
      obtain ⟨kTc0, kTc1, kTc2, _, kTcn⟩ := boxc3 kT12
      obtain ⟨kU2c0, kU2c1, kU2c2, _, kU2cn⟩ := boxc3 kU212
      go_wp2_with fail
      refine Calls.mono (PW.out _ _ _ _ _ _ _ _ _ _ FT12 FU212) ?_
      rintro e w13 ⟨rfl, bq⟩
      clear kTc0 kTc1 kTc2 kU2c0 kU2c1 kU2c2
      have FF13 := FF12.keep bq
      have kF13 := boxc_keep kF12 bq
      have FQ13 := FQ12.keep bq
      have kQ13 := boxc_keep kQ12 bq
      have FT13 := FT12.keep bq
      have kT13 := boxc_keep kT12 bq
      have FU213 := FU212.keep bq
      have kU213 := boxc_keep kU212 bq
      have B13 := B12.trans (bq.mono B12.size)
      clear FF12 kF12 FQ12 kQ12 FT12 kT12 FU212 kU212 B12 bq
      clear kT13 FT13 kU213 FU213
      clear kQ13 FQ13
      go_upto_region 18 with fail
      have hd13 := Hdl.keep HH.out B13 (Hdl.pos HH.out)
      obtain ⟨kFc0, kFc1, kFc2, _, kFcn⟩ := boxc3 kF13
      go_wp2_with fail
      refine Calls.mono (FLO.out _ _ N _ _ _ _ hN.out hd13 FF13) ?_
      rintro e w14 ⟨rN, sN, cN, dN, rfl, FN14, bq⟩
      clear kFc0 kFc1 kFc2
      clear hd13
      have FF14 := FF13.keep bq
      have kF14 := boxc_keep kF13 bq
      have B14 := B13.trans (bq.mono B13.size)
      clear FF13 kF13 B13 bq
      obtain ⟨w15, hw15⟩ : ∃ w15, w15 = w14.alloc (.cells #[.bool N.b, .slice rN N.X.length cN, .slice sN N.Y.length dN] 25) := ⟨_, rfl⟩
      obtain ⟨gN, hgN⟩ : ∃ gN, gN = w14.heap.size := ⟨_, rfl⟩
      have b15 : Below w14.heap.size w14 w15 := by rw [hw15]; exact (Below.refl _ w14).alloc (Nat.le_refl _) _
      have kN15 : BoxC w15 gN 25 #[.bool N.b, .slice rN N.X.length cN, .slice sN N.Y.length dN] := by rw [hw15, hgN]; exact boxc_new _ _ _
      have FF15 := FF14.keep b15
      have kF15 := boxc_keep kF14 b15
      have FN15 := FN14.keep b15
      have B15 := B14.trans (b15.mono B14.size)
      clear FF14 kF14 FN14 B14 b15
      go_upto_region 19 with fail
      rw [← hw15, ← hgN]
      clear hw15 hgN
      obtain ⟨kFc0, kFc1, kFc2, _, kFcn⟩ := boxc3 kF15
      go_wp2_with fail
      refine Calls.mono (OK.out _ _ _ _ _ _ FF15) ?_
      rintro e w16 ⟨rfl, bq⟩
      clear kFc0 kFc1 kFc2
      have FF16 := FF15.keep bq
      have kF16 := boxc_keep kF15 bq
      have FN16 := FN15.keep bq
      have kN16 := boxc_keep kN15 bq
      have B16 := B15.trans (bq.mono B15.size)
      clear FF15 kF15 FN15 kN15 B15 bq
      cases hk : fokB F.b F.X F.Y with
      | false =>
        have f1 := floor_no hk
        rw [← hN.out, ← hQ.out] at f1
        have okN := f1.1
        try rw [okN]
        exact absurd okQ (by rw [f1.2]; decide)
      | true =>
        have f1 := floor_yes hk
        rw [← hN.out, ← hU.out] at f1
        obtain ⟨okN, hNY, hcm, hup⟩ := f1
        try rw [okN]
        have HUP : Hid _ := hup
        have HCM : Hid _ := hcm
        have HNY : Hid (N.Y = [1]) := hNY
        clear hup hcm hNY hk
        go_upto_region 23 with fail
        obtain ⟨nc0, nc1, nc2, _, ncn⟩ := boxc3 kN16
        have n0d : w16.drew.cell? ⟨gN, 0, none⟩ = some (.bool N.b) := nc0
        have n1d : w16.drew.cell? ⟨gN, 1, none⟩ = some (.slice rN N.X.length cN) := nc1
        have n2d : w16.drew.cell? ⟨gN, 2, none⟩ = some (.slice sN N.Y.length dN) := nc2
        have bA : Below w16.heap.size w16 (w16.alloc (.cells #[.bool false, .slice none 0 0, .slice none 0 0] 25)).drew := ((Below.refl _ w16).alloc (Nat.le_refl _) _).drew
        have bD : Below w16.heap.size w16 w16.drew := (Below.refl _ w16).drew
        have HB16 : Hid (Below w.heap.size w w16) := B16
        clear nc0 nc1 nc2
        have HN16 : Hid (FrR w16 N rN sN cN dN) := FN16
        have HFF16 : Hid (FrR w16 F rF sF cF dF) := FF16
        have HKF : Hid (BoxC w16 gF 25 #[.bool F.b, .slice rF F.X.length cF, .slice sF F.Y.length dF]) := kF16
        have HKN : Hid (BoxC w16 gN 25 #[.bool N.b, .slice rN N.X.length cN, .slice sN N.Y.length dN]) := kN16
        clear B16 FF16 kF16 FN16 kN16
        go_cut [18, 19] from 100 to 106 (fun v u wx => ∃ g r c s d, v = .pointer (some ⟨g, 0, none⟩) ∧ u = .bool U.ok ∧ BoxC wx g 25 #[.bool U.b, .slice r U.X.length c, .slice s U.Y.length d] ∧ FrR wx U r s c d ∧ Below w16.heap.size w16 wx)
        case first =>
          go_region_held3 (fun w' => w'.cell? ⟨gN, 0, none⟩ = some (.bool N.b) ∧ w'.cell? ⟨gN, 1, none⟩ = some (.slice rN N.X.length cN) ∧ w'.cell? ⟨gN, 2, none⟩ = some (.slice sN N.Y.length dN))
            (first
              | (with_reducible exact ⟨n0d, n1d, n2d⟩)
              | (go_split_ands; refine ⟨?_, ?_, ?_⟩ <;> first
                | (with_reducible exact keep_set3 (by assumption) (by omega) _ _ _)
                | (with_reducible exact cellR_big bS (by omega) (by assumption))
                | (with_reducible exact cellR_big bR (by omega) (by assumption))
                | (with_reducible exact cellR_big bA (by omega) (by assumption))
                | (with_reducible exact cellR_new bS (by omega) (by assumption))
                | (with_reducible exact cellR_new bR (by omega) (by assumption))))
            (first
              | (go_at_call 15; first
                | ((with_reducible refine Calls.mono (ONE.out w16.drew) ?_); rintro e wr ⟨r1, s1, c1, d1, rfl, F1, br⟩; have bR : Below w16.heap.size w16 wr := below_un2 br; have zR : w16.heap.size ≤ wr.heap.size := bR.size)
                | ((with_reducible refine Calls.mono (ONE.out (w16.alloc (.cells #[.bool false, .slice none 0 0, .slice none 0 0] 25)).drew) ?_); rintro e wr ⟨r1, s1, c1, d1, rfl, F1, br⟩; have bR : Below w16.heap.size w16 wr := bA.trans (br.mono bA.size); have zR : w16.heap.size ≤ wr.heap.size := bR.size; have kz := boxc_keep (boxc_new w16 25 #[.bool false, .slice none 0 0, .slice none 0 0]) (below_un2 br)))
              | (go_at_call 14; first
                | ((with_reducible refine Calls.mono (ADD.out wr _ _ U _ _ _ _ _ _ _ _ hU.out ?_ ?_ ?_) ?_); (exact Hdl.keep HH.out (HB16.out.trans (bR.mono (by exact HB16.out.size))) (Hdl.pos HH.out)); (exact FrR.keep HN16.out bR); (exact F1); rintro e ws ⟨rU, sU, cU, dU, rfl, FU, bs⟩; have bS : Below w16.heap.size w16 ws := bR.trans (bs.mono bR.size); have zS : wr.heap.size ≤ ws.heap.size := bs.size; try (have hz := boxc_lt kz; have kz := boxc_keep kz bs); try (obtain ⟨d0, d1', d2, df, dn⟩ := boxc3 kz))
                | ((with_reducible refine Calls.mono (ADD.out (wr.alloc (.cells #[.bool false, .slice none 0 0, .slice none 0 0] 25)) _ _ U _ _ _ _ _ _ _ _ hU.out ?_ ?_ ?_) ?_); (exact Hdl.keep HH.out ((HB16.out.trans (bR.mono (by exact HB16.out.size))).alloc (HB16.out.trans (bR.mono (by exact HB16.out.size))).size _) (Hdl.pos HH.out)); (exact FrR.keep (FrR.keep HN16.out bR) ((Below.refl _ wr).alloc (Nat.le_refl _) _)); (exact FrR.keep F1 ((Below.refl _ wr).alloc (Nat.le_refl _) _)); rintro e ws ⟨rU, sU, cU, dU, rfl, FU, bs⟩; have bs2 : Below wr.heap.size wr ws := ((Below.refl _ wr).alloc (Nat.le_refl _) _).trans (bs.mono (by simp)); have bS : Below w16.heap.size w16 ws := bR.trans (bs2.mono bR.size); have zS : wr.heap.size ≤ ws.heap.size := bs2.size; have kz := boxc_keep (boxc_new wr 25 #[.bool false, .slice none 0 0, .slice none 0 0]) bs; obtain ⟨d0, d1', d2, df, dn⟩ := boxc3 kz)))
          all_goals
            go_wp2_with fail
            go_meet
            first
              | exact ⟨_, _, _, _, _, rfl, rfl, boxc_set2 (boxc_set1 (boxc_set0 kz _) _) _, FrR.put FU kz _ _ _, below_set3 bS (by omega) _ _ _⟩
              | exact ⟨_, _, _, _, _, rfl, rfl, boxc_new _ _ _, FU.keep ((Below.refl _ ws).alloc (Nat.le_refl _) _), bS.alloc bS.size _⟩
        case rest =>
          obtain ⟨gU, rU, cU, sU, dU, rfl, rfl, kU0, FU0, bU⟩ := hcut
          clear n0d n1d n2d bA bD ONE ADD
          obtain ⟨w17, hw17⟩ : ∃ w17, w17 = wc := ⟨_, rfl⟩
          rw [← hw17] at kU0 FU0 bU ⊢
          clear hw17
          have kU17 := kU0
          have FU17 := FU0
          have kN17 := boxc_keep HKN.out bU
          have kF17 := boxc_keep HKF.out bU
          have FN17 := FrR.keep HN16.out bU
          have FF17 := FrR.keep HFF16.out bU
          have B17 := HB16.out.trans (bU.mono (by exact HB16.out.size))
          clear kU0 FU0 bU HKN HKF HN16 HFF16 HB16
          have SAME1 : Hid (∀ W r' c', FrR W N rN sN cN dN → Sl W r' [1] → Calls Tryz.prog 17 #[.slice sN N.Y.length dN, .slice r' 1 c'] W fun e w' => e = .returned (.bool true) ∧ Below W.heap.size W w') := by
            intro W r' c' h1 h2
            have h3 := h1.2.1
            rw [HNY.out] at h3 ⊢
            exact SAME.out W sN r' dN c' [1] h3 h2 (by decide)
          have hd17 := Hdl.keep HH.out B17 (Hdl.pos HH.out)
          obtain ⟨kNc0, kNc1, kNc2, _, kNcn⟩ := boxc3 kN17
          obtain ⟨kFc0, kFc1, kFc2, _, kFcn⟩ := boxc3 kF17
          go_wp2_with fail
          refine Calls.mono (CMP.out _ _ _ _ _ _ _ _ _ _ _ hd17 FN17 FF17) ?_
          rintro e w18 ⟨rfl, bq⟩
          clear kNc0 kNc1 kNc2 kFc0 kFc1 kFc2
          clear hd17
          have kU18 := boxc_keep kU17 bq
          have FU18 := FU17.keep bq
          have kN18 := boxc_keep kN17 bq
          have FN18 := FN17.keep bq
          have kF18 := boxc_keep kF17 bq
          have FF18 := FF17.keep bq
          have B18 := B17.trans (bq.mono B17.size)
          clear kU17 FU17 kN17 FN17 kF17 FF17 B17 bq
          obtain ⟨m1, hm1⟩ : ∃ m1, m1 = cmA N.b N.X N.Y F.b F.X F.Y := ⟨_, rfl⟩
          have hm0 : m1 ≤ 0 := by rw [hm1]; exact HCM.out
          rw [← hm1]
          clear hm1 HCM
          cases okU : U.ok with
          | false =>
            obtain ⟨wl, hwl⟩ : ∃ wl, wl = w18.alloc (.cells #[.int .i64 1] 3) := ⟨_, rfl⟩
            have bl : Below w18.heap.size w18 wl := by rw [hwl]; exact (Below.refl _ w18).alloc (Nat.le_refl _) _
            have ol : OwnI wl w18.heap.size (some ⟨w18.heap.size, 0, none⟩) 1 [1] := by rw [hwl]; exact own_lit w18 1
            have FNl := FN18.keep bl
            have Bl := B18.trans (bl.mono B18.size)
            obtain ⟨kNc0, kNc1, kNc2, _, kNcn⟩ := boxc3 kN18
            go_wp2_with fail
            rw [← hwl]
            clear hwl
            refine Calls.mono (SAME1.out _ _ _ FNl ol.sl) ?_
            rintro e wz ⟨rfl, bz⟩
            have HBB : Hid (Below w.heap.size w wz) := Bl.trans (bz.mono Bl.size)
            clear MUL ROOT SROOT ABS FLO CMP OK PW SG SAME SAME1 hR hQ hAB hN hU hFok HH HUP HNY FNl ol bl bz Bl kU18 FU18 kN18 FN18 kF18 FF18 B18
            clear kNc0 kNc1 kNc2
            go_wp2
            go_ret
            exact ⟨rfl, HBB.out⟩
          | true =>
            have hmm := HUP.out okU
            have hd18 := Hdl.keep HH.out B18 (Hdl.pos HH.out)
            obtain ⟨kFc0, kFc1, kFc2, _, kFcn⟩ := boxc3 kF18
            obtain ⟨kUc0, kUc1, kUc2, _, kUcn⟩ := boxc3 kU18
            go_wp2_with fail
            refine Calls.mono (CMP.out _ _ _ _ _ _ _ _ _ _ _ hd18 FF18 FU18) ?_
            rw [hmm]
            rintro e w19 ⟨rfl, bq⟩
            clear kFc0 kFc1 kFc2 kUc0 kUc1 kUc2
            clear hd18 hmm
            have kU19 := boxc_keep kU18 bq
            have FU19 := FU18.keep bq
            have kN19 := boxc_keep kN18 bq
            have FN19 := FN18.keep bq
            have kF19 := boxc_keep kF18 bq
            have FF19 := FF18.keep bq
            have B19 := B18.trans (bq.mono B18.size)
            clear kU18 FU18 kN18 FN18 kF18 FF18 B18 bq
            obtain ⟨wl, hwl⟩ : ∃ wl, wl = w19.alloc (.cells #[.int .i64 1] 3) := ⟨_, rfl⟩
            have bl : Below w19.heap.size w19 wl := by rw [hwl]; exact (Below.refl _ w19).alloc (Nat.le_refl _) _
            have ol : OwnI wl w19.heap.size (some ⟨w19.heap.size, 0, none⟩) 1 [1] := by rw [hwl]; exact own_lit w19 1
            have FNl := FN19.keep bl
            have Bl := B19.trans (bl.mono B19.size)
            obtain ⟨kNc0, kNc1, kNc2, _, kNcn⟩ := boxc3 kN19
            go_wp2_with fail
            rw [← hwl]
            clear hwl
            refine Calls.mono (SAME1.out _ _ _ FNl ol.sl) ?_
            rintro e wz ⟨rfl, bz⟩
            have HBB : Hid (Below w.heap.size w wz) := Bl.trans (bz.mono Bl.size)
            clear MUL ROOT SROOT ABS FLO CMP OK PW SG SAME SAME1 hR hQ hAB hN hU hFok HH HUP HNY FNl ol bl bz Bl kU19 FU19 kN19 FN19 kF19 FF19 B19
            clear kNc0 kNc1 kNc2
            go_wp2
            go_ret
            exact ⟨rfl, HBB.out⟩
  | true =>
    have r1 := root_one hFok.out (by rw [← hR.out]; exact okR)
    rw [← hR.out] at r1
    have hd6 := Hdl.keep HH.out B6 (Hdl.pos HH.out)
    obtain ⟨kRc0, kRc1, kRc2, _, kRcn⟩ := boxc3 kR6
    go_wp2_with fail
    refine Calls.mono (MUL.out _ _ _ F _ _ _ _ _ _ _ _ r1.1.symm hd6 FR6 FR6) ?_
    rintro e w7 ⟨rS, sS, cS, dS, rfl, FS7, bq⟩
    clear kRc0 kRc1 kRc2
    clear hd6
    have FF7 := FF6.keep bq
    have kF7 := boxc_keep kF6 bq
    have FR7 := FR6.keep bq
    have kR7 := boxc_keep kR6 bq
    have B7 := B6.trans (bq.mono B6.size)
    clear FF6 kF6 FR6 kR6 B6 bq
    obtain ⟨w8, hw8⟩ : ∃ w8, w8 = w7.alloc (.cells #[.bool F.b, .slice rS F.X.length cS, .slice sS F.Y.length dS] 25) := ⟨_, rfl⟩
    obtain ⟨gS, hgS⟩ : ∃ gS, gS = w7.heap.size := ⟨_, rfl⟩
    have b8 : Below w7.heap.size w7 w8 := by rw [hw8]; exact (Below.refl _ w7).alloc (Nat.le_refl _) _
    have kS8 : BoxC w8 gS 25 #[.bool F.b, .slice rS F.X.length cS, .slice sS F.Y.length dS] := by rw [hw8, hgS]; exact boxc_new _ _ _
    have FF8 := FF7.keep b8
    have kF8 := boxc_keep kF7 b8
    have FR8 := FR7.keep b8
    have kR8 := boxc_keep kR7 b8
    have FS8 := FS7.keep b8
    have B8 := B7.trans (b8.mono B7.size)
    clear FF7 kF7 FR7 kR7 FS7 B7 b8
    go_upto_region 10 with fail
    rw [← hw8, ← hgS]
    clear hw8 hgS
    have okF := hFok.out
    try rw [okF]
    clear okF
    obtain ⟨kSc0, kSc1, kSc2, _, kScn⟩ := boxc3 kS8
    obtain ⟨kFc0, kFc1, kFc2, _, kFcn⟩ := boxc3 kF8
    go_wp2_with fail
    refine Calls.mono (PW.out _ _ _ _ _ _ _ _ _ _ FS8 FF8) ?_
    rintro e w9 ⟨rfl, bq⟩
    clear kSc0 kSc1 kSc2 kFc0 kFc1 kFc2
    have FF9 := FF8.keep bq
    have kF9 := boxc_keep kF8 bq
    have FR9 := FR8.keep bq
    have kR9 := boxc_keep kR8 bq
    have FS9 := FS8.keep bq
    have kS9 := boxc_keep kS8 bq
    have B9 := B8.trans (bq.mono B8.size)
    clear FF8 kF8 FR8 kR8 FS8 kS8 B8 bq
    have hd9 := Hdl.keep HH.out B9 (Hdl.pos HH.out)
    obtain ⟨kRc0, kRc1, kRc2, _, kRcn⟩ := boxc3 kR9
    go_wp2_with fail
    refine Calls.mono (SG.out _ _ _ _ _ _ hd9 FR9) ?_
    rintro e w10 ⟨rfl, bq⟩
    clear kRc0 kRc1 kRc2
    clear hd9
    have FF10 := FF9.keep bq
    have kF10 := boxc_keep kF9 bq
    have FR10 := FR9.keep bq
    have kR10 := boxc_keep kR9 bq
    have FS10 := FS9.keep bq
    have kS10 := boxc_keep kS9 bq
    have B10 := B9.trans (bq.mono B9.size)
    clear FF9 kF9 FR9 kR9 FS9 kS9 B9 bq
    obtain ⟨z, hz⟩ : ∃ z, z = sgA R.b R.X R.Y := ⟨_, rfl⟩
    have hz0 : ¬ z < 0 := by rw [hz]; have := r1.2; omega
    rw [← hz]
    clear hz r1
    clear kS10 FS10
    clear kR10 FR10
    go_upto_region 12 with fail
    clear hz0
    have hd10 := Hdl.keep HH.out B10 (Hdl.pos HH.out)
    obtain ⟨kFc0, kFc1, kFc2, _, kFcn⟩ := boxc3 kF10
    go_wp2_with fail
    refine Calls.mono (MUL.out _ _ _ Q _ _ _ _ _ _ _ _ hQ.out hd10 FF10 FF10) ?_
    rintro e w11 ⟨rQ, sQ, cQ, dQ, rfl, FQ11, bq⟩
    clear kFc0 kFc1 kFc2
    clear hd10
    have FF11 := FF10.keep bq
    have kF11 := boxc_keep kF10 bq
    have B11 := B10.trans (bq.mono B10.size)
    clear FF10 kF10 B10 bq
    obtain ⟨w12, hw12⟩ : ∃ w12, w12 = w11.alloc (.cells #[.bool Q.b, .slice rQ Q.X.length cQ, .slice sQ Q.Y.length dQ] 25) := ⟨_, rfl⟩
    obtain ⟨gQ, hgQ⟩ : ∃ gQ, gQ = w11.heap.size := ⟨_, rfl⟩
    have b12 : Below w11.heap.size w11 w12 := by rw [hw12]; exact (Below.refl _ w11).alloc (Nat.le_refl _) _
    have kQ12 : BoxC w12 gQ 25 #[.bool Q.b, .slice rQ Q.X.length cQ, .slice sQ Q.Y.length dQ] := by rw [hw12, hgQ]; exact boxc_new _ _ _
    have FF12 := FF11.keep b12
    have kF12 := boxc_keep kF11 b12
    have FQ12 := FQ11.keep b12
    have B12 := B11.trans (b12.mono B11.size)
    clear FF11 kF11 FQ11 B11 b12
    go_upto_region 13 with fail
    rw [← hw12, ← hgQ]
    clear hw12 hgQ
    cases okQ : Q.ok with
    | false =>
      clear kQ12 FQ12
      go_upto_region 18 with fail
      have hd12 := Hdl.keep HH.out B12 (Hdl.pos HH.out)
      obtain ⟨kFc0, kFc1, kFc2, _, kFcn⟩ := boxc3 kF12
      go_wp2_with fail
      refine Calls.mono (FLO.out _ _ N _ _ _ _ hN.out hd12 FF12) ?_
      rintro e w13 ⟨rN, sN, cN, dN, rfl, FN13, bq⟩
      clear kFc0 kFc1 kFc2
      clear hd12
      have FF13 := FF12.keep bq
      have kF13 := boxc_keep kF12 bq
      have B13 := B12.trans (bq.mono B12.size)
      clear FF12 kF12 B12 bq
      obtain ⟨w14, hw14⟩ : ∃ w14, w14 = w13.alloc (.cells #[.bool N.b, .slice rN N.X.length cN, .slice sN N.Y.length dN] 25) := ⟨_, rfl⟩
      obtain ⟨gN, hgN⟩ : ∃ gN, gN = w13.heap.size := ⟨_, rfl⟩
      have b14 : Below w13.heap.size w13 w14 := by rw [hw14]; exact (Below.refl _ w13).alloc (Nat.le_refl _) _
      have kN14 : BoxC w14 gN 25 #[.bool N.b, .slice rN N.X.length cN, .slice sN N.Y.length dN] := by rw [hw14, hgN]; exact boxc_new _ _ _
      have FF14 := FF13.keep b14
      have kF14 := boxc_keep kF13 b14
      have FN14 := FN13.keep b14
      have B14 := B13.trans (b14.mono B13.size)
      clear FF13 kF13 FN13 B13 b14
      go_upto_region 19 with fail
      rw [← hw14, ← hgN]
      clear hw14 hgN
      obtain ⟨kFc0, kFc1, kFc2, _, kFcn⟩ := boxc3 kF14
      go_wp2_with fail
      refine Calls.mono (OK.out _ _ _ _ _ _ FF14) ?_
      rintro e w15 ⟨rfl, bq⟩
      clear kFc0 kFc1 kFc2
      have FF15 := FF14.keep bq
      have kF15 := boxc_keep kF14 bq
      have FN15 := FN14.keep bq
      have kN15 := boxc_keep kN14 bq
      have B15 := B14.trans (bq.mono B14.size)
      clear FF14 kF14 FN14 kN14 B14 bq
      cases hk : fokB F.b F.X F.Y with
      | false =>
        have f1 := floor_no hk
        rw [← hN.out, ← hQ.out] at f1
        have okN := f1.1
        try rw [okN]
        clear f1 hk
        have HBB : Hid (Below w.heap.size w w15) := B15
        clear ADD MUL ROOT SROOT ABS FLO CMP OK PW SG ONE SAME hR hQ hAB hN hU hFok HH FF15 kF15 FN15 kN15 B15
        go_wp2
        go_ret
        exact ⟨rfl, HBB.out⟩
      | true =>
        have f1 := floor_yes hk
        rw [← hN.out, ← hU.out] at f1
        obtain ⟨okN, hNY, hcm, hup⟩ := f1
        try rw [okN]
        have HUP : Hid _ := hup
        have HCM : Hid _ := hcm
        have HNY : Hid (N.Y = [1]) := hNY
        clear hup hcm hNY hk
        go_upto_region 23 with fail
        obtain ⟨nc0, nc1, nc2, _, ncn⟩ := boxc3 kN15
        have n0d : w15.drew.cell? ⟨gN, 0, none⟩ = some (.bool N.b) := nc0
        have n1d : w15.drew.cell? ⟨gN, 1, none⟩ = some (.slice rN N.X.length cN) := nc1
        have n2d : w15.drew.cell? ⟨gN, 2, none⟩ = some (.slice sN N.Y.length dN) := nc2
        have bA : Below w15.heap.size w15 (w15.alloc (.cells #[.bool false, .slice none 0 0, .slice none 0 0] 25)).drew := ((Below.refl _ w15).alloc (Nat.le_refl _) _).drew
        have bD : Below w15.heap.size w15 w15.drew := (Below.refl _ w15).drew
        have HB15 : Hid (Below w.heap.size w w15) := B15
        clear nc0 nc1 nc2
        have HN15 : Hid (FrR w15 N rN sN cN dN) := FN15
        have HFF15 : Hid (FrR w15 F rF sF cF dF) := FF15
        have HKF : Hid (BoxC w15 gF 25 #[.bool F.b, .slice rF F.X.length cF, .slice sF F.Y.length dF]) := kF15
        have HKN : Hid (BoxC w15 gN 25 #[.bool N.b, .slice rN N.X.length cN, .slice sN N.Y.length dN]) := kN15
        clear B15 FF15 kF15 FN15 kN15
        go_cut [18, 19] from 100 to 106 (fun v u wx => ∃ g r c s d, v = .pointer (some ⟨g, 0, none⟩) ∧ u = .bool U.ok ∧ BoxC wx g 25 #[.bool U.b, .slice r U.X.length c, .slice s U.Y.length d] ∧ FrR wx U r s c d ∧ Below w15.heap.size w15 wx)
        case first =>
          go_region_held3 (fun w' => w'.cell? ⟨gN, 0, none⟩ = some (.bool N.b) ∧ w'.cell? ⟨gN, 1, none⟩ = some (.slice rN N.X.length cN) ∧ w'.cell? ⟨gN, 2, none⟩ = some (.slice sN N.Y.length dN))
            (first
              | (with_reducible exact ⟨n0d, n1d, n2d⟩)
              | (go_split_ands; refine ⟨?_, ?_, ?_⟩ <;> first
                | (with_reducible exact keep_set3 (by assumption) (by omega) _ _ _)
                | (with_reducible exact cellR_big bS (by omega) (by assumption))
                | (with_reducible exact cellR_big bR (by omega) (by assumption))
                | (with_reducible exact cellR_big bA (by omega) (by assumption))
                | (with_reducible exact cellR_new bS (by omega) (by assumption))
                | (with_reducible exact cellR_new bR (by omega) (by assumption))))
            (first
              | (go_at_call 15; first
                | ((with_reducible refine Calls.mono (ONE.out w15.drew) ?_); rintro e wr ⟨r1, s1, c1, d1, rfl, F1, br⟩; have bR : Below w15.heap.size w15 wr := below_un2 br; have zR : w15.heap.size ≤ wr.heap.size := bR.size)
                | ((with_reducible refine Calls.mono (ONE.out (w15.alloc (.cells #[.bool false, .slice none 0 0, .slice none 0 0] 25)).drew) ?_); rintro e wr ⟨r1, s1, c1, d1, rfl, F1, br⟩; have bR : Below w15.heap.size w15 wr := bA.trans (br.mono bA.size); have zR : w15.heap.size ≤ wr.heap.size := bR.size; have kz := boxc_keep (boxc_new w15 25 #[.bool false, .slice none 0 0, .slice none 0 0]) (below_un2 br)))
              | (go_at_call 14; first
                | ((with_reducible refine Calls.mono (ADD.out wr _ _ U _ _ _ _ _ _ _ _ hU.out ?_ ?_ ?_) ?_); (exact Hdl.keep HH.out (HB15.out.trans (bR.mono (by exact HB15.out.size))) (Hdl.pos HH.out)); (exact FrR.keep HN15.out bR); (exact F1); rintro e ws ⟨rU, sU, cU, dU, rfl, FU, bs⟩; have bS : Below w15.heap.size w15 ws := bR.trans (bs.mono bR.size); have zS : wr.heap.size ≤ ws.heap.size := bs.size; try (have hz := boxc_lt kz; have kz := boxc_keep kz bs); try (obtain ⟨d0, d1', d2, df, dn⟩ := boxc3 kz))
                | ((with_reducible refine Calls.mono (ADD.out (wr.alloc (.cells #[.bool false, .slice none 0 0, .slice none 0 0] 25)) _ _ U _ _ _ _ _ _ _ _ hU.out ?_ ?_ ?_) ?_); (exact Hdl.keep HH.out ((HB15.out.trans (bR.mono (by exact HB15.out.size))).alloc (HB15.out.trans (bR.mono (by exact HB15.out.size))).size _) (Hdl.pos HH.out)); (exact FrR.keep (FrR.keep HN15.out bR) ((Below.refl _ wr).alloc (Nat.le_refl _) _)); (exact FrR.keep F1 ((Below.refl _ wr).alloc (Nat.le_refl _) _)); rintro e ws ⟨rU, sU, cU, dU, rfl, FU, bs⟩; have bs2 : Below wr.heap.size wr ws := ((Below.refl _ wr).alloc (Nat.le_refl _) _).trans (bs.mono (by simp)); have bS : Below w15.heap.size w15 ws := bR.trans (bs2.mono bR.size); have zS : wr.heap.size ≤ ws.heap.size := bs2.size; have kz := boxc_keep (boxc_new wr 25 #[.bool false, .slice none 0 0, .slice none 0 0]) bs; obtain ⟨d0, d1', d2, df, dn⟩ := boxc3 kz)))
          all_goals
            go_wp2_with fail
            go_meet
            first
              | exact ⟨_, _, _, _, _, rfl, rfl, boxc_set2 (boxc_set1 (boxc_set0 kz _) _) _, FrR.put FU kz _ _ _, below_set3 bS (by omega) _ _ _⟩
              | exact ⟨_, _, _, _, _, rfl, rfl, boxc_new _ _ _, FU.keep ((Below.refl _ ws).alloc (Nat.le_refl _) _), bS.alloc bS.size _⟩
        case rest =>
          obtain ⟨gU, rU, cU, sU, dU, rfl, rfl, kU0, FU0, bU⟩ := hcut
          clear n0d n1d n2d bA bD ONE ADD
          obtain ⟨w16, hw16⟩ : ∃ w16, w16 = wc := ⟨_, rfl⟩
          rw [← hw16] at kU0 FU0 bU ⊢
          clear hw16
          have kU16 := kU0
          have FU16 := FU0
          have kN16 := boxc_keep HKN.out bU
          have kF16 := boxc_keep HKF.out bU
          have FN16 := FrR.keep HN15.out bU
          have FF16 := FrR.keep HFF15.out bU
          have B16 := HB15.out.trans (bU.mono (by exact HB15.out.size))
          clear kU0 FU0 bU HKN HKF HN15 HFF15 HB15
          have SAME1 : Hid (∀ W r' c', FrR W N rN sN cN dN → Sl W r' [1] → Calls Tryz.prog 17 #[.slice sN N.Y.length dN, .slice r' 1 c'] W fun e w' => e = .returned (.bool true) ∧ Below W.heap.size W w') := by
            intro W r' c' h1 h2
            have h3 := h1.2.1
            rw [HNY.out] at h3 ⊢
            exact SAME.out W sN r' dN c' [1] h3 h2 (by decide)
          have hd16 := Hdl.keep HH.out B16 (Hdl.pos HH.out)
          obtain ⟨kNc0, kNc1, kNc2, _, kNcn⟩ := boxc3 kN16
          obtain ⟨kFc0, kFc1, kFc2, _, kFcn⟩ := boxc3 kF16
          go_wp2_with fail
          refine Calls.mono (CMP.out _ _ _ _ _ _ _ _ _ _ _ hd16 FN16 FF16) ?_
          rintro e w17 ⟨rfl, bq⟩
          clear kNc0 kNc1 kNc2 kFc0 kFc1 kFc2
          clear hd16
          have kU17 := boxc_keep kU16 bq
          have FU17 := FU16.keep bq
          have kN17 := boxc_keep kN16 bq
          have FN17 := FN16.keep bq
          have kF17 := boxc_keep kF16 bq
          have FF17 := FF16.keep bq
          have B17 := B16.trans (bq.mono B16.size)
          clear kU16 FU16 kN16 FN16 kF16 FF16 B16 bq
          obtain ⟨m1, hm1⟩ : ∃ m1, m1 = cmA N.b N.X N.Y F.b F.X F.Y := ⟨_, rfl⟩
          have hm0 : m1 ≤ 0 := by rw [hm1]; exact HCM.out
          rw [← hm1]
          clear hm1 HCM
          cases okU : U.ok with
          | false =>
            obtain ⟨wl, hwl⟩ : ∃ wl, wl = w17.alloc (.cells #[.int .i64 1] 3) := ⟨_, rfl⟩
            have bl : Below w17.heap.size w17 wl := by rw [hwl]; exact (Below.refl _ w17).alloc (Nat.le_refl _) _
            have ol : OwnI wl w17.heap.size (some ⟨w17.heap.size, 0, none⟩) 1 [1] := by rw [hwl]; exact own_lit w17 1
            have FNl := FN17.keep bl
            have Bl := B17.trans (bl.mono B17.size)
            obtain ⟨kNc0, kNc1, kNc2, _, kNcn⟩ := boxc3 kN17
            go_wp2_with fail
            rw [← hwl]
            clear hwl
            refine Calls.mono (SAME1.out _ _ _ FNl ol.sl) ?_
            rintro e wz ⟨rfl, bz⟩
            have HBB : Hid (Below w.heap.size w wz) := Bl.trans (bz.mono Bl.size)
            clear MUL ROOT SROOT ABS FLO CMP OK PW SG SAME SAME1 hR hQ hAB hN hU hFok HH HUP HNY FNl ol bl bz Bl kU17 FU17 kN17 FN17 kF17 FF17 B17
            clear kNc0 kNc1 kNc2
            go_wp2
            go_ret
            exact ⟨rfl, HBB.out⟩
          | true =>
            have hmm := HUP.out okU
            have hd17 := Hdl.keep HH.out B17 (Hdl.pos HH.out)
            obtain ⟨kFc0, kFc1, kFc2, _, kFcn⟩ := boxc3 kF17
            obtain ⟨kUc0, kUc1, kUc2, _, kUcn⟩ := boxc3 kU17
            go_wp2_with fail
            refine Calls.mono (CMP.out _ _ _ _ _ _ _ _ _ _ _ hd17 FF17 FU17) ?_
            rw [hmm]
            rintro e w18 ⟨rfl, bq⟩
            clear kFc0 kFc1 kFc2 kUc0 kUc1 kUc2
            clear hd17 hmm
            have kU18 := boxc_keep kU17 bq
            have FU18 := FU17.keep bq
            have kN18 := boxc_keep kN17 bq
            have FN18 := FN17.keep bq
            have kF18 := boxc_keep kF17 bq
            have FF18 := FF17.keep bq
            have B18 := B17.trans (bq.mono B17.size)
            clear kU17 FU17 kN17 FN17 kF17 FF17 B17 bq
            obtain ⟨wl, hwl⟩ : ∃ wl, wl = w18.alloc (.cells #[.int .i64 1] 3) := ⟨_, rfl⟩
            have bl : Below w18.heap.size w18 wl := by rw [hwl]; exact (Below.refl _ w18).alloc (Nat.le_refl _) _
            have ol : OwnI wl w18.heap.size (some ⟨w18.heap.size, 0, none⟩) 1 [1] := by rw [hwl]; exact own_lit w18 1
            have FNl := FN18.keep bl
            have Bl := B18.trans (bl.mono B18.size)
            obtain ⟨kNc0, kNc1, kNc2, _, kNcn⟩ := boxc3 kN18
            go_wp2_with fail
            rw [← hwl]
            clear hwl
            refine Calls.mono (SAME1.out _ _ _ FNl ol.sl) ?_
            rintro e wz ⟨rfl, bz⟩
            have HBB : Hid (Below w.heap.size w wz) := Bl.trans (bz.mono Bl.size)
            clear MUL ROOT SROOT ABS FLO CMP OK PW SG SAME SAME1 hR hQ hAB hN hU hFok HH HUP HNY FNl ol bl bz Bl kU18 FU18 kN18 FN18 kF18 FF18 B18
            clear kNc0 kNc1 kNc2
            go_wp2
            go_ret
            exact ⟨rfl, HBB.out⟩
    | true =>
      have r2 := root_two (F := F) (by rw [← hQ.out]; exact okQ)
      rw [← hQ.out, ← hAB.out] at r2
      have hd12 := Hdl.keep HH.out B12 (Hdl.pos HH.out)
      obtain ⟨kQc0, kQc1, kQc2, _, kQcn⟩ := boxc3 kQ12
      go_wp2_with fail
      refine Calls.mono (ROOT.out _ _ AB _ _ _ _ r2.1.symm hd12 FQ12) ?_
      rintro e w13 ⟨rT, sT, cT, dT, rfl, FT13, bq⟩
      clear kQc0 kQc1 kQc2
      clear hd12
      have FF13 := FF12.keep bq
      have kF13 := boxc_keep kF12 bq
      have FQ13 := FQ12.keep bq
      have kQ13 := boxc_keep kQ12 bq
      have B13 := B12.trans (bq.mono B12.size)
      clear FF12 kF12 FQ12 kQ12 B12 bq
      obtain ⟨w14, hw14⟩ : ∃ w14, w14 = w13.alloc (.cells #[.bool AB.b, .slice rT AB.X.length cT, .slice sT AB.Y.length dT] 25) := ⟨_, rfl⟩
      obtain ⟨gT, hgT⟩ : ∃ gT, gT = w13.heap.size := ⟨_, rfl⟩
      have b14 : Below w13.heap.size w13 w14 := by rw [hw14]; exact (Below.refl _ w13).alloc (Nat.le_refl _) _
      have kT14 : BoxC w14 gT 25 #[.bool AB.b, .slice rT AB.X.length cT, .slice sT AB.Y.length dT] := by rw [hw14, hgT]; exact boxc_new _ _ _
      have FF14 := FF13.keep b14
      have kF14 := boxc_keep kF13 b14
      have FQ14 := FQ13.keep b14
      have kQ14 := boxc_keep kQ13 b14
      have FT14 := FT13.keep b14
      have B14 := B13.trans (b14.mono B13.size)
      clear FF13 kF13 FQ13 kQ13 FT13 B13 b14
      go_upto_region 15 with fail
      rw [← hw14, ← hgT]
      clear hw14 hgT
      have hd14 := Hdl.keep HH.out B14 (Hdl.pos HH.out)
      obtain ⟨kFc0, kFc1, kFc2, _, kFcn⟩ := boxc3 kF14
      go_wp2_with fail
      refine Calls.mono (ABS.out _ _ AB _ _ _ _ hAB.out hd14 FF14) ?_
      rintro e w15 ⟨rU2, sU2, cU2, dU2, rfl, FU215, bq⟩
      clear kFc0 kFc1 kFc2
      clear hd14
      have FF15 := FF14.keep bq
      have kF15 := boxc_keep kF14 bq
      have FQ15 := FQ14.keep bq
      have kQ15 := boxc_keep kQ14 bq
      have FT15 := FT14.keep bq
      have kT15 := boxc_keep kT14 bq
      have B15 := B14.trans (bq.mono B14.size)
      clear FF14 kF14 FQ14 kQ14 FT14 kT14 B14 bq
      obtain ⟨w16, hw16⟩ : ∃ w16, w16 = w15.alloc (.cells #[.bool AB.b, .slice rU2 AB.X.length cU2, .slice sU2 AB.Y.length dU2] 25) := ⟨_, rfl⟩
      obtain ⟨gU2, hgU2⟩ : ∃ gU2, gU2 = w15.heap.size := ⟨_, rfl⟩
      have b16 : Below w15.heap.size w15 w16 := by rw [hw16]; exact (Below.refl _ w15).alloc (Nat.le_refl _) _
      have kU216 : BoxC w16 gU2 25 #[.bool AB.b, .slice rU2 AB.X.length cU2, .slice sU2 AB.Y.length dU2] := by rw [hw16, hgU2]; exact boxc_new _ _ _
      have FF16 := FF15.keep b16
      have kF16 := boxc_keep kF15 b16
      have FQ16 := FQ15.keep b16
      have kQ16 := boxc_keep kQ15 b16
      have FT16 := FT15.keep b16
      have kT16 := boxc_keep kT15 b16
      have FU216 := FU215.keep b16
      have B16 := B15.trans (b16.mono B15.size)
      clear FF15 kF15 FQ15 kQ15 FT15 kT15 FU215 B15 b16
      go_upto_region 16 with fail
      rw [← hw16, ← hgU2]
      clear hw16 hgU2
      have okAB := r2.2
      try rw [okAB]
      clear okAB r2
      obtain ⟨kTc0, kTc1, kTc2, _, kTcn⟩ := boxc3 kT16
      obtain ⟨kU2c0, kU2c1, kU2c2, _, kU2cn⟩ := boxc3 kU216
      go_wp2_with fail
      refine Calls.mono (PW.out _ _ _ _ _ _ _ _ _ _ FT16 FU216) ?_
      rintro e w17 ⟨rfl, bq⟩
      clear kTc0 kTc1 kTc2 kU2c0 kU2c1 kU2c2
      have FF17 := FF16.keep bq
      have kF17 := boxc_keep kF16 bq
      have FQ17 := FQ16.keep bq
      have kQ17 := boxc_keep kQ16 bq
      have FT17 := FT16.keep bq
      have kT17 := boxc_keep kT16 bq
      have FU217 := FU216.keep bq
      have kU217 := boxc_keep kU216 bq
      have B17 := B16.trans (bq.mono B16.size)
      clear FF16 kF16 FQ16 kQ16 FT16 kT16 FU216 kU216 B16 bq
      clear kT17 FT17 kU217 FU217
      clear kQ17 FQ17
      go_upto_region 18 with fail
      have hd17 := Hdl.keep HH.out B17 (Hdl.pos HH.out)
      obtain ⟨kFc0, kFc1, kFc2, _, kFcn⟩ := boxc3 kF17
      go_wp2_with fail
      refine Calls.mono (FLO.out _ _ N _ _ _ _ hN.out hd17 FF17) ?_
      rintro e w18 ⟨rN, sN, cN, dN, rfl, FN18, bq⟩
      clear kFc0 kFc1 kFc2
      clear hd17
      have FF18 := FF17.keep bq
      have kF18 := boxc_keep kF17 bq
      have B18 := B17.trans (bq.mono B17.size)
      clear FF17 kF17 B17 bq
      obtain ⟨w19, hw19⟩ : ∃ w19, w19 = w18.alloc (.cells #[.bool N.b, .slice rN N.X.length cN, .slice sN N.Y.length dN] 25) := ⟨_, rfl⟩
      obtain ⟨gN, hgN⟩ : ∃ gN, gN = w18.heap.size := ⟨_, rfl⟩
      have b19 : Below w18.heap.size w18 w19 := by rw [hw19]; exact (Below.refl _ w18).alloc (Nat.le_refl _) _
      have kN19 : BoxC w19 gN 25 #[.bool N.b, .slice rN N.X.length cN, .slice sN N.Y.length dN] := by rw [hw19, hgN]; exact boxc_new _ _ _
      have FF19 := FF18.keep b19
      have kF19 := boxc_keep kF18 b19
      have FN19 := FN18.keep b19
      have B19 := B18.trans (b19.mono B18.size)
      clear FF18 kF18 FN18 B18 b19
      go_upto_region 19 with fail
      rw [← hw19, ← hgN]
      clear hw19 hgN
      obtain ⟨kFc0, kFc1, kFc2, _, kFcn⟩ := boxc3 kF19
      go_wp2_with fail
      refine Calls.mono (OK.out _ _ _ _ _ _ FF19) ?_
      rintro e w20 ⟨rfl, bq⟩
      clear kFc0 kFc1 kFc2
      have FF20 := FF19.keep bq
      have kF20 := boxc_keep kF19 bq
      have FN20 := FN19.keep bq
      have kN20 := boxc_keep kN19 bq
      have B20 := B19.trans (bq.mono B19.size)
      clear FF19 kF19 FN19 kN19 B19 bq
      cases hk : fokB F.b F.X F.Y with
      | false =>
        have f1 := floor_no hk
        rw [← hN.out, ← hQ.out] at f1
        have okN := f1.1
        try rw [okN]
        exact absurd okQ (by rw [f1.2]; decide)
      | true =>
        have f1 := floor_yes hk
        rw [← hN.out, ← hU.out] at f1
        obtain ⟨okN, hNY, hcm, hup⟩ := f1
        try rw [okN]
        have HUP : Hid _ := hup
        have HCM : Hid _ := hcm
        have HNY : Hid (N.Y = [1]) := hNY
        clear hup hcm hNY hk
        go_upto_region 23 with fail
        obtain ⟨nc0, nc1, nc2, _, ncn⟩ := boxc3 kN20
        have n0d : w20.drew.cell? ⟨gN, 0, none⟩ = some (.bool N.b) := nc0
        have n1d : w20.drew.cell? ⟨gN, 1, none⟩ = some (.slice rN N.X.length cN) := nc1
        have n2d : w20.drew.cell? ⟨gN, 2, none⟩ = some (.slice sN N.Y.length dN) := nc2
        have bA : Below w20.heap.size w20 (w20.alloc (.cells #[.bool false, .slice none 0 0, .slice none 0 0] 25)).drew := ((Below.refl _ w20).alloc (Nat.le_refl _) _).drew
        have bD : Below w20.heap.size w20 w20.drew := (Below.refl _ w20).drew
        have HB20 : Hid (Below w.heap.size w w20) := B20
        clear nc0 nc1 nc2
        have HN20 : Hid (FrR w20 N rN sN cN dN) := FN20
        have HFF20 : Hid (FrR w20 F rF sF cF dF) := FF20
        have HKF : Hid (BoxC w20 gF 25 #[.bool F.b, .slice rF F.X.length cF, .slice sF F.Y.length dF]) := kF20
        have HKN : Hid (BoxC w20 gN 25 #[.bool N.b, .slice rN N.X.length cN, .slice sN N.Y.length dN]) := kN20
        clear B20 FF20 kF20 FN20 kN20
        go_cut [18, 19] from 100 to 106 (fun v u wx => ∃ g r c s d, v = .pointer (some ⟨g, 0, none⟩) ∧ u = .bool U.ok ∧ BoxC wx g 25 #[.bool U.b, .slice r U.X.length c, .slice s U.Y.length d] ∧ FrR wx U r s c d ∧ Below w20.heap.size w20 wx)
        case first =>
          go_region_held3 (fun w' => w'.cell? ⟨gN, 0, none⟩ = some (.bool N.b) ∧ w'.cell? ⟨gN, 1, none⟩ = some (.slice rN N.X.length cN) ∧ w'.cell? ⟨gN, 2, none⟩ = some (.slice sN N.Y.length dN))
            (first
              | (with_reducible exact ⟨n0d, n1d, n2d⟩)
              | (go_split_ands; refine ⟨?_, ?_, ?_⟩ <;> first
                | (with_reducible exact keep_set3 (by assumption) (by omega) _ _ _)
                | (with_reducible exact cellR_big bS (by omega) (by assumption))
                | (with_reducible exact cellR_big bR (by omega) (by assumption))
                | (with_reducible exact cellR_big bA (by omega) (by assumption))
                | (with_reducible exact cellR_new bS (by omega) (by assumption))
                | (with_reducible exact cellR_new bR (by omega) (by assumption))))
            (first
              | (go_at_call 15; first
                | ((with_reducible refine Calls.mono (ONE.out w20.drew) ?_); rintro e wr ⟨r1, s1, c1, d1, rfl, F1, br⟩; have bR : Below w20.heap.size w20 wr := below_un2 br; have zR : w20.heap.size ≤ wr.heap.size := bR.size)
                | ((with_reducible refine Calls.mono (ONE.out (w20.alloc (.cells #[.bool false, .slice none 0 0, .slice none 0 0] 25)).drew) ?_); rintro e wr ⟨r1, s1, c1, d1, rfl, F1, br⟩; have bR : Below w20.heap.size w20 wr := bA.trans (br.mono bA.size); have zR : w20.heap.size ≤ wr.heap.size := bR.size; have kz := boxc_keep (boxc_new w20 25 #[.bool false, .slice none 0 0, .slice none 0 0]) (below_un2 br)))
              | (go_at_call 14; first
                | ((with_reducible refine Calls.mono (ADD.out wr _ _ U _ _ _ _ _ _ _ _ hU.out ?_ ?_ ?_) ?_); (exact Hdl.keep HH.out (HB20.out.trans (bR.mono (by exact HB20.out.size))) (Hdl.pos HH.out)); (exact FrR.keep HN20.out bR); (exact F1); rintro e ws ⟨rU, sU, cU, dU, rfl, FU, bs⟩; have bS : Below w20.heap.size w20 ws := bR.trans (bs.mono bR.size); have zS : wr.heap.size ≤ ws.heap.size := bs.size; try (have hz := boxc_lt kz; have kz := boxc_keep kz bs); try (obtain ⟨d0, d1', d2, df, dn⟩ := boxc3 kz))
                | ((with_reducible refine Calls.mono (ADD.out (wr.alloc (.cells #[.bool false, .slice none 0 0, .slice none 0 0] 25)) _ _ U _ _ _ _ _ _ _ _ hU.out ?_ ?_ ?_) ?_); (exact Hdl.keep HH.out ((HB20.out.trans (bR.mono (by exact HB20.out.size))).alloc (HB20.out.trans (bR.mono (by exact HB20.out.size))).size _) (Hdl.pos HH.out)); (exact FrR.keep (FrR.keep HN20.out bR) ((Below.refl _ wr).alloc (Nat.le_refl _) _)); (exact FrR.keep F1 ((Below.refl _ wr).alloc (Nat.le_refl _) _)); rintro e ws ⟨rU, sU, cU, dU, rfl, FU, bs⟩; have bs2 : Below wr.heap.size wr ws := ((Below.refl _ wr).alloc (Nat.le_refl _) _).trans (bs.mono (by simp)); have bS : Below w20.heap.size w20 ws := bR.trans (bs2.mono bR.size); have zS : wr.heap.size ≤ ws.heap.size := bs2.size; have kz := boxc_keep (boxc_new wr 25 #[.bool false, .slice none 0 0, .slice none 0 0]) bs; obtain ⟨d0, d1', d2, df, dn⟩ := boxc3 kz)))
          all_goals
            go_wp2_with fail
            go_meet
            first
              | exact ⟨_, _, _, _, _, rfl, rfl, boxc_set2 (boxc_set1 (boxc_set0 kz _) _) _, FrR.put FU kz _ _ _, below_set3 bS (by omega) _ _ _⟩
              | exact ⟨_, _, _, _, _, rfl, rfl, boxc_new _ _ _, FU.keep ((Below.refl _ ws).alloc (Nat.le_refl _) _), bS.alloc bS.size _⟩
        case rest =>
          obtain ⟨gU, rU, cU, sU, dU, rfl, rfl, kU0, FU0, bU⟩ := hcut
          clear n0d n1d n2d bA bD ONE ADD
          obtain ⟨w21, hw21⟩ : ∃ w21, w21 = wc := ⟨_, rfl⟩
          rw [← hw21] at kU0 FU0 bU ⊢
          clear hw21
          have kU21 := kU0
          have FU21 := FU0
          have kN21 := boxc_keep HKN.out bU
          have kF21 := boxc_keep HKF.out bU
          have FN21 := FrR.keep HN20.out bU
          have FF21 := FrR.keep HFF20.out bU
          have B21 := HB20.out.trans (bU.mono (by exact HB20.out.size))
          clear kU0 FU0 bU HKN HKF HN20 HFF20 HB20
          have SAME1 : Hid (∀ W r' c', FrR W N rN sN cN dN → Sl W r' [1] → Calls Tryz.prog 17 #[.slice sN N.Y.length dN, .slice r' 1 c'] W fun e w' => e = .returned (.bool true) ∧ Below W.heap.size W w') := by
            intro W r' c' h1 h2
            have h3 := h1.2.1
            rw [HNY.out] at h3 ⊢
            exact SAME.out W sN r' dN c' [1] h3 h2 (by decide)
          have hd21 := Hdl.keep HH.out B21 (Hdl.pos HH.out)
          obtain ⟨kNc0, kNc1, kNc2, _, kNcn⟩ := boxc3 kN21
          obtain ⟨kFc0, kFc1, kFc2, _, kFcn⟩ := boxc3 kF21
          go_wp2_with fail
          refine Calls.mono (CMP.out _ _ _ _ _ _ _ _ _ _ _ hd21 FN21 FF21) ?_
          rintro e w22 ⟨rfl, bq⟩
          clear kNc0 kNc1 kNc2 kFc0 kFc1 kFc2
          clear hd21
          have kU22 := boxc_keep kU21 bq
          have FU22 := FU21.keep bq
          have kN22 := boxc_keep kN21 bq
          have FN22 := FN21.keep bq
          have kF22 := boxc_keep kF21 bq
          have FF22 := FF21.keep bq
          have B22 := B21.trans (bq.mono B21.size)
          clear kU21 FU21 kN21 FN21 kF21 FF21 B21 bq
          obtain ⟨m1, hm1⟩ : ∃ m1, m1 = cmA N.b N.X N.Y F.b F.X F.Y := ⟨_, rfl⟩
          have hm0 : m1 ≤ 0 := by rw [hm1]; exact HCM.out
          rw [← hm1]
          clear hm1 HCM
          cases okU : U.ok with
          | false =>
            obtain ⟨wl, hwl⟩ : ∃ wl, wl = w22.alloc (.cells #[.int .i64 1] 3) := ⟨_, rfl⟩
            have bl : Below w22.heap.size w22 wl := by rw [hwl]; exact (Below.refl _ w22).alloc (Nat.le_refl _) _
            have ol : OwnI wl w22.heap.size (some ⟨w22.heap.size, 0, none⟩) 1 [1] := by rw [hwl]; exact own_lit w22 1
            have FNl := FN22.keep bl
            have Bl := B22.trans (bl.mono B22.size)
            obtain ⟨kNc0, kNc1, kNc2, _, kNcn⟩ := boxc3 kN22
            go_wp2_with fail
            rw [← hwl]
            clear hwl
            refine Calls.mono (SAME1.out _ _ _ FNl ol.sl) ?_
            rintro e wz ⟨rfl, bz⟩
            have HBB : Hid (Below w.heap.size w wz) := Bl.trans (bz.mono Bl.size)
            clear MUL ROOT SROOT ABS FLO CMP OK PW SG SAME SAME1 hR hQ hAB hN hU hFok HH HUP HNY FNl ol bl bz Bl kU22 FU22 kN22 FN22 kF22 FF22 B22
            clear kNc0 kNc1 kNc2
            go_wp2
            go_ret
            exact ⟨rfl, HBB.out⟩
          | true =>
            have hmm := HUP.out okU
            have hd22 := Hdl.keep HH.out B22 (Hdl.pos HH.out)
            obtain ⟨kFc0, kFc1, kFc2, _, kFcn⟩ := boxc3 kF22
            obtain ⟨kUc0, kUc1, kUc2, _, kUcn⟩ := boxc3 kU22
            go_wp2_with fail
            refine Calls.mono (CMP.out _ _ _ _ _ _ _ _ _ _ _ hd22 FF22 FU22) ?_
            rw [hmm]
            rintro e w23 ⟨rfl, bq⟩
            clear kFc0 kFc1 kFc2 kUc0 kUc1 kUc2
            clear hd22 hmm
            have kU23 := boxc_keep kU22 bq
            have FU23 := FU22.keep bq
            have kN23 := boxc_keep kN22 bq
            have FN23 := FN22.keep bq
            have kF23 := boxc_keep kF22 bq
            have FF23 := FF22.keep bq
            have B23 := B22.trans (bq.mono B22.size)
            clear kU22 FU22 kN22 FN22 kF22 FF22 B22 bq
            obtain ⟨wl, hwl⟩ : ∃ wl, wl = w23.alloc (.cells #[.int .i64 1] 3) := ⟨_, rfl⟩
            have bl : Below w23.heap.size w23 wl := by rw [hwl]; exact (Below.refl _ w23).alloc (Nat.le_refl _) _
            have ol : OwnI wl w23.heap.size (some ⟨w23.heap.size, 0, none⟩) 1 [1] := by rw [hwl]; exact own_lit w23 1
            have FNl := FN23.keep bl
            have Bl := B23.trans (bl.mono B23.size)
            obtain ⟨kNc0, kNc1, kNc2, _, kNcn⟩ := boxc3 kN23
            go_wp2_with fail
            rw [← hwl]
            clear hwl
            refine Calls.mono (SAME1.out _ _ _ FNl ol.sl) ?_
            rintro e wz ⟨rfl, bz⟩
            have HBB : Hid (Below w.heap.size w wz) := Bl.trans (bz.mono Bl.size)
            clear MUL ROOT SROOT ABS FLO CMP OK PW SG SAME SAME1 hR hQ hAB hN hU hFok HH HUP HNY FNl ol bl bz Bl kU23 FU23 kN23 FN23 kF23 FF23 B23
            clear kNc0 kNc1 kNc2
            go_wp2
            go_ret
            exact ⟨rfl, HBB.out⟩

set_option maxRecDepth 100000 in
theorem lifted (os : Os) (started : os.Started) (H : Type) (enc : TypeId × Value → H) :
    ReturnsInHanded {} Tryz.checked os 3 .any (fun w args => (Rows.fnFracRootSpec.pre enc Tryz.prog Tryz.f3 [] false w args ∧ laidMetH Tryz.prog laidL w) ∧ sizedMet enc Tryz.prog Tryz.f3 (OpenSpec.ofChange Rows.fnFracRootSpec) false w args)
      (Rows.fnFracRootSpec.post enc Tryz.prog Tryz.f3 false true false false) := by
  refine returnsInHanded_of_change_and (C := Tryz.checked) (X := fun w _ => laidMetH Tryz.prog laidL w) (fun _ _ _ hh h => h.of_heap hh) ownK started (by kernel_rfl) Tryz.func3
    (ChangeSpec.witness_at (enc := enc) (C := Tryz.checked) (os := os) (X := fun w _ => laidMetH Tryz.prog laidL w) false { World.holding Tryz.prog os ⟨#[], #[], []⟩ with heap := (World.holding Tryz.prog os ⟨#[], #[], []⟩).heap.modify 0 fun | .cells _ t frozen => .cells #[.iface 126 (.agg #[.pointer (some ⟨2, 50, none⟩)])] t frozen | o => o } #[.slice none 0 0] 8 rfl (by kernel_rfl) (by kernel_rfl) (by kernel_rfl) (by kernel_rfl) (by kernel_rfl) (laidMetH_of_parts (laidMet_nil _ _) (by kernel_rfl))) ?_
  intro W base args ds gs before hval0 hW _ _ hL _
  have hval : ∀ (j : Nat) t v, Tryz.f3.params[j]? = some t → args[j]? = some v → Value.okWide Tryz.prog W .any base t v := hval0
  have hW' := hW
  obtain ⟨p, q, hA0, hV0, rfl, hfz, hnd⟩ := hW
  have hA : DataW.TrodAll enc Tryz.prog W 0 (fun _ => true) true Tryz.f3.params.toList args.toList ds p := hA0
  have hV : DataW.TrodVars enc Tryz.prog W (fun _ => true) [] gs q := hV0
  rw [Tryz.params3] at hA hval
  obtain ⟨v0, vs0, d0, ds0, p0, q0, hargs, rfl, rfl, h0, r0⟩ := trodAll_cons hA
  obtain ⟨rfl, rfl, rfl⟩ := trodAll_nil r0
  obtain rfl : args = #[v0] := by cases args; simp_all
  obtain ⟨rfl, rfl⟩ := trodVars_none hV
  obtain ⟨aa0, la0, ca0, rfl⟩ := okWide_slice Tryz.underlying22 (hval 0 22 v0 rfl rfl)
  have k0 := h0
  have lt0 : ∀ x ∈ p0, x.block < W.heap.size := by obtain ⟨m, hm⟩ := k0; exact DataW.trod_lt m _ _ _ hm
  obtain ⟨za0, wa0⟩ : ∃ zs, IsRow .u8 W aa0 la0 ca0 zs := by
    obtain ⟨fuel, hf⟩ := h0
    rcases open_ints Tryz.underlying22 Tryz.underlying5 (by kernel_rfl) hf with ⟨hcs, _⟩ | ⟨x, l, c, zs, hcs, _, hl, hm, hz, _, hcell, hwz⟩
    · simp [Value.cells] at hcs
      obtain ⟨rfl, rfl, rfl⟩ := hcs
      exact ⟨[], .inl ⟨rfl, rfl, rfl, rfl⟩⟩
    · simp [Value.cells] at hcs
      obtain ⟨rfl, rfl, rfl⟩ := hcs
      exact ⟨zs, .inr ⟨_, rfl, hl, hm, by simpa using hz, hcell, hwz⟩⟩
  clear hA0 hval0 hval hA hV hV0
  have hh := hdl_of_laid hL
  have hw := walk aa0 la0 ca0 za0 W hh wa0 
  refine hw.mono fun e W' ⟨he, bel⟩ => ?_
  subst he
  exact ⟨_, rfl, _, _, _, [], _, [], hW', trodAll_mk1 (shut_bool Tryz.underlying4 _), (trodAll_cons_mk (Below.trod laidOutK (by kernel_rfl) (of_decide_eq_true (by kernel_rfl)) k0 bel lt0) trodAll_mk0), rfl, bel.frame _, fun h => by cases h⟩

theorem over : Rows.fnFracRootRow.holds Tryz.pinned (OpenSpec.ofChange Rows.fnFracRootSpec) :=
  OpenClaim.holds_of_wide 3 Tryz.f3 rfl rfl rfl rfl rfl rfl rfl ⟨rfl, rfl, rfl, rfl, rfl⟩ rfl rfl rfl rfl rfl (by kernel_rfl) Tryz.func3 (by kernel_rfl)
    (of_decide_eq_true (by kernel_rfl)) (by unfold Func.isWrapper; first | (rw [if_pos (by decide +kernel)]; kernel_rfl) | (rw [if_neg (by decide +kernel)]; exact ⟨rfl, rfl⟩))
    (fun os started H enc _ => lifted os started H enc)

theorem card : Rows.FnFracRootCardSaid :=
  Claim7.holds_tied_plain_at .later [] [.handle] true Rows.fnFracRootCard.stood.harness true
    over (fun _ h => by cases h) (by kernel_rfl) (fun _ h => by cases h) fnFracRoot_row_tie rfl ⟨rfl, rfl⟩ (by kernel_rfl) rfl
    (fun f fn hf hfn => by
      obtain rfl : f = 3 := Option.some.inj ((show Tryz.prog.funcNamed Rows.fnFracRootRow.func = some 3 by kernel_rfl).symm.trans hf) |>.symm
      obtain rfl : fn = Tryz.f3 := (Option.some.inj (Tryz.func3.symm.trans hfn)).symm
      exact ⟨by kernel_rfl, fun j t ht => by
        rw [Tryz.params3] at ht
        have h3 : t = 22 := by
          rcases j with _ | j
          · simp at ht; subst ht; simp
          simp at ht
        rcases h3 with rfl
        · exact (show Tryz.prog.wantsStandIn 22 = false by kernel_rfl)
      ⟩)
    (by kernel_rfl)
end fnFracRoot
theorem fnFracRoot_holds : Rows.FnFracRootCardSaid := fnFracRoot.card
#print axioms fnFracRoot_holds
end Go.Proofs.YthokphoojmpajabGreatDoor
