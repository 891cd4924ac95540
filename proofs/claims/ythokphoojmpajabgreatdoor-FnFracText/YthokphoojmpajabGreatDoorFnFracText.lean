/- For every slice of bytes the law FnFracText returns true and leaves its argument as it was; no condition beyond the row's own (the listed variable, tied by the card). -/
import Derived.Test.YthokphoojmpajabGreatDoorCards
import Derived.Test.YthokphoojmpajabGreatDoorTie
import Derived.Test.YthokphoojmpajabGreatDoorFracOpen
import Derived.Test.YthokphoojmpajabGreatDoorLaid
import Derived.Test.YthokphoojmpajabGreatDoorDrawText2
import Derived.Test.YthokphoojmpajabGreatDoorGPw
import Derived.Test.YthokphoojmpajabGreatDoorTxtFrac
import Derived.ChangeVars
import Derived.ChangeSame
import Derived.LaidHandle
import Derived.SevenTiedAt
import Derived.OpenShut
import Derived.Deep.Cut
namespace Go.Proofs.YthokphoojmpajabGreatDoor
namespace fnFracText
open Go.ChangeShapes Go.WideShapes Go.ChangeAt Go.RowKit Go.Proofs.Pin

set_option maxRecDepth 100000 in
set_option maxHeartbeats 16000000 in
theorem walk (a0 : Option Addr) (len0 cap0 : Nat) (z0 : List Int) (w : World) (hh : Hdl w) (w0 : IsRow .u8 w a0 len0 cap0 z0) :
    Calls Tryz.prog 4 #[.slice a0 len0 cap0] w fun e w' => e = .returned (.bool true) ∧ Below w.heap.size w w' := by
  obtain ⟨h1, h2, h3, h4⟩ := isRow_u8b w0
  clear w0
  by_cases hb0 : (1048576 : Int) < (len0 : Int)
  · go_enter Tryz.func4, Tryz.ntmps4
    go_wp2
    go_ret
    exact ⟨rfl, Below.refl _ _⟩
  have C0 : Hid _ := drawFracText_any a0 len0 cap0 _ w h1 h2 h3 (by omega) h4
  have C1 : Hid (∀ w1, Below w.heap.size w w1 → Calls Tryz.prog 21 #[.slice a0 len0 cap0] w1 fun e w' => ∃ t : ByteArray, e = .returned (.string t) ∧ t.size ≤ 3000 ∧ Below w1.heap.size w1 w') := fun w1 hB => drawFracRead_any a0 len0 cap0 _ w1 (by
      rcases h1 with h0 | ⟨b, off, he, hlt, hc⟩
      · exact .inl h0
      · exact .inr ⟨b, off, he, Nat.lt_of_lt_of_le hlt hB.size, fun i hi => (hB.cell (p := ⟨b, off + i, none⟩) hlt).trans (hc i hi)⟩) h2 h3 (by omega) h4
  have CX : Hid (∀ (W : World) (t : ByteArray), Hdl W → t.size ≤ 3000 → Calls Tryz.prog 20 #[.string t] W fun e w' => RetF W e w' (frdA t)) := fun W t h0 h1 => implFRead_any t W h0 (by omega)
  have SX : Hid (∀ (W : World) (t : ByteArray), t.size ≤ 3000 → Calls Tryz.prog 22 #[.string t] W fun e w' => RetS W e w' (frdA t)) := fun W t h1 => specFRead_any t W (by omega)
  have CH : Hid (∀ (W : World) (A : FAns) (r s : Option Addr) (c d : Nat), Hdl W → Sl W r A.X → Sl W s A.Y → A.X.length ≤ 256 → A.Y.length ≤ 256 → A.X.length ≤ c → A.Y.length ≤ d → Calls Tryz.prog 19 #[fracV A.b r A.X.length c s A.Y.length d] W fun e w' => e = .returned (.string (ftA A.b A.X A.Y)) ∧ Below W.heap.size W w') := fun W A r s c d h0 h1 h2 h3 h4 h5 h6 => implFText_any A.b r s c d A.X A.Y W h0 h1 h2 (by omega) (by omega) h5 h6
  have hl0 : (len0 : Int) ≤ 1048576 := by omega
  have HH : Hid (Hdl w) := hh
  unfold RetF at CX
  unfold RetS at SX
  unfold fracV at C0 CX SX CH
  clear h1 h2 h3 h4 hh
  go_enter Tryz.func4, Tryz.ntmps4
  go_wp2_with fail
  refine Calls.mono C0.out ?_
  rintro e w1 ⟨f, r, cr, X, s, cs, Y, rfl, oX, oY, lX, lY, B1⟩
  clear C0
  have cX := own_cap oX
  have cY := own_cap oY
  have pF1 := oX.sl
  have qF1 := oY.sl
  clear oX oY
  obtain ⟨w2, hw2⟩ : ∃ w2, w2 = w1.alloc (.cells #[.bool f, .slice r X.length cr, .slice s Y.length cs] 25) := ⟨_, rfl⟩
  obtain ⟨gf, hgf⟩ : ∃ gf, gf = w1.heap.size := ⟨_, rfl⟩
  have b2 : Below w1.heap.size w1 w2 := by rw [hw2]; exact (Below.refl _ w1).alloc (Nat.le_refl _) _
  have kF2 : BoxC w2 gf 25 #[.bool f, .slice r X.length cr, .slice s Y.length cs] := by rw [hw2, hgf]; exact boxc_new _ _ _
  have pF2 := pF1.keep b2
  have qF2 := qF1.keep b2
  have B2 := B1.trans (b2.mono B1.size)
  clear pF1 qF1 B1 b2
  go_upto_region 4 with fail
  rw [← hw2, ← hgf]
  clear hw2 hgf
  have CT : Hid (∀ W, Hdl W → Sl W r X → Sl W s Y → Calls Tryz.prog 19 #[fracV f r X.length cr s Y.length cs] W fun e w' => e = .returned (.string (ftA f X Y)) ∧ Below W.heap.size W w') := fun W h0 h1 h2 => implFText_any f r s cr cs X Y W h0 h1 h2 (by omega) (by omega) cX cY
  have CK : Hid (∀ W, Sl W r X → Sl W s Y → Calls Tryz.prog 13 #[fracV f r X.length cr s Y.length cs] W fun e w' => e = .returned (.bool (fokB f X Y)) ∧ Below W.heap.size W w') := fun W h1 h2 => specFok_any f r s cr cs X Y W h1 h2 (by omega) (by omega)
  have PW : Hid (∀ W a c a' c', Sl W r X → Sl W s Y → Sl W a X → Sl W a' Y → Calls Tryz.prog 9 #[fracV f r X.length cr s Y.length cs, fracV f a X.length c a' Y.length c'] W fun e w' => e = .returned (.bool true) ∧ Below W.heap.size W w') := fun W a c a' c' h1 h2 h3 h4 => pwFrac_any f r s a a' cr cs c c' X Y W h1 h2 h3 h4 (by omega) (by omega)
  have hsz := ftA_size f X Y
  have hcase : (fokB f X Y = false ∧ (ftA f X Y).toList.isEmpty = true) ∨ (fokB f X Y = true ∧ (ftA f X Y).toList.isEmpty = false ∧ frdA (ftA f X Y) = ⟨f, X, Y, true⟩) := by
    cases h : fokB f X Y with
    | false => exact .inl ⟨rfl, by have e : ((ftA f X Y).toList == []) = true := (by rw [ftA_no h, eqE]; rfl); simpa using e⟩
    | true =>
      refine .inr ⟨rfl, by have e := ftA_some h; simpa using e, ?_⟩
      obtain ⟨x, y, rfl, rfl, lx, ly, _⟩ := fok_parts h
      exact read_text h lx ly
  obtain ⟨T, hT⟩ : ∃ T, T = ftA f X Y := ⟨_, rfl⟩
  obtain ⟨ok, hok⟩ : ∃ ok, ok = fokB f X Y := ⟨_, rfl⟩
  rw [← hT] at CT hsz hcase
  rw [← hok] at CK hcase
  unfold fracV at CT CK PW
  clear hT hok cX cY
  have hd2 := Hdl.keep HH.out B2 (Hdl.pos HH.out)
  obtain ⟨kFc0, kFc1, kFc2, _, kFcn⟩ := boxc3 kF2
  go_wp2_with fail
  refine Calls.mono (CT.out _ hd2 pF2 qF2) ?_
  rintro e w3 ⟨rfl, bq⟩
  clear kFc0 kFc1 kFc2
  clear hd2
  have pF3 := pF2.keep bq
  have qF3 := qF2.keep bq
  have kF3 := boxc_keep kF2 bq
  have B3 := B2.trans (bq.mono B2.size)
  clear pF2 qF2 kF2 B2 bq
  obtain ⟨kFc0, kFc1, kFc2, _, kFcn⟩ := boxc3 kF3
  go_wp2_with fail
  refine Calls.mono (CK.out _ pF3 qF3) ?_
  rintro e w4 ⟨rfl, bq⟩
  clear kFc0 kFc1 kFc2
  have pF4 := pF3.keep bq
  have qF4 := qF3.keep bq
  have kF4 := boxc_keep kF3 bq
  have B4 := B3.trans (bq.mono B3.size)
  clear pF3 qF3 kF3 B3 bq
  rcases hcase with ⟨rfl, hE⟩ | ⟨rfl, hE, hrd⟩
  · clear CT CK PW
    clear pF4
    clear qF4
    clear kF4
    go_wp2_with fail
    refine Calls.mono (C1.out _ B4) ?_
    rintro e w5 ⟨tt, rfl, ht, bq⟩
    have B5 := B4.trans (bq.mono B4.size)
    clear B4 bq
    obtain ⟨A, hA⟩ : ∃ A, A = frdA tt := ⟨_, rfl⟩
    have hlen := frdA_len tt
    have hback : A.ok = true → ((ftA A.b A.X A.Y).toList == tt.toList) = true := by
      intro h
      rw [hA] at h ⊢
      rw [text_read h]
      simp
    rw [← hA] at hlen
    have CX2 : Hid _ := fun W h0 => CX.out W tt h0 ht
    have SX2 : Hid _ := fun W => SX.out W tt ht
    rw [← hA] at CX2 SX2
    have HBK : Hid _ := hback
    clear hA CX SX ht hback
    have hd5 := Hdl.keep HH.out B5 (Hdl.pos HH.out)
    go_wp2_with fail
    refine Calls.mono (CX2.out _ hd5) ?_
    rintro e w6 ⟨r1, c1, s1, d1, rfl, oP, oQ, _, bq⟩
    clear hd5
    have B6 := B5.trans (bq.mono B5.size)
    clear B5 bq
    have pH6 := oP.sl
    have qH6 := oQ.sl
    have cP := own_cap oP
    have cQ := own_cap oQ
    clear oP oQ
    obtain ⟨w7, hw7⟩ : ∃ w7, w7 = w6.alloc (.cells #[.bool A.b, .slice r1 A.X.length c1, .slice s1 A.Y.length d1] 25) := ⟨_, rfl⟩
    obtain ⟨gh, hgh⟩ : ∃ gh, gh = w6.heap.size := ⟨_, rfl⟩
    have b7 : Below w6.heap.size w6 w7 := by rw [hw7]; exact (Below.refl _ w6).alloc (Nat.le_refl _) _
    have kH7 : BoxC w7 gh 25 #[.bool A.b, .slice r1 A.X.length c1, .slice s1 A.Y.length d1] := by rw [hw7, hgh]; exact boxc_new _ _ _
    have pH7 := pH6.keep b7
    have qH7 := qH6.keep b7
    have B7 := B6.trans (b7.mono B6.size)
    clear pH6 qH6 B6 b7
    go_upto_region 13 with fail
    rw [← hw7, ← hgh]
    clear hw7 hgh
    go_wp2_with fail
    refine Calls.mono (SX2.out _) ?_
    rintro e w8 ⟨r2, c2, s2, d2, rfl, _, _, bq⟩
    have pH8 := pH7.keep bq
    have qH8 := qH7.keep bq
    have kH8 := boxc_keep kH7 bq
    have B8 := B7.trans (bq.mono B7.size)
    clear pH7 qH7 kH7 B7 bq
    obtain ⟨w9, hw9⟩ : ∃ w9, w9 = w8.alloc (.cells #[.bool A.b, .slice r2 A.X.length c2, .slice s2 A.Y.length d2] 25) := ⟨_, rfl⟩
    obtain ⟨gj, hgj⟩ : ∃ gj, gj = w8.heap.size := ⟨_, rfl⟩
    have b9 : Below w8.heap.size w8 w9 := by rw [hw9]; exact (Below.refl _ w8).alloc (Nat.le_refl _) _
    have kJ9 : BoxC w9 gj 25 #[.bool A.b, .slice r2 A.X.length c2, .slice s2 A.Y.length d2] := by rw [hw9, hgj]; exact boxc_new _ _ _
    have pH9 := pH8.keep b9
    have qH9 := qH8.keep b9
    have kH9 := boxc_keep kH8 b9
    have B9 := B8.trans (b9.mono B8.size)
    clear pH8 qH8 kH8 B8 b9
    have hne : (A.ok != A.ok) = false := by simp
    go_upto_region 14 with fail
    rw [← hw9, ← hgj]
    clear hw9 hgj kJ9
    cases hok : A.ok with
    | false =>
      rw [hok] at hne
      have HBB : Hid (Below w.heap.size w w9) := B9
      clear CX2 SX2 CH C1 HBK pH9 qH9 kH9 B9
      go_wp2
      go_ret
      exact ⟨rfl, HBB.out⟩
    | true =>
      have hb2 := HBK.out hok
      rw [hok] at hne
      have hd9 := Hdl.keep HH.out B9 (Hdl.pos HH.out)
      obtain ⟨kHc0, kHc1, kHc2, _, kHcn⟩ := boxc3 kH9
      go_wp2_with fail
      refine Calls.mono (CH.out _ A _ _ _ _ hd9 pH9 qH9 hlen.1 hlen.2 cP cQ) ?_
      rintro e w10 ⟨rfl, bq⟩
      clear kHc0 kHc1 kHc2
      clear hd9
      have pH10 := pH9.keep bq
      have qH10 := qH9.keep bq
      have kH10 := boxc_keep kH9 bq
      have B10 := B9.trans (bq.mono B9.size)
      clear pH9 qH9 kH9 B9 bq
      have HBB : Hid (Below w.heap.size w w10) := B10
      clear CX2 SX2 CH C1 HBK pH10 qH10 kH10 B10
      go_wp2
      go_ret
      exact ⟨rfl, HBB.out⟩
  · have CR : Hid _ := fun W h0 => CX.out W T h0 (by omega)
    rw [hrd] at CR
    clear CT CK hrd
    have hd4 := Hdl.keep HH.out B4 (Hdl.pos HH.out)
    go_wp2_with fail
    refine Calls.mono (CR.out _ hd4) ?_
    rintro e w5 ⟨rg, cg, sg, dg, rfl, oP, oQ, _, bq⟩
    clear hd4 CR
    have pF5 := pF4.keep bq
    have qF5 := qF4.keep bq
    have kF5 := boxc_keep kF4 bq
    have B5 := B4.trans (bq.mono B4.size)
    clear pF4 qF4 kF4 B4 bq
    have pG5 : Sl w5 rg X := oP.sl
    have qG5 : Sl w5 sg Y := oQ.sl
    clear oP oQ
    obtain ⟨w6, hw6⟩ : ∃ w6, w6 = w5.alloc (.cells #[.bool f, .slice rg X.length cg, .slice sg Y.length dg] 25) := ⟨_, rfl⟩
    obtain ⟨gg, hgg⟩ : ∃ gg, gg = w5.heap.size := ⟨_, rfl⟩
    have b6 : Below w5.heap.size w5 w6 := by rw [hw6]; exact (Below.refl _ w5).alloc (Nat.le_refl _) _
    have kG6 : BoxC w6 gg 25 #[.bool f, .slice rg X.length cg, .slice sg Y.length dg] := by rw [hw6, hgg]; exact boxc_new _ _ _
    have pF6 := pF5.keep b6
    have qF6 := qF5.keep b6
    have kF6 := boxc_keep kF5 b6
    have pG6 := pG5.keep b6
    have qG6 := qG5.keep b6
    have B6 := B5.trans (b6.mono B5.size)
    clear pF5 qF5 kF5 pG5 qG5 B5 b6
    go_upto_region 9 with fail
    rw [← hw6, ← hgg]
    clear hw6 hgg
    obtain ⟨kFc0, kFc1, kFc2, _, kFcn⟩ := boxc3 kF6
    obtain ⟨kGc0, kGc1, kGc2, _, kGcn⟩ := boxc3 kG6
    go_wp2_with fail
    refine Calls.mono (PW.out _ _ _ _ _ pF6 qF6 pG6 qG6) ?_
    rintro e w7 ⟨rfl, bq⟩
    clear kFc0 kFc1 kFc2 kGc0 kGc1 kGc2
    have pF7 := pF6.keep bq
    have qF7 := qF6.keep bq
    have kF7 := boxc_keep kF6 bq
    have pG7 := pG6.keep bq
    have qG7 := qG6.keep bq
    have kG7 := boxc_keep kG6 bq
    have B7 := B6.trans (bq.mono B6.size)
    clear pF6 qF6 kF6 pG6 qG6 kG6 B6 bq
    clear PW
    clear pF7
    clear qF7
    clear kF7
    clear pG7
    clear qG7
    clear kG7
    go_wp2_with fail
    refine Calls.mono (C1.out _ B7) ?_
    rintro e w8 ⟨tt, rfl, ht, bq⟩
    have B8 := B7.trans (bq.mono B7.size)
    clear B7 bq
    obtain ⟨A, hA⟩ : ∃ A, A = frdA tt := ⟨_, rfl⟩
    have hlen := frdA_len tt
    have hback : A.ok = true → ((ftA A.b A.X A.Y).toList == tt.toList) = true := by
      intro h
      rw [hA] at h ⊢
      rw [text_read h]
      simp
    rw [← hA] at hlen
    have CX2 : Hid _ := fun W h0 => CX.out W tt h0 ht
    have SX2 : Hid _ := fun W => SX.out W tt ht
    rw [← hA] at CX2 SX2
    have HBK : Hid _ := hback
    clear hA CX SX ht hback
    have hd8 := Hdl.keep HH.out B8 (Hdl.pos HH.out)
    go_wp2_with fail
    refine Calls.mono (CX2.out _ hd8) ?_
    rintro e w9 ⟨r1, c1, s1, d1, rfl, oP, oQ, _, bq⟩
    clear hd8
    have B9 := B8.trans (bq.mono B8.size)
    clear B8 bq
    have pH9 := oP.sl
    have qH9 := oQ.sl
    have cP := own_cap oP
    have cQ := own_cap oQ
    clear oP oQ
    obtain ⟨w10, hw10⟩ : ∃ w10, w10 = w9.alloc (.cells #[.bool A.b, .slice r1 A.X.length c1, .slice s1 A.Y.length d1] 25) := ⟨_, rfl⟩
    obtain ⟨gh, hgh⟩ : ∃ gh, gh = w9.heap.size := ⟨_, rfl⟩
    have b10 : Below w9.heap.size w9 w10 := by rw [hw10]; exact (Below.refl _ w9).alloc (Nat.le_refl _) _
    have kH10 : BoxC w10 gh 25 #[.bool A.b, .slice r1 A.X.length c1, .slice s1 A.Y.length d1] := by rw [hw10, hgh]; exact boxc_new _ _ _
    have pH10 := pH9.keep b10
    have qH10 := qH9.keep b10
    have B10 := B9.trans (b10.mono B9.size)
    clear pH9 qH9 B9 b10
    go_upto_region 13 with fail
    rw [← hw10, ← hgh]
    clear hw10 hgh
    go_wp2_with fail
    refine Calls.mono (SX2.out _) ?_
    rintro e w11 ⟨r2, c2, s2, d2, rfl, _, _, bq⟩
    have pH11 := pH10.keep bq
    have qH11 := qH10.keep bq
    have kH11 := boxc_keep kH10 bq
    have B11 := B10.trans (bq.mono B10.size)
    clear pH10 qH10 kH10 B10 bq
    obtain ⟨w12, hw12⟩ : ∃ w12, w12 = w11.alloc (.cells #[.bool A.b, .slice r2 A.X.length c2, .slice s2 A.Y.length d2] 25) := ⟨_, rfl⟩
    obtain ⟨gj, hgj⟩ : ∃ gj, gj = w11.heap.size := ⟨_, rfl⟩
    have b12 : Below w11.heap.size w11 w12 := by rw [hw12]; exact (Below.refl _ w11).alloc (Nat.le_refl _) _
    have kJ12 : BoxC w12 gj 25 #[.bool A.b, .slice r2 A.X.length c2, .slice s2 A.Y.length d2] := by rw [hw12, hgj]; exact boxc_new _ _ _
    have pH12 := pH11.keep b12
    have qH12 := qH11.keep b12
    have kH12 := boxc_keep kH11 b12
    have B12 := B11.trans (b12.mono B11.size)
    clear pH11 qH11 kH11 B11 b12
    have hne : (A.ok != A.ok) = false := by simp
    go_upto_region 14 with fail
    rw [← hw12, ← hgj]
    clear hw12 hgj kJ12
    cases hok : A.ok with
    | false =>
      rw [hok] at hne
      have HBB : Hid (Below w.heap.size w w12) := B12
      clear CX2 SX2 CH C1 HBK pH12 qH12 kH12 B12
      go_wp2
      go_ret
      exact ⟨rfl, HBB.out⟩
    | true =>
      have hb2 := HBK.out hok
      rw [hok] at hne
      have hd12 := Hdl.keep HH.out B12 (Hdl.pos HH.out)
      obtain ⟨kHc0, kHc1, kHc2, _, kHcn⟩ := boxc3 kH12
      go_wp2_with fail
      refine Calls.mono (CH.out _ A _ _ _ _ hd12 pH12 qH12 hlen.1 hlen.2 cP cQ) ?_
      rintro e w13 ⟨rfl, bq⟩
      clear kHc0 kHc1 kHc2
      clear hd12
      have pH13 := pH12.keep bq
      have qH13 := qH12.keep bq
      have kH13 := boxc_keep kH12 bq
      have B13 := B12.trans (bq.mono B12.size)
      clear pH12 qH12 kH12 B12 bq
      have HBB : Hid (Below w.heap.size w w13) := B13
      clear CX2 SX2 CH C1 HBK pH13 qH13 kH13 B13
      go_wp2
      go_ret
      exact ⟨rfl, HBB.out⟩

set_option maxRecDepth 100000 in
theorem lifted (os : Os) (started : os.Started) (H : Type) (enc : TypeId × Value → H) :
    ReturnsInHanded {} Tryz.checked os 4 .any (fun w args => (Rows.fnFracTextSpec.pre enc Tryz.prog Tryz.f4 [] false w args ∧ laidMetH Tryz.prog laidL w) ∧ sizedMet enc Tryz.prog Tryz.f4 (OpenSpec.ofChange Rows.fnFracTextSpec) false w args)
      (Rows.fnFracTextSpec.post enc Tryz.prog Tryz.f4 false true false false) := by
  refine returnsInHanded_of_change_and (C := Tryz.checked) (X := fun w _ => laidMetH Tryz.prog laidL w) (fun _ _ _ hh h => h.of_heap hh) ownK started (by kernel_rfl) Tryz.func4
    (ChangeSpec.witness_at (enc := enc) (C := Tryz.checked) (os := os) (X := fun w _ => laidMetH Tryz.prog laidL w) false { World.holding Tryz.prog os ⟨#[], #[], []⟩ with heap := (World.holding Tryz.prog os ⟨#[], #[], []⟩).heap.modify 0 fun | .cells _ t frozen => .cells #[.iface 126 (.agg #[.pointer (some ⟨2, 50, none⟩)])] t frozen | o => o } #[.slice none 0 0] 8 rfl (by kernel_rfl) (by kernel_rfl) (by kernel_rfl) (by kernel_rfl) (by kernel_rfl) (laidMetH_of_parts (laidMet_nil _ _) (by kernel_rfl))) ?_
  intro W base args ds gs before hval0 hW _ _ hL _
  have hval : ∀ (j : Nat) t v, Tryz.f4.params[j]? = some t → args[j]? = some v → Value.okWide Tryz.prog W .any base t v := hval0
  have hW' := hW
  obtain ⟨p, q, hA0, hV0, rfl, hfz, hnd⟩ := hW
  have hA : DataW.TrodAll enc Tryz.prog W 0 (fun _ => true) true Tryz.f4.params.toList args.toList ds p := hA0
  have hV : DataW.TrodVars enc Tryz.prog W (fun _ => true) [] gs q := hV0
  rw [Tryz.params4] at hA hval
  obtain ⟨v0, vs0, d0, ds0, p0, q0, hargs, rfl, rfl, h0, r0⟩ := trodAll_cons hA
  obtain ⟨rfl, rfl, rfl⟩ := trodAll_nil r0
  obtain rfl : args = #[v0] := by cases args; simp_all
  obtain ⟨rfl, rfl⟩ := trodVars_none hV
  obtain ⟨aa0, la0, ca0, rfl⟩ := okWide_slice Tryz.underlying22 (hval 0 22 v0 rfl rfl)
  have k0 := h0
  have lt0 : ∀ x ∈ p0, x.block < W.heap.size := by obtain ⟨m, hm⟩ := k0; exact DataW.trod_lt m _ _ _ hm
  obtain ⟨za0, wa0⟩ : ∃ zs, IsRow .u8 W aa0 la0 ca0 zs := by
    obtain ⟨fuel, hf⟩ := h0
    rcases open_ints Tryz.underlying22 Tryz.underlying5 (by kernel_rfl) hf with ⟨hcs, _⟩ | ⟨x, l, c, zs, hcs, _, hl, hm, hz, _, hcell, hwz⟩
    · simp [Value.cells] at hcs
      obtain ⟨rfl, rfl, rfl⟩ := hcs
      exact ⟨[], .inl ⟨rfl, rfl, rfl, rfl⟩⟩
    · simp [Value.cells] at hcs
      obtain ⟨rfl, rfl, rfl⟩ := hcs
      exact ⟨zs, .inr ⟨_, rfl, hl, hm, by simpa using hz, hcell, hwz⟩⟩
  clear hA0 hval0 hval hA hV hV0
  have hh := hdl_of_laid hL
  have hw := walk aa0 la0 ca0 za0 W hh wa0 
  refine hw.mono fun e W' ⟨he, bel⟩ => ?_
  subst he
  exact ⟨_, rfl, _, _, _, [], _, [], hW', trodAll_mk1 (shut_bool Tryz.underlying4 _), (trodAll_cons_mk (Below.trod laidOutK (by kernel_rfl) (of_decide_eq_true (by kernel_rfl)) k0 bel lt0) trodAll_mk0), rfl, bel.frame _, fun h => by cases h⟩

theorem over : Rows.fnFracTextRow.holds Tryz.pinned (OpenSpec.ofChange Rows.fnFracTextSpec) :=
  OpenClaim.holds_of_wide 4 Tryz.f4 rfl rfl rfl rfl rfl rfl rfl ⟨rfl, rfl, rfl, rfl, rfl⟩ rfl rfl rfl rfl rfl (by kernel_rfl) Tryz.func4 (by kernel_rfl)
    (of_decide_eq_true (by kernel_rfl)) (by unfold Func.isWrapper; first | (rw [if_pos (by decide +kernel)]; kernel_rfl) | (rw [if_neg (by decide +kernel)]; exact ⟨rfl, rfl⟩))
    (fun os started H enc _ => lifted os started H enc)

theorem card : Rows.FnFracTextCardSaid :=
  Claim7.holds_tied_plain_at .later [] [.handle] true Rows.fnFracTextCard.stood.harness true
    over (fun _ h => by cases h) (by kernel_rfl) (fun _ h => by cases h) fnFracText_row_tie rfl ⟨rfl, rfl⟩ (by kernel_rfl) rfl
    (fun f fn hf hfn => by
      obtain rfl : f = 4 := Option.some.inj ((show Tryz.prog.funcNamed Rows.fnFracTextRow.func = some 4 by kernel_rfl).symm.trans hf) |>.symm
      obtain rfl : fn = Tryz.f4 := (Option.some.inj (Tryz.func4.symm.trans hfn)).symm
      exact ⟨by kernel_rfl, fun j t ht => by
        rw [Tryz.params4] at ht
        have h3 : t = 22 := by
          rcases j with _ | j
          · simp at ht; subst ht; simp
          simp at ht
        rcases h3 with rfl
        · exact (show Tryz.prog.wantsStandIn 22 = false by kernel_rfl)
      ⟩)
    (by kernel_rfl)
end fnFracText
theorem fnFracText_holds : Rows.FnFracTextCardSaid := fnFracText.card
#print axioms fnFracText_holds
end Go.Proofs.YthokphoojmpajabGreatDoor
