/- The operations on one fraction, as the law of roots calls them; DrawFracRoot. -/
import Derived.Test.YthokphoojmpajabGreatDoorFrR
import Derived.Test.YthokphoojmpajabGreatDoorRootLaw
import Derived.Test.YthokphoojmpajabGreatDoorGSpA
import Derived.Test.YthokphoojmpajabGreatDoorGDf
namespace Go.Proofs.YthokphoojmpajabGreatDoor
open Go.RowKit Go.Proofs.Pin

theorem topRoot (W : World) (F R : FAns) (r s : Option Addr) (c d : Nat) (hR : R = op1F rootA F) (h0 : Hdl W) (h1 : FrR W F r s c d) :
    Calls Tryz.prog 6 #[fracV F.b r F.X.length c s F.Y.length d] W fun e w' => ∃ r2 s2 c2 d2, e = .returned (.tuple #[fracV R.b r2 R.X.length c2 s2 R.Y.length d2, .bool R.ok]) ∧ FrR w' R r2 s2 c2 d2 ∧ Below W.heap.size W w' := by
  subst hR
  refine (implRoot_any F.b r s c d F.X F.Y W h0 h1.1 h1.2.1 (by have := h1.2.2.2.2.1; omega) (by have := h1.2.2.2.2.2; omega) h1.2.2.1 h1.2.2.2.1).mono ?_
  rintro e w' ⟨r2, c2, s2, d2, rfl, o1, o2, _, b⟩
  have hl := rootA_len F.b F.X F.Y
  exact ⟨r2, s2, c2, d2, rfl, ⟨o1.sl, o2.sl, own_cap o1, own_cap o2, Nat.le_trans hl.1 (by decide), Nat.le_trans hl.2 (by decide)⟩, b⟩
theorem topsRoot (W : World) (F R : FAns) (r s : Option Addr) (c d : Nat) (hR : R = op1F rootA F) (h1 : FrR W F r s c d) :
    Calls Tryz.prog 7 #[fracV F.b r F.X.length c s F.Y.length d] W fun e w' => ∃ r2 s2 c2 d2, e = .returned (.tuple #[fracV R.b r2 R.X.length c2 s2 R.Y.length d2, .bool R.ok]) ∧ FrR w' R r2 s2 c2 d2 ∧ Below W.heap.size W w' := by
  subst hR
  refine (specRoot_any F.b r s c d F.X F.Y W h1.1 h1.2.1 (by have := h1.2.2.2.2.1; omega) (by have := h1.2.2.2.2.2; omega) h1.2.2.1 h1.2.2.2.1).mono ?_
  rintro e w' ⟨r2, c2, s2, d2, rfl, o1, o2, b⟩
  have hl := rootA_len F.b F.X F.Y
  exact ⟨r2, s2, c2, d2, rfl, ⟨o1.sl, o2.sl, own_cap o1, own_cap o2, Nat.le_trans hl.1 (by decide), Nat.le_trans hl.2 (by decide)⟩, b⟩
theorem topAbs (W : World) (F R : FAns) (r s : Option Addr) (c d : Nat) (hR : R = op1F absA F) (h0 : Hdl W) (h1 : FrR W F r s c d) :
    Calls Tryz.prog 11 #[fracV F.b r F.X.length c s F.Y.length d] W fun e w' => ∃ r2 s2 c2 d2, e = .returned (.tuple #[fracV R.b r2 R.X.length c2 s2 R.Y.length d2, .bool R.ok]) ∧ FrR w' R r2 s2 c2 d2 ∧ Below W.heap.size W w' := by
  subst hR
  refine (implAbs_any F.b r s c d F.X F.Y W h0 h1.1 h1.2.1 (by have := h1.2.2.2.2.1; omega) (by have := h1.2.2.2.2.2; omega) h1.2.2.1 h1.2.2.2.1).mono ?_
  rintro e w' ⟨r2, c2, s2, d2, rfl, o1, o2, _, b⟩
  have hl := absA_len F.b F.X F.Y
  exact ⟨r2, s2, c2, d2, rfl, ⟨o1.sl, o2.sl, own_cap o1, own_cap o2, Nat.le_trans hl.1 (by decide), Nat.le_trans hl.2 (by decide)⟩, b⟩
theorem topFloor (W : World) (F R : FAns) (r s : Option Addr) (c d : Nat) (hR : R = op1F floorA F) (h0 : Hdl W) (h1 : FrR W F r s c d) :
    Calls Tryz.prog 12 #[fracV F.b r F.X.length c s F.Y.length d] W fun e w' => ∃ r2 s2 c2 d2, e = .returned (.tuple #[fracV R.b r2 R.X.length c2 s2 R.Y.length d2, .bool R.ok]) ∧ FrR w' R r2 s2 c2 d2 ∧ Below W.heap.size W w' := by
  subst hR
  refine (implFloor_any F.b r s c d F.X F.Y W h0 h1.1 h1.2.1 (by have := h1.2.2.2.2.1; omega) (by have := h1.2.2.2.2.2; omega) h1.2.2.1 h1.2.2.2.1).mono ?_
  rintro e w' ⟨r2, c2, s2, d2, rfl, o1, o2, _, b⟩
  have hl := floorA_len F.b F.X F.Y
  exact ⟨r2, s2, c2, d2, rfl, ⟨o1.sl, o2.sl, own_cap o1, own_cap o2, Nat.le_trans hl.1 (by decide), Nat.le_trans hl.2 (by decide)⟩, b⟩
theorem topCmp (W : World) (F G : FAns) (r s r' s' : Option Addr) (c d c' d' : Nat) (h0 : Hdl W) (h1 : FrR W F r s c d) (h2 : FrR W G r' s' c' d') :
    Calls Tryz.prog 16 #[fracV F.b r F.X.length c s F.Y.length d, fracV G.b r' G.X.length c' s' G.Y.length d'] W fun e w' => e = .returned (.int .i64 (cmA F.b F.X F.Y G.b G.X G.Y)) ∧ Below W.heap.size W w' :=
  implCmp_any F.b r s c d F.X F.Y G.b r' s' c' d' G.X G.Y W h0 h1.1 h1.2.1 h2.1 h2.2.1 (by have := h1.2.2.2.2.1; omega) (by have := h1.2.2.2.2.2; omega) h1.2.2.1 h1.2.2.2.1 (by have := h2.2.2.2.2.1; omega) (by have := h2.2.2.2.2.2; omega) h2.2.2.1 h2.2.2.2.1
theorem topOk (W : World) (F : FAns) (r s : Option Addr) (c d : Nat) (h1 : FrR W F r s c d) :
    Calls Tryz.prog 13 #[fracV F.b r F.X.length c s F.Y.length d] W fun e w' => e = .returned (.bool (fokB F.b F.X F.Y)) ∧ Below W.heap.size W w' :=
  specFok_any F.b r s c d F.X F.Y W h1.1 h1.2.1 (by have := h1.2.2.2.2.1; omega) (by have := h1.2.2.2.2.2; omega)
theorem topInt1 (W : World) : Calls Tryz.prog 15 #[.int .i64 1] W fun e w' => ∃ r2 s2 c2 d2, e = .returned (fracV oneA.b r2 oneA.X.length c2 s2 oneA.Y.length d2) ∧ FrR w' oneA r2 s2 c2 d2 ∧ Below W.heap.size W w' := by
  refine (implFracInt_any 1 W (by decide) (by decide)).mono ?_
  rintro e w' ⟨r2, c2, s2, rfl, o1, o2, _, b⟩
  exact ⟨r2, s2, c2, 1, rfl, ⟨o1.sl, o2.sl, own_cap o1, own_cap o2, by decide, by decide⟩, b⟩

set_option maxRecDepth 20000 in
set_option maxHeartbeats 2000000 in
theorem drawFracRoot_any (a : Option Addr) (len cap : Nat) (bs : List Int) (w : World) (h : SlU w a bs) (hb : ByteL bs) (hl : bs.length = len) (hl2 : len ≤ 1048576) (hcap : len ≤ cap) :
    Calls Tryz.prog 5 #[.slice a len cap] w fun e w' => ∃ F r s c d, e = .returned (fracV F.b r F.X.length c s F.Y.length d) ∧ F.ok = true ∧ FrR w' F r s c d ∧ Below w.heap.size w w' := by
  obtain ⟨w0, hw0⟩ : ∃ w0, w0 = w.alloc (.cells #[.bool false, .slice none 0 0, .slice none 0 0] 25) := ⟨_, rfl⟩
  have b0 : Below w.heap.size w w0 := by rw [hw0]; exact (Below.refl _ w).alloc (Nat.le_refl _) _
  have k0 : BoxC w0 w.heap.size 25 #[.bool false, .slice none 0 0, .slice none 0 0] := by rw [hw0]; exact boxc_new _ _ _
  have n0 := boxc_lt k0
  have h' : SlU w0 a bs := by
    rcases h with h | ⟨b, off, rfl, hlt, hc⟩
    · exact .inl h
    · exact .inr ⟨b, off, rfl, Nat.lt_of_lt_of_le hlt b0.size, fun i hi => (b0.cell (p := ⟨b, off + i, none⟩) hlt).trans (hc i hi)⟩
  have C0 : Hid _ := open_any a len cap bs w0 h' hb hl hl2 hcap
  have CG : Hid (∀ (W : World) (g lb : Nat) (bs' : List Int), Rd W g a lb cap bs' 0 → Calls Tryz.prog 24 #[.pointer (some ⟨g, 0, none⟩)] W fun e w' => FracRet W g a lb cap bs' 0 e w') := fun W g lb bs' hr => frac_any g a lb cap bs' 0 W hr (by omega)
  have CP : Hid (∀ (wr : World) (g lb : Nat) (bs' : List Int) (p' : Nat) (n : Int), Rd wr g a lb cap bs' p' → p' ≤ 1000000 → 1 ≤ n → n ≤ 65536 → Calls Tryz.prog 25 #[.pointer (some ⟨g, 0, none⟩), .int .i64 n] wr fun e w' => ∃ v : Nat, e = .returned (.int .i64 (v : Int)) ∧ (v : Int) < n ∧ Rd w' g a lb cap bs' (p' + 1) ∧ wr.grownBy w' (some g)) := fun wr g lb bs' p' n hr hp hn1 hn2 => (pick_any g a lb cap bs' p' n wr hr hp hn1 hn2).mono fun e w' ⟨v, h1, h2, h3, h4, h5⟩ => ⟨v.toNat, by rw [h1]; congr 2; omega, by omega, h4, h5⟩
  have CM : Hid (∀ (W : World) (F R : FAns) (r s : Option Addr) (c d : Nat), R = opF mulA F F → FrR W F r s c d → Calls Tryz.prog 26 #[fracV F.b r F.X.length c s F.Y.length d, fracV F.b r F.X.length c s F.Y.length d] W fun e w' => ∃ r2 s2 c2 d2, e = .returned (.tuple #[fracV R.b r2 R.X.length c2 s2 R.Y.length d2, .bool R.ok]) ∧ FrR w' R r2 s2 c2 d2 ∧ Below W.heap.size W w') := by
    intro W F R r s c d hR h1
    subst hR
    refine (specMul_any F.b r s c d F.X F.Y F.b r s c d F.X F.Y W h1.1 h1.2.1 h1.1 h1.2.1 (by have := h1.2.2.2.2.1; omega) (by have := h1.2.2.2.2.2; omega) (by have := h1.2.2.2.2.1; omega) (by have := h1.2.2.2.2.2; omega)).mono ?_
    rintro e w' ⟨r2, c2, s2, d2, rfl, o1, o2, b⟩
    have hl := mulA_len F.b F.X F.Y F.b F.X F.Y
    exact ⟨r2, s2, c2, d2, rfl, ⟨o1.sl, o2.sl, own_cap o1, own_cap o2, Nat.le_trans hl.1 (by decide), Nat.le_trans hl.2 (by decide)⟩, b⟩
  unfold FracRet at CG
  unfold fracV at CG CM
  clear h h' hb hl
  go_enter Tryz.func5, Tryz.ntmps5
  go_wp2_with fail
  rw [← hw0]
  clear hw0
  refine Calls.mono C0.out ?_
  rintro e w1 ⟨g, lb, bs', rfl, hg, R1, b1⟩
  have B1 := b0.trans (b1.mono b0.size)
  have k1 := boxc_keep k0 b1
  clear C0 b1 b0 k0
  go_wp2_with fail
  refine Calls.mono (CG.out _ _ _ _ R1) ?_
  rintro e w2 ⟨f, r, cr, X, s, cs, Y, p', rfl, o1, o2, lX, lY, R2, hp2, g2⟩
  have hg1 := R1.lt.1
  have B2 : Below w.heap.size w w2 := B1.grown g2 B1.size (fun k hk => by have := Option.some.inj hk; omega)
  have k2 := boxc_kept k1 g2 (by intro e; have := Option.some.inj e; omega)
  obtain ⟨F, hF⟩ : ∃ F : FAns, F = ⟨f, X, Y, true⟩ := ⟨_, rfl⟩
  have hFok : Hid (F.ok = true) := by rw [hF]; exact rfl
  have FL : F.X.length ≤ 300 ∧ F.Y.length ≤ 300 := by rw [hF]; exact ⟨lX, lY⟩
  have z12 : w1.heap.size ≤ w2.heap.size := g2.size
  obtain rfl : f = F.b := by rw [hF]
  obtain rfl : X = F.X := by rw [hF]
  obtain rfl : Y = F.Y := by rw [hF]
  clear CG R1 g2 B1 k1 hF lX lY
  obtain ⟨w3, hw3⟩ : ∃ w3, w3 = w2.alloc (.cells #[.bool F.b, .slice r F.X.length cr, .slice s F.Y.length cs] 25) := ⟨_, rfl⟩
  obtain ⟨gf, hgf⟩ : ∃ gf, gf = w2.heap.size := ⟨_, rfl⟩
  have b3 : Below w2.heap.size w2 w3 := by rw [hw3]; exact (Below.refl _ w2).alloc (Nat.le_refl _) _
  have kf3 : BoxC w3 gf 25 #[.bool F.b, .slice r F.X.length cr, .slice s F.Y.length cs] := by rw [hw3, hgf]; exact boxc_new _ _ _
  have B3 := B2.trans (b3.mono B2.size)
  have k3 := boxc_keep k2 b3
  have R3 := rd_keep R2 b3
  have o13 := o1.keep b3
  have o23 := o2.keep b3
  have hgf2 : w1.heap.size ≤ gf := by omega
  clear b3 B2 k2 R2 o1 o2
  go_upto_region 3 with fail
  rw [← hw3, ← hgf]
  clear hw3 hgf
  go_wp2_with fail
  refine Calls.mono (CP.out _ _ _ _ _ 3 R3 (by omega) (by omega) (by omega)) ?_
  rintro e w4 ⟨v, rfl, hv, R4, g4⟩
  have nf := boxc_lt kf3
  have B4 : Below w.heap.size w w4 := B3.grown g4 B3.size (fun k hk => by have := Option.some.inj hk; omega)
  have k4 := boxc_kept k3 g4 (by intro e; have := Option.some.inj e; omega)
  have kf4 := boxc_kept kf3 g4 (by intro e; have := Option.some.inj e; omega)
  have o14 := own_far o13 g4 (by omega)
  have o24 := own_far o23 g4 (by omega)
  have F4 : FrR w4 F r s cr cs := ⟨o14.sl, o24.sl, own_cap o14, own_cap o24, FL.1, FL.2⟩
  clear CP R3 R4 B3 k3 kf3 g4 o13 o23 nf o14 o24 FL
  by_cases hv0 : v = 0
  · subst hv0
    obtain ⟨d0, d1, d2, df, dn⟩ := boxc3 k4
    obtain ⟨f0, f1, f2, ff, fn⟩ := boxc3 kf4
    have q1 : Hid _ := FrR.put F4 k4 (.bool F.b) (.slice r F.X.length cr) (.slice s F.Y.length cs)
    have q3 : Hid (Below w.heap.size w _) := below_set3 B4 (Nat.le_refl w.heap.size) (.bool F.b) (.slice r F.X.length cr) (.slice s F.Y.length cs)
    clear CM k4 kf4 B4 F4
    go_wp2
    refine ⟨rfl, .agg #[.bool F.b, .slice r F.X.length cr, .slice s F.Y.length cs], ?_, F, r, s, cr, cs, rfl, hFok.out, q1.out, q3.out⟩
    simp [results, Tryz.f5, go_sem, d0, d1, d2]
  · have hvI : (0 : Int) < (v : Int) := by omega
    obtain ⟨R, hR'⟩ : ∃ R, R = opF mulA F F := ⟨_, rfl⟩
    have hR : Hid (R = opF mulA F F) := hR'
    clear hR'
    obtain ⟨f0, f1, f2, ff, fn⟩ := boxc3 kf4
    go_wp2_with fail
    refine Calls.mono (CM.out _ F R _ _ _ _ hR.out F4) ?_
    rintro e w5 ⟨r5, s5, c5, d5, rfl, F5, b5⟩
    clear f0 f1 f2 ff fn
    have B5 := B4.trans (b5.mono B4.size)
    have k5 := boxc_keep k4 b5
    have kf5 := boxc_keep kf4 b5
    have G5 := F4.keep b5
    clear CM k4 kf4 B4 F4 b5
    obtain ⟨w6, hw6⟩ : ∃ w6, w6 = w5.alloc (.cells #[.bool R.b, .slice r5 R.X.length c5, .slice s5 R.Y.length d5] 25) := ⟨_, rfl⟩
    obtain ⟨g6, hg6⟩ : ∃ g6, g6 = w5.heap.size := ⟨_, rfl⟩
    have b6 : Below w5.heap.size w5 w6 := by rw [hw6]; exact (Below.refl _ w5).alloc (Nat.le_refl _) _
    have kr6 : BoxC w6 g6 25 #[.bool R.b, .slice r5 R.X.length c5, .slice s5 R.Y.length d5] := by rw [hw6, hg6]; exact boxc_new _ _ _
    have B6 := B5.trans (b6.mono B5.size)
    have k6 := boxc_keep k5 b6
    have kf6 := boxc_keep kf5 b6
    have G6 := G5.keep b6
    have F6 := F5.keep b6
    clear k5 kf5 B5 G5 F5 b6
    go_upto_region 5 with fail
    rw [← hw6, ← hg6]
    clear hw6 hg6
    obtain ⟨d0, d1, d2, df, dn⟩ := boxc3 k6
    cases hok : R.ok with
    | true =>
      obtain ⟨f0, f1, f2, ff, fn⟩ := boxc3 kr6
      have q1 : Hid _ := FrR.put F6 k6 (.bool R.b) (.slice r5 R.X.length c5) (.slice s5 R.Y.length d5)
      have q3 : Hid (Below w.heap.size w _) := below_set3 B6 (Nat.le_refl w.heap.size) (.bool R.b) (.slice r5 R.X.length c5) (.slice s5 R.Y.length d5)
      clear k6 kf6 kr6 B6 G6 F6
      go_wp2
      refine ⟨rfl, .agg #[.bool R.b, .slice r5 R.X.length c5, .slice s5 R.Y.length d5], ?_, R, r5, s5, c5, d5, rfl, hok, q1.out, q3.out⟩
      simp [results, Tryz.f5, go_sem, d0, d1, d2]
    | false =>
      obtain ⟨f0, f1, f2, ff, fn⟩ := boxc3 kf6
      have q1 : Hid _ := FrR.put G6 k6 (.bool F.b) (.slice r F.X.length cr) (.slice s F.Y.length cs)
      have q3 : Hid (Below w.heap.size w _) := below_set3 B6 (Nat.le_refl w.heap.size) (.bool F.b) (.slice r F.X.length cr) (.slice s F.Y.length cs)
      clear k6 kf6 kr6 B6 G6 F6
      go_wp2
      refine ⟨rfl, .agg #[.bool F.b, .slice r F.X.length cr, .slice s F.Y.length cs], ?_, F, r, s, cr, cs, rfl, hFok.out, q1.out, q3.out⟩
      simp [results, Tryz.f5, go_sem, d0, d1, d2]
end Go.Proofs.YthokphoojmpajabGreatDoor
