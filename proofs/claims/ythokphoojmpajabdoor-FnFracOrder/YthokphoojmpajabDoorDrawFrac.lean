/- The contracts of l4Rd.good and GoodFrac: a drawn fraction in lowest terms. -/
import Derived.Test.YthokphoojmpajabDoorFrOf
import Derived.Test.YthokphoojmpajabDoorFracInt
import Derived.Test.YthokphoojmpajabDoorGDraw
import Derived.OpenShut
namespace Go.Proofs.YthokphoojmpajabDoor
open Go.RowKit Go.Proofs.Pin

theorem isRow_u8b {w : World} {a : Option Addr} {len cap : Nat} {zs : List Int} (h : IsRow .u8 w a len cap zs) : SlU w a (zs.take len) ∧ ByteL (zs.take len) ∧ (zs.take len).length = len ∧ len ≤ cap := by
  rcases h with ⟨rfl, rfl, rfl, rfl⟩ | ⟨x, rfl, hl, _, hz, hc, hw⟩
  · exact ⟨.inl rfl, fun i => by simp, rfl, Nat.le_refl _⟩
  · have hlen : (zs.take len).length = len := by simp; omega
    refine ⟨?_, fun i => ?_, hlen, hl⟩
    · by_cases h0 : len = 0
      · subst h0; exact .inl rfl
      · obtain ⟨b, off, spot⟩ := x
        have hspot : spot = none := by simpa [Addr.add] using World.cell?_spot (hc 0 (by omega))
        subst hspot
        refine .inr ⟨b, off, rfl, ?_, fun i hi => ?_⟩
        · have h1 := hc 0 (by omega)
          rcases Nat.lt_or_ge b w.heap.size with h' | h'
          · exact h'
          · simp [World.cell?, Addr.add, Array.getElem?_eq_none h'] at h1
        · have h1 := hc i (by omega)
          have e : (⟨b, off, none⟩ : Addr).add i = ⟨b, off + i, none⟩ := by
            unfold Addr.add
            split
            · subst_vars; rfl
            · rfl
          rw [e] at h1
          rw [h1]
          simp [List.getD_eq_getElem?_getD, show i < len by omega]
    · by_cases hi : i < (zs.take len).length
      · have hm : (zs.take len).getD i 0 ∈ zs := by
          rw [List.getD_eq_getElem?_getD, List.getElem?_eq_getElem hi]
          exact List.mem_of_mem_take (List.getElem_mem hi)
        have := bounds_u8 (hw _ hm)
        omega
      · simp [List.getD_eq_getElem?_getD, List.getElem?_eq_none (Nat.le_of_not_lt hi)]
theorem gr_below {w w1 w2 : World} {g : Nat} (h : w.grownBy w1 (some g)) (b : Below w1.heap.size w1 w2) : w.grownBy w2 (some g) := grown_two h ⟨b.os, b.tape, b.output, b.size, fun k hk _ => b.block k hk⟩
theorem rd_keep {w w' : World} {g : Nat} {b : Option Addr} {lb cb : Nat} {bs : List Int} {p : Nat} (h : Rd w g b lb cb bs p) (hb : Below w.heap.size w w') : Rd w' g b lb cb bs p :=
  h.kept (row := none) ⟨hb.os, hb.tape, hb.output, hb.size, fun k hk _ => hb.block k hk⟩ (by simp) (by simp)
theorem rd_fin {w w4 : World} {g : Nat} {b : Option Addr} {lb cb : Nat} {bs : List Int} {p : Nat} (G : w.grownBy w4 (some g)) (R : Rd w4 g b lb cb bs p) (h1 : g < w.heap.size) (h2 : ∀ x, b = some x → bs ≠ [] → x.block < w.heap.size) (x y z : Value) :
    w.grownBy (((w4.setCell ⟨w.heap.size, 0, none⟩ x).setCell ⟨w.heap.size, 1, none⟩ y).setCell ⟨w.heap.size, 2, none⟩ z) (some g) ∧ Rd (((w4.setCell ⟨w.heap.size, 0, none⟩ x).setCell ⟨w.heap.size, 1, none⟩ y).setCell ⟨w.heap.size, 2, none⟩ z) g b lb cb bs p :=
  ⟨grown_new G (gr_set3 _ _ _ _ _) (fun j hj => by cases hj; exact Nat.le_refl _), R.kept (gr_set3 _ _ _ _ _) (by intro e; have := Option.some.inj e; omega) (fun a ha hn e => by have := h2 a ha hn; have := Option.some.inj e; omega)⟩
theorem makeA_fok {b : Bool} {x y : Nat} (hy : y ≠ 0) (h : (makeA b x y).ok = true) : fokB (makeA b x y).b (makeA b x y).X (makeA b x y).Y = true := by
  unfold makeA at h ⊢
  split at h
  · rename_i hl
    rw [if_pos hl]
    show fokB (b && decide (0 < (loX x y).length)) (loX x y) (loY x y) = true
    unfold loX loY at hl ⊢
    have hg : 0 < Nat.gcd x y := Nat.gcd_pos_of_pos_right _ (by omega)
    refine fok_mk hl.1 hl.2 ?_ ?_ ?_
    · exact Nat.ne_of_gt (Nat.div_pos (Nat.le_of_dvd (by omega) (Nat.gcd_dvd_right x y)) hg)
    · intro hb
      simp only [Bool.and_eq_true, decide_eq_true_eq] at hb
      exact (dgs_pos_len _).1 hb.2
    · rw [Nat.gcd_div (Nat.gcd_dvd_left x y) (Nat.gcd_dvd_right x y), Nat.div_self hg]
  · cases h
theorem int_fok (n : Int) (h0 : -10 ≤ n) (h1 : n ≤ 10) : fokB (decide (n < 0)) (dgs n.natAbs) [1] = true ∧ (dgs n.natAbs).length ≤ 256 := by
  have hl : (dgs n.natAbs).length ≤ 1 := (dgs_len_iff _ 1).2 (by omega)
  have e : ([1] : List Int) = dgs 1 := rfl
  refine ⟨?_, by omega⟩
  rw [e]
  refine fok_mk (by omega) (by decide) (by decide) ?_ (Nat.gcd_one_right _)
  intro h
  have := of_decide_eq_true h
  omega

set_option maxRecDepth 20000 in
set_option maxHeartbeats 4000000 in
theorem good_any (g : Nat) (b : Option Addr) (lb cb : Nat) (bs : List Int) (p : Nat) (w : World) (h : Rd w g b lb cb bs p) (hp : p ≤ 700000) :
    Calls Tryd.prog 18 #[.pointer (some ⟨g, 0, none⟩)] w fun e w' => ∃ f r cr X s cs Y p', e = .returned (fracV f r X.length cr s Y.length cs) ∧ OwnI w' w.heap.size r cr X ∧ OwnI w' w.heap.size s cs Y ∧ fokB f X Y = true ∧ X.length ≤ 256 ∧ Y.length ≤ 256 ∧ Rd w' g b lb cb bs p' ∧ p' ≤ p + 2000 ∧ w.grownBy w' (some g) := by
  obtain ⟨hgl, hbl⟩ := h.lt
  obtain ⟨w0, hw0⟩ : ∃ w0, w0 = w.alloc (.cells #[.bool false, .slice none 0 0, .slice none 0 0] 25) := ⟨_, rfl⟩
  have b0 : Below w.heap.size w w0 := by rw [hw0]; exact (Below.refl _ w).alloc (Nat.le_refl _) _
  have R0 : Rd w0 g b lb cb bs p := rd_keep h b0
  have HG0 : Hid (w.grownBy w0 (some g)) := gr_below (World.grownBy.refl _ _) b0
  have k0 : BoxC w0 w.heap.size 25 #[.bool false, .slice none 0 0, .slice none 0 0] := by rw [hw0]; exact boxc_new _ _ _
  have HK0 : Hid (BoxC w0 w.heap.size 25 #[.bool false, .slice none 0 0, .slice none 0 0]) := k0
  have n0 := boxc_lt k0
  have HBL : Hid (∀ x, b = some x → bs ≠ [] → x.block < w.heap.size) := hbl
  have CP : Hid (∀ (wr : World) (p' : Nat) (n : Int), Rd wr g b lb cb bs p' → p' ≤ 1000000 → 1 ≤ n → n ≤ 65536 → Calls Tryd.prog 41 #[.pointer (some ⟨g, 0, none⟩), .int .i64 n] wr fun e w' => ∃ v : Nat, e = .returned (.int .i64 (v : Int)) ∧ (v : Int) < n ∧ Rd w' g b lb cb bs (p' + 1) ∧ wr.grownBy w' (some g)) := fun wr p' n hr hp hn1 hn2 => (pick_any g b lb cb bs p' n wr hr hp hn1 hn2).mono fun e w' ⟨v, h1, h2, h3, h4, h5⟩ => ⟨v.toNat, by rw [h1]; congr 2; omega, by omega, h4, h5⟩
  have CN : Hid (∀ (wr : World) (p' : Nat), Rd wr g b lb cb bs p' → p' ≤ 900000 → Calls Tryd.prog 19 #[.pointer (some ⟨g, 0, none⟩)] wr fun e w' => ∃ r cr X x q, e = .returned (.slice r X.length cr) ∧ X = dgs x ∧ OwnI w' wr.heap.size r cr X ∧ X.length ≤ 256 ∧ Rd w' g b lb cb bs q ∧ q ≤ p' + 600 ∧ wr.grownBy w' (some g)) := fun wr p' hr hp => (nat_any g b lb cb bs p' wr hr hp).mono fun e w' ⟨r, cr, x, q, h1, h2, h3, h4, h5, h6⟩ => ⟨r, cr, _, x, q, h1, rfl, h2, h3, h4, h5, h6⟩
  have CF : Hid (∀ (W : World) (f : Bool) (r s : Option Addr) (cr cs : Nat) (X Y : List Int) (x y : Nat), X = dgs x → Y = dgs y → y ≠ 0 → Sl W r X → Sl W s Y → X.length ≤ 256 → Y.length ≤ 256 → Calls Tryd.prog 42 #[.bool f, .slice r X.length cr, .slice s Y.length cs] W fun e w' => ∃ A : FAns, (A.ok = true → fokB A.b A.X A.Y = true) ∧ A.X.length ≤ 256 ∧ A.Y.length ≤ 256 ∧ RetS W e w' A) := by
    intro W f r s cr cs X Y x y hX hY hy h1 h2 l1 l2
    refine (specFOf_any f r s cr cs X Y W h1 h2 (by omega) (by omega)).mono ?_
    intro e w' hr
    refine ⟨ofA f X Y, ?_, (ofA_len f X Y).1, (ofA_len f X Y).2, hr⟩
    subst hX
    subst hY
    have e : ofA f (dgs x) (dgs y) = makeA f x y := by
      unfold ofA
      rw [if_pos ⟨dgs_ok l1, dgs_ok l2, fun h => hy ((dgs_nil_iff y).1 h)⟩, val_dgs, val_dgs, Int.toNat_natCast, Int.toNat_natCast]
    rw [e]
    exact makeA_fok hy
  have CI : Hid (∀ (W : World) (n : Int), -10 ≤ n → n ≤ 10 → Calls Tryd.prog 43 #[.int .i64 n] W fun e w' => ∃ f r cr X s, e = .returned (fracV f r X.length cr s 1 1) ∧ OwnI w' W.heap.size r cr X ∧ OwnI w' W.heap.size s 1 [1] ∧ fokB f X [1] = true ∧ X.length ≤ 256 ∧ Below W.heap.size W w') := fun W n h0 h1 => (specFracInt_any n W (by omega) (by omega)).mono fun e w' ⟨r, cr, s, h2, h3, h4, h5⟩ => ⟨_, r, cr, _, s, h2, h3, h4, (int_fok n h0 h1).1, (int_fok n h0 h1).2, h5⟩
  unfold RetS at CF
  unfold fracV at CF CI
  clear h b0 k0 hbl
  go_enter Tryd.func18, Tryd.ntmps18
  go_wp2_with fail
  rw [← hw0]
  clear hw0
  refine Calls.mono (CN.out _ _ R0 (by omega)) ?_
  rintro e w1 ⟨r1, c1, Y1, y1, p1, rfl, hY1', o1, l1, R1, hp1, g1⟩
  have hY1 : Hid (Y1 = dgs y1) := hY1'
  clear R0 hY1'
  dsimp only
  go_step
  go_step
  go_step
  (rename_i hK; refine hK _ _ ?_)
  go_step
  go_step
  go_step
  go_step
  go_cut [3] from 6 (fun v wx => ∃ r c Y y q, v = .slice r (List.length Y) c ∧ Y = dgs y ∧ y ≠ 0 ∧ Y.length ≤ 256 ∧ OwnI wx w0.heap.size r c Y ∧ Rd wx g b lb cb bs q ∧ q ≤ p + 700 ∧ w0.grownBy wx (some g))
  case first =>
    have lit : ∀ (w2 : World) (v p2 : Nat), (v : Int) < 9 → w0.grownBy w2 (some g) → Rd w2 g b lb cb bs p2 → p2 ≤ p + 700 → ∃ r c Y y q, Value.slice (some ⟨w2.heap.size, 0, none⟩) 1 1 = .slice r (List.length Y) c ∧ Y = dgs y ∧ y ≠ 0 ∧ Y.length ≤ 256 ∧ OwnI (w2.alloc (.cells #[.int .i64 (1 + (v : Int))] 3)) w0.heap.size r c Y ∧ Rd (w2.alloc (.cells #[.int .i64 (1 + (v : Int))] 3)) g b lb cb bs q ∧ q ≤ p + 700 ∧ w0.grownBy (w2.alloc (.cells #[.int .i64 (1 + (v : Int))] 3)) (some g) := by
      intro w2 v p2 hv hg hr hp2
      have bb : Below w2.heap.size w2 (w2.alloc (.cells #[.int .i64 (1 + (v : Int))] 3)) := (Below.refl _ w2).alloc (Nat.le_refl _) _
      refine ⟨_, _, [1 + (v : Int)], 1 + v, p2, rfl, ?_, by omega, by simp, (own_lit w2 _).mono hg.size, rd_keep hr bb, hp2, gr_below hg bb⟩
      rw [dgs_digit (by omega) (by omega)]
      all_goals (try congr 1)
      all_goals (try omega)
    have LIT : Hid _ := lit
    clear lit
    by_cases hz : y1 = 0
    · have hl : ((Y1.length : Int) == 0) = true := by rw [hY1.out, hz]; rfl
      clear hz hY1 o1 l1
      go_wp2_with fail
      refine Calls.mono (CP.out _ _ 9 R1 (by omega) (by omega) (by omega)) ?_
      rintro e w2 ⟨v, rfl, hv, R2, g2⟩
      go_wp2_with fail
      go_meet
      exact LIT.out w2 v _ hv (grown_two g1 g2) R2 (by omega)
    · have hl : ((Y1.length : Int) == 0) = false := by
        rw [beq_eq_false_iff_ne, hY1.out]
        have := (dgs_pos_len y1).2 hz
        omega
      go_wp2_with fail
      refine Calls.mono (CP.out _ _ 3 R1 (by omega) (by omega) (by omega)) ?_
      rintro e w2 ⟨v, rfl, hv, R2, g2⟩
      have g02 := grown_two g1 g2
      by_cases hv0 : v = 0
      · subst hv0
        clear hz hY1 o1 l1
        go_wp2_with fail
        refine Calls.mono (CP.out _ _ 9 R2 (by omega) (by omega) (by omega)) ?_
        rintro e w3 ⟨v3, rfl, hv3, R3, g3⟩
        go_wp2_with fail
        go_meet
        exact LIT.out w3 v3 _ hv3 (grown_two g02 g3) R3 (by omega)
      · have hvb : ((v : Int) == 0) = false := by rw [beq_eq_false_iff_ne]; omega
        have o2 := own_far o1 g2 (by omega)
        go_wp2_with fail
        go_meet
        exact ⟨_, _, Y1, y1, _, rfl, hY1.out, hz, l1, o2, R2, by omega, g02⟩
  case rest =>
    obtain ⟨r, c, Y, y, q, rfl, hY', hy0, lY, oY, RY, hq, gY⟩ := hcut
    have hY : Hid (Y = dgs y) := hY'
    clear o1 R1 g1 hY1 l1 hp1 hY'
    go_wp2_with fail
    refine Calls.mono (CP.out _ _ 2 RY (by omega) (by omega) (by omega)) ?_
    rintro e w2 ⟨v, rfl, hv, R2, g2⟩
    have oY2 := own_far oY g2 (by omega)
    have gY2 := grown_two gY g2
    clear oY RY gY g2
    obtain ⟨f, hf⟩ : ∃ f, f = ((v : Int) == 0) := ⟨_, rfl⟩
    have HF : Hid (f = ((v : Int) == 0)) := hf
    clear hf
    go_wp2_with fail
    refine Calls.mono (CN.out _ _ R2 (by omega)) ?_
    rintro e w3 ⟨r3, c3, X, x, p3, rfl, hX', oX, lX, R3, hp3, g3⟩
    have hX : Hid (X = dgs x) := hX'
    clear hX'
    have oY3 := own_far oY2 g3 (by omega)
    have gY3 := grown_two gY2 g3
    clear oY2 R2 gY2 g3
    go_wp2_with fail
    rw [← HF.out]
    refine Calls.mono (CF.out _ f _ _ _ _ _ _ x y hX.out hY.out hy0 oX.sl oY3.sl lX lY) ?_
    rintro e w4 ⟨A, hA, lA, lA', r4, c4, s4, d4, rfl, o4, o4', b4⟩
    have z3 : w0.heap.size ≤ w3.heap.size := gY3.size
    have R4 := rd_keep R3 b4
    have gY4 := gr_below gY3 b4
    clear HF oX oY3 R3 b4 CF CN
    obtain ⟨w5, hw5⟩ : ∃ w5, w5 = w4.alloc (.cells #[.bool A.b, .slice r4 A.X.length c4, .slice s4 A.Y.length d4] 25) := ⟨_, rfl⟩
    obtain ⟨g5, hg5⟩ : ∃ g5, g5 = w4.heap.size := ⟨_, rfl⟩
    have b5 : Below w4.heap.size w4 w5 := by rw [hw5]; exact (Below.refl _ w4).alloc (Nat.le_refl _) _
    have kf : BoxC w5 g5 25 #[.bool A.b, .slice r4 A.X.length c4, .slice s4 A.Y.length d4] := by rw [hw5, hg5]; exact boxc_new _ _ _
    have R5 := rd_keep R4 b5
    have gY5 := gr_below gY4 b5
    have o5 := (o4.keep b5).mono (base' := w0.heap.size) z3
    have o5' := (o4'.keep b5).mono (base' := w0.heap.size) z3
    have k5 := boxc_kept HK0.out gY5 (by intro e; have := Option.some.inj e; omega)
    have G5 := grown_two HG0.out gY5
    clear b5 o4 o4' R4 gY4 z3
    go_upto_region 5 with fail
    rw [← hw5, ← hg5]
    clear hw5 hg5
    cases hok : A.ok with
    | false =>
      clear kf o5 o5' hA
      go_wp2_with fail
      refine Calls.mono (CP.out _ _ 9 R5 (by omega) (by omega) (by omega)) ?_
      rintro e w6 ⟨v6, rfl, hv6, R6, g6⟩
      have gY6 := grown_two gY5 g6
      have z6 : w0.heap.size ≤ w6.heap.size := gY6.size
      have k6 := boxc_kept k5 g6 (by intro e; have := Option.some.inj e; omega)
      have G6 := grown_two G5 g6
      clear R5 gY5 g6 G5 k5 CP
      go_wp2_with fail
      refine Calls.mono (CI.out _ _ (by omega) (by omega)) ?_
      rintro e w7 ⟨f7, r7, c7, X7, s7, rfl, o7, o7', hk7, l7, b7⟩
      have R7 := rd_keep R6 b7
      have G7 := gr_below G6 b7
      have k7 := boxc_keep k6 b7
      obtain ⟨d0, d1, d2, df, dn⟩ := boxc3 k7
      have FIN : Hid _ := rd_fin G7 R7 hgl HBL.out (.bool f7) (.slice r7 X7.length c7) (.slice s7 1 1)
      have q7 : Hid _ := (own_far o7 (gr_set3 w7 w.heap.size (.bool f7) (.slice r7 X7.length c7) (.slice s7 1 1)) (by omega)).mono (base' := w.heap.size) (by omega)
      have q7' : Hid _ := (own_far o7' (gr_set3 w7 w.heap.size (.bool f7) (.slice r7 X7.length c7) (.slice s7 1 1)) (by omega)).mono (base' := w.heap.size) (by omega)
      clear R6 G6 b7 k6 k7 R7 G7 o7 o7' CI
      go_wp2
      refine ⟨rfl, .agg #[.bool f7, .slice r7 X7.length c7, .slice s7 1 1], ?_, f7, r7, c7, X7, s7, 1, [1], _, rfl, q7.out, q7'.out, hk7, l7, by decide, FIN.out.2, by omega, FIN.out.1⟩
      simp [results, Tryd.f18, go_sem, d0, d1, d2]
    | true =>
      have hk := hA hok
      obtain ⟨d0, d1, d2, df, dn⟩ := boxc3 k5
      obtain ⟨f0, f1, f2, ff, fn⟩ := boxc3 kf
      have FIN : Hid _ := rd_fin G5 R5 hgl HBL.out (.bool A.b) (.slice r4 A.X.length c4) (.slice s4 A.Y.length d4)
      have q5 : Hid _ := (own_far o5 (gr_set3 w5 w.heap.size (.bool A.b) (.slice r4 A.X.length c4) (.slice s4 A.Y.length d4)) n0).mono (base' := w.heap.size) (by omega)
      have q5' : Hid _ := (own_far o5' (gr_set3 w5 w.heap.size (.bool A.b) (.slice r4 A.X.length c4) (.slice s4 A.Y.length d4)) n0).mono (base' := w.heap.size) (by omega)
      clear kf o5 o5' hA k5 G5 R5 gY5 CP CI
      go_wp2
      refine ⟨rfl, .agg #[.bool A.b, .slice r4 A.X.length c4, .slice s4 A.Y.length d4], ?_, A.b, r4, c4, A.X, s4, d4, A.Y, _, rfl, q5.out, q5'.out, hk, lA, lA', FIN.out.2, by omega, FIN.out.1⟩
      simp [results, Tryd.f18, go_sem, d0, d1, d2]

set_option maxRecDepth 20000 in
set_option maxHeartbeats 1000000 in
theorem goodFrac_any (a : Option Addr) (len cap : Nat) (bs : List Int) (w : World) (h : SlU w a bs) (hb : ByteL bs) (hl : bs.length = len) (hl2 : len ≤ 1048576) (hcap : len ≤ cap) :
    Calls Tryd.prog 5 #[.slice a len cap] w fun e w' => ∃ f r cr X s cs Y, e = .returned (fracV f r X.length cr s Y.length cs) ∧ OwnI w' w.heap.size r cr X ∧ OwnI w' w.heap.size s cs Y ∧ fokB f X Y = true ∧ X.length ≤ 256 ∧ Y.length ≤ 256 ∧ Below w.heap.size w w' := by
  obtain ⟨w0, hw0⟩ : ∃ w0, w0 = w.alloc (.cells #[.bool false, .slice none 0 0, .slice none 0 0] 25) := ⟨_, rfl⟩
  have b0 : Below w.heap.size w w0 := by rw [hw0]; exact (Below.refl _ w).alloc (Nat.le_refl _) _
  have k0 : BoxC w0 w.heap.size 25 #[.bool false, .slice none 0 0, .slice none 0 0] := by rw [hw0]; exact boxc_new _ _ _
  have n0 := boxc_lt k0
  have h' : SlU w0 a bs := by
    rcases h with h | ⟨b, off, rfl, hlt, hc⟩
    · exact .inl h
    · exact .inr ⟨b, off, rfl, Nat.lt_of_lt_of_le hlt b0.size, fun i hi => (b0.cell (p := ⟨b, off + i, none⟩) hlt).trans (hc i hi)⟩
  have C0 : Hid _ := open_any a len cap bs w0 h' hb hl hl2 hcap
  have CG : Hid (∀ (W : World) (g lb : Nat) (bs' : List Int), Rd W g a lb cap bs' 0 → Calls Tryd.prog 18 #[.pointer (some ⟨g, 0, none⟩)] W fun e w' => ∃ f r cr X s cs Y p', e = .returned (fracV f r X.length cr s Y.length cs) ∧ OwnI w' W.heap.size r cr X ∧ OwnI w' W.heap.size s cs Y ∧ fokB f X Y = true ∧ X.length ≤ 256 ∧ Y.length ≤ 256 ∧ Rd w' g a lb cap bs' p' ∧ p' ≤ 0 + 2000 ∧ W.grownBy w' (some g)) := fun W g lb bs' hr => good_any g a lb cap bs' 0 W hr (by omega)
  unfold fracV at CG ⊢
  clear h h' hb hl
  go_enter Tryd.func5, Tryd.ntmps5
  go_wp2_with fail
  rw [← hw0]
  clear hw0
  refine Calls.mono C0.out ?_
  rintro e w1 ⟨g, lb, bs', rfl, hg, R1, b1⟩
  have B1 := b0.trans (b1.mono b0.size)
  have k1 := boxc_keep k0 b1
  clear C0 b1 b0 k0
  go_wp2_with fail
  refine Calls.mono (CG.out _ _ _ _ R1) ?_
  rintro e w2 ⟨f, r, cr, X, s, cs, Y, p', rfl, o1, o2, hk, lX, lY, _, _, g2⟩
  have B2 : Below w.heap.size w w2 := B1.grown g2 B1.size (fun k hk => by cases hk; omega)
  have k2 := boxc_kept k1 g2 (by intro e; have := Option.some.inj e; omega)
  have n1 := boxc_lt k1
  obtain ⟨d0, d1, d2, df, dn⟩ := boxc3 k2
  have q1 : Hid _ := (own_far o1 (gr_set3 w2 w.heap.size (.bool f) (.slice r X.length cr) (.slice s Y.length cs)) n1).mono (base' := w.heap.size) (by omega)
  have q2 : Hid _ := (own_far o2 (gr_set3 w2 w.heap.size (.bool f) (.slice r X.length cr) (.slice s Y.length cs)) n1).mono (base' := w.heap.size) (by omega)
  have q3 : Hid (Below w.heap.size w _) := below_set3 B2 (Nat.le_refl w.heap.size) (.bool f) (.slice r X.length cr) (.slice s Y.length cs)
  clear CG R1 o1 o2 g2 B2 B1 k1 k2
  go_wp2
  refine ⟨rfl, .agg #[.bool f, .slice r X.length cr, .slice s Y.length cs], ?_, f, r, cr, X, s, cs, Y, rfl, q1.out, q2.out, hk, lX, lY, q3.out⟩
  simp [results, Tryd.f5, go_sem, d0, d1, d2]

set_option maxRecDepth 20000 in
theorem goodNat_any (a : Option Addr) (len cap : Nat) (bs : List Int) (w : World) (h : SlU w a bs) (hb : ByteL bs) (hl : bs.length = len) (hl2 : len ≤ 1048576) (hcap : len ≤ cap) :
    Calls Tryd.prog 6 #[.slice a len cap] w fun e w' => ∃ r cr x, e = .returned (.slice r (dgs x).length cr) ∧ OwnI w' w.heap.size r cr (dgs x) ∧ (dgs x).length ≤ 256 ∧ Below w.heap.size w w' := by
  have C0 : Hid _ := open_any a len cap bs w h hb hl hl2 hcap
  clear h hb hl
  go_enter Tryd.func6, Tryd.ntmps6
  go_wp2_with fail
  refine Calls.mono C0.out ?_
  rintro e w1 ⟨g, lb, bs', rfl, hg, R1, B1⟩
  have C1 : Hid _ := nat_any g a lb cap bs' 0 w1 R1 (by omega)
  clear C0 R1
  go_wp2_with fail
  refine Calls.mono C1.out ?_
  rintro e w2 ⟨r, cr, x, p2, rfl, o2, hz, _, _, g2⟩
  have B2 : Below w.heap.size w w2 := B1.grown g2 B1.size (fun k hk => by cases hk; exact hg)
  have H2 : Hid (OwnI w2 w.heap.size r cr (dgs x) ∧ Below w.heap.size w w2) := ⟨o2.mono B1.size, B2⟩
  obtain ⟨X, hX⟩ : ∃ X, X = dgs x := ⟨_, rfl⟩
  have HX : Hid (dgs x = X) := hX.symm
  rw [← hX]
  clear C1 g2 B1 o2 B2 hX
  go_wp2
  go_ret
  exact ⟨r, cr, x, by rw [HX.out]; rfl, H2.out.1, hz, H2.out.2⟩
end Go.Proofs.YthokphoojmpajabDoor
