/- The contracts of l4Rd.good and GoodFrac: a drawn fraction in lowest terms. The contract of l4Rd.frac: a drawn fraction, now and then none. -/
import Derived.Test.YthokphoojmpajabGreatDoorFrOf
import Derived.Test.YthokphoojmpajabGreatDoorGFI
import Derived.Test.YthokphoojmpajabGreatDoorGDraw
import Derived.OpenShut
import Derived.Laws.AppendOwnNone
namespace Go.Proofs.YthokphoojmpajabGreatDoor
open Go.RowKit Go.Proofs.Pin

theorem isRow_u8b {w : World} {a : Option Addr} {len cap : Nat} {zs : List Int} (h : IsRow .u8 w a len cap zs) : SlU w a (zs.take len) ∧ ByteL (zs.take len) ∧ (zs.take len).length = len ∧ len ≤ cap := by
  rcases h with ⟨rfl, rfl, rfl, rfl⟩ | ⟨x, rfl, hl, _, hz, hc, hw⟩
  · exact ⟨.inl rfl, fun i => by simp, rfl, Nat.le_refl _⟩
  · have hlen : (zs.take len).length = len := by simp; omega
    refine ⟨?_, fun i => ?_, hlen, hl⟩
    · by_cases h0 : len = 0
      · subst h0; exact .inl rfl
      · obtain ⟨b, off, spot⟩ := x
        have hspot : spot = none := by simpa [Addr.add] using World.cell?_spot (hc 0 (by omega))
        subst hspot
        refine .inr ⟨b, off, rfl, ?_, fun i hi => ?_⟩
        · have h1 := hc 0 (by omega)
          rcases Nat.lt_or_ge b w.heap.size with h' | h'
          · exact h'
          · simp [World.cell?, Addr.add, Array.getElem?_eq_none h'] at h1
        · have h1 := hc i (by omega)
          have e : (⟨b, off, none⟩ : Addr).add i = ⟨b, off + i, none⟩ := by
            unfold Addr.add
            split
            · subst_vars; rfl
            · rfl
          rw [e] at h1
          rw [h1]
          simp [List.getD_eq_getElem?_getD, show i < len by omega]
    · by_cases hi : i < (zs.take len).length
      · have hm : (zs.take len).getD i 0 ∈ zs := by
          rw [List.getD_eq_getElem?_getD, List.getElem?_eq_getElem hi]
          exact List.mem_of_mem_take (List.getElem_mem hi)
        have := bounds_u8 (hw _ hm)
        omega
      · simp [List.getD_eq_getElem?_getD, List.getElem?_eq_none (Nat.le_of_not_lt hi)]
theorem gr_below {w w1 w2 : World} {g : Nat} (h : w.grownBy w1 (some g)) (b : Below w1.heap.size w1 w2) : w.grownBy w2 (some g) := grown_two h ⟨b.os, b.tape, b.output, b.size, fun k hk _ => b.block k hk⟩
theorem rd_keep {w w' : World} {g : Nat} {b : Option Addr} {lb cb : Nat} {bs : List Int} {p : Nat} (h : Rd w g b lb cb bs p) (hb : Below w.heap.size w w') : Rd w' g b lb cb bs p :=
  h.kept (row := none) ⟨hb.os, hb.tape, hb.output, hb.size, fun k hk _ => hb.block k hk⟩ (by simp) (by simp)
theorem rd_fin {w w4 : World} {g : Nat} {b : Option Addr} {lb cb : Nat} {bs : List Int} {p : Nat} (G : w.grownBy w4 (some g)) (R : Rd w4 g b lb cb bs p) (h1 : g < w.heap.size) (h2 : ∀ x, b = some x → bs ≠ [] → x.block < w.heap.size) (x y z : Value) :
    w.grownBy (((w4.setCell ⟨w.heap.size, 0, none⟩ x).setCell ⟨w.heap.size, 1, none⟩ y).setCell ⟨w.heap.size, 2, none⟩ z) (some g) ∧ Rd (((w4.setCell ⟨w.heap.size, 0, none⟩ x).setCell ⟨w.heap.size, 1, none⟩ y).setCell ⟨w.heap.size, 2, none⟩ z) g b lb cb bs p :=
  ⟨grown_new G (gr_set3 _ _ _ _ _) (fun j hj => by cases hj; exact Nat.le_refl _), R.kept (gr_set3 _ _ _ _ _) (by intro e; have := Option.some.inj e; omega) (fun a ha hn e => by have := h2 a ha hn; have := Option.some.inj e; omega)⟩
theorem makeA_fok {b : Bool} {x y : Nat} (hy : y ≠ 0) (h : (makeA b x y).ok = true) : fokB (makeA b x y).b (makeA b x y).X (makeA b x y).Y = true := by
  unfold makeA at h ⊢
  split at h
  · rename_i hl
    rw [if_pos hl]
    show fokB (b && decide (0 < (loX x y).length)) (loX x y) (loY x y) = true
    unfold loX loY at hl ⊢
    have hg : 0 < Nat.gcd x y := Nat.gcd_pos_of_pos_right _ (by omega)
    refine fok_mk hl.1 hl.2 ?_ ?_ ?_
    · exact Nat.ne_of_gt (Nat.div_pos (Nat.le_of_dvd (by omega) (Nat.gcd_dvd_right x y)) hg)
    · intro hb
      simp only [Bool.and_eq_true, decide_eq_true_eq] at hb
      exact (dgs_pos_len _).1 hb.2
    · rw [Nat.gcd_div (Nat.gcd_dvd_left x y) (Nat.gcd_dvd_right x y), Nat.div_self hg]
  · cases h
theorem int_fok (n : Int) (h0 : -10 ≤ n) (h1 : n ≤ 10) : fokB (decide (n < 0)) (dgs n.natAbs) [1] = true ∧ (dgs n.natAbs).length ≤ 256 := by
  have hl : (dgs n.natAbs).length ≤ 1 := (dgs_len_iff _ 1).2 (by omega)
  have e : ([1] : List Int) = dgs 1 := rfl
  refine ⟨?_, by omega⟩
  rw [e]
  refine fok_mk (by omega) (by decide) (by decide) ?_ (Nat.gcd_one_right _)
  intro h
  have := of_decide_eq_true h
  omega

set_option maxRecDepth 20000 in
set_option maxHeartbeats 4000000 in
theorem good_any (g : Nat) (b : Option Addr) (lb cb : Nat) (bs : List Int) (p : Nat) (w : World) (h : Rd w g b lb cb bs p) (hp : p ≤ 700000) :
    Calls Tryz.prog 46 #[.pointer (some ⟨g, 0, none⟩)] w fun e w' => ∃ f r cr X s cs Y p', e = .returned (fracV f r X.length cr s Y.length cs) ∧ OwnI w' w.heap.size r cr X ∧ OwnI w' w.heap.size s cs Y ∧ fokB f X Y = true ∧ X.length ≤ 256 ∧ Y.length ≤ 256 ∧ Rd w' g b lb cb bs p' ∧ p' ≤ p + 2000 ∧ w.grownBy w' (some g) := by
  obtain ⟨hgl, hbl⟩ := h.lt
  obtain ⟨w0, hw0⟩ : ∃ w0, w0 = w.alloc (.cells #[.bool false, .slice none 0 0, .slice none 0 0] 25) := ⟨_, rfl⟩
  have b0 : Below w.heap.size w w0 := by rw [hw0]; exact (Below.refl _ w).alloc (Nat.le_refl _) _
  have R0 : Rd w0 g b lb cb bs p := rd_keep h b0
  have HG0 : Hid (w.grownBy w0 (some g)) := gr_below (World.grownBy.refl _ _) b0
  have k0 : BoxC w0 w.heap.size 25 #[.bool false, .slice none 0 0, .slice none 0 0] := by rw [hw0]; exact boxc_new _ _ _
  have HK0 : Hid (BoxC w0 w.heap.size 25 #[.bool false, .slice none 0 0, .slice none 0 0]) := k0
  have n0 := boxc_lt k0
  have HBL : Hid (∀ x, b = some x → bs ≠ [] → x.block < w.heap.size) := hbl
  have CP : Hid (∀ (wr : World) (p' : Nat) (n : Int), Rd wr g b lb cb bs p' → p' ≤ 1000000 → 1 ≤ n → n ≤ 65536 → Calls Tryz.prog 25 #[.pointer (some ⟨g, 0, none⟩), .int .i64 n] wr fun e w' => ∃ v : Nat, e = .returned (.int .i64 (v : Int)) ∧ (v : Int) < n ∧ Rd w' g b lb cb bs (p' + 1) ∧ wr.grownBy w' (some g)) := fun wr p' n hr hp hn1 hn2 => (pick_any g b lb cb bs p' n wr hr hp hn1 hn2).mono fun e w' ⟨v, h1, h2, h3, h4, h5⟩ => ⟨v.toNat, by rw [h1]; congr 2; omega, by omega, h4, h5⟩
  have CN : Hid (∀ (wr : World) (p' : Nat), Rd wr g b lb cb bs p' → p' ≤ 900000 → Calls Tryz.prog 71 #[.pointer (some ⟨g, 0, none⟩)] wr fun e w' => ∃ r cr X x q, e = .returned (.slice r X.length cr) ∧ X = dgs x ∧ OwnI w' wr.heap.size r cr X ∧ X.length ≤ 256 ∧ Rd w' g b lb cb bs q ∧ q ≤ p' + 600 ∧ wr.grownBy w' (some g)) := fun wr p' hr hp => (nat_any g b lb cb bs p' wr hr hp).mono fun e w' ⟨r, cr, x, q, h1, h2, h3, h4, h5, h6⟩ => ⟨r, cr, _, x, q, h1, rfl, h2, h3, h4, h5, h6⟩
  have CF : Hid (∀ (W : World) (f : Bool) (r s : Option Addr) (cr cs : Nat) (X Y : List Int) (x y : Nat), X = dgs x → Y = dgs y → y ≠ 0 → Sl W r X → Sl W s Y → X.length ≤ 256 → Y.length ≤ 256 → Calls Tryz.prog 72 #[.bool f, .slice r X.length cr, .slice s Y.length cs] W fun e w' => ∃ A : FAns, (A.ok = true → fokB A.b A.X A.Y = true) ∧ A.X.length ≤ 256 ∧ A.Y.length ≤ 256 ∧ RetS W e w' A) := by
    intro W f r s cr cs X Y x y hX hY hy h1 h2 l1 l2
    refine (specFOf_any f r s cr cs X Y W h1 h2 (by omega) (by omega)).mono ?_
    intro e w' hr
    refine ⟨ofA f X Y, ?_, (ofA_len f X Y).1, (ofA_len f X Y).2, hr⟩
    subst hX
    subst hY
    have e : ofA f (dgs x) (dgs y) = makeA f x y := by
      unfold ofA
      rw [if_pos ⟨dgs_ok l1, dgs_ok l2, fun h => hy ((dgs_nil_iff y).1 h)⟩, val_dgs, val_dgs, Int.toNat_natCast, Int.toNat_natCast]
    rw [e]
    exact makeA_fok hy
  have CI : Hid (∀ (W : World) (n : Int), -10 ≤ n → n ≤ 10 → Calls Tryz.prog 73 #[.int .i64 n] W fun e w' => ∃ f r cr X s, e = .returned (fracV f r X.length cr s 1 1) ∧ OwnI w' W.heap.size r cr X ∧ OwnI w' W.heap.size s 1 [1] ∧ fokB f X [1] = true ∧ X.length ≤ 256 ∧ Below W.heap.size W w') := fun W n h0 h1 => (specFracInt_any n W (by omega) (by omega)).mono fun e w' ⟨r, cr, s, h2, h3, h4, h5⟩ => ⟨_, r, cr, _, s, h2, h3, h4, (int_fok n h0 h1).1, (int_fok n h0 h1).2, h5⟩
  unfold RetS at CF
  unfold fracV at CF CI
  clear h b0 k0 hbl
  go_enter Tryz.func46, Tryz.ntmps46
  go_wp2_with fail
  rw [← hw0]
  clear hw0
  refine Calls.mono (CN.out _ _ R0 (by omega)) ?_
  rintro e w1 ⟨r1, c1, Y1, y1, p1, rfl, hY1', o1, l1, R1, hp1, g1⟩
  have hY1 : Hid (Y1 = dgs y1) := hY1'
  clear R0 hY1'
  dsimp only
  go_step
  go_step
  go_step
  (rename_i hK; refine hK _ _ ?_)
  go_step
  go_step
  go_step
  go_step
  go_cut [3] from 6 (fun v wx => ∃ r c Y y q, v = .slice r (List.length Y) c ∧ Y = dgs y ∧ y ≠ 0 ∧ Y.length ≤ 256 ∧ OwnI wx w0.heap.size r c Y ∧ Rd wx g b lb cb bs q ∧ q ≤ p + 700 ∧ w0.grownBy wx (some g))
  case first =>
    have lit : ∀ (w2 : World) (v p2 : Nat), (v : Int) < 9 → w0.grownBy w2 (some g) → Rd w2 g b lb cb bs p2 → p2 ≤ p + 700 → ∃ r c Y y q, Value.slice (some ⟨w2.heap.size, 0, none⟩) 1 1 = .slice r (List.length Y) c ∧ Y = dgs y ∧ y ≠ 0 ∧ Y.length ≤ 256 ∧ OwnI (w2.alloc (.cells #[.int .i64 (1 + (v : Int))] 3)) w0.heap.size r c Y ∧ Rd (w2.alloc (.cells #[.int .i64 (1 + (v : Int))] 3)) g b lb cb bs q ∧ q ≤ p + 700 ∧ w0.grownBy (w2.alloc (.cells #[.int .i64 (1 + (v : Int))] 3)) (some g) := by
      intro w2 v p2 hv hg hr hp2
      have bb : Below w2.heap.size w2 (w2.alloc (.cells #[.int .i64 (1 + (v : Int))] 3)) := (Below.refl _ w2).alloc (Nat.le_refl _) _
      refine ⟨_, _, [1 + (v : Int)], 1 + v, p2, rfl, ?_, by omega, by simp, (own_lit w2 _).mono hg.size, rd_keep hr bb, hp2, gr_below hg bb⟩
      rw [dgs_digit (by omega) (by omega)]
      all_goals (try congr 1)
      all_goals (try omega)
    have LIT : Hid _ := lit
    clear lit
    by_cases hz : y1 = 0
    · have hl : ((Y1.length : Int) == 0) = true := by rw [hY1.out, hz]; rfl
      clear hz hY1 o1 l1
      go_wp2_with fail
      refine Calls.mono (CP.out _ _ 9 R1 (by omega) (by omega) (by omega)) ?_
      rintro e w2 ⟨v, rfl, hv, R2, g2⟩
      go_wp2_with fail
      go_meet
      exact LIT.out w2 v _ hv (grown_two g1 g2) R2 (by omega)
    · have hl : ((Y1.length : Int) == 0) = false := by
        rw [beq_eq_false_iff_ne, hY1.out]
        have := (dgs_pos_len y1).2 hz
        omega
      go_wp2_with fail
      refine Calls.mono (CP.out _ _ 3 R1 (by omega) (by omega) (by omega)) ?_
      rintro e w2 ⟨v, rfl, hv, R2, g2⟩
      have g02 := grown_two g1 g2
      by_cases hv0 : v = 0
      · subst hv0
        clear hz hY1 o1 l1
        go_wp2_with fail
        refine Calls.mono (CP.out _ _ 9 R2 (by omega) (by omega) (by omega)) ?_
        rintro e w3 ⟨v3, rfl, hv3, R3, g3⟩
        go_wp2_with fail
        go_meet
        exact LIT.out w3 v3 _ hv3 (grown_two g02 g3) R3 (by omega)
      · have hvb : ((v : Int) == 0) = false := by rw [beq_eq_false_iff_ne]; omega
        have o2 := own_far o1 g2 (by omega)
        go_wp2_with fail
        go_meet
        exact ⟨_, _, Y1, y1, _, rfl, hY1.out, hz, l1, o2, R2, by omega, g02⟩
  case rest =>
    obtain ⟨r, c, Y, y, q, rfl, hY', hy0, lY, oY, RY, hq, gY⟩ := hcut
    have hY : Hid (Y = dgs y) := hY'
    clear o1 R1 g1 hY1 l1 hp1 hY'
    go_wp2_with fail
    refine Calls.mono (CP.out _ _ 2 RY (by omega) (by omega) (by omega)) ?_
    rintro e w2 ⟨v, rfl, hv, R2, g2⟩
    have oY2 := own_far oY g2 (by omega)
    have gY2 := grown_two gY g2
    clear oY RY gY g2
    obtain ⟨f, hf⟩ : ∃ f, f = ((v : Int) == 0) := ⟨_, rfl⟩
    have HF : Hid (f = ((v : Int) == 0)) := hf
    clear hf
    go_wp2_with fail
    refine Calls.mono (CN.out _ _ R2 (by omega)) ?_
    rintro e w3 ⟨r3, c3, X, x, p3, rfl, hX', oX, lX, R3, hp3, g3⟩
    have hX : Hid (X = dgs x) := hX'
    clear hX'
    have oY3 := own_far oY2 g3 (by omega)
    have gY3 := grown_two gY2 g3
    clear oY2 R2 gY2 g3
    go_wp2_with fail
    rw [← HF.out]
    refine Calls.mono (CF.out _ f _ _ _ _ _ _ x y hX.out hY.out hy0 oX.sl oY3.sl lX lY) ?_
    rintro e w4 ⟨A, hA, lA, lA', r4, c4, s4, d4, rfl, o4, o4', b4⟩
    have z3 : w0.heap.size ≤ w3.heap.size := gY3.size
    have R4 := rd_keep R3 b4
    have gY4 := gr_below gY3 b4
    clear HF oX oY3 R3 b4 CF CN
    obtain ⟨w5, hw5⟩ : ∃ w5, w5 = w4.alloc (.cells #[.bool A.b, .slice r4 A.X.length c4, .slice s4 A.Y.length d4] 25) := ⟨_, rfl⟩
    obtain ⟨g5, hg5⟩ : ∃ g5, g5 = w4.heap.size := ⟨_, rfl⟩
    have b5 : Below w4.heap.size w4 w5 := by rw [hw5]; exact (Below.refl _ w4).alloc (Nat.le_refl _) _
    have kf : BoxC w5 g5 25 #[.bool A.b, .slice r4 A.X.length c4, .slice s4 A.Y.length d4] := by rw [hw5, hg5]; exact boxc_new _ _ _
    have R5 := rd_keep R4 b5
    have gY5 := gr_below gY4 b5
    have o5 := (o4.keep b5).mono (base' := w0.heap.size) z3
    have o5' := (o4'.keep b5).mono (base' := w0.heap.size) z3
    have k5 := boxc_kept HK0.out gY5 (by intro e; have := Option.some.inj e; omega)
    have G5 := grown_two HG0.out gY5
    clear b5 o4 o4' R4 gY4 z3
    go_upto_region 5 with fail
    rw [← hw5, ← hg5]
    clear hw5 hg5
    cases hok : A.ok with
    | false =>
      clear kf o5 o5' hA
      go_wp2_with fail
      refine Calls.mono (CP.out _ _ 9 R5 (by omega) (by omega) (by omega)) ?_
      rintro e w6 ⟨v6, rfl, hv6, R6, g6⟩
      have gY6 := grown_two gY5 g6
      have z6 : w0.heap.size ≤ w6.heap.size := gY6.size
      have k6 := boxc_kept k5 g6 (by intro e; have := Option.some.inj e; omega)
      have G6 := grown_two G5 g6
      clear R5 gY5 g6 G5 k5 CP
      go_wp2_with fail
      refine Calls.mono (CI.out _ _ (by omega) (by omega)) ?_
      rintro e w7 ⟨f7, r7, c7, X7, s7, rfl, o7, o7', hk7, l7, b7⟩
      have R7 := rd_keep R6 b7
      have G7 := gr_below G6 b7
      have k7 := boxc_keep k6 b7
      obtain ⟨d0, d1, d2, df, dn⟩ := boxc3 k7
      have FIN : Hid _ := rd_fin G7 R7 hgl HBL.out (.bool f7) (.slice r7 X7.length c7) (.slice s7 1 1)
      have q7 : Hid _ := (own_far o7 (gr_set3 w7 w.heap.size (.bool f7) (.slice r7 X7.length c7) (.slice s7 1 1)) (by omega)).mono (base' := w.heap.size) (by omega)
      have q7' : Hid _ := (own_far o7' (gr_set3 w7 w.heap.size (.bool f7) (.slice r7 X7.length c7) (.slice s7 1 1)) (by omega)).mono (base' := w.heap.size) (by omega)
      clear R6 G6 b7 k6 k7 R7 G7 o7 o7' CI
      go_wp2
      refine ⟨rfl, .agg #[.bool f7, .slice r7 X7.length c7, .slice s7 1 1], ?_, f7, r7, c7, X7, s7, 1, [1], _, rfl, q7.out, q7'.out, hk7, l7, by decide, FIN.out.2, by omega, FIN.out.1⟩
      simp [results, Tryz.f46, go_sem, d0, d1, d2]
    | true =>
      have hk := hA hok
      obtain ⟨d0, d1, d2, df, dn⟩ := boxc3 k5
      obtain ⟨f0, f1, f2, ff, fn⟩ := boxc3 kf
      have FIN : Hid _ := rd_fin G5 R5 hgl HBL.out (.bool A.b) (.slice r4 A.X.length c4) (.slice s4 A.Y.length d4)
      have q5 : Hid _ := (own_far o5 (gr_set3 w5 w.heap.size (.bool A.b) (.slice r4 A.X.length c4) (.slice s4 A.Y.length d4)) n0).mono (base' := w.heap.size) (by omega)
      have q5' : Hid _ := (own_far o5' (gr_set3 w5 w.heap.size (.bool A.b) (.slice r4 A.X.length c4) (.slice s4 A.Y.length d4)) n0).mono (base' := w.heap.size) (by omega)
      clear kf o5 o5' hA k5 G5 R5 gY5 CP CI
      go_wp2
      refine ⟨rfl, .agg #[.bool A.b, .slice r4 A.X.length c4, .slice s4 A.Y.length d4], ?_, A.b, r4, c4, A.X, s4, d4, A.Y, _, rfl, q5.out, q5'.out, hk, lA, lA', FIN.out.2, by omega, FIN.out.1⟩
      simp [results, Tryz.f46, go_sem, d0, d1, d2]

end Go.Proofs.YthokphoojmpajabGreatDoor

namespace Go.Proofs.YthokphoojmpajabGreatDoor
open Go.RowKit Go.Proofs.Pin

theorem own_ne {w w' : World} {base g c : Nat} {r : Option Addr} {X : List Int} (o : OwnI w base r c X) (hg : w.grownBy w' (some g)) (hne : ∀ j, r.map (·.block) = some j → j ≠ g) : OwnI w' base r c X :=
  o.keptR hg (fun k hk j hj => by have := Option.some.inj hk; have := hne j hj; omega)
/-- What the call leaves, once its answer lies in the result's box. -/
theorem frac_fin {w w4 : World} {g : Nat} {b : Option Addr} {lb cb : Nat} {bs : List Int} {p B : Nat} {r s : Option Addr} {cr cs : Nat} {X Y : List Int} (f : Bool) (G : w.grownBy w4 (some g)) (R : Rd w4 g b lb cb bs p) (h1 : g < w.heap.size) (h2 : ∀ x, b = some x → bs ≠ [] → x.block < w.heap.size) (hB : w.heap.size < B) (oX : OwnI w4 B r cr X) (oY : OwnI w4 B s cs Y) (x y z : Value) :
    OwnI (((w4.setCell ⟨w.heap.size, 0, none⟩ x).setCell ⟨w.heap.size, 1, none⟩ y).setCell ⟨w.heap.size, 2, none⟩ z) w.heap.size r cr X ∧ OwnI (((w4.setCell ⟨w.heap.size, 0, none⟩ x).setCell ⟨w.heap.size, 1, none⟩ y).setCell ⟨w.heap.size, 2, none⟩ z) w.heap.size s cs Y ∧ Rd (((w4.setCell ⟨w.heap.size, 0, none⟩ x).setCell ⟨w.heap.size, 1, none⟩ y).setCell ⟨w.heap.size, 2, none⟩ z) g b lb cb bs p ∧ w.grownBy (((w4.setCell ⟨w.heap.size, 0, none⟩ x).setCell ⟨w.heap.size, 1, none⟩ y).setCell ⟨w.heap.size, 2, none⟩ z) (some g) ∧ f = f :=
  ⟨(own_far oX (gr_set3 _ _ _ _ _) hB).mono (by omega), (own_far oY (gr_set3 _ _ _ _ _) hB).mono (by omega), (rd_fin G R h1 h2 x y z).2, (rd_fin G R h1 h2 x y z).1, rfl⟩
/-- A store into a box of the call's own. -/
theorem put_own {w w3 : World} {g g3 : Nat} {b : Option Addr} {lb cb : Nat} {bs : List Int} {p : Nat} (G : w.grownBy w3 (some g)) (R : Rd w3 g b lb cb bs p) (h1 : g < w.heap.size) (h2 : ∀ x, b = some x → bs ≠ [] → x.block < w.heap.size) (h3 : w.heap.size ≤ g3) (i : Nat) (v : Value) :
    w.grownBy (w3.setCell ⟨g3, i, none⟩ v) (some g) ∧ Rd (w3.setCell ⟨g3, i, none⟩ v) g b lb cb bs p :=
  ⟨grown_new G (gr_set _ _ _ _) (fun j hj => by have := Option.some.inj hj; omega), R.kept (gr_set _ _ _ _) (by intro e; have := Option.some.inj e; omega) (fun a ha hn e => by have := h2 a ha hn; have := Option.some.inj e; omega)⟩

/-- append, where the row that is appended to is the call's own and what is appended can be read. -/
theorem append_sl (w : World) {ops : Array Oper} {rest : List Oper} {o : Oper} {a : Act} {Q : Exit → Act → World → Prop} (hgd : o.guard = none) (s x : Operand) (ho : o.op = .call { callee := .builtin .append, args := #[s, x], argTypes := #[23, 23] })
    (base : Nat) (v : Value) (n : Nat) (zs : List Int) (hs : a.eval s = v) (hown : w.ownsRow base 3 1 v n (zs.map (Value.int .i64))) (base2 : Nat) (r : Option Addr) (c : Nat) (X : List Int) (hx : a.eval x = .slice r X.length c) (oX : OwnI w base2 r c X) (hl : n + X.length ≤ 100000) (hbase : base ≤ w.heap.size)
    (h : ∀ v' w', w'.ownsRow base 3 1 v' (n + X.length) ((zs ++ X).map (Value.int .i64)) → w.grownBy w' v.ownBlock → wpList Tryz.prog ops Q rest (a.put o.dst v') w') : wpList Tryz.prog ops Q (o :: rest) a w := by
  obtain ⟨i0, hi, hz0, hz1, hz2⟩ := info_parts Tryz.info3
  rcases oX.parts with ⟨rfl, rfl, rfl⟩ | ⟨g, rfl, _⟩
  · refine wpList_append_own_none hgd s x _ ho base 3 i0 1 Tryz.underlying23 hi v n _ hs hown hx ?_
    exact h v w (by simpa using hown) (World.grownBy.refl _ _)
  · refine wpList_append_own w hgd s x _ ho base 3 i0 (.int .i64 0) 1 8 Tryz.underlying23 hi hz0 hz1 hz2 rfl (by decide) v n _ hs hown ⟨g, 0, none⟩ X.length c (X.map (Value.int .i64)) hx (by simp) ?_ (oneCells X) (by unfold maxLen; omega) (by omega) hbase ?_
    · intro j u hu
      by_cases hz : 0 < X.length
      · obtain ⟨ad', e, hsr⟩ := sl_src oX.sl hz
        cases e
        exact hsr j u hu
      · rw [List.length_eq_zero_iff.mp (by omega : X.length = 0)] at hu
        simp at hu
    · intro v' w' h1 h2 _
      exact h v' w' (by rw [List.map_append]; exact h1) h2

/-- What l4Rd.frac leaves. -/
def FracRet (w : World) (g : Nat) (b : Option Addr) (lb cb : Nat) (bs : List Int) (p : Nat) (e : Ending) (w' : World) : Prop :=
  ∃ f r cr X s cs Y p', e = .returned (fracV f r X.length cr s Y.length cs) ∧ OwnI w' w.heap.size r cr X ∧ OwnI w' w.heap.size s cs Y ∧ X.length ≤ 300 ∧ Y.length ≤ 300 ∧ Rd w' g b lb cb bs p' ∧ p' ≤ p + 3000 ∧ w.grownBy w' (some g)

set_option maxRecDepth 20000 in
set_option maxHeartbeats 4000000 in
theorem frac_any (g : Nat) (b : Option Addr) (lb cb : Nat) (bs : List Int) (p : Nat) (w : World) (h : Rd w g b lb cb bs p) (hp : p ≤ 600000) :
    Calls Tryz.prog 24 #[.pointer (some ⟨g, 0, none⟩)] w fun e w' => FracRet w g b lb cb bs p e w' := by
  obtain ⟨hgl, hbl⟩ := h.lt
  obtain ⟨i0, hi, hz0, hz1, hz2⟩ := info_parts Tryz.info3
  obtain ⟨w0, hw0⟩ : ∃ w0, w0 = w.alloc (.cells #[.bool false, .slice none 0 0, .slice none 0 0] 25) := ⟨_, rfl⟩
  have b0 : Below w.heap.size w w0 := by rw [hw0]; exact (Below.refl _ w).alloc (Nat.le_refl _) _
  have R0 : Rd w0 g b lb cb bs p := rd_keep h b0
  have G0 : w.grownBy w0 (some g) := gr_below (World.grownBy.refl _ _) b0
  have k0 : BoxC w0 w.heap.size 25 #[.bool false, .slice none 0 0, .slice none 0 0] := by rw [hw0]; exact boxc_new _ _ _
  have n0 := boxc_lt k0
  have HBL : Hid (∀ x, b = some x → bs ≠ [] → x.block < w.heap.size) := hbl
  have CG : Hid (∀ (W : World) (q : Nat), Rd W g b lb cb bs q → q ≤ 700000 → Calls Tryz.prog 46 #[.pointer (some ⟨g, 0, none⟩)] W fun e w' => ∃ f r cr X s cs Y p', e = .returned (fracV f r X.length cr s Y.length cs) ∧ OwnI w' W.heap.size r cr X ∧ OwnI w' W.heap.size s cs Y ∧ X.length ≤ 256 ∧ Y.length ≤ 256 ∧ Rd w' g b lb cb bs p' ∧ p' ≤ q + 2000 ∧ W.grownBy w' (some g)) := fun W q hr hq => (good_any g b lb cb bs q W hr hq).mono fun e w' ⟨f, r, cr, X, s, cs, Y, p', h1, h2, h3, _, h5, h6, h7⟩ => ⟨f, r, cr, X, s, cs, Y, p', h1, h2, h3, h5, h6, h7⟩
  have CP : Hid (∀ (wr : World) (p' : Nat) (n : Int), Rd wr g b lb cb bs p' → p' ≤ 1000000 → 1 ≤ n → n ≤ 65536 → Calls Tryz.prog 25 #[.pointer (some ⟨g, 0, none⟩), .int .i64 n] wr fun e w' => ∃ v : Nat, e = .returned (.int .i64 (v : Int)) ∧ (v : Int) < n ∧ Rd w' g b lb cb bs (p' + 1) ∧ wr.grownBy w' (some g)) := fun wr p' n hr hp hn1 hn2 => (pick_any g b lb cb bs p' n wr hr hp hn1 hn2).mono fun e w' ⟨v, h1, h2, h3, h4, h5⟩ => ⟨v.toNat, by rw [h1]; congr 2; omega, by omega, h4, h5⟩
  have CW : Hid (∀ (wr : World) (p' : Nat), Rd wr g b lb cb bs p' → p' ≤ 800000 → Calls Tryz.prog 48 #[.pointer (some ⟨g, 0, none⟩)] wr fun e w' => ∃ r cr zs q, e = .returned (.slice r zs.length cr) ∧ OwnI w' wr.heap.size r cr zs ∧ zs.length ≤ 257 ∧ Rd w' g b lb cb bs q ∧ q ≤ p' + 700 ∧ wr.grownBy w' (some g)) := fun wr p' hr hp => (raw_any g b lb cb bs p' wr hr hp).mono fun e w' ⟨r, cr, zs, q, h1, h2, h3, _, h5, h6, h7⟩ => ⟨r, cr, zs, q, h1, h2, h3, h5, h6, h7⟩
  unfold fracV at CG
  clear h b0 hbl
  go_enter Tryz.func24, Tryz.ntmps24
  go_wp2_with fail
  rw [← hw0]
  clear hw0
  refine Calls.mono (CG.out _ _ R0 (by omega)) ?_
  rintro e w1 ⟨f, r, cr, X, s, cs, Y, p1, rfl, oX1, oY1, lX, lY, R1, hp1, g1⟩
  have G1 := grown_two G0 g1
  have k1 := boxc_kept k0 g1 (by intro e; have := Option.some.inj e; omega)
  have bX := own_block_lt oX1
  have bY := own_block_lt oY1
  have z1 : w0.heap.size ≤ w1.heap.size := g1.size
  obtain ⟨w2, hw2⟩ : ∃ w2, w2 = w1.alloc (.cells #[.bool f, .slice r X.length cr, .slice s Y.length cs] 25) := ⟨_, rfl⟩
  obtain ⟨g3, hg3⟩ : ∃ g3, g3 = w1.heap.size := ⟨_, rfl⟩
  have b2 : Below w1.heap.size w1 w2 := by rw [hw2]; exact (Below.refl _ w1).alloc (Nat.le_refl _) _
  have kf2 : BoxC w2 g3 25 #[.bool f, .slice r X.length cr, .slice s Y.length cs] := by rw [hw2, hg3]; exact boxc_new _ _ _
  have oX2 := oX1.keep b2
  have oY2 := oY1.keep b2
  have k2 := boxc_keep k1 b2
  have R2 := rd_keep R1 b2
  have G2 := gr_below G1 b2
  rw [← hg3] at bX bY z1
  clear CG R0 G0 k0 oX1 oY1 R1 g1 G1 k1 b2
  go_wp2_with fail
  rw [← hw2, ← hg3]
  clear hw2 hg3
  refine Calls.mono (CP.out _ _ 60 R2 (by omega) (by omega) (by omega)) ?_
  rintro e w3 ⟨v, rfl, hv, R3, g3w⟩
  have nf := boxc_lt kf2
  have oX3 := own_far oX2 g3w (by omega)
  have oY3 := own_far oY2 g3w (by omega)
  have k3 := boxc_kept k2 g3w (by intro e; have := Option.some.inj e; omega)
  have kf3 := boxc_kept kf2 g3w (by intro e; have := Option.some.inj e; omega)
  have G3 := grown_two G2 g3w
  clear CP R2 oX2 oY2 k2 kf2 G2 g3w nf
  obtain ⟨d0, d1, d2, df, dn⟩ := boxc3 k3
  obtain ⟨f0, f1, f2, ff, fn⟩ := boxc3 kf3
  have hne : ¬ w.heap.size = g3 := by omega
  have hne2 : ¬ g3 = w.heap.size := by omega
  have hcase : v = 0 ∨ v = 1 ∨ v = 2 ∨ v = 3 ∨ 4 ≤ v := by omega
  rcases hcase with rfl | rfl | rfl | rfl | hge
  · obtain ⟨G4, R4⟩ := put_own G3 R3 hgl HBL.out (by omega : w.heap.size ≤ g3) 0 (.bool !f)
    have o4 := own_ne oX3 (gr_set w3 g3 0 (.bool !f)) (fun j hj => by have := bX j hj; omega)
    have o4' := own_ne oY3 (gr_set w3 g3 0 (.bool !f)) (fun j hj => by have := bY j hj; omega)
    have FIN : Hid _ := frac_fin (!f) G4 R4 hgl HBL.out n0 o4 o4' (.bool !f) (.slice r X.length cr) (.slice s Y.length cs)
    clear CW R3 oX3 oY3 k3 kf3 G3 G4 R4 o4 o4' bX bY
    go_wp2
    refine ⟨rfl, .agg #[.bool !f, .slice r X.length cr, .slice s Y.length cs], ?_, ⟨!f, r, cr, X, s, cs, Y, _, rfl, FIN.out.1, FIN.out.2.1, by omega, by omega, FIN.out.2.2.1, by omega, FIN.out.2.2.2.1⟩⟩
    simp [results, Tryz.f24, go_sem, d0, d1, d2]
  · obtain ⟨G4, R4⟩ := put_own G3 R3 hgl HBL.out (by omega : w.heap.size ≤ g3) 2 (.slice none 0 0)
    have o4 := own_ne oX3 (gr_set w3 g3 2 (.slice none 0 0)) (fun j hj => by have := bX j hj; omega)
    have FIN : Hid _ := frac_fin f G4 R4 hgl HBL.out n0 o4 (OwnI.nil _ w0.heap.size) (.bool f) (.slice r X.length cr) (.slice none 0 0)
    clear CW R3 oX3 oY3 k3 kf3 G3 G4 R4 o4 bX bY
    go_wp2
    refine ⟨rfl, .agg #[.bool f, .slice r X.length cr, .slice none 0 0], ?_, ⟨f, r, cr, X, none, 0, [], _, rfl, FIN.out.1, FIN.out.2.1, by omega, by decide, FIN.out.2.2.1, by omega, FIN.out.2.2.2.1⟩⟩
    simp [results, Tryz.f24, go_sem, d0, d1, d2]
  · have z3 : g3 < w3.heap.size := fn
    have OWN1 : (w3.alloc (.cells #[.int .i64 0] 3)).ownsRow w3.heap.size 3 1 (.slice (some ⟨w3.heap.size, 0, none⟩) 1 1) 1 (([0] : List Int).map (Value.int .i64)) := own_lit w3 0
    have b4 : Below w3.heap.size w3 (w3.alloc (.cells #[.int .i64 0] 3)) := (Below.refl _ w3).alloc (Nat.le_refl _) _
    have oX4 := oX3.keep b4
    have HO : Hid _ := OWN1
    have HX : Hid _ := oX4
    have zz : w3.heap.size ≤ (w3.alloc (.cells #[.int .i64 0] 3)).heap.size := by have := b4.size; omega
    clear OWN1 oX4
    go_wp2_with (at_builtin; refine append_sl _ rfl _ _ rfl w3.heap.size _ 1 [0] rfl HO.out w0.heap.size r cr X rfl HX.out (by omega) zz ?_)
    intro v5 w5 hown5 hgr5'
    have hgr5 : (w3.alloc (.cells #[.int .i64 0] 3)).grownBy w5 (some w3.heap.size) := hgr5'
    obtain ⟨r5, c5, rfl, o5⟩ := OwnI.of_row (zs := 0 :: X) hown5
    have G5 := grown_new (gr_below G3 b4) hgr5 (fun j hj => by have := Option.some.inj hj; omega)
    have R5 := (rd_keep R3 b4).kept hgr5 (by intro e; have := Option.some.inj e; omega) (fun a ha hn e => by have := HBL.out a ha hn; have := Option.some.inj e; omega)
    have k5 := boxc_kept (boxc_keep k3 b4) hgr5 (by intro e; have := Option.some.inj e; omega)
    have kf5 := boxc_kept (boxc_keep kf3 b4) hgr5 (by intro e; have := Option.some.inj e; omega)
    have oY5 := own_ne (oY3.keep b4) hgr5 (fun j hj => by have := bY j hj; omega)
    have z5 : w3.heap.size < w5.heap.size := by have := hgr5.size; simp at this; omega
    clear HO HX hown5 hgr5' hgr5 R3 oX3 oY3 k3 kf3 G3 b4 zz d0 d1 d2 df dn f0 f1 f2 ff fn bX
    obtain ⟨f0, f1, f2, ff, fn⟩ := boxc3 kf5
    obtain ⟨L5, hL5⟩ : ∃ L5, L5 = 0 :: X := ⟨_, rfl⟩
    rw [← hL5] at o5 ⊢
    have lL5 : L5.length ≤ 257 := by rw [hL5]; simp; omega
    clear hL5
    obtain ⟨G6, R6⟩ := put_own G5 R5 hgl HBL.out (by omega : w.heap.size ≤ g3) 1 (.slice r5 L5.length c5)
    obtain ⟨w6, hw6⟩ : ∃ w6, w6 = w5.setCell ⟨g3, 1, none⟩ (.slice r5 L5.length c5) := ⟨_, rfl⟩
    have bL5 : ∀ j, r5.map (·.block) = some j → j ≠ g3 := fun j hj => by have := own_ge o5 j hj; omega
    have gs : w5.grownBy w6 (some g3) := by rw [hw6]; exact gr_set _ _ _ _
    have kf6 : BoxC w6 g3 25 #[.bool f, .slice r5 L5.length c5, .slice s Y.length cs] := by rw [hw6]; exact boxc_set1 kf5 _
    have k6 := boxc_kept k5 gs (by intro e; have := Option.some.inj e; omega)
    have o6 := own_ne o5 gs bL5
    have oY6 := own_ne oY5 gs (fun j hj => by have := bY j hj; omega)
    rw [← hw6] at G6 R6
    have z6 : w5.heap.size ≤ w6.heap.size := gs.size
    clear G5 R5 k5 kf5 oY5 o5 gs
    go_upto_region 9 with fail
    rw [← hw6]
    clear hw6 f0 f1 f2 ff fn
    obtain ⟨f0, f1, f2, ff, fn⟩ := boxc3 kf6
    have OWN2 : (w6.alloc (.cells #[.int .i64 0] 3)).ownsRow w6.heap.size 3 1 (.slice (some ⟨w6.heap.size, 0, none⟩) 1 1) 1 (([0] : List Int).map (Value.int .i64)) := own_lit w6 0
    have b7 : Below w6.heap.size w6 (w6.alloc (.cells #[.int .i64 0] 3)) := (Below.refl _ w6).alloc (Nat.le_refl _) _
    have oY7 := oY6.keep b7
    have HO : Hid _ := OWN2
    have HY : Hid _ := oY7
    have zz : w6.heap.size ≤ (w6.alloc (.cells #[.int .i64 0] 3)).heap.size := by have := b7.size; omega
    clear OWN2 oY7
    go_wp2_with (at_builtin; refine append_sl _ rfl _ _ rfl w6.heap.size _ 1 [0] rfl HO.out w0.heap.size s cs Y rfl HY.out (by omega) zz ?_)
    intro v8 w8 hown8 hgr8'
    have hgr8 : (w6.alloc (.cells #[.int .i64 0] 3)).grownBy w8 (some w6.heap.size) := hgr8'
    obtain ⟨r8, c8, rfl, o8⟩ := OwnI.of_row (zs := 0 :: Y) hown8
    have G8 := grown_new (gr_below G6 b7) hgr8 (fun j hj => by have := Option.some.inj hj; omega)
    have R8 := (rd_keep R6 b7).kept hgr8 (by intro e; have := Option.some.inj e; omega) (fun a ha hn e => by have := HBL.out a ha hn; have := Option.some.inj e; omega)
    have k8 := boxc_kept (boxc_keep k6 b7) hgr8 (by intro e; have := Option.some.inj e; omega)
    have kf8 := boxc_kept (boxc_keep kf6 b7) hgr8 (by intro e; have := Option.some.inj e; omega)
    have bL6 := own_block_lt o6
    have o8' := own_ne (o6.keep b7) hgr8 (fun j hj => by have := bL6 j hj; omega)
    clear HO HY hown8 hgr8' hgr8 R6 o6 oY6 k6 kf6 G6 b7 zz f0 f1 f2 ff fn bL6
    obtain ⟨f0, f1, f2, ff, fn⟩ := boxc3 kf8
    obtain ⟨d0, d1, d2, df, dn⟩ := boxc3 k8
    obtain ⟨L8, hL8⟩ : ∃ L8, L8 = 0 :: Y := ⟨_, rfl⟩
    rw [← hL8] at o8 ⊢
    have lL8 : L8.length ≤ 257 := by rw [hL8]; simp; omega
    clear hL8
    have bL8 : ∀ j, r8.map (·.block) = some j → j ≠ g3 := fun j hj => by have := own_ge o8 j hj; omega
    obtain ⟨G9, R9⟩ := put_own G8 R8 hgl HBL.out (by omega : w.heap.size ≤ g3) 2 (.slice r8 L8.length c8)
    have o9 := own_ne o8' (gr_set w8 g3 2 (.slice r8 L8.length c8)) bL5
    have o9' := own_ne o8 (gr_set w8 g3 2 (.slice r8 L8.length c8)) bL8
    have FIN : Hid _ := frac_fin f G9 R9 hgl HBL.out n0 (o9.mono (base' := w0.heap.size) (by omega)) (o9'.mono (base' := w0.heap.size) (by omega)) (.bool f) (.slice r5 L5.length c5) (.slice r8 L8.length c8)
    clear CW G8 R8 o8 o8' k8 kf8 G9 R9 o9 o9' bY bL5 bL8
    go_wp2
    refine ⟨rfl, .agg #[.bool f, .slice r5 L5.length c5, .slice r8 L8.length c8], ?_, ⟨f, r5, c5, L5, r8, c8, L8, _, rfl, FIN.out.1, FIN.out.2.1, by omega, by omega, FIN.out.2.2.1, by omega, FIN.out.2.2.2.1⟩⟩
    simp [results, Tryz.f24, go_sem, d0, d1, d2]
  · obtain ⟨d0, d1, d2, df, dn⟩ := boxc3 k3
    go_wp2_with fail
    refine Calls.mono (CW.out _ _ R3 (by omega)) ?_
    rintro e w4 ⟨r4, c4, Z, q4, rfl, oZ, lZ, R4, hq4, g4⟩
    have oY4 := own_far oY3 g4 (by omega)
    have k4 := boxc_kept k3 g4 (by intro e; have := Option.some.inj e; omega)
    have kf4 := boxc_kept kf3 g4 (by intro e; have := Option.some.inj e; omega)
    have G4 := grown_two G3 g4
    have bZ := own_ge oZ
    clear R3 oX3 oY3 k3 kf3 G3 g4 d0 d1 d2 df f0 f1 f2 ff CW
    obtain ⟨d0, d1, d2, df, dn⟩ := boxc3 k4
    obtain ⟨f0, f1, f2, ff, fn⟩ := boxc3 kf4
    obtain ⟨G5, R5⟩ := put_own G4 R4 hgl HBL.out (by omega : w.heap.size ≤ g3) 1 (.slice r4 Z.length c4)
    have o5 := (own_ne oZ (gr_set w4 g3 1 (.slice r4 Z.length c4)) (fun j hj => by have := bZ j hj; omega)).mono (base' := w0.heap.size) (by omega)
    have o5' := own_ne oY4 (gr_set w4 g3 1 (.slice r4 Z.length c4)) (fun j hj => by have := bY j hj; omega)
    have FIN : Hid _ := frac_fin f G5 R5 hgl HBL.out n0 o5 o5' (.bool f) (.slice r4 Z.length c4) (.slice s Y.length cs)
    clear R4 oZ oY4 k4 kf4 G4 G5 R5 o5 o5' bX bY bZ
    go_wp2
    refine ⟨rfl, .agg #[.bool f, .slice r4 Z.length c4, .slice s Y.length cs], ?_, ⟨f, r4, c4, Z, s, cs, Y, _, rfl, FIN.out.1, FIN.out.2.1, by omega, by omega, FIN.out.2.2.1, by omega, FIN.out.2.2.2.1⟩⟩
    simp [results, Tryz.f24, go_sem, d0, d1, d2]
  · have e0 : ((v : Int) == 0) = false := by rw [beq_eq_false_iff_ne]; omega
    have e1 : ((v : Int) == 1) = false := by rw [beq_eq_false_iff_ne]; omega
    have e2 : ((v : Int) == 2) = false := by rw [beq_eq_false_iff_ne]; omega
    have e3 : ((v : Int) == 3) = false := by rw [beq_eq_false_iff_ne]; omega
    have FIN : Hid _ := frac_fin f G3 R3 hgl HBL.out n0 oX3 oY3 (.bool f) (.slice r X.length cr) (.slice s Y.length cs)
    clear CW R3 oX3 oY3 k3 kf3 G3 bX bY
    go_wp2
    refine ⟨rfl, .agg #[.bool f, .slice r X.length cr, .slice s Y.length cs], ?_, ⟨f, r, cr, X, s, cs, Y, _, rfl, FIN.out.1, FIN.out.2.1, by omega, by omega, FIN.out.2.2.1, by omega, FIN.out.2.2.2.1⟩⟩
    simp [results, Tryz.f24, go_sem, d0, d1, d2]
end Go.Proofs.YthokphoojmpajabGreatDoor
