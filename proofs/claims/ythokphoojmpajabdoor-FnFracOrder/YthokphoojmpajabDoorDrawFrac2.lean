/- The contract of l4Rd.frac: a drawn fraction, now and then none. -/
import Derived.Test.YthokphoojmpajabDoorDrawFrac
import Derived.Laws.AppendOwnNone
namespace Go.Proofs.YthokphoojmpajabDoor
open Go.RowKit Go.Proofs.Pin

theorem own_ne {w w' : World} {base g c : Nat} {r : Option Addr} {X : List Int} (o : OwnI w base r c X) (hg : w.grownBy w' (some g)) (hne : ∀ j, r.map (·.block) = some j → j ≠ g) : OwnI w' base r c X :=
  o.keptR hg (fun k hk j hj => by have := Option.some.inj hk; have := hne j hj; omega)
/-- What the call leaves, once its answer lies in the result's box. -/
theorem frac_fin {w w4 : World} {g : Nat} {b : Option Addr} {lb cb : Nat} {bs : List Int} {p B : Nat} {r s : Option Addr} {cr cs : Nat} {X Y : List Int} (f : Bool) (G : w.grownBy w4 (some g)) (R : Rd w4 g b lb cb bs p) (h1 : g < w.heap.size) (h2 : ∀ x, b = some x → bs ≠ [] → x.block < w.heap.size) (hB : w.heap.size < B) (oX : OwnI w4 B r cr X) (oY : OwnI w4 B s cs Y) (x y z : Value) :
    OwnI (((w4.setCell ⟨w.heap.size, 0, none⟩ x).setCell ⟨w.heap.size, 1, none⟩ y).setCell ⟨w.heap.size, 2, none⟩ z) w.heap.size r cr X ∧ OwnI (((w4.setCell ⟨w.heap.size, 0, none⟩ x).setCell ⟨w.heap.size, 1, none⟩ y).setCell ⟨w.heap.size, 2, none⟩ z) w.heap.size s cs Y ∧ Rd (((w4.setCell ⟨w.heap.size, 0, none⟩ x).setCell ⟨w.heap.size, 1, none⟩ y).setCell ⟨w.heap.size, 2, none⟩ z) g b lb cb bs p ∧ w.grownBy (((w4.setCell ⟨w.heap.size, 0, none⟩ x).setCell ⟨w.heap.size, 1, none⟩ y).setCell ⟨w.heap.size, 2, none⟩ z) (some g) ∧ f = f :=
  ⟨(own_far oX (gr_set3 _ _ _ _ _) hB).mono (by omega), (own_far oY (gr_set3 _ _ _ _ _) hB).mono (by omega), (rd_fin G R h1 h2 x y z).2, (rd_fin G R h1 h2 x y z).1, rfl⟩
/-- A store into a box of the call's own. -/
theorem put_own {w w3 : World} {g g3 : Nat} {b : Option Addr} {lb cb : Nat} {bs : List Int} {p : Nat} (G : w.grownBy w3 (some g)) (R : Rd w3 g b lb cb bs p) (h1 : g < w.heap.size) (h2 : ∀ x, b = some x → bs ≠ [] → x.block < w.heap.size) (h3 : w.heap.size ≤ g3) (i : Nat) (v : Value) :
    w.grownBy (w3.setCell ⟨g3, i, none⟩ v) (some g) ∧ Rd (w3.setCell ⟨g3, i, none⟩ v) g b lb cb bs p :=
  ⟨grown_new G (gr_set _ _ _ _) (fun j hj => by have := Option.some.inj hj; omega), R.kept (gr_set _ _ _ _) (by intro e; have := Option.some.inj e; omega) (fun a ha hn e => by have := h2 a ha hn; have := Option.some.inj e; omega)⟩

/-- append, where the row that is appended to is the call's own and what is appended can be read. -/
theorem append_sl (w : World) {ops : Array Oper} {rest : List Oper} {o : Oper} {a : Act} {Q : Exit → Act → World → Prop} (hgd : o.guard = none) (s x : Operand) (ho : o.op = .call { callee := .builtin .append, args := #[s, x], argTypes := #[23, 23] })
    (base : Nat) (v : Value) (n : Nat) (zs : List Int) (hs : a.eval s = v) (hown : w.ownsRow base 3 1 v n (zs.map (Value.int .i64))) (base2 : Nat) (r : Option Addr) (c : Nat) (X : List Int) (hx : a.eval x = .slice r X.length c) (oX : OwnI w base2 r c X) (hl : n + X.length ≤ 100000) (hbase : base ≤ w.heap.size)
    (h : ∀ v' w', w'.ownsRow base 3 1 v' (n + X.length) ((zs ++ X).map (Value.int .i64)) → w.grownBy w' v.ownBlock → wpList Tryd.prog ops Q rest (a.put o.dst v') w') : wpList Tryd.prog ops Q (o :: rest) a w := by
  obtain ⟨i0, hi, hz0, hz1, hz2⟩ := info_parts Tryd.info3
  rcases oX.parts with ⟨rfl, rfl, rfl⟩ | ⟨g, rfl, _⟩
  · refine wpList_append_own_none hgd s x _ ho base 3 i0 1 Tryd.underlying23 hi v n _ hs hown hx ?_
    exact h v w (by simpa using hown) (World.grownBy.refl _ _)
  · refine wpList_append_own w hgd s x _ ho base 3 i0 (.int .i64 0) 1 8 Tryd.underlying23 hi hz0 hz1 hz2 rfl (by decide) v n _ hs hown ⟨g, 0, none⟩ X.length c (X.map (Value.int .i64)) hx (by simp) ?_ (oneCells X) (by unfold maxLen; omega) (by omega) hbase ?_
    · intro j u hu
      by_cases hz : 0 < X.length
      · obtain ⟨ad', e, hsr⟩ := sl_src oX.sl hz
        cases e
        exact hsr j u hu
      · rw [List.length_eq_zero_iff.mp (by omega : X.length = 0)] at hu
        simp at hu
    · intro v' w' h1 h2 _
      exact h v' w' (by rw [List.map_append]; exact h1) h2

/-- What l4Rd.frac leaves. -/
def FracRet (w : World) (g : Nat) (b : Option Addr) (lb cb : Nat) (bs : List Int) (p : Nat) (e : Ending) (w' : World) : Prop :=
  ∃ f r cr X s cs Y p', e = .returned (fracV f r X.length cr s Y.length cs) ∧ OwnI w' w.heap.size r cr X ∧ OwnI w' w.heap.size s cs Y ∧ X.length ≤ 300 ∧ Y.length ≤ 300 ∧ Rd w' g b lb cb bs p' ∧ p' ≤ p + 3000 ∧ w.grownBy w' (some g)

set_option maxRecDepth 20000 in
set_option maxHeartbeats 4000000 in
theorem frac_any (g : Nat) (b : Option Addr) (lb cb : Nat) (bs : List Int) (p : Nat) (w : World) (h : Rd w g b lb cb bs p) (hp : p ≤ 600000) :
    Calls Tryd.prog 48 #[.pointer (some ⟨g, 0, none⟩)] w fun e w' => FracRet w g b lb cb bs p e w' := by
  obtain ⟨hgl, hbl⟩ := h.lt
  obtain ⟨i0, hi, hz0, hz1, hz2⟩ := info_parts Tryd.info3
  obtain ⟨w0, hw0⟩ : ∃ w0, w0 = w.alloc (.cells #[.bool false, .slice none 0 0, .slice none 0 0] 25) := ⟨_, rfl⟩
  have b0 : Below w.heap.size w w0 := by rw [hw0]; exact (Below.refl _ w).alloc (Nat.le_refl _) _
  have R0 : Rd w0 g b lb cb bs p := rd_keep h b0
  have G0 : w.grownBy w0 (some g) := gr_below (World.grownBy.refl _ _) b0
  have k0 : BoxC w0 w.heap.size 25 #[.bool false, .slice none 0 0, .slice none 0 0] := by rw [hw0]; exact boxc_new _ _ _
  have n0 := boxc_lt k0
  have HBL : Hid (∀ x, b = some x → bs ≠ [] → x.block < w.heap.size) := hbl
  have CG : Hid (∀ (W : World) (q : Nat), Rd W g b lb cb bs q → q ≤ 700000 → Calls Tryd.prog 18 #[.pointer (some ⟨g, 0, none⟩)] W fun e w' => ∃ f r cr X s cs Y p', e = .returned (fracV f r X.length cr s Y.length cs) ∧ OwnI w' W.heap.size r cr X ∧ OwnI w' W.heap.size s cs Y ∧ X.length ≤ 256 ∧ Y.length ≤ 256 ∧ Rd w' g b lb cb bs p' ∧ p' ≤ q + 2000 ∧ W.grownBy w' (some g)) := fun W q hr hq => (good_any g b lb cb bs q W hr hq).mono fun e w' ⟨f, r, cr, X, s, cs, Y, p', h1, h2, h3, _, h5, h6, h7⟩ => ⟨f, r, cr, X, s, cs, Y, p', h1, h2, h3, h5, h6, h7⟩
  have CP : Hid (∀ (wr : World) (p' : Nat) (n : Int), Rd wr g b lb cb bs p' → p' ≤ 1000000 → 1 ≤ n → n ≤ 65536 → Calls Tryd.prog 41 #[.pointer (some ⟨g, 0, none⟩), .int .i64 n] wr fun e w' => ∃ v : Nat, e = .returned (.int .i64 (v : Int)) ∧ (v : Int) < n ∧ Rd w' g b lb cb bs (p' + 1) ∧ wr.grownBy w' (some g)) := fun wr p' n hr hp hn1 hn2 => (pick_any g b lb cb bs p' n wr hr hp hn1 hn2).mono fun e w' ⟨v, h1, h2, h3, h4, h5⟩ => ⟨v.toNat, by rw [h1]; congr 2; omega, by omega, h4, h5⟩
  have CW : Hid (∀ (wr : World) (p' : Nat), Rd wr g b lb cb bs p' → p' ≤ 800000 → Calls Tryd.prog 63 #[.pointer (some ⟨g, 0, none⟩)] wr fun e w' => ∃ r cr zs q, e = .returned (.slice r zs.length cr) ∧ OwnI w' wr.heap.size r cr zs ∧ zs.length ≤ 257 ∧ Rd w' g b lb cb bs q ∧ q ≤ p' + 700 ∧ wr.grownBy w' (some g)) := fun wr p' hr hp => (raw_any g b lb cb bs p' wr hr hp).mono fun e w' ⟨r, cr, zs, q, h1, h2, h3, _, h5, h6, h7⟩ => ⟨r, cr, zs, q, h1, h2, h3, h5, h6, h7⟩
  unfold fracV at CG
  clear h b0 hbl
  go_enter Tryd.func48, Tryd.ntmps48
  go_wp2_with fail
  rw [← hw0]
  clear hw0
  refine Calls.mono (CG.out _ _ R0 (by omega)) ?_
  rintro e w1 ⟨f, r, cr, X, s, cs, Y, p1, rfl, oX1, oY1, lX, lY, R1, hp1, g1⟩
  have G1 := grown_two G0 g1
  have k1 := boxc_kept k0 g1 (by intro e; have := Option.some.inj e; omega)
  have bX := own_block_lt oX1
  have bY := own_block_lt oY1
  have z1 : w0.heap.size ≤ w1.heap.size := g1.size
  obtain ⟨w2, hw2⟩ : ∃ w2, w2 = w1.alloc (.cells #[.bool f, .slice r X.length cr, .slice s Y.length cs] 25) := ⟨_, rfl⟩
  obtain ⟨g3, hg3⟩ : ∃ g3, g3 = w1.heap.size := ⟨_, rfl⟩
  have b2 : Below w1.heap.size w1 w2 := by rw [hw2]; exact (Below.refl _ w1).alloc (Nat.le_refl _) _
  have kf2 : BoxC w2 g3 25 #[.bool f, .slice r X.length cr, .slice s Y.length cs] := by rw [hw2, hg3]; exact boxc_new _ _ _
  have oX2 := oX1.keep b2
  have oY2 := oY1.keep b2
  have k2 := boxc_keep k1 b2
  have R2 := rd_keep R1 b2
  have G2 := gr_below G1 b2
  rw [← hg3] at bX bY z1
  clear CG R0 G0 k0 oX1 oY1 R1 g1 G1 k1 b2
  go_wp2_with fail
  rw [← hw2, ← hg3]
  clear hw2 hg3
  refine Calls.mono (CP.out _ _ 60 R2 (by omega) (by omega) (by omega)) ?_
  rintro e w3 ⟨v, rfl, hv, R3, g3w⟩
  have nf := boxc_lt kf2
  have oX3 := own_far oX2 g3w (by omega)
  have oY3 := own_far oY2 g3w (by omega)
  have k3 := boxc_kept k2 g3w (by intro e; have := Option.some.inj e; omega)
  have kf3 := boxc_kept kf2 g3w (by intro e; have := Option.some.inj e; omega)
  have G3 := grown_two G2 g3w
  clear CP R2 oX2 oY2 k2 kf2 G2 g3w nf
  obtain ⟨d0, d1, d2, df, dn⟩ := boxc3 k3
  obtain ⟨f0, f1, f2, ff, fn⟩ := boxc3 kf3
  have hne : ¬ w.heap.size = g3 := by omega
  have hne2 : ¬ g3 = w.heap.size := by omega
  have hcase : v = 0 ∨ v = 1 ∨ v = 2 ∨ v = 3 ∨ 4 ≤ v := by omega
  rcases hcase with rfl | rfl | rfl | rfl | hge
  · obtain ⟨G4, R4⟩ := put_own G3 R3 hgl HBL.out (by omega : w.heap.size ≤ g3) 0 (.bool !f)
    have o4 := own_ne oX3 (gr_set w3 g3 0 (.bool !f)) (fun j hj => by have := bX j hj; omega)
    have o4' := own_ne oY3 (gr_set w3 g3 0 (.bool !f)) (fun j hj => by have := bY j hj; omega)
    have FIN : Hid _ := frac_fin (!f) G4 R4 hgl HBL.out n0 o4 o4' (.bool !f) (.slice r X.length cr) (.slice s Y.length cs)
    clear CW R3 oX3 oY3 k3 kf3 G3 G4 R4 o4 o4' bX bY
    go_wp2
    refine ⟨rfl, .agg #[.bool !f, .slice r X.length cr, .slice s Y.length cs], ?_, ⟨!f, r, cr, X, s, cs, Y, _, rfl, FIN.out.1, FIN.out.2.1, by omega, by omega, FIN.out.2.2.1, by omega, FIN.out.2.2.2.1⟩⟩
    simp [results, Tryd.f48, go_sem, d0, d1, d2]
  · obtain ⟨G4, R4⟩ := put_own G3 R3 hgl HBL.out (by omega : w.heap.size ≤ g3) 2 (.slice none 0 0)
    have o4 := own_ne oX3 (gr_set w3 g3 2 (.slice none 0 0)) (fun j hj => by have := bX j hj; omega)
    have FIN : Hid _ := frac_fin f G4 R4 hgl HBL.out n0 o4 (OwnI.nil _ w0.heap.size) (.bool f) (.slice r X.length cr) (.slice none 0 0)
    clear CW R3 oX3 oY3 k3 kf3 G3 G4 R4 o4 bX bY
    go_wp2
    refine ⟨rfl, .agg #[.bool f, .slice r X.length cr, .slice none 0 0], ?_, ⟨f, r, cr, X, none, 0, [], _, rfl, FIN.out.1, FIN.out.2.1, by omega, by decide, FIN.out.2.2.1, by omega, FIN.out.2.2.2.1⟩⟩
    simp [results, Tryd.f48, go_sem, d0, d1, d2]
  · have z3 : g3 < w3.heap.size := fn
    have OWN1 : (w3.alloc (.cells #[.int .i64 0] 3)).ownsRow w3.heap.size 3 1 (.slice (some ⟨w3.heap.size, 0, none⟩) 1 1) 1 (([0] : List Int).map (Value.int .i64)) := own_lit w3 0
    have b4 : Below w3.heap.size w3 (w3.alloc (.cells #[.int .i64 0] 3)) := (Below.refl _ w3).alloc (Nat.le_refl _) _
    have oX4 := oX3.keep b4
    have HO : Hid _ := OWN1
    have HX : Hid _ := oX4
    have zz : w3.heap.size ≤ (w3.alloc (.cells #[.int .i64 0] 3)).heap.size := by have := b4.size; omega
    clear OWN1 oX4
    go_wp2_with (at_builtin; refine append_sl _ rfl _ _ rfl w3.heap.size _ 1 [0] rfl HO.out w0.heap.size r cr X rfl HX.out (by omega) zz ?_)
    intro v5 w5 hown5 hgr5'
    have hgr5 : (w3.alloc (.cells #[.int .i64 0] 3)).grownBy w5 (some w3.heap.size) := hgr5'
    obtain ⟨r5, c5, rfl, o5⟩ := OwnI.of_row (zs := 0 :: X) hown5
    have G5 := grown_new (gr_below G3 b4) hgr5 (fun j hj => by have := Option.some.inj hj; omega)
    have R5 := (rd_keep R3 b4).kept hgr5 (by intro e; have := Option.some.inj e; omega) (fun a ha hn e => by have := HBL.out a ha hn; have := Option.some.inj e; omega)
    have k5 := boxc_kept (boxc_keep k3 b4) hgr5 (by intro e; have := Option.some.inj e; omega)
    have kf5 := boxc_kept (boxc_keep kf3 b4) hgr5 (by intro e; have := Option.some.inj e; omega)
    have oY5 := own_ne (oY3.keep b4) hgr5 (fun j hj => by have := bY j hj; omega)
    have z5 : w3.heap.size < w5.heap.size := by have := hgr5.size; simp at this; omega
    clear HO HX hown5 hgr5' hgr5 R3 oX3 oY3 k3 kf3 G3 b4 zz d0 d1 d2 df dn f0 f1 f2 ff fn bX
    obtain ⟨f0, f1, f2, ff, fn⟩ := boxc3 kf5
    obtain ⟨L5, hL5⟩ : ∃ L5, L5 = 0 :: X := ⟨_, rfl⟩
    rw [← hL5] at o5 ⊢
    have lL5 : L5.length ≤ 257 := by rw [hL5]; simp; omega
    clear hL5
    obtain ⟨G6, R6⟩ := put_own G5 R5 hgl HBL.out (by omega : w.heap.size ≤ g3) 1 (.slice r5 L5.length c5)
    obtain ⟨w6, hw6⟩ : ∃ w6, w6 = w5.setCell ⟨g3, 1, none⟩ (.slice r5 L5.length c5) := ⟨_, rfl⟩
    have bL5 : ∀ j, r5.map (·.block) = some j → j ≠ g3 := fun j hj => by have := own_ge o5 j hj; omega
    have gs : w5.grownBy w6 (some g3) := by rw [hw6]; exact gr_set _ _ _ _
    have kf6 : BoxC w6 g3 25 #[.bool f, .slice r5 L5.length c5, .slice s Y.length cs] := by rw [hw6]; exact boxc_set1 kf5 _
    have k6 := boxc_kept k5 gs (by intro e; have := Option.some.inj e; omega)
    have o6 := own_ne o5 gs bL5
    have oY6 := own_ne oY5 gs (fun j hj => by have := bY j hj; omega)
    rw [← hw6] at G6 R6
    have z6 : w5.heap.size ≤ w6.heap.size := gs.size
    clear G5 R5 k5 kf5 oY5 o5 gs
    go_upto_region 9 with fail
    rw [← hw6]
    clear hw6 f0 f1 f2 ff fn
    obtain ⟨f0, f1, f2, ff, fn⟩ := boxc3 kf6
    have OWN2 : (w6.alloc (.cells #[.int .i64 0] 3)).ownsRow w6.heap.size 3 1 (.slice (some ⟨w6.heap.size, 0, none⟩) 1 1) 1 (([0] : List Int).map (Value.int .i64)) := own_lit w6 0
    have b7 : Below w6.heap.size w6 (w6.alloc (.cells #[.int .i64 0] 3)) := (Below.refl _ w6).alloc (Nat.le_refl _) _
    have oY7 := oY6.keep b7
    have HO : Hid _ := OWN2
    have HY : Hid _ := oY7
    have zz : w6.heap.size ≤ (w6.alloc (.cells #[.int .i64 0] 3)).heap.size := by have := b7.size; omega
    clear OWN2 oY7
    go_wp2_with (at_builtin; refine append_sl _ rfl _ _ rfl w6.heap.size _ 1 [0] rfl HO.out w0.heap.size s cs Y rfl HY.out (by omega) zz ?_)
    intro v8 w8 hown8 hgr8'
    have hgr8 : (w6.alloc (.cells #[.int .i64 0] 3)).grownBy w8 (some w6.heap.size) := hgr8'
    obtain ⟨r8, c8, rfl, o8⟩ := OwnI.of_row (zs := 0 :: Y) hown8
    have G8 := grown_new (gr_below G6 b7) hgr8 (fun j hj => by have := Option.some.inj hj; omega)
    have R8 := (rd_keep R6 b7).kept hgr8 (by intro e; have := Option.some.inj e; omega) (fun a ha hn e => by have := HBL.out a ha hn; have := Option.some.inj e; omega)
    have k8 := boxc_kept (boxc_keep k6 b7) hgr8 (by intro e; have := Option.some.inj e; omega)
    have kf8 := boxc_kept (boxc_keep kf6 b7) hgr8 (by intro e; have := Option.some.inj e; omega)
    have bL6 := own_block_lt o6
    have o8' := own_ne (o6.keep b7) hgr8 (fun j hj => by have := bL6 j hj; omega)
    clear HO HY hown8 hgr8' hgr8 R6 o6 oY6 k6 kf6 G6 b7 zz f0 f1 f2 ff fn bL6
    obtain ⟨f0, f1, f2, ff, fn⟩ := boxc3 kf8
    obtain ⟨d0, d1, d2, df, dn⟩ := boxc3 k8
    obtain ⟨L8, hL8⟩ : ∃ L8, L8 = 0 :: Y := ⟨_, rfl⟩
    rw [← hL8] at o8 ⊢
    have lL8 : L8.length ≤ 257 := by rw [hL8]; simp; omega
    clear hL8
    have bL8 : ∀ j, r8.map (·.block) = some j → j ≠ g3 := fun j hj => by have := own_ge o8 j hj; omega
    obtain ⟨G9, R9⟩ := put_own G8 R8 hgl HBL.out (by omega : w.heap.size ≤ g3) 2 (.slice r8 L8.length c8)
    have o9 := own_ne o8' (gr_set w8 g3 2 (.slice r8 L8.length c8)) bL5
    have o9' := own_ne o8 (gr_set w8 g3 2 (.slice r8 L8.length c8)) bL8
    have FIN : Hid _ := frac_fin f G9 R9 hgl HBL.out n0 (o9.mono (base' := w0.heap.size) (by omega)) (o9'.mono (base' := w0.heap.size) (by omega)) (.bool f) (.slice r5 L5.length c5) (.slice r8 L8.length c8)
    clear CW G8 R8 o8 o8' k8 kf8 G9 R9 o9 o9' bY bL5 bL8
    go_wp2
    refine ⟨rfl, .agg #[.bool f, .slice r5 L5.length c5, .slice r8 L8.length c8], ?_, ⟨f, r5, c5, L5, r8, c8, L8, _, rfl, FIN.out.1, FIN.out.2.1, by omega, by omega, FIN.out.2.2.1, by omega, FIN.out.2.2.2.1⟩⟩
    simp [results, Tryd.f48, go_sem, d0, d1, d2]
  · obtain ⟨d0, d1, d2, df, dn⟩ := boxc3 k3
    go_wp2_with fail
    refine Calls.mono (CW.out _ _ R3 (by omega)) ?_
    rintro e w4 ⟨r4, c4, Z, q4, rfl, oZ, lZ, R4, hq4, g4⟩
    have oY4 := own_far oY3 g4 (by omega)
    have k4 := boxc_kept k3 g4 (by intro e; have := Option.some.inj e; omega)
    have kf4 := boxc_kept kf3 g4 (by intro e; have := Option.some.inj e; omega)
    have G4 := grown_two G3 g4
    have bZ := own_ge oZ
    clear R3 oX3 oY3 k3 kf3 G3 g4 d0 d1 d2 df f0 f1 f2 ff CW
    obtain ⟨d0, d1, d2, df, dn⟩ := boxc3 k4
    obtain ⟨f0, f1, f2, ff, fn⟩ := boxc3 kf4
    obtain ⟨G5, R5⟩ := put_own G4 R4 hgl HBL.out (by omega : w.heap.size ≤ g3) 1 (.slice r4 Z.length c4)
    have o5 := (own_ne oZ (gr_set w4 g3 1 (.slice r4 Z.length c4)) (fun j hj => by have := bZ j hj; omega)).mono (base' := w0.heap.size) (by omega)
    have o5' := own_ne oY4 (gr_set w4 g3 1 (.slice r4 Z.length c4)) (fun j hj => by have := bY j hj; omega)
    have FIN : Hid _ := frac_fin f G5 R5 hgl HBL.out n0 o5 o5' (.bool f) (.slice r4 Z.length c4) (.slice s Y.length cs)
    clear R4 oZ oY4 k4 kf4 G4 G5 R5 o5 o5' bX bY bZ
    go_wp2
    refine ⟨rfl, .agg #[.bool f, .slice r4 Z.length c4, .slice s Y.length cs], ?_, ⟨f, r4, c4, Z, s, cs, Y, _, rfl, FIN.out.1, FIN.out.2.1, by omega, by omega, FIN.out.2.2.1, by omega, FIN.out.2.2.2.1⟩⟩
    simp [results, Tryd.f48, go_sem, d0, d1, d2]
  · have e0 : ((v : Int) == 0) = false := by rw [beq_eq_false_iff_ne]; omega
    have e1 : ((v : Int) == 1) = false := by rw [beq_eq_false_iff_ne]; omega
    have e2 : ((v : Int) == 2) = false := by rw [beq_eq_false_iff_ne]; omega
    have e3 : ((v : Int) == 3) = false := by rw [beq_eq_false_iff_ne]; omega
    have FIN : Hid _ := frac_fin f G3 R3 hgl HBL.out n0 oX3 oY3 (.bool f) (.slice r X.length cr) (.slice s Y.length cs)
    clear CW R3 oX3 oY3 k3 kf3 G3 bX bY
    go_wp2
    refine ⟨rfl, .agg #[.bool f, .slice r X.length cr, .slice s Y.length cs], ?_, ⟨f, r, cr, X, s, cs, Y, _, rfl, FIN.out.1, FIN.out.2.1, by omega, by omega, FIN.out.2.2.1, by omega, FIN.out.2.2.2.1⟩⟩
    simp [results, Tryd.f48, go_sem, d0, d1, d2]
end Go.Proofs.YthokphoojmpajabDoor
