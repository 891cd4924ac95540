/- The contracts of l4Fracs and DrawFracCmp: two drawn fractions. -/
import Derived.Test.YthokphoojmpajaaGreatDoorGDf
import Derived.Test.YthokphoojmpajaaGreatDoorFrNeg
import Derived.Deep.RegionHeld3
import Derived.Shelf.RegionOpen
import Derived.Shelf.RegionOpenPlain
namespace Go.Proofs.YthokphoojmpajaaGreatDoor
open Go.RowKit Go.Shelf Go.Proofs.Pin

/-- A fraction in memory of the call's own, of no great length. -/
def FrO (w : World) (B : Nat) (r : Option Addr) (cr : Nat) (X : List Int) (s : Option Addr) (cs : Nat) (Y : List Int) : Prop := OwnI w B r cr X ∧ OwnI w B s cs Y ∧ X.length ≤ 300 ∧ Y.length ≤ 300
/-- What a function that draws two fractions leaves. -/
def TwoRet (w : World) (e : Ending) (w' : World) : Prop :=
  ∃ f r cr X s cs Y f' r' cr' X' s' cs' Y', e = .returned (.tuple #[fracV f r (List.length X) cr s (List.length Y) cs, fracV f' r' (List.length X') cr' s' (List.length Y') cs']) ∧ FrO w' w.heap.size r cr X s cs Y ∧ FrO w' w.heap.size r' cr' X' s' cs' Y' ∧ Below w.heap.size w w'
theorem two_fin {w W : World} {B : Nat} (f : Bool) {r s : Option Addr} {cr cs : Nat} {X Y : List Int} (f' : Bool) {r' s' : Option Addr} {cr' cs' : Nat} {X' Y' : List Int} (hB : Below w.heap.size w W) (hb : w.heap.size + 1 < B) (oX : OwnI W B r cr X) (oY : OwnI W B s cs Y) (oX' : OwnI W B r' cr' X') (oY' : OwnI W B s' cs' Y') (lX : X.length ≤ 300) (lY : Y.length ≤ 300) (lX' : X'.length ≤ 300) (lY' : Y'.length ≤ 300) (x y z x' y' z' : Value) :
    TwoRet w (.returned (.tuple #[fracV f r X.length cr s Y.length cs, fracV f' r' X'.length cr' s' Y'.length cs'])) ((((((W.setCell ⟨w.heap.size, 0, none⟩ x).setCell ⟨w.heap.size, 1, none⟩ y).setCell ⟨w.heap.size, 2, none⟩ z).setCell ⟨w.heap.size + 1, 0, none⟩ x').setCell ⟨w.heap.size + 1, 1, none⟩ y').setCell ⟨w.heap.size + 1, 2, none⟩ z').drew := by
  have put : ∀ {q : Option Addr} {c : Nat} {Z : List Int}, OwnI W B q c Z → OwnI (((((W.setCell ⟨w.heap.size, 0, none⟩ x).setCell ⟨w.heap.size, 1, none⟩ y).setCell ⟨w.heap.size, 2, none⟩ z).setCell ⟨w.heap.size + 1, 0, none⟩ x').setCell ⟨w.heap.size + 1, 1, none⟩ y' |>.setCell ⟨w.heap.size + 1, 2, none⟩ z').drew B q c Z := fun o => own_dN (own_far (own_far o (gr_set3 _ _ _ _ _) (by omega)) (gr_set3 _ _ _ _ _) hb) 1
  exact ⟨f, r, cr, X, s, cs, Y, f', r', cr', X', s', cs', Y', rfl, ⟨(put oX).mono (by omega), (put oY).mono (by omega), lX, lY⟩, ⟨(put oX').mono (by omega), (put oY').mono (by omega), lX', lY'⟩, (below_set3 (below_set3 hB (Nat.le_refl _) _ _ _) (Nat.le_succ _) _ _ _).drew⟩

set_option maxRecDepth 20000 in
set_option maxHeartbeats 4000000 in
theorem fracs_any (a : Option Addr) (len cap : Nat) (bs : List Int) (w : World) (h : SlU w a bs) (hb : ByteL bs) (hl : bs.length = len) (hl2 : len ≤ 1048576) (hcap : len ≤ cap) :
    Calls Tryz.prog 14 #[.slice a len cap] w fun e w' => TwoRet w e w' := by
  obtain ⟨w0, hw0⟩ : ∃ w0, w0 = (w.alloc (.cells #[.bool false, .slice none 0 0, .slice none 0 0] 25)).alloc (.cells #[.bool false, .slice none 0 0, .slice none 0 0] 25) := ⟨_, rfl⟩
  have b0 : Below w.heap.size w w0 := by rw [hw0]; exact ((Below.refl _ w).alloc (Nat.le_refl _) _).alloc (by simp) _
  have k0 : BoxC w0 w.heap.size 25 #[.bool false, .slice none 0 0, .slice none 0 0] := by rw [hw0]; exact boxc_alloc (boxc_new _ _ _) _
  have l0 : BoxC w0 (w.heap.size + 1) 25 #[.bool false, .slice none 0 0, .slice none 0 0] := by
    rw [hw0]
    have h := boxc_new (w.alloc (.cells #[.bool false, .slice none 0 0, .slice none 0 0] 25)) 25 #[.bool false, .slice none 0 0, .slice none 0 0]
    rw [World.size_alloc] at h
    exact h
  have n0 := boxc_lt l0
  have h' : SlU w0 a bs := by
    rcases h with h | ⟨b, off, rfl, hlt, hc⟩
    · exact .inl h
    · exact .inr ⟨b, off, rfl, Nat.lt_of_lt_of_le hlt b0.size, fun i hi => (b0.cell (p := ⟨b, off + i, none⟩) hlt).trans (hc i hi)⟩
  have C0 : Hid _ := open_any a len cap bs w0 h' hb hl hl2 hcap
  have CF : Hid (∀ (W : World) (g lb : Nat) (bs' : List Int) (q : Nat), Rd W g a lb cap bs' q → q ≤ 600000 → Calls Tryz.prog 32 #[.pointer (some ⟨g, 0, none⟩)] W fun e w' => FracRet W g a lb cap bs' q e w') := fun W g lb bs' q hr hq => frac_any g a lb cap bs' q W hr hq
  have CP : Hid (∀ (wr : World) (g lb : Nat) (bs' : List Int) (p' : Nat) (n : Int), Rd wr g a lb cap bs' p' → p' ≤ 1000000 → 1 ≤ n → n ≤ 65536 → Calls Tryz.prog 33 #[.pointer (some ⟨g, 0, none⟩), .int .i64 n] wr fun e w' => ∃ v : Nat, e = .returned (.int .i64 (v : Int)) ∧ (v : Int) < n ∧ Rd w' g a lb cap bs' (p' + 1) ∧ wr.grownBy w' (some g)) := fun wr g lb bs' p' n hr hp hn1 hn2 => (pick_any g a lb cap bs' p' n wr hr hp hn1 hn2).mono fun e w' ⟨v, h1, h2, h3, h4, h5⟩ => ⟨v.toNat, by rw [h1]; congr 2; omega, by omega, h4, h5⟩
  have CN : Hid (∀ (W : World) (f : Bool) (r s : Option Addr) (cr cs : Nat) (X Y : List Int), Sl W r X → Sl W s Y → X.length ≤ 300 → Y.length ≤ 300 → Calls Tryz.prog 34 #[fracV f r X.length cr s Y.length cs] W fun e w' => ∃ A : FAns, A.X.length ≤ 300 ∧ A.Y.length ≤ 300 ∧ RetS W e w' A) := fun W f r s cr cs X Y h1 h2 h3 h4 => (specNeg_any f r s cr cs X Y W h1 h2 (by omega) (by omega)).mono fun e w' hr => ⟨_, by have := (negA_len f X Y).1; omega, by have := (negA_len f X Y).2; omega, hr⟩
  unfold FracRet at CF
  unfold RetS at CN
  unfold fracV at CF CN
  clear h h' hb hl
  go_enter Tryz.func14, Tryz.ntmps14
  go_wp2_with fail
  rw [← hw0]
  clear hw0
  refine Calls.mono C0.out ?_
  rintro e w1 ⟨g, lb, bs', rfl, hg, R1, b1⟩
  have B1 := b0.trans (b1.mono b0.size)
  have k1 := boxc_keep k0 b1
  have l1 := boxc_keep l0 b1
  have g1 : g < w1.heap.size := R1.lt.1
  clear C0 b1 b0 k0 l0
  go_wp2_with fail
  refine Calls.mono (CF.out _ _ _ _ _ R1 (by omega)) ?_
  rintro e w2 ⟨f, r, cr, X, s, cs, Y, p2, rfl, oX2, oY2, lX, lY, R2, hp2, gr2⟩
  have B2 : Below w.heap.size w w2 := B1.grown gr2 B1.size (fun k hk => by have := Option.some.inj hk; omega)
  have k2 := boxc_kept k1 gr2 (by intro e; have := Option.some.inj e; omega)
  have l2 := boxc_kept l1 gr2 (by intro e; have := Option.some.inj e; omega)
  have z12 : w1.heap.size ≤ w2.heap.size := gr2.size
  obtain ⟨w3, hw3⟩ : ∃ w3, w3 = w2.alloc (.cells #[.bool f, .slice r X.length cr, .slice s Y.length cs] 25) := ⟨_, rfl⟩
  obtain ⟨ga, hga⟩ : ∃ ga, ga = w2.heap.size := ⟨_, rfl⟩
  have b3 : Below w2.heap.size w2 w3 := by rw [hw3]; exact (Below.refl _ w2).alloc (Nat.le_refl _) _
  have ka3 : BoxC w3 ga 25 #[.bool f, .slice r X.length cr, .slice s Y.length cs] := by rw [hw3, hga]; exact boxc_new _ _ _
  have B3 := B2.trans (b3.mono B2.size)
  have k3 := boxc_keep k2 b3
  have l3 := boxc_keep l2 b3
  have oX3 := oX2.keep b3
  have oY3 := oY2.keep b3
  have R3 := rd_keep R2 b3
  clear R1 B1 k1 l1 gr2 B2 k2 l2 oX2 oY2 R2 b3
  go_wp2_with fail
  rw [← hw3, ← hga]
  have hga2 : w1.heap.size ≤ ga := by omega
  clear hw3 hga
  refine Calls.mono (CF.out _ _ _ _ _ R3 (by omega)) ?_
  rintro e w4 ⟨f', r', cr', X', s', cs', Y', p4, rfl, oX4', oY4', lX', lY', R4, hp4, gr4⟩
  have na := boxc_lt ka3
  have B4 : Below w.heap.size w w4 := B3.grown gr4 B3.size (fun k hk => by have := Option.some.inj hk; omega)
  have k4 := boxc_kept k3 gr4 (by intro e; have := Option.some.inj e; omega)
  have l4 := boxc_kept l3 gr4 (by intro e; have := Option.some.inj e; omega)
  have ka4 := boxc_kept ka3 gr4 (by intro e; have := Option.some.inj e; omega)
  have oX4 := own_far oX3 gr4 (by omega)
  have oY4 := own_far oY3 gr4 (by omega)
  have z34 : w3.heap.size ≤ w4.heap.size := gr4.size
  have oX4b := oX4'.mono (base' := w1.heap.size) (by omega)
  have oY4b := oY4'.mono (base' := w1.heap.size) (by omega)
  obtain ⟨w5, hw5⟩ : ∃ w5, w5 = w4.alloc (.cells #[.bool f', .slice r' X'.length cr', .slice s' Y'.length cs'] 25) := ⟨_, rfl⟩
  obtain ⟨gb, hgb⟩ : ∃ gb, gb = w4.heap.size := ⟨_, rfl⟩
  have b5 : Below w4.heap.size w4 w5 := by rw [hw5]; exact (Below.refl _ w4).alloc (Nat.le_refl _) _
  have kb5 : BoxC w5 gb 25 #[.bool f', .slice r' X'.length cr', .slice s' Y'.length cs'] := by rw [hw5, hgb]; exact boxc_new _ _ _
  have B5 := B4.trans (b5.mono B4.size)
  have k5 := boxc_keep k4 b5
  have l5 := boxc_keep l4 b5
  have ka5 := boxc_keep ka4 b5
  have oX5 := oX4.keep b5
  have oY5 := oY4.keep b5
  have oX5' := oX4b.keep b5
  have oY5' := oY4b.keep b5
  have R5 := rd_keep R4 b5
  have bX' := own_block_lt oX4'
  have bY' := own_block_lt oY4'
  rw [← hgb] at bX' bY'
  have bX := own_block_lt oX4
  have bY := own_block_lt oY4
  rw [← hgb] at bX bY
  have nab : ga < gb := by omega
  clear CF R3 B3 k3 l3 ka3 gr4 oX3 oY3 B4 k4 l4 ka4 oX4 oY4 oX4' oY4' oX4b oY4b R4 b5 na
  go_wp2_with fail
  rw [← hw5, ← hgb]
  clear hw5 hgb
  refine Calls.mono (CP.out _ _ _ _ _ 6 R5 (by omega) (by omega) (by omega)) ?_
  rintro e w6 ⟨v, rfl, hv, R6, gr6⟩
  have nb := boxc_lt kb5
  have B6 : Below w.heap.size w w6 := B5.grown gr6 B5.size (fun k hk => by have := Option.some.inj hk; omega)
  have k6 := boxc_kept k5 gr6 (by intro e; have := Option.some.inj e; omega)
  have l6 := boxc_kept l5 gr6 (by intro e; have := Option.some.inj e; omega)
  have ka6 := boxc_kept ka5 gr6 (by intro e; have := Option.some.inj e; omega)
  have kb6 := boxc_kept kb5 gr6 (by intro e; have := Option.some.inj e; omega)
  have oX6 := own_far oX5 gr6 (by omega)
  have oY6 := own_far oY5 gr6 (by omega)
  have oX6' := own_far oX5' gr6 (by omega)
  have oY6' := own_far oY5' gr6 (by omega)
  clear CP R5 R6 B5 k5 l5 ka5 kb5 gr6 oX5 oY5 oX5' oY5' nb z12 z34
  have mixed : Tryz.prog.follows Departure.mixedOrders = true := by kernel_rfl
  have hlw : w1.heap.size > w.heap.size + 1 := by omega
  by_cases hv0 : v = 0
  · subst hv0
    obtain ⟨p0, p1, p2', pf, pn⟩ := boxc3 ka6
    go_wp2_with fail
    refine Calls.mono (CN.out _ _ _ _ _ _ _ _ oX6.sl oY6.sl lX lY) ?_
    rintro e w7 ⟨A, lA, lA', r7, c7, s7, d7, rfl, o7, o7', b7⟩
    have B7 := B6.trans (b7.mono B6.size)
    have k7 := boxc_keep k6 b7
    have l7 := boxc_keep l6 b7
    have ka7 := boxc_keep ka6 b7
    have kb7 := boxc_keep kb6 b7
    have oX7 := oX6.keep b7
    have oY7 := oY6.keep b7
    have z6 : gb < w6.heap.size := boxc_lt kb6
    obtain ⟨w8, hw8⟩ : ∃ w8, w8 = ((w7.setCell ⟨gb, 0, none⟩ (.bool A.b)).setCell ⟨gb, 1, none⟩ (.slice r7 A.X.length c7)).setCell ⟨gb, 2, none⟩ (.slice s7 A.Y.length d7) := ⟨_, rfl⟩
    have gs : w7.grownBy w8 (some gb) := by rw [hw8]; exact gr_set3 _ _ _ _ _
    have B8 : Below w.heap.size w w8 := by rw [hw8]; exact below_set3 B7 (by omega) _ _ _
    have kb8 : BoxC w8 gb 25 #[.bool A.b, .slice r7 A.X.length c7, .slice s7 A.Y.length d7] := by rw [hw8]; exact boxc_set2 (boxc_set1 (boxc_set0 kb7 _) _) _
    have k8 := boxc_kept k7 gs (by intro e; have := Option.some.inj e; omega)
    have l8 := boxc_kept l7 gs (by intro e; have := Option.some.inj e; omega)
    have ka8 := boxc_kept ka7 gs (by intro e; have := Option.some.inj e; omega)
    have oX8 := own_ne oX7 gs (fun j hj => by have := bX j hj; omega)
    have oY8 := own_ne oY7 gs (fun j hj => by have := bY j hj; omega)
    have o8 := (own_ne o7 gs (fun j hj => by have := own_ge o7 j hj; omega)).mono (base' := w1.heap.size) (by have := B6.size; omega)
    have o8' := (own_ne o7' gs (fun j hj => by have := own_ge o7' j hj; omega)).mono (base' := w1.heap.size) (by have := B6.size; omega)
    obtain ⟨q0, q1, q2, qf, qn⟩ := boxc3 kb7
    clear p0 p1 p2' pf pn CN b7 B6 B7 k6 k7 l6 l7 ka6 ka7 kb6 kb7 oX6 oY6 oX6' oY6' oX7 oY7 o7 o7' gs
    go_upto_region 6 with fail
    rw [← hw8]
    clear hw8 q0 q1 q2 qf qn
    obtain ⟨d0, d1, d2, df, dn⟩ := boxc3 k8
    obtain ⟨e0', e1', e2', ef, en⟩ := boxc3 l8
    obtain ⟨p0, p1, p2', pf, pn⟩ := boxc3 ka8
    obtain ⟨q0, q1, q2, qf, qn⟩ := boxc3 kb8
    have FIN : Hid _ := two_fin f A.b B8 hlw oX8 oY8 o8 o8' lX lY lA lA' (.bool f) (.slice r X.length cr) (.slice s Y.length cs) (.bool A.b) (.slice r7 A.X.length c7) (.slice s7 A.Y.length d7)
    clear k8 l8 ka8 kb8 oX8 oY8 o8 o8' B8 bX bY bX' bY'
    go_region_o
    go_wp2
    refine ⟨rfl, .tuple #[.agg #[.bool f, .slice r X.length cr, .slice s Y.length cs], .agg #[.bool A.b, .slice r7 A.X.length c7, .slice s7 A.Y.length d7]], ?_, FIN.out⟩
    simp [results, Tryz.f14, go_sem, d0, d1, d2, e0', e1', e2']
  · have e0 : ((v : Int) == 0) = false := by rw [beq_eq_false_iff_ne]; omega
    obtain ⟨d0, d1, d2, df, dn⟩ := boxc3 k6
    obtain ⟨e0', e1', e2', ef, en⟩ := boxc3 l6
    obtain ⟨p0, p1, p2', pf, pn⟩ := boxc3 ka6
    obtain ⟨q0, q1, q2, qf, qn⟩ := boxc3 kb6
    have FIN : Hid _ := two_fin f f' B6 hlw oX6 oY6 oX6' oY6' lX lY lX' lY' (.bool f) (.slice r X.length cr) (.slice s Y.length cs) (.bool f') (.slice r' X'.length cr') (.slice s' Y'.length cs')
    clear CN k6 l6 ka6 kb6 oX6 oY6 oX6' oY6' B6 bX bY bX' bY'
    go_wp2_with fail
    go_region_o
    go_wp2
    refine ⟨rfl, .tuple #[.agg #[.bool f, .slice r X.length cr, .slice s Y.length cs], .agg #[.bool f', .slice r' X'.length cr', .slice s' Y'.length cs']], ?_, FIN.out⟩
    simp [results, Tryz.f14, go_sem, d0, d1, d2, e0', e1', e2']

set_option maxRecDepth 20000 in
set_option maxHeartbeats 2000000 in
theorem drawFracAdd_any (a : Option Addr) (len cap : Nat) (bs : List Int) (w : World) (h : SlU w a bs) (hb : ByteL bs) (hl : bs.length = len) (hl2 : len ≤ 1048576) (hcap : len ≤ cap) :
    Calls Tryz.prog 4 #[.slice a len cap] w fun e w' => TwoRet w e w' := by
  obtain ⟨w0, hw0⟩ : ∃ w0, w0 = (w.alloc (.cells #[.bool false, .slice none 0 0, .slice none 0 0] 25)).alloc (.cells #[.bool false, .slice none 0 0, .slice none 0 0] 25) := ⟨_, rfl⟩
  have b0 : Below w.heap.size w w0 := by rw [hw0]; exact ((Below.refl _ w).alloc (Nat.le_refl _) _).alloc (by simp) _
  have k0 : BoxC w0 w.heap.size 25 #[.bool false, .slice none 0 0, .slice none 0 0] := by rw [hw0]; exact boxc_alloc (boxc_new _ _ _) _
  have l0 : BoxC w0 (w.heap.size + 1) 25 #[.bool false, .slice none 0 0, .slice none 0 0] := by
    rw [hw0]
    have h := boxc_new (w.alloc (.cells #[.bool false, .slice none 0 0, .slice none 0 0] 25)) 25 #[.bool false, .slice none 0 0, .slice none 0 0]
    rw [World.size_alloc] at h
    exact h
  have n0 := boxc_lt l0
  have h' : SlU w0 a bs := by
    rcases h with h | ⟨b, off, rfl, hlt, hc⟩
    · exact .inl h
    · exact .inr ⟨b, off, rfl, Nat.lt_of_lt_of_le hlt b0.size, fun i hi => (b0.cell (p := ⟨b, off + i, none⟩) hlt).trans (hc i hi)⟩
  have C0 : Hid _ := fracs_any a len cap bs w0 h' hb hl hl2 hcap
  have mixed : Tryz.prog.follows Departure.mixedOrders = true := by kernel_rfl
  unfold TwoRet FrO at C0
  unfold fracV at C0
  clear h h' hb hl
  go_enter Tryz.func4, Tryz.ntmps4
  go_wp2_with fail
  rw [← hw0]
  clear hw0
  refine Calls.mono C0.out ?_
  rintro e w1 ⟨f, r, cr, X, s, cs, Y, f', r', cr', X', s', cs', Y', rfl, ⟨oX, oY, lX, lY⟩, ⟨oX', oY', lX', lY'⟩, b1⟩
  have B1 := b0.trans (b1.mono b0.size)
  have k1 := boxc_keep k0 b1
  have l1 := boxc_keep l0 b1
  have n1 := boxc_lt l1
  clear C0 b0 b1 k0 l0
  obtain ⟨w2, hw2⟩ : ∃ w2, w2 = (w1.alloc (.cells #[.bool f, .slice r X.length cr, .slice s Y.length cs] 25)).alloc (.cells #[.bool f', .slice r' X'.length cr', .slice s' Y'.length cs'] 25) := ⟨_, rfl⟩
  obtain ⟨ga, hga⟩ : ∃ ga, ga = w1.heap.size := ⟨_, rfl⟩
  have b2 : Below w1.heap.size w1 w2 := by rw [hw2]; exact ((Below.refl _ w1).alloc (Nat.le_refl _) _).alloc (by simp) _
  have ka : BoxC w2 ga 25 #[.bool f, .slice r X.length cr, .slice s Y.length cs] := by rw [hw2, hga]; exact boxc_alloc (boxc_new _ _ _) _
  have kb : BoxC w2 (ga + 1) 25 #[.bool f', .slice r' X'.length cr', .slice s' Y'.length cs'] := by
    rw [hw2, hga]
    have h := boxc_new (w1.alloc (.cells #[.bool f, .slice r X.length cr, .slice s Y.length cs] 25)) 25 #[.bool f', .slice r' X'.length cr', .slice s' Y'.length cs']
    rw [World.size_alloc] at h
    exact h
  have B2 := B1.trans (b2.mono B1.size)
  have k2 := boxc_keep k1 b2
  have l2 := boxc_keep l1 b2
  have FIN : Hid _ := two_fin f f' B2 n0 (oX.keep b2) (oY.keep b2) (oX'.keep b2) (oY'.keep b2) lX lY lX' lY' (.bool f) (.slice r X.length cr) (.slice s Y.length cs) (.bool f') (.slice r' X'.length cr') (.slice s' Y'.length cs')
  have nga : w.heap.size + 1 < ga := by omega
  go_upto_region 2 with fail
  rw [← hw2, ← hga]
  obtain ⟨d0, d1, d2, df, dn⟩ := boxc3 k2
  obtain ⟨e0', e1', e2', ef, en⟩ := boxc3 l2
  obtain ⟨p0, p1, p2', pf, pn⟩ := boxc3 ka
  obtain ⟨q0, q1, q2, qf, qn⟩ := boxc3 kb
  clear hw2 hga b2 ka kb B1 B2 k1 k2 l1 l2 oX oY oX' oY'
  go_region_o
  go_wp2
  refine ⟨rfl, .tuple #[.agg #[.bool f, .slice r X.length cr, .slice s Y.length cs], .agg #[.bool f', .slice r' X'.length cr', .slice s' Y'.length cs']], ?_, FIN.out⟩
  simp [results, Tryz.f4, go_sem, d0, d1, d2, e0', e1', e2']
end Go.Proofs.YthokphoojmpajaaGreatDoor
