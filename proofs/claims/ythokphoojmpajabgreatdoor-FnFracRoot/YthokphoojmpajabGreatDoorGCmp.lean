/- The contract of spec.l1Trim at the digits of a number: it copies them. The contracts of impl.FracAbs and spec.FracAbs. The contracts of impl.FracFloor and spec.FracFloor. The contract of spec.l2Neg. The contracts of impl.FracCmp and spec.FracCmp. -/
import Derived.Test.YthokphoojmpajabGreatDoorGAr
import Derived.Deep.RegionWith
import Derived.Test.YthokphoojmpajabGreatDoorGFr6
import Derived.Test.YthokphoojmpajabGreatDoorGFr8
import Derived.Test.YthokphoojmpajabGreatDoorGSp
namespace Go.Proofs.YthokphoojmpajabGreatDoor
open Go.RowKit Go.Proofs.Pin

theorem trim_id (x : Nat) : (dgs x).take (trimN (dgs x) (dgs x).length) = dgs x := by
  rw [trim_dgs (Dg_dgs x), val_dgs, Int.toNat_natCast]
theorem l1Trim_dgs (a : Option Addr) (ca x : Nat) (w : World) (h : Sl w a (dgs x)) (hl : (dgs x).length ≤ 1048576) :
    Calls Tryz.prog 62 #[.slice a (dgs x).length ca] w fun e w' => ∃ r c, e = .returned (.slice r (dgs x).length c) ∧ OwnI w' w.heap.size r c (dgs x) ∧ Below w.heap.size w w' := by
  have h1 := l1Trim_any a ca (dgs x) w h hl
  rw [trim_id] at h1
  exact h1
end Go.Proofs.YthokphoojmpajabGreatDoor

namespace Go.Proofs.YthokphoojmpajabGreatDoor
open Go.RowKit Go.Proofs.Pin

def absA (_ : Bool) (x y : Nat) : FAns := ⟨false, dgs x, dgs y, true⟩

theorem absA_len (b : Bool) (X Y : List Int) : (op1A absA b X Y).X.length ≤ 256 ∧ (op1A absA b X Y).Y.length ≤ 256 := by
  cases h : fokB b X Y with
  | false => rw [op1A_no h]; exact ⟨Nat.zero_le _, Nat.zero_le _⟩
  | true =>
    obtain ⟨x, y, rfl, rfl, lx, ly, _⟩ := fok_parts h
    rw [op1A_yes h]
    exact ⟨lx, ly⟩

set_option maxRecDepth 20000 in
set_option maxHeartbeats 1000000 in
theorem implAbs_any (b : Bool) (r s : Option Addr) (cr cs : Nat) (X Y : List Int) (w : World) (hh : Hdl w) (hX : Sl w r X) (hY : Sl w s Y) (lX : X.length ≤ 1048576) (lY : Y.length ≤ 1048576) (cX : X.length ≤ cr) (cY : Y.length ≤ cs) :
    Calls Tryz.prog 11 #[fracV b r X.length cr s Y.length cs] w fun e w' => RetF w e w' (op1A absA b X Y) := by
  obtain ⟨w0, hw0⟩ : ∃ w0, w0 = (w.alloc (.cells #[.bool b, .slice r X.length cr, .slice s Y.length cs] 25)).alloc (.cells #[.bool false, .slice none 0 0, .slice none 0 0] 25) := ⟨_, rfl⟩
  have B0 : Below w.heap.size w w0 := by rw [hw0]; exact ((Below.refl _ w).alloc (Nat.le_refl _) _).alloc (by simp) _
  have k2 : BoxC w0 (w.heap.size + 1) 25 #[.bool false, .slice none 0 0, .slice none 0 0] := by
    rw [hw0]
    have h := boxc_new (w.alloc (.cells #[.bool b, .slice r X.length cr, .slice s Y.length cs] 25)) 25 #[.bool false, .slice none 0 0, .slice none 0 0]
    rw [World.size_alloc] at h
    exact h
  cases h : fokB b X Y with
  | false =>
    rw [op1A_no h]
    have C1 : Hid _ := taken_no b r s cr cs X Y w0 (hX.keep B0) (hY.keep B0) lX lY cX cY h
    have C2 : Hid (∀ W t, Hdl W → Calls Tryz.prog 29 #[frV none 0 0 none 0 0 false, flt t] W fun e w' => e = .returned (.tuple #[fracV false none 0 0 none 0 0, .bool false]) ∧ Below W.heap.size W w') := fun W t h => told_err _ t none none 0 0 0 0 false W h rfl
    unfold fracV fr0 flt at C1
    unfold flt fracV at C2
    unfold frV at C1 C2
    unfold fracV
    clear h lX lY cX cY hX hY
    go_enter Tryz.func11, Tryz.ntmps11
    go_wp2_with fail
    rw [← hw0]
    refine Calls.mono C1.out ?_
    rintro e w1 ⟨⟨t, rfl⟩, b1⟩
    have k21 := boxc_keep k2 b1
    have B1 := B0.trans (b1.mono B0.size)
    have B2 : Below w.heap.size w (w1.alloc (.cells #[.slice none 0 0, .slice none 0 0, .bool false] 48)) := B1.alloc B1.size _
    have h2 := hh.keep B2 hh.pos
    have k22 := boxc_alloc k21 (.cells #[.slice none 0 0, .slice none 0 0, .bool false] 48)
    clear hw0 b1 B0 k2 C1
    go_wp2_with fail
    refine Calls.mono (C2.out _ t h2) ?_
    rintro e w2 ⟨rfl, b2⟩
    obtain ⟨d0, d1, d2, df, dn⟩ := boxc3 (boxc_keep k22 b2)
    have HB : Hid (Below w.heap.size w w2) := B2.trans (b2.mono B2.size)
    clear C2 h2 b2 B1 B2 k21 k22 hh
    go_wp2
    refine ⟨rfl, .tuple #[.agg #[.bool false, .slice none 0 0, .slice none 0 0], .bool false], ?_, retF_no (below_set3 HB.out (by omega) _ _ _)⟩
    simp [results, Tryz.f11, go_sem, d0, d1, d2]
  | true =>
    have C1 : Hid _ := taken_yes b r s cr cs X Y w0 (hX.keep B0) (hY.keep B0) lX lY cX cY h
    have C2 : Hid (∀ W, Sl W r X → Sl W s Y → Calls Tryz.prog 29 #[frV r X.length cr s Y.length cs false, .nilIface] W fun e w' => ∃ r' cr' s' cs', e = .returned (.tuple #[fracV false r' X.length cr' s' Y.length cs', .bool true]) ∧ OwnI w' W.heap.size r' cr' X ∧ OwnI w' W.heap.size s' cs' Y ∧ Ap r' s' ∧ Below W.heap.size W w') := fun W h1 h2 => told_ok _ r s cr cs X Y false W h1 h2 lX lY rfl
    have hA : op1A absA b X Y = ⟨false, X, Y, true⟩ := by
      obtain ⟨x, y, rfl, rfl, _⟩ := fok_parts h
      rw [op1A_yes h]; rfl
    rw [hA]
    unfold fracV frV at C1 C2
    unfold fracV
    clear h lX lY cX cY hA hh
    go_enter Tryz.func11, Tryz.ntmps11
    go_wp2_with fail
    rw [← hw0]
    refine Calls.mono C1.out ?_
    rintro e w1 ⟨rfl, b1⟩
    have k21 := boxc_keep k2 b1
    have B1 := B0.trans (b1.mono B0.size)
    have B2 : Below w.heap.size w (w1.alloc (.cells #[.slice r X.length cr, .slice s Y.length cs, .bool b] 48)) := B1.alloc B1.size _
    have k22 := boxc_alloc k21 (.cells #[.slice r X.length cr, .slice s Y.length cs, .bool b] 48)
    clear hw0 b1 B0 k2 C1
    go_wp2_with fail
    refine Calls.mono (C2.out _ (hX.keep B2) (hY.keep B2)) ?_
    rintro e w2 ⟨r2, c2, s2, e2, rfl, o2, p2, ap2, b2⟩
    obtain ⟨d0, d1, d2, df, dn⟩ := boxc3 (boxc_keep k22 b2)
    have H : Hid (RetF w _ _ ⟨false, X, Y, true⟩) := retF_fin (A := ⟨false, X, Y, true⟩) o2 p2 ap2 (B2.trans (b2.mono B2.size)) (Nat.le_succ w.heap.size) (boxc_lt k22) (.bool false) (.slice r2 X.length c2) (.slice s2 Y.length e2)
    clear C2 b2 B1 B2 k21 k22 o2 p2 ap2 hX hY
    unfold fracV at H
    go_wp2
    refine ⟨rfl, .tuple #[.agg #[.bool false, .slice r2 X.length c2, .slice s2 Y.length e2], .bool true], ?_, H.out⟩
    simp [results, Tryz.f11, go_sem, d0, d1, d2]

end Go.Proofs.YthokphoojmpajabGreatDoor

namespace Go.Proofs.YthokphoojmpajabGreatDoor
open Go.RowKit Go.Proofs.Pin

/-- The whole number that is not above, without its sign. -/
def flQ (b : Bool) (x y : Nat) : Nat := if b = true ∧ x % y ≠ 0 then x / y + 1 else x / y
def floorA (b : Bool) (x y : Nat) : FAns := ⟨b, dgs (flQ b x y), [1], true⟩
theorem flQ_le {b : Bool} {x y : Nat} (hy : y ≠ 0) : flQ b x y ≤ x := by
  unfold flQ
  split
  · rename_i h
    have h1 : y ≠ 1 := fun e => h.2 (by rw [e]; exact Nat.mod_one x)
    have h2 : x ≠ 0 := fun e => h.2 (by rw [e]; exact Nat.zero_mod y)
    have := Nat.div_lt_self (n := x) (k := y) (by omega) (by omega)
    omega
  · exact Nat.div_le_self x y
theorem flQ_pos {b : Bool} {x y : Nat} (hx : b = true → x ≠ 0) (hb : b = true) : flQ b x y ≠ 0 := by
  unfold flQ
  split
  · exact Nat.succ_ne_zero _
  · rename_i h
    have hm : x % y = 0 := by
      rcases Nat.eq_zero_or_pos (x % y) with h1 | h1
      · exact h1
      · exact absurd ⟨hb, by omega⟩ h
    intro h0
    have := Nat.div_add_mod x y
    rw [h0, hm] at this
    simp at this
    exact hx hb this.symm
theorem makeA_one {b : Bool} {q : Nat} (hb : b = true → q ≠ 0) (hl : (dgs q).length ≤ 256) : makeA b q 1 = ⟨b, dgs q, [1], true⟩ := by
  have h1 : loX q 1 = dgs q := by unfold loX; rw [Nat.gcd_one_right, Nat.div_one]
  have h2 : loY q 1 = [1] := by unfold loY; rw [Nat.gcd_one_right]; rfl
  unfold makeA
  rw [h1, h2, if_pos ⟨hl, by decide⟩]
  cases b with
  | false => simp
  | true => have := (dgs_pos_len q).2 (hb rfl); simp [this]
theorem floorA_len (b : Bool) (X Y : List Int) : (op1A floorA b X Y).X.length ≤ 256 ∧ (op1A floorA b X Y).Y.length ≤ 256 := by
  cases h : fokB b X Y with
  | false => rw [op1A_no h]; exact ⟨Nat.zero_le _, Nat.zero_le _⟩
  | true =>
    obtain ⟨x, y, rfl, rfl, lx, ly, hy, _⟩ := fok_parts h
    rw [op1A_yes h]
    exact ⟨Nat.le_trans (dgs_len_le (flQ_le hy)) lx, by show ([1] : List Int).length ≤ 256; decide⟩

set_option maxRecDepth 20000 in
set_option maxHeartbeats 2000000 in
theorem frFloor_any (r s : Option Addr) (cr cs x y : Nat) (b : Bool) (w : World) (hx : Sl w r (dgs x)) (hy : Sl w s (dgs y)) (lx : (dgs x).length ≤ 256) (ly : (dgs y).length ≤ 256) (kx : (dgs x).length ≤ cr) (hy0 : y ≠ 0) :
    Calls Tryz.prog 36 #[frV r (dgs x).length cr s (dgs y).length cs b] w fun e w' => ∃ r2 c2 s2, e = .returned (frV r2 (dgs (flQ b x y)).length c2 s2 1 1 b) ∧ Sl w' r2 (dgs (flQ b x y)) ∧ Sl w' s2 [1] ∧ Below w.heap.size w w' := by
  have CD : Hid (∀ W, Sl W r (dgs x) → Sl W s (dgs y) → Calls Tryz.prog 59 #[.slice r (dgs x).length cr, .slice s (dgs y).length cs] W fun e w' => ∃ a c a' c', e = .returned (.tuple #[.slice a (dgs (x / y)).length c, .slice a' (dgs (x % y)).length c']) ∧ OwnI w' W.heap.size a c (dgs (x / y)) ∧ Below W.heap.size W w') := fun W h1 h2 => (divBy_any r s cr cs x y W h1 h2 (by omega) (by omega) hy0 kx).mono fun e w' ⟨r1, c1, s1, d1, h1, h2, _, _, h4⟩ => ⟨r1, c1, s1, d1, h1, h2, h4⟩
  have lq : (dgs (x / y)).length ≤ 256 := Nat.le_trans (dgs_len_le (Nat.div_le_self x y)) lx
  have CP : Hid (∀ W a c g, Sl W a (dgs (x / y)) → Sl W (some ⟨g, 0, none⟩) [1] → Calls Tryz.prog 60 #[.slice a (dgs (x / y)).length c, .slice (some ⟨g, 0, none⟩) 1 1] W fun e w' => ∃ a c, e = .returned (.slice a (dgs (x / y + 1)).length c) ∧ OwnI w' W.heap.size a c (dgs (x / y + 1)) ∧ Below W.heap.size W w') := fun W a c g h1 h2 => plus_any a (some ⟨g, 0, none⟩) c 1 (x / y) 1 W h1 h2 (by omega) (by decide)
  have CW : Hid (∀ W a n c, Calls Tryz.prog 61 #[.slice a n c] W fun e w' => ∃ g, e = .returned (.agg #[.slice a n c, .slice (some ⟨g, 0, none⟩) 1 1]) ∧ OwnI w' W.heap.size (some ⟨g, 0, none⟩) 1 [1] ∧ Below W.heap.size W w') := fun W a n c => whole_any a n c W
  have hm : (0 : Int) < ((dgs (x % y)).length : Int) ↔ x % y ≠ 0 := by have := dgs_pos_len (x % y); omega
  have hcase : (b = false ∧ flQ b x y = x / y) ∨ (b = true ∧ x % y = 0 ∧ flQ b x y = x / y) ∨ (b = true ∧ x % y ≠ 0 ∧ flQ b x y = x / y + 1) := by
    unfold flQ
    cases b with
    | false => exact .inl ⟨rfl, by simp⟩
    | true =>
      by_cases h : x % y = 0
      · exact .inr (.inl ⟨rfl, h, by simp [h]⟩)
      · exact .inr (.inr ⟨rfl, h, by simp [h]⟩)
  obtain ⟨w0, hw0⟩ : ∃ w0, w0 = (w.alloc (.cells #[.slice r (dgs x).length cr, .slice s (dgs y).length cs, .bool b] 48)).alloc (.cells #[.slice none 0 0, .slice none 0 0, .bool false] 48) := ⟨_, rfl⟩
  have B0 : Below w.heap.size w w0 := by rw [hw0]; exact ((Below.refl _ w).alloc (Nat.le_refl _) _).alloc (by simp) _
  have k1 : BoxC w0 w.heap.size 48 #[.slice r (dgs x).length cr, .slice s (dgs y).length cs, .bool b] := by rw [hw0]; exact boxc_alloc (boxc_new _ _ _) _
  have k2 : BoxC w0 (w.heap.size + 1) 48 #[.slice none 0 0, .slice none 0 0, .bool false] := by
    rw [hw0]
    have h := boxc_new (w.alloc (.cells #[.slice r (dgs x).length cr, .slice s (dgs y).length cs, .bool b] 48)) 48 #[.slice none 0 0, .slice none 0 0, .bool false]
    rw [World.size_alloc] at h
    exact h
  have x0 := hx.keep B0
  have y0 := hy.keep B0
  obtain ⟨X, hX⟩ : ∃ X, X = dgs x := ⟨_, rfl⟩
  obtain ⟨Y, hY⟩ : ∃ Y, Y = dgs y := ⟨_, rfl⟩
  obtain ⟨M, hM⟩ : ∃ M, M = dgs (x % y) := ⟨_, rfl⟩
  obtain ⟨D, hD⟩ : ∃ D, D = dgs (x / y) := ⟨_, rfl⟩
  obtain ⟨E, hE⟩ : ∃ E, E = dgs (x / y + 1) := ⟨_, rfl⟩
  rw [← hX, ← hY, ← hM, ← hD] at CD
  rw [← hD, ← hE] at CP
  rw [← hX, ← hY] at hw0 k1
  rw [← hX] at x0
  rw [← hY] at y0
  rw [← hM] at hm
  rw [← hX, ← hY]
  have fin : ∀ (Q : List Int) (w3 : World) (a3 : Option Addr) (c3 : Nat) (g3 : Nat) (base : Nat), OwnI w3 base a3 c3 Q → OwnI w3 base (some ⟨g3, 0, none⟩) 1 [1] → w.heap.size + 1 < base → Below w.heap.size w w3 →
      Sl (((w3.setCell ⟨w.heap.size + 1, 0, none⟩ (.slice a3 Q.length c3)).setCell ⟨w.heap.size + 1, 1, none⟩ (.slice (some ⟨g3, 0, none⟩) 1 1)).setCell ⟨w.heap.size + 1, 2, none⟩ (.bool b)) a3 Q ∧ Sl (((w3.setCell ⟨w.heap.size + 1, 0, none⟩ (.slice a3 Q.length c3)).setCell ⟨w.heap.size + 1, 1, none⟩ (.slice (some ⟨g3, 0, none⟩) 1 1)).setCell ⟨w.heap.size + 1, 2, none⟩ (.bool b)) (some ⟨g3, 0, none⟩) [1] ∧ Below w.heap.size w (((w3.setCell ⟨w.heap.size + 1, 0, none⟩ (.slice a3 Q.length c3)).setCell ⟨w.heap.size + 1, 1, none⟩ (.slice (some ⟨g3, 0, none⟩) 1 1)).setCell ⟨w.heap.size + 1, 2, none⟩ (.bool b)) :=
    fun Q w3 a3 c3 g3 base h1 h2 h3 h4 => ⟨(own_far h1 (gr_set3 _ _ _ _ _) h3).sl, (own_far h2 (gr_set3 _ _ _ _ _) h3).sl, below_set3 h4 (Nat.le_succ _) _ _ _⟩
  have FIN : Hid _ := fin
  clear fin hX hY hM lx ly kx hy0 hx hy lq
  have n1 := boxc_lt k2
  rcases hcase with ⟨rfl, e⟩ | ⟨rfl, h0, e⟩ | ⟨rfl, h0, e⟩
  · rw [e, ← hD]
    clear e hD hE hm CP
    unfold frV
    go_enter Tryz.func36, Tryz.ntmps36
    go_wp2_with fail
    rw [← hw0]
    refine Calls.mono (CD.out _ x0 y0) ?_
    rintro e w1 ⟨a1, c1, a1', c1', rfl, o1, b1⟩
    have z1 : w0.heap.size ≤ w1.heap.size := b1.size
    have k11 := boxc_keep k1 b1
    have K2 : Hid (BoxC w1 (w.heap.size + 1) 48 #[.slice none 0 0, .slice none 0 0, .bool false]) := boxc_keep k2 b1
    have HB : Hid (Below w.heap.size w w1) := B0.trans (b1.mono B0.size)
    obtain ⟨p0, p1, p2, _, m1⟩ := boxc3 k11
    have p2d : w1.drew.cell? ⟨w.heap.size, 2, none⟩ = some (.bool false) := p2
    clear hw0 CD x0 y0 k1 k2 b1 B0 k11
    go_wp2_with fail
    go_region_held3 (fun w' => w'.cell? ⟨w.heap.size, 2, none⟩ = some (.bool false))
      (first | (with_reducible exact p2d) | (with_reducible exact keep_set3 (by assumption) (by omega) _ _ _) | (rw [b2.cell (by simp; omega)]; with_reducible assumption))
      (first | (go_at_call 61; refine Calls.mono (CW.out w1.drew _ _ _) ?_; rintro e w2 ⟨g2, rfl, o2, b2⟩; have z2 : w1.heap.size ≤ w2.heap.size := b2.size; have b2' := below_un2 b2; obtain ⟨d0, d1, d2, df, dn⟩ := boxc3 (boxc_keep K2.out b2')))
    have H := FIN.out D w2 a1 c1 g2 w0.heap.size (OwnI.keep o1 b2') (o2.mono z1) n1 (HB.out.trans (b2'.mono HB.out.size))
    go_wp2
    refine ⟨rfl, .agg #[.slice a1 D.length c1, .slice (some ⟨g2, 0, none⟩) 1 1, .bool false], ?_, a1, c1, some ⟨g2, 0, none⟩, rfl, H.1, H.2.1, H.2.2⟩
    simp [results, Tryz.f36, go_sem, d0, d1, d2]
  · rw [e, ← hD]
    have hM0 : ¬ (0 : Int) < (M.length : Int) := fun h => hm.1 h h0
    clear e hD hE hm CP h0
    unfold frV
    go_enter Tryz.func36, Tryz.ntmps36
    go_wp2_with fail
    rw [← hw0]
    refine Calls.mono (CD.out _ x0 y0) ?_
    rintro e w1 ⟨a1, c1, a1', c1', rfl, o1, b1⟩
    have z1 : w0.heap.size ≤ w1.heap.size := b1.size
    have k11 := boxc_keep k1 b1
    have K2 : Hid (BoxC w1 (w.heap.size + 1) 48 #[.slice none 0 0, .slice none 0 0, .bool false]) := boxc_keep k2 b1
    have HB : Hid (Below w.heap.size w w1) := B0.trans (b1.mono B0.size)
    obtain ⟨p0, p1, p2, _, m1⟩ := boxc3 k11
    have p2d : w1.drew.cell? ⟨w.heap.size, 2, none⟩ = some (.bool true) := p2
    clear hw0 CD x0 y0 k1 k2 b1 B0 k11
    go_wp2_with fail
    go_region_held3 (fun w' => w'.cell? ⟨w.heap.size, 2, none⟩ = some (.bool true))
      (first | (with_reducible exact p2d) | (with_reducible exact keep_set3 (by assumption) (by omega) _ _ _) | (rw [b2.cell (by simp; omega)]; with_reducible assumption))
      (first | (go_at_call 61; refine Calls.mono (CW.out w1.drew _ _ _) ?_; rintro e w2 ⟨g2, rfl, o2, b2⟩; have z2 : w1.heap.size ≤ w2.heap.size := b2.size; have b2' := below_un2 b2; obtain ⟨d0, d1, d2, df, dn⟩ := boxc3 (boxc_keep K2.out b2')))
    have H := FIN.out D w2 a1 c1 g2 w0.heap.size (OwnI.keep o1 b2') (o2.mono z1) n1 (HB.out.trans (b2'.mono HB.out.size))
    go_wp2
    refine ⟨rfl, .agg #[.slice a1 D.length c1, .slice (some ⟨g2, 0, none⟩) 1 1, .bool true], ?_, a1, c1, some ⟨g2, 0, none⟩, rfl, H.1, H.2.1, H.2.2⟩
    simp [results, Tryz.f36, go_sem, d0, d1, d2]
  · rw [e, ← hE]
    have hM1 : (0 : Int) < (M.length : Int) := hm.2 h0
    clear e hD hE hm h0
    unfold frV
    go_enter Tryz.func36, Tryz.ntmps36
    go_wp2_with fail
    rw [← hw0]
    refine Calls.mono (CD.out _ x0 y0) ?_
    rintro e w1 ⟨a1, c1, a1', c1', rfl, o1, b1⟩
    have z1 : w0.heap.size ≤ w1.heap.size := b1.size
    have k11 := boxc_keep k1 b1
    have k21 := boxc_keep k2 b1
    have B1 := B0.trans (b1.mono B0.size)
    obtain ⟨wa, hwa⟩ : ∃ wa, wa = w1.alloc (.cells #[.int .i64 1] 3) := ⟨_, rfl⟩
    have ba : Below w1.heap.size w1 wa := by rw [hwa]; exact (Below.refl _ w1).alloc (Nat.le_refl _) _
    have oa : OwnI wa w1.heap.size (some ⟨w1.heap.size, 0, none⟩) 1 [1] := by rw [hwa]; exact own_blk1 (zs := [1]) (World.alloc_heap_new _ _) (Nat.le_refl _) (by simp; unfold maxLen; omega)
    obtain ⟨p0, p1, p2, _, m1⟩ := boxc3 k11
    clear hw0 CD x0 y0 k1 k2 b1 B0
    go_wp2_with fail
    rw [← hwa]
    refine Calls.mono (CP.out _ _ _ _ (o1.sl.keep ba) oa.sl) ?_
    rintro e w5 ⟨a5, c5, rfl, o5, b5⟩
    have b15 : Below w1.heap.size w1 w5 := ba.trans (b5.mono ba.size)
    have k15 := boxc_keep k11 b15
    have K2 : Hid (BoxC w5 (w.heap.size + 1) 48 #[.slice none 0 0, .slice none 0 0, .bool false]) := boxc_keep k21 b15
    have HB : Hid (Below w.heap.size w w5) := B1.trans (b15.mono B1.size)
    have za := ba.size
    have z5 := b5.size
    clear p0 p1 p2 CP
    obtain ⟨p0, p1, p2, _, m5⟩ := boxc3 k15
    have p2d : w5.drew.cell? ⟨w.heap.size, 2, none⟩ = some (.bool true) := p2
    clear hwa ba b5 b15 k11 k21 B1 k15 oa o1
    go_wp2_with fail
    go_region_held3 (fun w' => w'.cell? ⟨w.heap.size, 2, none⟩ = some (.bool true))
      (first | (with_reducible exact p2d) | (with_reducible exact keep_set3 (by assumption) (by omega) _ _ _) | (rw [b2.cell (by simp; omega)]; with_reducible assumption))
      (first | (go_at_call 61; refine Calls.mono (CW.out w5.drew _ _ _) ?_; rintro e w2 ⟨g2, rfl, o2, b2⟩; have z2 : w5.heap.size ≤ w2.heap.size := b2.size; have b2' := below_un2 b2; obtain ⟨d0, d1, d2, df, dn⟩ := boxc3 (boxc_keep K2.out b2')))
    have H := FIN.out E w2 a5 c5 g2 w0.heap.size ((OwnI.keep o5 b2').mono (by omega)) (o2.mono (by show w0.heap.size ≤ w5.heap.size; omega)) n1 (HB.out.trans (b2'.mono HB.out.size))
    go_wp2
    refine ⟨rfl, .agg #[.slice a5 E.length c5, .slice (some ⟨g2, 0, none⟩) 1 1, .bool true], ?_, a5, c5, some ⟨g2, 0, none⟩, rfl, H.1, H.2.1, H.2.2⟩
    simp [results, Tryz.f36, go_sem, d0, d1, d2]
set_option maxRecDepth 20000 in
set_option maxHeartbeats 1000000 in
theorem implFloor_any (b : Bool) (r s : Option Addr) (cr cs : Nat) (X Y : List Int) (w : World) (hh : Hdl w) (hX : Sl w r X) (hY : Sl w s Y) (lX : X.length ≤ 1048576) (lY : Y.length ≤ 1048576) (cX : X.length ≤ cr) (cY : Y.length ≤ cs) :
    Calls Tryz.prog 12 #[fracV b r X.length cr s Y.length cs] w fun e w' => RetF w e w' (op1A floorA b X Y) := by
  obtain ⟨w0, hw0⟩ : ∃ w0, w0 = (w.alloc (.cells #[.bool b, .slice r X.length cr, .slice s Y.length cs] 25)).alloc (.cells #[.bool false, .slice none 0 0, .slice none 0 0] 25) := ⟨_, rfl⟩
  have B0 : Below w.heap.size w w0 := by rw [hw0]; exact ((Below.refl _ w).alloc (Nat.le_refl _) _).alloc (by simp) _
  have k2 : BoxC w0 (w.heap.size + 1) 25 #[.bool false, .slice none 0 0, .slice none 0 0] := by
    rw [hw0]
    have h := boxc_new (w.alloc (.cells #[.bool b, .slice r X.length cr, .slice s Y.length cs] 25)) 25 #[.bool false, .slice none 0 0, .slice none 0 0]
    rw [World.size_alloc] at h
    exact h
  cases h : fokB b X Y with
  | false =>
    rw [op1A_no h]
    have C1 : Hid _ := taken_no b r s cr cs X Y w0 (hX.keep B0) (hY.keep B0) lX lY cX cY h
    have CF : Hid (∀ t W, Hdl W → Calls Tryz.prog 28 #[flt t] W fun e w' => e = .returned (.bool true) ∧ Below W.heap.size W w') := fun t W h => isFault_hit t W h
    unfold fracV fr0 flt at C1
    unfold flt at CF
    unfold frV at C1
    unfold fracV
    clear h lX lY cX cY hX hY
    go_enter Tryz.func12, Tryz.ntmps12
    go_wp2_with fail
    rw [← hw0]
    refine Calls.mono C1.out ?_
    rintro e w1 ⟨⟨t, rfl⟩, b1⟩
    have k21 := boxc_keep k2 b1
    have B1 := B0.trans (b1.mono B0.size)
    have B2 : Below w.heap.size w (w1.alloc (.cells #[.slice none 0 0, .slice none 0 0, .bool false] 48)) := B1.alloc B1.size _
    have h2 := hh.keep B2 hh.pos
    have k22 := boxc_alloc k21 (.cells #[.slice none 0 0, .slice none 0 0, .bool false] 48)
    clear hw0 b1 B0 k2 C1
    go_wp2_with fail
    refine Calls.mono (CF.out t _ h2) ?_
    rintro e w2 ⟨rfl, b2⟩
    obtain ⟨d0, d1, d2, df, dn⟩ := boxc3 (boxc_keep k22 b2)
    have HB : Hid (Below w.heap.size w w2) := B2.trans (b2.mono B2.size)
    clear CF h2 b2 B1 B2 k21 k22 hh
    go_wp2
    refine ⟨rfl, .tuple #[.agg #[.bool false, .slice none 0 0, .slice none 0 0], .bool false], ?_, retF_no (below_set3 HB.out (by omega) _ _ _)⟩
    simp [results, Tryz.f12, go_sem, d0, d1, d2]
  | true =>
    have C1 : Hid _ := taken_yes b r s cr cs X Y w0 (hX.keep B0) (hY.keep B0) lX lY cX cY h
    obtain ⟨x, y, rfl, rfl, lx, ly, hy0, hb0, _⟩ := fok_parts h
    rw [op1A_yes h]
    unfold floorA
    have lq : (dgs (flQ b x y)).length ≤ 256 := Nat.le_trans (dgs_len_le (flQ_le hy0)) lx
    have CG : Hid (∀ W, Sl W r (dgs x) → Sl W s (dgs y) → Calls Tryz.prog 36 #[frV r (dgs x).length cr s (dgs y).length cs b] W fun e w' => ∃ r2 c2 s2, e = .returned (frV r2 (dgs (flQ b x y)).length c2 s2 1 1 b) ∧ Sl w' r2 (dgs (flQ b x y)) ∧ Sl w' s2 [1] ∧ Below W.heap.size W w') := fun W h1 h2 => frFloor_any r s cr cs x y b W h1 h2 lx ly cX hy0
    have C2 : Hid (∀ W r2 c2 s2, Sl W r2 (dgs (flQ b x y)) → Sl W s2 [1] → Calls Tryz.prog 29 #[frV r2 (dgs (flQ b x y)).length c2 s2 1 1 b, .nilIface] W fun e w' => ∃ r' cr' s' cs', e = .returned (.tuple #[fracV b r' (dgs (flQ b x y)).length cr' s' 1 cs', .bool true]) ∧ OwnI w' W.heap.size r' cr' (dgs (flQ b x y)) ∧ OwnI w' W.heap.size s' cs' [1] ∧ Ap r' s' ∧ Below W.heap.size W w') := fun W r2 c2 s2 h1 h2 => told_ok _ r2 s2 c2 1 (dgs (flQ b x y)) [1] b W h1 h2 (by omega) (by decide) rfl
    have CF : Hid (∀ W, Calls Tryz.prog 28 #[.nilIface] W fun e w' => e = .returned (.bool false) ∧ Below W.heap.size W w') := fun W => isFault_nil W
    obtain ⟨X, hXe⟩ : ∃ X, X = dgs x := ⟨_, rfl⟩
    obtain ⟨Y, hYe⟩ : ∃ Y, Y = dgs y := ⟨_, rfl⟩
    obtain ⟨Q, hQe⟩ : ∃ Q, Q = dgs (flQ b x y) := ⟨_, rfl⟩
    rw [← hXe] at hX
    rw [← hYe] at hY
    rw [← hXe, ← hYe] at C1 hw0
    rw [← hXe, ← hYe, ← hQe] at CG
    rw [← hQe] at C2
    rw [← hXe, ← hYe, ← hQe]
    unfold fracV at C1 C2
    unfold frV at C1 C2 CG
    unfold fracV
    clear h lX lY cX cY hh hXe hYe hQe lx ly hy0 hb0 lq
    go_enter Tryz.func12, Tryz.ntmps12
    go_wp2_with fail
    rw [← hw0]
    refine Calls.mono C1.out ?_
    rintro e w1 ⟨rfl, b1⟩
    have k21 := boxc_keep k2 b1
    have B1 := B0.trans (b1.mono B0.size)
    have B2 : Below w.heap.size w (w1.alloc (.cells #[.slice r X.length cr, .slice s Y.length cs, .bool b] 48)) := B1.alloc B1.size _
    have k22 := boxc_alloc k21 (.cells #[.slice r X.length cr, .slice s Y.length cs, .bool b] 48)
    have kx := boxc_new w1 48 #[.slice r X.length cr, .slice s Y.length cs, .bool b]
    clear hw0 b1 B0 k2 C1
    go_wp2_with fail
    refine Calls.mono (CF.out _) ?_
    rintro e w2 ⟨rfl, b2⟩
    have k23 := boxc_keep k22 b2
    have B3 := B2.trans (b2.mono B2.size)
    obtain ⟨c0, c1, c2, _, _⟩ := boxc3 (boxc_keep kx b2)
    clear b2 B1 B2 k21 k22 kx CF
    go_wp2_with fail
    refine Calls.mono (CG.out _ (hX.keep B3) (hY.keep B3)) ?_
    rintro e w3 ⟨r3, c3, s3, rfl, t3, u3, b3⟩
    have k24 := boxc_keep k23 b3
    have B4 := B3.trans (b3.mono B3.size)
    clear b3 B3 k23 CG c0 c1 c2 hX hY
    go_wp2_with fail
    refine Calls.mono (C2.out _ _ _ _ t3 u3) ?_
    rintro e w4 ⟨r4, c4, s4, e4, rfl, o4, p4, ap4, b4⟩
    obtain ⟨d0, d1, d2, df, dn⟩ := boxc3 (boxc_keep k24 b4)
    have H : Hid (RetF w _ _ ⟨b, Q, [1], true⟩) := retF_fin (A := ⟨b, Q, [1], true⟩) o4 p4 ap4 (B4.trans (b4.mono B4.size)) (Nat.le_succ w.heap.size) (boxc_lt k24) (.bool b) (.slice r4 Q.length c4) (.slice s4 1 e4)
    clear C2 b4 B4 k24 o4 p4 ap4 t3 u3
    unfold fracV at H
    go_wp2
    refine ⟨rfl, .tuple #[.agg #[.bool b, .slice r4 Q.length c4, .slice s4 1 e4], .bool true], ?_, H.out⟩
    simp [results, Tryz.f12, go_sem, d0, d1, d2]
end Go.Proofs.YthokphoojmpajabGreatDoor

namespace Go.Proofs.YthokphoojmpajabGreatDoor
open Go.RowKit Go.Proofs.Pin

end Go.Proofs.YthokphoojmpajabGreatDoor

namespace Go.Proofs.YthokphoojmpajabGreatDoor
open Go.RowKit Go.Proofs.Pin

/-- How two fractions stand to each other: the sign of their difference; 2, where one is not ok. -/
def cmN (b : Bool) (x y : Nat) (b' : Bool) (x' y' : Nat) : Int := sgnF (smB b (ngB b' x') (x * y') (x' * y)) (dgs (smT b (ngB b' x') (x * y') (x' * y))).length
def cmA (b : Bool) (X Y : List Int) (b' : Bool) (X' Y' : List Int) : Int := if fokB b X Y = true ∧ fokB b' X' Y' = true then cmN b (val X).toNat (val Y).toNat b' (val X').toNat (val Y').toNat else 2
theorem cmA_yes {b : Bool} {x y : Nat} {b' : Bool} {x' y' : Nat} (h : fokB b (dgs x) (dgs y) = true) (h' : fokB b' (dgs x') (dgs y') = true) : cmA b (dgs x) (dgs y) b' (dgs x') (dgs y') = cmN b x y b' x' y' := by
  unfold cmA; rw [if_pos ⟨h, h'⟩, val_dgs, val_dgs, val_dgs, val_dgs, Int.toNat_natCast, Int.toNat_natCast, Int.toNat_natCast, Int.toNat_natCast]
theorem cmA_no {b : Bool} {X Y : List Int} {b' : Bool} {X' Y' : List Int} (h : fokB b X Y = false ∨ fokB b' X' Y' = false) : cmA b X Y b' X' Y' = 2 := by
  unfold cmA; rw [if_neg (by rcases h with h | h <;> simp [h])]

set_option maxRecDepth 20000 in
set_option maxHeartbeats 2000000 in
theorem implCmp_yes (b : Bool) (r s : Option Addr) (cr cs x y : Nat) (b' : Bool) (r' s' : Option Addr) (cr' cs' x' y' : Nat) (w : World) (hx : Sl w r (dgs x)) (hy : Sl w s (dgs y)) (hx' : Sl w r' (dgs x')) (hy' : Sl w s' (dgs y'))
    (lx : (dgs x).length ≤ 256) (ly : (dgs y).length ≤ 256) (lx' : (dgs x').length ≤ 256) (ly' : (dgs y').length ≤ 256) (cx : (dgs x).length ≤ cr) (cy : (dgs y).length ≤ cs) (cx' : (dgs x').length ≤ cr') (cy' : (dgs y').length ≤ cs') (hok : fokB b (dgs x) (dgs y) = true) (hok' : fokB b' (dgs x') (dgs y') = true) (hb : b = true → x ≠ 0) :
    Calls Tryz.prog 16 #[fracV b r (dgs x).length cr s (dgs y).length cs, fracV b' r' (dgs x').length cr' s' (dgs y').length cs'] w fun e w' => e = .returned (.int .i64 (cmN b x y b' x' y')) ∧ Below w.heap.size w w' := by
  have CB : Hid (∀ W, Sl W r (dgs x) → Sl W s (dgs y) → Sl W r' (dgs x') → Sl W s' (dgs y') → Calls Tryz.prog 32 #[fracV b r (dgs x).length cr s (dgs y).length cs, fracV b' r' (dgs x').length cr' s' (dgs y').length cs'] W fun e w' => e = .returned (.tuple #[frV r (dgs x).length cr s (dgs y).length cs b, frV r' (dgs x').length cr' s' (dgs y').length cs' b', .nilIface]) ∧ Below W.heap.size W w') := fun W h1 h2 h3 h4 => both_yes b r s cr cs _ _ b' r' s' cr' cs' _ _ W h1 h2 h3 h4 (by omega) (by omega) cx cy (by omega) (by omega) cx' cy' hok hok'
  have CS : Hid (∀ W g, BoxC W g 48 #[.slice r (dgs x).length cr, .slice s (dgs y).length cs, .bool b, .slice r' (dgs x').length cr', .slice s' (dgs y').length cs', .bool (ngB b' x')] → Sl W r (dgs x) → Sl W s (dgs y) → Sl W r' (dgs x') → Sl W s' (dgs y') → Calls Tryz.prog 40 #[.slice (some ⟨g, 0, none⟩) 2 2] W fun e w' => ∃ r2 c2 s2 d2, e = .returned (frV r2 (dgs (smT b (ngB b' x') (x * y') (x' * y))).length c2 s2 (dgs (y * y')).length d2 (smB b (ngB b' x') (x * y') (x' * y))) ∧ OwnI w' W.heap.size r2 c2 (dgs (smT b (ngB b' x') (x * y') (x' * y))) ∧ OwnI w' W.heap.size s2 d2 (dgs (y * y')) ∧ Below W.heap.size W w') := fun W g h0 h1 h2 h3 h4 => sumOf_two g r s r' s' cr cs cr' cs' x y x' y' b (ngB b' x') W h0 h1 h2 h3 h4 (by omega) (by omega) (by omega) (by omega) hb
  have CN : Hid (∀ W, Calls Tryz.prog 42 #[frV r' (dgs x').length cr' s' (dgs y').length cs' b'] W fun e w' => e = .returned (frV r' (dgs x').length cr' s' (dgs y').length cs' (ngB b' x')) ∧ Below W.heap.size W w') := fun W => by rw [← negB_dgs]; exact frNeg_any r' s' _ cr' _ cs' b' W
  have CG : Hid (∀ W r2 c2 s2 m2 d2, Calls Tryz.prog 35 #[frV r2 (dgs (smT b (ngB b' x') (x * y') (x' * y))).length c2 s2 m2 d2 (smB b (ngB b' x') (x * y') (x' * y))] W fun e w' => e = .returned (.int .i64 (cmN b x y b' x' y')) ∧ Below W.heap.size W w') := fun W r2 c2 s2 m2 d2 => frSign_any r2 s2 _ c2 m2 d2 _ W
  have CF : Hid (∀ W, Calls Tryz.prog 28 #[.nilIface] W fun e w' => e = .returned (.bool false) ∧ Below W.heap.size W w') := fun W => isFault_nil W
  obtain ⟨z, hz⟩ : ∃ z, z = cmN b x y b' x' y' := ⟨_, rfl⟩
  obtain ⟨nb, hnb⟩ : ∃ nb, nb = ngB b' x' := ⟨_, rfl⟩
  rw [← hz, ← hnb] at CG
  rw [← hnb] at CN CS
  obtain ⟨X, hX⟩ : ∃ X, X = dgs x := ⟨_, rfl⟩
  obtain ⟨Y, hY⟩ : ∃ Y, Y = dgs y := ⟨_, rfl⟩
  obtain ⟨X', hX'⟩ : ∃ X', X' = dgs x' := ⟨_, rfl⟩
  obtain ⟨Y', hY'⟩ : ∃ Y', Y' = dgs y' := ⟨_, rfl⟩
  obtain ⟨P, hP⟩ : ∃ P, P = dgs (smT b nb (x * y') (x' * y)) := ⟨_, rfl⟩
  obtain ⟨Q, hQ⟩ : ∃ Q, Q = dgs (y * y') := ⟨_, rfl⟩
  obtain ⟨Z, hZ⟩ : ∃ Z, Z = smB b nb (x * y') (x' * y) := ⟨_, rfl⟩
  rw [← hX, ← hY, ← hX', ← hY'] at CB
  rw [← hX', ← hY'] at CN
  rw [← hX, ← hY, ← hX', ← hY', ← hP, ← hQ, ← hZ] at CS
  rw [← hP, ← hZ] at CG
  rw [← hX] at hx
  rw [← hY] at hy
  rw [← hX'] at hx'
  rw [← hY'] at hy'
  rw [← hz, ← hX, ← hY, ← hX', ← hY']
  clear hX hY hX' hY' hP hQ hZ hz hnb lx ly lx' ly' cx cy cx' cy' hok hok' hb
  unfold fracV at CB ⊢
  unfold frV at CB CS CN CG
  obtain ⟨w0, hw0⟩ : ∃ w0, w0 = (w.alloc (.cells #[.bool b, .slice r X.length cr, .slice s Y.length cs] 25)).alloc (.cells #[.bool b', .slice r' X'.length cr', .slice s' Y'.length cs'] 25) := ⟨_, rfl⟩
  have B0 : Below w.heap.size w w0 := by rw [hw0]; exact ((Below.refl _ w).alloc (Nat.le_refl _) _).alloc (by simp) _
  go_enter Tryz.func16, Tryz.ntmps16
  go_wp2_with fail
  rw [← hw0]
  refine Calls.mono (CB.out _ (hx.keep B0) (hy.keep B0) (hx'.keep B0) (hy'.keep B0)) ?_
  rintro e w1 ⟨rfl, b1⟩
  have B1 := B0.trans (b1.mono B0.size)
  clear hw0 b1 B0 CB
  go_wp2_with fail
  refine Calls.mono (CF.out _) ?_
  rintro e w2 ⟨rfl, b2⟩
  obtain ⟨gx, hgx⟩ : ∃ gx, gx = w1.heap.size := ⟨_, rfl⟩
  have kx : BoxC w2 gx 48 #[.slice r X.length cr, .slice s Y.length cs, .bool b] := by rw [hgx]; exact boxc_keep (boxc_alloc (boxc_new _ _ _) _) b2
  have ky : BoxC w2 (gx + 1) 48 #[.slice r' X'.length cr', .slice s' Y'.length cs', .bool b'] := by
    have h := boxc_new (w1.alloc (.cells #[.slice r X.length cr, .slice s Y.length cs, .bool b] 48)) 48 #[.slice r' X'.length cr', .slice s' Y'.length cs', .bool b']
    rw [World.size_alloc, ← hgx] at h
    exact boxc_keep h b2
  have B2 : Below w.heap.size w w2 := ((B1.alloc B1.size _).alloc (by have := B1.size; simp; omega) _).trans (b2.mono (by have := B1.size; simp; omega))
  rw [← hgx]
  clear b2 B1 CF hgx
  obtain ⟨c0, c1, c2, _, _⟩ := boxc3 kx
  obtain ⟨e0, e1, e2, _, _⟩ := boxc3 ky
  have HX : Hid (Sl w2 r X ∧ Sl w2 s Y ∧ Sl w2 r' X' ∧ Sl w2 s' Y') := ⟨hx.keep B2, hy.keep B2, hx'.keep B2, hy'.keep B2⟩
  have HB2 : Hid (Below w.heap.size w w2) := B2
  have n0 : gx + 1 < w2.heap.size := boxc_lt ky
  have c0d : w2.drew.cell? ⟨gx, 0, none⟩ = some (.slice r X.length cr) := c0
  have c1d : w2.drew.cell? ⟨gx, 1, none⟩ = some (.slice s Y.length cs) := c1
  have c2d : w2.drew.cell? ⟨gx, 2, none⟩ = some (.bool b) := c2
  have e0d : w2.drew.cell? ⟨gx + 1, 0, none⟩ = some (.slice r' X'.length cr') := e0
  have e1d : w2.drew.cell? ⟨gx + 1, 1, none⟩ = some (.slice s' Y'.length cs') := e1
  have e2d : w2.drew.cell? ⟨gx + 1, 2, none⟩ = some (.bool b') := e2
  clear kx ky B2 hx hy hx' hy' c0 c1 c2 e0 e1 e2
  go_wp2_with fail
  go_region_held3 (fun w' => w'.cell? ⟨gx, 0, none⟩ = some (.slice r X.length cr) ∧ w'.cell? ⟨gx, 1, none⟩ = some (.slice s Y.length cs) ∧ w'.cell? ⟨gx, 2, none⟩ = some (.bool b) ∧ w'.cell? ⟨gx + 1, 0, none⟩ = some (.slice r' X'.length cr') ∧ w'.cell? ⟨gx + 1, 1, none⟩ = some (.slice s' Y'.length cs') ∧ w'.cell? ⟨gx + 1, 2, none⟩ = some (.bool b'))
    (first
      | (with_reducible exact ⟨c0d, c1d, c2d, e0d, e1d, e2d⟩)
      | (go_split_ands; refine ⟨?_, ?_, ?_, ?_, ?_, ?_⟩ <;> first
        | (rw [b5.cell (by simp; omega)]; with_reducible assumption)
        | (rw [b4.cell (by simp; omega)]; with_reducible assumption)
        | (rw [World.cell?_alloc_lt _ _ _ (by simp; omega)]; with_reducible assumption)
        | (rw [b3.cell (by simp; omega)]; with_reducible assumption)))
    (first
      | (go_at_call 42; refine Calls.mono (CN.out w2.drew) ?_; rintro e w3 ⟨rfl, b3⟩; have z3 : w2.heap.size ≤ w3.heap.size := b3.size; have b3' := below_un2 b3)
      | (go_at_call 40; refine Calls.mono (CS.out _ _ (by exact boxc_new w3 _ _) (by exact (Sl.keep HX.out.1 b3').keep ((Below.refl _ w3).alloc (Nat.le_refl _) _)) (by exact (Sl.keep HX.out.2.1 b3').keep ((Below.refl _ w3).alloc (Nat.le_refl _) _)) (by exact (Sl.keep HX.out.2.2.1 b3').keep ((Below.refl _ w3).alloc (Nat.le_refl _) _)) (by exact (Sl.keep HX.out.2.2.2 b3').keep ((Below.refl _ w3).alloc (Nat.le_refl _) _))) ?_; rintro e w4 ⟨r4, c4, s4, d4, rfl, o4, p4, b4⟩; have z4 : w3.heap.size + 1 ≤ w4.heap.size := (by have h := b4.size; simpa using h); have B4 : Below w.heap.size w w4 := ((HB2.out.trans (b3'.mono (by exact HB2.out.size))).alloc (by exact (Nat.le_trans HB2.out.size z3)) _).trans (b4.mono (by have := HB2.out.size; simp; omega)))
      | (go_at_call 35; refine Calls.mono (CG.out _ _ _ _ _ _) ?_; rintro e w5 ⟨rfl, b5⟩; have z5 : w4.heap.size ≤ w5.heap.size := b5.size; have B5 := B4.trans (b5.mono B4.size)))
  go_wp2
  go_ret
  exact ⟨rfl, B5⟩

set_option maxRecDepth 20000 in
set_option maxHeartbeats 1000000 in
theorem implCmp_no (b : Bool) (r s : Option Addr) (cr cs : Nat) (X Y : List Int) (b' : Bool) (r' s' : Option Addr) (cr' cs' : Nat) (X' Y' : List Int) (w : World) (hh : Hdl w) (hX : Sl w r X) (hY : Sl w s Y) (hX' : Sl w r' X') (hY' : Sl w s' Y')
    (lX : X.length ≤ 1048576) (lY : Y.length ≤ 1048576) (cX : X.length ≤ cr) (cY : Y.length ≤ cs) (lX' : X'.length ≤ 1048576) (lY' : Y'.length ≤ 1048576) (cX' : X'.length ≤ cr') (cY' : Y'.length ≤ cs') (hok : fokB b X Y = false ∨ fokB b' X' Y' = false) :
    Calls Tryz.prog 16 #[fracV b r X.length cr s Y.length cs, fracV b' r' X'.length cr' s' Y'.length cs'] w fun e w' => e = .returned (.int .i64 2) ∧ Below w.heap.size w w' := by
  obtain ⟨w0, hw0⟩ : ∃ w0, w0 = (w.alloc (.cells #[.bool b, .slice r X.length cr, .slice s Y.length cs] 25)).alloc (.cells #[.bool b', .slice r' X'.length cr', .slice s' Y'.length cs'] 25) := ⟨_, rfl⟩
  have B0 : Below w.heap.size w w0 := by rw [hw0]; exact ((Below.refl _ w).alloc (Nat.le_refl _) _).alloc (by simp) _
  have CB : Hid (Calls Tryz.prog 32 #[fracV b r X.length cr s Y.length cs, fracV b' r' X'.length cr' s' Y'.length cs'] w0 fun e w' => (∃ r1 n1 c1 s1 m1 d1 b1 r2 n2 c2 s2 m2 d2 b2 t, e = .returned (.tuple #[frV r1 n1 c1 s1 m1 d1 b1, frV r2 n2 c2 s2 m2 d2 b2, flt t])) ∧ Below w0.heap.size w0 w') := by
    cases h : fokB b X Y with
    | false => exact (both_no1 b r s cr cs X Y b' r' s' X'.length cr' Y'.length cs' w0 (hh.keep B0 hh.pos) (hX.keep B0) (hY.keep B0) lX lY cX cY h).mono fun e w' ⟨⟨t, h1⟩, h2⟩ => ⟨⟨none, 0, 0, none, 0, 0, false, none, 0, 0, none, 0, 0, false, t, h1⟩, h2⟩
    | true =>
      have h' : fokB b' X' Y' = false := by
        rcases hok with h1 | h1
        · rw [h] at h1; cases h1
        · exact h1
      exact (both_no2 b r s cr cs X Y b' r' s' cr' cs' X' Y' w0 (hX.keep B0) (hY.keep B0) (hX'.keep B0) (hY'.keep B0) lX lY cX cY lX' lY' cX' cY' h h').mono fun e w' ⟨⟨t, h1⟩, h2⟩ => ⟨⟨_, _, _, _, _, _, _, none, 0, 0, none, 0, 0, false, t, h1⟩, h2⟩
  have CF : Hid (∀ t W, Hdl W → Calls Tryz.prog 28 #[flt t] W fun e w' => e = .returned (.bool true) ∧ Below W.heap.size W w') := fun t W h => isFault_hit t W h
  clear hok lX lY cX cY lX' lY' cX' cY' hX hY hX' hY'
  unfold fracV frV flt at CB
  unfold flt at CF
  unfold fracV
  go_enter Tryz.func16, Tryz.ntmps16
  go_wp2_with fail
  rw [← hw0]
  refine Calls.mono CB.out ?_
  rintro e w1 ⟨⟨r1, n1, c1, s1, m1, d1, b1', r2, n2, c2, s2, m2, d2, b2', t, rfl⟩, b1⟩
  have B1 := B0.trans (b1.mono B0.size)
  have B2 : Below w.heap.size w ((w1.alloc (.cells #[.slice r1 n1 c1, .slice s1 m1 d1, .bool b1'] 48)).alloc (.cells #[.slice r2 n2 c2, .slice s2 m2 d2, .bool b2'] 48)) := (B1.alloc B1.size _).alloc (by have := B1.size; simp; omega) _
  have hh1 := hh.keep B2 hh.pos
  clear hw0 b1 B0 CB
  go_wp2_with fail
  refine Calls.mono (CF.out t _ hh1) ?_
  rintro e w2 ⟨rfl, b2⟩
  have HB : Hid (Below w.heap.size w w2) := B2.trans (b2.mono B2.size)
  clear b2 B1 B2 CF hh1 hh
  go_wp2
  go_ret
  exact ⟨rfl, HB.out⟩

theorem implCmp_any (b : Bool) (r s : Option Addr) (cr cs : Nat) (X Y : List Int) (b' : Bool) (r' s' : Option Addr) (cr' cs' : Nat) (X' Y' : List Int) (w : World) (hh : Hdl w) (hX : Sl w r X) (hY : Sl w s Y) (hX' : Sl w r' X') (hY' : Sl w s' Y')
    (lX : X.length ≤ 1048576) (lY : Y.length ≤ 1048576) (cX : X.length ≤ cr) (cY : Y.length ≤ cs) (lX' : X'.length ≤ 1048576) (lY' : Y'.length ≤ 1048576) (cX' : X'.length ≤ cr') (cY' : Y'.length ≤ cs') :
    Calls Tryz.prog 16 #[fracV b r X.length cr s Y.length cs, fracV b' r' X'.length cr' s' Y'.length cs'] w fun e w' => e = .returned (.int .i64 (cmA b X Y b' X' Y')) ∧ Below w.heap.size w w' := by
  cases h : fokB b X Y with
  | false => rw [cmA_no (.inl h)]; exact implCmp_no b r s cr cs X Y b' r' s' cr' cs' X' Y' w hh hX hY hX' hY' lX lY cX cY lX' lY' cX' cY' (.inl h)
  | true =>
    cases h' : fokB b' X' Y' with
    | false => rw [cmA_no (.inr h')]; exact implCmp_no b r s cr cs X Y b' r' s' cr' cs' X' Y' w hh hX hY hX' hY' lX lY cX cY lX' lY' cX' cY' (.inr h')
    | true =>
      obtain ⟨x, y, rfl, rfl, lx, ly, hy0, hb, _⟩ := fok_parts h
      obtain ⟨x', y', rfl, rfl, lx', ly', hy0', _, _⟩ := fok_parts h'
      rw [cmA_yes h h']
      exact implCmp_yes b r s cr cs x y b' r' s' cr' cs' x' y' w hX hY hX' hY' lx ly lx' ly' cX cY cX' cY' h h' hb
end Go.Proofs.YthokphoojmpajabGreatDoor
