/- The contracts of impl.FracCmp and spec.FracCmp. -/
import Derived.Test.YthokphoojmpajabDoorGFr8
import Derived.Test.YthokphoojmpajabDoorGFr6
import Derived.Test.YthokphoojmpajabDoorGSp
import Derived.Test.YthokphoojmpajabDoorSpNeg
namespace Go.Proofs.YthokphoojmpajabDoor
open Go.RowKit Go.Proofs.Pin

/-- How two fractions stand to each other: the sign of their difference; 2, where one is not ok. -/
def cmN (b : Bool) (x y : Nat) (b' : Bool) (x' y' : Nat) : Int := sgnF (smB b (ngB b' x') (x * y') (x' * y)) (dgs (smT b (ngB b' x') (x * y') (x' * y))).length
def cmA (b : Bool) (X Y : List Int) (b' : Bool) (X' Y' : List Int) : Int := if fokB b X Y = true ∧ fokB b' X' Y' = true then cmN b (val X).toNat (val Y).toNat b' (val X').toNat (val Y').toNat else 2
theorem cmA_yes {b : Bool} {x y : Nat} {b' : Bool} {x' y' : Nat} (h : fokB b (dgs x) (dgs y) = true) (h' : fokB b' (dgs x') (dgs y') = true) : cmA b (dgs x) (dgs y) b' (dgs x') (dgs y') = cmN b x y b' x' y' := by
  unfold cmA; rw [if_pos ⟨h, h'⟩, val_dgs, val_dgs, val_dgs, val_dgs, Int.toNat_natCast, Int.toNat_natCast, Int.toNat_natCast, Int.toNat_natCast]
theorem cmA_no {b : Bool} {X Y : List Int} {b' : Bool} {X' Y' : List Int} (h : fokB b X Y = false ∨ fokB b' X' Y' = false) : cmA b X Y b' X' Y' = 2 := by
  unfold cmA; rw [if_neg (by rcases h with h | h <;> simp [h])]

set_option maxRecDepth 20000 in
set_option maxHeartbeats 2000000 in
theorem implCmp_yes (b : Bool) (r s : Option Addr) (cr cs x y : Nat) (b' : Bool) (r' s' : Option Addr) (cr' cs' x' y' : Nat) (w : World) (hx : Sl w r (dgs x)) (hy : Sl w s (dgs y)) (hx' : Sl w r' (dgs x')) (hy' : Sl w s' (dgs y'))
    (lx : (dgs x).length ≤ 256) (ly : (dgs y).length ≤ 256) (lx' : (dgs x').length ≤ 256) (ly' : (dgs y').length ≤ 256) (cx : (dgs x).length ≤ cr) (cy : (dgs y).length ≤ cs) (cx' : (dgs x').length ≤ cr') (cy' : (dgs y').length ≤ cs') (hok : fokB b (dgs x) (dgs y) = true) (hok' : fokB b' (dgs x') (dgs y') = true) (hb : b = true → x ≠ 0) :
    Calls Tryd.prog 12 #[fracV b r (dgs x).length cr s (dgs y).length cs, fracV b' r' (dgs x').length cr' s' (dgs y').length cs'] w fun e w' => e = .returned (.int .i64 (cmN b x y b' x' y')) ∧ Below w.heap.size w w' := by
  have CB : Hid (∀ W, Sl W r (dgs x) → Sl W s (dgs y) → Sl W r' (dgs x') → Sl W s' (dgs y') → Calls Tryd.prog 30 #[fracV b r (dgs x).length cr s (dgs y).length cs, fracV b' r' (dgs x').length cr' s' (dgs y').length cs'] W fun e w' => e = .returned (.tuple #[frV r (dgs x).length cr s (dgs y).length cs b, frV r' (dgs x').length cr' s' (dgs y').length cs' b', .nilIface]) ∧ Below W.heap.size W w') := fun W h1 h2 h3 h4 => both_yes b r s cr cs _ _ b' r' s' cr' cs' _ _ W h1 h2 h3 h4 (by omega) (by omega) cx cy (by omega) (by omega) cx' cy' hok hok'
  have CS : Hid (∀ W g, BoxC W g 52 #[.slice r (dgs x).length cr, .slice s (dgs y).length cs, .bool b, .slice r' (dgs x').length cr', .slice s' (dgs y').length cs', .bool (ngB b' x')] → Sl W r (dgs x) → Sl W s (dgs y) → Sl W r' (dgs x') → Sl W s' (dgs y') → Calls Tryd.prog 32 #[.slice (some ⟨g, 0, none⟩) 2 2] W fun e w' => ∃ r2 c2 s2 d2, e = .returned (frV r2 (dgs (smT b (ngB b' x') (x * y') (x' * y))).length c2 s2 (dgs (y * y')).length d2 (smB b (ngB b' x') (x * y') (x' * y))) ∧ OwnI w' W.heap.size r2 c2 (dgs (smT b (ngB b' x') (x * y') (x' * y))) ∧ OwnI w' W.heap.size s2 d2 (dgs (y * y')) ∧ Below W.heap.size W w') := fun W g h0 h1 h2 h3 h4 => sumOf_two g r s r' s' cr cs cr' cs' x y x' y' b (ngB b' x') W h0 h1 h2 h3 h4 (by omega) (by omega) (by omega) (by omega) hb
  have CN : Hid (∀ W, Calls Tryd.prog 33 #[frV r' (dgs x').length cr' s' (dgs y').length cs' b'] W fun e w' => e = .returned (frV r' (dgs x').length cr' s' (dgs y').length cs' (ngB b' x')) ∧ Below W.heap.size W w') := fun W => by rw [← negB_dgs]; exact frNeg_any r' s' _ cr' _ cs' b' W
  have CG : Hid (∀ W r2 c2 s2 m2 d2, Calls Tryd.prog 34 #[frV r2 (dgs (smT b (ngB b' x') (x * y') (x' * y))).length c2 s2 m2 d2 (smB b (ngB b' x') (x * y') (x' * y))] W fun e w' => e = .returned (.int .i64 (cmN b x y b' x' y')) ∧ Below W.heap.size W w') := fun W r2 c2 s2 m2 d2 => frSign_any r2 s2 _ c2 m2 d2 _ W
  have CF : Hid (∀ W, Calls Tryd.prog 31 #[.nilIface] W fun e w' => e = .returned (.bool false) ∧ Below W.heap.size W w') := fun W => isFault_nil W
  obtain ⟨z, hz⟩ : ∃ z, z = cmN b x y b' x' y' := ⟨_, rfl⟩
  obtain ⟨nb, hnb⟩ : ∃ nb, nb = ngB b' x' := ⟨_, rfl⟩
  rw [← hz, ← hnb] at CG
  rw [← hnb] at CN CS
  obtain ⟨X, hX⟩ : ∃ X, X = dgs x := ⟨_, rfl⟩
  obtain ⟨Y, hY⟩ : ∃ Y, Y = dgs y := ⟨_, rfl⟩
  obtain ⟨X', hX'⟩ : ∃ X', X' = dgs x' := ⟨_, rfl⟩
  obtain ⟨Y', hY'⟩ : ∃ Y', Y' = dgs y' := ⟨_, rfl⟩
  obtain ⟨P, hP⟩ : ∃ P, P = dgs (smT b nb (x * y') (x' * y)) := ⟨_, rfl⟩
  obtain ⟨Q, hQ⟩ : ∃ Q, Q = dgs (y * y') := ⟨_, rfl⟩
  obtain ⟨Z, hZ⟩ : ∃ Z, Z = smB b nb (x * y') (x' * y) := ⟨_, rfl⟩
  rw [← hX, ← hY, ← hX', ← hY'] at CB
  rw [← hX', ← hY'] at CN
  rw [← hX, ← hY, ← hX', ← hY', ← hP, ← hQ, ← hZ] at CS
  rw [← hP, ← hZ] at CG
  rw [← hX] at hx
  rw [← hY] at hy
  rw [← hX'] at hx'
  rw [← hY'] at hy'
  rw [← hz, ← hX, ← hY, ← hX', ← hY']
  clear hX hY hX' hY' hP hQ hZ hz hnb lx ly lx' ly' cx cy cx' cy' hok hok' hb
  unfold fracV at CB ⊢
  unfold frV at CB CS CN CG
  obtain ⟨w0, hw0⟩ : ∃ w0, w0 = (w.alloc (.cells #[.bool b, .slice r X.length cr, .slice s Y.length cs] 25)).alloc (.cells #[.bool b', .slice r' X'.length cr', .slice s' Y'.length cs'] 25) := ⟨_, rfl⟩
  have B0 : Below w.heap.size w w0 := by rw [hw0]; exact ((Below.refl _ w).alloc (Nat.le_refl _) _).alloc (by simp) _
  go_enter Tryd.func12, Tryd.ntmps12
  go_wp2_with fail
  rw [← hw0]
  refine Calls.mono (CB.out _ (hx.keep B0) (hy.keep B0) (hx'.keep B0) (hy'.keep B0)) ?_
  rintro e w1 ⟨rfl, b1⟩
  have B1 := B0.trans (b1.mono B0.size)
  clear hw0 b1 B0 CB
  go_wp2_with fail
  refine Calls.mono (CF.out _) ?_
  rintro e w2 ⟨rfl, b2⟩
  obtain ⟨gx, hgx⟩ : ∃ gx, gx = w1.heap.size := ⟨_, rfl⟩
  have kx : BoxC w2 gx 52 #[.slice r X.length cr, .slice s Y.length cs, .bool b] := by rw [hgx]; exact boxc_keep (boxc_alloc (boxc_new _ _ _) _) b2
  have ky : BoxC w2 (gx + 1) 52 #[.slice r' X'.length cr', .slice s' Y'.length cs', .bool b'] := by
    have h := boxc_new (w1.alloc (.cells #[.slice r X.length cr, .slice s Y.length cs, .bool b] 52)) 52 #[.slice r' X'.length cr', .slice s' Y'.length cs', .bool b']
    rw [World.size_alloc, ← hgx] at h
    exact boxc_keep h b2
  have B2 : Below w.heap.size w w2 := ((B1.alloc B1.size _).alloc (by have := B1.size; simp; omega) _).trans (b2.mono (by have := B1.size; simp; omega))
  rw [← hgx]
  clear b2 B1 CF hgx
  obtain ⟨c0, c1, c2, _, _⟩ := boxc3 kx
  obtain ⟨e0, e1, e2, _, _⟩ := boxc3 ky
  have HX : Hid (Sl w2 r X ∧ Sl w2 s Y ∧ Sl w2 r' X' ∧ Sl w2 s' Y') := ⟨hx.keep B2, hy.keep B2, hx'.keep B2, hy'.keep B2⟩
  have HB2 : Hid (Below w.heap.size w w2) := B2
  have n0 : gx + 1 < w2.heap.size := boxc_lt ky
  have c0d : w2.drew.cell? ⟨gx, 0, none⟩ = some (.slice r X.length cr) := c0
  have c1d : w2.drew.cell? ⟨gx, 1, none⟩ = some (.slice s Y.length cs) := c1
  have c2d : w2.drew.cell? ⟨gx, 2, none⟩ = some (.bool b) := c2
  have e0d : w2.drew.cell? ⟨gx + 1, 0, none⟩ = some (.slice r' X'.length cr') := e0
  have e1d : w2.drew.cell? ⟨gx + 1, 1, none⟩ = some (.slice s' Y'.length cs') := e1
  have e2d : w2.drew.cell? ⟨gx + 1, 2, none⟩ = some (.bool b') := e2
  clear kx ky B2 hx hy hx' hy' c0 c1 c2 e0 e1 e2
  go_wp2_with fail
  go_region_held3 (fun w' => w'.cell? ⟨gx, 0, none⟩ = some (.slice r X.length cr) ∧ w'.cell? ⟨gx, 1, none⟩ = some (.slice s Y.length cs) ∧ w'.cell? ⟨gx, 2, none⟩ = some (.bool b) ∧ w'.cell? ⟨gx + 1, 0, none⟩ = some (.slice r' X'.length cr') ∧ w'.cell? ⟨gx + 1, 1, none⟩ = some (.slice s' Y'.length cs') ∧ w'.cell? ⟨gx + 1, 2, none⟩ = some (.bool b'))
    (first
      | (with_reducible exact ⟨c0d, c1d, c2d, e0d, e1d, e2d⟩)
      | (go_split_ands; refine ⟨?_, ?_, ?_, ?_, ?_, ?_⟩ <;> first
        | (rw [b5.cell (by simp; omega)]; with_reducible assumption)
        | (rw [b4.cell (by simp; omega)]; with_reducible assumption)
        | (rw [World.cell?_alloc_lt _ _ _ (by simp; omega)]; with_reducible assumption)
        | (rw [b3.cell (by simp; omega)]; with_reducible assumption)))
    (first
      | (go_at_call 33; refine Calls.mono (CN.out w2.drew) ?_; rintro e w3 ⟨rfl, b3⟩; have z3 : w2.heap.size ≤ w3.heap.size := b3.size; have b3' := below_un2 b3)
      | (go_at_call 32; refine Calls.mono (CS.out _ _ (by exact boxc_new w3 _ _) (by exact (Sl.keep HX.out.1 b3').keep ((Below.refl _ w3).alloc (Nat.le_refl _) _)) (by exact (Sl.keep HX.out.2.1 b3').keep ((Below.refl _ w3).alloc (Nat.le_refl _) _)) (by exact (Sl.keep HX.out.2.2.1 b3').keep ((Below.refl _ w3).alloc (Nat.le_refl _) _)) (by exact (Sl.keep HX.out.2.2.2 b3').keep ((Below.refl _ w3).alloc (Nat.le_refl _) _))) ?_; rintro e w4 ⟨r4, c4, s4, d4, rfl, o4, p4, b4⟩; have z4 : w3.heap.size + 1 ≤ w4.heap.size := (by have h := b4.size; simpa using h); have B4 : Below w.heap.size w w4 := ((HB2.out.trans (b3'.mono (by exact HB2.out.size))).alloc (by exact (Nat.le_trans HB2.out.size z3)) _).trans (b4.mono (by have := HB2.out.size; simp; omega)))
      | (go_at_call 34; refine Calls.mono (CG.out _ _ _ _ _ _) ?_; rintro e w5 ⟨rfl, b5⟩; have z5 : w4.heap.size ≤ w5.heap.size := b5.size; have B5 := B4.trans (b5.mono B4.size)))
  go_wp2
  go_ret
  exact ⟨rfl, B5⟩

set_option maxRecDepth 20000 in
set_option maxHeartbeats 1000000 in
theorem implCmp_no (b : Bool) (r s : Option Addr) (cr cs : Nat) (X Y : List Int) (b' : Bool) (r' s' : Option Addr) (cr' cs' : Nat) (X' Y' : List Int) (w : World) (hh : Hdl w) (hX : Sl w r X) (hY : Sl w s Y) (hX' : Sl w r' X') (hY' : Sl w s' Y')
    (lX : X.length ≤ 1048576) (lY : Y.length ≤ 1048576) (cX : X.length ≤ cr) (cY : Y.length ≤ cs) (lX' : X'.length ≤ 1048576) (lY' : Y'.length ≤ 1048576) (cX' : X'.length ≤ cr') (cY' : Y'.length ≤ cs') (hok : fokB b X Y = false ∨ fokB b' X' Y' = false) :
    Calls Tryd.prog 12 #[fracV b r X.length cr s Y.length cs, fracV b' r' X'.length cr' s' Y'.length cs'] w fun e w' => e = .returned (.int .i64 2) ∧ Below w.heap.size w w' := by
  obtain ⟨w0, hw0⟩ : ∃ w0, w0 = (w.alloc (.cells #[.bool b, .slice r X.length cr, .slice s Y.length cs] 25)).alloc (.cells #[.bool b', .slice r' X'.length cr', .slice s' Y'.length cs'] 25) := ⟨_, rfl⟩
  have B0 : Below w.heap.size w w0 := by rw [hw0]; exact ((Below.refl _ w).alloc (Nat.le_refl _) _).alloc (by simp) _
  have CB : Hid (Calls Tryd.prog 30 #[fracV b r X.length cr s Y.length cs, fracV b' r' X'.length cr' s' Y'.length cs'] w0 fun e w' => (∃ r1 n1 c1 s1 m1 d1 b1 r2 n2 c2 s2 m2 d2 b2 t, e = .returned (.tuple #[frV r1 n1 c1 s1 m1 d1 b1, frV r2 n2 c2 s2 m2 d2 b2, flt t])) ∧ Below w0.heap.size w0 w') := by
    cases h : fokB b X Y with
    | false => exact (both_no1 b r s cr cs X Y b' r' s' X'.length cr' Y'.length cs' w0 (hh.keep B0 hh.pos) (hX.keep B0) (hY.keep B0) lX lY cX cY h).mono fun e w' ⟨⟨t, h1⟩, h2⟩ => ⟨⟨none, 0, 0, none, 0, 0, false, none, 0, 0, none, 0, 0, false, t, h1⟩, h2⟩
    | true =>
      have h' : fokB b' X' Y' = false := by
        rcases hok with h1 | h1
        · rw [h] at h1; cases h1
        · exact h1
      exact (both_no2 b r s cr cs X Y b' r' s' cr' cs' X' Y' w0 (hX.keep B0) (hY.keep B0) (hX'.keep B0) (hY'.keep B0) lX lY cX cY lX' lY' cX' cY' h h').mono fun e w' ⟨⟨t, h1⟩, h2⟩ => ⟨⟨_, _, _, _, _, _, _, none, 0, 0, none, 0, 0, false, t, h1⟩, h2⟩
  have CF : Hid (∀ t W, Hdl W → Calls Tryd.prog 31 #[flt t] W fun e w' => e = .returned (.bool true) ∧ Below W.heap.size W w') := fun t W h => isFault_hit t W h
  clear hok lX lY cX cY lX' lY' cX' cY' hX hY hX' hY'
  unfold fracV frV flt at CB
  unfold flt at CF
  unfold fracV
  go_enter Tryd.func12, Tryd.ntmps12
  go_wp2_with fail
  rw [← hw0]
  refine Calls.mono CB.out ?_
  rintro e w1 ⟨⟨r1, n1, c1, s1, m1, d1, b1', r2, n2, c2, s2, m2, d2, b2', t, rfl⟩, b1⟩
  have B1 := B0.trans (b1.mono B0.size)
  have B2 : Below w.heap.size w ((w1.alloc (.cells #[.slice r1 n1 c1, .slice s1 m1 d1, .bool b1'] 52)).alloc (.cells #[.slice r2 n2 c2, .slice s2 m2 d2, .bool b2'] 52)) := (B1.alloc B1.size _).alloc (by have := B1.size; simp; omega) _
  have hh1 := hh.keep B2 hh.pos
  clear hw0 b1 B0 CB
  go_wp2_with fail
  refine Calls.mono (CF.out t _ hh1) ?_
  rintro e w2 ⟨rfl, b2⟩
  have HB : Hid (Below w.heap.size w w2) := B2.trans (b2.mono B2.size)
  clear b2 B1 B2 CF hh1 hh
  go_wp2
  go_ret
  exact ⟨rfl, HB.out⟩

theorem implCmp_any (b : Bool) (r s : Option Addr) (cr cs : Nat) (X Y : List Int) (b' : Bool) (r' s' : Option Addr) (cr' cs' : Nat) (X' Y' : List Int) (w : World) (hh : Hdl w) (hX : Sl w r X) (hY : Sl w s Y) (hX' : Sl w r' X') (hY' : Sl w s' Y')
    (lX : X.length ≤ 1048576) (lY : Y.length ≤ 1048576) (cX : X.length ≤ cr) (cY : Y.length ≤ cs) (lX' : X'.length ≤ 1048576) (lY' : Y'.length ≤ 1048576) (cX' : X'.length ≤ cr') (cY' : Y'.length ≤ cs') :
    Calls Tryd.prog 12 #[fracV b r X.length cr s Y.length cs, fracV b' r' X'.length cr' s' Y'.length cs'] w fun e w' => e = .returned (.int .i64 (cmA b X Y b' X' Y')) ∧ Below w.heap.size w w' := by
  cases h : fokB b X Y with
  | false => rw [cmA_no (.inl h)]; exact implCmp_no b r s cr cs X Y b' r' s' cr' cs' X' Y' w hh hX hY hX' hY' lX lY cX cY lX' lY' cX' cY' (.inl h)
  | true =>
    cases h' : fokB b' X' Y' with
    | false => rw [cmA_no (.inr h')]; exact implCmp_no b r s cr cs X Y b' r' s' cr' cs' X' Y' w hh hX hY hX' hY' lX lY cX cY lX' lY' cX' cY' (.inr h')
    | true =>
      obtain ⟨x, y, rfl, rfl, lx, ly, hy0, hb, _⟩ := fok_parts h
      obtain ⟨x', y', rfl, rfl, lx', ly', hy0', _, _⟩ := fok_parts h'
      rw [cmA_yes h h']
      exact implCmp_yes b r s cr cs x y b' r' s' cr' cs' x' y' w hX hY hX' hY' lx ly lx' ly' cX cY cX' cY' h h' hb
set_option maxRecDepth 20000 in
set_option maxHeartbeats 2000000 in
theorem specCmp_any (b : Bool) (r s : Option Addr) (cr cs : Nat) (X Y : List Int) (b' : Bool) (r' s' : Option Addr) (cr' cs' : Nat) (X' Y' : List Int) (w : World) (hX : Sl w r X) (hY : Sl w s Y) (hX' : Sl w r' X') (hY' : Sl w s' Y')
    (lX : X.length ≤ 1048576) (lY : Y.length ≤ 1048576) (lX' : X'.length ≤ 1048576) (lY' : Y'.length ≤ 1048576) :
    Calls Tryd.prog 13 #[fracV b r X.length cr s Y.length cs, fracV b' r' X'.length cr' s' Y'.length cs'] w fun e w' => e = .returned (.int .i64 (cmA b X Y b' X' Y')) ∧ Below w.heap.size w w' := by
  obtain ⟨w0, hw0⟩ : ∃ w0, w0 = (w.alloc (.cells #[.bool b, .slice r X.length cr, .slice s Y.length cs] 25)).alloc (.cells #[.bool b', .slice r' X'.length cr', .slice s' Y'.length cs'] 25) := ⟨_, rfl⟩
  have B0 : Below w.heap.size w w0 := by rw [hw0]; exact ((Below.refl _ w).alloc (Nat.le_refl _) _).alloc (by simp) _
  have k1 : BoxC w0 w.heap.size 25 #[.bool b, .slice r X.length cr, .slice s Y.length cs] := by rw [hw0]; exact boxc_alloc (boxc_new _ _ _) _
  have k2 : BoxC w0 (w.heap.size + 1) 25 #[.bool b', .slice r' X'.length cr', .slice s' Y'.length cs'] := by
    rw [hw0]
    have h := boxc_new (w.alloc (.cells #[.bool b, .slice r X.length cr, .slice s Y.length cs] 25)) 25 #[.bool b', .slice r' X'.length cr', .slice s' Y'.length cs']
    rw [World.size_alloc] at h
    exact h
  have C1 : Hid (∀ W, Sl W r X → Sl W s Y → Calls Tryd.prog 14 #[fracV b r X.length cr s Y.length cs] W fun e w' => e = .returned (.bool (fokB b X Y)) ∧ Below W.heap.size W w') := fun W h1 h2 => specFok_any b r s cr cs X Y W h1 h2 lX lY
  have C2 : Hid (∀ W, Sl W r' X' → Sl W s' Y' → Calls Tryd.prog 14 #[fracV b' r' X'.length cr' s' Y'.length cs'] W fun e w' => e = .returned (.bool (fokB b' X' Y')) ∧ Below W.heap.size W w') := fun W h1 h2 => specFok_any b' r' s' cr' cs' X' Y' W h1 h2 lX' lY'
  cases h : fokB b X Y with
  | false =>
    rw [cmA_no (.inl h)]
    rw [h] at C1
    unfold fracV at C1 ⊢
    clear C2 lX lY lX' lY' h
    go_enter Tryd.func13, Tryd.ntmps13
    go_wp2_with fail
    rw [← hw0]
    refine Calls.mono (C1.out _ (hX.keep B0) (hY.keep B0)) ?_
    rintro e w1 ⟨rfl, b1⟩
    have HB : Hid (Below w.heap.size w w1) := B0.trans (b1.mono B0.size)
    clear b1 B0 k1 k2 C1 hw0 hX hY hX' hY'
    go_wp2
    go_ret
    exact ⟨rfl, HB.out⟩
  | true =>
    rw [h] at C1
    cases h' : fokB b' X' Y' with
    | false =>
      rw [cmA_no (.inr h')]
      rw [h'] at C2
      unfold fracV at C1 C2 ⊢
      clear lX lY lX' lY' h h'
      go_enter Tryd.func13, Tryd.ntmps13
      go_wp2_with fail
      rw [← hw0]
      refine Calls.mono (C1.out _ (hX.keep B0) (hY.keep B0)) ?_
      rintro e w1 ⟨rfl, b1⟩
      have k21 := boxc_keep k2 b1
      have B1 := B0.trans (b1.mono B0.size)
      clear b1 B0 k1 k2 C1 hw0
      obtain ⟨q0, q1, q2, _, _⟩ := boxc3 k21
      go_wp2_with fail
      refine Calls.mono (C2.out _ (hX'.keep B1) (hY'.keep B1)) ?_
      rintro e w2 ⟨rfl, b2⟩
      have HB : Hid (Below w.heap.size w w2) := B1.trans (b2.mono B1.size)
      clear b2 B1 k21 C2 hX hY hX' hY' q0 q1 q2
      go_wp2
      go_ret
      exact ⟨rfl, HB.out⟩
    | true =>
      rw [h'] at C2
      obtain ⟨x, y, rfl, rfl, lx, ly, hy0, hb, hg⟩ := fok_parts h
      obtain ⟨x', y', rfl, rfl, lx', ly', hy0', hb', hg'⟩ := fok_parts h'
      rw [cmA_yes h h']
      have CN : Hid (∀ W, Sl W r' (dgs x') → Sl W s' (dgs y') → Calls Tryd.prog 36 #[fracV b' r' (dgs x').length cr' s' (dgs y').length cs'] W fun e w' => ∃ r2 c2 s2 d2, e = .returned (fracV (ngB b' x') r2 (dgs x').length c2 s2 (dgs y').length d2) ∧ OwnI w' W.heap.size r2 c2 (dgs x') ∧ OwnI w' W.heap.size s2 d2 (dgs y') ∧ Below W.heap.size W w') := fun W h1 h2 => l2Neg_any b' r' s' cr' cs' x' y' W h1 h2 lx' ly'
      have CM : Hid (∀ W r2 c2 s2 d2, Sl W r (dgs x) → Sl W s (dgs y) → Sl W r2 (dgs x') → Sl W s2 (dgs y') → Calls Tryd.prog 35 #[fracV b r (dgs x).length cr s (dgs y).length cs, fracV (ngB b' x') r2 (dgs x').length c2 s2 (dgs y').length d2] W fun e w' => ∃ r3 c3 v, e = .returned (.tuple #[.bool (smB b (ngB b' x') (x * y') (x' * y)), .slice r3 (dgs (smT b (ngB b' x') (x * y') (x' * y))).length c3, v]) ∧ Below W.heap.size W w') := fun W r2 c2 s2 d2 h1 h2 h3 h4 => (l2Sum_any b r s cr cs x y (ngB b' x') r2 s2 c2 d2 x' y' W h1 h2 h3 h4 lx ly lx' ly').mono fun e w' ⟨r3, c3, s3, d3, k1, _, _, k4⟩ => ⟨r3, c3, _, k1, k4⟩
      have hcm : cmN b x y b' x' y' = sgnF (smB b (ngB b' x') (x * y') (x' * y)) (dgs (smT b (ngB b' x') (x * y') (x' * y))).length := rfl
      obtain ⟨z, hz⟩ : ∃ z, z = cmN b x y b' x' y' := ⟨_, rfl⟩
      rw [← hz] at hcm ⊢
      obtain ⟨nb, hnb⟩ : ∃ nb, nb = ngB b' x' := ⟨_, rfl⟩
      rw [← hnb] at CN CM hcm
      obtain ⟨P, hP⟩ : ∃ P, P = dgs (smT b nb (x * y') (x' * y)) := ⟨_, rfl⟩
      obtain ⟨Z, hZ⟩ : ∃ Z, Z = smB b nb (x * y') (x' * y) := ⟨_, rfl⟩
      rw [← hP, ← hZ] at CM hcm
      obtain ⟨X, hXe⟩ : ∃ X, X = dgs x := ⟨_, rfl⟩
      obtain ⟨Y, hYe⟩ : ∃ Y, Y = dgs y := ⟨_, rfl⟩
      obtain ⟨X', hXe'⟩ : ∃ X', X' = dgs x' := ⟨_, rfl⟩
      obtain ⟨Y', hYe'⟩ : ∃ Y', Y' = dgs y' := ⟨_, rfl⟩
      rw [← hXe] at hX
      rw [← hYe] at hY
      rw [← hXe'] at hX'
      rw [← hYe'] at hY'
      rw [← hXe, ← hYe] at C1 k1 hw0
      rw [← hXe', ← hYe'] at C2 k2 hw0 CN
      rw [← hXe, ← hYe, ← hXe', ← hYe'] at CM
      rw [← hXe, ← hYe, ← hXe', ← hYe']
      clear hXe hYe hXe' hYe' hP hZ hnb hz lx ly lx' ly' lX lY lX' lY' h h' hy0 hy0' hb hb' hg hg'
      unfold fracV at C1 C2 CN CM ⊢
      have hcase : (((P.length : Int) == 0) = true ∧ z = 0) ∨ (((P.length : Int) == 0) = false ∧ Z = true ∧ z = -1) ∨ (((P.length : Int) == 0) = false ∧ Z = false ∧ z = 1) := by
        by_cases h0 : P.length = 0
        · exact .inl ⟨by rw [h0]; rfl, by rw [hcm]; simp [sgnF, h0]⟩
        · have h1 : ((P.length : Int) == 0) = false := by rw [beq_eq_false_iff_ne]; omega
          cases Z with
          | true => exact .inr (.inl ⟨h1, rfl, by rw [hcm]; simp [sgnF, h0]⟩)
          | false => exact .inr (.inr ⟨h1, rfl, by rw [hcm]; simp [sgnF, h0]⟩)
      clear hcm
      rcases hcase with ⟨h0, rfl⟩ | ⟨h0, rfl, rfl⟩ | ⟨h0, rfl, rfl⟩
      all_goals
        go_enter Tryd.func13, Tryd.ntmps13
        go_wp2_with fail
        rw [← hw0]
        refine Calls.mono (C1.out _ (hX.keep B0) (hY.keep B0)) ?_
        rintro e w1 ⟨rfl, b1⟩
        have k11 := boxc_keep k1 b1
        have k21 := boxc_keep k2 b1
        have B1 := B0.trans (b1.mono B0.size)
        clear b1 B0 k1 k2 C1 hw0
        obtain ⟨q0, q1, q2, _, _⟩ := boxc3 k21
        go_wp2_with fail
        refine Calls.mono (C2.out _ (hX'.keep B1) (hY'.keep B1)) ?_
        rintro e w2 ⟨rfl, b2⟩
        have k12 := boxc_keep k11 b2
        have k22 := boxc_keep k21 b2
        have B2 := B1.trans (b2.mono B1.size)
        clear b2 B1 k11 k21 C2 q0 q1 q2
        obtain ⟨p0, p1, p2, _, _⟩ := boxc3 k12
        obtain ⟨q0, q1, q2, _, n2⟩ := boxc3 k22
        have HX : Hid (Sl w2 r X ∧ Sl w2 s Y ∧ Sl w2 r' X' ∧ Sl w2 s' Y') := ⟨hX.keep B2, hY.keep B2, hX'.keep B2, hY'.keep B2⟩
        have HB2 : Hid (Below w.heap.size w w2) := B2
        have p0d : w2.drew.cell? ⟨w.heap.size, 0, none⟩ = some (.bool b) := p0
        have p1d : w2.drew.cell? ⟨w.heap.size, 1, none⟩ = some (.slice r X.length cr) := p1
        have p2d : w2.drew.cell? ⟨w.heap.size, 2, none⟩ = some (.slice s Y.length cs) := p2
        have q0d : w2.drew.cell? ⟨w.heap.size + 1, 0, none⟩ = some (.bool b') := q0
        have q1d : w2.drew.cell? ⟨w.heap.size + 1, 1, none⟩ = some (.slice r' X'.length cr') := q1
        have q2d : w2.drew.cell? ⟨w.heap.size + 1, 2, none⟩ = some (.slice s' Y'.length cs') := q2
        clear k12 k22 B2 hX hY hX' hY' p0 p1 p2 q0 q1 q2
        go_wp2_with fail
        go_region_held3 (fun w' => w'.cell? ⟨w.heap.size, 0, none⟩ = some (.bool b) ∧ w'.cell? ⟨w.heap.size, 1, none⟩ = some (.slice r X.length cr) ∧ w'.cell? ⟨w.heap.size, 2, none⟩ = some (.slice s Y.length cs) ∧ w'.cell? ⟨w.heap.size + 1, 0, none⟩ = some (.bool b') ∧ w'.cell? ⟨w.heap.size + 1, 1, none⟩ = some (.slice r' X'.length cr') ∧ w'.cell? ⟨w.heap.size + 1, 2, none⟩ = some (.slice s' Y'.length cs'))
          (first
            | (with_reducible exact ⟨p0d, p1d, p2d, q0d, q1d, q2d⟩)
            | (go_split_ands; refine ⟨?_, ?_, ?_, ?_, ?_, ?_⟩ <;> first
              | (rw [b5.cell (by simp; omega)]; with_reducible assumption)
              | (rw [b3.cell (by simp; omega)]; with_reducible assumption)))
          (first
            | (go_at_call 36; refine Calls.mono (CN.out w2.drew (by exact HX.out.2.2.1) (by exact HX.out.2.2.2)) ?_; rintro e w3 ⟨r3, c3, s3, d3, rfl, o3, t3, b3⟩; have z3 : w2.heap.size ≤ w3.heap.size := b3.size; have b3' := below_un2 b3)
            | (go_at_call 35; refine Calls.mono (CM.out _ _ _ _ _ (by exact Sl.keep HX.out.1 b3') (by exact Sl.keep HX.out.2.1 b3') (by exact o3.sl) (by exact t3.sl)) ?_; rintro e w5 ⟨r5, c5, v5, rfl, b5⟩; have z5 : w3.heap.size ≤ w5.heap.size := b5.size; have B3 : Below w.heap.size w w3 := HB2.out.trans (b3'.mono (by exact HB2.out.size)); have B5 := B3.trans (b5.mono B3.size)))
        go_wp2
        go_ret
        exact ⟨rfl, B5⟩
end Go.Proofs.YthokphoojmpajabDoor
