/- The contract of impl.FracAdd. The contracts of impl.FracMul. The contract of impl.FracSub. The contracts of impl.FracDiv. -/
import Derived.Test.YthokphoojmpajabGreatDoorGFr8
import Derived.Test.YthokphoojmpajabGreatDoorGFr6
namespace Go.Proofs.YthokphoojmpajabGreatDoor
open Go.RowKit Go.Proofs.Pin

set_option maxRecDepth 20000 in
set_option maxHeartbeats 2000000 in
theorem implAdd_yes (b : Bool) (r s : Option Addr) (cr cs x y : Nat) (b' : Bool) (r' s' : Option Addr) (cr' cs' x' y' : Nat) (w : World) (hh : Hdl w) (hx : Sl w r (dgs x)) (hy : Sl w s (dgs y)) (hx' : Sl w r' (dgs x')) (hy' : Sl w s' (dgs y'))
    (lx : (dgs x).length ≤ 256) (ly : (dgs y).length ≤ 256) (lx' : (dgs x').length ≤ 256) (ly' : (dgs y').length ≤ 256) (cx : (dgs x).length ≤ cr) (cy : (dgs y).length ≤ cs) (cx' : (dgs x').length ≤ cr') (cy' : (dgs y').length ≤ cs') (hok : fokB b (dgs x) (dgs y) = true) (hok' : fokB b' (dgs x') (dgs y') = true) (hy0 : y ≠ 0) (hy0' : y' ≠ 0) (hb : b = true → x ≠ 0) :
    Calls Tryz.prog 14 #[fracV b r (dgs x).length cr s (dgs y).length cs, fracV b' r' (dgs x').length cr' s' (dgs y').length cs'] w fun e w' => RetF w e w' (addA b x y b' x' y') := by
  have l1 : (dgs (smT b b' (x * y') (x' * y))).length ≤ 2000 := sm_len b b' (x * y') (x' * y) (by have := len_mul2 x y'; omega) (by have := len_mul2 x' y; omega)
  have l2 : (dgs (y * y')).length ≤ 2000 := by have := len_mul2 y y'; omega
  have CB : Hid (∀ W, Sl W r (dgs x) → Sl W s (dgs y) → Sl W r' (dgs x') → Sl W s' (dgs y') → Calls Tryz.prog 32 #[fracV b r (dgs x).length cr s (dgs y).length cs, fracV b' r' (dgs x').length cr' s' (dgs y').length cs'] W fun e w' => e = .returned (.tuple #[frV r (dgs x).length cr s (dgs y).length cs b, frV r' (dgs x').length cr' s' (dgs y').length cs' b', .nilIface]) ∧ Below W.heap.size W w') := fun W h1 h2 h3 h4 => both_yes b r s cr cs _ _ b' r' s' cr' cs' _ _ W h1 h2 h3 h4 (by omega) (by omega) cx cy (by omega) (by omega) cx' cy' hok hok'
  have CS : Hid (∀ W g, BoxC W g 48 #[.slice r (dgs x).length cr, .slice s (dgs y).length cs, .bool b, .slice r' (dgs x').length cr', .slice s' (dgs y').length cs', .bool b'] → Sl W r (dgs x) → Sl W s (dgs y) → Sl W r' (dgs x') → Sl W s' (dgs y') → Calls Tryz.prog 40 #[.slice (some ⟨g, 0, none⟩) 2 2] W fun e w' => ∃ r2 c2 s2 d2, e = .returned (frV r2 (dgs (smT b b' (x * y') (x' * y))).length c2 s2 (dgs (y * y')).length d2 (smB b b' (x * y') (x' * y))) ∧ OwnI w' W.heap.size r2 c2 (dgs (smT b b' (x * y') (x' * y))) ∧ OwnI w' W.heap.size s2 d2 (dgs (y * y')) ∧ Below W.heap.size W w') := fun W g h0 h1 h2 h3 h4 => sumOf_two g r s r' s' cr cs cr' cs' x y x' y' b b' W h0 h1 h2 h3 h4 (by omega) (by omega) (by omega) (by omega) hb
  have CT : Hid (∀ W r2 c2 s2 d2 base, OwnI W base r2 c2 (dgs (smT b b' (x * y') (x' * y))) → OwnI W base s2 d2 (dgs (y * y')) → Calls Tryz.prog 34 #[frV r2 (dgs (smT b b' (x * y') (x' * y))).length c2 s2 (dgs (y * y')).length d2 (smB b b' (x * y') (x' * y))] W fun e w' => ∃ v ev, e = .returned (.tuple #[v, ev]) ∧ TellO w' W.heap.size v ev (addA b x y b' x' y') ∧ Below W.heap.size W w') := fun W r2 c2 s2 d2 base h1 h2 => settled_tell r2 s2 c2 d2 _ _ _ W h1.sl h2.sl l1 l2 (own_cap h1) (own_cap h2) (Nat.mul_ne_zero hy0 hy0')
  have CL : Hid (∀ W v ev, Hdl W → Tell W v ev (addA b x y b' x' y') → Calls Tryz.prog 29 #[v, ev] W fun e w' => RetF W e w' (addA b x y b' x' y')) := fun W v ev h1 h2 => told_tell v ev _ W h1 h2
  have CF : Hid (∀ W, Calls Tryz.prog 28 #[.nilIface] W fun e w' => e = .returned (.bool false) ∧ Below W.heap.size W w') := fun W => isFault_nil W
  obtain ⟨A, hA⟩ : ∃ A, A = addA b x y b' x' y' := ⟨_, rfl⟩
  obtain ⟨X, hX⟩ : ∃ X, X = dgs x := ⟨_, rfl⟩
  obtain ⟨Y, hY⟩ : ∃ Y, Y = dgs y := ⟨_, rfl⟩
  obtain ⟨X', hX'⟩ : ∃ X', X' = dgs x' := ⟨_, rfl⟩
  obtain ⟨Y', hY'⟩ : ∃ Y', Y' = dgs y' := ⟨_, rfl⟩
  obtain ⟨P, hP⟩ : ∃ P, P = dgs (smT b b' (x * y') (x' * y)) := ⟨_, rfl⟩
  obtain ⟨Q, hQ⟩ : ∃ Q, Q = dgs (y * y') := ⟨_, rfl⟩
  obtain ⟨Z, hZ⟩ : ∃ Z, Z = smB b b' (x * y') (x' * y) := ⟨_, rfl⟩
  rw [← hX, ← hY, ← hX', ← hY'] at CB
  rw [← hX, ← hY, ← hX', ← hY', ← hP, ← hQ, ← hZ] at CS
  rw [← hA, ← hP, ← hQ, ← hZ] at CT
  rw [← hA] at CL
  rw [← hX] at hx
  rw [← hY] at hy
  rw [← hX'] at hx'
  rw [← hY'] at hy'
  rw [← hA, ← hX, ← hY, ← hX', ← hY']
  clear hX hY hX' hY' hP hQ hZ hA lx ly lx' ly' cx cy cx' cy' hok hok' hy0 hy0' hb l1 l2
  unfold fracV at CB ⊢
  unfold frV at CB CS CT
  obtain ⟨w0, hw0, k1, k2, k3, B0, z0⟩ := boxes3 w 25 25 25 #[.bool b, .slice r X.length cr, .slice s Y.length cs] #[.bool b', .slice r' X'.length cr', .slice s' Y'.length cs'] #[.bool false, .slice none 0 0, .slice none 0 0]
  go_enter Tryz.func14, Tryz.ntmps14
  go_wp2_with fail
  rw [← hw0]
  refine Calls.mono (CB.out _ (hx.keep B0) (hy.keep B0) (hx'.keep B0) (hy'.keep B0)) ?_
  rintro e w1 ⟨rfl, b1⟩
  have k31 := boxc_keep k3 b1
  have B1 := B0.trans (b1.mono B0.size)
  clear hw0 k1 k2 k3 b1 B0 CB
  go_wp2_with fail
  refine Calls.mono (CF.out _) ?_
  rintro e w2 ⟨rfl, b2⟩
  obtain ⟨gx, hgx⟩ : ∃ gx, gx = w1.heap.size := ⟨_, rfl⟩
  have kx : BoxC w2 gx 48 #[.slice r X.length cr, .slice s Y.length cs, .bool b] := by rw [hgx]; exact boxc_keep (boxc_alloc (boxc_new _ _ _) _) b2
  have ky : BoxC w2 (gx + 1) 48 #[.slice r' X'.length cr', .slice s' Y'.length cs', .bool b'] := by
    have h := boxc_new (w1.alloc (.cells #[.slice r X.length cr, .slice s Y.length cs, .bool b] 48)) 48 #[.slice r' X'.length cr', .slice s' Y'.length cs', .bool b']
    rw [World.size_alloc, ← hgx] at h
    exact boxc_keep h b2
  have k32 := boxc_keep (boxc_alloc (boxc_alloc k31 _) _) b2
  have B2 : Below w.heap.size w w2 := ((B1.alloc B1.size _).alloc (by have := B1.size; simp; omega) _).trans (b2.mono (by have := B1.size; simp; omega))
  rw [← hgx]
  clear b2 B1 k31 CF hgx
  obtain ⟨c0, c1, c2, _, _⟩ := boxc3 kx
  obtain ⟨e0, e1, e2, _, _⟩ := boxc3 ky
  obtain ⟨w3, hw3⟩ : ∃ w3, w3 = w2.alloc (.cells #[.slice r X.length cr, .slice s Y.length cs, .bool b, .slice r' X'.length cr', .slice s' Y'.length cs', .bool b'] 48) := ⟨_, rfl⟩
  have k33 : BoxC w3 (w.heap.size + 1 + 1) 25 #[.bool false, .slice none 0 0, .slice none 0 0] := by rw [hw3]; exact boxc_alloc k32 _
  have kq : BoxC w3 w2.heap.size 48 #[.slice r X.length cr, .slice s Y.length cs, .bool b, .slice r' X'.length cr', .slice s' Y'.length cs', .bool b'] := by rw [hw3]; exact boxc_new _ _ _
  have B3 : Below w.heap.size w w3 := by rw [hw3]; exact B2.alloc B2.size _
  go_wp2_with fail
  rw [← hw3]
  refine Calls.mono (CS.out _ _ kq (hx.keep B3) (hy.keep B3) (hx'.keep B3) (hy'.keep B3)) ?_
  rintro e w4 ⟨r4, c4, s4, d4, rfl, o4, p4, b4⟩
  have k34 := boxc_keep k33 b4
  have B4 := B3.trans (b4.mono B3.size)
  clear hw3 c0 c1 c2 e0 e1 e2 kx ky k32 B2 k33 kq B3 b4 CS hx hy hx' hy'
  go_wp2_with fail
  refine Calls.mono (CT.out _ _ _ _ _ _ o4 p4) ?_
  rintro e w5 ⟨v, ev, rfl, T, b5⟩
  have k35 := boxc_keep k34 b5
  have B5 := B4.trans (b5.mono B4.size)
  have h5 := hh.keep B5 hh.pos
  clear CT o4 p4 k34 B4 b5
  go_wp2_with fail
  refine Calls.mono (CL.out _ _ _ h5 T.tell) ?_
  rintro e w6 ⟨r6, c6, s6, d6, rfl, o6, p6, ap6, b6⟩
  obtain ⟨d0, d1, d2, df, dn⟩ := boxc3 (boxc_keep k35 b6)
  have H : Hid (RetF w _ _ A) := retF_fin o6 p6 ap6 (B5.trans (b6.mono B5.size)) (by omega : w.heap.size ≤ w.heap.size + 1 + 1) (boxc_lt k35) (.bool A.b) (.slice r6 A.X.length c6) (.slice s6 A.Y.length d6)
  clear CL T h5 B5 b6 k35 o6 p6 ap6 hh
  unfold fracV at H ⊢
  go_wp2
  refine ⟨rfl, .tuple #[.agg #[.bool A.b, .slice r6 A.X.length c6, .slice s6 A.Y.length d6], .bool A.ok], ?_, H.out⟩
  simp [results, Tryz.f14, go_sem, d0, d1, d2]

set_option maxRecDepth 20000 in
set_option maxHeartbeats 1000000 in
theorem implAdd_no (b : Bool) (r s : Option Addr) (cr cs : Nat) (X Y : List Int) (b' : Bool) (r' s' : Option Addr) (cr' cs' : Nat) (X' Y' : List Int) (w : World) (hh : Hdl w) (hX : Sl w r X) (hY : Sl w s Y) (hX' : Sl w r' X') (hY' : Sl w s' Y')
    (lX : X.length ≤ 1048576) (lY : Y.length ≤ 1048576) (cX : X.length ≤ cr) (cY : Y.length ≤ cs) (lX' : X'.length ≤ 1048576) (lY' : Y'.length ≤ 1048576) (cX' : X'.length ≤ cr') (cY' : Y'.length ≤ cs') (hok : fokB b X Y = false ∨ fokB b' X' Y' = false) :
    Calls Tryz.prog 14 #[fracV b r X.length cr s Y.length cs, fracV b' r' X'.length cr' s' Y'.length cs'] w fun e w' => RetF w e w' noA := by
  obtain ⟨w0, hw0, k1, k2, k3, B0, z0⟩ := boxes3 w 25 25 25 #[.bool b, .slice r X.length cr, .slice s Y.length cs] #[.bool b', .slice r' X'.length cr', .slice s' Y'.length cs'] #[.bool false, .slice none 0 0, .slice none 0 0]
  have CB : Hid (Calls Tryz.prog 32 #[fracV b r X.length cr s Y.length cs, fracV b' r' X'.length cr' s' Y'.length cs'] w0 fun e w' => (∃ r1 n1 c1 s1 m1 d1 b1 r2 n2 c2 s2 m2 d2 b2 t, e = .returned (.tuple #[frV r1 n1 c1 s1 m1 d1 b1, frV r2 n2 c2 s2 m2 d2 b2, flt t])) ∧ Below w0.heap.size w0 w') := by
    cases h : fokB b X Y with
    | false => exact (both_no1 b r s cr cs X Y b' r' s' X'.length cr' Y'.length cs' w0 (hh.keep B0 hh.pos) (hX.keep B0) (hY.keep B0) lX lY cX cY h).mono fun e w' ⟨⟨t, h1⟩, h2⟩ => ⟨⟨none, 0, 0, none, 0, 0, false, none, 0, 0, none, 0, 0, false, t, h1⟩, h2⟩
    | true =>
      have h' : fokB b' X' Y' = false := by rcases hok with h1 | h1; · rw [h] at h1; cases h1
                                            · exact h1
      exact (both_no2 b r s cr cs X Y b' r' s' cr' cs' X' Y' w0 (hX.keep B0) (hY.keep B0) (hX'.keep B0) (hY'.keep B0) lX lY cX cY lX' lY' cX' cY' h h').mono fun e w' ⟨⟨t, h1⟩, h2⟩ => ⟨⟨_, _, _, _, _, _, _, none, 0, 0, none, 0, 0, false, t, h1⟩, h2⟩
  have CF : Hid (∀ t W, Hdl W → Calls Tryz.prog 28 #[flt t] W fun e w' => e = .returned (.bool true) ∧ Below W.heap.size W w') := fun t W h => isFault_hit t W h
  have hh0 := hh.keep B0 hh.pos
  clear hok lX lY cX cY lX' lY' cX' cY' hX hY hX' hY'
  unfold fracV frV flt at CB
  unfold flt at CF
  unfold fracV
  go_enter Tryz.func14, Tryz.ntmps14
  go_wp2_with fail
  rw [← hw0]
  refine Calls.mono CB.out ?_
  rintro e w1 ⟨⟨r1, n1, c1, s1, m1, d1, b1', r2, n2, c2, s2, m2, d2, b2', t, rfl⟩, b1⟩
  have k31 := boxc_keep k3 b1
  have B1 := B0.trans (b1.mono B0.size)
  have hh1 : Hdl ((w1.alloc (.cells #[.slice r1 n1 c1, .slice s1 m1 d1, .bool b1'] 48)).alloc (.cells #[.slice r2 n2 c2, .slice s2 m2 d2, .bool b2'] 48)) := hh.keep ((B1.alloc B1.size _).alloc (by have := B1.size; simp; omega) _) hh.pos
  clear hw0 k1 k2 k3 b1 B0 CB
  go_wp2_with fail
  refine Calls.mono (CF.out t _ hh1) ?_
  rintro e w2 ⟨rfl, b2⟩
  obtain ⟨d0, d1, d2', df, dn⟩ := boxc3 (boxc_keep (boxc_alloc (boxc_alloc k31 _) _) b2)
  have HB : Hid (Below w.heap.size w w2) := ((B1.alloc B1.size _).alloc (by have := B1.size; simp; omega) _).trans (b2.mono (by have := B1.size; simp; omega))
  clear b2 B1 k31 CF hh1 hh0 hh
  go_wp2
  refine ⟨rfl, .tuple #[.agg #[.bool false, .slice none 0 0, .slice none 0 0], .bool false], ?_, retF_no (below_set3 HB.out (by omega) _ _ _)⟩
  simp [results, Tryz.f14, go_sem, d0, d1, d2']

theorem implAdd_any (b : Bool) (r s : Option Addr) (cr cs : Nat) (X Y : List Int) (b' : Bool) (r' s' : Option Addr) (cr' cs' : Nat) (X' Y' : List Int) (w : World) (hh : Hdl w) (hX : Sl w r X) (hY : Sl w s Y) (hX' : Sl w r' X') (hY' : Sl w s' Y')
    (lX : X.length ≤ 1048576) (lY : Y.length ≤ 1048576) (cX : X.length ≤ cr) (cY : Y.length ≤ cs) (lX' : X'.length ≤ 1048576) (lY' : Y'.length ≤ 1048576) (cX' : X'.length ≤ cr') (cY' : Y'.length ≤ cs') :
    Calls Tryz.prog 14 #[fracV b r X.length cr s Y.length cs, fracV b' r' X'.length cr' s' Y'.length cs'] w fun e w' => RetF w e w' (op2A addA b X Y b' X' Y') := by
  cases h : fokB b X Y with
  | false => rw [op2A_no1 h]; exact implAdd_no b r s cr cs X Y b' r' s' cr' cs' X' Y' w hh hX hY hX' hY' lX lY cX cY lX' lY' cX' cY' (.inl h)
  | true =>
    cases h' : fokB b' X' Y' with
    | false => rw [op2A_no2 h']; exact implAdd_no b r s cr cs X Y b' r' s' cr' cs' X' Y' w hh hX hY hX' hY' lX lY cX cY lX' lY' cX' cY' (.inr h')
    | true =>
      obtain ⟨x, y, rfl, rfl, lx, ly, hy0, hb, _⟩ := fok_parts h
      obtain ⟨x', y', rfl, rfl, lx', ly', hy0', _, _⟩ := fok_parts h'
      rw [op2A_yes h h']
      exact implAdd_yes b r s cr cs x y b' r' s' cr' cs' x' y' w hh hX hY hX' hY' lx ly lx' ly' cX cY cX' cY' h h' hy0 hy0' hb
end Go.Proofs.YthokphoojmpajabGreatDoor

namespace Go.Proofs.YthokphoojmpajabGreatDoor
open Go.RowKit Go.Proofs.Pin

set_option maxRecDepth 20000 in
set_option maxHeartbeats 2000000 in
theorem implMul_yes (b : Bool) (r s : Option Addr) (cr cs x y : Nat) (b' : Bool) (r' s' : Option Addr) (cr' cs' x' y' : Nat) (w : World) (hh : Hdl w) (hx : Sl w r (dgs x)) (hy : Sl w s (dgs y)) (hx' : Sl w r' (dgs x')) (hy' : Sl w s' (dgs y'))
    (lx : (dgs x).length ≤ 256) (ly : (dgs y).length ≤ 256) (lx' : (dgs x').length ≤ 256) (ly' : (dgs y').length ≤ 256) (cx : (dgs x).length ≤ cr) (cy : (dgs y).length ≤ cs) (cx' : (dgs x').length ≤ cr') (cy' : (dgs y').length ≤ cs') (hok : fokB b (dgs x) (dgs y) = true) (hok' : fokB b' (dgs x') (dgs y') = true) (hy0 : y ≠ 0) (hy0' : y' ≠ 0) (_hb : b = true → x ≠ 0) :
    Calls Tryz.prog 8 #[fracV b r (dgs x).length cr s (dgs y).length cs, fracV b' r' (dgs x').length cr' s' (dgs y').length cs'] w fun e w' => RetF w e w' (mulA b x y b' x' y') := by
  have l1 : (dgs (x * x')).length ≤ 2000 := by have := len_mul2 x x'; omega
  have l2 : (dgs (y * y')).length ≤ 2000 := by have := len_mul2 y y'; omega
  have CB : Hid (∀ W, Sl W r (dgs x) → Sl W s (dgs y) → Sl W r' (dgs x') → Sl W s' (dgs y') → Calls Tryz.prog 32 #[fracV b r (dgs x).length cr s (dgs y).length cs, fracV b' r' (dgs x').length cr' s' (dgs y').length cs'] W fun e w' => e = .returned (.tuple #[frV r (dgs x).length cr s (dgs y).length cs b, frV r' (dgs x').length cr' s' (dgs y').length cs' b', .nilIface]) ∧ Below W.heap.size W w') := fun W h1 h2 h3 h4 => both_yes b r s cr cs _ _ b' r' s' cr' cs' _ _ W h1 h2 h3 h4 (by omega) (by omega) cx cy (by omega) (by omega) cx' cy' hok hok'
  have CS : Hid (∀ W, Sl W r (dgs x) → Sl W s (dgs y) → Sl W r' (dgs x') → Sl W s' (dgs y') → Calls Tryz.prog 33 #[frV r (dgs x).length cr s (dgs y).length cs b, frV r' (dgs x').length cr' s' (dgs y').length cs' b'] W fun e w' => ∃ r2 c2 s2 d2, e = .returned (frV r2 (dgs (x * x')).length c2 s2 (dgs (y * y')).length d2 ((b != b'))) ∧ OwnI w' W.heap.size r2 c2 (dgs (x * x')) ∧ OwnI w' W.heap.size s2 d2 (dgs (y * y')) ∧ Below W.heap.size W w') := fun W h1 h2 h3 h4 => frTimes_any r s r' s' cr cs cr' cs' x y x' y' b b' W h1 h2 h3 h4 (by omega) (by omega) (by omega) (by omega)
  have CT : Hid (∀ W r2 c2 s2 d2 base, OwnI W base r2 c2 (dgs (x * x')) → OwnI W base s2 d2 (dgs (y * y')) → Calls Tryz.prog 34 #[frV r2 (dgs (x * x')).length c2 s2 (dgs (y * y')).length d2 ((b != b'))] W fun e w' => ∃ v ev, e = .returned (.tuple #[v, ev]) ∧ TellO w' W.heap.size v ev (mulA b x y b' x' y') ∧ Below W.heap.size W w') := fun W r2 c2 s2 d2 base h1 h2 => settled_tell r2 s2 c2 d2 _ _ _ W h1.sl h2.sl l1 l2 (own_cap h1) (own_cap h2) (Nat.mul_ne_zero hy0 hy0')
  have CL : Hid (∀ W v ev, Hdl W → Tell W v ev (mulA b x y b' x' y') → Calls Tryz.prog 29 #[v, ev] W fun e w' => RetF W e w' (mulA b x y b' x' y')) := fun W v ev h1 h2 => told_tell v ev _ W h1 h2
  have CF : Hid (∀ W, Calls Tryz.prog 28 #[.nilIface] W fun e w' => e = .returned (.bool false) ∧ Below W.heap.size W w') := fun W => isFault_nil W
  obtain ⟨A, hA⟩ : ∃ A, A = mulA b x y b' x' y' := ⟨_, rfl⟩
  obtain ⟨X, hX⟩ : ∃ X, X = dgs x := ⟨_, rfl⟩
  obtain ⟨Y, hY⟩ : ∃ Y, Y = dgs y := ⟨_, rfl⟩
  obtain ⟨X', hX'⟩ : ∃ X', X' = dgs x' := ⟨_, rfl⟩
  obtain ⟨Y', hY'⟩ : ∃ Y', Y' = dgs y' := ⟨_, rfl⟩
  obtain ⟨P, hP⟩ : ∃ P, P = dgs (x * x') := ⟨_, rfl⟩
  obtain ⟨Q, hQ⟩ : ∃ Q, Q = dgs (y * y') := ⟨_, rfl⟩
  obtain ⟨Z, hZ⟩ : ∃ Z, Z = (b != b') := ⟨_, rfl⟩
  rw [← hX, ← hY, ← hX', ← hY'] at CB
  rw [← hX, ← hY, ← hX', ← hY', ← hP, ← hQ, ← hZ] at CS
  rw [← hA, ← hP, ← hQ, ← hZ] at CT
  rw [← hA] at CL
  rw [← hX] at hx
  rw [← hY] at hy
  rw [← hX'] at hx'
  rw [← hY'] at hy'
  rw [← hA, ← hX, ← hY, ← hX', ← hY']
  clear hX hY hX' hY' hP hQ hZ hA lx ly lx' ly' cx cy cx' cy' hok hok' hy0 hy0' _hb l1 l2
  unfold fracV at CB ⊢
  unfold frV at CB CS CT
  obtain ⟨w0, hw0, k1, k2, k3, B0, z0⟩ := boxes3 w 25 25 25 #[.bool b, .slice r X.length cr, .slice s Y.length cs] #[.bool b', .slice r' X'.length cr', .slice s' Y'.length cs'] #[.bool false, .slice none 0 0, .slice none 0 0]
  go_enter Tryz.func8, Tryz.ntmps8
  go_wp2_with fail
  rw [← hw0]
  refine Calls.mono (CB.out _ (hx.keep B0) (hy.keep B0) (hx'.keep B0) (hy'.keep B0)) ?_
  rintro e w1 ⟨rfl, b1⟩
  have k31 := boxc_keep k3 b1
  have B1 := B0.trans (b1.mono B0.size)
  clear hw0 k1 k2 k3 b1 B0 CB
  go_wp2_with fail
  refine Calls.mono (CF.out _) ?_
  rintro e w2 ⟨rfl, b2⟩
  obtain ⟨gx, hgx⟩ : ∃ gx, gx = w1.heap.size := ⟨_, rfl⟩
  have kx : BoxC w2 gx 48 #[.slice r X.length cr, .slice s Y.length cs, .bool b] := by rw [hgx]; exact boxc_keep (boxc_alloc (boxc_new _ _ _) _) b2
  have ky : BoxC w2 (gx + 1) 48 #[.slice r' X'.length cr', .slice s' Y'.length cs', .bool b'] := by
    have h := boxc_new (w1.alloc (.cells #[.slice r X.length cr, .slice s Y.length cs, .bool b] 48)) 48 #[.slice r' X'.length cr', .slice s' Y'.length cs', .bool b']
    rw [World.size_alloc, ← hgx] at h
    exact boxc_keep h b2
  have k32 := boxc_keep (boxc_alloc (boxc_alloc k31 _) _) b2
  have B2 : Below w.heap.size w w2 := ((B1.alloc B1.size _).alloc (by have := B1.size; simp; omega) _).trans (b2.mono (by have := B1.size; simp; omega))
  rw [← hgx]
  clear b2 B1 k31 CF hgx
  obtain ⟨c0, c1, c2, _, _⟩ := boxc3 kx
  obtain ⟨e0, e1, e2, _, _⟩ := boxc3 ky
  go_wp2_with fail
  refine Calls.mono (CS.out _ (hx.keep B2) (hy.keep B2) (hx'.keep B2) (hy'.keep B2)) ?_
  rintro e w4 ⟨r4, c4, s4, d4, rfl, o4, p4, b4⟩
  have k34 := boxc_keep k32 b4
  have B4 := B2.trans (b4.mono B2.size)
  clear c0 c1 c2 e0 e1 e2 kx ky k32 B2 b4 CS hx hy hx' hy'
  go_wp2_with fail
  refine Calls.mono (CT.out _ _ _ _ _ _ o4 p4) ?_
  rintro e w5 ⟨v, ev, rfl, T, b5⟩
  have k35 := boxc_keep k34 b5
  have B5 := B4.trans (b5.mono B4.size)
  have h5 := hh.keep B5 hh.pos
  clear CT o4 p4 k34 B4 b5
  go_wp2_with fail
  refine Calls.mono (CL.out _ _ _ h5 T.tell) ?_
  rintro e w6 ⟨r6, c6, s6, d6, rfl, o6, p6, ap6, b6⟩
  obtain ⟨d0, d1, d2, df, dn⟩ := boxc3 (boxc_keep k35 b6)
  have H : Hid (RetF w _ _ A) := retF_fin o6 p6 ap6 (B5.trans (b6.mono B5.size)) (by omega : w.heap.size ≤ w.heap.size + 1 + 1) (boxc_lt k35) (.bool A.b) (.slice r6 A.X.length c6) (.slice s6 A.Y.length d6)
  clear CL T h5 B5 b6 k35 o6 p6 ap6 hh
  unfold fracV at H ⊢
  go_wp2
  refine ⟨rfl, .tuple #[.agg #[.bool A.b, .slice r6 A.X.length c6, .slice s6 A.Y.length d6], .bool A.ok], ?_, H.out⟩
  simp [results, Tryz.f8, go_sem, d0, d1, d2]

set_option maxRecDepth 20000 in
set_option maxHeartbeats 1000000 in
theorem implMul_no (b : Bool) (r s : Option Addr) (cr cs : Nat) (X Y : List Int) (b' : Bool) (r' s' : Option Addr) (cr' cs' : Nat) (X' Y' : List Int) (w : World) (hh : Hdl w) (hX : Sl w r X) (hY : Sl w s Y) (hX' : Sl w r' X') (hY' : Sl w s' Y')
    (lX : X.length ≤ 1048576) (lY : Y.length ≤ 1048576) (cX : X.length ≤ cr) (cY : Y.length ≤ cs) (lX' : X'.length ≤ 1048576) (lY' : Y'.length ≤ 1048576) (cX' : X'.length ≤ cr') (cY' : Y'.length ≤ cs') (hok : fokB b X Y = false ∨ fokB b' X' Y' = false) :
    Calls Tryz.prog 8 #[fracV b r X.length cr s Y.length cs, fracV b' r' X'.length cr' s' Y'.length cs'] w fun e w' => RetF w e w' noA := by
  obtain ⟨w0, hw0, k1, k2, k3, B0, z0⟩ := boxes3 w 25 25 25 #[.bool b, .slice r X.length cr, .slice s Y.length cs] #[.bool b', .slice r' X'.length cr', .slice s' Y'.length cs'] #[.bool false, .slice none 0 0, .slice none 0 0]
  have CB : Hid (Calls Tryz.prog 32 #[fracV b r X.length cr s Y.length cs, fracV b' r' X'.length cr' s' Y'.length cs'] w0 fun e w' => (∃ r1 n1 c1 s1 m1 d1 b1 r2 n2 c2 s2 m2 d2 b2 t, e = .returned (.tuple #[frV r1 n1 c1 s1 m1 d1 b1, frV r2 n2 c2 s2 m2 d2 b2, flt t])) ∧ Below w0.heap.size w0 w') := by
    cases h : fokB b X Y with
    | false => exact (both_no1 b r s cr cs X Y b' r' s' X'.length cr' Y'.length cs' w0 (hh.keep B0 hh.pos) (hX.keep B0) (hY.keep B0) lX lY cX cY h).mono fun e w' ⟨⟨t, h1⟩, h2⟩ => ⟨⟨none, 0, 0, none, 0, 0, false, none, 0, 0, none, 0, 0, false, t, h1⟩, h2⟩
    | true =>
      have h' : fokB b' X' Y' = false := by rcases hok with h1 | h1; · rw [h] at h1; cases h1
                                            · exact h1
      exact (both_no2 b r s cr cs X Y b' r' s' cr' cs' X' Y' w0 (hX.keep B0) (hY.keep B0) (hX'.keep B0) (hY'.keep B0) lX lY cX cY lX' lY' cX' cY' h h').mono fun e w' ⟨⟨t, h1⟩, h2⟩ => ⟨⟨_, _, _, _, _, _, _, none, 0, 0, none, 0, 0, false, t, h1⟩, h2⟩
  have CF : Hid (∀ t W, Hdl W → Calls Tryz.prog 28 #[flt t] W fun e w' => e = .returned (.bool true) ∧ Below W.heap.size W w') := fun t W h => isFault_hit t W h
  have hh0 := hh.keep B0 hh.pos
  clear hok lX lY cX cY lX' lY' cX' cY' hX hY hX' hY'
  unfold fracV frV flt at CB
  unfold flt at CF
  unfold fracV
  go_enter Tryz.func8, Tryz.ntmps8
  go_wp2_with fail
  rw [← hw0]
  refine Calls.mono CB.out ?_
  rintro e w1 ⟨⟨r1, n1, c1, s1, m1, d1, b1', r2, n2, c2, s2, m2, d2, b2', t, rfl⟩, b1⟩
  have k31 := boxc_keep k3 b1
  have B1 := B0.trans (b1.mono B0.size)
  have hh1 : Hdl ((w1.alloc (.cells #[.slice r1 n1 c1, .slice s1 m1 d1, .bool b1'] 48)).alloc (.cells #[.slice r2 n2 c2, .slice s2 m2 d2, .bool b2'] 48)) := hh.keep ((B1.alloc B1.size _).alloc (by have := B1.size; simp; omega) _) hh.pos
  clear hw0 k1 k2 k3 b1 B0 CB
  go_wp2_with fail
  refine Calls.mono (CF.out t _ hh1) ?_
  rintro e w2 ⟨rfl, b2⟩
  obtain ⟨d0, d1, d2', df, dn⟩ := boxc3 (boxc_keep (boxc_alloc (boxc_alloc k31 _) _) b2)
  have HB : Hid (Below w.heap.size w w2) := ((B1.alloc B1.size _).alloc (by have := B1.size; simp; omega) _).trans (b2.mono (by have := B1.size; simp; omega))
  clear b2 B1 k31 CF hh1 hh0 hh
  go_wp2
  refine ⟨rfl, .tuple #[.agg #[.bool false, .slice none 0 0, .slice none 0 0], .bool false], ?_, retF_no (below_set3 HB.out (by omega) _ _ _)⟩
  simp [results, Tryz.f8, go_sem, d0, d1, d2']

theorem implMul_any (b : Bool) (r s : Option Addr) (cr cs : Nat) (X Y : List Int) (b' : Bool) (r' s' : Option Addr) (cr' cs' : Nat) (X' Y' : List Int) (w : World) (hh : Hdl w) (hX : Sl w r X) (hY : Sl w s Y) (hX' : Sl w r' X') (hY' : Sl w s' Y')
    (lX : X.length ≤ 1048576) (lY : Y.length ≤ 1048576) (cX : X.length ≤ cr) (cY : Y.length ≤ cs) (lX' : X'.length ≤ 1048576) (lY' : Y'.length ≤ 1048576) (cX' : X'.length ≤ cr') (cY' : Y'.length ≤ cs') :
    Calls Tryz.prog 8 #[fracV b r X.length cr s Y.length cs, fracV b' r' X'.length cr' s' Y'.length cs'] w fun e w' => RetF w e w' (op2A mulA b X Y b' X' Y') := by
  cases h : fokB b X Y with
  | false => rw [op2A_no1 h]; exact implMul_no b r s cr cs X Y b' r' s' cr' cs' X' Y' w hh hX hY hX' hY' lX lY cX cY lX' lY' cX' cY' (.inl h)
  | true =>
    cases h' : fokB b' X' Y' with
    | false => rw [op2A_no2 h']; exact implMul_no b r s cr cs X Y b' r' s' cr' cs' X' Y' w hh hX hY hX' hY' lX lY cX cY lX' lY' cX' cY' (.inr h')
    | true =>
      obtain ⟨x, y, rfl, rfl, lx, ly, hy0, hb, _⟩ := fok_parts h
      obtain ⟨x', y', rfl, rfl, lx', ly', hy0', _, _⟩ := fok_parts h'
      rw [op2A_yes h h']
      exact implMul_yes b r s cr cs x y b' r' s' cr' cs' x' y' w hh hX hY hX' hY' lx ly lx' ly' cX cY cX' cY' h h' hy0 hy0' hb
end Go.Proofs.YthokphoojmpajabGreatDoor

namespace Go.Proofs.YthokphoojmpajabGreatDoor
open Go.RowKit Go.Proofs.Pin

end Go.Proofs.YthokphoojmpajabGreatDoor

namespace Go.Proofs.YthokphoojmpajabGreatDoor
open Go.RowKit Go.Proofs.Pin

end Go.Proofs.YthokphoojmpajabGreatDoor
