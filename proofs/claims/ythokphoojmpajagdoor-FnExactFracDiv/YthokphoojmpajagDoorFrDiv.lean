/- The contracts of impl.FracDiv. -/
import Derived.Test.YthokphoojmpajagDoorGFr8
import Derived.Test.YthokphoojmpajagDoorGFr6
namespace Go.Proofs.YthokphoojmpajagDoor
open Go.RowKit Go.Proofs.Pin

set_option maxRecDepth 20000 in
set_option maxHeartbeats 2000000 in
theorem implDiv_yes (b : Bool) (r s : Option Addr) (cr cs x y : Nat) (b' : Bool) (r' s' : Option Addr) (cr' cs' x' y' : Nat) (w : World) (hh : Hdl w) (hx : Sl w r (dgs x)) (hy : Sl w s (dgs y)) (hx' : Sl w r' (dgs x')) (hy' : Sl w s' (dgs y'))
    (lx : (dgs x).length ≤ 256) (ly : (dgs y).length ≤ 256) (lx' : (dgs x').length ≤ 256) (ly' : (dgs y').length ≤ 256) (cx : (dgs x).length ≤ cr) (cy : (dgs y).length ≤ cs) (cx' : (dgs x').length ≤ cr') (cy' : (dgs y').length ≤ cs') (hok : fokB b (dgs x) (dgs y) = true) (hok' : fokB b' (dgs x') (dgs y') = true) (hy0 : y ≠ 0) (_hy0' : y' ≠ 0) (_hb : b = true → x ≠ 0) :
    Calls Tryd.prog 19 #[fracV b r (dgs x).length cr s (dgs y).length cs, fracV b' r' (dgs x').length cr' s' (dgs y').length cs'] w fun e w' => RetF w e w' (divA b x y b' x' y') := by
  have CB : Hid (∀ W, Sl W r (dgs x) → Sl W s (dgs y) → Sl W r' (dgs x') → Sl W s' (dgs y') → Calls Tryd.prog 31 #[fracV b r (dgs x).length cr s (dgs y).length cs, fracV b' r' (dgs x').length cr' s' (dgs y').length cs'] W fun e w' => e = .returned (.tuple #[frV r (dgs x).length cr s (dgs y).length cs b, frV r' (dgs x').length cr' s' (dgs y').length cs' b', .nilIface]) ∧ Below W.heap.size W w') := fun W h1 h2 h3 h4 => both_yes b r s cr cs _ _ b' r' s' cr' cs' _ _ W h1 h2 h3 h4 (by omega) (by omega) cx cy (by omega) (by omega) cx' cy' hok hok'
  have CT : Hid (∀ W, Sl W r (dgs x) → Sl W s (dgs y) → Sl W r' (dgs x') → Sl W s' (dgs y') → Calls Tryd.prog 43 #[frV r (dgs x).length cr s (dgs y).length cs b, frV r' (dgs x').length cr' s' (dgs y').length cs' b'] W fun e w' => ∃ v ev, e = .returned (.tuple #[v, ev]) ∧ TellO w' W.heap.size v ev (divA b x y b' x' y') ∧ Below W.heap.size W w') := fun W h1 h2 h3 h4 => frDiv_tell r s r' s' cr cs cr' cs' x y x' y' b b' W h1 h2 h3 h4 lx ly lx' ly' hy0
  have CL : Hid (∀ W v ev, Hdl W → Tell W v ev (divA b x y b' x' y') → Calls Tryd.prog 33 #[v, ev] W fun e w' => RetF W e w' (divA b x y b' x' y')) := fun W v ev h1 h2 => told_tell v ev _ W h1 h2
  have CF : Hid (∀ W, Calls Tryd.prog 32 #[.nilIface] W fun e w' => e = .returned (.bool false) ∧ Below W.heap.size W w') := fun W => isFault_nil W
  obtain ⟨A, hA⟩ : ∃ A, A = divA b x y b' x' y' := ⟨_, rfl⟩
  obtain ⟨X, hX⟩ : ∃ X, X = dgs x := ⟨_, rfl⟩
  obtain ⟨Y, hY⟩ : ∃ Y, Y = dgs y := ⟨_, rfl⟩
  obtain ⟨X', hX'⟩ : ∃ X', X' = dgs x' := ⟨_, rfl⟩
  obtain ⟨Y', hY'⟩ : ∃ Y', Y' = dgs y' := ⟨_, rfl⟩
  rw [← hX, ← hY, ← hX', ← hY'] at CB
  rw [← hX, ← hY, ← hX', ← hY', ← hA] at CT
  rw [← hA] at CL
  rw [← hX] at hx
  rw [← hY] at hy
  rw [← hX'] at hx'
  rw [← hY'] at hy'
  rw [← hA, ← hX, ← hY, ← hX', ← hY']
  clear hX hY hX' hY' hA lx ly lx' ly' cx cy cx' cy' hok hok' hy0 _hy0' _hb
  unfold fracV at CB ⊢
  unfold frV at CB CT
  obtain ⟨w0, hw0, k1, k2, k3, B0, z0⟩ := boxes3 w 26 26 26 #[.bool b, .slice r X.length cr, .slice s Y.length cs] #[.bool b', .slice r' X'.length cr', .slice s' Y'.length cs'] #[.bool false, .slice none 0 0, .slice none 0 0]
  go_enter Tryd.func19, Tryd.ntmps19
  go_wp2_with fail
  rw [← hw0]
  refine Calls.mono (CB.out _ (hx.keep B0) (hy.keep B0) (hx'.keep B0) (hy'.keep B0)) ?_
  rintro e w1 ⟨rfl, b1⟩
  have k31 := boxc_keep k3 b1
  have B1 := B0.trans (b1.mono B0.size)
  clear hw0 k1 k2 k3 b1 B0 CB
  go_wp2_with fail
  refine Calls.mono (CF.out _) ?_
  rintro e w2 ⟨rfl, b2⟩
  obtain ⟨gx, hgx⟩ : ∃ gx, gx = w1.heap.size := ⟨_, rfl⟩
  have kx : BoxC w2 gx 45 #[.slice r X.length cr, .slice s Y.length cs, .bool b] := by rw [hgx]; exact boxc_keep (boxc_alloc (boxc_new _ _ _) _) b2
  have ky : BoxC w2 (gx + 1) 45 #[.slice r' X'.length cr', .slice s' Y'.length cs', .bool b'] := by
    have h := boxc_new (w1.alloc (.cells #[.slice r X.length cr, .slice s Y.length cs, .bool b] 45)) 45 #[.slice r' X'.length cr', .slice s' Y'.length cs', .bool b']
    rw [World.size_alloc, ← hgx] at h
    exact boxc_keep h b2
  have k32 := boxc_keep (boxc_alloc (boxc_alloc k31 _) _) b2
  have B2 : Below w.heap.size w w2 := ((B1.alloc B1.size _).alloc (by have := B1.size; simp; omega) _).trans (b2.mono (by have := B1.size; simp; omega))
  rw [← hgx]
  clear b2 B1 k31 CF hgx
  obtain ⟨c0, c1, c2, _, _⟩ := boxc3 kx
  obtain ⟨e0, e1, e2, _, _⟩ := boxc3 ky
  go_wp2_with fail
  refine Calls.mono (CT.out _ (hx.keep B2) (hy.keep B2) (hx'.keep B2) (hy'.keep B2)) ?_
  rintro e w5 ⟨v, ev, rfl, T, b5⟩
  have k35 := boxc_keep k32 b5
  have B5 := B2.trans (b5.mono B2.size)
  have h5 := hh.keep B5 hh.pos
  clear CT c0 c1 c2 e0 e1 e2 kx ky k32 B2 b5 hx hy hx' hy'
  go_wp2_with fail
  refine Calls.mono (CL.out _ _ _ h5 T.tell) ?_
  rintro e w6 ⟨r6, c6, s6, d6, rfl, o6, p6, ap6, b6⟩
  obtain ⟨d0, d1, d2, df, dn⟩ := boxc3 (boxc_keep k35 b6)
  have H : Hid (RetF w _ _ A) := retF_fin o6 p6 ap6 (B5.trans (b6.mono B5.size)) (by omega : w.heap.size ≤ w.heap.size + 1 + 1) (boxc_lt k35) (.bool A.b) (.slice r6 A.X.length c6) (.slice s6 A.Y.length d6)
  clear CL T h5 B5 b6 k35 o6 p6 ap6 hh
  unfold fracV at H ⊢
  go_wp2
  refine ⟨rfl, .tuple #[.agg #[.bool A.b, .slice r6 A.X.length c6, .slice s6 A.Y.length d6], .bool A.ok], ?_, H.out⟩
  simp [results, Tryd.f19, go_sem, d0, d1, d2]

set_option maxRecDepth 20000 in
set_option maxHeartbeats 1000000 in
theorem implDiv_no (b : Bool) (r s : Option Addr) (cr cs : Nat) (X Y : List Int) (b' : Bool) (r' s' : Option Addr) (cr' cs' : Nat) (X' Y' : List Int) (w : World) (hh : Hdl w) (hX : Sl w r X) (hY : Sl w s Y) (hX' : Sl w r' X') (hY' : Sl w s' Y')
    (lX : X.length ≤ 1048576) (lY : Y.length ≤ 1048576) (cX : X.length ≤ cr) (cY : Y.length ≤ cs) (lX' : X'.length ≤ 1048576) (lY' : Y'.length ≤ 1048576) (cX' : X'.length ≤ cr') (cY' : Y'.length ≤ cs') (hok : fokB b X Y = false ∨ fokB b' X' Y' = false) :
    Calls Tryd.prog 19 #[fracV b r X.length cr s Y.length cs, fracV b' r' X'.length cr' s' Y'.length cs'] w fun e w' => RetF w e w' noA := by
  obtain ⟨w0, hw0, k1, k2, k3, B0, z0⟩ := boxes3 w 26 26 26 #[.bool b, .slice r X.length cr, .slice s Y.length cs] #[.bool b', .slice r' X'.length cr', .slice s' Y'.length cs'] #[.bool false, .slice none 0 0, .slice none 0 0]
  have CB : Hid (Calls Tryd.prog 31 #[fracV b r X.length cr s Y.length cs, fracV b' r' X'.length cr' s' Y'.length cs'] w0 fun e w' => (∃ r1 n1 c1 s1 m1 d1 b1 r2 n2 c2 s2 m2 d2 b2 t, e = .returned (.tuple #[frV r1 n1 c1 s1 m1 d1 b1, frV r2 n2 c2 s2 m2 d2 b2, flt t])) ∧ Below w0.heap.size w0 w') := by
    cases h : fokB b X Y with
    | false => exact (both_no1 b r s cr cs X Y b' r' s' X'.length cr' Y'.length cs' w0 (hh.keep B0 hh.pos) (hX.keep B0) (hY.keep B0) lX lY cX cY h).mono fun e w' ⟨⟨t, h1⟩, h2⟩ => ⟨⟨none, 0, 0, none, 0, 0, false, none, 0, 0, none, 0, 0, false, t, h1⟩, h2⟩
    | true =>
      have h' : fokB b' X' Y' = false := by rcases hok with h1 | h1; · rw [h] at h1; cases h1
                                            · exact h1
      exact (both_no2 b r s cr cs X Y b' r' s' cr' cs' X' Y' w0 (hX.keep B0) (hY.keep B0) (hX'.keep B0) (hY'.keep B0) lX lY cX cY lX' lY' cX' cY' h h').mono fun e w' ⟨⟨t, h1⟩, h2⟩ => ⟨⟨_, _, _, _, _, _, _, none, 0, 0, none, 0, 0, false, t, h1⟩, h2⟩
  have CF : Hid (∀ t W, Hdl W → Calls Tryd.prog 32 #[flt t] W fun e w' => e = .returned (.bool true) ∧ Below W.heap.size W w') := fun t W h => isFault_hit t W h
  have hh0 := hh.keep B0 hh.pos
  clear hok lX lY cX cY lX' lY' cX' cY' hX hY hX' hY'
  unfold fracV frV flt at CB
  unfold flt at CF
  unfold fracV
  go_enter Tryd.func19, Tryd.ntmps19
  go_wp2_with fail
  rw [← hw0]
  refine Calls.mono CB.out ?_
  rintro e w1 ⟨⟨r1, n1, c1, s1, m1, d1, b1', r2, n2, c2, s2, m2, d2, b2', t, rfl⟩, b1⟩
  have k31 := boxc_keep k3 b1
  have B1 := B0.trans (b1.mono B0.size)
  have hh1 : Hdl ((w1.alloc (.cells #[.slice r1 n1 c1, .slice s1 m1 d1, .bool b1'] 45)).alloc (.cells #[.slice r2 n2 c2, .slice s2 m2 d2, .bool b2'] 45)) := hh.keep ((B1.alloc B1.size _).alloc (by have := B1.size; simp; omega) _) hh.pos
  clear hw0 k1 k2 k3 b1 B0 CB
  go_wp2_with fail
  refine Calls.mono (CF.out t _ hh1) ?_
  rintro e w2 ⟨rfl, b2⟩
  obtain ⟨d0, d1, d2', df, dn⟩ := boxc3 (boxc_keep (boxc_alloc (boxc_alloc k31 _) _) b2)
  have HB : Hid (Below w.heap.size w w2) := ((B1.alloc B1.size _).alloc (by have := B1.size; simp; omega) _).trans (b2.mono (by have := B1.size; simp; omega))
  clear b2 B1 k31 CF hh1 hh0 hh
  go_wp2
  refine ⟨rfl, .tuple #[.agg #[.bool false, .slice none 0 0, .slice none 0 0], .bool false], ?_, retF_no (below_set3 HB.out (by omega) _ _ _)⟩
  simp [results, Tryd.f19, go_sem, d0, d1, d2']

theorem implDiv_any (b : Bool) (r s : Option Addr) (cr cs : Nat) (X Y : List Int) (b' : Bool) (r' s' : Option Addr) (cr' cs' : Nat) (X' Y' : List Int) (w : World) (hh : Hdl w) (hX : Sl w r X) (hY : Sl w s Y) (hX' : Sl w r' X') (hY' : Sl w s' Y')
    (lX : X.length ≤ 1048576) (lY : Y.length ≤ 1048576) (cX : X.length ≤ cr) (cY : Y.length ≤ cs) (lX' : X'.length ≤ 1048576) (lY' : Y'.length ≤ 1048576) (cX' : X'.length ≤ cr') (cY' : Y'.length ≤ cs') :
    Calls Tryd.prog 19 #[fracV b r X.length cr s Y.length cs, fracV b' r' X'.length cr' s' Y'.length cs'] w fun e w' => RetF w e w' (op2A divA b X Y b' X' Y') := by
  cases h : fokB b X Y with
  | false => rw [op2A_no1 h]; exact implDiv_no b r s cr cs X Y b' r' s' cr' cs' X' Y' w hh hX hY hX' hY' lX lY cX cY lX' lY' cX' cY' (.inl h)
  | true =>
    cases h' : fokB b' X' Y' with
    | false => rw [op2A_no2 h']; exact implDiv_no b r s cr cs X Y b' r' s' cr' cs' X' Y' w hh hX hY hX' hY' lX lY cX cY lX' lY' cX' cY' (.inr h')
    | true =>
      obtain ⟨x, y, rfl, rfl, lx, ly, hy0, hb, _⟩ := fok_parts h
      obtain ⟨x', y', rfl, rfl, lx', ly', hy0', _, _⟩ := fok_parts h'
      rw [op2A_yes h h']
      exact implDiv_yes b r s cr cs x y b' r' s' cr' cs' x' y' w hh hX hY hX' hY' lx ly lx' ly' cX cY cX' cY' h h' hy0 hy0' hb
end Go.Proofs.YthokphoojmpajagDoor
