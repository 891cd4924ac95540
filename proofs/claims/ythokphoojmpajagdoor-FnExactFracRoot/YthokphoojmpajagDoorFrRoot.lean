/- The contracts of impl.FracRoot and spec.FracRoot. -/
import Derived.Test.YthokphoojmpajagDoorGFr8
import Derived.Test.YthokphoojmpajagDoorGSp
import Derived.Test.YthokphoojmpajagDoorNatRoot
namespace Go.Proofs.YthokphoojmpajagDoor
open Go.RowKit Go.Proofs.Pin

/-- The root, if both roots are exact and the fraction is not below 0. -/
def rootA (b : Bool) (x y : Nat) : FAns := if b = false ∧ rtX (dgs x) = true ∧ rtX (dgs y) = true then ⟨false, rtL (dgs x), rtL (dgs y), true⟩ else noA
theorem rootA_len (b : Bool) (X Y : List Int) : (op1A rootA b X Y).X.length ≤ 256 ∧ (op1A rootA b X Y).Y.length ≤ 256 := by
  unfold op1A
  split
  · unfold rootA
    split
    · exact ⟨rtL_len _, rtL_len _⟩
    · exact ⟨Nat.zero_le _, Nat.zero_le _⟩
  · exact ⟨Nat.zero_le _, Nat.zero_le _⟩
theorem rootA_cases (b : Bool) (x y : Nat) : (b = true ∧ rootA b x y = noA) ∨ (b = false ∧ rtX (dgs x) = false ∧ rootA b x y = noA) ∨ (b = false ∧ rtX (dgs x) = true ∧ rtX (dgs y) = false ∧ rootA b x y = noA) ∨ (b = false ∧ rtX (dgs x) = true ∧ rtX (dgs y) = true ∧ rootA b x y = ⟨false, rtL (dgs x), rtL (dgs y), true⟩) := by
  unfold rootA
  cases b with
  | true => exact .inl ⟨rfl, by simp⟩
  | false =>
    cases h1 : rtX (dgs x) with
    | false => exact .inr (.inl ⟨rfl, rfl, by simp⟩)
    | true =>
      cases h2 : rtX (dgs y) with
      | false => exact .inr (.inr (.inl ⟨rfl, rfl, rfl, by simp⟩))
      | true => exact .inr (.inr (.inr ⟨rfl, rfl, rfl, by simp⟩))

set_option maxRecDepth 20000 in
set_option maxHeartbeats 2000000 in
theorem frRoot_tell (r s : Option Addr) (cr cs x y : Nat) (b : Bool) (w : World) (hx : Sl w r (dgs x)) (hy : Sl w s (dgs y)) (lx : (dgs x).length ≤ 256) (ly : (dgs y).length ≤ 256) (kx : (dgs x).length ≤ cr) (ky : (dgs y).length ≤ cs) :
    Calls Tryd.prog 48 #[frV r (dgs x).length cr s (dgs y).length cs b] w fun e w' => ∃ v ev, e = .returned (.tuple #[v, ev]) ∧ TellO w' w.heap.size v ev (rootA b x y) ∧ Below w.heap.size w w' := by
  have C1 : Hid (∀ W, Sl W r (dgs x) → Calls Tryd.prog 67 #[.slice r (dgs x).length cr] W fun e w' => ∃ a c v, e = .returned (.tuple #[.slice a (rtL (dgs x)).length c, .bool (rtX (dgs x)), v]) ∧ OwnI w' W.heap.size a c (rtL (dgs x)) ∧ Below W.heap.size W w') := fun W h => (implRoot_op r cr (dgs x) W h (by omega) kx).mono fun e w' ⟨r1, c1, h1, h2, h3⟩ => ⟨r1, c1, _, h1, h2, h3⟩
  have C2 : Hid (∀ W, Sl W s (dgs y) → Calls Tryd.prog 67 #[.slice s (dgs y).length cs] W fun e w' => ∃ a c v, e = .returned (.tuple #[.slice a (rtL (dgs y)).length c, .bool (rtX (dgs y)), v]) ∧ OwnI w' W.heap.size a c (rtL (dgs y)) ∧ Below W.heap.size W w') := fun W h => (implRoot_op s cs (dgs y) W h (by omega) ky).mono fun e w' ⟨r1, c1, h1, h2, h3⟩ => ⟨r1, c1, _, h1, h2, h3⟩
  have hc := rootA_cases b x y
  have l1 := rtL_len (dgs x)
  have l2 := rtL_len (dgs y)
  obtain ⟨A, hA⟩ : ∃ A, A = rootA b x y := ⟨_, rfl⟩
  obtain ⟨X, hXe⟩ : ∃ X, X = dgs x := ⟨_, rfl⟩
  obtain ⟨Y, hYe⟩ : ∃ Y, Y = dgs y := ⟨_, rfl⟩
  rw [← hA, ← hXe, ← hYe] at hc
  rw [← hXe] at C1 hx l1
  rw [← hYe] at C2 hy l2
  rw [← hA, ← hXe, ← hYe]
  obtain ⟨P, hP⟩ : ∃ P, P = rtL X := ⟨_, rfl⟩
  obtain ⟨Q, hQ⟩ : ∃ Q, Q = rtL Y := ⟨_, rfl⟩
  obtain ⟨eX, heX⟩ : ∃ eX, eX = rtX X := ⟨_, rfl⟩
  obtain ⟨eY, heY⟩ : ∃ eY, eY = rtX Y := ⟨_, rfl⟩
  rw [← hP, ← hQ, ← heX, ← heY] at hc
  rw [← hP, ← heX] at C1
  rw [← hQ, ← heY] at C2
  rw [← hP] at l1
  rw [← hQ] at l2
  clear hA hXe hYe hP hQ heX heY lx ly kx ky
  unfold frV
  obtain ⟨w0, hw0⟩ : ∃ w0, w0 = (w.alloc (.cells #[.slice r X.length cr, .slice s Y.length cs, .bool b] 45)).alloc (.cells #[.slice none 0 0, .slice none 0 0, .bool false] 45) := ⟨_, rfl⟩
  have B0 : Below w.heap.size w w0 := by rw [hw0]; exact ((Below.refl _ w).alloc (Nat.le_refl _) _).alloc (by simp) _
  have k1 : BoxC w0 w.heap.size 45 #[.slice r X.length cr, .slice s Y.length cs, .bool b] := by rw [hw0]; exact boxc_alloc (boxc_new _ _ _) _
  have k2 : BoxC w0 (w.heap.size + 1) 45 #[.slice none 0 0, .slice none 0 0, .bool false] := by
    rw [hw0]
    have h := boxc_new (w.alloc (.cells #[.slice r X.length cr, .slice s Y.length cs, .bool b] 45)) 45 #[.slice none 0 0, .slice none 0 0, .bool false]
    rw [World.size_alloc] at h
    exact h
  rcases hc with ⟨rfl, rfl⟩ | ⟨rfl, rfl, rfl⟩ | ⟨rfl, rfl, rfl, rfl⟩ | ⟨rfl, rfl, rfl, rfl⟩
  all_goals
    go_enter Tryd.func48, Tryd.ntmps48
    go_wp2_with fail
    rw [← hw0]
    refine Calls.mono (C1.out _ (hx.keep B0)) ?_
    rintro e w1 ⟨a1, c1, v1, rfl, o1, b1⟩
    have k11 := boxc_keep k1 b1
    have k21 := boxc_keep k2 b1
    have B1 := B0.trans (b1.mono B0.size)
    have z0 := boxc_lt k2
    obtain ⟨p0, p1, p2, _, _⟩ := boxc3 k11
    clear hw0 b1 k1 k2 C1
    go_wp2_with fail
    refine Calls.mono (C2.out _ (hy.keep B1)) ?_
    rintro e w2 ⟨a2, c2, v2, rfl, o2, b2⟩
    have k12 := boxc_keep k11 b2
    have k22 := boxc_keep k21 b2
    have z1 := boxc_lt k21
    have HB : Hid (Below w.heap.size w w2) := B1.trans (b2.mono B1.size)
    have HO : Hid (OwnI w2 w0.heap.size a1 c1 P ∧ OwnI w2 w1.heap.size a2 c2 Q) := ⟨o1.keep b2, o2⟩
    have y0 := B0.size
    have y1 := B1.size
    clear p0 p1 p2
    obtain ⟨p0, p1, p2, _, _⟩ := boxc3 k12
    obtain ⟨d0, d1, d2, df, dn⟩ := boxc3 k22
    clear C2 k11 k21 k12 k22 b2 o1 o2 B0 B1 hx hy
    go_wp2
    first
      | (refine ⟨rfl, .tuple #[.agg #[.slice none 0 0, .slice none 0 0, .bool false], .iface 72 (.string ⟨#[110, 111, 32, 102, 114, 97, 99, 116, 105, 111, 110, 32, 104, 97, 115, 32, 116, 104, 105, 115, 32, 115, 113, 117, 97, 114, 101]⟩)], ?_, _, _, rfl, .inr ⟨_, rfl, rfl, rfl⟩, below_set3 HB.out (Nat.le_succ _) _ _ _⟩; simp [results, Tryd.f48, go_sem, d0, d1, d2]; done)
      | (refine ⟨rfl, .tuple #[.agg #[.slice a1 P.length c1, .slice a2 Q.length c2, .bool false], .nilIface], ?_, _, _, rfl, .inl ⟨a1, c1, a2, c2, rfl, rfl, (own_far HO.out.1 (gr_set3 _ _ _ _ _) z0).mono (by omega), (own_far HO.out.2 (gr_set3 _ _ _ _ _) z1).mono (by omega), rfl, by show P.length ≤ 1048576; omega, by show Q.length ≤ 1048576; omega⟩, below_set3 HB.out (Nat.le_succ _) _ _ _⟩; simp [results, Tryd.f48, go_sem, d0, d1, d2]; done)
set_option maxRecDepth 20000 in
set_option maxHeartbeats 1000000 in
theorem implRoot_any (b : Bool) (r s : Option Addr) (cr cs : Nat) (X Y : List Int) (w : World) (hh : Hdl w) (hX : Sl w r X) (hY : Sl w s Y) (lX : X.length ≤ 1048576) (lY : Y.length ≤ 1048576) (cX : X.length ≤ cr) (cY : Y.length ≤ cs) :
    Calls Tryd.prog 23 #[fracV b r X.length cr s Y.length cs] w fun e w' => RetF w e w' (op1A rootA b X Y) := by
  obtain ⟨w0, hw0⟩ : ∃ w0, w0 = (w.alloc (.cells #[.bool b, .slice r X.length cr, .slice s Y.length cs] 26)).alloc (.cells #[.bool false, .slice none 0 0, .slice none 0 0] 26) := ⟨_, rfl⟩
  have B0 : Below w.heap.size w w0 := by rw [hw0]; exact ((Below.refl _ w).alloc (Nat.le_refl _) _).alloc (by simp) _
  have k2 : BoxC w0 (w.heap.size + 1) 26 #[.bool false, .slice none 0 0, .slice none 0 0] := by
    rw [hw0]
    have h := boxc_new (w.alloc (.cells #[.bool b, .slice r X.length cr, .slice s Y.length cs] 26)) 26 #[.bool false, .slice none 0 0, .slice none 0 0]
    rw [World.size_alloc] at h
    exact h
  cases h : fokB b X Y with
  | false =>
    rw [op1A_no h]
    have C1 : Hid _ := taken_no b r s cr cs X Y w0 (hX.keep B0) (hY.keep B0) lX lY cX cY h
    have CF : Hid (∀ t W, Hdl W → Calls Tryd.prog 32 #[flt t] W fun e w' => e = .returned (.bool true) ∧ Below W.heap.size W w') := fun t W h => isFault_hit t W h
    unfold fracV fr0 flt at C1
    unfold flt at CF
    unfold frV at C1
    unfold fracV
    clear h lX lY cX cY hX hY
    go_enter Tryd.func23, Tryd.ntmps23
    go_wp2_with fail
    rw [← hw0]
    refine Calls.mono C1.out ?_
    rintro e w1 ⟨⟨t, rfl⟩, b1⟩
    have k21 := boxc_keep k2 b1
    have B1 := B0.trans (b1.mono B0.size)
    have B2 : Below w.heap.size w (w1.alloc (.cells #[.slice none 0 0, .slice none 0 0, .bool false] 45)) := B1.alloc B1.size _
    have h2 := hh.keep B2 hh.pos
    have k22 := boxc_alloc k21 (.cells #[.slice none 0 0, .slice none 0 0, .bool false] 45)
    clear hw0 b1 B0 k2 C1
    go_wp2_with fail
    refine Calls.mono (CF.out t _ h2) ?_
    rintro e w2 ⟨rfl, b2⟩
    obtain ⟨d0, d1, d2, df, dn⟩ := boxc3 (boxc_keep k22 b2)
    have HB : Hid (Below w.heap.size w w2) := B2.trans (b2.mono B2.size)
    clear CF h2 b2 B1 B2 k21 k22 hh
    go_wp2
    refine ⟨rfl, .tuple #[.agg #[.bool false, .slice none 0 0, .slice none 0 0], .bool false], ?_, retF_no (below_set3 HB.out (by omega) _ _ _)⟩
    simp [results, Tryd.f23, go_sem, d0, d1, d2]
  | true =>
    have C1 : Hid _ := taken_yes b r s cr cs X Y w0 (hX.keep B0) (hY.keep B0) lX lY cX cY h
    obtain ⟨x, y, rfl, rfl, lx, ly, _⟩ := fok_parts h
    rw [op1A_yes h]
    have CG : Hid (∀ W, Sl W r (dgs x) → Sl W s (dgs y) → Calls Tryd.prog 48 #[frV r (dgs x).length cr s (dgs y).length cs b] W fun e w' => ∃ v ev, e = .returned (.tuple #[v, ev]) ∧ TellO w' W.heap.size v ev (rootA b x y) ∧ Below W.heap.size W w') := fun W h1 h2 => frRoot_tell r s cr cs x y b W h1 h2 lx ly cX cY
    have CL : Hid (∀ W v ev, Hdl W → Tell W v ev (rootA b x y) → Calls Tryd.prog 33 #[v, ev] W fun e w' => RetF W e w' (rootA b x y)) := fun W v ev h1 h2 => told_tell v ev _ W h1 h2
    have CF : Hid (∀ W, Calls Tryd.prog 32 #[.nilIface] W fun e w' => e = .returned (.bool false) ∧ Below W.heap.size W w') := fun W => isFault_nil W
    obtain ⟨A, hA⟩ : ∃ A, A = rootA b x y := ⟨_, rfl⟩
    obtain ⟨X, hXe⟩ : ∃ X, X = dgs x := ⟨_, rfl⟩
    obtain ⟨Y, hYe⟩ : ∃ Y, Y = dgs y := ⟨_, rfl⟩
    rw [← hXe] at hX
    rw [← hYe] at hY
    rw [← hXe, ← hYe] at C1 hw0
    rw [← hXe, ← hYe, ← hA] at CG
    rw [← hA] at CL
    rw [← hXe, ← hYe, ← hA]
    unfold fracV at C1
    unfold frV at C1 CG
    unfold fracV
    clear h lX lY cX cY hXe hYe hA lx ly
    go_enter Tryd.func23, Tryd.ntmps23
    go_wp2_with fail
    rw [← hw0]
    refine Calls.mono C1.out ?_
    rintro e w1 ⟨rfl, b1⟩
    have k21 := boxc_keep k2 b1
    have B1 := B0.trans (b1.mono B0.size)
    have B2 : Below w.heap.size w (w1.alloc (.cells #[.slice r X.length cr, .slice s Y.length cs, .bool b] 45)) := B1.alloc B1.size _
    have k22 := boxc_alloc k21 (.cells #[.slice r X.length cr, .slice s Y.length cs, .bool b] 45)
    have kx := boxc_new w1 45 #[.slice r X.length cr, .slice s Y.length cs, .bool b]
    clear hw0 b1 B0 k2 C1
    go_wp2_with fail
    refine Calls.mono (CF.out _) ?_
    rintro e w2 ⟨rfl, b2⟩
    have k23 := boxc_keep k22 b2
    have B3 := B2.trans (b2.mono B2.size)
    obtain ⟨c0, c1, c2, _, _⟩ := boxc3 (boxc_keep kx b2)
    clear b2 B1 B2 k21 k22 kx CF
    go_wp2_with fail
    refine Calls.mono (CG.out _ (hX.keep B3) (hY.keep B3)) ?_
    rintro e w3 ⟨v3, e3, rfl, T3, b3⟩
    have k24 := boxc_keep k23 b3
    have B4 := B3.trans (b3.mono B3.size)
    have h4 := hh.keep B4 hh.pos
    clear b3 B3 k23 CG c0 c1 c2 hX hY
    go_wp2_with fail
    refine Calls.mono (CL.out _ _ _ h4 T3.tell) ?_
    rintro e w4 ⟨r4, c4, s4, e4, rfl, o4, p4, ap4, b4⟩
    obtain ⟨d0, d1, d2, df, dn⟩ := boxc3 (boxc_keep k24 b4)
    have H : Hid (RetF w _ _ A) := retF_fin o4 p4 ap4 (B4.trans (b4.mono B4.size)) (Nat.le_succ w.heap.size) (boxc_lt k24) (.bool A.b) (.slice r4 A.X.length c4) (.slice s4 A.Y.length e4)
    clear CL b4 B4 k24 o4 p4 ap4 T3 h4 hh
    unfold fracV at H ⊢
    go_wp2
    refine ⟨rfl, .tuple #[.agg #[.bool A.b, .slice r4 A.X.length c4, .slice s4 A.Y.length e4], .bool A.ok], ?_, H.out⟩
    simp [results, Tryd.f23, go_sem, d0, d1, d2]

set_option maxRecDepth 20000 in
set_option maxHeartbeats 2000000 in
theorem specRoot_any (b : Bool) (r s : Option Addr) (cr cs : Nat) (X Y : List Int) (w : World) (hX : Sl w r X) (hY : Sl w s Y) (lX : X.length ≤ 1048576) (lY : Y.length ≤ 1048576) (cX : X.length ≤ cr) (cY : Y.length ≤ cs) :
    Calls Tryd.prog 22 #[fracV b r X.length cr s Y.length cs] w fun e w' => RetS w e w' (op1A rootA b X Y) := by
  obtain ⟨w0, hw0⟩ : ∃ w0, w0 = (w.alloc (.cells #[.bool b, .slice r X.length cr, .slice s Y.length cs] 26)).alloc (.cells #[.bool false, .slice none 0 0, .slice none 0 0] 26) := ⟨_, rfl⟩
  have B0 : Below w.heap.size w w0 := by rw [hw0]; exact ((Below.refl _ w).alloc (Nat.le_refl _) _).alloc (by simp) _
  have k1 : BoxC w0 w.heap.size 26 #[.bool b, .slice r X.length cr, .slice s Y.length cs] := by rw [hw0]; exact boxc_alloc (boxc_new _ _ _) _
  have k2 : BoxC w0 (w.heap.size + 1) 26 #[.bool false, .slice none 0 0, .slice none 0 0] := by
    rw [hw0]
    have h := boxc_new (w.alloc (.cells #[.bool b, .slice r X.length cr, .slice s Y.length cs] 26)) 26 #[.bool false, .slice none 0 0, .slice none 0 0]
    rw [World.size_alloc] at h
    exact h
  have C1 : Hid _ := specFok_any b r s cr cs X Y w0 (hX.keep B0) (hY.keep B0) lX lY
  cases h : fokB b X Y with
  | false =>
    rw [op1A_no h]
    rw [h] at C1
    unfold fracV at C1 ⊢
    clear h lX lY hX hY
    go_enter Tryd.func22, Tryd.ntmps22
    go_wp2_with fail
    rw [← hw0]
    refine Calls.mono C1.out ?_
    rintro e w1 ⟨rfl, b1⟩
    obtain ⟨d0, d1, d2, df, dn⟩ := boxc3 (boxc_keep k2 b1)
    have HB : Hid (Below w.heap.size w w1) := B0.trans (b1.mono B0.size)
    clear hw0 b1 B0 k1 k2 C1
    go_wp2
    refine ⟨rfl, .tuple #[.agg #[.bool false, .slice none 0 0, .slice none 0 0], .bool false], ?_, retS_no (below_set3 HB.out (by omega) _ _ _)⟩
    simp [results, Tryd.f22, go_sem, d0, d1, d2]
  | true =>
    rw [h] at C1
    obtain ⟨x, y, rfl, rfl, lx, ly, _⟩ := fok_parts h
    rw [op1A_yes h]
    have CX : Hid (∀ W, Sl W r (dgs x) → Calls Tryd.prog 47 #[.slice r (dgs x).length cr] W fun e w' => ∃ a c v, e = .returned (.tuple #[.slice a (rtL (dgs x)).length c, .bool (rtX (dgs x)), v]) ∧ OwnI w' W.heap.size a c (rtL (dgs x)) ∧ Below W.heap.size W w') := fun W h => (specRoot_op r cr (dgs x) W h lX cX).mono fun e w' ⟨r1, c1, h1, h2, h3⟩ => ⟨r1, c1, _, h1, h2, h3⟩
    have CY : Hid (∀ W, Sl W s (dgs y) → Calls Tryd.prog 47 #[.slice s (dgs y).length cs] W fun e w' => ∃ a c v, e = .returned (.tuple #[.slice a (rtL (dgs y)).length c, .bool (rtX (dgs y)), v]) ∧ OwnI w' W.heap.size a c (rtL (dgs y)) ∧ Below W.heap.size W w') := fun W h => (specRoot_op s cs (dgs y) W h lY cY).mono fun e w' ⟨r1, c1, h1, h2, h3⟩ => ⟨r1, c1, _, h1, h2, h3⟩
    have hc := rootA_cases b x y
    obtain ⟨A, hA⟩ : ∃ A, A = rootA b x y := ⟨_, rfl⟩
    obtain ⟨X, hXe⟩ : ∃ X, X = dgs x := ⟨_, rfl⟩
    obtain ⟨Y, hYe⟩ : ∃ Y, Y = dgs y := ⟨_, rfl⟩
    rw [← hA, ← hXe, ← hYe] at hc
    rw [← hXe] at CX hX
    rw [← hYe] at CY hY
    rw [← hXe, ← hYe] at C1 hw0 k1
    rw [← hA, ← hXe, ← hYe]
    obtain ⟨P, hP⟩ : ∃ P, P = rtL X := ⟨_, rfl⟩
    obtain ⟨Q, hQ⟩ : ∃ Q, Q = rtL Y := ⟨_, rfl⟩
    obtain ⟨eX, heX⟩ : ∃ eX, eX = rtX X := ⟨_, rfl⟩
    obtain ⟨eY, heY⟩ : ∃ eY, eY = rtX Y := ⟨_, rfl⟩
    rw [← hP, ← hQ, ← heX, ← heY] at hc
    rw [← hP, ← heX] at CX
    rw [← hQ, ← heY] at CY
    clear hA hXe hYe hP hQ heX heY lx ly lX lY cX cY h
    unfold fracV at C1 ⊢
    rcases hc with ⟨rfl, rfl⟩ | hc
    · go_enter Tryd.func22, Tryd.ntmps22
      go_wp2_with fail
      rw [← hw0]
      refine Calls.mono C1.out ?_
      rintro e w1 ⟨rfl, b1⟩
      obtain ⟨p0, p1, p2, _, _⟩ := boxc3 (boxc_keep k1 b1)
      obtain ⟨d0, d1, d2, df, dn⟩ := boxc3 (boxc_keep k2 b1)
      have HB : Hid (Below w.heap.size w w1) := B0.trans (b1.mono B0.size)
      clear hw0 b1 B0 k1 k2 C1 CX CY hX hY
      go_wp2
      refine ⟨rfl, .tuple #[.agg #[.bool false, .slice none 0 0, .slice none 0 0], .bool false], ?_, retS_no (below_set3 HB.out (by omega) _ _ _)⟩
      simp [results, Tryd.f22, go_sem, d0, d1, d2]
    · rcases hc with ⟨rfl, rfl, rfl⟩ | ⟨rfl, rfl, rfl, rfl⟩ | ⟨rfl, rfl, rfl, rfl⟩
      all_goals
        go_enter Tryd.func22, Tryd.ntmps22
        go_wp2_with fail
        rw [← hw0]
        refine Calls.mono C1.out ?_
        rintro e w1 ⟨rfl, b1⟩
        have k11 := boxc_keep k1 b1
        have k21 := boxc_keep k2 b1
        have B1 := B0.trans (b1.mono B0.size)
        obtain ⟨p0, p1, p2, _, _⟩ := boxc3 k11
        clear hw0 b1 B0 k1 k2 C1
        go_wp2_with fail
        refine Calls.mono (CX.out _ (hX.keep B1)) ?_
        rintro e w2 ⟨a2, c2, v2, rfl, o2, b2⟩
        have k12 := boxc_keep k11 b2
        have k22 := boxc_keep k21 b2
        have B2 := B1.trans (b2.mono B1.size)
        have z1 := boxc_lt k21
        clear p0 p1 p2 b2 k11 k21 B1 CX hX
        obtain ⟨p0, p1, p2, _, _⟩ := boxc3 k12
        go_wp2_with fail
        refine Calls.mono (CY.out _ (hY.keep B2)) ?_
        rintro e w3 ⟨a3, c3, v3, rfl, o3, b3⟩
        obtain ⟨d0, d1, d2, df, dn⟩ := boxc3 (boxc_keep k22 b3)
        have z2 := boxc_lt k22
        have HB : Hid (Below w.heap.size w w3) := B2.trans (b3.mono B2.size)
        have HO : Hid (OwnI w3 w1.heap.size a2 c2 P ∧ OwnI w3 w2.heap.size a3 c3 Q) := ⟨o2.keep b3, o3⟩
        clear p0 p1 p2 b3 k12 k22 B2 CY hY o2 o3
        go_wp2
        first
          | (refine ⟨rfl, .tuple #[.agg #[.bool false, .slice none 0 0, .slice none 0 0], .bool false], ?_, retS_no (below_set3 HB.out (by omega) _ _ _)⟩; simp [results, Tryd.f22, go_sem, d0, d1, d2]; done)
          | (refine ⟨rfl, .tuple #[.agg #[.bool false, .slice a2 P.length c2, .slice a3 Q.length c3], .bool true], ?_, retS_fin (A := ⟨false, P, Q, true⟩) HO.out.1 HO.out.2 HB.out (Nat.le_succ w.heap.size) z1 z2 _ _ _⟩; simp [results, Tryd.f22, go_sem, d0, d1, d2]; done)
end Go.Proofs.YthokphoojmpajagDoor
