/- The contracts of impl.FracPow and spec.FracPow. -/
import Derived.Test.YthokphoojmpajagDoorGFr8
import Derived.Test.YthokphoojmpajagDoorGSp
import Derived.Test.YthokphoojmpajagDoorNatPow
namespace Go.Proofs.YthokphoojmpajagDoor
open Go.RowKit Go.Proofs.Pin

/-- The power, if both powers are there. -/
def powA (n : Int) (b : Bool) (x y : Nat) : FAns := if ansB (powO (dgs x) n) = true ∧ ansB (powO (dgs y) n) = true then ⟨b && (n % 2 == 1), ansL (powO (dgs x) n), ansL (powO (dgs y) n), true⟩ else noA
theorem powA_len (n : Int) (b : Bool) (X Y : List Int) : (op1A (powA n) b X Y).X.length ≤ 256 ∧ (op1A (powA n) b X Y).Y.length ≤ 256 := by
  unfold op1A
  split
  · unfold powA
    split
    · exact ⟨ansL_len _, ansL_len _⟩
    · exact ⟨Nat.zero_le _, Nat.zero_le _⟩
  · exact ⟨Nat.zero_le _, Nat.zero_le _⟩
theorem powO_in {xs : List Int} {n : Int} (h : ansB (powO xs n) = true) : 0 ≤ n ∧ n ≤ 64 := by
  by_cases hn : 0 ≤ n ∧ n ≤ 64
  · exact hn
  · rw [powO_no2 hn] at h; cases h
theorem powA_cases (n : Int) (b : Bool) (x y : Nat) : (ansB (powO (dgs x) n) = false ∧ powA n b x y = noA) ∨ (ansB (powO (dgs x) n) = true ∧ ansB (powO (dgs y) n) = false ∧ powA n b x y = noA) ∨ (ansB (powO (dgs x) n) = true ∧ ansB (powO (dgs y) n) = true ∧ b = false ∧ powA n b x y = ⟨false, ansL (powO (dgs x) n), ansL (powO (dgs y) n), true⟩) ∨ (ansB (powO (dgs x) n) = true ∧ ansB (powO (dgs y) n) = true ∧ b = true ∧ powA n b x y = ⟨(n % 2 == 1), ansL (powO (dgs x) n), ansL (powO (dgs y) n), true⟩) := by
  unfold powA
  cases h1 : ansB (powO (dgs x) n) with
  | false => exact .inl ⟨rfl, by simp⟩
  | true =>
    cases h2 : ansB (powO (dgs y) n) with
    | false => exact .inr (.inl ⟨rfl, rfl, by simp⟩)
    | true =>
      cases b with
      | false => exact .inr (.inr (.inl ⟨rfl, rfl, rfl, by simp⟩))
      | true => exact .inr (.inr (.inr ⟨rfl, rfl, rfl, by simp⟩))
set_option maxRecDepth 20000 in
set_option maxHeartbeats 2000000 in
theorem frPow_tell (r s : Option Addr) (cr cs x y : Nat) (n : Int) (b : Bool) (w : World) (hx : Sl w r (dgs x)) (hy : Sl w s (dgs y)) (lx : (dgs x).length ≤ 256) (ly : (dgs y).length ≤ 256) :
    Calls Tryd.prog 46 #[frV r (dgs x).length cr s (dgs y).length cs b, .int .i64 n] w fun e w' => ∃ v ev, e = .returned (.tuple #[v, ev]) ∧ TellO w' w.heap.size v ev (powA n b x y) ∧ Below w.heap.size w w' := by
  have C1 : Hid (∀ W, Sl W r (dgs x) → Calls Tryd.prog 64 #[.slice r (dgs x).length cr, .int .i64 n] W fun e w' => ∃ a c, e = .returned (.tuple #[.slice a (ansL (powO (dgs x) n)).length c, .bool (ansB (powO (dgs x) n))]) ∧ OwnI w' W.heap.size a c (ansL (powO (dgs x) n)) ∧ Below W.heap.size W w') := fun W h => implPow_op r cr (dgs x) n W h (by omega)
  have C2 : Hid (∀ W, Sl W s (dgs y) → Calls Tryd.prog 64 #[.slice s (dgs y).length cs, .int .i64 n] W fun e w' => ∃ a c, e = .returned (.tuple #[.slice a (ansL (powO (dgs y) n)).length c, .bool (ansB (powO (dgs y) n))]) ∧ OwnI w' W.heap.size a c (ansL (powO (dgs y) n)) ∧ Below W.heap.size W w') := fun W h => implPow_op s cs (dgs y) n W h (by omega)
  have hin : Hid (ansB (powO (dgs x) n) = true → 0 ≤ n ∧ n ≤ 64) := fun h => powO_in h
  have hc := powA_cases n b x y
  have l1 := ansL_len (powO (dgs x) n)
  have l2 := ansL_len (powO (dgs y) n)
  obtain ⟨A, hA⟩ : ∃ A, A = powA n b x y := ⟨_, rfl⟩
  obtain ⟨P, hP⟩ : ∃ P, P = ansL (powO (dgs x) n) := ⟨_, rfl⟩
  obtain ⟨Q, hQ⟩ : ∃ Q, Q = ansL (powO (dgs y) n) := ⟨_, rfl⟩
  obtain ⟨eX, heX⟩ : ∃ eX, eX = ansB (powO (dgs x) n) := ⟨_, rfl⟩
  obtain ⟨eY, heY⟩ : ∃ eY, eY = ansB (powO (dgs y) n) := ⟨_, rfl⟩
  rw [← hA, ← hP, ← hQ, ← heX, ← heY] at hc
  rw [← heX] at hin
  rw [← hP, ← heX] at C1
  rw [← hQ, ← heY] at C2
  rw [← hP] at l1
  rw [← hQ] at l2
  obtain ⟨X, hXe⟩ : ∃ X, X = dgs x := ⟨_, rfl⟩
  obtain ⟨Y, hYe⟩ : ∃ Y, Y = dgs y := ⟨_, rfl⟩
  rw [← hXe] at C1 hx
  rw [← hYe] at C2 hy
  rw [← hA, ← hXe, ← hYe]
  clear hA hXe hYe hP hQ heX heY lx ly
  unfold frV
  obtain ⟨w0, hw0⟩ : ∃ w0, w0 = (w.alloc (.cells #[.slice r X.length cr, .slice s Y.length cs, .bool b] 45)).alloc (.cells #[.slice none 0 0, .slice none 0 0, .bool false] 45) := ⟨_, rfl⟩
  have B0 : Below w.heap.size w w0 := by rw [hw0]; exact ((Below.refl _ w).alloc (Nat.le_refl _) _).alloc (by simp) _
  have k1 : BoxC w0 w.heap.size 45 #[.slice r X.length cr, .slice s Y.length cs, .bool b] := by rw [hw0]; exact boxc_alloc (boxc_new _ _ _) _
  have k2 : BoxC w0 (w.heap.size + 1) 45 #[.slice none 0 0, .slice none 0 0, .bool false] := by
    rw [hw0]
    have h := boxc_new (w.alloc (.cells #[.slice r X.length cr, .slice s Y.length cs, .bool b] 45)) 45 #[.slice none 0 0, .slice none 0 0, .bool false]
    rw [World.size_alloc] at h
    exact h
  rcases hc with ⟨rfl, rfl⟩ | ⟨rfl, rfl, rfl⟩ | ⟨rfl, rfl, rfl, rfl⟩ | ⟨rfl, rfl, rfl, rfl⟩
  all_goals
    (try (have hin2 := hin.out rfl; have hn0 := hin2.1; have hn1 := hin2.2))
    clear hin
    go_enter Tryd.func46, Tryd.ntmps46
    go_wp2_with fail
    rw [← hw0]
    refine Calls.mono (C1.out _ (hx.keep B0)) ?_
    rintro e w1 ⟨a1, c1, rfl, o1, b1⟩
    have k11 := boxc_keep k1 b1
    have k21 := boxc_keep k2 b1
    have B1 := B0.trans (b1.mono B0.size)
    have z0 := boxc_lt k2
    obtain ⟨p0, p1, p2, _, _⟩ := boxc3 k11
    clear hw0 b1 k1 k2 C1
    go_wp2_with fail
    refine Calls.mono (C2.out _ (hy.keep B1)) ?_
    rintro e w2 ⟨a2, c2, rfl, o2, b2⟩
    have k12 := boxc_keep k11 b2
    have k22 := boxc_keep k21 b2
    have z1 := boxc_lt k21
    have HB : Hid (Below w.heap.size w w2) := B1.trans (b2.mono B1.size)
    have HO : Hid (OwnI w2 w0.heap.size a1 c1 P ∧ OwnI w2 w1.heap.size a2 c2 Q) := ⟨o1.keep b2, o2⟩
    have y0 := B0.size
    have y1 := B1.size
    clear p0 p1 p2
    obtain ⟨p0, p1, p2, _, _⟩ := boxc3 k12
    obtain ⟨d0, d1, d2, df, dn⟩ := boxc3 k22
    clear C2 k11 k21 k12 k22 b2 o1 o2 B0 B1 hx hy
    go_wp2
    first
      | (refine ⟨rfl, .tuple #[.agg #[.slice none 0 0, .slice none 0 0, .bool false], .iface 72 (.string ⟨#[97, 32, 112, 111, 119, 101, 114, 32, 105, 115, 32, 111, 117, 116, 32, 111, 102, 32, 98, 111, 117, 110, 100, 115, 32, 111, 114, 32, 116, 111, 111, 32, 108, 111, 110, 103]⟩)], ?_, _, _, rfl, .inr ⟨_, rfl, rfl, rfl⟩, below_set3 HB.out (Nat.le_succ _) _ _ _⟩; simp [results, Tryd.f46, go_sem, d0, d1, d2]; done)
      | (refine ⟨rfl, .tuple #[.agg #[.slice a1 P.length c1, .slice a2 Q.length c2, .bool false], .nilIface], ?_, _, _, rfl, .inl ⟨a1, c1, a2, c2, rfl, rfl, (own_far HO.out.1 (gr_set3 _ _ _ _ _) z0).mono (by omega), (own_far HO.out.2 (gr_set3 _ _ _ _ _) z1).mono (by omega), rfl, by show P.length ≤ 1048576; omega, by show Q.length ≤ 1048576; omega⟩, below_set3 HB.out (Nat.le_succ _) _ _ _⟩; simp [results, Tryd.f46, go_sem, d0, d1, d2]; done)
      | (refine ⟨rfl, .tuple #[.agg #[.slice a1 P.length c1, .slice a2 Q.length c2, .bool (n % 2 == 1)], .nilIface], ?_, _, _, rfl, .inl ⟨a1, c1, a2, c2, rfl, rfl, (own_far HO.out.1 (gr_set3 _ _ _ _ _) z0).mono (by omega), (own_far HO.out.2 (gr_set3 _ _ _ _ _) z1).mono (by omega), rfl, by show P.length ≤ 1048576; omega, by show Q.length ≤ 1048576; omega⟩, below_set3 HB.out (Nat.le_succ _) _ _ _⟩; simp [results, Tryd.f46, go_sem, d0, d1, d2]; done)

set_option maxRecDepth 20000 in
set_option maxHeartbeats 1000000 in
theorem implPow_any (n : Int) (b : Bool) (r s : Option Addr) (cr cs : Nat) (X Y : List Int) (w : World) (hh : Hdl w) (hX : Sl w r X) (hY : Sl w s Y) (lX : X.length ≤ 1048576) (lY : Y.length ≤ 1048576) (cX : X.length ≤ cr) (cY : Y.length ≤ cs) (_h0 : -9223372036854775808 ≤ n) (_h1 : n ≤ 9223372036854775807) :
    Calls Tryd.prog 21 #[fracV b r X.length cr s Y.length cs, .int .i64 n] w fun e w' => RetF w e w' (op1A (powA n) b X Y) := by
  obtain ⟨w0, hw0⟩ : ∃ w0, w0 = (w.alloc (.cells #[.bool b, .slice r X.length cr, .slice s Y.length cs] 26)).alloc (.cells #[.bool false, .slice none 0 0, .slice none 0 0] 26) := ⟨_, rfl⟩
  have B0 : Below w.heap.size w w0 := by rw [hw0]; exact ((Below.refl _ w).alloc (Nat.le_refl _) _).alloc (by simp) _
  have k2 : BoxC w0 (w.heap.size + 1) 26 #[.bool false, .slice none 0 0, .slice none 0 0] := by
    rw [hw0]
    have h := boxc_new (w.alloc (.cells #[.bool b, .slice r X.length cr, .slice s Y.length cs] 26)) 26 #[.bool false, .slice none 0 0, .slice none 0 0]
    rw [World.size_alloc] at h
    exact h
  cases h : fokB b X Y with
  | false =>
    rw [op1A_no h]
    have C1 : Hid _ := taken_no b r s cr cs X Y w0 (hX.keep B0) (hY.keep B0) lX lY cX cY h
    have CF : Hid (∀ t W, Hdl W → Calls Tryd.prog 32 #[flt t] W fun e w' => e = .returned (.bool true) ∧ Below W.heap.size W w') := fun t W h => isFault_hit t W h
    unfold fracV fr0 flt at C1
    unfold flt at CF
    unfold frV at C1
    unfold fracV
    clear h lX lY cX cY hX hY
    go_enter Tryd.func21, Tryd.ntmps21
    go_wp2_with fail
    rw [← hw0]
    refine Calls.mono C1.out ?_
    rintro e w1 ⟨⟨t, rfl⟩, b1⟩
    have k21 := boxc_keep k2 b1
    have B1 := B0.trans (b1.mono B0.size)
    have B2 : Below w.heap.size w (w1.alloc (.cells #[.slice none 0 0, .slice none 0 0, .bool false] 45)) := B1.alloc B1.size _
    have h2 := hh.keep B2 hh.pos
    have k22 := boxc_alloc k21 (.cells #[.slice none 0 0, .slice none 0 0, .bool false] 45)
    clear hw0 b1 B0 k2 C1
    go_wp2_with fail
    refine Calls.mono (CF.out t _ h2) ?_
    rintro e w2 ⟨rfl, b2⟩
    obtain ⟨d0, d1, d2, df, dn⟩ := boxc3 (boxc_keep k22 b2)
    have HB : Hid (Below w.heap.size w w2) := B2.trans (b2.mono B2.size)
    clear CF h2 b2 B1 B2 k21 k22 hh
    go_wp2
    refine ⟨rfl, .tuple #[.agg #[.bool false, .slice none 0 0, .slice none 0 0], .bool false], ?_, retF_no (below_set3 HB.out (by omega) _ _ _)⟩
    simp [results, Tryd.f21, go_sem, d0, d1, d2]
  | true =>
    have C1 : Hid _ := taken_yes b r s cr cs X Y w0 (hX.keep B0) (hY.keep B0) lX lY cX cY h
    obtain ⟨x, y, rfl, rfl, lx, ly, _⟩ := fok_parts h
    rw [op1A_yes h]
    have CG : Hid (∀ W, Sl W r (dgs x) → Sl W s (dgs y) → Calls Tryd.prog 46 #[frV r (dgs x).length cr s (dgs y).length cs b, .int .i64 n] W fun e w' => ∃ v ev, e = .returned (.tuple #[v, ev]) ∧ TellO w' W.heap.size v ev (powA n b x y) ∧ Below W.heap.size W w') := fun W h1 h2 => frPow_tell r s cr cs x y n b W h1 h2 lx ly
    have CL : Hid (∀ W v ev, Hdl W → Tell W v ev (powA n b x y) → Calls Tryd.prog 33 #[v, ev] W fun e w' => RetF W e w' (powA n b x y)) := fun W v ev h1 h2 => told_tell v ev _ W h1 h2
    have CF : Hid (∀ W, Calls Tryd.prog 32 #[.nilIface] W fun e w' => e = .returned (.bool false) ∧ Below W.heap.size W w') := fun W => isFault_nil W
    obtain ⟨A, hA⟩ : ∃ A, A = powA n b x y := ⟨_, rfl⟩
    obtain ⟨X, hXe⟩ : ∃ X, X = dgs x := ⟨_, rfl⟩
    obtain ⟨Y, hYe⟩ : ∃ Y, Y = dgs y := ⟨_, rfl⟩
    rw [← hXe] at hX
    rw [← hYe] at hY
    rw [← hXe, ← hYe] at C1 hw0
    rw [← hXe, ← hYe, ← hA] at CG
    rw [← hA] at CL
    rw [← hXe, ← hYe, ← hA]
    unfold fracV at C1
    unfold frV at C1 CG
    unfold fracV
    clear h lX lY cX cY hXe hYe hA lx ly
    go_enter Tryd.func21, Tryd.ntmps21
    go_wp2_with fail
    rw [← hw0]
    refine Calls.mono C1.out ?_
    rintro e w1 ⟨rfl, b1⟩
    have k21 := boxc_keep k2 b1
    have B1 := B0.trans (b1.mono B0.size)
    have B2 : Below w.heap.size w (w1.alloc (.cells #[.slice r X.length cr, .slice s Y.length cs, .bool b] 45)) := B1.alloc B1.size _
    have k22 := boxc_alloc k21 (.cells #[.slice r X.length cr, .slice s Y.length cs, .bool b] 45)
    have kx := boxc_new w1 45 #[.slice r X.length cr, .slice s Y.length cs, .bool b]
    clear hw0 b1 B0 k2 C1
    go_wp2_with fail
    refine Calls.mono (CF.out _) ?_
    rintro e w2 ⟨rfl, b2⟩
    have k23 := boxc_keep k22 b2
    have B3 := B2.trans (b2.mono B2.size)
    obtain ⟨c0, c1, c2, _, _⟩ := boxc3 (boxc_keep kx b2)
    clear b2 B1 B2 k21 k22 kx CF
    go_wp2_with fail
    refine Calls.mono (CG.out _ (hX.keep B3) (hY.keep B3)) ?_
    rintro e w3 ⟨v3, e3, rfl, T3, b3⟩
    have k24 := boxc_keep k23 b3
    have B4 := B3.trans (b3.mono B3.size)
    have h4 := hh.keep B4 hh.pos
    clear b3 B3 k23 CG c0 c1 c2 hX hY
    go_wp2_with fail
    refine Calls.mono (CL.out _ _ _ h4 T3.tell) ?_
    rintro e w4 ⟨r4, c4, s4, e4, rfl, o4, p4, ap4, b4⟩
    obtain ⟨d0, d1, d2, df, dn⟩ := boxc3 (boxc_keep k24 b4)
    have H : Hid (RetF w _ _ A) := retF_fin o4 p4 ap4 (B4.trans (b4.mono B4.size)) (Nat.le_succ w.heap.size) (boxc_lt k24) (.bool A.b) (.slice r4 A.X.length c4) (.slice s4 A.Y.length e4)
    clear CL b4 B4 k24 o4 p4 ap4 T3 h4 hh
    unfold fracV at H ⊢
    go_wp2
    refine ⟨rfl, .tuple #[.agg #[.bool A.b, .slice r4 A.X.length c4, .slice s4 A.Y.length e4], .bool A.ok], ?_, H.out⟩
    simp [results, Tryd.f21, go_sem, d0, d1, d2]

set_option maxRecDepth 20000 in
set_option maxHeartbeats 2000000 in
theorem specPow_any (n : Int) (b : Bool) (r s : Option Addr) (cr cs : Nat) (X Y : List Int) (w : World) (hX : Sl w r X) (hY : Sl w s Y) (lX : X.length ≤ 1048576) (lY : Y.length ≤ 1048576) (_h0 : -9223372036854775808 ≤ n) (_h1 : n ≤ 9223372036854775807) :
    Calls Tryd.prog 20 #[fracV b r X.length cr s Y.length cs, .int .i64 n] w fun e w' => RetS w e w' (op1A (powA n) b X Y) := by
  obtain ⟨w0, hw0⟩ : ∃ w0, w0 = (w.alloc (.cells #[.bool b, .slice r X.length cr, .slice s Y.length cs] 26)).alloc (.cells #[.bool false, .slice none 0 0, .slice none 0 0] 26) := ⟨_, rfl⟩
  have B0 : Below w.heap.size w w0 := by rw [hw0]; exact ((Below.refl _ w).alloc (Nat.le_refl _) _).alloc (by simp) _
  have k1 : BoxC w0 w.heap.size 26 #[.bool b, .slice r X.length cr, .slice s Y.length cs] := by rw [hw0]; exact boxc_alloc (boxc_new _ _ _) _
  have k2 : BoxC w0 (w.heap.size + 1) 26 #[.bool false, .slice none 0 0, .slice none 0 0] := by
    rw [hw0]
    have h := boxc_new (w.alloc (.cells #[.bool b, .slice r X.length cr, .slice s Y.length cs] 26)) 26 #[.bool false, .slice none 0 0, .slice none 0 0]
    rw [World.size_alloc] at h
    exact h
  have C1 : Hid _ := specFok_any b r s cr cs X Y w0 (hX.keep B0) (hY.keep B0) lX lY
  cases h : fokB b X Y with
  | false =>
    rw [op1A_no h]
    rw [h] at C1
    unfold fracV at C1 ⊢
    clear h lX lY hX hY
    go_enter Tryd.func20, Tryd.ntmps20
    go_wp2_with fail
    rw [← hw0]
    refine Calls.mono C1.out ?_
    rintro e w1 ⟨rfl, b1⟩
    obtain ⟨d0, d1, d2, df, dn⟩ := boxc3 (boxc_keep k2 b1)
    have HB : Hid (Below w.heap.size w w1) := B0.trans (b1.mono B0.size)
    clear hw0 b1 B0 k1 k2 C1
    go_wp2
    refine ⟨rfl, .tuple #[.agg #[.bool false, .slice none 0 0, .slice none 0 0], .bool false], ?_, retS_no (below_set3 HB.out (by omega) _ _ _)⟩
    simp [results, Tryd.f20, go_sem, d0, d1, d2]
  | true =>
    rw [h] at C1
    obtain ⟨x, y, rfl, rfl, lx, ly, _⟩ := fok_parts h
    rw [op1A_yes h]
    have CX : Hid (∀ W, Sl W r (dgs x) → Calls Tryd.prog 44 #[.slice r (dgs x).length cr, .int .i64 n] W fun e w' => ∃ a c, e = .returned (.tuple #[.slice a (ansL (powO (dgs x) n)).length c, .bool (ansB (powO (dgs x) n))]) ∧ OwnI w' W.heap.size a c (ansL (powO (dgs x) n)) ∧ Below W.heap.size W w') := fun W h => specPow_op r cr (dgs x) n W h (by omega)
    have CY : Hid (∀ W, Sl W s (dgs y) → Calls Tryd.prog 44 #[.slice s (dgs y).length cs, .int .i64 n] W fun e w' => ∃ a c, e = .returned (.tuple #[.slice a (ansL (powO (dgs y) n)).length c, .bool (ansB (powO (dgs y) n))]) ∧ OwnI w' W.heap.size a c (ansL (powO (dgs y) n)) ∧ Below W.heap.size W w') := fun W h => specPow_op s cs (dgs y) n W h (by omega)
    have hin : Hid (¬ (0 ≤ n ∧ n ≤ 64) → powA n b x y = noA) := fun h => by
      unfold powA
      rw [powO_no2 h]
      simp [ansB]
    have hc := powA_cases n b x y
    obtain ⟨A, hA⟩ : ∃ A, A = powA n b x y := ⟨_, rfl⟩
    obtain ⟨P, hP⟩ : ∃ P, P = ansL (powO (dgs x) n) := ⟨_, rfl⟩
    obtain ⟨Q, hQ⟩ : ∃ Q, Q = ansL (powO (dgs y) n) := ⟨_, rfl⟩
    obtain ⟨eX, heX⟩ : ∃ eX, eX = ansB (powO (dgs x) n) := ⟨_, rfl⟩
    obtain ⟨eY, heY⟩ : ∃ eY, eY = ansB (powO (dgs y) n) := ⟨_, rfl⟩
    rw [← hA, ← hP, ← hQ, ← heX, ← heY] at hc
    rw [← hA] at hin
    rw [← hP, ← heX] at CX
    rw [← hQ, ← heY] at CY
    obtain ⟨X, hXe⟩ : ∃ X, X = dgs x := ⟨_, rfl⟩
    obtain ⟨Y, hYe⟩ : ∃ Y, Y = dgs y := ⟨_, rfl⟩
    rw [← hXe] at CX hX
    rw [← hYe] at CY hY
    rw [← hXe, ← hYe] at C1 hw0 k1
    rw [← hA, ← hXe, ← hYe]
    clear hA hXe hYe hP hQ heX heY lx ly lX lY h
    unfold fracV at C1 ⊢
    by_cases hn : 0 ≤ n ∧ n ≤ 64
    case neg =>
      have hA0 := hin.out hn
      subst hA0
      have hn3 : n < 0 ∨ (¬ n < 0 ∧ 64 < n) := by omega
      clear hc hin CX CY hX hY hn
      rcases hn3 with h3 | ⟨h3, h4⟩
      all_goals
        go_enter Tryd.func20, Tryd.ntmps20
        go_wp2_with fail
        rw [← hw0]
        refine Calls.mono C1.out ?_
        rintro e w1 ⟨rfl, b1⟩
        obtain ⟨d0, d1, d2, df, dn⟩ := boxc3 (boxc_keep k2 b1)
        have HB : Hid (Below w.heap.size w w1) := B0.trans (b1.mono B0.size)
        clear hw0 b1 B0 k1 k2 C1
        go_wp2
        refine ⟨rfl, .tuple #[.agg #[.bool false, .slice none 0 0, .slice none 0 0], .bool false], ?_, retS_no (below_set3 HB.out (by omega) _ _ _)⟩
        simp [results, Tryd.f20, go_sem, d0, d1, d2]
    obtain ⟨hn0, hn1⟩ := hn
    have hn2 : ¬ n < 0 := by omega
    have hn3 : ¬ 64 < n := by omega
    clear hin
    rcases hc with ⟨rfl, rfl⟩ | ⟨rfl, rfl, rfl⟩ | ⟨rfl, rfl, rfl, rfl⟩ | ⟨rfl, rfl, rfl, rfl⟩
    all_goals
      go_enter Tryd.func20, Tryd.ntmps20
      go_wp2_with fail
      rw [← hw0]
      refine Calls.mono C1.out ?_
      rintro e w1 ⟨rfl, b1⟩
      have k11 := boxc_keep k1 b1
      have k21 := boxc_keep k2 b1
      have B1 := B0.trans (b1.mono B0.size)
      obtain ⟨p0, p1, p2, _, _⟩ := boxc3 k11
      clear hw0 b1 B0 k1 k2 C1
      go_wp2_with fail
      refine Calls.mono (CX.out _ (hX.keep B1)) ?_
      rintro e w2 ⟨a2, c2, rfl, o2, b2⟩
      have k12 := boxc_keep k11 b2
      have k22 := boxc_keep k21 b2
      have B2 := B1.trans (b2.mono B1.size)
      have z1 := boxc_lt k21
      clear p0 p1 p2 b2 k11 k21 B1 CX hX
      obtain ⟨p0, p1, p2, _, _⟩ := boxc3 k12
      go_wp2_with fail
      refine Calls.mono (CY.out _ (hY.keep B2)) ?_
      rintro e w3 ⟨a3, c3, rfl, o3, b3⟩
      obtain ⟨d0, d1, d2, df, dn⟩ := boxc3 (boxc_keep k22 b3)
      have z2 := boxc_lt k22
      have HB : Hid (Below w.heap.size w w3) := B2.trans (b3.mono B2.size)
      have HO : Hid (OwnI w3 w1.heap.size a2 c2 P ∧ OwnI w3 w2.heap.size a3 c3 Q) := ⟨o2.keep b3, o3⟩
      obtain ⟨f0, f1, f2, _, _⟩ := boxc3 (boxc_keep k12 b3)
      clear p0 p1 p2 b3 k12 k22 B2 CY hY o2 o3
      go_wp2
      first
        | (refine ⟨rfl, .tuple #[.agg #[.bool false, .slice none 0 0, .slice none 0 0], .bool false], ?_, retS_no (below_set3 HB.out (by omega) _ _ _)⟩; simp [results, Tryd.f20, go_sem, d0, d1, d2]; done)
        | (refine ⟨rfl, .tuple #[.agg #[.bool false, .slice a2 P.length c2, .slice a3 Q.length c3], .bool true], ?_, retS_fin (A := ⟨false, P, Q, true⟩) HO.out.1 HO.out.2 HB.out (Nat.le_succ w.heap.size) z1 z2 _ _ _⟩; simp [results, Tryd.f20, go_sem, d0, d1, d2]; done)
        | (refine ⟨rfl, .tuple #[.agg #[.bool (n % 2 == 1), .slice a2 P.length c2, .slice a3 Q.length c3], .bool true], ?_, retS_fin (A := ⟨n % 2 == 1, P, Q, true⟩) HO.out.1 HO.out.2 HB.out (Nat.le_succ w.heap.size) z1 z2 _ _ _⟩; simp [results, Tryd.f20, go_sem, d0, d1, d2]; done)
end Go.Proofs.YthokphoojmpajagDoor
