/- The contracts of impl.FracNeg and spec.FracNeg. -/
import Derived.Test.YthokphoojmpajaaGreatDoorGFr8
import Derived.Test.YthokphoojmpajaaGreatDoorGSp
import Derived.Test.YthokphoojmpajaaGreatDoorSpNeg
namespace Go.Proofs.YthokphoojmpajaaGreatDoor
open Go.RowKit Go.Proofs.Pin

def negA (b : Bool) (x y : Nat) : FAns := ⟨ngB b x, dgs x, dgs y, true⟩

theorem negA_len (b : Bool) (X Y : List Int) : (op1A negA b X Y).X.length ≤ 256 ∧ (op1A negA b X Y).Y.length ≤ 256 := by
  cases h : fokB b X Y with
  | false => rw [op1A_no h]; exact ⟨Nat.zero_le _, Nat.zero_le _⟩
  | true =>
    obtain ⟨x, y, rfl, rfl, lx, ly, _⟩ := fok_parts h
    rw [op1A_yes h]
    exact ⟨lx, ly⟩

set_option maxRecDepth 20000 in
set_option maxHeartbeats 1000000 in
theorem specNeg_any (b : Bool) (r s : Option Addr) (cr cs : Nat) (X Y : List Int) (w : World) (hX : Sl w r X) (hY : Sl w s Y) (lX : X.length ≤ 1048576) (lY : Y.length ≤ 1048576) :
    Calls Tryz.prog 34 #[fracV b r X.length cr s Y.length cs] w fun e w' => RetS w e w' (op1A negA b X Y) := by
  obtain ⟨w0, hw0⟩ : ∃ w0, w0 = (w.alloc (.cells #[.bool b, .slice r X.length cr, .slice s Y.length cs] 25)).alloc (.cells #[.bool false, .slice none 0 0, .slice none 0 0] 25) := ⟨_, rfl⟩
  have B0 : Below w.heap.size w w0 := by rw [hw0]; exact ((Below.refl _ w).alloc (Nat.le_refl _) _).alloc (by simp) _
  have k1 : BoxC w0 w.heap.size 25 #[.bool b, .slice r X.length cr, .slice s Y.length cs] := by rw [hw0]; exact boxc_alloc (boxc_new _ _ _) _
  have k2 : BoxC w0 (w.heap.size + 1) 25 #[.bool false, .slice none 0 0, .slice none 0 0] := by
    rw [hw0]
    have h := boxc_new (w.alloc (.cells #[.bool b, .slice r X.length cr, .slice s Y.length cs] 25)) 25 #[.bool false, .slice none 0 0, .slice none 0 0]
    rw [World.size_alloc] at h
    exact h
  have C1 : Hid _ := specFok_any b r s cr cs X Y w0 (hX.keep B0) (hY.keep B0) lX lY
  cases h : fokB b X Y with
  | false =>
    rw [op1A_no h]
    rw [h] at C1
    unfold fracV at C1 ⊢
    clear h lX lY hX hY
    go_enter Tryz.func34, Tryz.ntmps34
    go_wp2_with fail
    rw [← hw0]
    refine Calls.mono C1.out ?_
    rintro e w1 ⟨rfl, b1⟩
    obtain ⟨d0, d1, d2, df, dn⟩ := boxc3 (boxc_keep k2 b1)
    have HB : Hid (Below w.heap.size w w1) := B0.trans (b1.mono B0.size)
    clear hw0 b1 B0 k1 k2 C1
    go_wp2
    refine ⟨rfl, .tuple #[.agg #[.bool false, .slice none 0 0, .slice none 0 0], .bool false], ?_, retS_no (below_set3 HB.out (by omega) _ _ _)⟩
    simp [results, Tryz.f34, go_sem, d0, d1, d2]
  | true =>
    rw [h] at C1
    obtain ⟨x, y, rfl, rfl, lx, ly, _⟩ := fok_parts h
    rw [op1A_yes h]
    unfold negA
    have CN : Hid (∀ W, Sl W r (dgs x) → Sl W s (dgs y) → Calls Tryz.prog 54 #[fracV b r (dgs x).length cr s (dgs y).length cs] W fun e w' => ∃ r2 c2 s2 d2, e = .returned (fracV (ngB b x) r2 (dgs x).length c2 s2 (dgs y).length d2) ∧ OwnI w' W.heap.size r2 c2 (dgs x) ∧ OwnI w' W.heap.size s2 d2 (dgs y) ∧ Below W.heap.size W w') := fun W h1 h2 => l2Neg_any b r s cr cs x y W h1 h2 lx ly
    obtain ⟨X, hXe⟩ : ∃ X, X = dgs x := ⟨_, rfl⟩
    obtain ⟨Y, hYe⟩ : ∃ Y, Y = dgs y := ⟨_, rfl⟩
    obtain ⟨N, hNe⟩ : ∃ N, N = ngB b x := ⟨_, rfl⟩
    rw [← hXe, ← hYe, ← hNe] at CN
    rw [← hXe] at hX
    rw [← hYe] at hY
    rw [← hXe, ← hYe] at C1 hw0 k1
    rw [← hXe, ← hYe, ← hNe]
    clear hXe hYe hNe lx ly lX lY h
    unfold fracV at C1 CN ⊢
    go_enter Tryz.func34, Tryz.ntmps34
    go_wp2_with fail
    rw [← hw0]
    refine Calls.mono C1.out ?_
    rintro e w1 ⟨rfl, b1⟩
    have k11 := boxc_keep k1 b1
    have k21 := boxc_keep k2 b1
    have B1 := B0.trans (b1.mono B0.size)
    obtain ⟨p0, p1, p2, _, n1⟩ := boxc3 k11
    clear hw0 b1 B0 k1 k2 C1
    go_wp2_with fail
    refine Calls.mono (CN.out _ (hX.keep B1) (hY.keep B1)) ?_
    rintro e w2 ⟨r2, c2, s2, e2, rfl, o2, o3, b2⟩
    obtain ⟨d0, d1, d2, df, dn⟩ := boxc3 (boxc_keep k21 b2)
    have H : Hid (RetS w _ _ ⟨N, X, Y, true⟩) := retS_fin (A := ⟨N, X, Y, true⟩) o2 o3 (B1.trans (b2.mono B1.size)) (Nat.le_succ w.heap.size) (boxc_lt k21) (boxc_lt k21) (.bool N) (.slice r2 X.length c2) (.slice s2 Y.length e2)
    unfold fracV at H
    clear CN b2 B1 k11 k21 o2 o3 hX hY p0 p1 p2
    go_wp2
    refine ⟨rfl, .tuple #[.agg #[.bool N, .slice r2 X.length c2, .slice s2 Y.length e2], .bool true], ?_, H.out⟩
    simp [results, Tryz.f34, go_sem, d0, d1, d2]
end Go.Proofs.YthokphoojmpajaaGreatDoor
