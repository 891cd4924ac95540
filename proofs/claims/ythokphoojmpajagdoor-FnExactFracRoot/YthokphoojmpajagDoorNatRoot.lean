/- The contracts of spec.NatRoot and impl.NatRoot: the root, whether it is exact, and whether there is one. -/
import Derived.Test.YthokphoojmpajagDoorGMark
import Derived.Test.YthokphoojmpajagDoorTimes
import Derived.Test.YthokphoojmpajagDoorRootSpec
import Derived.Test.YthokphoojmpajagDoorRoot
namespace Go.Proofs.YthokphoojmpajagDoor
open Go.RowKit Go.Proofs.Pin

def rtL (xs : List Int) : List Int := if okB xs = true then dgs (rt (val xs).toNat) else []
def rtX (xs : List Int) : Bool := okB xs && decide (rt (val xs).toNat * rt (val xs).toNat = (val xs).toNat)
theorem rt_no {xs : List Int} (h : okB xs = false) : rtL xs = [] ∧ rtX xs = false := by simp [rtL, rtX, h]
theorem rt_yes {x : Nat} (hx : (dgs x).length ≤ 256) : rtL (dgs x) = dgs (rt x) ∧ rtX (dgs x) = decide (rt x * rt x = x) := by simp [rtL, rtX, dgs_ok hx, val_dgs]
theorem rtL_len (xs : List Int) : (rtL xs).length ≤ 256 := by
  cases h : okB xs with
  | false => rw [(rt_no h).1]; simp
  | true =>
    obtain ⟨x, rfl, hx⟩ := ok_dgs h
    rw [(rt_yes hx).1]
    exact Nat.le_trans (dgs_len_le (rt_self x)) hx
theorem sg_zero (x y : Nat) : (sg (x : Int) (y : Int) == 0) = decide (x = y) := by
  rcases Nat.lt_trichotomy x y with h | h | h
  · rw [sg_lt (by omega)]
    have : x ≠ y := by omega
    simp [this]
  · rw [sg_eq (by omega)]
    simp [h]
  · rw [sg_gt (by omega)]
    have : x ≠ y := by omega
    simp [this]

/-- What a function of a list of digits that answers a root is said to do. -/
def RootOp (F : Nat) : Prop := ∀ (a : Option Addr) (ca : Nat) (xs : List Int) (w : World), Sl w a xs → xs.length ≤ 1048576 → xs.length ≤ ca →
  Calls Tryd.prog F #[.slice a xs.length ca] w fun e w' => ∃ r cr, e = .returned (.tuple #[.slice r (rtL xs).length cr, .bool (rtX xs), .bool (okB xs)]) ∧ OwnI w' w.heap.size r cr (rtL xs) ∧ Below w.heap.size w w'

set_option maxRecDepth 20000 in
set_option maxHeartbeats 800000 in
theorem specRoot_op : RootOp 47 := by
  intro a ca xs w ha hx hca
  cases h1 : okB xs with
  | false =>
    rw [(rt_no h1).1, (rt_no h1).2]
    go_enter Tryd.func47, Tryd.ntmps47
    go_wp2_with (go_at_call 52; refine (specOk_any _ _ xs _ ha hx).mono ?_; rintro e w' ⟨rfl, rfl⟩)
    go_ret3
    exact ⟨none, 0, rfl, OwnI.nil _ _, Below.refl _ _⟩
  | true =>
    have c1 := (specOk_any a ca xs w ha hx).mono (R' := fun e w' => e = .returned (.bool (okB xs)) ∧ w = w') fun e w' h => ⟨h.1, h.2.symm⟩
    rw [h1] at c1
    have C1 : Hid _ := c1
    obtain ⟨x, rfl, hx'⟩ := ok_dgs h1
    rw [(rt_yes hx').1, (rt_yes hx').2]
    have hrl : (dgs (rt x)).length ≤ 256 := Nat.le_trans (dgs_len_le (rt_self x)) hx'
    have C2 : Hid _ := l1Root_any a ca x w ha hx'
    have C3 : Hid (∀ W r cr, Sl W r (dgs (rt x)) → Calls Tryd.prog 41 #[.slice r (dgs (rt x)).length cr, .slice r (dgs (rt x)).length cr] W fun e w' => ∃ s cs, e = .returned (.slice s (dgs (rt x * rt x)).length cs) ∧ OwnI w' W.heap.size s cs (dgs (rt x * rt x)) ∧ Below W.heap.size W w') := fun W r cr h => l1Mul_any r r cr cr (rt x) (rt x) W h h (by omega) (by omega)
    have hml := mul_len hrl hrl
    have C4 : Hid (∀ W s cs, Sl W s (dgs (rt x * rt x)) → Sl W a (dgs x) → Calls Tryd.prog 66 #[.slice s (dgs (rt x * rt x)).length cs, .slice a (dgs x).length ca] W fun e w' => e = .returned (.int .i64 (sg ((rt x * rt x : Nat) : Int) (x : Int))) ∧ Below W.heap.size W w') := fun W s cs h1 h2 => by
      have h := l1Cmp_any s a cs ca (dgs (rt x * rt x)) (dgs x) W h1 h2 (by omega) (by omega)
      rw [cmp_dgs] at h
      exact h.mono fun e w' h => ⟨h.1, by obtain ⟨q, hq⟩ := h.2; rw [hq]; exact below_dN (Below.refl _ _) q⟩
    have HB : Hid ((sg ((rt x * rt x : Nat) : Int) (x : Int) == 0) = decide (rt x * rt x = x)) := sg_zero _ _
    have HA : Hid (∀ W, Below w.heap.size w W → Sl W a (dgs x)) := fun W h => ha.keep h
    obtain ⟨c, hc⟩ : ∃ c, c = sg ((rt x * rt x : Nat) : Int) (x : Int) := ⟨_, rfl⟩
    rw [← hc] at C4 HB
    obtain ⟨bb, hbb⟩ : ∃ bb, bb = decide (rt x * rt x = x) := ⟨_, rfl⟩
    rw [← hbb] at HB ⊢
    obtain ⟨M, hM⟩ : ∃ M, M = dgs (rt x * rt x) := ⟨_, rfl⟩
    rw [← hM] at C3 C4
    obtain ⟨R, hR⟩ : ∃ R, R = dgs (rt x) := ⟨_, rfl⟩
    rw [← hR] at C2 C3 ⊢
    obtain ⟨X, hX⟩ : ∃ X, X = dgs x := ⟨_, rfl⟩
    rw [← hX] at C1 C2 C4 HA ⊢
    clear c1 h1 hrl hml hc hbb hM hR hX ha hx hx' hca
    go_enter Tryd.func47, Tryd.ntmps47
    go_wp2_with fail
    refine Calls.mono C1.out ?_
    rintro e w' ⟨rfl, rfl⟩
    go_wp2_with fail
    refine Calls.mono C2.out ?_
    rintro e w2 ⟨r2, c2, rfl, o2, b2⟩
    go_wp2_with fail
    refine Calls.mono (C3.out _ _ _ o2.sl) ?_
    rintro e w3 ⟨r3, c3, rfl, o3, b3⟩
    have B3 := b2.trans (b3.mono b2.size)
    have o23 := o2.keep b3
    clear o2 b2 b3
    go_wp2_with fail
    refine Calls.mono (C4.out _ _ _ o3.sl (HA.out _ B3)) ?_
    rintro e w4 ⟨rfl, b4⟩
    have B4 := B3.trans (b4.mono B3.size)
    have o24 := o23.keep b4
    clear o3 b4 B3 o23
    have hcb := HB.out
    go_wp2
    go_ret3
    exact ⟨r2, c2, rfl, o24, B4⟩

set_option maxRecDepth 20000 in
set_option maxHeartbeats 800000 in
theorem implRoot_op : RootOp 67 := by
  intro a ca xs w ha hx hca
  cases h1 : okB xs with
  | false =>
    rw [(rt_no h1).1, (rt_no h1).2]
    go_enter Tryd.func67, Tryd.ntmps67
    go_wp2_with (go_at_call 85; refine (implOk_any _ _ xs _ ha hx).mono ?_; rintro e w' ⟨rfl, rfl⟩)
    go_ret3
    exact ⟨none, 0, rfl, OwnI.nil _ _, Below.refl _ _⟩
  | true =>
    have c1 := (implOk_any a ca xs w ha hx).mono (R' := fun e w' => e = .returned (.bool (okB xs)) ∧ w = w') fun e w' h => ⟨h.1, h.2.symm⟩
    rw [h1] at c1
    have C1 : Hid _ := c1
    obtain ⟨x, rfl, hx'⟩ := ok_dgs h1
    rw [(rt_yes hx').1, (rt_yes hx').2]
    have hrl : (dgs (rt x)).length ≤ 256 := Nat.le_trans (dgs_len_le (rt_self x)) hx'
    have C2 : Hid _ := root_any a ca x w ha hx' hca
    have C3 : Hid (∀ W r cr, Sl W r (dgs (rt x)) → Calls Tryd.prog 62 #[.slice r (dgs (rt x)).length cr, .slice r (dgs (rt x)).length cr] W fun e w' => ∃ s cs, e = .returned (.slice s (dgs (rt x * rt x)).length cs) ∧ OwnI w' W.heap.size s cs (dgs (rt x * rt x)) ∧ Below W.heap.size W w') := fun W r cr h => times_any r r cr cr (rt x) (rt x) W h h (by omega) (by omega)
    have hml := mul_len hrl hrl
    have C4 : Hid (∀ W s cs, Sl W s (dgs (rt x * rt x)) → Sl W a (dgs x) → Calls Tryd.prog 81 #[.slice s (dgs (rt x * rt x)).length cs, .slice a (dgs x).length ca] W fun e w' => e = .returned (.int .i64 (sg ((rt x * rt x : Nat) : Int) (x : Int))) ∧ Below W.heap.size W w') := fun W s cs h1 h2 => by
      have h := cmp_any s a cs ca (dgs (rt x * rt x)) (dgs x) W h1 h2 (by omega)
      rw [cmp_dgs] at h
      exact h.mono fun e w' h => ⟨h.1, h.2⟩
    have HB : Hid ((sg ((rt x * rt x : Nat) : Int) (x : Int) == 0) = decide (rt x * rt x = x)) := sg_zero _ _
    have HA : Hid (∀ W, Below w.heap.size w W → Sl W a (dgs x)) := fun W h => ha.keep h
    obtain ⟨c, hc⟩ : ∃ c, c = sg ((rt x * rt x : Nat) : Int) (x : Int) := ⟨_, rfl⟩
    rw [← hc] at C4 HB
    obtain ⟨bb, hbb⟩ : ∃ bb, bb = decide (rt x * rt x = x) := ⟨_, rfl⟩
    rw [← hbb] at HB ⊢
    obtain ⟨M, hM⟩ : ∃ M, M = dgs (rt x * rt x) := ⟨_, rfl⟩
    rw [← hM] at C3 C4
    obtain ⟨R, hR⟩ : ∃ R, R = dgs (rt x) := ⟨_, rfl⟩
    rw [← hR] at C2 C3 ⊢
    obtain ⟨X, hX⟩ : ∃ X, X = dgs x := ⟨_, rfl⟩
    rw [← hX] at C1 C2 C4 HA ⊢
    clear c1 h1 hrl hml hc hbb hM hR hX ha hx hx' hca
    go_enter Tryd.func67, Tryd.ntmps67
    go_wp2_with fail
    refine Calls.mono C1.out ?_
    rintro e w' ⟨rfl, rfl⟩
    go_wp2_with fail
    refine Calls.mono C2.out ?_
    rintro e w2 ⟨r2, c2, rfl, o2, b2⟩
    go_wp2_with fail
    refine Calls.mono (C3.out _ _ _ o2.sl) ?_
    rintro e w3 ⟨r3, c3, rfl, o3, b3⟩
    have B3 := b2.trans (b3.mono b2.size)
    have o23 := o2.keep b3
    clear o2 b2 b3
    go_wp2_with fail
    refine Calls.mono (C4.out _ _ _ o3.sl (HA.out _ B3)) ?_
    rintro e w4 ⟨rfl, b4⟩
    have B4 := B3.trans (b4.mono B3.size)
    have o24 := o23.keep b4
    clear o3 b4 B3 o23
    have hcb := HB.out
    go_wp2
    go_ret3
    exact ⟨r2, c2, rfl, o24, B4⟩
end Go.Proofs.YthokphoojmpajagDoor
