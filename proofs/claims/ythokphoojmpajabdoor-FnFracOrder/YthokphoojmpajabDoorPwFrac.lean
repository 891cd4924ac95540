/- The contract of laws.pwFrac at two fractions that are the same. -/
import Derived.Test.YthokphoojmpajabDoorSameS
import Derived.Test.YthokphoojmpajabDoorFr1
namespace Go.Proofs.YthokphoojmpajabDoor
open Go.RowKit Go.Proofs.Pin

set_option maxRecDepth 20000 in
set_option maxHeartbeats 1000000 in
theorem pwFrac_any (b : Bool) (r s r' s' : Option Addr) (c d c' d' : Nat) (X Y : List Int) (w : World) (h1 : Sl w r X) (h2 : Sl w s Y) (h3 : Sl w r' X) (h4 : Sl w s' Y) (lX : X.length ≤ 1048576) (lY : Y.length ≤ 1048576) :
    Calls Tryd.prog 10 #[fracV b r X.length c s Y.length d, fracV b r' X.length c' s' Y.length d'] w fun e w' => e = .returned (.bool true) ∧ Below w.heap.size w w' := by
  obtain ⟨w0, hw0⟩ : ∃ w0, w0 = (w.alloc (.cells #[.bool b, .slice r X.length c, .slice s Y.length d] 25)).alloc (.cells #[.bool b, .slice r' X.length c', .slice s' Y.length d'] 25) := ⟨_, rfl⟩
  have B0 : Below w.heap.size w w0 := by rw [hw0]; exact ((Below.refl _ w).alloc (Nat.le_refl _) _).alloc (by simp) _
  have k1 : BoxC w0 w.heap.size 25 #[.bool b, .slice r X.length c, .slice s Y.length d] := by rw [hw0]; exact boxc_alloc (boxc_new _ _ _) _
  have k2 : BoxC w0 (w.heap.size + 1) 25 #[.bool b, .slice r' X.length c', .slice s' Y.length d'] := by
    rw [hw0]
    have h := boxc_new (w.alloc (.cells #[.bool b, .slice r X.length c, .slice s Y.length d] 25)) 25 #[.bool b, .slice r' X.length c', .slice s' Y.length d']
    rw [World.size_alloc] at h
    exact h
  have C1 : Hid (Calls Tryd.prog 28 #[.slice r X.length c, .slice r' X.length c'] w0 fun e w' => e = .returned (.bool true) ∧ Below w0.heap.size w0 w') := (same_any r r' c c' X X w0 (h1.keep B0) (h3.keep B0) lX lX).mono fun e w' ⟨h, q, hq⟩ => ⟨by rw [h]; simp, by rw [hq]; exact below_dN (Below.refl _ _) q⟩
  have C2 : Hid (∀ W, Sl W s Y → Sl W s' Y → Calls Tryd.prog 28 #[.slice s Y.length d, .slice s' Y.length d'] W fun e w' => e = .returned (.bool true) ∧ Below W.heap.size W w') := fun W h h' => (same_any s s' d d' Y Y W h h' lY lY).mono fun e w' ⟨h, q, hq⟩ => ⟨by rw [h]; simp, by rw [hq]; exact below_dN (Below.refl _ _) q⟩
  have y1 := h2.keep B0
  have y2 := h4.keep B0
  obtain ⟨p0, p1, p2, pf, pn⟩ := boxc3 k1
  obtain ⟨q0, q1, q2, qf, qn⟩ := boxc3 k2
  have hbb : (b == b) = true := by simp
  unfold fracV
  clear h1 h2 h3 h4 lX lY
  go_enter Tryd.func10, Tryd.ntmps10
  go_wp2_with fail
  rw [← hw0]
  clear hw0
  refine Calls.mono C1.out ?_
  rintro e w1 ⟨rfl, b1⟩
  clear p0 p1 p2 pf pn q0 q1 q2 qf qn
  have k11 := boxc_keep k1 b1
  have k21 := boxc_keep k2 b1
  have y11 := y1.keep b1
  have y21 := y2.keep b1
  have B1 := B0.trans (b1.mono B0.size)
  obtain ⟨p0, p1, p2, pf, pn⟩ := boxc3 k11
  obtain ⟨q0, q1, q2, qf, qn⟩ := boxc3 k21
  clear k1 k2 y1 y2 b1 B0 C1
  go_wp2_with fail
  refine Calls.mono (C2.out _ y11 y21) ?_
  rintro e w2 ⟨rfl, b2⟩
  have HB : Hid (Below w.heap.size w w2) := B1.trans (b2.mono B1.size)
  clear b2 B1 k11 k21 y11 y21 C2 p0 p1 p2 q0 q1 q2
  go_wp2
  go_ret
  exact ⟨rfl, HB.out⟩
end Go.Proofs.YthokphoojmpajabDoor
