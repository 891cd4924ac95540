/- The contracts of impl.FracSign and spec.FracSign. -/
import Derived.Test.YthokphoojmpajabGreatDoorGFr8
namespace Go.Proofs.YthokphoojmpajabGreatDoor
open Go.RowKit Go.Proofs.Pin

/-- What FracSign answers. -/
def sgA (b : Bool) (X Y : List Int) : Int := if fokB b X Y = true then sgnF b X.length else 0

set_option maxRecDepth 20000 in
set_option maxHeartbeats 1000000 in
theorem implSign_any (b : Bool) (r s : Option Addr) (cr cs : Nat) (X Y : List Int) (w : World) (hh : Hdl w) (hX : Sl w r X) (hY : Sl w s Y) (lX : X.length ≤ 1048576) (lY : Y.length ≤ 1048576) (cX : X.length ≤ cr) (cY : Y.length ≤ cs) :
    Calls Tryz.prog 10 #[fracV b r X.length cr s Y.length cs] w fun e w' => e = .returned (.int .i64 (sgA b X Y)) ∧ Below w.heap.size w w' := by
  obtain ⟨w0, hw0⟩ : ∃ w0, w0 = w.alloc (.cells #[.bool b, .slice r X.length cr, .slice s Y.length cs] 25) := ⟨_, rfl⟩
  have B0 : Below w.heap.size w w0 := by rw [hw0]; exact (Below.refl _ w).alloc (Nat.le_refl _) _
  cases h : fokB b X Y with
  | false =>
    have e : sgA b X Y = 0 := by simp [sgA, h]
    rw [e]
    have C1 : Hid _ := taken_no b r s cr cs X Y w0 (hX.keep B0) (hY.keep B0) lX lY cX cY h
    have CF : Hid (∀ t W, Hdl W → Calls Tryz.prog 28 #[flt t] W fun e w' => e = .returned (.bool true) ∧ Below W.heap.size W w') := fun t W h => isFault_hit t W h
    unfold fracV fr0 flt at C1
    unfold flt at CF
    unfold frV at C1
    unfold fracV
    clear h lX lY cX cY hX hY e
    go_enter Tryz.func10, Tryz.ntmps10
    go_wp2_with fail
    rw [← hw0]
    refine Calls.mono C1.out ?_
    rintro e w1 ⟨⟨t, rfl⟩, b1⟩
    have B1 := B0.trans (b1.mono B0.size)
    have B2 : Below w.heap.size w (w1.alloc (.cells #[.slice none 0 0, .slice none 0 0, .bool false] 48)) := B1.alloc B1.size _
    have h2 := hh.keep B2 hh.pos
    clear hw0 b1 B0 C1
    go_wp2_with fail
    refine Calls.mono (CF.out t _ h2) ?_
    rintro e w2 ⟨rfl, b2⟩
    have HB : Hid (Below w.heap.size w w2) := B2.trans (b2.mono B2.size)
    clear CF h2 b2 B1 B2 hh
    go_wp2
    go_ret
    exact ⟨rfl, HB.out⟩
  | true =>
    have e : sgA b X Y = sgnF b X.length := by simp [sgA, h]
    rw [e]
    have C1 : Hid _ := taken_yes b r s cr cs X Y w0 (hX.keep B0) (hY.keep B0) lX lY cX cY h
    have CF : Hid (∀ W, Calls Tryz.prog 28 #[.nilIface] W fun e w' => e = .returned (.bool false) ∧ Below W.heap.size W w') := fun W => isFault_nil W
    have CG : Hid (∀ W, Calls Tryz.prog 35 #[frV r X.length cr s Y.length cs b] W fun e w' => e = .returned (.int .i64 (sgnF b X.length)) ∧ Below W.heap.size W w') := fun W => frSign_any r s _ cr _ cs b W
    obtain ⟨z, hz⟩ : ∃ z, z = sgnF b X.length := ⟨_, rfl⟩
    rw [← hz] at CG ⊢
    unfold fracV frV at C1
    unfold frV at CG
    unfold fracV
    clear h lX lY cX cY hX hY e hz hh
    go_enter Tryz.func10, Tryz.ntmps10
    go_wp2_with fail
    rw [← hw0]
    refine Calls.mono C1.out ?_
    rintro e w1 ⟨rfl, b1⟩
    have B1 := B0.trans (b1.mono B0.size)
    have B2 : Below w.heap.size w (w1.alloc (.cells #[.slice r X.length cr, .slice s Y.length cs, .bool b] 48)) := B1.alloc B1.size _
    have k2 := boxc_new w1 48 #[.slice r X.length cr, .slice s Y.length cs, .bool b]
    clear hw0 b1 B0 C1
    go_wp2_with fail
    refine Calls.mono (CF.out _) ?_
    rintro e w2 ⟨rfl, b2⟩
    obtain ⟨c0, c1, c2, _, _⟩ := boxc3 (boxc_keep k2 b2)
    have B3 : Below w.heap.size w w2 := B2.trans (b2.mono B2.size)
    clear CF b2 B1 B2 k2
    go_wp2_with fail
    refine Calls.mono (CG.out _) ?_
    rintro e w3 ⟨rfl, b3⟩
    have HB : Hid (Below w.heap.size w w3) := B3.trans (b3.mono B3.size)
    clear CG b3 B3 c0 c1 c2
    go_wp2
    go_ret
    exact ⟨rfl, HB.out⟩

end Go.Proofs.YthokphoojmpajabGreatDoor
