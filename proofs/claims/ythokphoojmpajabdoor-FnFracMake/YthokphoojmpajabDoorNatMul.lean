/- The contracts of spec.NatMul and impl.NatMul. -/
import Derived.Test.YthokphoojmpajabDoorGMark
import Derived.Test.YthokphoojmpajabDoorOp2
import Derived.Test.YthokphoojmpajabDoorMul
import Derived.Test.YthokphoojmpajabDoorTimes
namespace Go.Proofs.YthokphoojmpajabDoor
open Go.RowKit Go.Proofs.Pin

set_option maxRecDepth 20000 in
theorem specMul_op : Op2 7 (fun x y => some (x * y)) := by
  intro a b ca cb xs ys w ha hb hx hy
  cases h1 : okB xs with
  | false =>
    rw [op2_no1 h1]
    go_enter Tryd.func7, Tryd.ntmps7
    go_wp2_with (go_at_call 20; refine (specOk_any _ _ xs _ ha hx).mono ?_; rintro e w' ⟨rfl, rfl⟩)
    go_ret2
    exact ⟨none, 0, rfl, OwnI.nil _ _, Below.refl _ _⟩
  | true =>
    cases h2 : okB ys with
    | false =>
      rw [op2_no2 h2]
      go_enter Tryd.func7, Tryd.ntmps7
      go_wp2_with fail
      refine (specOk_any _ _ xs _ ha hx).mono ?_
      rintro e w' ⟨rfl, rfl⟩
      go_wp2_with fail
      refine (specOk_any _ _ ys _ hb hy).mono ?_
      rintro e w' ⟨rfl, rfl⟩
      go_wp2
      go_ret2
      exact ⟨none, 0, rfl, OwnI.nil _ _, Below.refl _ _⟩
    | true =>
      obtain ⟨x, rfl, hx'⟩ := ok_dgs h1
      obtain ⟨y, rfl, hy'⟩ := ok_dgs h2
      rw [op2_yes hx' hy']
      show Calls _ _ _ _ fun e w' => ∃ r cr, e = .returned (.tuple #[.slice r (fitL (dgs (x * y))).length cr, .bool (fitB (dgs (x * y)))]) ∧ OwnI w' w.heap.size r cr (fitL (dgs (x * y))) ∧ Below w.heap.size w w'
      have c1 := specOk_any a ca (dgs x) w ha hx
      have c2 := specOk_any b cb (dgs y) w hb hy
      rw [h1] at c1
      rw [h2] at c2
      have c3 := l1Mul_any a b ca cb x y w ha hb (by omega) (by omega)
      have c4 := fun r cr w1 h => l1Fits_any w.heap.size r cr (dgs (x * y)) w1 h
      obtain ⟨X, hX⟩ : ∃ X, X = dgs x := ⟨_, rfl⟩
      obtain ⟨Y, hY⟩ : ∃ Y, Y = dgs y := ⟨_, rfl⟩
      obtain ⟨Z, hZ⟩ : ∃ Z, Z = dgs (x * y) := ⟨_, rfl⟩
      rw [← hX] at c1 c3 ⊢
      rw [← hY] at c2 c3 ⊢
      rw [← hZ] at c3 c4 ⊢
      have C1 : Hid _ := c1
      have C2 : Hid _ := c2
      have C3 : Hid _ := c3
      have C4 : Hid _ := c4
      clear c1 c2 c3 c4 hX hY hZ h1 h2 ha hb hx hy hx' hy'
      go_enter Tryd.func7, Tryd.ntmps7
      go_wp2_with fail
      refine Calls.mono C1.out ?_
      rintro e w' ⟨rfl, hw⟩
      subst hw
      go_wp2_with fail
      refine Calls.mono C2.out ?_
      rintro e w' ⟨rfl, hw⟩
      subst hw
      go_wp2_with fail
      refine Calls.mono C3.out ?_
      rintro e w1 ⟨r, cr, rfl, ho, hb⟩
      go_wp2_with fail
      refine Calls.mono (C4.out _ _ _ ho) ?_
      rintro e w2 ⟨r2, cr2, rfl, ho2, rfl⟩
      go_wp2
      go_ret2
      exact ⟨r2, cr2, rfl, ho2, hb⟩

end Go.Proofs.YthokphoojmpajabDoor
