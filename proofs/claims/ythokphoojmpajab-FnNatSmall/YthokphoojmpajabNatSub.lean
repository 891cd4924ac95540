/- The contracts of spec.NatSub and impl.NatSub. -/
import Derived.Test.YthokphoojmpajabOk
import Derived.Test.YthokphoojmpajabOp2
import Derived.Test.YthokphoojmpajabSub
import Derived.Test.YthokphoojmpajabMinus
import Derived.Test.YthokphoojmpajabCompare
namespace Go.Proofs.Ythokphoojmpajab
open Go.RowKit Go.Proofs.Pin



set_option maxHeartbeats 400000 in
theorem implSub_op : Op2 15 (fun x y => if y ≤ x then some (x - y) else none) := by
  intro a b ca cb xs ys w ha hb hx hy
  cases h1 : okB xs with
  | false =>
    rw [op2_no1 h1]
    go_enter Try.func15, Try.ntmps15
    go_wp2_with (go_at_call 13; refine (implOk_any _ _ xs _ ha hx).mono ?_; rintro e w' ⟨rfl, rfl⟩)
    go_ret2
    exact ⟨none, 0, rfl, OwnI.nil _ _, Below.refl _ _⟩
  | true =>
    cases h2 : okB ys with
    | false =>
      rw [op2_no2 h2]
      go_enter Try.func15, Try.ntmps15
      go_wp2_with fail
      refine (implOk_any _ _ xs _ ha hx).mono ?_
      rintro e w' ⟨rfl, rfl⟩
      go_wp2_with fail
      refine (implOk_any _ _ ys _ hb hy).mono ?_
      rintro e w' ⟨rfl, rfl⟩
      go_wp2
      go_ret2
      exact ⟨none, 0, rfl, OwnI.nil _ _, Below.refl _ _⟩
    | true =>
      obtain ⟨x, rfl, hx'⟩ := ok_dgs h1
      obtain ⟨y, rfl, hy'⟩ := ok_dgs h2
      rw [op2_yes hx' hy']
      have c1 := (implOk_any a ca (dgs x) w ha hx).mono (R' := fun e w' => e = .returned (.bool (okB (dgs x))) ∧ w = w') fun e w' h => ⟨h.1, h.2.symm⟩
      have c2 := (implOk_any b cb (dgs y) w hb hy).mono (R' := fun e w' => e = .returned (.bool (okB (dgs y))) ∧ w = w') fun e w' h => ⟨h.1, h.2.symm⟩
      rw [h1] at c1
      rw [h2] at c2
      have c3 := cmp_any a b ca cb (dgs x) (dgs y) w ha hb (by omega)
      rw [cmp_dgs] at c3
      by_cases hxy : y ≤ x
      · have e0 : (if y ≤ x then some (x - y) else none) = some (x - y) := by simp [hxy]
        have hf := fit_yes (zs := dgs (x - y)) (by have := dgs_len_le (show x - y ≤ x by omega); omega)
        have c4 := fun (wr : World) (hw : Below w.heap.size w wr) => minus_any a b ca cb x y wr (ha.keep hw) (hb.keep hw) (by omega) hxy
        simp only [e0]
        show Calls _ _ _ _ fun e w' => ∃ r cr, e = .returned (.tuple #[.slice r (fitL (dgs (x - y))).length cr, .bool (fitB (dgs (x - y)))]) ∧ OwnI w' w.heap.size r cr (fitL (dgs (x - y))) ∧ Below w.heap.size w w'
        rw [hf.1, hf.2]
        have hsg : ¬ sg (x : Int) (y : Int) < 0 := by unfold sg; split <;> (try split) <;> omega
        obtain ⟨s, hs⟩ : ∃ s, s = sg (x : Int) (y : Int) := ⟨_, rfl⟩
        obtain ⟨X, hX⟩ : ∃ X, X = dgs x := ⟨_, rfl⟩
        obtain ⟨Y, hY⟩ : ∃ Y, Y = dgs y := ⟨_, rfl⟩
        obtain ⟨Z, hZ⟩ : ∃ Z, Z = dgs (x - y) := ⟨_, rfl⟩
        rw [← hX] at c1 c3 c4 ⊢
        rw [← hY] at c2 c3 c4 ⊢
        rw [← hZ] at c4 ⊢
        rw [← hs] at c3 hsg
        have C1 : Hid _ := c1
        have C2 : Hid _ := c2
        have C3 : Hid _ := c3
        have C4 : Hid _ := c4
        clear c1 c2 c3 c4 hX hY hZ hs h1 h2 ha hb hx hy hx' hy' e0 hf hxy
        go_enter Try.func15, Try.ntmps15
        go_wp2_with fail
        refine Calls.mono C1.out ?_
        rintro e w' ⟨rfl, rfl⟩
        go_wp2_with fail
        refine Calls.mono C2.out ?_
        rintro e w' ⟨rfl, rfl⟩
        go_wp2_with fail
        refine Calls.mono C3.out ?_
        rintro e w1 ⟨rfl, hb1⟩
        go_wp2_with fail
        refine Calls.mono (C4.out _ hb1) ?_
        rintro e w2 ⟨r, cr, rfl, ho, hb2⟩
        have ho2 := ho.mono hb1.size
        have hb3 := hb1.trans (hb2.mono hb1.size)
        clear ho hb2
        go_wp2
        go_ret2
        exact ⟨r, cr, rfl, ho2, hb3⟩
      · have e0 : (if y ≤ x then some (x - y) else none) = none := by simp [hxy]
        simp only [e0]
        show Calls _ _ _ _ fun e w' => ∃ r cr, e = .returned (.tuple #[.slice r ([] : List Int).length cr, .bool false]) ∧ OwnI w' w.heap.size r cr [] ∧ Below w.heap.size w w'
        have hsg : sg (x : Int) (y : Int) < 0 := by rw [sg_lt (by omega)]; omega
        obtain ⟨s, hs⟩ : ∃ s, s = sg (x : Int) (y : Int) := ⟨_, rfl⟩
        obtain ⟨X, hX⟩ : ∃ X, X = dgs x := ⟨_, rfl⟩
        obtain ⟨Y, hY⟩ : ∃ Y, Y = dgs y := ⟨_, rfl⟩
        rw [← hX] at c1 c3 ⊢
        rw [← hY] at c2 c3 ⊢
        rw [← hs] at c3 hsg
        have C1 : Hid _ := c1
        have C2 : Hid _ := c2
        have C3 : Hid _ := c3
        clear c1 c2 c3 hX hY hs h1 h2 ha hb hx hy hx' hy' e0 hxy
        go_enter Try.func15, Try.ntmps15
        go_wp2_with fail
        refine Calls.mono C1.out ?_
        rintro e w' ⟨rfl, rfl⟩
        go_wp2_with fail
        refine Calls.mono C2.out ?_
        rintro e w' ⟨rfl, rfl⟩
        go_wp2_with fail
        refine Calls.mono C3.out ?_
        rintro e w1 ⟨rfl, hb1⟩
        go_wp2
        go_ret2
        exact ⟨none, 0, rfl, OwnI.nil _ _, hb1⟩
end Go.Proofs.Ythokphoojmpajab
