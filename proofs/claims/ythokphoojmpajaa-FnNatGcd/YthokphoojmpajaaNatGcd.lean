/- The contracts of spec.NatGcd and impl.NatGcd. -/
import Derived.Test.YthokphoojmpajaaOk
import Derived.Test.YthokphoojmpajaaOp2
import Derived.Test.YthokphoojmpajaaGcdSpec
namespace Go.Proofs.Ythokphoojmpajaa
open Go.RowKit Go.Proofs.Pin

/-- As Op2, of slices whose lengths are within their capacities. -/
def Op2c (F : Nat) (f : Nat → Nat → Option Nat) : Prop := ∀ (a b : Option Addr) (ca cb : Nat) (xs ys : List Int) (w : World), Sl w a xs → Sl w b ys → xs.length ≤ 1048576 → ys.length ≤ 1048576 → xs.length ≤ ca → ys.length ≤ cb →
  Calls Try.prog F #[.slice a xs.length ca, .slice b ys.length cb] w fun e w' => ∃ r cr, e = .returned (.tuple #[.slice r (ansL (op2 f xs ys)).length cr, .bool (ansB (op2 f xs ys))]) ∧ OwnI w' w.heap.size r cr (ansL (op2 f xs ys)) ∧ Below w.heap.size w w'
theorem gcd_len {x y : Nat} (hx : (dgs x).length ≤ 256) (hy : (dgs y).length ≤ 256) : (dgs (Nat.gcd x y)).length ≤ 256 := by
  by_cases h : x = 0
  · subst h
    rw [Nat.gcd_zero_left]
    exact hy
  · exact Nat.le_trans (dgs_len_le (Nat.gcd_le_left y (by omega))) hx
theorem ans_no : ansL none = [] ∧ ansB none = false := ⟨rfl, rfl⟩
theorem ans_yes {n : Nat} (h : (dgs n).length ≤ 256) : ansL (some n) = dgs n ∧ ansB (some n) = true := by
  have := fit_yes h
  exact ⟨this.1, this.2⟩

set_option maxHeartbeats 400000 in
theorem specGcd_op : Op2c 26 (fun x y => some (Nat.gcd x y)) := by
  intro a b ca cb xs ys w ha hb hx hy hca hcb
  cases h1 : okB xs with
  | false =>
    rw [op2_no1 h1, ans_no.1, ans_no.2]
    go_enter Try.func26, Try.ntmps26
    go_wp2_with (go_at_call 18; refine (specOk_any _ _ xs _ ha hx).mono ?_; rintro e w' ⟨rfl, rfl⟩)
    go_ret2
    exact ⟨none, 0, rfl, OwnI.nil _ _, Below.refl _ _⟩
  | true =>
    cases h2 : okB ys with
    | false =>
      rw [op2_no2 h2, ans_no.1, ans_no.2]
      go_enter Try.func26, Try.ntmps26
      go_wp2_with fail
      refine (specOk_any _ _ xs _ ha hx).mono ?_
      rintro e w' ⟨rfl, rfl⟩
      go_wp2_with fail
      refine (specOk_any _ _ ys _ hb hy).mono ?_
      rintro e w' ⟨rfl, rfl⟩
      go_wp2
      go_ret2
      exact ⟨none, 0, rfl, OwnI.nil _ _, Below.refl _ _⟩
    | true =>
      obtain ⟨x, rfl, hx'⟩ := ok_dgs h1
      obtain ⟨y, rfl, hy'⟩ := ok_dgs h2
      rw [op2_yes hx' hy', (ans_yes (gcd_len hx' hy')).1, (ans_yes (gcd_len hx' hy')).2]
      have c1 := (specOk_any a ca (dgs x) w ha hx).mono (R' := fun e w' => e = .returned (.bool (okB (dgs x))) ∧ w = w') fun e w' h => ⟨h.1, h.2.symm⟩
      have c2 := (specOk_any b cb (dgs y) w hb hy).mono (R' := fun e w' => e = .returned (.bool (okB (dgs y))) ∧ w = w') fun e w' h => ⟨h.1, h.2.symm⟩
      rw [h1] at c1
      rw [h2] at c2
      have c4 := l1Gcd_any a b ca cb x y w ha hb (by omega) (by omega)
      obtain ⟨X, hX⟩ : ∃ X, X = dgs x := ⟨_, rfl⟩
      obtain ⟨Y, hY⟩ : ∃ Y, Y = dgs y := ⟨_, rfl⟩
      obtain ⟨Z, hZ⟩ : ∃ Z, Z = dgs (Nat.gcd x y) := ⟨_, rfl⟩
      rw [← hX] at c1 c4 ⊢
      rw [← hY] at c2 c4 ⊢
      rw [← hZ] at c4 ⊢
      have C1 : Hid _ := c1
      have C2 : Hid _ := c2
      have C4 : Hid _ := c4
      clear c1 c2 c4 hX hY hZ h1 h2 ha hb hx hy hx' hy' hca hcb
      go_enter Try.func26, Try.ntmps26
      go_wp2_with fail
      refine Calls.mono C1.out ?_
      rintro e w' ⟨rfl, rfl⟩
      go_wp2_with fail
      refine Calls.mono C2.out ?_
      rintro e w' ⟨rfl, rfl⟩
      go_wp2_with fail
      refine Calls.mono C4.out ?_
      rintro e w2 ⟨r, cr, rfl, ho, hb2⟩
      go_wp2
      go_ret2
      exact ⟨r, cr, rfl, ho, hb2⟩

set_option maxHeartbeats 400000 in
theorem implGcd_op : Op2c 25 (fun x y => some (Nat.gcd x y)) := by
  intro a b ca cb xs ys w ha hb hx hy hca hcb
  cases h1 : okB xs with
  | false =>
    rw [op2_no1 h1, ans_no.1, ans_no.2]
    go_enter Try.func25, Try.ntmps25
    go_wp2_with (go_at_call 28; refine (implOk_any _ _ xs _ ha hx).mono ?_; rintro e w' ⟨rfl, rfl⟩)
    go_ret2
    exact ⟨none, 0, rfl, OwnI.nil _ _, Below.refl _ _⟩
  | true =>
    cases h2 : okB ys with
    | false =>
      rw [op2_no2 h2, ans_no.1, ans_no.2]
      go_enter Try.func25, Try.ntmps25
      go_wp2_with fail
      refine (implOk_any _ _ xs _ ha hx).mono ?_
      rintro e w' ⟨rfl, rfl⟩
      go_wp2_with fail
      refine (implOk_any _ _ ys _ hb hy).mono ?_
      rintro e w' ⟨rfl, rfl⟩
      go_wp2
      go_ret2
      exact ⟨none, 0, rfl, OwnI.nil _ _, Below.refl _ _⟩
    | true =>
      obtain ⟨x, rfl, hx'⟩ := ok_dgs h1
      obtain ⟨y, rfl, hy'⟩ := ok_dgs h2
      rw [op2_yes hx' hy', (ans_yes (gcd_len hx' hy')).1, (ans_yes (gcd_len hx' hy')).2]
      have c1 := (implOk_any a ca (dgs x) w ha hx).mono (R' := fun e w' => e = .returned (.bool (okB (dgs x))) ∧ w = w') fun e w' h => ⟨h.1, h.2.symm⟩
      have c2 := (implOk_any b cb (dgs y) w hb hy).mono (R' := fun e w' => e = .returned (.bool (okB (dgs y))) ∧ w = w') fun e w' h => ⟨h.1, h.2.symm⟩
      rw [h1] at c1
      rw [h2] at c2
      have c4 := gcd_any a b ca cb x y w ha hb (by omega) (by omega) hca hcb
      obtain ⟨X, hX⟩ : ∃ X, X = dgs x := ⟨_, rfl⟩
      obtain ⟨Y, hY⟩ : ∃ Y, Y = dgs y := ⟨_, rfl⟩
      obtain ⟨Z, hZ⟩ : ∃ Z, Z = dgs (Nat.gcd x y) := ⟨_, rfl⟩
      rw [← hX] at c1 c4 ⊢
      rw [← hY] at c2 c4 ⊢
      rw [← hZ] at c4 ⊢
      have C1 : Hid _ := c1
      have C2 : Hid _ := c2
      have C4 : Hid _ := c4
      clear c1 c2 c4 hX hY hZ h1 h2 ha hb hx hy hx' hy' hca hcb
      go_enter Try.func25, Try.ntmps25
      go_wp2_with fail
      refine Calls.mono C1.out ?_
      rintro e w' ⟨rfl, rfl⟩
      go_wp2_with fail
      refine Calls.mono C2.out ?_
      rintro e w' ⟨rfl, rfl⟩
      go_wp2_with fail
      refine Calls.mono C4.out ?_
      rintro e w2 ⟨r, cr, rfl, ho, hb2⟩
      go_wp2
      go_ret2
      exact ⟨r, cr, rfl, ho, hb2⟩
end Go.Proofs.Ythokphoojmpajaa
