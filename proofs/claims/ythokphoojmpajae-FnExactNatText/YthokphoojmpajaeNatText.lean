/- The contract of impl.NatText. -/
import Derived.Test.YthokphoojmpajaeDText
namespace Go.Proofs.Ythokphoojmpajae
open Go.RowKit Go.Proofs.Pin

set_option maxHeartbeats 1000000 in
theorem implText_any (a : Option Addr) (ca : Nat) (xs : List Int) (w : World) (ha : Sl w a xs) (hx : xs.length ≤ 1048576) :
    Calls Try.prog 17 #[.slice a xs.length ca] w fun e w' => e = .returned (.string (textA xs)) ∧ Below w.heap.size w w' := by
  have c1 := (implOk_any a ca xs w ha hx).mono (R' := fun e w' => e = .returned (.bool (okB xs)) ∧ w = w') fun e w' h => ⟨h.1, h.2.symm⟩
  cases h1 : okB xs with
  | false =>
    rw [textA_no h1]
    rw [h1] at c1
    have C1 : Hid _ := c1
    clear c1 h1 ha hx
    go_enter Try.func17, Try.ntmps17
    go_wp2_with fail
    refine Calls.mono C1.out ?_
    rintro e w' ⟨rfl, rfl⟩
    go_wp2
    go_ret
    exact ⟨rfl, Below.refl _ _⟩
  | true =>
    rw [h1] at c1
    obtain ⟨n, rfl, hn⟩ := ok_dgs h1
    rw [textA_yes hn]
    have C1 : Hid _ := c1
    have C2 : Hid _ := dText_any a ca n w ha (by omega)
    obtain ⟨T, hT⟩ : ∃ T, T = txt n := ⟨_, rfl⟩
    rw [← hT] at C2 ⊢
    obtain ⟨X, hX⟩ : ∃ X, X = dgs n := ⟨_, rfl⟩
    rw [← hX] at C1 C2 ⊢
    clear c1 h1 ha hx hn hT hX
    go_enter Try.func17, Try.ntmps17
    go_wp2_with fail
    refine Calls.mono C1.out ?_
    rintro e w' ⟨rfl, rfl⟩
    go_wp2_with fail
    refine Calls.mono C2.out ?_
    rintro e w2 ⟨rfl, b2⟩
    go_wp2
    go_ret
    exact ⟨rfl, b2⟩
end Go.Proofs.Ythokphoojmpajae
