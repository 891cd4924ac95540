/- More on the answers of operations on two numbers. -/
import Derived.Test.YthokphoojmpajabDoorOp2
import Derived.Test.YthokphoojmpajabDoorGCmpN
namespace Go.Proofs.YthokphoojmpajabDoor
open Go.RowKit Go.Proofs.Pin

theorem ans_fit {n : Nat} (h : (dgs n).length ≤ 256) : ansL (some n) = dgs n ∧ ansB (some n) = true := ⟨(fit_yes h).1, (fit_yes h).2⟩
theorem ans_true {f : Nat → Nat → Option Nat} {xs ys : List Int} (h : ansB (op2 f xs ys) = true) : ∃ x y n, xs = dgs x ∧ ys = dgs y ∧ (dgs x).length ≤ 256 ∧ (dgs y).length ≤ 256 ∧ f x y = some n ∧ (dgs n).length ≤ 256 := by
  cases h1 : okB xs with
  | false => rw [op2_no1 h1] at h; cases h
  | true =>
    cases h2 : okB ys with
    | false => rw [op2_no2 h2] at h; cases h
    | true =>
      obtain ⟨x, rfl, hx⟩ := ok_dgs h1
      obtain ⟨y, rfl, hy⟩ := ok_dgs h2
      rw [op2_yes hx hy] at h
      cases hf : f x y with
      | none => rw [hf] at h; cases h
      | some n =>
        rw [hf] at h
        refine ⟨x, y, n, rfl, rfl, hx, hy, hf, ?_⟩
        simp only [ansB, fitB, decide_eq_true_eq] at h
        exact h
end Go.Proofs.YthokphoojmpajabDoor
