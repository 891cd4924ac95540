/- Numbers for the fractions: how long products and sums are; no Go text in sight. -/
import Derived.Test.YthokphoojmpajafDoorNum
import Derived.Test.YthokphoojmpajafDoorNumCmp
namespace Go.Proofs.YthokphoojmpajafDoor
open Go.RowKit Go.Proofs.Pin

theorem dgs_lt (x : Nat) : x < 65536 ^ (dgs x).length := (dgs_len_iff x _).1 (Nat.le_refl _)
theorem len_mul2 (x y : Nat) : (dgs (x * y)).length ≤ (dgs x).length + (dgs y).length := by
  refine dgs_small ?_
  rw [Nat.pow_add]
  exact Nat.lt_of_le_of_lt (Nat.mul_le_mul_left x (Nat.le_of_lt (dgs_lt y))) (Nat.mul_lt_mul_of_pos_right (dgs_lt x) (Nat.pow_pos (by omega)))
theorem len_add2 (x y : Nat) : (dgs (x + y)).length ≤ max (dgs x).length (dgs y).length + 1 := by
  refine dgs_small ?_
  have h1 : x < 65536 ^ max (dgs x).length (dgs y).length := Nat.lt_of_lt_of_le (dgs_lt x) (Nat.pow_le_pow_right (by omega) (Nat.le_max_left _ _))
  have h2 : y < 65536 ^ max (dgs x).length (dgs y).length := Nat.lt_of_lt_of_le (dgs_lt y) (Nat.pow_le_pow_right (by omega) (Nat.le_max_right _ _))
  rw [Nat.pow_succ]
  omega
theorem len_sub2 (x y : Nat) : (dgs (x - y)).length ≤ (dgs x).length := dgs_len_le (Nat.sub_le _ _)
theorem dgs_nil_iff (x : Nat) : dgs x = [] ↔ x = 0 := by
  constructor
  · intro h
    have := val_dgs x
    rw [h] at this
    simp [val] at this
    omega
  · intro h; rw [h]; rfl
theorem dgs_pos_len (x : Nat) : 0 < (dgs x).length ↔ x ≠ 0 := by
  rw [List.length_pos_iff, Ne, Ne, dgs_nil_iff]
theorem dgs_inj2 {x y : Nat} (h : dgs x = dgs y) : x = y := by
  have h1 := val_dgs x
  have h2 := val_dgs y
  rw [h] at h1
  omega
theorem dgs_is1 : dgs 1 = [1] := rfl
end Go.Proofs.YthokphoojmpajafDoor
