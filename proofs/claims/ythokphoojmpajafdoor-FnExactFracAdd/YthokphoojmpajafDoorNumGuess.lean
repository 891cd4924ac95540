/- Numbers: the guess of a digit off three digits of the rest and two of the divisor is right or one too great. -/
import Derived.Test.YthokphoojmpajafDoorNumLong
namespace Go.Proofs.YthokphoojmpajafDoor
open Go.RowKit Go.Proofs.Pin

theorem guess3 {R Y M D : Nat} (hD : D * M ≤ Y) (hY : Y < (D + 1) * M) (hM : 0 < M) (hB : 65536 ≤ D) (hq : R / Y ≤ 65535) : R / Y ≤ R / M / D ∧ R / M / D ≤ R / Y + 1 := by
  have hD0 : 0 < D := by omega
  have hY0 : 0 < Y := Nat.lt_of_lt_of_le (Nat.mul_pos hD0 hM) hD
  constructor
  · rw [Nat.le_div_iff_mul_le hD0, Nat.le_div_iff_mul_le hM]
    have h1 : R / Y * Y ≤ R := Nat.div_mul_le_self R Y
    have h2 : R / Y * (D * M) ≤ R / Y * Y := Nat.mul_le_mul_left _ hD
    rw [← Nat.mul_assoc] at h2
    omega
  · apply Nat.le_of_lt_succ
    rw [Nat.div_lt_iff_lt_mul hD0, Nat.div_lt_iff_lt_mul hM]
    have h1 : R < (R / Y + 1) * Y := by
      have h := Nat.div_add_mod R Y
      have h2 := Nat.mod_lt R hY0
      rw [Nat.add_mul, Nat.one_mul, Nat.mul_comm]
      omega
    obtain ⟨q, hqe⟩ : ∃ q, q = R / Y := ⟨_, rfl⟩
    rw [← hqe] at h1 hq ⊢
    have h2 : (q + 1) * Y ≤ (q + 1) * ((D + 1) * M) := Nat.mul_le_mul_left _ (Nat.le_of_lt hY)
    have h3 : (q + 1) * (D + 1) ≤ (q + 1 + 1) * D := by
      rw [Nat.mul_add, Nat.mul_one, Nat.add_mul (q + 1) 1 D, Nat.one_mul]
      omega
    have h4 : (q + 1) * (D + 1) * M ≤ (q + 1 + 1) * D * M := Nat.mul_le_mul_right _ h3
    rw [← Nat.mul_assoc] at h2
    exact Nat.lt_of_lt_of_le h1 (Nat.le_trans h2 h4)
/-- Where the rest's pair is the divisor's the greatest digit is right. -/
theorem guess3_same {R Y M D z : Nat} (hY : Y < (D + 1) * M) (hM : 0 < M) (hB : 65536 ≤ D) (hD : D * M ≤ Y) (hR : R / M = D * 65536 + z) (hq : R / Y ≤ 65535) : R / Y = 65535 := by
  have hY0 : 0 < Y := Nat.lt_of_lt_of_le (Nat.mul_pos (by omega) hM) hD
  refine Nat.le_antisymm hq ?_
  rw [Nat.le_div_iff_mul_le hY0]
  have h1 : R / M * M ≤ R := Nat.div_mul_le_self R M
  rw [hR, Nat.add_mul] at h1
  have h2 : 65535 * Y ≤ 65535 * ((D + 1) * M) := Nat.mul_le_mul_left _ (Nat.le_of_lt hY)
  have h3 : 65535 * (D + 1) ≤ D * 65536 := by omega
  have h4 : 65535 * (D + 1) * M ≤ D * 65536 * M := Nat.mul_le_mul_right _ h3
  rw [← Nat.mul_assoc] at h2
  omega
end Go.Proofs.YthokphoojmpajafDoor
