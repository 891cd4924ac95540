/- The arithmetic of long division: the digit that is guessed is never too small; what a digit more makes of quotient and rest; no Go text in sight. -/
import Derived.Test.YthokphoojmpajafDoorNumDiv
namespace Go.Proofs.Pin
open Go.RowKit

theorem dgs_at (x k : Nat) : (dgs x).getD k 0 = ((x / 65536 ^ k % 65536 : Nat) : Int) := by
  have h := dgs_drop k x
  have e : (dgs x).getD k 0 = ((dgs x).drop k).getD 0 0 := by simp [List.getD_eq_getElem?_getD, List.getElem?_drop]
  rw [e, h]
  by_cases h0 : x / 65536 ^ k = 0
  · rw [h0]; rfl
  · rw [dgs_pos h0]; simp
theorem pow_split (x n : Nat) (h : x < 65536 ^ (n + 2)) : x / 65536 ^ n = x / 65536 ^ (n + 1) % 65536 * 65536 + x / 65536 ^ n % 65536 := by
  have e : x / 65536 ^ (n + 1) = x / 65536 ^ n / 65536 := by rw [Nat.pow_succ, Nat.div_div_eq_div_mul]
  have h2 : x / 65536 ^ n < 65536 * 65536 := by
    rw [Nat.div_lt_iff_lt_mul (Nat.pow_pos (by decide))]
    rw [show n + 2 = n + 1 + 1 from rfl, Nat.pow_succ, Nat.pow_succ, Nat.mul_assoc, Nat.mul_comm] at h
    exact h
  rw [e]
  obtain ⟨u, hu⟩ : ∃ u, u = x / 65536 ^ n := ⟨_, rfl⟩
  rw [← hu] at h2 ⊢
  clear hu e h
  omega
/-- The digit that the two highest digits give by the divisor's highest one is not too small. -/
theorem guess_ge {r y m t : Nat} (hy : t * 65536 ^ m ≤ y) (ht : 0 < t) : r / y ≤ r / 65536 ^ m / t := by
  rw [Nat.le_div_iff_mul_le ht, Nat.le_div_iff_mul_le (Nat.pow_pos (by decide))]
  have h1 : r / y * y ≤ r := Nat.div_mul_le_self r y
  have h2 : r / y * (t * 65536 ^ m) ≤ r / y * y := Nat.mul_le_mul_left _ hy
  rw [← Nat.mul_assoc] at h2
  omega
/-- The loop that sets the guess right ends at the quotient. -/
theorem guess_down {r y g : Nat} (hy : 0 < y) (hg : r / y ≤ g) (h : r < y * g) : 1 ≤ g ∧ r / y ≤ g - 1 ∧ y * g - y = y * (g - 1) := by
  have h1 : r / y < g := by rw [Nat.div_lt_iff_lt_mul hy, Nat.mul_comm]; exact h
  have h2 : 1 ≤ g := Nat.lt_of_le_of_lt (Nat.zero_le _) h1
  refine ⟨h2, Nat.le_sub_one_of_lt h1, ?_⟩
  obtain ⟨j, rfl⟩ : ∃ j, g = j + 1 := ⟨g - 1, by omega⟩
  rw [Nat.mul_add]
  simp
theorem guess_end {r y g : Nat} (hy : 0 < y) (hg : r / y ≤ g) (h : y * g ≤ r) : g = r / y ∧ r - y * g = r % y := by
  have h1 : g ≤ r / y := by rw [Nat.le_div_iff_mul_le hy, Nat.mul_comm]; exact h
  have h2 : g = r / y := by omega
  refine ⟨h2, ?_⟩
  have h3 := Nat.div_add_mod r y
  rw [h2]
  omega
/-- One digit more of a long quotient. -/
theorem long_step {X Y R j : Nat} {out : List Int} (ho : j < out.length) (h : ((X / 65536 ^ (j + 1) : Nat) : Int) = val (out.drop (j + 1)) * Y + R) :
    ((X / 65536 ^ j : Nat) : Int) = val ((out.set j (((R * 65536 + X / 65536 ^ j % 65536) / Y : Nat) : Int)).drop j) * Y + ((R * 65536 + X / 65536 ^ j % 65536) % Y : Nat) := by
  have e : X / 65536 ^ (j + 1) = X / 65536 ^ j / 65536 := by rw [Nat.pow_succ, Nat.div_div_eq_div_mul]
  rw [e] at h
  obtain ⟨u, hu⟩ : ∃ u, u = X / 65536 ^ j := ⟨_, rfl⟩
  rw [← hu] at h ⊢
  have h3 := Nat.div_add_mod (R * 65536 + u % 65536) Y
  obtain ⟨q, hq⟩ : ∃ q, q = (R * 65536 + u % 65536) / Y := ⟨_, rfl⟩
  obtain ⟨s, hs⟩ : ∃ s, s = (R * 65536 + u % 65536) % Y := ⟨_, rfl⟩
  rw [← hq, ← hs] at h3 ⊢
  rw [drop_set ho]
  simp only [val]
  obtain ⟨V, hV⟩ : ∃ V, V = val (out.drop (j + 1)) := ⟨_, rfl⟩
  rw [← hV] at h ⊢
  rw [Int.add_mul, Int.mul_assoc]
  have h4 : ((Y * q : Nat) : Int) = (q : Int) * (Y : Int) := by rw [Nat.mul_comm]; simp
  omega
theorem long_digit {X Y R j : Nat} (hY : 0 < Y) (hR : R < Y) : (R * 65536 + X / 65536 ^ j % 65536) / Y < 65536 := by
  rw [Nat.div_lt_iff_lt_mul hY]
  have h1 : X / 65536 ^ j % 65536 < 65536 := Nat.mod_lt _ (by decide)
  have h2 : (R + 1) * 65536 ≤ Y * 65536 := Nat.mul_le_mul_right _ hR
  rw [Nat.mul_comm 65536 Y]
  omega
theorem long_end {x y up R : Nat} {q : Int} (hy : 0 < y) (hup : 0 < up) (hR : R < y * up) (h : ((x * up : Nat) : Int) = q * ((y * up : Nat) : Int) + R) : q = ((x / y : Nat) : Int) ∧ R = x % y * up := by
  have hd : (0 : Int) < ((y * up : Nat) : Int) := by
    have := Nat.mul_pos hy hup
    omega
  have e := div_end (x := x * up) (q := q) (r := (R : Int)) hd (by omega) (by omega) h
  simp only [Int.toNat_natCast] at e
  rw [Nat.mul_div_mul_right _ _ hup, Nat.mul_mod_mul_right] at e
  exact ⟨e.1, by omega⟩
end Go.Proofs.Pin
