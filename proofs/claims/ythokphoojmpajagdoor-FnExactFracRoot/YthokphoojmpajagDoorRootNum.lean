/- The arithmetic of the square root, down: bit by bit, and by Newton's way from above; no Go text in sight. -/
import Derived.Test.YthokphoojmpajagDoorBits
import Derived.Test.YthokphoojmpajagDoorGCmpN
import Derived.Test.YthokphoojmpajagDoorArith
namespace Go.Proofs.YthokphoojmpajagDoor
open Go.RowKit Go.Proofs.Pin

def rtF (n : Nat) : Nat → Nat
  | 0 => 0
  | k + 1 => if (k + 1) * (k + 1) ≤ n then k + 1 else rtF n k
/-- The square root, down. -/
def rt (n : Nat) : Nat := rtF n n
theorem rtF_ok (n : Nat) : ∀ k, n < (k + 1) * (k + 1) → rtF n k * rtF n k ≤ n ∧ n < (rtF n k + 1) * (rtF n k + 1)
  | 0, h => by
    simp only [rtF]
    omega
  | k + 1, h => by
    simp only [rtF]
    split
    · rename_i h1
      exact ⟨h1, h⟩
    · rename_i h1
      exact rtF_ok n k (by omega)
theorem rt_ok (n : Nat) : rt n * rt n ≤ n ∧ n < (rt n + 1) * (rt n + 1) := by
  refine rtF_ok n n ?_
  rw [Nat.add_mul, Nat.mul_add]
  omega
theorem sq_lt {r s : Nat} (h : r * r < s * s) : r < s := by
  apply Nat.lt_of_not_le
  intro k
  have := Nat.mul_le_mul k k
  omega
theorem rt_eq {n r : Nat} (h1 : r * r ≤ n) (h2 : n < (r + 1) * (r + 1)) : r = rt n := by
  obtain ⟨k1, k2⟩ := rt_ok n
  have a := sq_lt (Nat.lt_of_le_of_lt h1 k2)
  have b := sq_lt (Nat.lt_of_le_of_lt k1 h2)
  omega
theorem rt_le {n r : Nat} (h : r * r ≤ n) : r ≤ rt n := by
  have := sq_lt (Nat.lt_of_le_of_lt h (rt_ok n).2)
  omega
theorem rt_lt {n g : Nat} (h : n < g * g) : rt n < g := sq_lt (Nat.lt_of_le_of_lt (rt_ok n).1 h)
theorem rt_pos {n : Nat} (h : n ≠ 0) : rt n ≠ 0 := by
  intro e
  have := (rt_ok n).2
  rw [e] at this
  omega
theorem rt_self (n : Nat) : rt n ≤ n := by
  rcases Nat.eq_zero_or_pos (rt n) with h | h
  · omega
  · have := (rt_ok n).1
    have := Nat.le_mul_of_pos_left (rt n) h
    omega

/-- Newton's next guess is not below the root. -/
theorem newton_ge {n g : Nat} (hg : rt n ≤ g) (h0 : g ≠ 0) : rt n ≤ (g + n / g) / 2 := by
  obtain ⟨k1, _⟩ := rt_ok n
  generalize rt n = r at *
  have hq : n < g * (n / g + 1) := by
    have := Nat.lt_mul_div_succ n (Nat.pos_of_ne_zero h0)
    exact this
  generalize n / g = q at *
  rcases Nat.lt_or_ge (g + q) (2 * r) with h | h
  · exfalso
    obtain ⟨t, rfl⟩ : ∃ t, g = r + t := ⟨g - r, by omega⟩
    have h1 : q + 1 + t ≤ r := by omega
    have h2 : (r + t) * (q + 1) = r * (q + 1) + t * (q + 1) := Nat.add_mul _ _ _
    have h3 : t * (q + 1) ≤ r * t := by rw [Nat.mul_comm r t]; exact Nat.mul_le_mul_left t (by omega)
    have h4 : r * (q + 1) + r * t = r * (q + 1 + t) := (Nat.mul_add _ _ _).symm
    have h5 : r * (q + 1 + t) ≤ r * r := Nat.mul_le_mul_left r h1
    omega
  · omega
/-- Where the next guess is not below it the guess is the root. -/
theorem newton_end {n g : Nat} (hg : rt n ≤ g) (h : g ≤ (g + n / g) / 2) : g = rt n := by
  have h1 : g ≤ n / g := by omega
  have h2 : g * g ≤ n := Nat.le_trans (Nat.mul_le_mul_left g h1) (Nat.mul_div_le n g)
  have := rt_le h2
  omega
/-- A bit of the root more. -/
theorem bit_yes {n r p : Nat} (h : n < (r + 2 * p) * (r + 2 * p)) : n < (r + p + p) * (r + p + p) := by rw [Nat.add_assoc, ← Nat.two_mul]; exact h

theorem bitLen_lt : ∀ (k x : Nat), x < 2 ^ k → k ≤ 63 → x < 2 ^ Lib.bitLen x
  | 0, x, h, _ => by
    have : x = 0 := by simpa using h
    subst this
    exact Nat.two_pow_pos _
  | k + 1, x, h, hk => by
    by_cases h0 : x = 0
    · subst h0; exact Nat.two_pow_pos _
    · have h64 : x < 2 ^ 64 := Nat.lt_of_lt_of_le h (Nat.pow_le_pow_right (by decide) (by omega))
      rw [Lib.bitLen_half x h0 h64, Nat.pow_add, Nat.pow_one]
      have := bitLen_lt k (x / 2) (by rw [Nat.pow_succ] at h; omega) (by omega)
      omega

theorem two_16 (k : Nat) : 2 ^ (16 * k) = 65536 ^ k := by rw [Nat.pow_mul]

theorem bits_lt {x : Nat} : (x : Int) < 2 ^ (bitsOf (dgs x)).toNat ∧ 0 ≤ bitsOf (dgs x) ∧ bitsOf (dgs x) ≤ 16 * (dgs x).length := by
  have hd := Dg_dgs x
  have hv := val_dgs x
  generalize dgs x = zs at *
  rcases Nat.eq_zero_or_pos zs.length with h0 | h0
  · rw [bitsOf_nil h0]
    rw [List.length_eq_zero_iff.mp h0] at hv
    simp only [val] at hv
    rw [← hv]
    simp
    omega
  · obtain ⟨n, hn⟩ : ∃ n, zs.length = n + 1 := ⟨zs.length - 1, by omega⟩
    have e : zs.take n ++ [zs.getD n 0] = zs := by
      rw [← take_next (by omega), ← hn, List.take_length]
    have hdz := hd.at n
    have hb : bitsOf zs = 16 * ((n : Nat) : Int) + (Lib.bitLen (zs.getD n 0).toNat : Int) := by
      rw [bitsOf_some (n := n + 1) (z := zs.getD n 0) hn.symm (by omega) (by rw [hn]; rfl)]
      omega
    have hl := bitLen_dig (z := zs.getD n 0) (by omega)
    have hlt := bitLen_lt 16 (zs.getD n 0).toNat (by omega) (by decide)
    have hval : (x : Int) < pw n * (zs.getD n 0 + 1) := by
      have h1 := val_snoc (zs.take n) (zs.getD n 0)
      rw [e, hv, List.length_take, Nat.min_eq_left (by omega)] at h1
      have h2 := val_lt' (hd.take n)
      rw [List.length_take, Nat.min_eq_left (by omega)] at h2
      rw [Int.mul_add, Int.mul_one]
      omega
    rw [hb]
    refine ⟨?_, by omega, by omega⟩
    have e2 : (16 * ((n : Nat) : Int) + (Lib.bitLen (zs.getD n 0).toNat : Int)).toNat = 16 * n + Lib.bitLen (zs.getD n 0).toNat := by omega
    rw [e2]
    have h3 : zs.getD n 0 + 1 ≤ ((2 ^ Lib.bitLen (zs.getD n 0).toNat : Nat) : Int) := by omega
    have h4 : pw n * (zs.getD n 0 + 1) ≤ pw n * ((2 ^ Lib.bitLen (zs.getD n 0).toNat : Nat) : Int) := Int.mul_le_mul_of_nonneg_left h3 (Int.le_of_lt (pw_pos n))
    have h5 : ((2 : Int) ^ (16 * n + Lib.bitLen (zs.getD n 0).toNat)) = pw n * ((2 ^ Lib.bitLen (zs.getD n 0).toNat : Nat) : Int) := by
      rw [Int.pow_add, pw_nat, ← two_16]
      push_cast
      rfl
    rw [h5]
    omega

theorem bits_nat {x : Nat} : x < 2 ^ (bitsOf (dgs x)).toNat := by
  have := (bits_lt (x := x)).1
  exact_mod_cast this

theorem half_sq {x k : Nat} (h : (bitsOf (dgs x)).toNat ≤ 2 * k) : x < 2 ^ k * 2 ^ k := by
  rw [← Nat.pow_add, ← Nat.two_mul]
  exact Nat.lt_of_lt_of_le bits_nat (Nat.pow_le_pow_right (by decide) h)

theorem pow2_split (k : Nat) : 2 ^ (k % 16) * 65536 ^ (k / 16) = 2 ^ k := by
  rw [← two_16, ← Nat.pow_add]
  congr 1
  omega
theorem dgs_one {n : Nat} (h0 : n ≠ 0) (h : n < 65536) : dgs n = [(n : Int)] := by
  rw [dgs_pos h0, Nat.mod_eq_of_lt h, Nat.div_eq_of_lt h, dgs_zero]
theorem pow16_lt (k : Nat) : 2 ^ (k % 16) < 65536 := by
  have : k % 16 ≤ 15 := by omega
  have h := Nat.pow_le_pow_right (n := 2) (by decide) this
  exact Nat.lt_of_le_of_lt h (by decide)
theorem pow_len (k : Nat) : (dgs (2 ^ k)).length ≤ k / 16 + 1 := by
  rw [dgs_len_iff, ← two_16]
  exact Nat.pow_lt_pow_right (by decide) (by omega)
theorem nz_len {v : Nat} (h : v ≠ 0) : 0 < (dgs v).length := by
  rw [dgs_pos h]
  simp
/-- How long a product is. -/
theorem mul_len {x y K L : Nat} (hx : (dgs x).length ≤ K) (hy : (dgs y).length ≤ L) : (dgs (x * y)).length ≤ K + L := by
  rw [dgs_len_iff] at hx hy ⊢
  rw [Nat.pow_add]
  exact Nat.mul_lt_mul_of_lt_of_lt hx hy
/-- How long a sum is. -/
theorem sum_len {x y K : Nat} (hx : (dgs x).length ≤ K) (hy : (dgs y).length ≤ K) : (dgs (x + y)).length ≤ K + 1 := by
  rw [dgs_len_iff] at hx hy ⊢
  rw [Nat.pow_succ]
  omega
end Go.Proofs.YthokphoojmpajagDoor
