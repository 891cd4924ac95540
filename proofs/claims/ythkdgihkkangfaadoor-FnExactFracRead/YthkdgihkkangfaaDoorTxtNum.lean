/- The decimals of a number, the lowest first, and its text; no Go text in sight. -/
import Derived.Test.YthkdgihkkangfaaDoorTextNum
namespace Go.Proofs.Pin
open Go.RowKit

/-- The low j decimals of n, the lowest first, as bytes. -/
def low : Nat → Nat → List Int
  | 0, _ => []
  | j + 1, n => low j n ++ [48 + ((n / 10 ^ j % 10 : Nat) : Int)]
theorem low_len (j n : Nat) : (low j n).length = j := by
  induction j with
  | zero => rfl
  | succ j ih => simp [low, ih]
theorem low_get {j n : Nat} : ∀ {k}, k < j → (low j n).getD k 0 = 48 + ((n / 10 ^ k % 10 : Nat) : Int) := by
  induction j with
  | zero => intro k hk; omega
  | succ j ih =>
    intro k hk
    simp only [low]
    by_cases h : k < j
    · rw [← ih h, List.getD_eq_getElem?_getD, List.getD_eq_getElem?_getD, List.getElem?_append_left (by rw [low_len]; exact h)]
    · have e : k = j := by omega
      subst e
      rw [List.getD_eq_getElem?_getD, List.getElem?_append_right (by rw [low_len]; exact Nat.le_refl _), low_len]
      simp
theorem low_take {j k n : Nat} (h : k ≤ j) : (low j n).take k = low k n := by
  induction j with
  | zero =>
    have : k = 0 := by omega
    subst this
    rfl
  | succ j ih =>
    by_cases e : k = j + 1
    · subst e
      rw [List.take_of_length_le (by rw [low_len]; exact Nat.le_refl _)]
    · simp only [low]
      rw [List.take_append_of_le_length (by rw [low_len]; omega), ih (by omega)]
/-- How many decimals n has. -/
def nd (n : Nat) : Nat := if h : n = 0 then 0 else nd (n / 10) + 1
termination_by n
decreasing_by omega
theorem nd_zero : nd 0 = 0 := by rw [nd]; simp
theorem nd_pos {n : Nat} (h : n ≠ 0) : nd n = nd (n / 10) + 1 := by rw [nd]; simp [h]
theorem nd_lt (n : Nat) : n < 10 ^ nd n := by
  induction n using Nat.strongRecOn with
  | ind n ih =>
    by_cases h : n = 0
    · subst h; rw [nd_zero]; decide
    · rw [nd_pos h, Nat.pow_succ]
      have := ih (n / 10) (by omega)
      omega
theorem nd_ge {n : Nat} (h0 : n ≠ 0) : 10 ^ (nd n - 1) ≤ n := by
  induction n using Nat.strongRecOn with
  | ind n ih =>
    rw [nd_pos h0, Nat.add_sub_cancel]
    by_cases h : n / 10 = 0
    · rw [h, nd_zero]
      omega
    · have h1 := ih (n / 10) (by omega) h
      have h2 := nd_pos h
      have h3 : 10 ^ nd (n / 10) = 10 ^ (nd (n / 10) - 1) * 10 := by rw [← Nat.pow_succ]; congr 1; omega
      omega
theorem pow_lt_inv {a b : Nat} (h : 10 ^ a < 10 ^ b) : a < b := by
  rcases Nat.lt_or_ge a b with h1 | h1
  · exact h1
  · have := Nat.pow_le_pow_right (n := 10) (by decide) h1
    omega
theorem nd_eq {n L : Nat} (h1 : n < 10 ^ L) (h2 : L = 0 ∨ 10 ^ (L - 1) ≤ n) : L = nd n := by
  by_cases h0 : n = 0
  · subst h0
    rw [nd_zero]
    rcases h2 with h2 | h2
    · exact h2
    · have := Nat.pow_pos (n := L - 1) (show 0 < 10 by decide)
      omega
  · have a := pow_lt_inv (Nat.lt_of_le_of_lt (nd_ge h0) h1)
    rcases h2 with h2 | h2
    · subst h2
      simp at h1
      omega
    · have b := pow_lt_inv (Nat.lt_of_le_of_lt h2 (nd_lt n))
      have := nd_pos h0
      omega
theorem nd_le {n K : Nat} (h : n < 10 ^ K) : nd n ≤ K := by
  by_cases h0 : n = 0
  · subst h0; rw [nd_zero]; exact Nat.zero_le _
  · have := pow_lt_inv (Nat.lt_of_le_of_lt (nd_ge h0) h)
    omega
theorem pow_five (k : Nat) : 65536 ^ k ≤ 10 ^ (5 * k) := by
  rw [Nat.pow_mul]
  exact Nat.pow_le_pow_left (by decide) k
theorem nd_len {n K : Nat} (h : (dgs n).length ≤ K) : nd n ≤ 5 * K := by
  rw [dgs_len_iff] at h
  exact nd_le (Nat.lt_of_lt_of_le h (pow_five K))
theorem nd_256 {n : Nat} (h : (dgs n).length ≤ 256) : nd n ≤ 1280 := nd_len h
/-- A byte of a number. -/
def bt (z : Int) : UInt8 := UInt8.ofNat z.toNat
theorem bt_nat {z : Int} (h0 : 0 ≤ z) (h1 : z < 256) : ((bt z).toNat : Int) = z := by
  unfold bt
  rw [UInt8.toNat_ofNat']
  omega
/-- The text of a number. -/
def txt (n : Nat) : ByteArray := if n = 0 then ⟨#[48]⟩ else ⟨((low (nd n) n).reverse.map bt).toArray⟩
theorem txt_zero : txt 0 = ⟨#[48]⟩ := rfl
theorem txt_pos {n : Nat} (h : n ≠ 0) : txt n = ⟨((low (nd n) n).reverse.map bt).toArray⟩ := by simp [txt, h]
theorem low_bd {j n k : Nat} (hk : k < j) : 48 ≤ (low j n).getD k 0 ∧ (low j n).getD k 0 ≤ 57 := by
  rw [low_get hk]
  have := Nat.mod_lt (n / 10 ^ k) (show 0 < 10 by decide)
  omega
end Go.Proofs.Pin
