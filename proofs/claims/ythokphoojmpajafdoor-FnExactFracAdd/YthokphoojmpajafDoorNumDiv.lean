/- The arithmetic of dividing by a digit from the top, and of digits cut off or laid below; no Go text in sight. -/
import Derived.Test.YthokphoojmpajafDoorNumMul
namespace Go.Proofs.Pin
open Go.RowKit

theorem drop_set {zs : List Int} {j : Nat} {v : Int} (h : j < zs.length) : (zs.set j v).drop j = v :: zs.drop (j + 1) := by
  apply List.ext_getElem?
  intro i
  rw [List.getElem?_drop]
  cases i with
  | zero => simp [h]
  | succ i =>
    rw [List.getElem?_set_ne (by omega)]
    simp [List.getElem?_drop]
    congr 1
    omega
/-- One digit more of a quotient by d. -/
theorem div_step {A out : List Int} {j : Nat} {d r : Int} (hA : j < A.length) (ho : j < out.length) (h : val (A.drop (j + 1)) = val (out.drop (j + 1)) * d + r) :
    val (A.drop j) = val ((out.set j ((r * 65536 + A.getD j 0) / d)).drop j) * d + (r * 65536 + A.getD j 0) % d := by
  rw [drop_set ho, val_drop hA, h]
  simp only [val]
  have e := Int.emod_add_mul_ediv (r * 65536 + A.getD j 0) d
  have e3 : (r * 65536 + A.getD j 0) / d * d = d * ((r * 65536 + A.getD j 0) / d) := Int.mul_comm _ _
  rw [Int.add_mul, e3]
  have e2 : 65536 * val (out.drop (j + 1)) * d = 65536 * (val (out.drop (j + 1)) * d) := Int.mul_assoc _ _ _
  rw [e2]
  omega
theorem div_digit {r a d : Int} (hd : 0 < d) (hd2 : d ≤ 65536) (hr0 : 0 ≤ r) (hr1 : r < d) (ha0 : 0 ≤ a) (ha1 : a < 65536) : 0 ≤ (r * 65536 + a) / d ∧ (r * 65536 + a) / d < 65536 := by
  refine ⟨Int.ediv_nonneg (by omega) (by omega), ?_⟩
  apply Int.ediv_lt_of_lt_mul hd
  have : r * 65536 + a < (r + 1) * 65536 := by omega
  have h2 : (r + 1) * 65536 ≤ d * 65536 := by omega
  rw [Int.mul_comm]
  omega
theorem mod_bound {s d : Int} (hd : 0 < d) : 0 ≤ s % d ∧ s % d < d := ⟨Int.emod_nonneg _ (by omega), Int.emod_lt_of_pos _ hd⟩
theorem div_end {x : Nat} {q r d : Int} (hd : 0 < d) (hr0 : 0 ≤ r) (hr1 : r < d) (h : (x : Int) = q * d + r) : q = ((x / d.toNat : Nat) : Int) ∧ r = ((x % d.toNat : Nat) : Int) := by
  obtain ⟨m, rfl⟩ : ∃ m : Nat, d = m := ⟨d.toNat, by omega⟩
  have h1 : (x : Int) / m = q := by
    rw [h]
    rw [Int.add_comm, Int.add_mul_ediv_right _ _ (by omega), Int.ediv_eq_zero_of_lt hr0 hr1]
    omega
  have h2 : (x : Int) % m = r := by
    rw [h, Int.add_comm, Int.add_mul_emod_self_right, Int.emod_eq_of_lt hr0 hr1]
  constructor
  · rw [← h1]; simp
  · rw [← h2]; simp

theorem dgs_drop (k x : Nat) : (dgs x).drop k = dgs (x / 65536 ^ k) := by
  induction k generalizing x with
  | zero => simp
  | succ k ih =>
    by_cases h0 : x = 0
    · subst h0
      simp [dgs_zero]
    · rw [dgs_pos h0, List.drop_succ_cons, ih, Nat.div_div_eq_div_mul, Nat.pow_succ, Nat.mul_comm]
theorem dgs_shift (k x : Nat) (h : x ≠ 0) : List.replicate k (0 : Int) ++ dgs x = dgs (x * 65536 ^ k) := by
  refine dgs_of ((Dg.zeros k).append (Dg_dgs x)) ?_ ?_
  · rw [val_append, val_zeros, val_dgs, List.length_replicate, pw_nat]
    simp
    rw [Int.mul_comm]
  · right
    rcases can_dgs x with hc | hc
    · have := val_dgs x
      rw [List.length_eq_zero_iff.mp hc] at this
      simp [val] at this
      omega
    · have hl : 0 < (dgs x).length := by
        rcases Nat.eq_zero_or_pos (dgs x).length with h1 | h1
        · have := val_dgs x
          rw [List.length_eq_zero_iff.mp h1] at this
          simp [val] at this
          omega
        · exact h1
      have e : (List.replicate k (0 : Int) ++ dgs x).length - 1 = k + ((dgs x).length - 1) := by simp; omega
      rw [e]
      have e2 : (List.replicate k (0 : Int) ++ dgs x).getD (k + ((dgs x).length - 1)) 0 = (dgs x).getD ((dgs x).length - 1) 0 := by
        simp [List.getD_eq_getElem?_getD, List.getElem?_append_right]
      rw [e2]
      exact hc
theorem dgs_digit {d : Nat} (h0 : d ≠ 0) (h1 : d < 65536) : dgs d = [(d : Int)] := by
  rw [dgs_pos h0]
  have e1 : d % 65536 = d := by omega
  have e2 : d / 65536 = 0 := by omega
  rw [e1, e2, dgs_zero]
end Go.Proofs.Pin
