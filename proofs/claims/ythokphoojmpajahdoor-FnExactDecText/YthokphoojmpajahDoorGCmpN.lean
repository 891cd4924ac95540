/- Comparing digits from the top is comparing the numbers; no Go text in sight. Numbers for the fractions: how long products and sums are; no Go text in sight. -/
import Derived.Test.YthokphoojmpajahDoorCmp
import Derived.Test.YthokphoojmpajahDoorGNum
namespace Go.Proofs.YthokphoojmpajahDoor
open Go.RowKit Go.Proofs.Pin

theorem pv_nonneg {zs : List Int} (hd : Dg zs) (k : Nat) : 0 ≤ pv zs k ∧ pv zs k < pw k := by
  induction k with
  | zero => exact ⟨by simp [pv], by simp [pv, pw]⟩
  | succ k ih =>
    have h := hd.at k
    have hp := pw_pos k
    have h1 : 0 ≤ zs.getD k 0 * pw k := Int.mul_nonneg h.1 (by omega)
    have h2 : zs.getD k 0 * pw k ≤ 65535 * pw k := Int.mul_le_mul_of_nonneg_right (by omega) (by omega)
    rw [pv_succ, pw_succ]
    omega
theorem pv_digit_lt {xs ys : List Int} (hx : Dg xs) (hy : Dg ys) {k : Nat} (h : xs.getD k 0 < ys.getD k 0) : pv xs (k + 1) < pv ys (k + 1) := by
  have h1 := pv_nonneg hx k
  have h2 := pv_nonneg hy k
  have hp := pw_pos k
  have h3 : (xs.getD k 0 + 1) * pw k ≤ ys.getD k 0 * pw k := Int.mul_le_mul_of_nonneg_right (by omega) (by omega)
  rw [Int.add_mul] at h3
  rw [pv_succ, pv_succ]
  omega
theorem cmpFrom_pv {xs ys : List Int} (hx : Dg xs) (hy : Dg ys) (k : Nat) : cmpFrom xs ys k = sg (pv xs k) (pv ys k) := by
  induction k with
  | zero => rfl
  | succ k ih =>
    by_cases e : xs.getD k 0 = ys.getD k 0
    · rw [cmpFrom_same e, ih, pv_succ, pv_succ, e]
      unfold sg
      split <;> split <;> (try split) <;> omega
    · rw [cmpFrom_other e]
      rcases Int.lt_or_gt_of_ne e with h | h
      · rw [sg_lt h, sg_lt (pv_digit_lt hx hy h)]
      · rw [sg_gt h, sg_gt (pv_digit_lt hy hx h)]
theorem len_lt {x y : Nat} (h : (dgs x).length < (dgs y).length) : x < y := by
  have h1 : x < 65536 ^ (dgs x).length := (dgs_len_iff x _).1 (Nat.le_refl _)
  have h2 : ¬ y < 65536 ^ (dgs x).length := fun e => by have := (dgs_len_iff y _).2 e; omega
  omega
theorem cmp_dgs (x y : Nat) : cmpL (dgs x) (dgs y) = sg x y := by
  by_cases h : (dgs x).length = (dgs y).length
  · rw [cmpL_eq h, cmpFrom_pv (Dg_dgs x) (Dg_dgs y), pv_val, h, pv_val, val_dgs, val_dgs]
  · rw [cmpL_ne h]
    rcases Nat.lt_or_gt_of_ne h with h1 | h1
    · rw [sg_lt (by omega), sg_lt (by have := len_lt h1; omega)]
    · rw [sg_gt (by omega), sg_gt (by have := len_lt h1; omega)]
theorem dgs_len_le {x y : Nat} (h : x ≤ y) : (dgs x).length ≤ (dgs y).length := by
  rw [dgs_len_iff]
  have h2 : y < 65536 ^ (dgs y).length := (dgs_len_iff y _).1 (Nat.le_refl _)
  omega

/-- A digit more of a difference. -/
theorem sub_step {A B out : List Int} {k : Nat} {c s : Int} (hl : out.length = k) (h : val out - c * pw k = pv A k - pv B k) (hs : s = A.getD k 0 - B.getD k 0 - c) :
    (0 ≤ s → val (out ++ [s]) - 0 * pw (k + 1) = pv A (k + 1) - pv B (k + 1)) ∧ (s < 0 → val (out ++ [s + 65536]) - 1 * pw (k + 1) = pv A (k + 1) - pv B (k + 1)) := by
  have e : s * pw k = A.getD k 0 * pw k - B.getD k 0 * pw k - c * pw k := by rw [hs, Int.sub_mul, Int.sub_mul]
  constructor
  · intro _
    rw [val_snoc, hl, pv_succ, pv_succ, Int.mul_comm (pw k), e]
    simp only [Int.zero_mul]
    omega
  · intro _
    rw [val_snoc, hl, pv_succ, pv_succ, Int.mul_comm (pw k), Int.add_mul, e, pw_succ]
    omega
end Go.Proofs.YthokphoojmpajahDoor

namespace Go.Proofs.YthokphoojmpajahDoor
open Go.RowKit Go.Proofs.Pin

theorem dgs_lt (x : Nat) : x < 65536 ^ (dgs x).length := (dgs_len_iff x _).1 (Nat.le_refl _)
theorem len_mul2 (x y : Nat) : (dgs (x * y)).length ≤ (dgs x).length + (dgs y).length := by
  refine dgs_small ?_
  rw [Nat.pow_add]
  exact Nat.lt_of_le_of_lt (Nat.mul_le_mul_left x (Nat.le_of_lt (dgs_lt y))) (Nat.mul_lt_mul_of_pos_right (dgs_lt x) (Nat.pow_pos (by omega)))
theorem len_add2 (x y : Nat) : (dgs (x + y)).length ≤ max (dgs x).length (dgs y).length + 1 := by
  refine dgs_small ?_
  have h1 : x < 65536 ^ max (dgs x).length (dgs y).length := Nat.lt_of_lt_of_le (dgs_lt x) (Nat.pow_le_pow_right (by omega) (Nat.le_max_left _ _))
  have h2 : y < 65536 ^ max (dgs x).length (dgs y).length := Nat.lt_of_lt_of_le (dgs_lt y) (Nat.pow_le_pow_right (by omega) (Nat.le_max_right _ _))
  rw [Nat.pow_succ]
  omega
theorem len_sub2 (x y : Nat) : (dgs (x - y)).length ≤ (dgs x).length := dgs_len_le (Nat.sub_le _ _)
theorem dgs_nil_iff (x : Nat) : dgs x = [] ↔ x = 0 := by
  constructor
  · intro h
    have := val_dgs x
    rw [h] at this
    simp [val] at this
    omega
  · intro h; rw [h]; rfl
theorem dgs_pos_len (x : Nat) : 0 < (dgs x).length ↔ x ≠ 0 := by
  rw [List.length_pos_iff, Ne, Ne, dgs_nil_iff]
theorem dgs_inj2 {x y : Nat} (h : dgs x = dgs y) : x = y := by
  have h1 := val_dgs x
  have h2 := val_dgs y
  rw [h] at h1
  omega
theorem dgs_is1 : dgs 1 = [1] := rfl
end Go.Proofs.YthokphoojmpajahDoor
