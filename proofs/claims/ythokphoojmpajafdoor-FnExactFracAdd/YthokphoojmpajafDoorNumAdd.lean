/- The arithmetic of adding and taking off digit by digit; no Go text in sight. -/
import Derived.Test.YthokphoojmpajafDoorNum
namespace Go.Proofs.Pin
open Go.RowKit

theorem carry_eq (s P : Int) : s % 65536 * P + s / 65536 * (P * 65536) = s * P := by
  have h := Int.emod_add_mul_ediv s 65536
  have h2 : s / 65536 * (P * 65536) = (65536 * (s / 65536)) * P := by rw [Int.mul_comm P 65536, ← Int.mul_assoc, Int.mul_comm (s / 65536) 65536]
  rw [h2, ← Int.add_mul, h]
theorem pv_snoc {xs : List Int} {z : Int} : pv (xs ++ [z]) (xs.length + 1) = val xs + z * pw xs.length := by
  rw [pv_succ, pv_append]
  have : (xs ++ [z]).getD xs.length 0 = z := by simp [List.getD_eq_getElem?_getD]
  rw [this]
/-- A digit more of a sum. -/
theorem add_step {A B out : List Int} {k : Nat} {c : Int} (hl : out.length = k) (h : val out + c * pw k = pv A k + pv B k) :
    val (out ++ [(A.getD k 0 + B.getD k 0 + c) % 65536]) + (A.getD k 0 + B.getD k 0 + c) / 65536 * pw (k + 1) = pv A (k + 1) + pv B (k + 1) := by
  have e := carry_eq (A.getD k 0 + B.getD k 0 + c) (pw k)
  rw [val_snoc, hl, pw_succ, pv_succ, pv_succ]
  rw [Int.add_mul, Int.add_mul] at e
  rw [Int.mul_comm (pw k)]
  omega
/-- Digits of n or more places that are worth the base's n-th power less one have a last digit. -/
theorem can_of_le {R : List Int} (hd : Dg R) (h : R.length = 0 ∨ pw (R.length - 1) ≤ val R) : Can R := by
  rcases h with h | h
  · exact .inl h
  · by_cases h0 : R.length = 0
    · exact .inl h0
    · right
      intro e
      have e1 : R = R.take (R.length - 1) ++ [0] := by
        have e2 : R.length = (R.length - 1) + 1 := by omega
        have e3 := List.take_succ_eq_append_getElem (l := R) (i := R.length - 1) (by omega)
        rw [← e2, List.take_length] at e3
        have e4 : R[R.length - 1]'(by omega) = 0 := by simpa [List.getD_eq_getElem?_getD, List.getElem?_eq_getElem (show R.length - 1 < R.length by omega)] using e
        rw [e4] at e3
        exact e3
      have e5 := val_lt' (hd.take (R.length - 1))
      have e6 : (R.take (R.length - 1)).length = R.length - 1 := by rw [List.length_take]; omega
      rw [e6] at e5
      have e7 := congrArg val e1
      rw [val_snoc] at e7
      simp at e7
      omega
theorem can_ge {zs : List Int} (hd : Dg zs) (hc : Can zs) (h0 : 0 < zs.length) : pw (zs.length - 1) ≤ val zs := by
  rcases hc with h | h
  · omega
  · have e3 := List.take_succ_eq_append_getElem (l := zs) (i := zs.length - 1) (by omega)
    have e2 : zs.length - 1 + 1 = zs.length := by omega
    rw [e2, List.take_length] at e3
    have e6 : (zs.take (zs.length - 1)).length = zs.length - 1 := by rw [List.length_take]; omega
    have e7 := congrArg val e3
    rw [val_snoc, e6] at e7
    have e8 := val_nonneg (hd.take (zs.length - 1))
    have e9 := hd (zs.length - 1) (by omega)
    have e10 : zs.getD (zs.length - 1) 0 = zs[zs.length - 1]'(by omega) := by simp [List.getD_eq_getElem?_getD, List.getElem?_eq_getElem (show zs.length - 1 < zs.length by omega)]
    rw [e10] at h e9
    have e11 := pw_pos (zs.length - 1)
    have e12 : pw (zs.length - 1) * 1 ≤ pw (zs.length - 1) * zs[zs.length - 1]'(by omega) := Int.mul_le_mul_of_nonneg_left (by omega) (by omega)
    omega
theorem dgs_of {R : List Int} {n : Nat} (hd : Dg R) (hv : val R = n) (hc : Can R) : R = dgs n := by
  have h := dgs_val hd hc
  rw [hv] at h
  simpa using h.symm
theorem no_carry {x y : Int} {m la lb : Nat} (hx : x < pw la) (hy : y < pw lb) (h1 : la ≤ m) (h2 : lb ≤ m) : x + y < pw (m + 1) := by
  have e1 := pw_le h1
  have e2 := pw_le h2
  have e3 := pw_pos m
  rw [pw_succ]
  omega
/-- A row that is one place longer than both: nothing is carried out of it. -/
theorem sum_row {A B out : List Int} {x y n : Nat} {c : Int} (dA : Dg A) (dB : Dg B) (vA : val A = x) (vB : val B = y) (hn : n = max A.length B.length + 1) (hd : Dg out) (hc : c = 0 ∨ c = 1) (h : val out + c * pw n = x + pv B n) : (val out).toNat = x + y := by
  rw [pv_all (by omega), vB] at h
  have h1 := val_lt' dA
  have h2 := val_lt' dB
  rw [vA] at h1
  rw [vB] at h2
  have h3 := no_carry (m := max A.length B.length) h1 h2 (by omega) (by omega)
  rw [← hn] at h3
  have h4 := val_nonneg hd
  rcases hc with rfl | rfl
  · simp at h
    omega
  · omega
/-- The end of a sum: no carry, or the carry as the last digit. -/
theorem add_end {x y n : Nat} {out : List Int} {c : Int} (hn : n = max (dgs x).length (dgs y).length) (hl : out.length = n) (hd : Dg out) (hc : c = 0 ∨ c = 1) (h : val out + c * pw n = pv (dgs x) n + pv (dgs y) n) :
    (c = 0 → out = dgs (x + y)) ∧ (c = 1 → out ++ [c] = dgs (x + y)) := by
  have hx : pv (dgs x) n = x := by rw [pv_all (by omega), val_dgs]
  have hy : pv (dgs y) n = y := by rw [pv_all (by omega), val_dgs]
  rw [hx, hy] at h
  constructor
  · rintro rfl
    have hv : val out = ((x + y : Nat) : Int) := by simp at h; omega
    refine dgs_of hd hv (can_of_le hd ?_)
    by_cases h0 : out.length = 0
    · exact .inl h0
    · right
      rw [hv]
      rcases Nat.le_total (dgs x).length (dgs y).length with hm | hm
      · have e := can_ge (Dg_dgs y) (can_dgs y) (by omega)
        rw [val_dgs] at e
        have : out.length = (dgs y).length := by omega
        rw [this]; omega
      · have e := can_ge (Dg_dgs x) (can_dgs x) (by omega)
        rw [val_dgs] at e
        have : out.length = (dgs x).length := by omega
        rw [this]; omega
  · rintro rfl
    have hv : val (out ++ [1]) = ((x + y : Nat) : Int) := by rw [val_snoc, hl]; omega
    refine dgs_of (hd.snoc (by omega) (by omega)) hv ?_
    right
    simp [List.getD_eq_getElem?_getD]
end Go.Proofs.Pin
