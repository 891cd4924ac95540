/- The arithmetic of multiplying digit by digit; no Go text in sight. -/
import Derived.Test.YthokphoojmpajafDoorNumAdd
namespace Go.Proofs.Pin
open Go.RowKit

theorem getD_set {zs : List Int} {k p : Nat} {v : Int} (hk : k < zs.length) : (zs.set k v).getD p 0 = if k = p then v else zs.getD p 0 := by
  by_cases e : k = p
  · subst e
    simp [List.getD_eq_getElem?_getD, hk]
  · simp [List.getD_eq_getElem?_getD, e]

/-- One digit times one digit, laid on a row. -/
theorem mul_step {out : List Int} {i j : Nat} {p q c V pvB : Int} (hk : i + j < out.length) (h : val out + c * pw (i + j) = V + p * pvB * pw i) :
    val (out.set (i + j) ((out.getD (i + j) 0 + p * q + c) % 65536)) + (out.getD (i + j) 0 + p * q + c) / 65536 * pw (i + j + 1) = V + p * (pvB + q * pw j) * pw i := by
  have e := carry_eq (out.getD (i + j) 0 + p * q + c) (pw (i + j))
  rw [val_set _ hk, pw_succ]
  rw [Int.add_mul, Int.add_mul] at e
  have e2 : p * (pvB + q * pw j) * pw i = p * pvB * pw i + p * q * pw (i + j) := by
    rw [Int.mul_add, Int.add_mul, pw_add, ← Int.mul_assoc, Int.mul_assoc (p * q) (pw j) (pw i), Int.mul_comm (pw j) (pw i)]
  rw [Int.sub_mul, e2]
  omega
/-- The end of a row: the carry goes where nothing lay. -/
theorem mul_row {out A B : List Int} {i : Nat} {c : Int} (hk : i + B.length < out.length) (hz : out.getD (i + B.length) 0 = 0) (h : val out + c * pw (i + B.length) = pv A i * val B + A.getD i 0 * val B * pw i) :
    val (out.set (i + B.length) c) = pv A (i + 1) * val B := by
  rw [val_set _ hk, hz, pv_succ, Int.add_mul]
  have e : A.getD i 0 * pw i * val B = A.getD i 0 * val B * pw i := by rw [Int.mul_assoc, Int.mul_comm (pw i), ← Int.mul_assoc]
  rw [e]
  simp only [Int.sub_zero]
  omega
theorem digProd {p q : Int} (hp : 0 ≤ p ∧ p < 65536) (hq : 0 ≤ q ∧ q < 65536) : 0 ≤ p * q ∧ p * q ≤ 4294836225 := by
  refine ⟨Int.mul_nonneg hp.1 hq.1, ?_⟩
  have h1 : p * q ≤ p * 65535 := Int.mul_le_mul_of_nonneg_left (by omega) hp.1
  omega
theorem row_dgs {out : List Int} {n : Nat} (hd : Dg out) (hv : val out = n) : out.take (trimN out out.length) = dgs n := by
  rw [trim_dgs hd, hv]
  simp
end Go.Proofs.Pin
