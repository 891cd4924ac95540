/- The contract of digits.minus. -/
import Derived.Test.YthokphoojmpajahDoorTakeOff
import Derived.Test.YthokphoojmpajahDoorGAr
import Derived.Test.YthokphoojmpajahDoorGSA
import Derived.Test.YthokphoojmpajahDoorCopied
namespace Go.Proofs.YthokphoojmpajahDoor
open Go.RowKit Go.Proofs.Pin

theorem minus_val {x y : Nat} {A B out : List Int} {c : Int} (hA : A = dgs x) (hB : B = dgs y) (hxy : y ≤ x) (hl : out.length = A.length) (hd : Dg out) (hc : 0 ≤ c) (h : val out - c * pw A.length = val A - 1 * pv B A.length) : val out = ((x - y : Nat) : Int) := by
  subst hA
  subst hB
  rw [val_dgs, pv_all (dgs_len_le hxy), val_dgs] at h
  have h1 := val_lt' hd
  rw [hl] at h1
  have h2 := val_nonneg hd
  have h3 := pw_pos (dgs x).length
  by_cases e : c = 0
  · subst e
    simp at h
    omega
  · have h4 : pw (dgs x).length ≤ c * pw (dgs x).length := by
      have h5 : 1 * pw (dgs x).length ≤ c * pw (dgs x).length := Int.mul_le_mul_of_nonneg_right (by omega) (by omega)
      omega
    omega

end Go.Proofs.YthokphoojmpajahDoor
