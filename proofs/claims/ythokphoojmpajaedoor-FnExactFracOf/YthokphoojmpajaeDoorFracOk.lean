/- The contracts of spec.FracOk and impl.FracOk: a fraction in lowest terms. -/
import Derived.Test.YthokphoojmpajaeDoorGMark
import Derived.Test.YthokphoojmpajaeDoorGGcd
import Derived.Test.YthokphoojmpajaeDoorFracLaw
namespace Go.Proofs.YthokphoojmpajaeDoor
open Go.RowKit Go.Proofs.Pin

/-- What FracOk lets by. -/
def fokB (b : Bool) (X Y : List Int) : Bool := okB X && (okB Y && (decide (Y ≠ []) && (!(b && decide (X = [])) && decide (Nat.gcd (val X).toNat (val Y).toNat = 1))))
theorem fok_yes {b : Bool} {x y : Nat} (hx : (dgs x).length ≤ 256) (hy : (dgs y).length ≤ 256) (h0 : dgs y ≠ []) (h1 : (b && decide (dgs x = [])) = false) : fokB b (dgs x) (dgs y) = decide (Nat.gcd x y = 1) := by
  unfold fokB
  rw [dgs_ok hx, dgs_ok hy, h1, val_dgs, val_dgs, Int.toNat_natCast, Int.toNat_natCast]
  simp [h0]
theorem fok_no1 {b : Bool} {X Y : List Int} (h : okB X = false) : fokB b X Y = false := by simp [fokB, h]
theorem fok_no2 {b : Bool} {X Y : List Int} (h : okB Y = false) : fokB b X Y = false := by simp [fokB, h]
theorem fok_no3 {b : Bool} {X : List Int} : fokB b X [] = false := by simp [fokB]
theorem fok_no4 {Y : List Int} : fokB true [] Y = false := by simp [fokB]
theorem one_dgs (g : Nat) : decide (dgs g = [1]) = decide (g = 1) := by
  have d1 : dgs 1 = [1] := dgs_digit (by decide) (by decide)
  by_cases h : g = 1
  · subst h; simp [d1]
  · have : dgs g ≠ [1] := by
      intro e
      have hv := congrArg val e
      rw [val_dgs, ← d1, val_dgs] at hv
      omega
    simp [h, this]

end Go.Proofs.YthokphoojmpajaeDoor
