/- The contract of spec.l1Pow2: the digits of a power of two. -/
import Derived.Test.YthokphoojmpajaaRootNum
import Derived.Test.YthokphoojmpajaaShl
namespace Go.Proofs.Ythokphoojmpajaa
open Go.RowKit Go.Proofs.Pin

theorem wrap_small (P : Nat) (h : P < 65536) : wrap64 (P : Int) = (P : Int) := by unfold wrap64; omega
theorem wrap_pow (k : Nat) : wrap64 ((2 : Int) ^ (k % 16)) = ((2 ^ (k % 16) : Nat) : Int) := by
  rw [← wrap_small _ (pow16_lt k)]
  push_cast
  rfl

end Go.Proofs.Ythokphoojmpajaa
