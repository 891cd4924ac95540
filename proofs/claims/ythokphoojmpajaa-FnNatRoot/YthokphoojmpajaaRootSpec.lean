/- The contract of spec.l1Root: the digits of the square root, down, bit by bit. -/
import Derived.Test.YthokphoojmpajaaPow2
import Derived.Test.YthokphoojmpajaaAdd
import Derived.Test.YthokphoojmpajaaMul
import Derived.Test.YthokphoojmpajaaCmp
import Derived.Deep.LoopGhost
namespace Go.Proofs.Ythokphoojmpajaa
open Go.RowKit Go.Proofs.Pin

theorem root_len {r x : Nat} (h : r * r ≤ x) (hx : (dgs x).length ≤ 256) : (dgs r).length ≤ 256 := by
  refine Nat.le_trans (dgs_len_le ?_) hx
  rcases Nat.eq_zero_or_pos r with h0 | h0
  · omega
  · have := Nat.le_mul_of_pos_left r h0
    omega
theorem sg_le {x y : Int} (h : x ≤ y) : sg x y ≤ 0 := by
  rcases Int.lt_or_eq_of_le h with h1 | h1
  · rw [sg_lt h1]; decide
  · rw [sg_eq h1]; decide

end Go.Proofs.Ythokphoojmpajaa
