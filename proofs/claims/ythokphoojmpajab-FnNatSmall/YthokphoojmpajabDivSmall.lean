/- The contracts of spec.l1DivSmall, l1Times, l1Top, l1Shl. -/
import Derived.Test.YthokphoojmpajabMul
import Derived.Test.YthokphoojmpajabNumDiv
namespace Go.Proofs.Ythokphoojmpajab
open Go.RowKit Go.Proofs.Pin

theorem own_lit (w : World) (z : Int) : OwnI (w.alloc (.cells #[.int .i64 z] 3)) w.heap.size (some ⟨w.heap.size, 0, none⟩) 1 [z] := World.ownsRow_lit w #[.int .i64 z] 1 (Nat.le_refl _) (by unfold maxLen; omega) (by simp)

end Go.Proofs.Ythokphoojmpajab
