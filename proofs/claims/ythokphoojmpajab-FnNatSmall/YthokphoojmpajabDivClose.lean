/- The end of one round of spec.l1Div: the digit is stored, the product comes off the rest. -/
import Derived.Test.YthokphoojmpajabShl
import Derived.Test.YthokphoojmpajabNumLong
import Derived.Test.YthokphoojmpajabNumCmp
import Derived.Test.YthokphoojmpajabSub
import Derived.Test.YthokphoojmpajabAdd
namespace Go.Proofs.Ythokphoojmpajab
open Go.RowKit Go.Proofs.Pin

/-- What can be written: the cell of the digit. -/
theorem div_cell {j N bq : Nat} {out : List Int} {wy : World} (hj : j < N + 1) (hol : out.length = N + 1) (hq : OwnI wy bq (some ⟨bq, 0, none⟩) (N + 1) out) :
    wy.ownsRow bq 3 1 (.slice (some ⟨bq, 0, none⟩) (N + 1) (N + 1)) (N + 1) (out.map (Value.int .i64)) ∧ ∃ v, wy.cell? ⟨bq, j, none⟩ = some v := by
  have h := hq
  unfold OwnI at h
  rw [hol] at h
  refine ⟨h, ?_⟩
  rw [h.cellAt j (by omega)]
  have hl := h.1
  exact ⟨_, List.getElem?_eq_getElem (by omega)⟩
end Go.Proofs.Ythokphoojmpajab
