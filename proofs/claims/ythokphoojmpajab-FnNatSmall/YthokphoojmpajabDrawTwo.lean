/- The contract of l4Two: two lists of ints, in rows of the call's own. -/
import Derived.Test.YthokphoojmpajabDrawRaw
import Derived.Test.YthokphoojmpajabArith
namespace Go.Proofs.Ythokphoojmpajab
open Go.RowKit Go.Proofs.Pin

theorem own_blk {w : World} {base cap : Nat} {a : Option Addr} {zs : List Int} (h : OwnI w base a cap zs) : ∀ k, a.map (·.block) = some k → k < w.heap.size := by
  intro k hk
  rcases h.parts with ⟨rfl, _⟩ | ⟨g', rfl, _, hl⟩
  · cases hk
  · cases hk; exact hl
theorem trim_len (zs : List Int) : (zs.take (trimN zs zs.length)).length ≤ zs.length := by simp; omega

end Go.Proofs.Ythokphoojmpajab
