/- The contract of spec.l1Sub: the digits of the difference, in a row of the call's own. -/
import Derived.Test.YthokphoojmpajabArith
import Derived.Test.YthokphoojmpajabNumCmp
import Derived.Deep.QuietTactic
import Derived.BigQuiet
namespace Go.Proofs.Ythokphoojmpajab
open Go.RowKit Go.Proofs.Pin

theorem sub_end {x y : Nat} {out : List Int} {c : Int} (hxy : y ≤ x) (hl : out.length = (dgs x).length) (hd : Dg out) (hc : c = 0 ∨ c = 1) (h : val out - c * pw (dgs x).length = pv (dgs x) (dgs x).length - pv (dgs y) (dgs x).length) : val out = ((x - y : Nat) : Int) := by
  rw [pv_val, val_dgs, pv_all (dgs_len_le hxy), val_dgs] at h
  have h1 := val_lt' hd
  rw [hl] at h1
  have h2 := val_nonneg hd
  rcases hc with rfl | rfl
  · simp at h; omega
  · omega

end Go.Proofs.Ythokphoojmpajab
