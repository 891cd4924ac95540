/- The contract of spec.l1Trim at the digits of a number: it copies them. -/
import Derived.Test.YthokphoojmpajaaGreatDoorGAr
namespace Go.Proofs.YthokphoojmpajaaGreatDoor
open Go.RowKit Go.Proofs.Pin

theorem trim_id (x : Nat) : (dgs x).take (trimN (dgs x) (dgs x).length) = dgs x := by
  rw [trim_dgs (Dg_dgs x), val_dgs, Int.toNat_natCast]
theorem l1Trim_dgs (a : Option Addr) (ca x : Nat) (w : World) (h : Sl w a (dgs x)) (hl : (dgs x).length ≤ 1048576) :
    Calls Tryz.prog 51 #[.slice a (dgs x).length ca] w fun e w' => ∃ r c, e = .returned (.slice r (dgs x).length c) ∧ OwnI w' w.heap.size r c (dgs x) ∧ Below w.heap.size w w' := by
  have h1 := l1Trim_any a ca (dgs x) w h hl
  rw [trim_id] at h1
  exact h1
end Go.Proofs.YthokphoojmpajaaGreatDoor
