/- The answer of an operation on two numbers, as spec and impl give it: the digits of the number, if there is one and it fits. -/
import Derived.Test.YthokphoojmpajabDoorArith
namespace Go.Proofs.YthokphoojmpajabDoor
open Go.RowKit Go.Proofs.Pin

/-- The number's digits if it has at most 256 of them; else nothing. -/
def ansL (r : Option Nat) : List Int := match r with | some n => fitL (dgs n) | none => []
def ansB (r : Option Nat) : Bool := match r with | some n => fitB (dgs n) | none => false
/-- The operation on what NatOk lets by; nothing at anything else. -/
def op2 (f : Nat → Nat → Option Nat) (xs ys : List Int) : Option Nat := if okB xs = true then (if okB ys = true then f (val xs).toNat (val ys).toNat else none) else none
theorem ansL_len (r : Option Nat) : (ansL r).length ≤ 256 := by
  unfold ansL
  cases r with
  | none => simp
  | some n =>
    show (fitL (dgs n)).length ≤ 256
    unfold fitL
    split
    · assumption
    · simp
theorem op2_no1 {f : Nat → Nat → Option Nat} {xs ys : List Int} (h : okB xs = false) : op2 f xs ys = none := by simp [op2, h]
theorem op2_no2 {f : Nat → Nat → Option Nat} {xs ys : List Int} (h : okB ys = false) : op2 f xs ys = none := by simp [op2, h]
theorem op2_yes {f : Nat → Nat → Option Nat} {x y : Nat} (hx : (dgs x).length ≤ 256) (hy : (dgs y).length ≤ 256) : op2 f (dgs x) (dgs y) = f x y := by
  simp [op2, dgs_ok hx, dgs_ok hy, val_dgs]

theorem fit_yes {zs : List Int} (h : zs.length ≤ 256) : fitL zs = zs ∧ fitB zs = true := ⟨by simp [fitL, h], by simp [fitB, h]⟩

/-- What a function of two lists of digits that answers a list and a bool is said to do. -/
def Op2 (F : Nat) (f : Nat → Nat → Option Nat) : Prop := ∀ (a b : Option Addr) (ca cb : Nat) (xs ys : List Int) (w : World), Sl w a xs → Sl w b ys → xs.length ≤ 1048576 → ys.length ≤ 1048576 →
  Calls Tryd.prog F #[.slice a xs.length ca, .slice b ys.length cb] w fun e w' => ∃ r cr, e = .returned (.tuple #[.slice r (ansL (op2 f xs ys)).length cr, .bool (ansB (op2 f xs ys))]) ∧ OwnI w' w.heap.size r cr (ansL (op2 f xs ys)) ∧ Below w.heap.size w w'
end Go.Proofs.YthokphoojmpajabDoor
