/- The sum and the difference of two fractions, as numbers say it. -/
import Derived.Test.YthokphoojmpajafDoorFr6
import Derived.Test.YthokphoojmpajafDoorFop
namespace Go.Proofs.YthokphoojmpajafDoor
open Go.RowKit Go.Proofs.Pin

theorem sm_len (b b' : Bool) (m o : Nat) (hm : (dgs m).length ≤ 1000) (ho : (dgs o).length ≤ 1000) : (dgs (smT b b' m o)).length ≤ 2000 := by
  unfold smT
  split
  · have := len_add2 m o; omega
  · split
    · have := len_sub2 o m; omega
    · have := len_sub2 m o; omega
/-- The sum, in lowest terms. -/
def addA (b : Bool) (x y : Nat) (b' : Bool) (x' y' : Nat) : FAns := makeA (smB b b' (x * y') (x' * y)) (smT b b' (x * y') (x' * y)) (y * y')

def subA (b : Bool) (x y : Nat) (b' : Bool) (x' y' : Nat) : FAns := addA b x y (ngB b' x') x' y'
theorem op2A_len {f : Bool → Nat → Nat → Bool → Nat → Nat → FAns} (h : ∀ b x y b' x' y', (f b x y b' x' y').X.length ≤ 256 ∧ (f b x y b' x' y').Y.length ≤ 256) (b : Bool) (X Y : List Int) (b' : Bool) (X' Y' : List Int) : (op2A f b X Y b' X' Y').X.length ≤ 256 ∧ (op2A f b X Y b' X' Y').Y.length ≤ 256 := by
  unfold op2A
  split
  · exact h _ _ _ _ _ _
  · exact ⟨Nat.zero_le _, Nat.zero_le _⟩
theorem addA_len (b : Bool) (X Y : List Int) (b' : Bool) (X' Y' : List Int) : (op2A addA b X Y b' X' Y').X.length ≤ 256 ∧ (op2A addA b X Y b' X' Y').Y.length ≤ 256 := op2A_len (fun _ _ _ _ _ _ => makeA_len _ _ _) b X Y b' X' Y'
theorem subA_len (b : Bool) (X Y : List Int) (b' : Bool) (X' Y' : List Int) : (op2A subA b X Y b' X' Y').X.length ≤ 256 ∧ (op2A subA b X Y b' X' Y').Y.length ≤ 256 := op2A_len (fun _ _ _ _ _ _ => makeA_len _ _ _) b X Y b' X' Y'
theorem mulA_len (b : Bool) (X Y : List Int) (b' : Bool) (X' Y' : List Int) : (op2A mulA b X Y b' X' Y').X.length ≤ 256 ∧ (op2A mulA b X Y b' X' Y').Y.length ≤ 256 := op2A_len (fun _ _ _ _ _ _ => makeA_len _ _ _) b X Y b' X' Y'
theorem divA_len (b : Bool) (X Y : List Int) (b' : Bool) (X' Y' : List Int) : (op2A divA b X Y b' X' Y').X.length ≤ 256 ∧ (op2A divA b X Y b' X' Y').Y.length ≤ 256 := op2A_len (fun _ _ _ _ _ _ => by
  unfold divA
  split
  · exact ⟨Nat.zero_le _, Nat.zero_le _⟩
  · exact makeA_len _ _ _) b X Y b' X' Y'
end Go.Proofs.YthokphoojmpajafDoor
