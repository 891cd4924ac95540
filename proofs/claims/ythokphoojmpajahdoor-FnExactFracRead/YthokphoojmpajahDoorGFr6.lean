/- Fractions as impl reckons with them: plus. Fractions as impl reckons with them: sumOf, of two. The sum and the difference of two fractions, as numbers say it. -/
import Derived.Test.YthokphoojmpajahDoorGAr
import Derived.Test.YthokphoojmpajahDoorMinus
import Derived.Test.YthokphoojmpajahDoorCompare
import Derived.Test.YthokphoojmpajahDoorGCmpN
import Derived.Deep.Cut
import Derived.Test.YthokphoojmpajahDoorGFr8
namespace Go.Proofs.YthokphoojmpajahDoor
open Go.RowKit Go.Proofs.Pin

/-- The top and the sign of a sum: m and o are brought to one bottom. -/
def smT (b b' : Bool) (m o : Nat) : Nat := if b = b' then m + o else if m < o then o - m else m - o
def smB (b b' : Bool) (m o : Nat) : Bool := if b = b' then b else if m < o then b' else b

theorem plus_fin {w w5 V : World} {g r5b rDb c5 cD : Nat} {r5 rD : Option Addr} {S D : List Int} (o5 : OwnI w5 r5b r5 c5 S) (hg5 : g < r5b) (oD : OwnI w5 rDb rD cD D) (hgD : ∀ k, rD.map (·.block) = some k → k ≠ g) (gV : w5.grownBy V (some g)) (B5 : Below w.heap.size w w5) (h2 : w.heap.size + 1 + 1 < rDb) (hW : rDb ≤ g) (x y z : Value) :
    OwnI (((V.setCell ⟨w.heap.size + 1 + 1, 0, none⟩ x).setCell ⟨w.heap.size + 1 + 1, 1, none⟩ y).setCell ⟨w.heap.size + 1 + 1, 2, none⟩ z) w.heap.size r5 c5 S ∧ OwnI (((V.setCell ⟨w.heap.size + 1 + 1, 0, none⟩ x).setCell ⟨w.heap.size + 1 + 1, 1, none⟩ y).setCell ⟨w.heap.size + 1 + 1, 2, none⟩ z) w.heap.size rD cD D ∧ Below w.heap.size w (((V.setCell ⟨w.heap.size + 1 + 1, 0, none⟩ x).setCell ⟨w.heap.size + 1 + 1, 1, none⟩ y).setCell ⟨w.heap.size + 1 + 1, 2, none⟩ z) :=
  ⟨(own_far (own_far o5 gV hg5) (gr_set3 _ _ _ _ _) (by omega)).mono (by omega), (own_far (oD.keptR gV (fun k hk j hj => by cases hk; exact hgD j hj)) (gr_set3 _ _ _ _ _) h2).mono (by omega), below_set3 (B5.grown gV B5.size (fun k hk => by cases hk; omega)) (by omega) _ _ _⟩

end Go.Proofs.YthokphoojmpajahDoor

namespace Go.Proofs.YthokphoojmpajahDoor
open Go.RowKit Go.Proofs.Pin

theorem sm_zero (b : Bool) (x : Nat) (y : Nat) : smT false b (0 * y) (x * 1) = x := by
  unfold smT
  rw [Nat.zero_mul, Nat.mul_one]
  cases b <;> simp <;> omega
theorem smB_zero {b : Bool} {x : Nat} (y : Nat) (h : b = true → x ≠ 0) : smB false b (0 * y) (x * 1) = b := by
  unfold smB
  rw [Nat.zero_mul, Nat.mul_one]
  cases b with
  | false => simp
  | true => have := h rfl; simp; omega

end Go.Proofs.YthokphoojmpajahDoor

namespace Go.Proofs.YthokphoojmpajahDoor
open Go.RowKit Go.Proofs.Pin

theorem sm_len (b b' : Bool) (m o : Nat) (hm : (dgs m).length ≤ 1000) (ho : (dgs o).length ≤ 1000) : (dgs (smT b b' m o)).length ≤ 2000 := by
  unfold smT
  split
  · have := len_add2 m o; omega
  · split
    · have := len_sub2 o m; omega
    · have := len_sub2 m o; omega
/-- The sum, in lowest terms. -/
def addA (b : Bool) (x y : Nat) (b' : Bool) (x' y' : Nat) : FAns := makeA (smB b b' (x * y') (x' * y)) (smT b b' (x * y') (x' * y)) (y * y')

def subA (b : Bool) (x y : Nat) (b' : Bool) (x' y' : Nat) : FAns := addA b x y (ngB b' x') x' y'
theorem op2A_len {f : Bool → Nat → Nat → Bool → Nat → Nat → FAns} (h : ∀ b x y b' x' y', (f b x y b' x' y').X.length ≤ 256 ∧ (f b x y b' x' y').Y.length ≤ 256) (b : Bool) (X Y : List Int) (b' : Bool) (X' Y' : List Int) : (op2A f b X Y b' X' Y').X.length ≤ 256 ∧ (op2A f b X Y b' X' Y').Y.length ≤ 256 := by
  unfold op2A
  split
  · exact h _ _ _ _ _ _
  · exact ⟨Nat.zero_le _, Nat.zero_le _⟩
theorem addA_len (b : Bool) (X Y : List Int) (b' : Bool) (X' Y' : List Int) : (op2A addA b X Y b' X' Y').X.length ≤ 256 ∧ (op2A addA b X Y b' X' Y').Y.length ≤ 256 := op2A_len (fun _ _ _ _ _ _ => makeA_len _ _ _) b X Y b' X' Y'
theorem subA_len (b : Bool) (X Y : List Int) (b' : Bool) (X' Y' : List Int) : (op2A subA b X Y b' X' Y').X.length ≤ 256 ∧ (op2A subA b X Y b' X' Y').Y.length ≤ 256 := op2A_len (fun _ _ _ _ _ _ => makeA_len _ _ _) b X Y b' X' Y'
theorem mulA_len (b : Bool) (X Y : List Int) (b' : Bool) (X' Y' : List Int) : (op2A mulA b X Y b' X' Y').X.length ≤ 256 ∧ (op2A mulA b X Y b' X' Y').Y.length ≤ 256 := op2A_len (fun _ _ _ _ _ _ => makeA_len _ _ _) b X Y b' X' Y'
theorem divA_len (b : Bool) (X Y : List Int) (b' : Bool) (X' Y' : List Int) : (op2A divA b X Y b' X' Y').X.length ≤ 256 ∧ (op2A divA b X Y b' X' Y').Y.length ≤ 256 := op2A_len (fun _ _ _ _ _ _ => by
  unfold divA
  split
  · exact ⟨Nat.zero_le _, Nat.zero_le _⟩
  · exact makeA_len _ _ _) b X Y b' X' Y'
end Go.Proofs.YthokphoojmpajahDoor
