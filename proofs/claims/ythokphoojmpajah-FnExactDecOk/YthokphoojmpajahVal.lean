/- The value of digits: no Go text in sight. -/
import Derived.Test.YthokphoojmpajahBase
namespace Go.Proofs.Pin
open Go.RowKit

/-- The value of digits, the lowest first. -/
def val : List Int → Int
  | [] => 0
  | z :: r => z + 65536 * val r

theorem val_drop {zs : List Int} {j : Nat} (h : j < zs.length) : val (zs.drop j) = zs.getD j 0 + 65536 * val (zs.drop (j + 1)) := by
  rw [List.drop_eq_getElem_cons h]
  simp [val, List.getD_eq_getElem?_getD, List.getElem?_eq_getElem h]
theorem val_end (zs : List Int) : val (zs.drop zs.length) = 0 := by simp [val]

/-- All digits lie in 0 .. 65535. -/
def Dg (zs : List Int) : Prop := ∀ i, i < zs.length → 0 ≤ zs.getD i 0 ∧ zs.getD i 0 < 65536
theorem Dg.of {zs : List Int} (h : ∀ i, i < zs.length → dig (zs.getD i 0) = true) : Dg zs := by
  intro i hi
  have := h i hi
  simp [dig] at this
  simpa [List.getD_eq_getElem?_getD] using this
theorem Dg.tail {z : Int} {r : List Int} (h : Dg (z :: r)) : (0 ≤ z ∧ z < 65536) ∧ Dg r := by
  refine ⟨by simpa using h 0 (by simp), fun i hi => ?_⟩
  simpa using h (i + 1) (by simp; omega)
theorem val_nonneg : ∀ {zs : List Int}, Dg zs → 0 ≤ val zs
  | [], _ => by simp [val]
  | z :: r, h => by
    have h1 := h.tail
    have h2 := val_nonneg h1.2
    simp only [val]
    omega
theorem val_lt : ∀ {zs : List Int}, Dg zs → val zs < 65536 ^ zs.length
  | [], _ => by simp [val]
  | z :: r, h => by
    have h1 := h.tail
    have h2 := val_lt h1.2
    simp only [val, List.length_cons, Int.pow_succ]
    omega
theorem Dg.drop {zs : List Int} (h : Dg zs) (k : Nat) : Dg (zs.drop k) := by
  intro i hi
  have : k + i < zs.length := by simp at hi; omega
  simpa [List.getD_eq_getElem?_getD, List.getElem?_drop] using h (k + i) this
/-- Behind the first digit of at most four: below 2^48. -/
theorem val_top {zs : List Int} (h : Dg zs) (h4 : zs.length ≤ 4) {k : Nat} (hk : 1 ≤ k) : 0 ≤ val (zs.drop k) ∧ val (zs.drop k) ≤ 281474976710655 := by
  have h1 := val_nonneg (h.drop k)
  have h2 := val_lt (h.drop k)
  refine ⟨h1, ?_⟩
  have h3 : (zs.drop k).length ≤ 3 := by simp; omega
  have h5 : (65536 : Int) ^ (zs.drop k).length ≤ 281474976710656 := by
    match (zs.drop k).length, h3 with
    | 0, _ => decide
    | 1, _ => decide
    | 2, _ => decide
    | 3, _ => decide
  omega
end Go.Proofs.Pin
