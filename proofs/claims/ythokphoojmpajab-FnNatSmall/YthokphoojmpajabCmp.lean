/- The contracts of cmp.Compare at int, spec.l1Cmp, spec.NatCmp, digits.compare (which goes over its digits by the iterator) and impl.NatCmp. -/
import Derived.Test.YthokphoojmpajabTop
import Derived.Test.YthokphoojmpajabOk
import Derived.Test.YthokphoojmpajabInfo
import Derived.WalkSpells
import Derived.Deep.QuietTactic
import Derived.BigQuiet
namespace Go.Proofs.Ythokphoojmpajab
open Go.RowKit Go.Shelf Go.Proofs.Pin

/-- -1, 0, 1 as x is below, the same as, above y. -/
def sg (x y : Int) : Int := if x < y then -1 else if y < x then 1 else 0
theorem sg_lt {x y : Int} (h : x < y) : sg x y = -1 := by simp [sg, h]
theorem sg_gt {x y : Int} (h : y < x) : sg x y = 1 := by simp [sg, h]; omega
theorem sg_eq {x y : Int} (h : x = y) : sg x y = 0 := by simp [sg, h]

theorem compare_any (x y : Int) (w : World) :
    Calls Try.prog 37 #[.int .i64 x, .int .i64 y] w fun e w' => e = .returned (.int .i64 (sg x y)) ∧ w' = w := by
  have hx : (x != x) = false := by simp
  have hy : (y != y) = false := by simp
  by_cases h1 : x < y
  · rw [sg_lt h1]
    go_enter Try.func37, Try.ntmps37
    go_wp2
    go_ret
    exact ⟨rfl, rfl⟩
  · by_cases h2 : y < x
    · rw [sg_gt h2]
      go_enter Try.func37, Try.ntmps37
      go_wp2
      go_ret
      exact ⟨rfl, rfl⟩
    · rw [sg_eq (by omega)]
      go_enter Try.func37, Try.ntmps37
      go_wp2
      go_ret
      exact ⟨rfl, rfl⟩

/-- The comparison of the digits, from the top down: k digits from the top are the same. -/
def cmpFrom (xs ys : List Int) : Nat → Int
  | 0 => 0
  | k + 1 => if xs.getD k 0 = ys.getD k 0 then cmpFrom xs ys k else sg (xs.getD k 0) (ys.getD k 0)
/-- The comparison of two numbers' digits. -/
def cmpL (xs ys : List Int) : Int := if xs.length = ys.length then cmpFrom xs ys xs.length else sg xs.length ys.length

theorem cmpFrom_same {xs ys : List Int} {k : Nat} (h : xs.getD k 0 = ys.getD k 0) : cmpFrom xs ys (k + 1) = cmpFrom xs ys k := by simp only [cmpFrom, h, if_true]
theorem cmpFrom_other {xs ys : List Int} {k : Nat} (h : xs.getD k 0 ≠ ys.getD k 0) : cmpFrom xs ys (k + 1) = sg (xs.getD k 0) (ys.getD k 0) := by simp only [cmpFrom, h, if_false]
theorem cmpL_eq {xs ys : List Int} (h : xs.length = ys.length) : cmpL xs ys = cmpFrom xs ys xs.length := by simp [cmpL, h]
theorem cmpL_ne {xs ys : List Int} (h : xs.length ≠ ys.length) : cmpL xs ys = sg xs.length ys.length := by simp [cmpL, h]

end Go.Proofs.Ythokphoojmpajab
