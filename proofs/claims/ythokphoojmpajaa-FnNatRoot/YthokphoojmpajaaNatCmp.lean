/- The contracts of spec.NatCmp and impl.NatCmp. -/
import Derived.Test.YthokphoojmpajaaCompare
namespace Go.Proofs.Ythokphoojmpajaa
open Go.RowKit Go.Shelf Go.Proofs.Pin

def cmpAns (xs ys : List Int) : Int := if okB xs = true then (if okB ys = true then cmpL xs ys else 2) else 2
theorem cmpAns_yes {xs ys : List Int} (h1 : okB xs = true) (h2 : okB ys = true) : cmpAns xs ys = cmpL xs ys := by simp [cmpAns, h1, h2]
theorem cmpAns_no1 {xs ys : List Int} (h1 : okB xs = false) : cmpAns xs ys = 2 := by simp [cmpAns, h1]
theorem cmpAns_no2 {xs ys : List Int} (h2 : okB ys = false) : cmpAns xs ys = 2 := by simp [cmpAns, h2]

theorem implCmp_any (a b : Option Addr) (ca cb : Nat) (xs ys : List Int) (w : World) (ha : Sl w a xs) (hb : Sl w b ys) (hx : xs.length ≤ 1048576) (hy : ys.length ≤ 1048576) :
    Calls Try.prog 13 #[.slice a xs.length ca, .slice b ys.length cb] w fun e w' => e = .returned (.int .i64 (cmpAns xs ys)) ∧ Below w.heap.size w w' := by
  cases h1 : okB xs with
  | false =>
    rw [cmpAns_no1 h1]
    go_enter Try.func13, Try.ntmps13
    go_wp2_with (go_at_call 28; refine (implOk_any _ _ xs _ ha hx).mono ?_; rintro e w' ⟨rfl, rfl⟩)
    go_ret
    exact ⟨rfl, Below.refl _ _⟩
  | true =>
    cases h2 : okB ys with
    | false =>
      rw [cmpAns_no2 h2]
      go_enter Try.func13, Try.ntmps13
      go_wp2_with fail
      refine (implOk_any _ _ xs _ ha hx).mono ?_
      rintro e w' ⟨rfl, rfl⟩
      go_wp2_with fail
      refine (implOk_any _ _ ys _ hb hy).mono ?_
      rintro e w' ⟨rfl, rfl⟩
      go_wp2
      go_ret
      exact ⟨rfl, Below.refl _ _⟩
    | true =>
      rw [cmpAns_yes h1 h2]
      go_enter Try.func13, Try.ntmps13
      go_wp2_with fail
      refine (implOk_any _ _ xs _ ha hx).mono ?_
      rintro e w' ⟨rfl, rfl⟩
      go_wp2_with fail
      refine (implOk_any _ _ ys _ hb hy).mono ?_
      rintro e w' ⟨rfl, rfl⟩
      go_wp2_with fail
      refine (cmp_any _ _ _ _ xs ys _ ha hb hx).mono ?_
      rintro e w' ⟨rfl, hb1⟩
      go_wp2
      go_ret
      exact ⟨rfl, hb1⟩
end Go.Proofs.Ythokphoojmpajaa
