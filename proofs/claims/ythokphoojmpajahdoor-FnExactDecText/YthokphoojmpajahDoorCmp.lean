/- The contracts of cmp.Compare at int, spec.l1Cmp, spec.NatCmp, digits.compare (which goes over its digits by the iterator) and impl.NatCmp. -/
import Derived.Test.YthokphoojmpajahDoorTop
import Derived.Test.YthokphoojmpajahDoorGMark
import Derived.Test.YthokphoojmpajahDoorGEq
import Derived.WalkSpells
import Derived.Deep.QuietTactic
import Derived.BigQuiet
namespace Go.Proofs.YthokphoojmpajahDoor
open Go.RowKit Go.Shelf Go.Proofs.Pin

/-- -1, 0, 1 as x is below, the same as, above y. -/
def sg (x y : Int) : Int := if x < y then -1 else if y < x then 1 else 0
theorem sg_lt {x y : Int} (h : x < y) : sg x y = -1 := by simp [sg, h]
theorem sg_gt {x y : Int} (h : y < x) : sg x y = 1 := by simp [sg, h]; omega
theorem sg_eq {x y : Int} (h : x = y) : sg x y = 0 := by simp [sg, h]

set_option maxRecDepth 20000 in
theorem compare_any (x y : Int) (w : World) :
    Calls Tryd.prog 85 #[.int .i64 x, .int .i64 y] w fun e w' => e = .returned (.int .i64 (sg x y)) ∧ w' = w := by
  have hx : (x != x) = false := by simp
  have hy : (y != y) = false := by simp
  by_cases h1 : x < y
  · rw [sg_lt h1]
    go_enter Tryd.func85, Tryd.ntmps85
    go_wp2
    go_ret
    exact ⟨rfl, rfl⟩
  · by_cases h2 : y < x
    · rw [sg_gt h2]
      go_enter Tryd.func85, Tryd.ntmps85
      go_wp2
      go_ret
      exact ⟨rfl, rfl⟩
    · rw [sg_eq (by omega)]
      go_enter Tryd.func85, Tryd.ntmps85
      go_wp2
      go_ret
      exact ⟨rfl, rfl⟩

/-- The comparison of the digits, from the top down: k digits from the top are the same. -/
def cmpFrom (xs ys : List Int) : Nat → Int
  | 0 => 0
  | k + 1 => if xs.getD k 0 = ys.getD k 0 then cmpFrom xs ys k else sg (xs.getD k 0) (ys.getD k 0)
/-- The comparison of two numbers' digits. -/
def cmpL (xs ys : List Int) : Int := if xs.length = ys.length then cmpFrom xs ys xs.length else sg xs.length ys.length

theorem cmpFrom_same {xs ys : List Int} {k : Nat} (h : xs.getD k 0 = ys.getD k 0) : cmpFrom xs ys (k + 1) = cmpFrom xs ys k := by simp only [cmpFrom, h, if_true]
theorem cmpFrom_other {xs ys : List Int} {k : Nat} (h : xs.getD k 0 ≠ ys.getD k 0) : cmpFrom xs ys (k + 1) = sg (xs.getD k 0) (ys.getD k 0) := by simp only [cmpFrom, h, if_false]
theorem cmpL_eq {xs ys : List Int} (h : xs.length = ys.length) : cmpL xs ys = cmpFrom xs ys xs.length := by simp [cmpL, h]
theorem cmpL_ne {xs ys : List Int} (h : xs.length ≠ ys.length) : cmpL xs ys = sg xs.length ys.length := by simp [cmpL, h]

set_option maxRecDepth 20000 in
set_option maxHeartbeats 400000 in
theorem l1Cmp_any (a b : Option Addr) (ca cb : Nat) (xs ys : List Int) (w : World) (ha : Sl w a xs) (hb : Sl w b ys) (hx : xs.length ≤ 1048576) (hy : ys.length ≤ 1048576) :
    Calls Tryd.prog 52 #[.slice a xs.length ca, .slice b ys.length cb] w fun e w' => e = .returned (.int .i64 (cmpL xs ys)) ∧ ∃ q, w' = w.drewN q := by
  by_cases hl : xs.length = ys.length
  · rw [cmpL_eq hl]
    obtain ⟨n, hn⟩ : ∃ n, n = xs.length := ⟨_, rfl⟩
    have HX : Hid (n = xs.length) := hn
    have hca : ∀ k, k < n → ∃ b off, a = some ⟨b, off, none⟩ ∧ w.cell? ⟨b, off + k, none⟩ = some (.int .i64 (xs.getD k 0)) := by
      intro k hk
      rcases ha with rfl | ⟨b, off, rfl, hb, hc⟩
      · simp at hn; omega
      · exact ⟨b, off, rfl, hc k (by omega)⟩
    have hcb : ∀ k, k < n → ∃ b' off, b = some ⟨b', off, none⟩ ∧ w.cell? ⟨b', off + k, none⟩ = some (.int .i64 (ys.getD k 0)) := by
      intro k hk
      rcases hb with rfl | ⟨b', off, rfl, hb, hc⟩
      · simp only [List.length_nil] at hl; omega
      · exact ⟨b', off, rfl, hc k (by omega)⟩
    have hn2 : n ≤ 1048576 := by omega
    rw [← hl, ← hn]
    clear hl hn ha hb hx hy
    go_enter Tryd.func52, Tryd.ntmps52
    go_wp2
    go_loopw [5] (fun i wr => ∃ k : Nat, k ≤ n ∧ i = .int .i64 ((k : Int) - 1) ∧ cmpFrom xs ys n = cmpFrom xs ys k ∧ ∃ q, wr = w.drewN q) (fun i _ => (intOf i + 1).toNat)
    case atStart => exact ⟨n, Nat.le_refl _, by go_num, rfl, 0, rfl⟩
    case round =>
      obtain ⟨k, hk, hi, hc, q, rfl⟩ := hrel
      have HC : Hid (cmpFrom xs ys n = cmpFrom xs ys k) := hc
      clear hc
      by_cases hk0 : k = 0
      · subst hk0
        have hi' : u5 = .int .i64 (-1) := by rw [hi]; rfl
        subst hi'
        clear hi hca hcb
        go_wp2
        go_ret
        exact ⟨ret_int (by rw [HC.out]; rfl), _, rfl⟩
      · obtain ⟨j, rfl⟩ : ∃ j, k = j + 1 := ⟨k - 1, by omega⟩
        have hi' : u5 = .int .i64 (j : Int) := by rw [hi]; congr 1; omega
        subst hi'
        obtain ⟨ba, offa, rfl, hc1⟩ := hca j (by omega)
        obtain ⟨bb, offb, rfl, hc2⟩ := hcb j (by omega)
        obtain ⟨x, hx⟩ : ∃ z, z = xs.getD j 0 := ⟨_, rfl⟩
        obtain ⟨y, hy⟩ : ∃ z, z = ys.getD j 0 := ⟨_, rfl⟩
        rw [← hx] at hc1
        rw [← hy] at hc2
        have HX1 : Hid (x = xs.getD j 0) := hx
        have HY1 : Hid (y = ys.getD j 0) := hy
        clear hx hy hca hcb hi
        have hlt' : (j : Int) < (n : Int) := by omega
        by_cases hxy : x < y
        · go_wp2_with fail
          go_quiet (fail)
          go_wp2
          go_ret
          refine ⟨ret_int ?_, q + nq, World.drewN_drewN _ _ _⟩
          rw [HC.out, cmpFrom_other (by rw [← HX1.out, ← HY1.out]; omega), ← HX1.out, ← HY1.out, sg_lt hxy]
        · by_cases hyx : y < x
          · go_wp2_with fail
            go_quiet (fail)
            go_wp2_with fail
            go_quiet (fail)
            go_wp2
            go_ret
            refine ⟨ret_int ?_, dN3 _ _ _ _⟩
            rw [HC.out, cmpFrom_other (by rw [← HX1.out, ← HY1.out]; omega), ← HX1.out, ← HY1.out, sg_gt hyx]
          · go_wp2_with fail
            go_quiet (fail)
            go_wp2_with fail
            go_quiet (fail)
            go_wp2
            go_roundw
            case rel => exact ⟨j, by omega, by go_num, by rw [HC.out, cmpFrom_same (by rw [← HX1.out, ← HY1.out]; omega)], _, rfl⟩
            case measure => simp [intOf]
  · rw [cmpL_ne hl]
    by_cases h1 : xs.length < ys.length
    · have h1' : (xs.length : Int) < ys.length := by omega
      rw [sg_lt h1']
      go_enter Tryd.func52, Tryd.ntmps52
      go_wp2
      go_ret
      exact ⟨rfl, 0, rfl⟩
    · have h1' : (ys.length : Int) < xs.length := by omega
      rw [sg_gt h1']
      go_enter Tryd.func52, Tryd.ntmps52
      go_wp2
      go_ret
      exact ⟨rfl, 0, rfl⟩
end Go.Proofs.YthokphoojmpajahDoor
