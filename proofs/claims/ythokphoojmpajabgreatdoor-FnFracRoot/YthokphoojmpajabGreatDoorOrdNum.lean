/- The order of fractions, as numbers. -/
import Derived.Test.YthokphoojmpajabGreatDoorGCmp
import Derived.Test.YthokphoojmpajabGreatDoorGFrA
import Derived.Test.YthokphoojmpajabGreatDoorFrSign
import Derived.Test.YthokphoojmpajabGreatDoorGDf
namespace Go.Proofs.YthokphoojmpajabGreatDoor
open Go.RowKit Go.Proofs.Pin

/-- A number with a sign. -/
def sI (b : Bool) (m : Nat) : Int := if b = true then -(m : Int) else (m : Int)
theorem sI_mul (b : Bool) (m n : Nat) : sI b (m * n) = sI b m * (n : Int) := by
  cases b <;> simp [sI, Int.neg_mul]
theorem sI_abs (b : Bool) (m : Nat) : (sI b m).natAbs = m := by
  cases b <;> simp [sI]
theorem sgnF_sign (s : Bool) (n : Nat) : sgnF s (dgs n).length = (sI s n).sign := by
  unfold sgnF sI
  by_cases hn : n = 0
  · subst hn
    rw [dgs_zero]
    cases s <;> simp
  · have h1 : (dgs n).length ≠ 0 := by have := (dgs_pos_len n).2 hn; omega
    rw [if_neg h1]
    cases s
    · simp only [Bool.false_eq_true, if_false]
      exact (Int.sign_eq_one_of_pos (by omega)).symm
    · simp only [if_true]
      exact (Int.sign_eq_neg_one_of_neg (by omega)).symm
theorem sm_sum (b c : Bool) (m o : Nat) : sgnF (smB b c m o) (dgs (smT b c m o)).length = (sI b m + sI c o).sign := by
  rw [sgnF_sign]
  congr 1
  unfold smB smT sI
  by_cases h : m < o
  · cases b <;> cases c <;> simp [h] <;> omega
  · cases b <;> cases c <;> simp [h] <;> omega
theorem ng_val (b' : Bool) (x' y : Nat) : sI (ngB b' x') (x' * y) = - sI b' (x' * y) := by
  unfold ngB sI
  by_cases hx : x' = 0
  · subst hx; simp
  · cases b' <;> simp [hx]
theorem cmN_sign (b : Bool) (x y : Nat) (b' : Bool) (x' y' : Nat) : cmN b x y b' x' y' = (sI b (x * y') - sI b' (x' * y)).sign := by
  unfold cmN
  rw [sm_sum, ng_val]
  rfl
theorem cmN_tri (b : Bool) (x y : Nat) (b' : Bool) (x' y' : Nat) : cmN b x y b' x' y' = 1 ∨ cmN b x y b' x' y' = 0 ∨ cmN b x y b' x' y' = -1 := by
  rw [cmN_sign]
  exact Int.sign_trichotomy _
theorem cmN_anti (b : Bool) (x y : Nat) (b' : Bool) (x' y' : Nat) : cmN b' x' y' b x y = - cmN b x y b' x' y' := by
  rw [cmN_sign, cmN_sign, ← Int.sign_neg, Int.neg_sub]
theorem sign_sum {U V p q : Int} (hp : 0 < p) (hq : 0 < q) (h : U.sign = V.sign) : (U * p + V * q).sign = U.sign := by
  rcases Int.lt_trichotomy U 0 with h1 | h1 | h1
  · have e1 := Int.sign_eq_neg_one_of_neg h1
    rw [e1] at h
    have h2 : V < 0 := Int.sign_eq_neg_one_iff_neg.1 h.symm
    rw [e1]
    have a1 := Int.mul_neg_of_neg_of_pos h1 hp
    have a2 := Int.mul_neg_of_neg_of_pos h2 hq
    exact Int.sign_eq_neg_one_of_neg (by omega)
  · subst h1
    have h2 : V = 0 := Int.sign_eq_zero_iff_zero.1 (by rw [← h]; rfl)
    subst h2
    simp
  · have e1 := Int.sign_eq_one_of_pos h1
    rw [e1] at h
    have h2 : 0 < V := Int.sign_eq_one_iff_pos.1 h.symm
    rw [e1]
    have a1 := Int.mul_pos h1 hp
    have a2 := Int.mul_pos h2 hq
    exact Int.sign_eq_one_of_pos (by omega)
theorem sign_scale {U p : Int} (hp : 0 < p) : (U * p).sign = U.sign := by
  rw [Int.sign_mul, Int.sign_eq_one_of_pos hp, Int.mul_one]
theorem cross3 (A B C y y' y'' : Int) : (A * y'' - C * y) * y' = (A * y' - B * y) * y'' + (B * y'' - C * y') * y := by
  grind
theorem cmN_trans {b : Bool} {x y : Nat} {b' : Bool} {x' y' : Nat} {b'' : Bool} {x'' y'' : Nat} (hy : y ≠ 0) (hy' : y' ≠ 0) (hy'' : y'' ≠ 0) (h : cmN b x y b' x' y' = cmN b' x' y' b'' x'' y'') : cmN b x y b'' x'' y'' = cmN b x y b' x' y' := by
  rw [cmN_sign, cmN_sign] at h ⊢
  rw [sI_mul, sI_mul, sI_mul, sI_mul] at h
  rw [sI_mul, sI_mul, sI_mul, sI_mul]
  have p1 : (0 : Int) < (y : Int) := by omega
  have p2 : (0 : Int) < (y' : Int) := by omega
  have p3 : (0 : Int) < (y'' : Int) := by omega
  rw [← sign_scale (U := sI b x * (y'' : Int) - sI b'' x'' * (y : Int)) p2, cross3 (sI b x) (sI b' x') (sI b'' x'') y y' y'']
  exact sign_sum p3 p1 h
/-- Two fractions in lowest terms that are the same number are the same. -/
theorem cmN_zero {b : Bool} {x y : Nat} {b' : Bool} {x' y' : Nat} (_hy : y ≠ 0) (hy' : y' ≠ 0) (hb : b = true → x ≠ 0) (hb' : b' = true → x' ≠ 0) (hg : Nat.gcd x y = 1) (hg' : Nat.gcd x' y' = 1) (h : cmN b x y b' x' y' = 0) : b = b' ∧ x = x' ∧ y = y' := by
  rw [cmN_sign] at h
  have h0 : sI b (x * y') = sI b' (x' * y) := by
    have := Int.sign_eq_zero_iff_zero.1 h
    omega
  have h1 : x * y' = x' * y := by
    have := congrArg Int.natAbs h0
    rw [sI_abs, sI_abs] at this
    exact this
  have d1 : y ∣ y' := Nat.Coprime.dvd_of_dvd_mul_left (k := y) (m := x) (n := y') (by rw [Nat.Coprime, Nat.gcd_comm]; exact hg) (by rw [h1]; exact Nat.dvd_mul_left _ _)
  have d2 : y' ∣ y := Nat.Coprime.dvd_of_dvd_mul_left (k := y') (m := x') (n := y) (by rw [Nat.Coprime, Nat.gcd_comm]; exact hg') (by rw [← h1]; exact Nat.dvd_mul_left _ _)
  have e1 : y = y' := Nat.dvd_antisymm d1 d2
  subst e1
  have e2 : x = x' := Nat.eq_of_mul_eq_mul_right (by omega) h1
  subst e2
  refine ⟨?_, rfl, rfl⟩
  by_cases hx : x = 0
  · cases b with
    | true => exact absurd hx (hb rfl)
    | false =>
      cases b' with
      | true => exact absurd hx (hb' rfl)
      | false => rfl
  · have hp : 0 < x * y := Nat.mul_pos (by omega) (by omega)
    unfold sI at h0
    cases b <;> cases b' <;> simp at h0 ⊢ <;> omega
theorem make_sgn {s : Bool} {t u : Nat} (hu : u ≠ 0) (h : (makeA s t u).ok = true) : sgA (makeA s t u).b (makeA s t u).X (makeA s t u).Y = sgnF s (dgs t).length := by
  unfold sgA
  rw [if_pos (makeA_fok hu h)]
  unfold makeA at h ⊢
  split at h
  · rename_i hl
    rw [if_pos hl]
    show sgnF (s && decide (0 < (loX t u).length)) (loX t u).length = _
    by_cases ht : t = 0
    · have e : loX t u = [] := by unfold loX; rw [ht, Nat.zero_div]; rfl
      rw [e, ht]
      simp [sgnF, dgs_zero]
    · have hg : 0 < Nat.gcd t u := Nat.gcd_pos_of_pos_right _ (by omega)
      have e : 0 < (loX t u).length := by
        unfold loX
        rw [dgs_pos_len]
        exact Nat.ne_of_gt (Nat.div_pos (Nat.le_of_dvd (by omega) (Nat.gcd_dvd_left t u)) hg)
      have e2 := (dgs_pos_len t).2 ht
      have f1 : (loX t u).length ≠ 0 := by omega
      have f2 : (dgs t).length ≠ 0 := by omega
      rw [decide_eq_true e, Bool.and_true]
      unfold sgnF
      rw [if_neg f1, if_neg f2]
  · cases h
theorem sub_sgn {b : Bool} {x y : Nat} {b' : Bool} {x' y' : Nat} (hy : y ≠ 0) (hy' : y' ≠ 0) (h : (subA b x y b' x' y').ok = true) : sgA (subA b x y b' x' y').b (subA b x y b' x' y').X (subA b x y b' x' y').Y = cmN b x y b' x' y' := by
  unfold subA addA at h ⊢
  rw [make_sgn (Nat.mul_ne_zero hy hy') h]
  rfl
/-- What the law of order asks, of any three fractions. -/
theorem order_facts (f : Bool) (X Y : List Int) (f' : Bool) (X' Y' : List Int) (f'' : Bool) (X'' Y'' : List Int) :
    (cmA f X Y f' X' Y' = 2 ∧ fokB f X Y = false) ∨ (cmA f X Y f' X' Y' = 2 ∧ fokB f X Y = true ∧ fokB f' X' Y' = false) ∨
    ((cmA f X Y f' X' Y' = 1 ∨ cmA f X Y f' X' Y' = 0 ∨ cmA f X Y f' X' Y' = -1) ∧ cmA f' X' Y' f X Y = - cmA f X Y f' X' Y' ∧ (cmA f X Y f' X' Y' = 0 → f = f' ∧ X = X' ∧ Y = Y') ∧
      ((op2A subA f X Y f' X' Y').ok = true → sgA (op2A subA f X Y f' X' Y').b (op2A subA f X Y f' X' Y').X (op2A subA f X Y f' X' Y').Y = cmA f X Y f' X' Y') ∧ (cmA f' X' Y' f'' X'' Y'' = cmA f X Y f' X' Y' → cmA f X Y f'' X'' Y'' = cmA f X Y f' X' Y')) := by
  cases h1 : fokB f X Y with
  | false => exact .inl ⟨cmA_no (.inl h1), rfl⟩
  | true =>
    cases h2 : fokB f' X' Y' with
    | false => exact .inr (.inl ⟨cmA_no (.inr h2), rfl, rfl⟩)
    | true =>
      right; right
      obtain ⟨x, y, rfl, rfl, lx, ly, hy, hb, hg⟩ := fok_parts h1
      obtain ⟨x', y', rfl, rfl, lx', ly', hy', hb', hg'⟩ := fok_parts h2
      rw [cmA_yes h1 h2, cmA_yes h2 h1, op2A_yes h1 h2]
      refine ⟨cmN_tri _ _ _ _ _ _, cmN_anti _ _ _ _ _ _, ?_, sub_sgn hy hy', ?_⟩
      · intro h0
        obtain ⟨e1, e2, e3⟩ := cmN_zero hy hy' hb hb' hg hg' h0
        exact ⟨e1, by rw [e2], by rw [e3]⟩
      · intro he
        cases h3 : fokB f'' X'' Y'' with
        | false =>
          rw [cmA_no (.inr h3)] at he
          rcases cmN_tri f x y f' x' y' with h | h | h <;> omega
        | true =>
          obtain ⟨x'', y'', rfl, rfl, lx'', ly'', hy'', hb'', hg''⟩ := fok_parts h3
          rw [cmA_yes h2 h3] at he
          rw [cmA_yes h1 h3]
          exact cmN_trans hy hy' hy'' he.symm
end Go.Proofs.YthokphoojmpajabGreatDoor
