/- The value of digits: no Go text in sight. Numbers and their digits: value, partial value, the digits of a number; no Go text in sight. The arithmetic of adding and taking off digit by digit; no Go text in sight. The arithmetic of multiplying digit by digit; no Go text in sight. The arithmetic of dividing by a digit from the top, and of digits cut off or laid below; no Go text in sight. The arithmetic of long division: the digit that is guessed is never too small; what a digit more makes of quotient and rest; no Go text in sight. Numbers: the guess of a digit off three digits of the rest and two of the divisor is right or one too great. Numbers of the long division: the rest with one digit more, the guess of the next digit, and what is taken off and put back; no Go text in sight. -/
import Derived.Test.YthokphoojmpajahDoorBase
namespace Go.Proofs.Pin
open Go.RowKit

/-- The value of digits, the lowest first. -/
def val : List Int → Int
  | [] => 0
  | z :: r => z + 65536 * val r

theorem val_drop {zs : List Int} {j : Nat} (h : j < zs.length) : val (zs.drop j) = zs.getD j 0 + 65536 * val (zs.drop (j + 1)) := by
  rw [List.drop_eq_getElem_cons h]
  simp [val, List.getD_eq_getElem?_getD, List.getElem?_eq_getElem h]
theorem val_end (zs : List Int) : val (zs.drop zs.length) = 0 := by simp [val]

/-- All digits lie in 0 .. 65535. -/
def Dg (zs : List Int) : Prop := ∀ i, i < zs.length → 0 ≤ zs.getD i 0 ∧ zs.getD i 0 < 65536
theorem Dg.of {zs : List Int} (h : ∀ i, i < zs.length → dig (zs.getD i 0) = true) : Dg zs := by
  intro i hi
  have := h i hi
  simp [dig] at this
  simpa [List.getD_eq_getElem?_getD] using this
theorem Dg.tail {z : Int} {r : List Int} (h : Dg (z :: r)) : (0 ≤ z ∧ z < 65536) ∧ Dg r := by
  refine ⟨by simpa using h 0 (by simp), fun i hi => ?_⟩
  simpa using h (i + 1) (by simp; omega)
theorem val_nonneg : ∀ {zs : List Int}, Dg zs → 0 ≤ val zs
  | [], _ => by simp [val]
  | z :: r, h => by
    have h1 := h.tail
    have h2 := val_nonneg h1.2
    simp only [val]
    omega
theorem val_lt : ∀ {zs : List Int}, Dg zs → val zs < 65536 ^ zs.length
  | [], _ => by simp [val]
  | z :: r, h => by
    have h1 := h.tail
    have h2 := val_lt h1.2
    simp only [val, List.length_cons, Int.pow_succ]
    omega
theorem Dg.drop {zs : List Int} (h : Dg zs) (k : Nat) : Dg (zs.drop k) := by
  intro i hi
  have : k + i < zs.length := by simp at hi; omega
  simpa [List.getD_eq_getElem?_getD, List.getElem?_drop] using h (k + i) this
/-- Behind the first digit of at most four: below 2^48. -/
theorem val_top {zs : List Int} (h : Dg zs) (h4 : zs.length ≤ 4) {k : Nat} (hk : 1 ≤ k) : 0 ≤ val (zs.drop k) ∧ val (zs.drop k) ≤ 281474976710655 := by
  have h1 := val_nonneg (h.drop k)
  have h2 := val_lt (h.drop k)
  refine ⟨h1, ?_⟩
  have h3 : (zs.drop k).length ≤ 3 := by simp; omega
  have h5 : (65536 : Int) ^ (zs.drop k).length ≤ 281474976710656 := by
    match (zs.drop k).length, h3 with
    | 0, _ => decide
    | 1, _ => decide
    | 2, _ => decide
    | 3, _ => decide
  omega
end Go.Proofs.Pin

namespace Go.Proofs.Pin
open Go.RowKit

/-- The base to the power of k. -/
def pw (k : Nat) : Int := 65536 ^ k
theorem pw_zero : pw 0 = 1 := rfl
theorem pw_succ (k : Nat) : pw (k + 1) = pw k * 65536 := by unfold pw; rw [Int.pow_succ]
theorem pw_pos (k : Nat) : 0 < pw k := by unfold pw; exact Int.pow_pos (by decide)
theorem pw_add (i j : Nat) : pw (i + j) = pw i * pw j := by unfold pw; rw [Int.pow_add]
theorem pw_le {i j : Nat} (h : i ≤ j) : pw i ≤ pw j := by
  obtain ⟨k, rfl⟩ : ∃ k, j = i + k := ⟨j - i, by omega⟩
  rw [pw_add]
  have h1 := pw_pos i
  have h2 := pw_pos k
  calc pw i = pw i * 1 := by rw [Int.mul_one]
    _ ≤ pw i * pw k := Int.mul_le_mul_of_nonneg_left (by omega) (by omega)
theorem pw_nat (k : Nat) : pw k = ((65536 ^ k : Nat) : Int) := by unfold pw; simp

/-- The value of the k lowest digits (a number goes on with noughts). -/
def pv (zs : List Int) : Nat → Int
  | 0 => 0
  | k + 1 => pv zs k + zs.getD k 0 * pw k
theorem pv_succ (zs : List Int) (k : Nat) : pv zs (k + 1) = pv zs k + zs.getD k 0 * pw k := rfl
theorem pv_past {zs : List Int} {k : Nat} (h : zs.length ≤ k) : pv zs k = pv zs zs.length := by
  induction k with
  | zero => have : zs.length = 0 := by omega
            rw [this]
  | succ k ih =>
    by_cases e : zs.length = k + 1
    · rw [e]
    · rw [pv_succ, ih (by omega)]
      have : zs.getD k 0 = 0 := by simp [List.getD_eq_getElem?_getD, List.getElem?_eq_none (by omega : zs.length ≤ k)]
      rw [this]; simp
theorem pv_cons (z : Int) (r : List Int) (k : Nat) : pv (z :: r) (k + 1) = z + 65536 * pv r k := by
  induction k with
  | zero => simp [pv, pw]
  | succ k ih =>
    rw [pv_succ, ih, pv_succ]
    have : (z :: r).getD (k + 1) 0 = r.getD k 0 := by simp
    rw [this, pw_succ, Int.mul_add, ← Int.mul_assoc, Int.mul_comm (r.getD k 0 * pw k) 65536]
    omega
theorem pv_val : ∀ (zs : List Int), pv zs zs.length = val zs
  | [] => rfl
  | z :: r => by rw [List.length_cons, pv_cons, pv_val r]; rfl
theorem pv_all {zs : List Int} {k : Nat} (h : zs.length ≤ k) : pv zs k = val zs := by rw [pv_past h, pv_val]
theorem pv_congr {xs ys : List Int} {k : Nat} (h : ∀ i, i < k → xs.getD i 0 = ys.getD i 0) : pv xs k = pv ys k := by
  induction k with
  | zero => rfl
  | succ k ih => rw [pv_succ, pv_succ, ih (fun i hi => h i (by omega)), h k (by omega)]
theorem pv_append (xs ys : List Int) : pv (xs ++ ys) xs.length = val xs := by
  rw [← pv_val]
  exact pv_congr (fun i hi => by simp [List.getD_eq_getElem?_getD, List.getElem?_append_left hi])
theorem val_append (xs ys : List Int) : val (xs ++ ys) = val xs + pw xs.length * val ys := by
  induction xs with
  | nil => simp [val, pw]
  | cons x xs ih =>
    simp only [List.cons_append, val, ih, List.length_cons, pw_succ]
    rw [Int.mul_add, Int.mul_comm (pw xs.length) 65536, Int.mul_assoc]
    omega
theorem val_snoc (xs : List Int) (z : Int) : val (xs ++ [z]) = val xs + pw xs.length * z := by rw [val_append]; simp [val]

theorem val_set : ∀ {zs : List Int} {k : Nat} (v : Int), k < zs.length → val (zs.set k v) = val zs + (v - zs.getD k 0) * pw k
  | [], k, v, h => by simp at h
  | z :: r, 0, v, _ => by simp [val, pw]; omega
  | z :: r, k + 1, v, h => by
    have ih := val_set (zs := r) (k := k) v (by simpa using h)
    have e : (z :: r).getD (k + 1) 0 = r.getD k 0 := by simp
    have e2 : (v - r.getD k 0) * (pw k * 65536) = 65536 * ((v - r.getD k 0) * pw k) := by rw [← Int.mul_assoc, Int.mul_comm]
    simp only [List.set_cons_succ, val, ih, e, pw_succ, e2]
    omega

/-- Digits below the base. -/
theorem Dg.nil : Dg [] := fun i hi => by simp at hi
theorem Dg.cons {z : Int} {r : List Int} (h0 : 0 ≤ z) (h1 : z < 65536) (h : Dg r) : Dg (z :: r) := by
  intro i hi
  cases i with
  | zero => simpa using ⟨h0, h1⟩
  | succ i => simpa using h i (by simpa using hi)
theorem Dg.at {zs : List Int} (h : Dg zs) (i : Nat) : 0 ≤ zs.getD i 0 ∧ zs.getD i 0 < 65536 := by
  by_cases hi : i < zs.length
  · exact h i hi
  · have : zs.getD i 0 = 0 := by simp [List.getD_eq_getElem?_getD, List.getElem?_eq_none (by omega : zs.length ≤ i)]
    rw [this]; omega
theorem Dg.append {xs ys : List Int} (h1 : Dg xs) (h2 : Dg ys) : Dg (xs ++ ys) := by
  intro i hi
  by_cases h : i < xs.length
  · have := h1 i h
    simpa [List.getD_eq_getElem?_getD, List.getElem?_append_left h] using this
  · have := h2 (i - xs.length) (by simp at hi; omega)
    simpa [List.getD_eq_getElem?_getD, List.getElem?_append_right (by omega : xs.length ≤ i)] using this
theorem Dg.snoc {xs : List Int} {z : Int} (h : Dg xs) (h0 : 0 ≤ z) (h1 : z < 65536) : Dg (xs ++ [z]) := h.append (Dg.cons h0 h1 Dg.nil)
theorem Dg.set {zs : List Int} {k : Nat} {v : Int} (h : Dg zs) (h0 : 0 ≤ v) (h1 : v < 65536) : Dg (zs.set k v) := by
  intro i hi
  have hi' : i < zs.length := by simpa using hi
  by_cases e : k = i
  · subst e
    simpa [List.getD_eq_getElem?_getD, hi'] using ⟨h0, h1⟩
  · have := h i hi'
    simpa [List.getD_eq_getElem?_getD, List.getElem?_set, e] using this
theorem Dg.take {zs : List Int} (h : Dg zs) (k : Nat) : Dg (zs.take k) := by
  intro i hi
  have hi' : i < k ∧ i < zs.length := by simp at hi; omega
  have := h i hi'.2
  simpa [List.getD_eq_getElem?_getD, hi'.1] using this
theorem Dg.zeros (n : Nat) : Dg (List.replicate n 0) := by
  intro i hi
  have : i < n := by simpa using hi
  simp [List.getD_eq_getElem?_getD, this]
theorem val_zeros (n : Nat) : val (List.replicate n 0) = 0 := by
  induction n with
  | zero => rfl
  | succ n ih => simp [List.replicate_succ, val, ih]
theorem val_lt' {zs : List Int} (h : Dg zs) : val zs < pw zs.length := val_lt h

/-! ### The digits of a number -/
theorem val_dgsF : ∀ (f n : Nat), n ≤ f → val (dgsF f n) = n
  | 0, n, h => by
    have : n = 0 := by omega
    subst this; rfl
  | f + 1, n, h => by
    unfold dgsF
    by_cases h0 : n = 0
    · simp [h0, val]
    · simp only [h0, if_false, val]
      rw [val_dgsF f (n / 65536) (by omega)]
      omega
theorem val_dgs (n : Nat) : val (dgs n) = n := val_dgsF n n (Nat.le_refl _)
theorem Dg_dgsF : ∀ (f n : Nat), Dg (dgsF f n)
  | 0, _ => Dg.nil
  | f + 1, n => by
    unfold dgsF
    by_cases h0 : n = 0
    · simp only [h0, if_true]; exact Dg.nil
    · simp only [h0, if_false]
      exact Dg.cons (by omega) (by omega) (Dg_dgsF f _)
theorem Dg_dgs (n : Nat) : Dg (dgs n) := Dg_dgsF n n

/-- The last digit is not 0. -/
def Can (zs : List Int) : Prop := zs.length = 0 ∨ zs.getD (zs.length - 1) 0 ≠ 0
theorem Can.tail {z : Int} {r : List Int} (h : Can (z :: r)) : Can r := by
  by_cases e : r.length = 0
  · exact .inl e
  · right
    rcases h with h | h
    · simp at h
    · obtain ⟨k, hk⟩ : ∃ k, r.length = k + 1 := ⟨r.length - 1, by omega⟩
      simpa [hk] using h
theorem can_pos {z : Int} {r : List Int} (hd : Dg (z :: r)) (hc : Can (z :: r)) : 0 < val (z :: r) := by
  induction r generalizing z with
  | nil =>
    have h1 := hd.tail.1
    rcases hc with h | h
    · simp at h
    · simp at h
      simp [val]; omega
  | cons y r ih =>
    have h1 := hd.tail
    have := ih h1.2 hc.tail
    simp only [val] at this ⊢
    omega
/-- Digits below the base, the last one not 0, are the digits of their value. -/
theorem dgs_val : ∀ {zs : List Int}, Dg zs → Can zs → dgs (val zs).toNat = zs
  | [], _, _ => rfl
  | z :: r, hd, hc => by
    have h1 := hd.tail
    have hr := dgs_val h1.2 hc.tail
    have hp := can_pos hd hc
    have hn := val_nonneg h1.2
    have e : (val (z :: r)).toNat = z.toNat + 65536 * (val r).toNat := by simp only [val]; omega
    rw [dgs_pos (by omega), e]
    have e1 : (z.toNat + 65536 * (val r).toNat) % 65536 = z.toNat := by omega
    have e2 : (z.toNat + 65536 * (val r).toNat) / 65536 = (val r).toNat := by omega
    rw [e1, e2, hr]
    congr 1
    omega
theorem can_dgsF : ∀ (f n : Nat), n ≤ f → Can (dgsF f n)
  | 0, _, _ => .inl rfl
  | f + 1, n, h => by
    unfold dgsF
    by_cases h0 : n = 0
    · simp only [h0, if_true]; exact .inl rfl
    · simp only [h0, if_false]
      right
      by_cases h1 : n / 65536 = 0
      · rw [h1, dgsF_zero]
        simp
        omega
      · rcases can_dgsF f (n / 65536) (by omega) with h2 | h2
        · have := val_dgsF f (n / 65536) (by omega)
          rw [List.length_eq_zero_iff.mp h2] at this
          simp [val] at this
          omega
        · obtain ⟨k, hk⟩ : ∃ k, (dgsF f (n / 65536)).length = k + 1 := by
            cases e : (dgsF f (n / 65536)).length with
            | zero =>
              have := val_dgsF f (n / 65536) (by omega)
              rw [List.length_eq_zero_iff.mp e] at this
              simp [val] at this
              omega
            | succ k => exact ⟨k, rfl⟩
          simpa [hk] using h2
theorem can_dgs (n : Nat) : Can (dgs n) := can_dgsF n n (Nat.le_refl _)
theorem dgs_len_iff (n k : Nat) : (dgs n).length ≤ k ↔ n < 65536 ^ k := by
  constructor
  · intro h
    have h1 := val_lt' (Dg_dgs n)
    have h2 := pw_le h
    rw [val_dgs] at h1
    rw [pw_nat] at h1 h2
    rw [pw_nat] at h2
    omega
  · exact dgs_small
/-- A number that NatOk lets by is the digits of its value. -/
theorem ok_dgs {zs : List Int} (h : okB zs = true) : ∃ x : Nat, zs = dgs x ∧ (dgs x).length ≤ 256 := by
  simp only [okB, Bool.and_eq_true, Bool.or_eq_true, decide_eq_true_eq, bne_iff_ne, List.all_eq_true] at h
  have hd : Dg zs := Dg.of (fun i hi => h.1.2 _ (by simp [List.getD_eq_getElem?_getD, List.getElem?_eq_getElem hi]))
  have hc : Can zs := h.2
  refine ⟨(val zs).toNat, (dgs_val hd hc).symm, ?_⟩
  rw [dgs_val hd hc]
  exact h.1.1
theorem dgs_ok {x : Nat} (h : (dgs x).length ≤ 256) : okB (dgs x) = true := by
  simp only [okB, Bool.and_eq_true, Bool.or_eq_true, decide_eq_true_eq, bne_iff_ne]
  refine ⟨⟨h, ?_⟩, can_dgs x⟩
  apply all_of_dig
  intro i hi
  have := Dg_dgs x i hi
  exact dig_yes this.1 this.2

/-- Needless noughts taken off: how many digits are left. -/
def trimN (zs : List Int) : Nat → Nat
  | 0 => 0
  | k + 1 => if zs.getD k 0 = 0 then trimN zs k else k + 1
theorem trimN_le (zs : List Int) (k : Nat) : trimN zs k ≤ k := by
  induction k with
  | zero => exact Nat.le_refl _
  | succ k ih => unfold trimN; split <;> omega
theorem trimN_val {zs : List Int} (k : Nat) (hk : k ≤ zs.length) : val (zs.take (trimN zs k)) = val (zs.take k) := by
  induction k with
  | zero => rfl
  | succ k ih =>
    unfold trimN
    split
    · rename_i h
      rw [ih (by omega), List.take_succ_eq_append_getElem (by omega), val_snoc]
      have : zs[k] = 0 := by simpa [List.getD_eq_getElem?_getD, List.getElem?_eq_getElem (show k < zs.length by omega)] using h
      rw [this]; simp
    · rfl
theorem trimN_can (zs : List Int) (k : Nat) (hk : k ≤ zs.length) : Can (zs.take (trimN zs k)) := by
  induction k with
  | zero => exact .inl (by simp [trimN])
  | succ k ih =>
    unfold trimN
    split
    · exact ih (by omega)
    · rename_i h
      right
      have hl : (zs.take (k + 1)).length = k + 1 := by simp; omega
      rw [hl]
      simpa [List.getD_eq_getElem?_getD] using h
/-- Digits below the base, needless noughts taken off, are the digits of their value. -/
theorem trim_dgs {zs : List Int} (h : Dg zs) : zs.take (trimN zs zs.length) = dgs (val zs).toNat := by
  have h1 := dgs_val (h.take (trimN zs zs.length)) (trimN_can zs _ (Nat.le_refl _))
  rw [trimN_val _ (Nat.le_refl _), List.take_length] at h1
  exact h1.symm
end Go.Proofs.Pin

namespace Go.Proofs.Pin
open Go.RowKit

theorem carry_eq (s P : Int) : s % 65536 * P + s / 65536 * (P * 65536) = s * P := by
  have h := Int.emod_add_mul_ediv s 65536
  have h2 : s / 65536 * (P * 65536) = (65536 * (s / 65536)) * P := by rw [Int.mul_comm P 65536, ← Int.mul_assoc, Int.mul_comm (s / 65536) 65536]
  rw [h2, ← Int.add_mul, h]
theorem pv_snoc {xs : List Int} {z : Int} : pv (xs ++ [z]) (xs.length + 1) = val xs + z * pw xs.length := by
  rw [pv_succ, pv_append]
  have : (xs ++ [z]).getD xs.length 0 = z := by simp [List.getD_eq_getElem?_getD]
  rw [this]
/-- A digit more of a sum. -/
theorem add_step {A B out : List Int} {k : Nat} {c : Int} (hl : out.length = k) (h : val out + c * pw k = pv A k + pv B k) :
    val (out ++ [(A.getD k 0 + B.getD k 0 + c) % 65536]) + (A.getD k 0 + B.getD k 0 + c) / 65536 * pw (k + 1) = pv A (k + 1) + pv B (k + 1) := by
  have e := carry_eq (A.getD k 0 + B.getD k 0 + c) (pw k)
  rw [val_snoc, hl, pw_succ, pv_succ, pv_succ]
  rw [Int.add_mul, Int.add_mul] at e
  rw [Int.mul_comm (pw k)]
  omega
/-- Digits of n or more places that are worth the base's n-th power less one have a last digit. -/
theorem can_of_le {R : List Int} (hd : Dg R) (h : R.length = 0 ∨ pw (R.length - 1) ≤ val R) : Can R := by
  rcases h with h | h
  · exact .inl h
  · by_cases h0 : R.length = 0
    · exact .inl h0
    · right
      intro e
      have e1 : R = R.take (R.length - 1) ++ [0] := by
        have e2 : R.length = (R.length - 1) + 1 := by omega
        have e3 := List.take_succ_eq_append_getElem (l := R) (i := R.length - 1) (by omega)
        rw [← e2, List.take_length] at e3
        have e4 : R[R.length - 1]'(by omega) = 0 := by simpa [List.getD_eq_getElem?_getD, List.getElem?_eq_getElem (show R.length - 1 < R.length by omega)] using e
        rw [e4] at e3
        exact e3
      have e5 := val_lt' (hd.take (R.length - 1))
      have e6 : (R.take (R.length - 1)).length = R.length - 1 := by rw [List.length_take]; omega
      rw [e6] at e5
      have e7 := congrArg val e1
      rw [val_snoc] at e7
      simp at e7
      omega
theorem can_ge {zs : List Int} (hd : Dg zs) (hc : Can zs) (h0 : 0 < zs.length) : pw (zs.length - 1) ≤ val zs := by
  rcases hc with h | h
  · omega
  · have e3 := List.take_succ_eq_append_getElem (l := zs) (i := zs.length - 1) (by omega)
    have e2 : zs.length - 1 + 1 = zs.length := by omega
    rw [e2, List.take_length] at e3
    have e6 : (zs.take (zs.length - 1)).length = zs.length - 1 := by rw [List.length_take]; omega
    have e7 := congrArg val e3
    rw [val_snoc, e6] at e7
    have e8 := val_nonneg (hd.take (zs.length - 1))
    have e9 := hd (zs.length - 1) (by omega)
    have e10 : zs.getD (zs.length - 1) 0 = zs[zs.length - 1]'(by omega) := by simp [List.getD_eq_getElem?_getD, List.getElem?_eq_getElem (show zs.length - 1 < zs.length by omega)]
    rw [e10] at h e9
    have e11 := pw_pos (zs.length - 1)
    have e12 : pw (zs.length - 1) * 1 ≤ pw (zs.length - 1) * zs[zs.length - 1]'(by omega) := Int.mul_le_mul_of_nonneg_left (by omega) (by omega)
    omega
theorem dgs_of {R : List Int} {n : Nat} (hd : Dg R) (hv : val R = n) (hc : Can R) : R = dgs n := by
  have h := dgs_val hd hc
  rw [hv] at h
  simpa using h.symm
theorem no_carry {x y : Int} {m la lb : Nat} (hx : x < pw la) (hy : y < pw lb) (h1 : la ≤ m) (h2 : lb ≤ m) : x + y < pw (m + 1) := by
  have e1 := pw_le h1
  have e2 := pw_le h2
  have e3 := pw_pos m
  rw [pw_succ]
  omega
/-- A row that is one place longer than both: nothing is carried out of it. -/
theorem sum_row {A B out : List Int} {x y n : Nat} {c : Int} (dA : Dg A) (dB : Dg B) (vA : val A = x) (vB : val B = y) (hn : n = max A.length B.length + 1) (hd : Dg out) (hc : c = 0 ∨ c = 1) (h : val out + c * pw n = x + pv B n) : (val out).toNat = x + y := by
  rw [pv_all (by omega), vB] at h
  have h1 := val_lt' dA
  have h2 := val_lt' dB
  rw [vA] at h1
  rw [vB] at h2
  have h3 := no_carry (m := max A.length B.length) h1 h2 (by omega) (by omega)
  rw [← hn] at h3
  have h4 := val_nonneg hd
  rcases hc with rfl | rfl
  · simp at h
    omega
  · omega
/-- The end of a sum: no carry, or the carry as the last digit. -/
theorem add_end {x y n : Nat} {out : List Int} {c : Int} (hn : n = max (dgs x).length (dgs y).length) (hl : out.length = n) (hd : Dg out) (hc : c = 0 ∨ c = 1) (h : val out + c * pw n = pv (dgs x) n + pv (dgs y) n) :
    (c = 0 → out = dgs (x + y)) ∧ (c = 1 → out ++ [c] = dgs (x + y)) := by
  have hx : pv (dgs x) n = x := by rw [pv_all (by omega), val_dgs]
  have hy : pv (dgs y) n = y := by rw [pv_all (by omega), val_dgs]
  rw [hx, hy] at h
  constructor
  · rintro rfl
    have hv : val out = ((x + y : Nat) : Int) := by simp at h; omega
    refine dgs_of hd hv (can_of_le hd ?_)
    by_cases h0 : out.length = 0
    · exact .inl h0
    · right
      rw [hv]
      rcases Nat.le_total (dgs x).length (dgs y).length with hm | hm
      · have e := can_ge (Dg_dgs y) (can_dgs y) (by omega)
        rw [val_dgs] at e
        have : out.length = (dgs y).length := by omega
        rw [this]; omega
      · have e := can_ge (Dg_dgs x) (can_dgs x) (by omega)
        rw [val_dgs] at e
        have : out.length = (dgs x).length := by omega
        rw [this]; omega
  · rintro rfl
    have hv : val (out ++ [1]) = ((x + y : Nat) : Int) := by rw [val_snoc, hl]; omega
    refine dgs_of (hd.snoc (by omega) (by omega)) hv ?_
    right
    simp [List.getD_eq_getElem?_getD]
end Go.Proofs.Pin

namespace Go.Proofs.Pin
open Go.RowKit

theorem getD_set {zs : List Int} {k p : Nat} {v : Int} (hk : k < zs.length) : (zs.set k v).getD p 0 = if k = p then v else zs.getD p 0 := by
  by_cases e : k = p
  · subst e
    simp [List.getD_eq_getElem?_getD, hk]
  · simp [List.getD_eq_getElem?_getD, e]

/-- One digit times one digit, laid on a row. -/
theorem mul_step {out : List Int} {i j : Nat} {p q c V pvB : Int} (hk : i + j < out.length) (h : val out + c * pw (i + j) = V + p * pvB * pw i) :
    val (out.set (i + j) ((out.getD (i + j) 0 + p * q + c) % 65536)) + (out.getD (i + j) 0 + p * q + c) / 65536 * pw (i + j + 1) = V + p * (pvB + q * pw j) * pw i := by
  have e := carry_eq (out.getD (i + j) 0 + p * q + c) (pw (i + j))
  rw [val_set _ hk, pw_succ]
  rw [Int.add_mul, Int.add_mul] at e
  have e2 : p * (pvB + q * pw j) * pw i = p * pvB * pw i + p * q * pw (i + j) := by
    rw [Int.mul_add, Int.add_mul, pw_add, ← Int.mul_assoc, Int.mul_assoc (p * q) (pw j) (pw i), Int.mul_comm (pw j) (pw i)]
  rw [Int.sub_mul, e2]
  omega
/-- The end of a row: the carry goes where nothing lay. -/
theorem mul_row {out A B : List Int} {i : Nat} {c : Int} (hk : i + B.length < out.length) (hz : out.getD (i + B.length) 0 = 0) (h : val out + c * pw (i + B.length) = pv A i * val B + A.getD i 0 * val B * pw i) :
    val (out.set (i + B.length) c) = pv A (i + 1) * val B := by
  rw [val_set _ hk, hz, pv_succ, Int.add_mul]
  have e : A.getD i 0 * pw i * val B = A.getD i 0 * val B * pw i := by rw [Int.mul_assoc, Int.mul_comm (pw i), ← Int.mul_assoc]
  rw [e]
  simp only [Int.sub_zero]
  omega
theorem digProd {p q : Int} (hp : 0 ≤ p ∧ p < 65536) (hq : 0 ≤ q ∧ q < 65536) : 0 ≤ p * q ∧ p * q ≤ 4294836225 := by
  refine ⟨Int.mul_nonneg hp.1 hq.1, ?_⟩
  have h1 : p * q ≤ p * 65535 := Int.mul_le_mul_of_nonneg_left (by omega) hp.1
  omega
theorem row_dgs {out : List Int} {n : Nat} (hd : Dg out) (hv : val out = n) : out.take (trimN out out.length) = dgs n := by
  rw [trim_dgs hd, hv]
  simp
end Go.Proofs.Pin

namespace Go.Proofs.Pin
open Go.RowKit

theorem drop_set {zs : List Int} {j : Nat} {v : Int} (h : j < zs.length) : (zs.set j v).drop j = v :: zs.drop (j + 1) := by
  apply List.ext_getElem?
  intro i
  rw [List.getElem?_drop]
  cases i with
  | zero => simp [h]
  | succ i =>
    rw [List.getElem?_set_ne (by omega)]
    simp [List.getElem?_drop]
    congr 1
    omega
/-- One digit more of a quotient by d. -/
theorem div_step {A out : List Int} {j : Nat} {d r : Int} (hA : j < A.length) (ho : j < out.length) (h : val (A.drop (j + 1)) = val (out.drop (j + 1)) * d + r) :
    val (A.drop j) = val ((out.set j ((r * 65536 + A.getD j 0) / d)).drop j) * d + (r * 65536 + A.getD j 0) % d := by
  rw [drop_set ho, val_drop hA, h]
  simp only [val]
  have e := Int.emod_add_mul_ediv (r * 65536 + A.getD j 0) d
  have e3 : (r * 65536 + A.getD j 0) / d * d = d * ((r * 65536 + A.getD j 0) / d) := Int.mul_comm _ _
  rw [Int.add_mul, e3]
  have e2 : 65536 * val (out.drop (j + 1)) * d = 65536 * (val (out.drop (j + 1)) * d) := Int.mul_assoc _ _ _
  rw [e2]
  omega
theorem div_digit {r a d : Int} (hd : 0 < d) (hd2 : d ≤ 65536) (hr0 : 0 ≤ r) (hr1 : r < d) (ha0 : 0 ≤ a) (ha1 : a < 65536) : 0 ≤ (r * 65536 + a) / d ∧ (r * 65536 + a) / d < 65536 := by
  refine ⟨Int.ediv_nonneg (by omega) (by omega), ?_⟩
  apply Int.ediv_lt_of_lt_mul hd
  have : r * 65536 + a < (r + 1) * 65536 := by omega
  have h2 : (r + 1) * 65536 ≤ d * 65536 := by omega
  rw [Int.mul_comm]
  omega
theorem mod_bound {s d : Int} (hd : 0 < d) : 0 ≤ s % d ∧ s % d < d := ⟨Int.emod_nonneg _ (by omega), Int.emod_lt_of_pos _ hd⟩
theorem div_end {x : Nat} {q r d : Int} (hd : 0 < d) (hr0 : 0 ≤ r) (hr1 : r < d) (h : (x : Int) = q * d + r) : q = ((x / d.toNat : Nat) : Int) ∧ r = ((x % d.toNat : Nat) : Int) := by
  obtain ⟨m, rfl⟩ : ∃ m : Nat, d = m := ⟨d.toNat, by omega⟩
  have h1 : (x : Int) / m = q := by
    rw [h]
    rw [Int.add_comm, Int.add_mul_ediv_right _ _ (by omega), Int.ediv_eq_zero_of_lt hr0 hr1]
    omega
  have h2 : (x : Int) % m = r := by
    rw [h, Int.add_comm, Int.add_mul_emod_self_right, Int.emod_eq_of_lt hr0 hr1]
  constructor
  · rw [← h1]; simp
  · rw [← h2]; simp

theorem dgs_drop (k x : Nat) : (dgs x).drop k = dgs (x / 65536 ^ k) := by
  induction k generalizing x with
  | zero => simp
  | succ k ih =>
    by_cases h0 : x = 0
    · subst h0
      simp [dgs_zero]
    · rw [dgs_pos h0, List.drop_succ_cons, ih, Nat.div_div_eq_div_mul, Nat.pow_succ, Nat.mul_comm]
theorem dgs_shift (k x : Nat) (h : x ≠ 0) : List.replicate k (0 : Int) ++ dgs x = dgs (x * 65536 ^ k) := by
  refine dgs_of ((Dg.zeros k).append (Dg_dgs x)) ?_ ?_
  · rw [val_append, val_zeros, val_dgs, List.length_replicate, pw_nat]
    simp
    rw [Int.mul_comm]
  · right
    rcases can_dgs x with hc | hc
    · have := val_dgs x
      rw [List.length_eq_zero_iff.mp hc] at this
      simp [val] at this
      omega
    · have hl : 0 < (dgs x).length := by
        rcases Nat.eq_zero_or_pos (dgs x).length with h1 | h1
        · have := val_dgs x
          rw [List.length_eq_zero_iff.mp h1] at this
          simp [val] at this
          omega
        · exact h1
      have e : (List.replicate k (0 : Int) ++ dgs x).length - 1 = k + ((dgs x).length - 1) := by simp; omega
      rw [e]
      have e2 : (List.replicate k (0 : Int) ++ dgs x).getD (k + ((dgs x).length - 1)) 0 = (dgs x).getD ((dgs x).length - 1) 0 := by
        simp [List.getD_eq_getElem?_getD, List.getElem?_append_right]
      rw [e2]
      exact hc
theorem dgs_digit {d : Nat} (h0 : d ≠ 0) (h1 : d < 65536) : dgs d = [(d : Int)] := by
  rw [dgs_pos h0]
  have e1 : d % 65536 = d := by omega
  have e2 : d / 65536 = 0 := by omega
  rw [e1, e2, dgs_zero]
end Go.Proofs.Pin

namespace Go.Proofs.Pin
open Go.RowKit

theorem dgs_at (x k : Nat) : (dgs x).getD k 0 = ((x / 65536 ^ k % 65536 : Nat) : Int) := by
  have h := dgs_drop k x
  have e : (dgs x).getD k 0 = ((dgs x).drop k).getD 0 0 := by simp [List.getD_eq_getElem?_getD, List.getElem?_drop]
  rw [e, h]
  by_cases h0 : x / 65536 ^ k = 0
  · rw [h0]; rfl
  · rw [dgs_pos h0]; simp
theorem pow_split (x n : Nat) (h : x < 65536 ^ (n + 2)) : x / 65536 ^ n = x / 65536 ^ (n + 1) % 65536 * 65536 + x / 65536 ^ n % 65536 := by
  have e : x / 65536 ^ (n + 1) = x / 65536 ^ n / 65536 := by rw [Nat.pow_succ, Nat.div_div_eq_div_mul]
  have h2 : x / 65536 ^ n < 65536 * 65536 := by
    rw [Nat.div_lt_iff_lt_mul (Nat.pow_pos (by decide))]
    rw [show n + 2 = n + 1 + 1 from rfl, Nat.pow_succ, Nat.pow_succ, Nat.mul_assoc, Nat.mul_comm] at h
    exact h
  rw [e]
  obtain ⟨u, hu⟩ : ∃ u, u = x / 65536 ^ n := ⟨_, rfl⟩
  rw [← hu] at h2 ⊢
  clear hu e h
  omega
/-- The digit that the two highest digits give by the divisor's highest one is not too small. -/
theorem guess_ge {r y m t : Nat} (hy : t * 65536 ^ m ≤ y) (ht : 0 < t) : r / y ≤ r / 65536 ^ m / t := by
  rw [Nat.le_div_iff_mul_le ht, Nat.le_div_iff_mul_le (Nat.pow_pos (by decide))]
  have h1 : r / y * y ≤ r := Nat.div_mul_le_self r y
  have h2 : r / y * (t * 65536 ^ m) ≤ r / y * y := Nat.mul_le_mul_left _ hy
  rw [← Nat.mul_assoc] at h2
  omega
/-- The loop that sets the guess right ends at the quotient. -/
theorem guess_down {r y g : Nat} (hy : 0 < y) (hg : r / y ≤ g) (h : r < y * g) : 1 ≤ g ∧ r / y ≤ g - 1 ∧ y * g - y = y * (g - 1) := by
  have h1 : r / y < g := by rw [Nat.div_lt_iff_lt_mul hy, Nat.mul_comm]; exact h
  have h2 : 1 ≤ g := Nat.lt_of_le_of_lt (Nat.zero_le _) h1
  refine ⟨h2, Nat.le_sub_one_of_lt h1, ?_⟩
  obtain ⟨j, rfl⟩ : ∃ j, g = j + 1 := ⟨g - 1, by omega⟩
  rw [Nat.mul_add]
  simp
theorem guess_end {r y g : Nat} (hy : 0 < y) (hg : r / y ≤ g) (h : y * g ≤ r) : g = r / y ∧ r - y * g = r % y := by
  have h1 : g ≤ r / y := by rw [Nat.le_div_iff_mul_le hy, Nat.mul_comm]; exact h
  have h2 : g = r / y := by omega
  refine ⟨h2, ?_⟩
  have h3 := Nat.div_add_mod r y
  rw [h2]
  omega
/-- One digit more of a long quotient. -/
theorem long_step {X Y R j : Nat} {out : List Int} (ho : j < out.length) (h : ((X / 65536 ^ (j + 1) : Nat) : Int) = val (out.drop (j + 1)) * Y + R) :
    ((X / 65536 ^ j : Nat) : Int) = val ((out.set j (((R * 65536 + X / 65536 ^ j % 65536) / Y : Nat) : Int)).drop j) * Y + ((R * 65536 + X / 65536 ^ j % 65536) % Y : Nat) := by
  have e : X / 65536 ^ (j + 1) = X / 65536 ^ j / 65536 := by rw [Nat.pow_succ, Nat.div_div_eq_div_mul]
  rw [e] at h
  obtain ⟨u, hu⟩ : ∃ u, u = X / 65536 ^ j := ⟨_, rfl⟩
  rw [← hu] at h ⊢
  have h3 := Nat.div_add_mod (R * 65536 + u % 65536) Y
  obtain ⟨q, hq⟩ : ∃ q, q = (R * 65536 + u % 65536) / Y := ⟨_, rfl⟩
  obtain ⟨s, hs⟩ : ∃ s, s = (R * 65536 + u % 65536) % Y := ⟨_, rfl⟩
  rw [← hq, ← hs] at h3 ⊢
  rw [drop_set ho]
  simp only [val]
  obtain ⟨V, hV⟩ : ∃ V, V = val (out.drop (j + 1)) := ⟨_, rfl⟩
  rw [← hV] at h ⊢
  rw [Int.add_mul, Int.mul_assoc]
  have h4 : ((Y * q : Nat) : Int) = (q : Int) * (Y : Int) := by rw [Nat.mul_comm]; simp
  omega
theorem long_digit {X Y R j : Nat} (hY : 0 < Y) (hR : R < Y) : (R * 65536 + X / 65536 ^ j % 65536) / Y < 65536 := by
  rw [Nat.div_lt_iff_lt_mul hY]
  have h1 : X / 65536 ^ j % 65536 < 65536 := Nat.mod_lt _ (by decide)
  have h2 : (R + 1) * 65536 ≤ Y * 65536 := Nat.mul_le_mul_right _ hR
  rw [Nat.mul_comm 65536 Y]
  omega
theorem long_end {x y up R : Nat} {q : Int} (hy : 0 < y) (hup : 0 < up) (hR : R < y * up) (h : ((x * up : Nat) : Int) = q * ((y * up : Nat) : Int) + R) : q = ((x / y : Nat) : Int) ∧ R = x % y * up := by
  have hd : (0 : Int) < ((y * up : Nat) : Int) := by
    have := Nat.mul_pos hy hup
    omega
  have e := div_end (x := x * up) (q := q) (r := (R : Int)) hd (by omega) (by omega) h
  simp only [Int.toNat_natCast] at e
  rw [Nat.mul_div_mul_right _ _ hup, Nat.mul_mod_mul_right] at e
  exact ⟨e.1, by omega⟩
end Go.Proofs.Pin

namespace Go.Proofs.YthokphoojmpajahDoor
open Go.RowKit Go.Proofs.Pin

theorem guess3 {R Y M D : Nat} (hD : D * M ≤ Y) (hY : Y < (D + 1) * M) (hM : 0 < M) (hB : 65536 ≤ D) (hq : R / Y ≤ 65535) : R / Y ≤ R / M / D ∧ R / M / D ≤ R / Y + 1 := by
  have hD0 : 0 < D := by omega
  have hY0 : 0 < Y := Nat.lt_of_lt_of_le (Nat.mul_pos hD0 hM) hD
  constructor
  · rw [Nat.le_div_iff_mul_le hD0, Nat.le_div_iff_mul_le hM]
    have h1 : R / Y * Y ≤ R := Nat.div_mul_le_self R Y
    have h2 : R / Y * (D * M) ≤ R / Y * Y := Nat.mul_le_mul_left _ hD
    rw [← Nat.mul_assoc] at h2
    omega
  · apply Nat.le_of_lt_succ
    rw [Nat.div_lt_iff_lt_mul hD0, Nat.div_lt_iff_lt_mul hM]
    have h1 : R < (R / Y + 1) * Y := by
      have h := Nat.div_add_mod R Y
      have h2 := Nat.mod_lt R hY0
      rw [Nat.add_mul, Nat.one_mul, Nat.mul_comm]
      omega
    obtain ⟨q, hqe⟩ : ∃ q, q = R / Y := ⟨_, rfl⟩
    rw [← hqe] at h1 hq ⊢
    have h2 : (q + 1) * Y ≤ (q + 1) * ((D + 1) * M) := Nat.mul_le_mul_left _ (Nat.le_of_lt hY)
    have h3 : (q + 1) * (D + 1) ≤ (q + 1 + 1) * D := by
      rw [Nat.mul_add, Nat.mul_one, Nat.add_mul (q + 1) 1 D, Nat.one_mul]
      omega
    have h4 : (q + 1) * (D + 1) * M ≤ (q + 1 + 1) * D * M := Nat.mul_le_mul_right _ h3
    rw [← Nat.mul_assoc] at h2
    exact Nat.lt_of_lt_of_le h1 (Nat.le_trans h2 h4)
/-- Where the rest's pair is the divisor's the greatest digit is right. -/
theorem guess3_same {R Y M D z : Nat} (hY : Y < (D + 1) * M) (hM : 0 < M) (hB : 65536 ≤ D) (hD : D * M ≤ Y) (hR : R / M = D * 65536 + z) (hq : R / Y ≤ 65535) : R / Y = 65535 := by
  have hY0 : 0 < Y := Nat.lt_of_lt_of_le (Nat.mul_pos (by omega) hM) hD
  refine Nat.le_antisymm hq ?_
  rw [Nat.le_div_iff_mul_le hY0]
  have h1 : R / M * M ≤ R := Nat.div_mul_le_self R M
  rw [hR, Nat.add_mul] at h1
  have h2 : 65535 * Y ≤ 65535 * ((D + 1) * M) := Nat.mul_le_mul_left _ (Nat.le_of_lt hY)
  have h3 : 65535 * (D + 1) ≤ D * 65536 := by omega
  have h4 : 65535 * (D + 1) * M ≤ D * 65536 * M := Nat.mul_le_mul_right _ h3
  rw [← Nat.mul_assoc] at h2
  omega
end Go.Proofs.YthokphoojmpajahDoor

namespace Go.Proofs.YthokphoojmpajahDoor
open Go.RowKit Go.Proofs.Pin

/-- A digit of a row is the digit of its number. -/
theorem row_at : ∀ {L : List Int} {R : Nat}, Dg L → val L = (R : Int) → ∀ k, L.getD k 0 = ((R / 65536 ^ k % 65536 : Nat) : Int)
  | [], R, _, hv, k => by
    simp only [val] at hv
    have : R = 0 := by omega
    subst this
    simp
  | z :: r, R, hd, hv, k => by
    obtain ⟨⟨h0, h1⟩, hr⟩ := hd.tail
    simp only [val] at hv
    have hn := val_nonneg hr
    cases k with
    | zero =>
      simp
      omega
    | succ k =>
      have e : val r = ((R / 65536 : Nat) : Int) := by omega
      have ih := row_at hr e k
      rw [Nat.div_div_eq_div_mul] at ih
      rw [Nat.pow_succ, Nat.mul_comm]
      simpa using ih

theorem shift_row {rest : List Int} {R n xj : Nat} (hl : rest.length = n + 1) (hd : Dg rest) (hv : val rest = (R : Int)) (hR : R < 65536 ^ n) (hx : xj < 65536) :
    ((xj : Int) :: rest.take n).length = n + 1 ∧ Dg ((xj : Int) :: rest.take n) ∧ val ((xj : Int) :: rest.take n) = ((R * 65536 + xj : Nat) : Int) := by
  refine ⟨by simp; omega, Dg.cons (by omega) (by omega) (hd.take n), ?_⟩
  have h0 : rest.getD n 0 = 0 := by
    rw [row_at hd hv n, Nat.div_eq_of_lt hR]
    rfl
  have e : rest = rest.take n ++ [rest.getD n 0] := by
    have hn : n < rest.length := by omega
    have e1 := List.take_append_getElem (l := rest) (i := n) hn
    have e2 : rest.take (n + 1) = rest := List.take_of_length_le (by omega)
    rw [e2] at e1
    rw [List.getD_eq_getElem?_getD, List.getElem?_eq_getElem hn]
    exact e1.symm
  rw [h0] at e
  have hv2 : val rest = val (rest.take n) := by
    have h := congrArg val e
    rw [val_snoc] at h
    rw [h]
    simp
  simp only [val]
  rw [← hv2, hv]
  omega

/-- guessDigit's answer. -/
def guessV (p q z p' q' : Int) : Int := if p = p' ∧ q = q' then 65535 else ((p * 65536 + q) * 65536 + z) / (p' * 65536 + q')

theorem long_guess {R y m xj : Nat} {L : List Int} (hn : (dgs y).length = m + 2) (hR : R < y) (hx : xj < 65536) (hd : Dg L) (hv : val L = ((R * 65536 + xj : Nat) : Int)) :
    0 ≤ guessV (L.getD (m + 2) 0) (L.getD (m + 1) 0) (L.getD m 0) ((dgs y).getD (m + 1) 0) ((dgs y).getD m 0) ∧ guessV (L.getD (m + 2) 0) (L.getD (m + 1) 0) (L.getD m 0) ((dgs y).getD (m + 1) 0) ((dgs y).getD m 0) < 65536 ∧
    (guessV (L.getD (m + 2) 0) (L.getD (m + 1) 0) (L.getD m 0) ((dgs y).getD (m + 1) 0) ((dgs y).getD m 0) = (((R * 65536 + xj) / y : Nat) : Int) ∨ guessV (L.getD (m + 2) 0) (L.getD (m + 1) 0) (L.getD m 0) ((dgs y).getD (m + 1) 0) ((dgs y).getD m 0) = (((R * 65536 + xj) / y : Nat) : Int) + 1) ∧
    0 < (dgs y).getD (m + 1) 0 := by
  have hy1 : y < 65536 ^ (m + 2) := (dgs_len_iff y (m + 2)).1 (by omega)
  have hy0 : 65536 ^ (m + 1) ≤ y := by
    rcases Nat.lt_or_ge y (65536 ^ (m + 1)) with h | h
    · have := (dgs_len_iff y (m + 1)).2 h
      omega
    · exact h
  rw [row_at hd hv, row_at hd hv, row_at hd hv, dgs_at, dgs_at]
  have hq : (R * 65536 + xj) / y ≤ 65535 := by
    apply Nat.le_of_lt_succ
    rw [Nat.div_lt_iff_lt_mul (by omega)]
    have h2 : (R + 1) * 65536 ≤ y * 65536 := Nat.mul_le_mul_right _ hR
    omega
  obtain ⟨R1, hR1⟩ : ∃ R1, R1 = R * 65536 + xj := ⟨_, rfl⟩
  have hR1d : R1 / 65536 = R := by omega
  have hR1b : R1 < 65536 ^ (m + 3) := by
    have e : 65536 ^ (m + 3) = 65536 ^ (m + 2) * 65536 := Nat.pow_succ ..
    omega
  rw [← hR1] at hq ⊢
  have hM : 0 < 65536 ^ m := Nat.pow_pos (by decide)
  have eD := pow_split y m hy1
  have eP := pow_split R1 (m + 1) hR1b
  have e1 : R1 / 65536 ^ (m + 1) = R1 / 65536 ^ m / 65536 := by rw [Nat.pow_succ, Nat.div_div_eq_div_mul]
  have e2 : R1 / 65536 ^ (m + 1) = R / 65536 ^ m := by rw [Nat.pow_succ, Nat.mul_comm, ← Nat.div_div_eq_div_mul, hR1d]
  have hle : R / 65536 ^ m ≤ y / 65536 ^ m := Nat.div_le_div_right (Nat.le_of_lt hR)
  have hDM : y / 65536 ^ m * 65536 ^ m ≤ y := Nat.div_mul_le_self _ _
  have hYM : y < (y / 65536 ^ m + 1) * 65536 ^ m := by
    rw [Nat.mul_comm]
    exact Nat.lt_mul_div_succ y hM
  have hB : 65536 ≤ y / 65536 ^ m := by
    rw [Nat.le_div_iff_mul_le hM]
    rw [Nat.pow_succ] at hy0
    omega
  have g3 := guess3 hDM hYM hM hB hq
  have hsame := guess3_same (R := R1) (z := R1 / 65536 ^ m % 65536) hYM hM hB hDM
  have hbound : R / 65536 ^ m < y / 65536 ^ m → R1 / 65536 ^ m / (y / 65536 ^ m) < 65536 := by
    intro h
    rw [Nat.div_lt_iff_lt_mul (by omega)]
    rw [e2] at e1
    omega
  obtain ⟨Q, hQ⟩ : ∃ Q, Q = R1 / y := ⟨_, rfl⟩
  obtain ⟨u, hu⟩ : ∃ u, u = R1 / 65536 ^ m := ⟨_, rfl⟩
  obtain ⟨D, hD⟩ : ∃ D, D = y / 65536 ^ m := ⟨_, rfl⟩
  obtain ⟨t, ht⟩ : ∃ t, t = R / 65536 ^ m := ⟨_, rfl⟩
  obtain ⟨p, hp⟩ : ∃ p, p = R1 / 65536 ^ (m + 2) % 65536 := ⟨_, rfl⟩
  obtain ⟨qq, hqq⟩ : ∃ qq, qq = R1 / 65536 ^ (m + 1) % 65536 := ⟨_, rfl⟩
  obtain ⟨p', hp'⟩ : ∃ p', p' = y / 65536 ^ (m + 1) % 65536 := ⟨_, rfl⟩
  rw [show m + 1 + 1 = m + 2 from rfl] at eP
  rw [← hp, ← hqq, e2, ← ht] at eP
  rw [e2, ← ht, ← hu] at e1
  rw [← ht, ← hD] at hle hbound
  rw [← hD, ← hp'] at eD
  rw [← hD] at hB
  rw [← hu, ← hD, ← hQ] at g3
  rw [← hu] at hbound
  rw [← hu, ← hD, ← hQ] at hsame
  rw [← hQ] at hq
  rw [← hu, ← hQ, ← hp, ← hqq, ← hp']
  have hqq' : y / 65536 ^ m % 65536 = D % 65536 := by rw [hD]
  rw [hqq']
  have hqb : qq < 65536 := by rw [hqq]; exact Nat.mod_lt _ (by decide)
  clear hQ hu hD ht hp hqq hp' hqq' hDM hYM hR1b hR1d hy0 hy1 hM e2 hn hd hv
  have hpos : 0 < p' := by omega
  unfold guessV
  by_cases hc : (p : Int) = p' ∧ (qq : Int) = ((D % 65536 : Nat) : Int)
  · rw [if_pos hc]
    have hs := hsame (by omega) hq
    refine ⟨by omega, by omega, .inl (by omega), by omega⟩
  · rw [if_neg hc]
    have hlt : t < D := by
      rcases Nat.lt_or_eq_of_le hle with h | h
      · exact h
      · exact absurd (by omega) hc
    have hb := hbound hlt
    have eN : (((p : Int) * 65536 + qq) * 65536 + ((u % 65536 : Nat) : Int)) = (u : Int) := by omega
    have eDI : ((p' : Int) * 65536 + ((D % 65536 : Nat) : Int)) = (D : Int) := by omega
    rw [eN, eDI]
    have eG : (u : Int) / (D : Int) = ((u / D : Nat) : Int) := by simp
    rw [eG]
    refine ⟨by omega, by omega, by omega, by omega⟩

/-- What is taken off and, where that went below 0, put on once more leaves the rest. -/
theorem off_case {R1 y n : Nat} {G c : Int} {out : List Int} (hy : 0 < y) (hyn : y < 65536 ^ n) (hG : G = ((R1 / y : Nat) : Int) ∨ G = ((R1 / y : Nat) : Int) + 1) (hl : out.length = n + 1) (hd : Dg out) (hc : 0 ≤ c) (h : val out - c * pw (n + 1) = (R1 : Int) - G * y) :
    (c = 0 ∧ G = ((R1 / y : Nat) : Int) ∧ val out = ((R1 % y : Nat) : Int)) ∨ (0 < c ∧ G - 1 = ((R1 / y : Nat) : Int) ∧ ∀ (out2 : List Int) (c2 : Int), Dg out2 → out2.length = n + 1 → (c2 = 0 ∨ c2 = 1) → val out2 + c2 * pw (n + 1) = val out + y → val out2 = ((R1 % y : Nat) : Int)) := by
  have h0 := val_nonneg hd
  have h1 := val_lt' hd
  rw [hl] at h1
  have hP : (y : Int) < pw (n + 1) := by
    rw [pw_nat, Nat.pow_succ]
    have : 65536 ^ n ≤ 65536 ^ n * 65536 := Nat.le_mul_of_pos_right _ (by decide)
    omega
  have hr := Nat.mod_lt R1 hy
  have hdm : ((y * (R1 / y) : Nat) : Int) + ((R1 % y : Nat) : Int) = (R1 : Int) := by
    have := Nat.div_add_mod R1 y
    omega
  have hcomm : ((y * (R1 / y) : Nat) : Int) = ((R1 / y : Nat) : Int) * (y : Int) := by rw [Nat.mul_comm]; simp
  obtain ⟨q, hq⟩ : ∃ q, q = R1 / y := ⟨_, rfl⟩
  obtain ⟨r, hrr⟩ : ∃ r, r = R1 % y := ⟨_, rfl⟩
  obtain ⟨P, hPP⟩ : ∃ P, P = pw (n + 1) := ⟨_, rfl⟩
  rw [← hq] at hG hdm hcomm ⊢
  rw [← hrr] at hr hdm ⊢
  rw [← hPP] at h h1 hP ⊢
  have hcs : c = 0 ∨ c = 1 ∨ 2 ≤ c := by omega
  have hc2 : 2 ≤ c → 2 * P ≤ c * P := fun h => Int.mul_le_mul_of_nonneg_right h (by omega)
  rcases hG with hG | hG
  · left
    subst hG
    rw [← hcomm] at h
    rcases hcs with rfl | rfl | hge
    · exact ⟨rfl, rfl, by omega⟩
    · omega
    · have := hc2 hge
      omega
  · right
    subst hG
    have e : ((q : Int) + 1) * (y : Int) = (q : Int) * y + y := by rw [Int.add_mul, Int.one_mul]
    rw [e, ← hcomm] at h
    rcases hcs with rfl | rfl | hge
    · omega
    · refine ⟨by omega, by omega, fun out2 c2 hd2 hl2 hcc h2 => ?_⟩
      have k0 := val_nonneg hd2
      have k1 := val_lt' hd2
      rw [hl2, ← hPP] at k1
      rcases hcc with rfl | rfl
      · omega
      · omega
    · have := hc2 hge
      omega
end Go.Proofs.YthokphoojmpajahDoor
