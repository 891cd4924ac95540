/- Numbers and their digits: value, partial value, the digits of a number; no Go text in sight. -/
import Derived.Test.YthokphoojmpajahVal
namespace Go.Proofs.Pin
open Go.RowKit

/-- The base to the power of k. -/
def pw (k : Nat) : Int := 65536 ^ k
theorem pw_zero : pw 0 = 1 := rfl
theorem pw_succ (k : Nat) : pw (k + 1) = pw k * 65536 := by unfold pw; rw [Int.pow_succ]
theorem pw_pos (k : Nat) : 0 < pw k := by unfold pw; exact Int.pow_pos (by decide)
theorem pw_add (i j : Nat) : pw (i + j) = pw i * pw j := by unfold pw; rw [Int.pow_add]
theorem pw_le {i j : Nat} (h : i ≤ j) : pw i ≤ pw j := by
  obtain ⟨k, rfl⟩ : ∃ k, j = i + k := ⟨j - i, by omega⟩
  rw [pw_add]
  have h1 := pw_pos i
  have h2 := pw_pos k
  calc pw i = pw i * 1 := by rw [Int.mul_one]
    _ ≤ pw i * pw k := Int.mul_le_mul_of_nonneg_left (by omega) (by omega)
theorem pw_nat (k : Nat) : pw k = ((65536 ^ k : Nat) : Int) := by unfold pw; simp

/-- The value of the k lowest digits (a number goes on with noughts). -/
def pv (zs : List Int) : Nat → Int
  | 0 => 0
  | k + 1 => pv zs k + zs.getD k 0 * pw k
theorem pv_succ (zs : List Int) (k : Nat) : pv zs (k + 1) = pv zs k + zs.getD k 0 * pw k := rfl
theorem pv_past {zs : List Int} {k : Nat} (h : zs.length ≤ k) : pv zs k = pv zs zs.length := by
  induction k with
  | zero => have : zs.length = 0 := by omega
            rw [this]
  | succ k ih =>
    by_cases e : zs.length = k + 1
    · rw [e]
    · rw [pv_succ, ih (by omega)]
      have : zs.getD k 0 = 0 := by simp [List.getD_eq_getElem?_getD, List.getElem?_eq_none (by omega : zs.length ≤ k)]
      rw [this]; simp
theorem pv_cons (z : Int) (r : List Int) (k : Nat) : pv (z :: r) (k + 1) = z + 65536 * pv r k := by
  induction k with
  | zero => simp [pv, pw]
  | succ k ih =>
    rw [pv_succ, ih, pv_succ]
    have : (z :: r).getD (k + 1) 0 = r.getD k 0 := by simp
    rw [this, pw_succ, Int.mul_add, ← Int.mul_assoc, Int.mul_comm (r.getD k 0 * pw k) 65536]
    omega
theorem pv_val : ∀ (zs : List Int), pv zs zs.length = val zs
  | [] => rfl
  | z :: r => by rw [List.length_cons, pv_cons, pv_val r]; rfl
theorem pv_all {zs : List Int} {k : Nat} (h : zs.length ≤ k) : pv zs k = val zs := by rw [pv_past h, pv_val]
theorem pv_congr {xs ys : List Int} {k : Nat} (h : ∀ i, i < k → xs.getD i 0 = ys.getD i 0) : pv xs k = pv ys k := by
  induction k with
  | zero => rfl
  | succ k ih => rw [pv_succ, pv_succ, ih (fun i hi => h i (by omega)), h k (by omega)]
theorem pv_append (xs ys : List Int) : pv (xs ++ ys) xs.length = val xs := by
  rw [← pv_val]
  exact pv_congr (fun i hi => by simp [List.getD_eq_getElem?_getD, List.getElem?_append_left hi])
theorem val_append (xs ys : List Int) : val (xs ++ ys) = val xs + pw xs.length * val ys := by
  induction xs with
  | nil => simp [val, pw]
  | cons x xs ih =>
    simp only [List.cons_append, val, ih, List.length_cons, pw_succ]
    rw [Int.mul_add, Int.mul_comm (pw xs.length) 65536, Int.mul_assoc]
    omega
theorem val_snoc (xs : List Int) (z : Int) : val (xs ++ [z]) = val xs + pw xs.length * z := by rw [val_append]; simp [val]

theorem val_set : ∀ {zs : List Int} {k : Nat} (v : Int), k < zs.length → val (zs.set k v) = val zs + (v - zs.getD k 0) * pw k
  | [], k, v, h => by simp at h
  | z :: r, 0, v, _ => by simp [val, pw]; omega
  | z :: r, k + 1, v, h => by
    have ih := val_set (zs := r) (k := k) v (by simpa using h)
    have e : (z :: r).getD (k + 1) 0 = r.getD k 0 := by simp
    have e2 : (v - r.getD k 0) * (pw k * 65536) = 65536 * ((v - r.getD k 0) * pw k) := by rw [← Int.mul_assoc, Int.mul_comm]
    simp only [List.set_cons_succ, val, ih, e, pw_succ, e2]
    omega

/-- Digits below the base. -/
theorem Dg.nil : Dg [] := fun i hi => by simp at hi
theorem Dg.cons {z : Int} {r : List Int} (h0 : 0 ≤ z) (h1 : z < 65536) (h : Dg r) : Dg (z :: r) := by
  intro i hi
  cases i with
  | zero => simpa using ⟨h0, h1⟩
  | succ i => simpa using h i (by simpa using hi)
theorem Dg.at {zs : List Int} (h : Dg zs) (i : Nat) : 0 ≤ zs.getD i 0 ∧ zs.getD i 0 < 65536 := by
  by_cases hi : i < zs.length
  · exact h i hi
  · have : zs.getD i 0 = 0 := by simp [List.getD_eq_getElem?_getD, List.getElem?_eq_none (by omega : zs.length ≤ i)]
    rw [this]; omega
theorem Dg.append {xs ys : List Int} (h1 : Dg xs) (h2 : Dg ys) : Dg (xs ++ ys) := by
  intro i hi
  by_cases h : i < xs.length
  · have := h1 i h
    simpa [List.getD_eq_getElem?_getD, List.getElem?_append_left h] using this
  · have := h2 (i - xs.length) (by simp at hi; omega)
    simpa [List.getD_eq_getElem?_getD, List.getElem?_append_right (by omega : xs.length ≤ i)] using this
theorem Dg.snoc {xs : List Int} {z : Int} (h : Dg xs) (h0 : 0 ≤ z) (h1 : z < 65536) : Dg (xs ++ [z]) := h.append (Dg.cons h0 h1 Dg.nil)
theorem Dg.set {zs : List Int} {k : Nat} {v : Int} (h : Dg zs) (h0 : 0 ≤ v) (h1 : v < 65536) : Dg (zs.set k v) := by
  intro i hi
  have hi' : i < zs.length := by simpa using hi
  by_cases e : k = i
  · subst e
    simpa [List.getD_eq_getElem?_getD, hi'] using ⟨h0, h1⟩
  · have := h i hi'
    simpa [List.getD_eq_getElem?_getD, List.getElem?_set, e] using this
theorem Dg.take {zs : List Int} (h : Dg zs) (k : Nat) : Dg (zs.take k) := by
  intro i hi
  have hi' : i < k ∧ i < zs.length := by simp at hi; omega
  have := h i hi'.2
  simpa [List.getD_eq_getElem?_getD, hi'.1] using this
theorem Dg.zeros (n : Nat) : Dg (List.replicate n 0) := by
  intro i hi
  have : i < n := by simpa using hi
  simp [List.getD_eq_getElem?_getD, this]
theorem val_zeros (n : Nat) : val (List.replicate n 0) = 0 := by
  induction n with
  | zero => rfl
  | succ n ih => simp [List.replicate_succ, val, ih]
theorem val_lt' {zs : List Int} (h : Dg zs) : val zs < pw zs.length := val_lt h

/-! ### The digits of a number -/
theorem val_dgsF : ∀ (f n : Nat), n ≤ f → val (dgsF f n) = n
  | 0, n, h => by
    have : n = 0 := by omega
    subst this; rfl
  | f + 1, n, h => by
    unfold dgsF
    by_cases h0 : n = 0
    · simp [h0, val]
    · simp only [h0, if_false, val]
      rw [val_dgsF f (n / 65536) (by omega)]
      omega
theorem val_dgs (n : Nat) : val (dgs n) = n := val_dgsF n n (Nat.le_refl _)
theorem Dg_dgsF : ∀ (f n : Nat), Dg (dgsF f n)
  | 0, _ => Dg.nil
  | f + 1, n => by
    unfold dgsF
    by_cases h0 : n = 0
    · simp only [h0, if_true]; exact Dg.nil
    · simp only [h0, if_false]
      exact Dg.cons (by omega) (by omega) (Dg_dgsF f _)
theorem Dg_dgs (n : Nat) : Dg (dgs n) := Dg_dgsF n n

/-- The last digit is not 0. -/
def Can (zs : List Int) : Prop := zs.length = 0 ∨ zs.getD (zs.length - 1) 0 ≠ 0
theorem Can.tail {z : Int} {r : List Int} (h : Can (z :: r)) : Can r := by
  by_cases e : r.length = 0
  · exact .inl e
  · right
    rcases h with h | h
    · simp at h
    · obtain ⟨k, hk⟩ : ∃ k, r.length = k + 1 := ⟨r.length - 1, by omega⟩
      simpa [hk] using h
theorem can_pos {z : Int} {r : List Int} (hd : Dg (z :: r)) (hc : Can (z :: r)) : 0 < val (z :: r) := by
  induction r generalizing z with
  | nil =>
    have h1 := hd.tail.1
    rcases hc with h | h
    · simp at h
    · simp at h
      simp [val]; omega
  | cons y r ih =>
    have h1 := hd.tail
    have := ih h1.2 hc.tail
    simp only [val] at this ⊢
    omega
/-- Digits below the base, the last one not 0, are the digits of their value. -/
theorem dgs_val : ∀ {zs : List Int}, Dg zs → Can zs → dgs (val zs).toNat = zs
  | [], _, _ => rfl
  | z :: r, hd, hc => by
    have h1 := hd.tail
    have hr := dgs_val h1.2 hc.tail
    have hp := can_pos hd hc
    have hn := val_nonneg h1.2
    have e : (val (z :: r)).toNat = z.toNat + 65536 * (val r).toNat := by simp only [val]; omega
    rw [dgs_pos (by omega), e]
    have e1 : (z.toNat + 65536 * (val r).toNat) % 65536 = z.toNat := by omega
    have e2 : (z.toNat + 65536 * (val r).toNat) / 65536 = (val r).toNat := by omega
    rw [e1, e2, hr]
    congr 1
    omega
theorem can_dgsF : ∀ (f n : Nat), n ≤ f → Can (dgsF f n)
  | 0, _, _ => .inl rfl
  | f + 1, n, h => by
    unfold dgsF
    by_cases h0 : n = 0
    · simp only [h0, if_true]; exact .inl rfl
    · simp only [h0, if_false]
      right
      by_cases h1 : n / 65536 = 0
      · rw [h1, dgsF_zero]
        simp
        omega
      · rcases can_dgsF f (n / 65536) (by omega) with h2 | h2
        · have := val_dgsF f (n / 65536) (by omega)
          rw [List.length_eq_zero_iff.mp h2] at this
          simp [val] at this
          omega
        · obtain ⟨k, hk⟩ : ∃ k, (dgsF f (n / 65536)).length = k + 1 := by
            cases e : (dgsF f (n / 65536)).length with
            | zero =>
              have := val_dgsF f (n / 65536) (by omega)
              rw [List.length_eq_zero_iff.mp e] at this
              simp [val] at this
              omega
            | succ k => exact ⟨k, rfl⟩
          simpa [hk] using h2
theorem can_dgs (n : Nat) : Can (dgs n) := can_dgsF n n (Nat.le_refl _)
theorem dgs_len_iff (n k : Nat) : (dgs n).length ≤ k ↔ n < 65536 ^ k := by
  constructor
  · intro h
    have h1 := val_lt' (Dg_dgs n)
    have h2 := pw_le h
    rw [val_dgs] at h1
    rw [pw_nat] at h1 h2
    rw [pw_nat] at h2
    omega
  · exact dgs_small
/-- A number that NatOk lets by is the digits of its value. -/
theorem ok_dgs {zs : List Int} (h : okB zs = true) : ∃ x : Nat, zs = dgs x ∧ (dgs x).length ≤ 256 := by
  simp only [okB, Bool.and_eq_true, Bool.or_eq_true, decide_eq_true_eq, bne_iff_ne, List.all_eq_true] at h
  have hd : Dg zs := Dg.of (fun i hi => h.1.2 _ (by simp [List.getD_eq_getElem?_getD, List.getElem?_eq_getElem hi]))
  have hc : Can zs := h.2
  refine ⟨(val zs).toNat, (dgs_val hd hc).symm, ?_⟩
  rw [dgs_val hd hc]
  exact h.1.1
theorem dgs_ok {x : Nat} (h : (dgs x).length ≤ 256) : okB (dgs x) = true := by
  simp only [okB, Bool.and_eq_true, Bool.or_eq_true, decide_eq_true_eq, bne_iff_ne]
  refine ⟨⟨h, ?_⟩, can_dgs x⟩
  apply all_of_dig
  intro i hi
  have := Dg_dgs x i hi
  exact dig_yes this.1 this.2

/-- Needless noughts taken off: how many digits are left. -/
def trimN (zs : List Int) : Nat → Nat
  | 0 => 0
  | k + 1 => if zs.getD k 0 = 0 then trimN zs k else k + 1
theorem trimN_le (zs : List Int) (k : Nat) : trimN zs k ≤ k := by
  induction k with
  | zero => exact Nat.le_refl _
  | succ k ih => unfold trimN; split <;> omega
theorem trimN_val {zs : List Int} (k : Nat) (hk : k ≤ zs.length) : val (zs.take (trimN zs k)) = val (zs.take k) := by
  induction k with
  | zero => rfl
  | succ k ih =>
    unfold trimN
    split
    · rename_i h
      rw [ih (by omega), List.take_succ_eq_append_getElem (by omega), val_snoc]
      have : zs[k] = 0 := by simpa [List.getD_eq_getElem?_getD, List.getElem?_eq_getElem (show k < zs.length by omega)] using h
      rw [this]; simp
    · rfl
theorem trimN_can (zs : List Int) (k : Nat) (hk : k ≤ zs.length) : Can (zs.take (trimN zs k)) := by
  induction k with
  | zero => exact .inl (by simp [trimN])
  | succ k ih =>
    unfold trimN
    split
    · exact ih (by omega)
    · rename_i h
      right
      have hl : (zs.take (k + 1)).length = k + 1 := by simp; omega
      rw [hl]
      simpa [List.getD_eq_getElem?_getD] using h
/-- Digits below the base, needless noughts taken off, are the digits of their value. -/
theorem trim_dgs {zs : List Int} (h : Dg zs) : zs.take (trimN zs zs.length) = dgs (val zs).toNat := by
  have h1 := dgs_val (h.take (trimN zs zs.length)) (trimN_can zs _ (Nat.le_refl _))
  rw [trimN_val _ (Nat.le_refl _), List.take_length] at h1
  exact h1.symm
end Go.Proofs.Pin
