/- The contract of spec.l1Div, the long way: the digits of quotient and rest. -/
import Derived.Test.YthokphoojmpajabShl
import Derived.Test.YthokphoojmpajabNumLong
import Derived.Test.YthokphoojmpajabDivClose
import Derived.Test.YthokphoojmpajabNumCmp
import Derived.Test.YthokphoojmpajabSub
import Derived.Test.YthokphoojmpajabOfSpec
import Derived.Test.YthokphoojmpajabAdd
import Derived.Deep.CutRange
import Derived.Deep.DeepFit
import Derived.Deep.RegionWith
import Derived.Deep.QuietTactic
import Derived.BigQuiet
namespace Go.Proofs.Ythokphoojmpajab
open Go.RowKit Go.Proofs.Pin

theorem dgs_len_mul {x u : Nat} (hu : u < 65536) : (dgs (x * u)).length ≤ (dgs x).length + 1 := by
  rw [dgs_len_iff]
  have h1 : x < 65536 ^ (dgs x).length := (dgs_len_iff x _).1 (Nat.le_refl _)
  rw [Nat.pow_succ]
  exact Nat.mul_lt_mul'' h1 hu
theorem dgs_len_pos {y : Nat} (h : 0 < y) : 0 < (dgs y).length := by
  rcases Nat.eq_zero_or_pos (dgs y).length with h1 | h1
  · have := val_dgs y
    rw [List.length_eq_zero_iff.mp h1] at this
    simp [val] at this
    omega
  · exact h1
theorem top_digit {y : Nat} (h : 0 < y) : 0 < (dgs y).getD ((dgs y).length - 1) 0 := by
  have h1 := dgs_len_pos h
  have h2 := (Dg_dgs y).at ((dgs y).length - 1)
  rcases can_dgs y with hc | hc
  · omega
  · omega

theorem trim_same (r : Option Addr) (cr z : Nat) (w : World) (h : Sl w r (dgs z)) (hl : (dgs z).length ≤ 30000) :
    Calls Try.prog 34 #[.slice r (dgs z).length cr] w fun e w' => ∃ r6 c6, e = .returned (.slice r6 (dgs z).length c6) ∧ OwnI w' w.heap.size r6 c6 (dgs z) ∧ Below w.heap.size w w' := by
  have h1 := l1Trim_any r cr (dgs z) w h (by omega)
  rw [row_dgs (Dg_dgs z) (val_dgs z)] at h1
  exact h1
theorem rest_len {R Y xj : Nat} (hR : R < Y) (hx : xj < 65536) : (dgs (R * 65536 + xj)).length ≤ (dgs Y).length + 1 ∧ (dgs (R * 65536)).length ≤ (dgs Y).length + 1 := by
  have h2 : (R + 1) * 65536 ≤ Y * 65536 := Nat.mul_le_mul_right _ hR
  have h4 : (dgs (Y * 65536)).length ≤ (dgs Y).length + 1 := by
    rw [dgs_len_iff, Nat.pow_succ]
    have h7 : Y < 65536 ^ (dgs Y).length := (dgs_len_iff Y _).1 (Nat.le_refl _)
    omega
  obtain ⟨A, hA⟩ : ∃ A, A = R * 65536 + xj := ⟨_, rfl⟩
  obtain ⟨B, hB⟩ : ∃ B, B = R * 65536 := ⟨_, rfl⟩
  obtain ⟨C, hC⟩ : ∃ C, C = Y * 65536 := ⟨_, rfl⟩
  have h7 : A ≤ C := by omega
  have h8 : B ≤ C := by omega
  rw [← hC] at h4
  rw [← hA, ← hB]
  clear hA hB hC h2
  exact ⟨Nat.le_trans (dgs_len_le h7) h4, Nat.le_trans (dgs_len_le h8) h4⟩
theorem wrap_digit {d : Nat} (h : d < 65536) : IntKind.u64.wrap (d : Int) = d := by
  simp [IntKind.wrap, IntKind.bits, IntKind.signed]
  omega
theorem digit_len {d : Nat} (h : d < 65536) : (dgs d).length ≤ 1 := by
  by_cases h0 : d = 0
  · subst h0; simp [dgs_zero]
  · rw [dgs_digit h0 h]; simp

/-- The guess of a digit, off the two highest of the rest by the divisor's highest one. -/
theorem guess_fact {R1 Y n R xj : Nat} (hn : n = (dgs Y).length) (hY : 0 < Y) (hR : R < Y) (hx : xj < 65536) (hR1 : R1 = R * 65536 + xj) :
    ∃ (p q t G : Nat), (dgs R1).getD n 0 = (p : Int) ∧ (dgs R1).getD (n - 1) 0 = (q : Int) ∧ (dgs Y).getD (n - 1) 0 = (t : Int) ∧ p < 65536 ∧ q < 65536 ∧ 0 < t ∧ t < 65536 ∧ ((p : Int) * 65536 + q) / t = (G : Int) ∧ R1 / Y ≤ G ∧ R1 / Y ≤ 65535 := by
  have hl := dgs_len_pos hY
  rw [← hn] at hl
  obtain ⟨m, hm⟩ : ∃ m, n = m + 1 := ⟨n - 1, by omega⟩
  have hYlt : Y < 65536 ^ n := by rw [hn]; exact (dgs_len_iff Y _).1 (Nat.le_refl _)
  have hm1 : n - 1 = m := by omega
  have ht : Y / 65536 ^ m % 65536 = Y / 65536 ^ m := by
    apply Nat.mod_eq_of_lt
    rw [Nat.div_lt_iff_lt_mul (Nat.pow_pos (by omega))]
    rw [hm, Nat.pow_succ, Nat.mul_comm] at hYlt
    exact hYlt
  have htop := top_digit hY
  rw [← hn, hm1, dgs_at, ht] at htop
  have hR1lt : R1 < 65536 ^ (m + 2) := by
    have h1 : (R + 1) * 65536 ≤ 65536 ^ n * 65536 := Nat.mul_le_mul_right _ (by omega)
    have h2 : 65536 ^ (m + 2) = 65536 ^ n * 65536 := by rw [hm, Nat.pow_succ, Nat.pow_succ]
    rw [h2]
    omega
  have hsplit := pow_split R1 m hR1lt
  have hge := guess_ge (r := R1) (y := Y) (m := m) (t := Y / 65536 ^ m) (Nat.div_mul_le_self _ _) (by omega)
  have hq1 : R1 / Y < 65536 := by
    rw [Nat.div_lt_iff_lt_mul hY]
    have h2 : (R + 1) * 65536 ≤ Y * 65536 := Nat.mul_le_mul_right _ hR
    rw [Nat.mul_comm 65536 Y]
    omega
  refine ⟨R1 / 65536 ^ (m + 1) % 65536, R1 / 65536 ^ m % 65536, Y / 65536 ^ m, R1 / 65536 ^ m / (Y / 65536 ^ m), ?_, ?_, ?_, Nat.mod_lt _ (by omega), Nat.mod_lt _ (by omega), by omega, ?_, ?_, hge, Nat.le_of_lt_succ hq1⟩
  · rw [hm, dgs_at]
  · rw [hm1, dgs_at]
  · rw [hm1, dgs_at, ht]
  · rw [← ht]; exact Nat.mod_lt _ (by omega)
  · rw [hsplit]
    simp

end Go.Proofs.Ythokphoojmpajab
