/- Numbers of the long division: the rest with one digit more, the guess of the next digit, and what is taken off and put back; no Go text in sight. -/
import Derived.Test.YthokphoojmpajafDoorNumGuess
namespace Go.Proofs.YthokphoojmpajafDoor
open Go.RowKit Go.Proofs.Pin

/-- A digit of a row is the digit of its number. -/
theorem row_at : ∀ {L : List Int} {R : Nat}, Dg L → val L = (R : Int) → ∀ k, L.getD k 0 = ((R / 65536 ^ k % 65536 : Nat) : Int)
  | [], R, _, hv, k => by
    simp only [val] at hv
    have : R = 0 := by omega
    subst this
    simp
  | z :: r, R, hd, hv, k => by
    obtain ⟨⟨h0, h1⟩, hr⟩ := hd.tail
    simp only [val] at hv
    have hn := val_nonneg hr
    cases k with
    | zero =>
      simp
      omega
    | succ k =>
      have e : val r = ((R / 65536 : Nat) : Int) := by omega
      have ih := row_at hr e k
      rw [Nat.div_div_eq_div_mul] at ih
      rw [Nat.pow_succ, Nat.mul_comm]
      simpa using ih

theorem shift_row {rest : List Int} {R n xj : Nat} (hl : rest.length = n + 1) (hd : Dg rest) (hv : val rest = (R : Int)) (hR : R < 65536 ^ n) (hx : xj < 65536) :
    ((xj : Int) :: rest.take n).length = n + 1 ∧ Dg ((xj : Int) :: rest.take n) ∧ val ((xj : Int) :: rest.take n) = ((R * 65536 + xj : Nat) : Int) := by
  refine ⟨by simp; omega, Dg.cons (by omega) (by omega) (hd.take n), ?_⟩
  have h0 : rest.getD n 0 = 0 := by
    rw [row_at hd hv n, Nat.div_eq_of_lt hR]
    rfl
  have e : rest = rest.take n ++ [rest.getD n 0] := by
    have hn : n < rest.length := by omega
    have e1 := List.take_append_getElem (l := rest) (i := n) hn
    have e2 : rest.take (n + 1) = rest := List.take_of_length_le (by omega)
    rw [e2] at e1
    rw [List.getD_eq_getElem?_getD, List.getElem?_eq_getElem hn]
    exact e1.symm
  rw [h0] at e
  have hv2 : val rest = val (rest.take n) := by
    have h := congrArg val e
    rw [val_snoc] at h
    rw [h]
    simp
  simp only [val]
  rw [← hv2, hv]
  omega

/-- guessDigit's answer. -/
def guessV (p q z p' q' : Int) : Int := if p = p' ∧ q = q' then 65535 else ((p * 65536 + q) * 65536 + z) / (p' * 65536 + q')

theorem long_guess {R y m xj : Nat} {L : List Int} (hn : (dgs y).length = m + 2) (hR : R < y) (hx : xj < 65536) (hd : Dg L) (hv : val L = ((R * 65536 + xj : Nat) : Int)) :
    0 ≤ guessV (L.getD (m + 2) 0) (L.getD (m + 1) 0) (L.getD m 0) ((dgs y).getD (m + 1) 0) ((dgs y).getD m 0) ∧ guessV (L.getD (m + 2) 0) (L.getD (m + 1) 0) (L.getD m 0) ((dgs y).getD (m + 1) 0) ((dgs y).getD m 0) < 65536 ∧
    (guessV (L.getD (m + 2) 0) (L.getD (m + 1) 0) (L.getD m 0) ((dgs y).getD (m + 1) 0) ((dgs y).getD m 0) = (((R * 65536 + xj) / y : Nat) : Int) ∨ guessV (L.getD (m + 2) 0) (L.getD (m + 1) 0) (L.getD m 0) ((dgs y).getD (m + 1) 0) ((dgs y).getD m 0) = (((R * 65536 + xj) / y : Nat) : Int) + 1) ∧
    0 < (dgs y).getD (m + 1) 0 := by
  have hy1 : y < 65536 ^ (m + 2) := (dgs_len_iff y (m + 2)).1 (by omega)
  have hy0 : 65536 ^ (m + 1) ≤ y := by
    rcases Nat.lt_or_ge y (65536 ^ (m + 1)) with h | h
    · have := (dgs_len_iff y (m + 1)).2 h
      omega
    · exact h
  rw [row_at hd hv, row_at hd hv, row_at hd hv, dgs_at, dgs_at]
  have hq : (R * 65536 + xj) / y ≤ 65535 := by
    apply Nat.le_of_lt_succ
    rw [Nat.div_lt_iff_lt_mul (by omega)]
    have h2 : (R + 1) * 65536 ≤ y * 65536 := Nat.mul_le_mul_right _ hR
    omega
  obtain ⟨R1, hR1⟩ : ∃ R1, R1 = R * 65536 + xj := ⟨_, rfl⟩
  have hR1d : R1 / 65536 = R := by omega
  have hR1b : R1 < 65536 ^ (m + 3) := by
    have e : 65536 ^ (m + 3) = 65536 ^ (m + 2) * 65536 := Nat.pow_succ ..
    omega
  rw [← hR1] at hq ⊢
  have hM : 0 < 65536 ^ m := Nat.pow_pos (by decide)
  have eD := pow_split y m hy1
  have eP := pow_split R1 (m + 1) hR1b
  have e1 : R1 / 65536 ^ (m + 1) = R1 / 65536 ^ m / 65536 := by rw [Nat.pow_succ, Nat.div_div_eq_div_mul]
  have e2 : R1 / 65536 ^ (m + 1) = R / 65536 ^ m := by rw [Nat.pow_succ, Nat.mul_comm, ← Nat.div_div_eq_div_mul, hR1d]
  have hle : R / 65536 ^ m ≤ y / 65536 ^ m := Nat.div_le_div_right (Nat.le_of_lt hR)
  have hDM : y / 65536 ^ m * 65536 ^ m ≤ y := Nat.div_mul_le_self _ _
  have hYM : y < (y / 65536 ^ m + 1) * 65536 ^ m := by
    rw [Nat.mul_comm]
    exact Nat.lt_mul_div_succ y hM
  have hB : 65536 ≤ y / 65536 ^ m := by
    rw [Nat.le_div_iff_mul_le hM]
    rw [Nat.pow_succ] at hy0
    omega
  have g3 := guess3 hDM hYM hM hB hq
  have hsame := guess3_same (R := R1) (z := R1 / 65536 ^ m % 65536) hYM hM hB hDM
  have hbound : R / 65536 ^ m < y / 65536 ^ m → R1 / 65536 ^ m / (y / 65536 ^ m) < 65536 := by
    intro h
    rw [Nat.div_lt_iff_lt_mul (by omega)]
    rw [e2] at e1
    omega
  obtain ⟨Q, hQ⟩ : ∃ Q, Q = R1 / y := ⟨_, rfl⟩
  obtain ⟨u, hu⟩ : ∃ u, u = R1 / 65536 ^ m := ⟨_, rfl⟩
  obtain ⟨D, hD⟩ : ∃ D, D = y / 65536 ^ m := ⟨_, rfl⟩
  obtain ⟨t, ht⟩ : ∃ t, t = R / 65536 ^ m := ⟨_, rfl⟩
  obtain ⟨p, hp⟩ : ∃ p, p = R1 / 65536 ^ (m + 2) % 65536 := ⟨_, rfl⟩
  obtain ⟨qq, hqq⟩ : ∃ qq, qq = R1 / 65536 ^ (m + 1) % 65536 := ⟨_, rfl⟩
  obtain ⟨p', hp'⟩ : ∃ p', p' = y / 65536 ^ (m + 1) % 65536 := ⟨_, rfl⟩
  rw [show m + 1 + 1 = m + 2 from rfl] at eP
  rw [← hp, ← hqq, e2, ← ht] at eP
  rw [e2, ← ht, ← hu] at e1
  rw [← ht, ← hD] at hle hbound
  rw [← hD, ← hp'] at eD
  rw [← hD] at hB
  rw [← hu, ← hD, ← hQ] at g3
  rw [← hu] at hbound
  rw [← hu, ← hD, ← hQ] at hsame
  rw [← hQ] at hq
  rw [← hu, ← hQ, ← hp, ← hqq, ← hp']
  have hqq' : y / 65536 ^ m % 65536 = D % 65536 := by rw [hD]
  rw [hqq']
  have hqb : qq < 65536 := by rw [hqq]; exact Nat.mod_lt _ (by decide)
  clear hQ hu hD ht hp hqq hp' hqq' hDM hYM hR1b hR1d hy0 hy1 hM e2 hn hd hv
  have hpos : 0 < p' := by omega
  unfold guessV
  by_cases hc : (p : Int) = p' ∧ (qq : Int) = ((D % 65536 : Nat) : Int)
  · rw [if_pos hc]
    have hs := hsame (by omega) hq
    refine ⟨by omega, by omega, .inl (by omega), by omega⟩
  · rw [if_neg hc]
    have hlt : t < D := by
      rcases Nat.lt_or_eq_of_le hle with h | h
      · exact h
      · exact absurd (by omega) hc
    have hb := hbound hlt
    have eN : (((p : Int) * 65536 + qq) * 65536 + ((u % 65536 : Nat) : Int)) = (u : Int) := by omega
    have eDI : ((p' : Int) * 65536 + ((D % 65536 : Nat) : Int)) = (D : Int) := by omega
    rw [eN, eDI]
    have eG : (u : Int) / (D : Int) = ((u / D : Nat) : Int) := by simp
    rw [eG]
    refine ⟨by omega, by omega, by omega, by omega⟩

/-- What is taken off and, where that went below 0, put on once more leaves the rest. -/
theorem off_case {R1 y n : Nat} {G c : Int} {out : List Int} (hy : 0 < y) (hyn : y < 65536 ^ n) (hG : G = ((R1 / y : Nat) : Int) ∨ G = ((R1 / y : Nat) : Int) + 1) (hl : out.length = n + 1) (hd : Dg out) (hc : 0 ≤ c) (h : val out - c * pw (n + 1) = (R1 : Int) - G * y) :
    (c = 0 ∧ G = ((R1 / y : Nat) : Int) ∧ val out = ((R1 % y : Nat) : Int)) ∨ (0 < c ∧ G - 1 = ((R1 / y : Nat) : Int) ∧ ∀ (out2 : List Int) (c2 : Int), Dg out2 → out2.length = n + 1 → (c2 = 0 ∨ c2 = 1) → val out2 + c2 * pw (n + 1) = val out + y → val out2 = ((R1 % y : Nat) : Int)) := by
  have h0 := val_nonneg hd
  have h1 := val_lt' hd
  rw [hl] at h1
  have hP : (y : Int) < pw (n + 1) := by
    rw [pw_nat, Nat.pow_succ]
    have : 65536 ^ n ≤ 65536 ^ n * 65536 := Nat.le_mul_of_pos_right _ (by decide)
    omega
  have hr := Nat.mod_lt R1 hy
  have hdm : ((y * (R1 / y) : Nat) : Int) + ((R1 % y : Nat) : Int) = (R1 : Int) := by
    have := Nat.div_add_mod R1 y
    omega
  have hcomm : ((y * (R1 / y) : Nat) : Int) = ((R1 / y : Nat) : Int) * (y : Int) := by rw [Nat.mul_comm]; simp
  obtain ⟨q, hq⟩ : ∃ q, q = R1 / y := ⟨_, rfl⟩
  obtain ⟨r, hrr⟩ : ∃ r, r = R1 % y := ⟨_, rfl⟩
  obtain ⟨P, hPP⟩ : ∃ P, P = pw (n + 1) := ⟨_, rfl⟩
  rw [← hq] at hG hdm hcomm ⊢
  rw [← hrr] at hr hdm ⊢
  rw [← hPP] at h h1 hP ⊢
  have hcs : c = 0 ∨ c = 1 ∨ 2 ≤ c := by omega
  have hc2 : 2 ≤ c → 2 * P ≤ c * P := fun h => Int.mul_le_mul_of_nonneg_right h (by omega)
  rcases hG with hG | hG
  · left
    subst hG
    rw [← hcomm] at h
    rcases hcs with rfl | rfl | hge
    · exact ⟨rfl, rfl, by omega⟩
    · omega
    · have := hc2 hge
      omega
  · right
    subst hG
    have e : ((q : Int) + 1) * (y : Int) = (q : Int) * y + y := by rw [Int.add_mul, Int.one_mul]
    rw [e, ← hcomm] at h
    rcases hcs with rfl | rfl | hge
    · omega
    · refine ⟨by omega, by omega, fun out2 c2 hd2 hl2 hcc h2 => ?_⟩
      have k0 := val_nonneg hd2
      have k1 := val_lt' hd2
      rw [hl2, ← hPP] at k1
      rcases hcc with rfl | rfl
      · omega
      · omega
    · have := hc2 hge
      omega
end Go.Proofs.YthokphoojmpajafDoor
