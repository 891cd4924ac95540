/- What DecText writes has the form of a literal. -/
import Derived.Test.YthokphoojmpajahDoorDecImp
import Derived.Test.YthokphoojmpajahDoorDecSpec
namespace Go.Proofs.YthokphoojmpajahDoor
open Go.RowKit Go.Proofs.Pin

theorem chl {P Q : ByteArray} {j : Nat} (h : j < P.size) : ch (P ++ Q) j = ch P j := by
  rw [← ch_eq h, ← ch_eq (by rw [ByteArray.size_append]; omega), ByteArray.getElem_append_left h]
theorem chr {P Q : ByteArray} {j : Nat} (h : P.size ≤ j) (h2 : j < P.size + Q.size) : ch (P ++ Q) j = ch Q (j - P.size) := by
  rw [← ch_eq (s := Q) (k := j - P.size) (by omega), ← ch_eq (by rw [ByteArray.size_append]; omega), ByteArray.getElem_append_right h]
theorem chc {T : ByteArray} {a b i : Nat} (h : a + i < b) (hb : b ≤ T.size) : ch (T.extract a b) i = ch T (a + i) := by
  rw [← ch_eq (s := T.extract a b) (by rw [ByteArray.size_extract]; omega), ← ch_eq (s := T) (by omega), ByteArray.getElem_extract]
theorem zer_ch {n i : Nat} (h : i < n) : ch (zer n) i = 48 := by
  rw [← ch_eq (by rw [zer_size]; exact h)]
  show ((List.replicate n (48 : UInt8)).toArray[i]'(by simpa using h)).toNat = 48
  simp
theorem form_point (n k : Nat) : ∃ m, DecForm (pointT (txt n) k) m := by
  obtain ⟨hd, hp, h1⟩ := natText_decs (txt_natText n)
  by_cases hk : k = 0
  · subst hk
    have e : pointT (txt n) 0 = txt n := by simp [pointT]
    rw [e]
    exact ⟨(txt n).size, ⟨by omega, fun i hi => by rw [Nat.zero_add]; exact hd i hi, fun h => by omega⟩, hp, h1, .inl rfl⟩
  · have e : pointT (txt n) k = (padT (txt n) k).extract 0 ((padT (txt n) k).size - k) ++ ⟨#[46]⟩ ++ (padT (txt n) k).extract ((padT (txt n) k).size - k) (padT (txt n) k).size := by simp [pointT, hk]
    rw [e]
    obtain ⟨hs1, hs2⟩ := pad_size (txt n) k
    have hdP : ∀ i, i < (padT (txt n) k).size → 48 ≤ ch (padT (txt n) k) i ∧ ch (padT (txt n) k) i ≤ 57 := by
      intro i hi
      unfold padT
      by_cases hz : i < k + 1 - (txt n).size
      · rw [chl (by rw [zer_size]; exact hz), zer_ch hz]
        omega
      · rw [chr (by rw [zer_size]; omega) (by rw [zer_size]; omega), zer_size]
        exact hd _ (by omega)
    have hfirst : (padT (txt n) k).size - k = 1 ∨ ch (padT (txt n) k) 0 ≠ 48 := by
      by_cases hz : 0 < k + 1 - (txt n).size
      · left; omega
      · right
        unfold padT
        rw [chr (by rw [zer_size]; omega) (by rw [zer_size]; omega), zer_size]
        have e0 : 0 - (k + 1 - (txt n).size) = 0 := by omega
        rw [e0]
        rcases h1 with h1 | h1
        · omega
        · exact h1
    obtain ⟨P, hP⟩ : ∃ P, P = padT (txt n) k := ⟨_, rfl⟩
    rw [← hP] at hs1 hs2 hdP hfirst ⊢
    obtain ⟨m, hm⟩ : ∃ m, m = P.size - k := ⟨_, rfl⟩
    rw [← hm] at hfirst ⊢
    have hA : (P.extract 0 m).size = m := by rw [ByteArray.size_extract]; omega
    have hB : (P.extract m P.size).size = k := by rw [ByteArray.size_extract]; omega
    have hD : (⟨#[46]⟩ : ByteArray).size = 1 := rfl
    have hAD : (P.extract 0 m ++ (⟨#[46]⟩ : ByteArray)).size = m + 1 := by rw [ByteArray.size_append, hA, hD]
    have hS : (P.extract 0 m ++ (⟨#[46]⟩ : ByteArray) ++ P.extract m P.size).size = m + 1 + k := by rw [ByteArray.size_append, hAD, hB]
    have c1 : ∀ i, i < m → ch (P.extract 0 m ++ (⟨#[46]⟩ : ByteArray) ++ P.extract m P.size) i = ch P i := by
      intro i hi
      rw [chl (by omega), chl (by omega), chc (by omega) (by omega), Nat.zero_add]
    have c2 : ch (P.extract 0 m ++ (⟨#[46]⟩ : ByteArray) ++ P.extract m P.size) m = 46 := by
      rw [chl (by omega), chr (by omega) (by omega), hA, Nat.sub_self]
      rfl
    have c3 : ∀ i, i < k → ch (P.extract 0 m ++ (⟨#[46]⟩ : ByteArray) ++ P.extract m P.size) (m + 1 + i) = ch P (m + i) := by
      intro i hi
      rw [chr (by omega) (by omega), hAD, chc (by omega) (by omega)]
      congr 1
      omega
    refine ⟨m, ⟨by omega, fun i hi => ?_, fun _ => ?_⟩, by omega, ?_, .inr ⟨c2, k, by omega, by omega, ⟨by omega, fun i hi => ?_, fun h => by omega⟩⟩⟩
    · rw [Nat.zero_add, c1 i hi]; exact hdP i (by omega)
    · rw [Nat.zero_add, c2]; omega
    · rw [c1 0 (by omega)]; exact hfirst
    · rw [c3 i hi]; exact hdP _ (by omega)
/-- The size of what DecText writes. -/
theorem point_size (t : ByteArray) (k : Nat) : (pointT t k).size = if k = 0 then t.size else (padT t k).size + 1 := by
  by_cases hk : k = 0
  · rw [if_pos hk]; simp [pointT, hk]
  · rw [if_neg hk]
    have hp := (pad_size t k).1
    have hD : (⟨#[46]⟩ : ByteArray).size = 1 := rfl
    have e : pointT t k = (padT t k).extract 0 ((padT t k).size - k) ++ ⟨#[46]⟩ ++ (padT t k).extract ((padT t k).size - k) (padT t k).size := by simp [pointT, hk]
    rw [e, ByteArray.size_append, ByteArray.size_append, ByteArray.size_extract, ByteArray.size_extract, hD]
    omega
theorem point_59 (t : ByteArray) (k : Nat) (hk : 59 ≤ k) : 60 < (pointT t k).size := by
  rw [point_size, if_neg (by omega)]
  have := (pad_size t k).1
  omega
theorem zer_more (j : Nat) (t : ByteArray) : (⟨#[48]⟩ : ByteArray) ++ (zer j ++ t) = zer (j + 1) ++ t := by
  have e : ∀ (s t : ByteArray), s.data.toList = t.data.toList → s = t := by
    intro s t h
    cases s; cases t
    simp at h
    simp [h]
  apply e
  simp [zer, List.replicate_succ]
end Go.Proofs.YthokphoojmpajahDoor
