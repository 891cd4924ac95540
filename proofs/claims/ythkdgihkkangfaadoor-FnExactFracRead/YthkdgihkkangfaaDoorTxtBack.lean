/- Texts and numbers come back from one another; no Go text in sight. -/
import Derived.Test.YthkdgihkkangfaaDoorTxtNum
namespace Go.Proofs.Pin
open Go.RowKit

theorem ch_arr {l : List UInt8} {i : Nat} (h : i < l.length) : ch ⟨l.toArray⟩ i = (l[i]).toNat := by
  have h' : i < (⟨l.toArray⟩ : ByteArray).size := h
  rw [← ch_eq h']
  rfl
theorem txt_size {n : Nat} (h : n ≠ 0) : (txt n).size = nd n := by
  rw [txt_pos h]
  show (((low (nd n) n).reverse.map bt).toArray).size = nd n
  simp [low_len]
theorem txt_ch {n i : Nat} (h : n ≠ 0) (hi : i < nd n) : ch (txt n) i = 48 + n / 10 ^ (nd n - 1 - i) % 10 := by
  have hl := low_len (nd n) n
  have hb := low_bd (n := n) (show nd n - 1 - i < nd n by omega)
  have hg := low_get (n := n) (show nd n - 1 - i < nd n by omega)
  rw [txt_pos h, ch_arr (by simp [hl]; exact hi)]
  have e : ((low (nd n) n).reverse.map bt)[i]'(by simp [hl]; exact hi) = bt ((low (nd n) n).getD (nd n - 1 - i) 0) := by
    rw [List.getElem_map, List.getElem_reverse]
    congr 1
    rw [List.getD_eq_getElem?_getD, List.getElem?_eq_getElem (by omega)]
    simp [hl]
  rw [e]
  have h2 := bt_nat (z := (low (nd n) n).getD (nd n - 1 - i) 0) (by omega) (by omega)
  omega
theorem txt_num {n : Nat} (h : n ≠ 0) : ∀ k, k ≤ nd n → num (txt n) k = n / 10 ^ (nd n - k)
  | 0, _ => by
    rw [Nat.sub_zero, Nat.div_eq_of_lt (nd_lt n)]
    rfl
  | k + 1, hk => by
    show num (txt n) k * 10 + (ch (txt n) k - 48) = _
    rw [txt_num h k (by omega), txt_ch h (by omega)]
    have e : nd n - k = (nd n - (k + 1)) + 1 := by omega
    rw [e, Nat.pow_succ, ← Nat.div_div_eq_div_mul, show nd n - 1 - k = nd n - (k + 1) by omega]
    omega
theorem txt_decs {n : Nat} (h : n ≠ 0) : DecsTo (txt n) (txt n).size := by
  intro i hi
  rw [txt_size h] at hi
  rw [txt_ch h hi]
  omega
theorem txt_natText (n : Nat) : natText (txt n) = true := by
  by_cases h : n = 0
  · subst h; decide
  · have hp := nd_pos h
    refine natText_of (by rw [txt_size h]; omega) (.inr ?_) (txt_decs h)
    rw [txt_ch h (by omega)]
    have h1 := nd_ge h
    have h2 := nd_lt n
    have hpow : 0 < 10 ^ (nd n - 1) := Nat.pow_pos (by decide)
    have h3 : 1 ≤ n / 10 ^ (nd n - 1) := (Nat.le_div_iff_mul_le hpow).2 (by omega)
    have h4 : n / 10 ^ (nd n - 1) < 10 := by
      rw [Nat.div_lt_iff_lt_mul hpow, Nat.mul_comm, ← Nat.pow_succ, show (nd n - 1).succ = nd n by omega]
      exact h2
    rw [Nat.sub_zero]
    omega
theorem txt_val (n : Nat) : num (txt n) (txt n).size = n := by
  by_cases h : n = 0
  · subst h; decide
  · rw [txt_size h, txt_num h _ (Nat.le_refl _), Nat.sub_self, Nat.pow_zero, Nat.div_one]
theorem txt_len {n : Nat} (hn : (dgs n).length ≤ 256) : (txt n).size ≤ 1280 := by
  by_cases h : n = 0
  · subst h; decide
  · rw [txt_size h]; exact nd_256 hn
theorem txt_some (n : Nat) : 0 < (txt n).size := (natText_decs (txt_natText n)).2.1
theorem ba_ext {s t : ByteArray} (h : s.size = t.size) (hc : ∀ i, i < s.size → ch s i = ch t i) : s = t := by
  obtain ⟨⟨l⟩⟩ := s
  obtain ⟨⟨m⟩⟩ := t
  have hl : l.length = m.length := h
  congr 2
  apply List.ext_getElem hl
  intro i h1 h2
  have := hc i h1
  rw [ch_arr h1, ch_arr h2] at this
  exact UInt8.toNat_inj.1 this
theorem num_top {s : ByteArray} (h : DecsTo s s.size) {k : Nat} (hk : k ≤ s.size) : num s s.size / 10 ^ (s.size - k) = num s k := by
  obtain ⟨j, hj⟩ : ∃ j, s.size = k + j := ⟨s.size - k, by omega⟩
  have h1 := num_seg s k j
  have h2 := seg_lt (k := k) h j (by omega)
  rw [show s.size - k = j by omega, hj, h1]
  rw [Nat.mul_comm, Nat.mul_add_div (Nat.pow_pos (by decide)), Nat.div_eq_of_lt h2, Nat.add_zero]
theorem txt_back {s : ByteArray} (h : natText s = true) : txt (num s s.size) = s := by
  obtain ⟨hd, h0, h1⟩ := natText_decs h
  by_cases hz : s.size = 1 ∧ ch s 0 = 48
  · have e : num s s.size = 0 := by
      rw [hz.1]
      show 0 * 10 + (ch s 0 - 48) = 0
      omega
    rw [e, txt_zero]
    refine ba_ext ?_ ?_
    · rw [hz.1]; rfl
    · intro i hi
      have hi0 : i = 0 := by
        have : i < 1 := hi
        omega
      subst hi0
      rw [hz.2]
      rfl
  · have hne : ch s 0 ≠ 48 := by
      rcases h1 with h1 | h1
      · exact fun e => hz ⟨h1, e⟩
      · exact h1
    have hc0 := hd 0 h0
    have ht := num_top hd (k := 1) h0
    have h1n : num s 1 = ch s 0 - 48 := by
      show 0 * 10 + (ch s 0 - 48) = _
      omega
    have hge : 10 ^ (s.size - 1) ≤ num s s.size := by
      rcases Nat.lt_or_ge (num s s.size) (10 ^ (s.size - 1)) with hlt | hge
      · rw [Nat.div_eq_of_lt hlt, h1n] at ht
        omega
      · exact hge
    have hnd : s.size = nd (num s s.size) := nd_eq (num_lt hd) (.inr hge)
    have hpos : num s s.size ≠ 0 := by
      have := Nat.pow_pos (n := s.size - 1) (show 0 < 10 by decide)
      omega
    refine ba_ext (by rw [txt_size hpos, ← hnd]) ?_
    intro i hi
    rw [txt_size hpos, ← hnd] at hi
    have hci := hd i hi
    have hnum : num s (i + 1) = num s i * 10 + (ch s i - 48) := rfl
    rw [txt_ch hpos (by rw [← hnd]; exact hi), ← hnd, show s.size - 1 - i = s.size - (i + 1) by omega, num_top hd (k := i + 1) hi, hnum]
    omega
end Go.Proofs.Pin
