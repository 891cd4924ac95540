/- Decimals of a text, and what they come to; no Go text in sight. The decimals of a number, the lowest first, and its text; no Go text in sight. Texts and numbers come back from one another; no Go text in sight. -/
import Derived.Test.YthokphoojmpajahDoorGNum
import Derived.Laws.Strings
namespace Go.Proofs.Pin
open Go.RowKit

/-- The byte at a place of a text, as a number. -/
def ch (s : ByteArray) (k : Nat) : Nat := if h : k < s.size then s[k].toNat else 0
theorem ch_eq {s : ByteArray} {k : Nat} (h : k < s.size) : s[k].toNat = ch s k := by simp [ch, h]
theorem ch_lt (s : ByteArray) (k : Nat) : ch s k < 256 := by
  unfold ch
  split
  · exact UInt8.toNat_lt _
  · decide
/-- What the first k decimals come to. -/
def num (s : ByteArray) : Nat → Nat
  | 0 => 0
  | k + 1 => num s k * 10 + (ch s k - 48)
/-- What j decimals from place k on come to. -/
def seg (s : ByteArray) (k : Nat) : Nat → Nat
  | 0 => 0
  | j + 1 => seg s k j * 10 + (ch s (k + j) - 48)
theorem num_seg (s : ByteArray) (k : Nat) : ∀ j, num s (k + j) = num s k * 10 ^ j + seg s k j
  | 0 => by simp [seg]
  | j + 1 => by
    show num s (k + j) * 10 + (ch s (k + j) - 48) = _
    rw [num_seg s k j, Nat.pow_succ, Nat.add_mul, ← Nat.mul_assoc]
    simp only [seg]
    omega
/-- The first k bytes are decimals. -/
def DecsTo (s : ByteArray) (k : Nat) : Prop := ∀ i, i < k → 48 ≤ ch s i ∧ ch s i ≤ 57
theorem DecsTo.step {s : ByteArray} {k : Nat} (h : DecsTo s k) (h0 : 48 ≤ ch s k) (h1 : ch s k ≤ 57) : DecsTo s (k + 1) := by
  intro i hi
  by_cases e : i = k
  · subst e; exact ⟨h0, h1⟩
  · exact h i (by omega)
theorem DecsTo.zero (s : ByteArray) : DecsTo s 0 := fun i hi => by omega
theorem num_lt {s : ByteArray} {k : Nat} (h : DecsTo s k) : num s k < 10 ^ k := by
  induction k with
  | zero => simp [num]
  | succ k ih =>
    have h1 := ih (fun i hi => h i (by omega))
    have h2 := h k (by omega)
    simp only [num]
    rw [Nat.pow_succ]
    omega
theorem seg_lt {s : ByteArray} {k n : Nat} (h : DecsTo s n) : ∀ j, k + j ≤ n → seg s k j < 10 ^ j
  | 0, _ => by simp [seg]
  | j + 1, hj => by
    have h1 := seg_lt (k := k) h j (by omega)
    have h2 := h (k + j) (by omega)
    simp only [seg]
    rw [Nat.pow_succ]
    omega
/-- The form of a number's text. -/
def natText (s : ByteArray) : Bool := decide (0 < s.size) && ((decide (s.size = 1) || decide (ch s 0 ≠ 48)) && (List.range s.size).all fun i => decide (48 ≤ ch s i) && decide (ch s i ≤ 57))
theorem natText_decs {s : ByteArray} (h : natText s = true) : DecsTo s s.size ∧ 0 < s.size ∧ (s.size = 1 ∨ ch s 0 ≠ 48) := by
  simp only [natText, Bool.and_eq_true, Bool.or_eq_true, decide_eq_true_eq, List.all_eq_true, List.mem_range] at h
  exact ⟨fun i hi => h.2.2 i hi, h.1, h.2.1⟩
theorem natText_of {s : ByteArray} (h0 : 0 < s.size) (h1 : s.size = 1 ∨ ch s 0 ≠ 48) (h : DecsTo s s.size) : natText s = true := by
  simp only [natText, Bool.and_eq_true, Bool.or_eq_true, decide_eq_true_eq, List.all_eq_true, List.mem_range]
  exact ⟨h0, h1, fun i hi => h i hi⟩
theorem natText_no0 {s : ByteArray} (h : s.size = 0) : natText s = false := by simp [natText, h]
theorem natText_no1 {s : ByteArray} (h : 1 < s.size) (h1 : ch s 0 = 48) : natText s = false := by
  cases e : natText s with
  | false => rfl
  | true =>
    obtain ⟨_, _, h2⟩ := natText_decs e
    rcases h2 with h2 | h2
    · omega
    · exact absurd h1 h2
theorem natText_no2 {s : ByteArray} {k : Nat} (h : k < s.size) (h1 : ch s k < 48 ∨ 57 < ch s k) : natText s = false := by
  cases e : natText s with
  | false => rfl
  | true =>
    have := (natText_decs e).1 k h
    omega
theorem toList_len (s : ByteArray) : s.toList.length = s.size := by rw [ByteArray.toList_eq]; cases s; rfl
theorem eqE (s : ByteArray) : (s.toList == []) = decide (s.size = 0) := by
  rw [← toList_len]
  cases s.toList <;> simp
theorem ch_toList {s : ByteArray} {k : Nat} (h : k < s.size) : (s.toList.getD k 0).toNat = ch s k := by
  have hl := toList_len s
  rw [← ch_eq h, List.getD_eq_getElem?_getD, List.getElem?_eq_getElem (by omega)]
  simp only [ByteArray.toList_eq, Option.getD_some]
  rfl
theorem eq48 (s : ByteArray) : (s.toList == [48]) = decide (s.size = 1 ∧ ch s 0 = 48) := by
  have hl := toList_len s
  by_cases h1 : s.size = 1
  · have hc := ch_toList (s := s) (k := 0) (by omega)
    rw [h1] at hl
    obtain ⟨z, hz⟩ := List.length_eq_one_iff.1 hl
    rw [hz] at hc ⊢
    simp only [List.getD_cons_zero] at hc
    rw [← hc]
    have : (z = 48) ↔ (z.toNat = 48) := by rw [← UInt8.toNat_inj]; rfl
    by_cases hz : z = 48
    · simp [hz, h1]
    · have hz' : z.toNat ≠ 48 := fun e => hz (this.2 e)
      simp [hz, hz']
  · have : s.toList ≠ [48] := by
      intro e
      rw [e] at hl
      simp at hl
      omega
    simp [this, h1]
end Go.Proofs.Pin

namespace Go.Proofs.Pin
open Go.RowKit

/-- The low j decimals of n, the lowest first, as bytes. -/
def low : Nat → Nat → List Int
  | 0, _ => []
  | j + 1, n => low j n ++ [48 + ((n / 10 ^ j % 10 : Nat) : Int)]
theorem low_len (j n : Nat) : (low j n).length = j := by
  induction j with
  | zero => rfl
  | succ j ih => simp [low, ih]
theorem low_get {j n : Nat} : ∀ {k}, k < j → (low j n).getD k 0 = 48 + ((n / 10 ^ k % 10 : Nat) : Int) := by
  induction j with
  | zero => intro k hk; omega
  | succ j ih =>
    intro k hk
    simp only [low]
    by_cases h : k < j
    · rw [← ih h, List.getD_eq_getElem?_getD, List.getD_eq_getElem?_getD, List.getElem?_append_left (by rw [low_len]; exact h)]
    · have e : k = j := by omega
      subst e
      rw [List.getD_eq_getElem?_getD, List.getElem?_append_right (by rw [low_len]; exact Nat.le_refl _), low_len]
      simp
theorem low_take {j k n : Nat} (h : k ≤ j) : (low j n).take k = low k n := by
  induction j with
  | zero =>
    have : k = 0 := by omega
    subst this
    rfl
  | succ j ih =>
    by_cases e : k = j + 1
    · subst e
      rw [List.take_of_length_le (by rw [low_len]; exact Nat.le_refl _)]
    · simp only [low]
      rw [List.take_append_of_le_length (by rw [low_len]; omega), ih (by omega)]
/-- How many decimals n has. -/
def nd (n : Nat) : Nat := if h : n = 0 then 0 else nd (n / 10) + 1
termination_by n
decreasing_by omega
theorem nd_zero : nd 0 = 0 := by rw [nd]; simp
theorem nd_pos {n : Nat} (h : n ≠ 0) : nd n = nd (n / 10) + 1 := by rw [nd]; simp [h]
theorem nd_lt (n : Nat) : n < 10 ^ nd n := by
  induction n using Nat.strongRecOn with
  | ind n ih =>
    by_cases h : n = 0
    · subst h; rw [nd_zero]; decide
    · rw [nd_pos h, Nat.pow_succ]
      have := ih (n / 10) (by omega)
      omega
theorem nd_ge {n : Nat} (h0 : n ≠ 0) : 10 ^ (nd n - 1) ≤ n := by
  induction n using Nat.strongRecOn with
  | ind n ih =>
    rw [nd_pos h0, Nat.add_sub_cancel]
    by_cases h : n / 10 = 0
    · rw [h, nd_zero]
      omega
    · have h1 := ih (n / 10) (by omega) h
      have h2 := nd_pos h
      have h3 : 10 ^ nd (n / 10) = 10 ^ (nd (n / 10) - 1) * 10 := by rw [← Nat.pow_succ]; congr 1; omega
      omega
theorem pow_lt_inv {a b : Nat} (h : 10 ^ a < 10 ^ b) : a < b := by
  rcases Nat.lt_or_ge a b with h1 | h1
  · exact h1
  · have := Nat.pow_le_pow_right (n := 10) (by decide) h1
    omega
theorem nd_eq {n L : Nat} (h1 : n < 10 ^ L) (h2 : L = 0 ∨ 10 ^ (L - 1) ≤ n) : L = nd n := by
  by_cases h0 : n = 0
  · subst h0
    rw [nd_zero]
    rcases h2 with h2 | h2
    · exact h2
    · have := Nat.pow_pos (n := L - 1) (show 0 < 10 by decide)
      omega
  · have a := pow_lt_inv (Nat.lt_of_le_of_lt (nd_ge h0) h1)
    rcases h2 with h2 | h2
    · subst h2
      simp at h1
      omega
    · have b := pow_lt_inv (Nat.lt_of_le_of_lt h2 (nd_lt n))
      have := nd_pos h0
      omega
theorem nd_le {n K : Nat} (h : n < 10 ^ K) : nd n ≤ K := by
  by_cases h0 : n = 0
  · subst h0; rw [nd_zero]; exact Nat.zero_le _
  · have := pow_lt_inv (Nat.lt_of_le_of_lt (nd_ge h0) h)
    omega
theorem pow_five (k : Nat) : 65536 ^ k ≤ 10 ^ (5 * k) := by
  rw [Nat.pow_mul]
  exact Nat.pow_le_pow_left (by decide) k
theorem nd_len {n K : Nat} (h : (dgs n).length ≤ K) : nd n ≤ 5 * K := by
  rw [dgs_len_iff] at h
  exact nd_le (Nat.lt_of_lt_of_le h (pow_five K))
theorem nd_256 {n : Nat} (h : (dgs n).length ≤ 256) : nd n ≤ 1280 := nd_len h
/-- A byte of a number. -/
def bt (z : Int) : UInt8 := UInt8.ofNat z.toNat
theorem bt_nat {z : Int} (h0 : 0 ≤ z) (h1 : z < 256) : ((bt z).toNat : Int) = z := by
  unfold bt
  rw [UInt8.toNat_ofNat']
  omega
/-- The text of a number. -/
def txt (n : Nat) : ByteArray := if n = 0 then ⟨#[48]⟩ else ⟨((low (nd n) n).reverse.map bt).toArray⟩
theorem txt_zero : txt 0 = ⟨#[48]⟩ := rfl
theorem txt_pos {n : Nat} (h : n ≠ 0) : txt n = ⟨((low (nd n) n).reverse.map bt).toArray⟩ := by simp [txt, h]
theorem low_bd {j n k : Nat} (hk : k < j) : 48 ≤ (low j n).getD k 0 ∧ (low j n).getD k 0 ≤ 57 := by
  rw [low_get hk]
  have := Nat.mod_lt (n / 10 ^ k) (show 0 < 10 by decide)
  omega
end Go.Proofs.Pin

namespace Go.Proofs.Pin
open Go.RowKit

theorem ch_arr {l : List UInt8} {i : Nat} (h : i < l.length) : ch ⟨l.toArray⟩ i = (l[i]).toNat := by
  have h' : i < (⟨l.toArray⟩ : ByteArray).size := h
  rw [← ch_eq h']
  rfl
theorem txt_size {n : Nat} (h : n ≠ 0) : (txt n).size = nd n := by
  rw [txt_pos h]
  show (((low (nd n) n).reverse.map bt).toArray).size = nd n
  simp [low_len]
theorem txt_ch {n i : Nat} (h : n ≠ 0) (hi : i < nd n) : ch (txt n) i = 48 + n / 10 ^ (nd n - 1 - i) % 10 := by
  have hl := low_len (nd n) n
  have hb := low_bd (n := n) (show nd n - 1 - i < nd n by omega)
  have hg := low_get (n := n) (show nd n - 1 - i < nd n by omega)
  rw [txt_pos h, ch_arr (by simp [hl]; exact hi)]
  have e : ((low (nd n) n).reverse.map bt)[i]'(by simp [hl]; exact hi) = bt ((low (nd n) n).getD (nd n - 1 - i) 0) := by
    rw [List.getElem_map, List.getElem_reverse]
    congr 1
    rw [List.getD_eq_getElem?_getD, List.getElem?_eq_getElem (by omega)]
    simp [hl]
  rw [e]
  have h2 := bt_nat (z := (low (nd n) n).getD (nd n - 1 - i) 0) (by omega) (by omega)
  omega
theorem txt_num {n : Nat} (h : n ≠ 0) : ∀ k, k ≤ nd n → num (txt n) k = n / 10 ^ (nd n - k)
  | 0, _ => by
    rw [Nat.sub_zero, Nat.div_eq_of_lt (nd_lt n)]
    rfl
  | k + 1, hk => by
    show num (txt n) k * 10 + (ch (txt n) k - 48) = _
    rw [txt_num h k (by omega), txt_ch h (by omega)]
    have e : nd n - k = (nd n - (k + 1)) + 1 := by omega
    rw [e, Nat.pow_succ, ← Nat.div_div_eq_div_mul, show nd n - 1 - k = nd n - (k + 1) by omega]
    omega
theorem txt_decs {n : Nat} (h : n ≠ 0) : DecsTo (txt n) (txt n).size := by
  intro i hi
  rw [txt_size h] at hi
  rw [txt_ch h hi]
  omega
theorem txt_natText (n : Nat) : natText (txt n) = true := by
  by_cases h : n = 0
  · subst h; decide
  · have hp := nd_pos h
    refine natText_of (by rw [txt_size h]; omega) (.inr ?_) (txt_decs h)
    rw [txt_ch h (by omega)]
    have h1 := nd_ge h
    have h2 := nd_lt n
    have hpow : 0 < 10 ^ (nd n - 1) := Nat.pow_pos (by decide)
    have h3 : 1 ≤ n / 10 ^ (nd n - 1) := (Nat.le_div_iff_mul_le hpow).2 (by omega)
    have h4 : n / 10 ^ (nd n - 1) < 10 := by
      rw [Nat.div_lt_iff_lt_mul hpow, Nat.mul_comm, ← Nat.pow_succ, show (nd n - 1).succ = nd n by omega]
      exact h2
    rw [Nat.sub_zero]
    omega
theorem txt_val (n : Nat) : num (txt n) (txt n).size = n := by
  by_cases h : n = 0
  · subst h; decide
  · rw [txt_size h, txt_num h _ (Nat.le_refl _), Nat.sub_self, Nat.pow_zero, Nat.div_one]
theorem txt_len {n : Nat} (hn : (dgs n).length ≤ 256) : (txt n).size ≤ 1280 := by
  by_cases h : n = 0
  · subst h; decide
  · rw [txt_size h]; exact nd_256 hn
theorem txt_some (n : Nat) : 0 < (txt n).size := (natText_decs (txt_natText n)).2.1
theorem ba_ext {s t : ByteArray} (h : s.size = t.size) (hc : ∀ i, i < s.size → ch s i = ch t i) : s = t := by
  obtain ⟨⟨l⟩⟩ := s
  obtain ⟨⟨m⟩⟩ := t
  have hl : l.length = m.length := h
  congr 2
  apply List.ext_getElem hl
  intro i h1 h2
  have := hc i h1
  rw [ch_arr h1, ch_arr h2] at this
  exact UInt8.toNat_inj.1 this
theorem num_top {s : ByteArray} (h : DecsTo s s.size) {k : Nat} (hk : k ≤ s.size) : num s s.size / 10 ^ (s.size - k) = num s k := by
  obtain ⟨j, hj⟩ : ∃ j, s.size = k + j := ⟨s.size - k, by omega⟩
  have h1 := num_seg s k j
  have h2 := seg_lt (k := k) h j (by omega)
  rw [show s.size - k = j by omega, hj, h1]
  rw [Nat.mul_comm, Nat.mul_add_div (Nat.pow_pos (by decide)), Nat.div_eq_of_lt h2, Nat.add_zero]
theorem txt_back {s : ByteArray} (h : natText s = true) : txt (num s s.size) = s := by
  obtain ⟨hd, h0, h1⟩ := natText_decs h
  by_cases hz : s.size = 1 ∧ ch s 0 = 48
  · have e : num s s.size = 0 := by
      rw [hz.1]
      show 0 * 10 + (ch s 0 - 48) = 0
      omega
    rw [e, txt_zero]
    refine ba_ext ?_ ?_
    · rw [hz.1]; rfl
    · intro i hi
      have hi0 : i = 0 := by
        have : i < 1 := hi
        omega
      subst hi0
      rw [hz.2]
      rfl
  · have hne : ch s 0 ≠ 48 := by
      rcases h1 with h1 | h1
      · exact fun e => hz ⟨h1, e⟩
      · exact h1
    have hc0 := hd 0 h0
    have ht := num_top hd (k := 1) h0
    have h1n : num s 1 = ch s 0 - 48 := by
      show 0 * 10 + (ch s 0 - 48) = _
      omega
    have hge : 10 ^ (s.size - 1) ≤ num s s.size := by
      rcases Nat.lt_or_ge (num s s.size) (10 ^ (s.size - 1)) with hlt | hge
      · rw [Nat.div_eq_of_lt hlt, h1n] at ht
        omega
      · exact hge
    have hnd : s.size = nd (num s s.size) := nd_eq (num_lt hd) (.inr hge)
    have hpos : num s s.size ≠ 0 := by
      have := Nat.pow_pos (n := s.size - 1) (show 0 < 10 by decide)
      omega
    refine ba_ext (by rw [txt_size hpos, ← hnd]) ?_
    intro i hi
    rw [txt_size hpos, ← hnd] at hi
    have hci := hd i hi
    have hnum : num s (i + 1) = num s i * 10 + (ch s i - 48) := rfl
    rw [txt_ch hpos (by rw [← hnd]; exact hi), ← hnd, show s.size - 1 - i = s.size - (i + 1) by omega, num_top hd (k := i + 1) hi, hnum]
    omega
end Go.Proofs.Pin
