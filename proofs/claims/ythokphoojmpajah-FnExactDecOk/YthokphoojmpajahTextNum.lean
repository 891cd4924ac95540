/- Decimals of a text, and what they come to; no Go text in sight. -/
import Derived.Test.YthokphoojmpajahNum
import Derived.Laws.Strings
namespace Go.Proofs.Pin
open Go.RowKit

/-- The byte at a place of a text, as a number. -/
def ch (s : ByteArray) (k : Nat) : Nat := if h : k < s.size then s[k].toNat else 0
theorem ch_eq {s : ByteArray} {k : Nat} (h : k < s.size) : s[k].toNat = ch s k := by simp [ch, h]
theorem ch_lt (s : ByteArray) (k : Nat) : ch s k < 256 := by
  unfold ch
  split
  · exact UInt8.toNat_lt _
  · decide
/-- What the first k decimals come to. -/
def num (s : ByteArray) : Nat → Nat
  | 0 => 0
  | k + 1 => num s k * 10 + (ch s k - 48)
/-- What j decimals from place k on come to. -/
def seg (s : ByteArray) (k : Nat) : Nat → Nat
  | 0 => 0
  | j + 1 => seg s k j * 10 + (ch s (k + j) - 48)
theorem num_seg (s : ByteArray) (k : Nat) : ∀ j, num s (k + j) = num s k * 10 ^ j + seg s k j
  | 0 => by simp [seg]
  | j + 1 => by
    show num s (k + j) * 10 + (ch s (k + j) - 48) = _
    rw [num_seg s k j, Nat.pow_succ, Nat.add_mul, ← Nat.mul_assoc]
    simp only [seg]
    omega
/-- The first k bytes are decimals. -/
def DecsTo (s : ByteArray) (k : Nat) : Prop := ∀ i, i < k → 48 ≤ ch s i ∧ ch s i ≤ 57
theorem DecsTo.step {s : ByteArray} {k : Nat} (h : DecsTo s k) (h0 : 48 ≤ ch s k) (h1 : ch s k ≤ 57) : DecsTo s (k + 1) := by
  intro i hi
  by_cases e : i = k
  · subst e; exact ⟨h0, h1⟩
  · exact h i (by omega)
theorem DecsTo.zero (s : ByteArray) : DecsTo s 0 := fun i hi => by omega
theorem num_lt {s : ByteArray} {k : Nat} (h : DecsTo s k) : num s k < 10 ^ k := by
  induction k with
  | zero => simp [num]
  | succ k ih =>
    have h1 := ih (fun i hi => h i (by omega))
    have h2 := h k (by omega)
    simp only [num]
    rw [Nat.pow_succ]
    omega
theorem seg_lt {s : ByteArray} {k n : Nat} (h : DecsTo s n) : ∀ j, k + j ≤ n → seg s k j < 10 ^ j
  | 0, _ => by simp [seg]
  | j + 1, hj => by
    have h1 := seg_lt (k := k) h j (by omega)
    have h2 := h (k + j) (by omega)
    simp only [seg]
    rw [Nat.pow_succ]
    omega
/-- The form of a number's text. -/
def natText (s : ByteArray) : Bool := decide (0 < s.size) && ((decide (s.size = 1) || decide (ch s 0 ≠ 48)) && (List.range s.size).all fun i => decide (48 ≤ ch s i) && decide (ch s i ≤ 57))
theorem natText_decs {s : ByteArray} (h : natText s = true) : DecsTo s s.size ∧ 0 < s.size ∧ (s.size = 1 ∨ ch s 0 ≠ 48) := by
  simp only [natText, Bool.and_eq_true, Bool.or_eq_true, decide_eq_true_eq, List.all_eq_true, List.mem_range] at h
  exact ⟨fun i hi => h.2.2 i hi, h.1, h.2.1⟩
theorem natText_of {s : ByteArray} (h0 : 0 < s.size) (h1 : s.size = 1 ∨ ch s 0 ≠ 48) (h : DecsTo s s.size) : natText s = true := by
  simp only [natText, Bool.and_eq_true, Bool.or_eq_true, decide_eq_true_eq, List.all_eq_true, List.mem_range]
  exact ⟨h0, h1, fun i hi => h i hi⟩
theorem natText_no0 {s : ByteArray} (h : s.size = 0) : natText s = false := by simp [natText, h]
theorem natText_no1 {s : ByteArray} (h : 1 < s.size) (h1 : ch s 0 = 48) : natText s = false := by
  cases e : natText s with
  | false => rfl
  | true =>
    obtain ⟨_, _, h2⟩ := natText_decs e
    rcases h2 with h2 | h2
    · omega
    · exact absurd h1 h2
theorem natText_no2 {s : ByteArray} {k : Nat} (h : k < s.size) (h1 : ch s k < 48 ∨ 57 < ch s k) : natText s = false := by
  cases e : natText s with
  | false => rfl
  | true =>
    have := (natText_decs e).1 k h
    omega
theorem toList_len (s : ByteArray) : s.toList.length = s.size := by rw [ByteArray.toList_eq]; cases s; rfl
theorem eqE (s : ByteArray) : (s.toList == []) = decide (s.size = 0) := by
  rw [← toList_len]
  cases s.toList <;> simp
theorem ch_toList {s : ByteArray} {k : Nat} (h : k < s.size) : (s.toList.getD k 0).toNat = ch s k := by
  have hl := toList_len s
  rw [← ch_eq h, List.getD_eq_getElem?_getD, List.getElem?_eq_getElem (by omega)]
  simp only [ByteArray.toList_eq, Option.getD_some]
  rfl
theorem eq48 (s : ByteArray) : (s.toList == [48]) = decide (s.size = 1 ∧ ch s 0 = 48) := by
  have hl := toList_len s
  by_cases h1 : s.size = 1
  · have hc := ch_toList (s := s) (k := 0) (by omega)
    rw [h1] at hl
    obtain ⟨z, hz⟩ := List.length_eq_one_iff.1 hl
    rw [hz] at hc ⊢
    simp only [List.getD_cons_zero] at hc
    rw [← hc]
    have : (z = 48) ↔ (z.toNat = 48) := by rw [← UInt8.toNat_inj]; rfl
    by_cases hz : z = 48
    · simp [hz, h1]
    · have hz' : z.toNat ≠ 48 := fun e => hz (this.2 e)
      simp [hz, hz']
  · have : s.toList ≠ [48] := by
      intro e
      rw [e] at hl
      simp at hl
      omega
    simp [this, h1]
end Go.Proofs.Pin
