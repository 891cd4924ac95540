/- The form of a literal, by the places of its bytes; the runes of a text; no Go text in sight. -/
import Derived.Test.YthokphoojmpajahTextNum
import Derived.Laws.IdiomStrings
import Derived.Laws.RangeAny
namespace Go.Proofs.Pin
open Go.RowKit

/-- A decimal stands at a place. -/
def dAt (s : ByteArray) (k : Nat) : Bool := decide (48 ≤ ch s k) && decide (ch s k ≤ 57)
theorem ch_past {s : ByteArray} {k : Nat} (h : s.size ≤ k) : ch s k = 0 := by
  unfold ch
  rw [dif_neg (by omega)]
theorem lt_of_ch {s : ByteArray} {k : Nat} (h : ch s k ≠ 0) : k < s.size := by
  rcases Nat.lt_or_ge k s.size with h' | h'
  · exact h'
  · exact absurd (ch_past h') h
theorem dAt_iff {s : ByteArray} {k : Nat} : dAt s k = true ↔ 48 ≤ ch s k ∧ ch s k ≤ 57 := by simp [dAt]
theorem dAt_no {s : ByteArray} {k : Nat} : dAt s k = false ↔ ch s k < 48 ∨ 57 < ch s k := by
  rw [← Bool.not_eq_true, dAt_iff]
  omega
theorem dAt_lt {s : ByteArray} {k : Nat} (h : dAt s k = true) : k < s.size := lt_of_ch (by have := dAt_iff.1 h; omega)
/-- So many decimals stand from a place on. -/
def ndF (s : ByteArray) : Nat → Nat → Nat
  | 0, _ => 0
  | f + 1, i => if dAt s i then ndF s f (i + 1) + 1 else 0
def nd (s : ByteArray) (i : Nat) : Nat := ndF s (s.size - i) i
theorem nd_yes {s : ByteArray} {i : Nat} (h : dAt s i = true) : nd s i = nd s (i + 1) + 1 := by
  have h1 := dAt_lt h
  unfold nd
  have e : s.size - i = (s.size - (i + 1)) + 1 := by omega
  rw [e]
  simp [ndF, h]
theorem nd_no {s : ByteArray} {i : Nat} (h : dAt s i = false) : nd s i = 0 := by
  unfold nd
  cases s.size - i <;> simp [ndF, h]
/-- Decimals stand from a to i. -/
def Dgs (s : ByteArray) (a i : Nat) : Prop := ∀ j, a ≤ j → j < i → dAt s j = true
theorem Dgs.nil (s : ByteArray) (a : Nat) : Dgs s a a := fun j h1 h2 => by omega
theorem Dgs.more {s : ByteArray} {a i : Nat} (h : Dgs s a i) (hi : dAt s i = true) : Dgs s a (i + 1) := fun j h1 h2 => by
  by_cases e : j = i
  · subst e; exact hi
  · exact h j h1 (by omega)
theorem nd_run {s : ByteArray} {a : Nat} : ∀ n, Dgs s a (a + n) → nd s a = n + nd s (a + n)
  | 0, _ => by simp
  | n + 1, h => by
    rw [nd_run n (fun j h1 h2 => h j h1 (by omega)), nd_yes (h (a + n) (by omega) (by omega))]
    have e : a + n + 1 = a + (n + 1) := by omega
    rw [e]
    omega
theorem nd_to {s : ByteArray} {a i : Nat} (h : Dgs s a i) (ha : a ≤ i) (hi : dAt s i = false) : nd s a = i - a := by
  have e : i = a + (i - a) := by omega
  have h1 := nd_run (s := s) (a := a) (i - a) (by rw [← e]; exact h)
  rw [← e, nd_no hi] at h1
  omega
theorem nd_spec (s : ByteArray) : ∀ n i, s.size - i = n → Dgs s i (i + nd s i) ∧ dAt s (i + nd s i) = false
  | 0, i, h => by
    have e : dAt s i = false := by rw [dAt_no, ch_past (by omega)]; omega
    rw [nd_no e]
    exact ⟨Dgs.nil _ _, e⟩
  | n + 1, i, h => by
    cases e : dAt s i with
    | false => rw [nd_no e]; exact ⟨Dgs.nil _ _, e⟩
    | true =>
      obtain ⟨h1, h2⟩ := nd_spec s n (i + 1) (by omega)
      have e2 : i + nd s i = i + 1 + nd s (i + 1) := by rw [nd_yes e]; omega
      rw [e2]
      refine ⟨fun j hj1 hj2 => ?_, h2⟩
      by_cases ej : j = i
      · subst ej; exact e
      · exact h1 j (by omega) hj2
theorem nd_le (s : ByteArray) (i : Nat) (hi : i ≤ s.size) : i + nd s i ≤ s.size := by
  by_cases h : nd s i = 0
  · omega
  · have h1 := (nd_spec s _ i rfl).1 (i + nd s i - 1) (by omega) (by omega)
    have := dAt_lt h1
    omega

/-- What stands behind the 'e', its sign gone. -/
def exN (s : ByteArray) (m : Bool) (a : Nat) : Bool :=
  decide (1 ≤ nd s a) && (decide (nd s a ≤ 3) && (!(decide (1 < nd s a) && decide (ch s a = 48)) && (!(m && decide (ch s a = 48)) && (decide (seg s a (nd s a) ≤ 400) && decide (a + nd s a = s.size)))))
def exB (s : ByteArray) (a : Nat) : Bool := if ch s a = 45 then exN s true (a + 1) else exN s false a
/-- What stands behind the decimals. -/
def tlB (s : ByteArray) (a : Nat) : Bool := if ch s a = 101 then exB s (a + 1) else decide (a = s.size)
/-- What stands behind the whole part. -/
def frB (s : ByteArray) (n : Nat) : Bool := if ch s n = 46 then (if nd s (n + 1) = 0 then false else tlB s (n + 1 + nd s (n + 1))) else tlB s n
/-- A literal. -/
def litB (s : ByteArray) : Bool := decide (s.size ≤ 60) && (decide (1 ≤ nd s 0) && (!(decide (1 < nd s 0) && decide (ch s 0 = 48)) && frB s (nd s 0)))

theorem lit_nought {s : ByteArray} (hs : s.size ≤ 60) (h : ch s 0 = 48) : litB s = frB s 1 := by
  have h0 : dAt s 0 = true := dAt_iff.2 (by omega)
  have h1 := nd_yes h0
  by_cases e : nd s 1 = 0
  · simp [litB, hs, h1, e]
  · have h2 : dAt s 1 = true := by
      cases hd : dAt s 1 with
      | true => rfl
      | false => exact absurd (nd_no hd) e
    have h3 := dAt_iff.1 h2
    have h4 := dAt_lt h2
    have e1 : ch s 1 ≠ 46 := by omega
    have e2 : ch s 1 ≠ 101 := by omega
    have e3 : ¬ (1 = s.size) := by omega
    have e4 : 0 < nd s 1 := by omega
    simp [litB, hs, h1, frB, tlB, e1, e2, e3, h, e4]
theorem lit_none {s : ByteArray} (h : dAt s 0 = false) : litB s = false := by simp [litB, nd_no h]
theorem lit_some {s : ByteArray} {i : Nat} (hs : s.size ≤ 60) (h0 : ch s 0 ≠ 48) (h : Dgs s 0 i) (hi : 0 < i) (he : dAt s i = false) : litB s = frB s i := by
  have h1 := nd_to h (by omega) he
  simp only [Nat.sub_zero] at h1
  have e : 1 ≤ i := by omega
  simp [litB, hs, h1, h0, e]
theorem fr_none {s : ByteArray} {n : Nat} (h : ch s n ≠ 46) : frB s n = tlB s n := by simp [frB, h]
theorem fr_empty {s : ByteArray} {n : Nat} (h : ch s n = 46) (h1 : dAt s (n + 1) = false) : frB s n = false := by simp [frB, h, nd_no h1]
theorem fr_some {s : ByteArray} {n i : Nat} (h : ch s n = 46) (hd : Dgs s (n + 1) i) (hi : n + 1 < i) (he : dAt s i = false) : frB s n = tlB s i := by
  have h1 := nd_to hd (by omega) he
  have e1 : nd s (n + 1) ≠ 0 := by omega
  have e2 : n + 1 + nd s (n + 1) = i := by omega
  simp only [frB, h, if_true, e1, if_false, e2]
theorem tl_none {s : ByteArray} {a : Nat} (h : ch s a ≠ 101) : tlB s a = decide (a = s.size) := by simp [tlB, h]
theorem tl_nought {s : ByteArray} {a : Nat} (h : ch s a = 101) (h1 : ch s (a + 1) = 48) : tlB s a = decide (a + 2 = s.size) := by
  have h2 := nd_yes (s := s) (i := a + 1) (dAt_iff.2 (by omega))
  have e45 : ch s (a + 1) ≠ 45 := by omega
  have e0 : tlB s a = exN s false (a + 1) := by simp [tlB, h, exB, e45]
  rw [e0]
  by_cases e : nd s (a + 1 + 1) = 0
  · rw [e] at h2
    simp [exN, h2, h1, seg]
  · have h3 : dAt s (a + 1 + 1) = true := by
      cases hd : dAt s (a + 1 + 1) with
      | true => rfl
      | false => exact absurd (nd_no hd) e
    have h4 := dAt_lt h3
    have e3 : ¬ (a + 2 = s.size) := by omega
    have e4 : 0 < nd s (a + 1 + 1) := by omega
    simp [exN, h2, h1, e3, e4]
/-- Where the power's decimals begin, and whether a '-' stands ahead of them. -/
def ExAt (s : ByteArray) (a : Nat) (m : Bool) (b : Nat) : Prop := ch s a = 101 ∧ ((m = true ∧ ch s (a + 1) = 45 ∧ b = a + 2) ∨ (m = false ∧ ch s (a + 1) ≠ 45 ∧ b = a + 1))
theorem tl_ex {s : ByteArray} {a b : Nat} {m : Bool} (h : ExAt s a m b) : tlB s a = exN s m b := by
  obtain ⟨h0, h1⟩ := h
  rcases h1 with ⟨rfl, h1, rfl⟩ | ⟨rfl, h1, rfl⟩
  · simp [tlB, exB, h0, h1]
  · simp [tlB, exB, h0, h1]
theorem tl_empty {s : ByteArray} {a b : Nat} {m : Bool} (h : ExAt s a m b) (hd : dAt s b = false) : tlB s a = false := by rw [tl_ex h]; simp [exN, nd_no hd]
theorem tl_zero {s : ByteArray} {a b : Nat} (h : ExAt s a true b) (hd : ch s b = 48) : tlB s a = false := by rw [tl_ex h]; simp [exN, hd]
theorem seg_ge {s : ByteArray} {a : Nat} : ∀ n, Dgs s a (a + (n + 1)) → ch s a ≠ 48 → 10 ^ n ≤ seg s a (n + 1)
  | 0, h, h0 => by
    have := dAt_iff.1 (h a (by omega) (by omega))
    simp [seg]
    omega
  | n + 1, h, h0 => by
    have h1 := seg_ge n (fun j x y => h j x (by omega)) h0
    rw [seg, Nat.pow_succ]
    omega
theorem seg_small {s : ByteArray} {a : Nat} : ∀ n, Dgs s a (a + n) → seg s a n < 10 ^ n
  | 0, _ => by simp [seg]
  | n + 1, h => by
    have h1 := seg_small n (fun j x y => h j x (by omega))
    have h2 := dAt_iff.1 (h (a + n) (by omega) (by omega))
    rw [seg, Nat.pow_succ]
    omega
theorem seg_big {s : ByteArray} {a k : Nat} (h : Dgs s a (a + k)) (h0 : ch s a ≠ 48) (hk : 3 < k) : 400 < seg s a k := by
  obtain ⟨n, rfl⟩ : ∃ n, k = n + 1 := ⟨k - 1, by omega⟩
  have h1 := seg_ge n h h0
  have h2 : 10 ^ 3 ≤ 10 ^ n := Nat.pow_le_pow_right (by decide) (by omega)
  omega
theorem tl_some {s : ByteArray} {a b i : Nat} {m : Bool} (h : ExAt s a m b) (h0 : ch s b ≠ 48) (hd : Dgs s b i) (hi : b < i) (he : dAt s i = false) : tlB s a = (decide (seg s b (i - b) ≤ 400) && decide (i = s.size)) := by
  rw [tl_ex h]
  have h1 := nd_to hd (by omega) he
  obtain ⟨k, hk⟩ : ∃ k, k = i - b := ⟨_, rfl⟩
  have hik : i = b + k := by omega
  subst hik
  rw [← hk] at h1 ⊢
  have e1 : 1 ≤ k := by omega
  by_cases h3 : k ≤ 3
  · simp [exN, h1, e1, h3, h0]
  · have h4 := seg_big hd h0 (by omega)
    have e4 : ¬ seg s b k ≤ 400 := by omega
    simp [exN, h1, h3, e4]
/-- The power as it is gathered: what is past the limit stays so. -/
def cp (n : Nat) : Nat := min n 401
theorem cp_le (n : Nat) : cp n ≤ 401 := by unfold cp; omega
theorem cp_ok (n : Nat) : cp n ≤ 400 ↔ n ≤ 400 := by unfold cp; omega
theorem cp_seg (s : ByteArray) (b k : Nat) : cp (seg s b (k + 1)) = min (cp (seg s b k) * 10 + (ch s (b + k) - 48)) 401 := by
  simp only [cp, seg]
  omega

/-- The runes of a text from a place on. -/
def rnF (s : ByteArray) : Nat → Nat → List Int
  | 0, _ => []
  | f + 1, i => if i < s.size then ((Utf8.decode s i).1 : Int) :: rnF s f (i + (Utf8.decode s i).2) else []
theorem runes_rn (s : ByteArray) : ∀ f i (acc : Array Value), Conv.runesFrom s f i acc = acc ++ ((rnF s f i).map (Value.int .i32)).toArray
  | 0, i, acc => by simp [Conv.runesFrom, rnF]
  | f + 1, i, acc => by
    unfold Conv.runesFrom rnF
    by_cases h : i < s.size
    · simp only [h, if_true]
      rw [runes_rn s f]
      apply Array.ext'
      simp
    · simp [h]
theorem rnF_len (s : ByteArray) : ∀ f i, (rnF s f i).length ≤ f
  | 0, _ => by simp [rnF]
  | f + 1, i => by
    unfold rnF
    split
    · have := rnF_len s f (i + (Utf8.decode s i).2)
      simp
      omega
    · simp
def rn (s : ByteArray) (i : Nat) : List Int := rnF s (s.size - i) i
/-- The rune that is handed out at a place: the end's sign where there is none. -/
def rd (s : ByteArray) (i : Nat) : Int := (rn s i).headD (-1)
theorem decode_low (s : ByteArray) (i : Nat) (h : i < s.size) (ha : ch s i < 128) : Utf8.decode s i = (ch s i, 1) := by
  have h1 : (s.get! (i + 0)).toNat = ch s i := by rw [get_at s i h, ch_eq h]
  simp only [Utf8.decode, h1, ha, if_true]
theorem rn_low {s : ByteArray} {i : Nat} (h : i < s.size) (ha : ch s i < 128) : rn s i = (ch s i : Int) :: rn s (i + 1) := by
  unfold rn
  have e : s.size - i = (s.size - (i + 1)) + 1 := by omega
  rw [e]
  simp only [rnF, h, if_true, decode_low s i h ha]
theorem rn_end {s : ByteArray} {i : Nat} (h : s.size ≤ i) : rn s i = [] := by
  unfold rn
  have e : s.size - i = 0 := by omega
  rw [e]
  rfl
theorem rd_cases (s : ByteArray) (i : Nat) : (s.size ≤ i ∧ rd s i = -1) ∨ (i < s.size ∧ ch s i < 128 ∧ rd s i = (ch s i : Int)) ∨ (i < s.size ∧ 128 ≤ ch s i ∧ 128 ≤ rd s i ∧ rd s i ≤ 2147483647) := by
  rcases Nat.lt_or_ge i s.size with h | h
  · rcases Nat.lt_or_ge (ch s i) 128 with ha | ha
    · refine .inr (.inl ⟨h, ha, ?_⟩)
      unfold rd
      rw [rn_low h ha]
      rfl
    · refine .inr (.inr ⟨h, ha, ?_⟩)
      have e : rd s i = ((Utf8.decode s i).1 : Int) := by
        unfold rd rn
        have e : s.size - i = (s.size - (i + 1)) + 1 := by omega
        rw [e]
        simp [rnF, h]
      have h1 := (decode_high s i h (by rw [ch_eq h]; exact ha)).1
      have h2 := decode_le s i
      rw [e]
      omega
  · refine .inl ⟨h, ?_⟩
    unfold rd
    rw [rn_end h]
    rfl
/-- A rune is one of the form's own just where its byte is. -/
theorem rd_is {s : ByteArray} {i c : Nat} (h0 : 0 < c) (h1 : c < 128) : rd s i = (c : Int) ↔ ch s i = c := by
  rcases rd_cases s i with ⟨h, e⟩ | ⟨h, ha, e⟩ | ⟨h, ha, e, _⟩
  · have := ch_past h
    omega
  · omega
  · omega
theorem rd_dig {s : ByteArray} {i : Nat} : dAt s i = true ↔ 48 ≤ rd s i ∧ rd s i ≤ 57 := by
  rw [dAt_iff]
  rcases rd_cases s i with ⟨h, e⟩ | ⟨h, ha, e⟩ | ⟨h, ha, e, _⟩
  · have := ch_past h
    omega
  · omega
  · omega
theorem rd_end {s : ByteArray} {i : Nat} (hi : i ≤ s.size) : rd s i = -1 ↔ i = s.size := by
  rcases rd_cases s i with ⟨h, e⟩ | ⟨h, ha, e⟩ | ⟨h, ha, e, _⟩ <;> omega
theorem rd_wide (s : ByteArray) (i : Nat) : -1 ≤ rd s i ∧ rd s i ≤ 2147483647 := by
  rcases rd_cases s i with ⟨h, e⟩ | ⟨h, ha, e⟩ | ⟨h, ha, e, _⟩ <;> omega
/-- Behind a rune of the form's own the next one stands at the next place. -/
theorem rn_tail {s : ByteArray} {i : Nat} (h0 : ch s i ≠ 0) (h1 : ch s i < 128) : (rn s i).tail = rn s (i + 1) := by
  rw [rn_low (lt_of_ch h0) h1]
  rfl
theorem rn_len (s : ByteArray) (i : Nat) : (rn s i).length ≤ s.size := Nat.le_trans (rnF_len s _ i) (Nat.sub_le _ _)
end Go.Proofs.Pin
