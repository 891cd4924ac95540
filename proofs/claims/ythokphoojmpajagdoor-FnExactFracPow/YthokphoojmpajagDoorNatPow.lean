/- The contracts of spec.NatPow and impl.NatPow. -/
import Derived.Test.YthokphoojmpajagDoorGMark
import Derived.Test.YthokphoojmpajagDoorOp2
import Derived.Test.YthokphoojmpajagDoorMul
import Derived.Test.YthokphoojmpajagDoorTimes
namespace Go.Proofs.YthokphoojmpajagDoor
open Go.RowKit Go.Proofs.Pin

/-- The power of what NatOk lets by, for exponents from 0 to 64. -/
def powO (xs : List Int) (n : Int) : Option Nat := if okB xs = true then (if 0 ≤ n ∧ n ≤ 64 then some ((val xs).toNat ^ n.toNat) else none) else none
theorem powO_no1 {xs : List Int} {n : Int} (h : okB xs = false) : powO xs n = none := by simp [powO, h]
theorem powO_no2 {xs : List Int} {n : Int} (h : ¬ (0 ≤ n ∧ n ≤ 64)) : powO xs n = none := by simp only [powO, h, if_false]; split <;> rfl
theorem powO_yes {x : Nat} {n : Nat} (hx : (dgs x).length ≤ 256) (hn : n ≤ 64) : powO (dgs x) n = some (x ^ n) := by
  have h1 : (0 : Int) ≤ n ∧ (n : Int) ≤ 64 := by omega
  simp [powO, dgs_ok hx, h1, val_dgs]
theorem pow_great {x k n : Nat} (h : ¬ (dgs (x ^ (k + 1))).length ≤ 256) (hk : k + 1 ≤ n) : fitL (dgs (x ^ n)) = [] ∧ fitB (dgs (x ^ n)) = false := by
  have h1 : ¬ (dgs (x ^ n)).length ≤ 256 := by
    rw [dgs_len_iff] at h ⊢
    have hx : 0 < x := by
      rcases Nat.eq_zero_or_pos x with h0 | h0
      · subst h0
        exfalso
        apply h
        rw [Nat.zero_pow (by omega)]
        exact Nat.pow_pos (by decide)
      · exact h0
    have h2 := Nat.pow_le_pow_right hx hk
    omega
  exact ⟨by simp [fitL, h1], by simp [fitB, h1]⟩
theorem own_one (w : World) : OwnI (w.alloc (.cells #[.int .i64 1] 3)) w.heap.size (some ⟨w.heap.size, 0, none⟩) 1 [1] := World.ownsRow_lit w #[.int .i64 1] 1 (Nat.le_refl _) (by unfold maxLen; omega) (by simp)

/-- What a function of a list of digits and an int that answers a list and a bool is said to do. -/
def OpI (F : Nat) (f : List Int → Int → Option Nat) : Prop := ∀ (a : Option Addr) (ca : Nat) (xs : List Int) (n : Int) (w : World), Sl w a xs → xs.length ≤ 1048576 →
  Calls Tryd.prog F #[.slice a xs.length ca, .int .i64 n] w fun e w' => ∃ r cr, e = .returned (.tuple #[.slice r (ansL (f xs n)).length cr, .bool (ansB (f xs n))]) ∧ OwnI w' w.heap.size r cr (ansL (f xs n)) ∧ Below w.heap.size w w'

set_option maxRecDepth 20000 in
set_option maxHeartbeats 800000 in
theorem specPow_op : OpI 44 powO := by
  intro a ca xs n w ha hx
  cases h1 : okB xs with
  | false =>
    rw [powO_no1 h1]
    go_enter Tryd.func44, Tryd.ntmps44
    go_wp2_with (go_at_call 52; refine (specOk_any _ _ xs _ ha hx).mono ?_; rintro e w' ⟨rfl, rfl⟩)
    go_ret2
    exact ⟨none, 0, rfl, OwnI.nil _ _, Below.refl _ _⟩
  | true =>
    by_cases hn : 0 ≤ n ∧ n ≤ 64
    · obtain ⟨x, rfl, hx'⟩ := ok_dgs h1
      obtain ⟨m, rfl⟩ : ∃ m : Nat, n = m := ⟨n.toNat, by omega⟩
      have hm : m ≤ 64 := by omega
      rw [powO_yes hx' hm]
      show Calls _ _ _ _ fun e w' => ∃ r cr, e = .returned (.tuple #[.slice r (fitL (dgs (x ^ m))).length cr, .bool (fitB (dgs (x ^ m)))]) ∧ OwnI w' w.heap.size r cr (fitL (dgs (x ^ m))) ∧ Below w.heap.size w w'
      have c1 := (specOk_any a ca (dgs x) w ha hx).mono (R' := fun e w' => e = .returned (.bool (okB (dgs x))) ∧ w = w') fun e w' h => ⟨h.1, h.2.symm⟩
      rw [h1] at c1
      have C3 : Hid (∀ (r : Option Addr) (cr k : Nat) (wr : World), Below w.heap.size w wr → OwnI wr w.heap.size r cr (dgs (x ^ k)) → (dgs (x ^ k)).length ≤ 256 → Calls Tryd.prog 41 #[.slice r (dgs (x ^ k)).length cr, .slice a (dgs x).length ca] wr fun e w' => ∃ r cr, e = .returned (.slice r (dgs (x ^ (k + 1))).length cr) ∧ OwnI w' w.heap.size r cr (dgs (x ^ (k + 1))) ∧ Below w.heap.size w w') := by
        intro r cr k wr hb ho hl
        refine (l1Mul_any r a cr ca (x ^ k) x wr ho.sl (ha.keep hb) (by omega) (by omega)).mono ?_
        rintro e w' ⟨r2, c2, h1, h2, h3⟩
        rw [← Nat.pow_succ] at h1 h2
        exact ⟨r2, c2, h1, h2.mono hb.size, hb.trans (h3.mono hb.size)⟩
      have HG : Hid (∀ k, ¬ (dgs (x ^ (k + 1))).length ≤ 256 → k + 1 ≤ m → fitL (dgs (x ^ m)) = [] ∧ fitB (dgs (x ^ m)) = false) := fun k => pow_great
      have HE : Hid ((dgs (x ^ m)).length ≤ 256 → fitL (dgs (x ^ m)) = dgs (x ^ m) ∧ fitB (dgs (x ^ m)) = true) := fit_yes
      obtain ⟨D, hD⟩ : ∃ D : Nat → List Int, D = fun k => dgs (x ^ k) := ⟨_, rfl⟩
      have hDk : ∀ k, dgs (x ^ k) = D k := fun k => by rw [hD]
      have h0 : D 0 = [1] := by rw [hD]; rfl
      have H0 : Hid (D 0 = [1]) := h0
      simp only [hDk] at C3 HG HE ⊢
      obtain ⟨X, hX⟩ : ∃ X, X = dgs x := ⟨_, rfl⟩
      rw [← hX] at c1 C3 ⊢
      have C1 : Hid _ := c1
      clear c1 hX h1 ha hx hx' hn hD hDk h0
      go_enter Tryd.func44, Tryd.ntmps44
      go_wp2_with (go_at_call 52; refine Calls.mono C1.out ?_; rintro e w' ⟨rfl, rfl⟩)
      go_loopw [6, 7] (fun v i wr => ∃ (k : Nat) (r : Option Addr) (cr : Nat), k ≤ m ∧ i = .int .i64 k ∧ v = .slice r (D k).length cr ∧ OwnI wr w.heap.size r cr (D k) ∧ (D k).length ≤ 256 ∧ Below w.heap.size w wr) (fun _ i _ => m - (intOf i).toNat)
      case atStart => exact ⟨0, some ⟨w.heap.size, 0, none⟩, 1, Nat.zero_le _, rfl, by rw [H0.out]; rfl, by rw [H0.out]; exact own_one w, by rw [H0.out]; decide, (Below.refl _ _).alloc (Nat.le_refl _) _⟩
      case round =>
        obtain ⟨k, r, cr, hk, rfl, rfl, ho, hl, hb⟩ := hrel
        have HO : Hid (OwnI wr w.heap.size r cr (D k)) := ho
        have HB : Hid (Below w.heap.size w wr) := hb
        have HL : Hid ((D k).length ≤ 256) := hl
        clear ho hb hl
        by_cases hlt : k < m
        · have hltI : (k : Int) < m := by omega
          by_cases hf : (D (k + 1)).length ≤ 256
          · go_wp2_with (go_at_call 41; refine Calls.mono (C3.out _ _ _ _ HB.out HO.out HL.out) ?_; rintro e w2 ⟨r2, c2, rfl, ho2, hb2⟩)
            go_roundw
            case rel => exact ⟨k + 1, r2, c2, by omega, by go_num, rfl, ho2, hf, hb2⟩
            case measure => simp [intOf]; omega
          · have hg := HG.out k hf (by omega)
            have HG2 : Hid (fitL (D m) = [] ∧ fitB (D m) = false) := hg
            clear hg
            go_wp2_with (go_at_call 41; refine Calls.mono (C3.out _ _ _ _ HB.out HO.out HL.out) ?_; rintro e w2 ⟨r2, c2, rfl, ho2, hb2⟩)
            go_ret2
            exact ⟨none, 0, by rw [HG2.out.1, HG2.out.2]; rfl, by rw [HG2.out.1]; exact OwnI.nil _ _, hb2⟩
        · have hkm : k = m := by omega
          subst hkm
          have hg := HE.out HL.out
          have HG2 : Hid (fitL (D k) = D k ∧ fitB (D k) = true) := hg
          clear hg
          go_wp2
          go_ret2
          exact ⟨r, cr, by rw [HG2.out.1, HG2.out.2]; rfl, by rw [HG2.out.1]; exact HO.out, HB.out⟩
    · rw [powO_no2 hn]
      have hn' : n < 0 ∨ 64 < n := by omega
      rcases hn' with h | h
      · go_enter Tryd.func44, Tryd.ntmps44
        go_wp2_with (go_at_call 52; refine (specOk_any _ _ xs _ ha hx).mono ?_; rintro e w' ⟨rfl, rfl⟩)
        go_ret2
        exact ⟨none, 0, rfl, OwnI.nil _ _, Below.refl _ _⟩
      · go_enter Tryd.func44, Tryd.ntmps44
        go_wp2_with (go_at_call 52; refine (specOk_any _ _ xs _ ha hx).mono ?_; rintro e w' ⟨rfl, rfl⟩)
        go_ret2
        exact ⟨none, 0, rfl, OwnI.nil _ _, Below.refl _ _⟩
set_option maxRecDepth 20000 in
set_option maxHeartbeats 800000 in
theorem implPow_op : OpI 64 powO := by
  intro a ca xs n w ha hx
  cases h1 : okB xs with
  | false =>
    rw [powO_no1 h1]
    go_enter Tryd.func64, Tryd.ntmps64
    go_wp2_with (go_at_call 85; refine (implOk_any _ _ xs _ ha hx).mono ?_; rintro e w' ⟨rfl, rfl⟩)
    go_ret2
    exact ⟨none, 0, rfl, OwnI.nil _ _, Below.refl _ _⟩
  | true =>
    by_cases hn : 0 ≤ n ∧ n ≤ 64
    · obtain ⟨x, rfl, hx'⟩ := ok_dgs h1
      obtain ⟨m, rfl⟩ : ∃ m : Nat, n = m := ⟨n.toNat, by omega⟩
      have hm : m ≤ 64 := by omega
      rw [powO_yes hx' hm]
      show Calls _ _ _ _ fun e w' => ∃ r cr, e = .returned (.tuple #[.slice r (fitL (dgs (x ^ m))).length cr, .bool (fitB (dgs (x ^ m)))]) ∧ OwnI w' w.heap.size r cr (fitL (dgs (x ^ m))) ∧ Below w.heap.size w w'
      have c1 := (implOk_any a ca (dgs x) w ha hx).mono (R' := fun e w' => e = .returned (.bool (okB (dgs x))) ∧ w = w') fun e w' h => ⟨h.1, h.2.symm⟩
      rw [h1] at c1
      have C3 : Hid (∀ (r : Option Addr) (cr k : Nat) (wr : World), Below w.heap.size w wr → OwnI wr w.heap.size r cr (dgs (x ^ k)) → (dgs (x ^ k)).length ≤ 256 → Calls Tryd.prog 62 #[.slice r (dgs (x ^ k)).length cr, .slice a (dgs x).length ca] wr fun e w' => ∃ r cr, e = .returned (.slice r (dgs (x ^ (k + 1))).length cr) ∧ OwnI w' w.heap.size r cr (dgs (x ^ (k + 1))) ∧ Below w.heap.size w w') := by
        intro r cr k wr hb ho hl
        refine (times_any r a cr ca (x ^ k) x wr ho.sl (ha.keep hb) (by omega) (by omega)).mono ?_
        rintro e w' ⟨r2, c2, h1, h2, h3⟩
        rw [← Nat.pow_succ] at h1 h2
        exact ⟨r2, c2, h1, h2.mono hb.size, hb.trans (h3.mono hb.size)⟩
      have HG : Hid (∀ k, ¬ (dgs (x ^ (k + 1))).length ≤ 256 → k + 1 ≤ m → fitL (dgs (x ^ m)) = [] ∧ fitB (dgs (x ^ m)) = false) := fun k => pow_great
      have HE : Hid ((dgs (x ^ m)).length ≤ 256 → fitL (dgs (x ^ m)) = dgs (x ^ m) ∧ fitB (dgs (x ^ m)) = true) := fit_yes
      obtain ⟨D, hD⟩ : ∃ D : Nat → List Int, D = fun k => dgs (x ^ k) := ⟨_, rfl⟩
      have hDk : ∀ k, dgs (x ^ k) = D k := fun k => by rw [hD]
      have h0 : D 0 = [1] := by rw [hD]; rfl
      have H0 : Hid (D 0 = [1]) := h0
      simp only [hDk] at C3 HG HE ⊢
      obtain ⟨X, hX⟩ : ∃ X, X = dgs x := ⟨_, rfl⟩
      rw [← hX] at c1 C3 ⊢
      have C1 : Hid _ := c1
      clear c1 hX h1 ha hx hx' hn hD hDk h0
      go_enter Tryd.func64, Tryd.ntmps64
      go_wp2_with (go_at_call 85; refine Calls.mono C1.out ?_; rintro e w' ⟨rfl, rfl⟩)
      go_loopw [6, 20] (fun v i wr => ∃ (k : Nat) (r : Option Addr) (cr : Nat), k ≤ m ∧ i = .int .i64 k ∧ v = .slice r (D k).length cr ∧ OwnI wr w.heap.size r cr (D k) ∧ (D k).length ≤ 256 ∧ Below w.heap.size w wr) (fun _ i _ => m - (intOf i).toNat)
      case atStart => exact ⟨0, some ⟨w.heap.size, 0, none⟩, 1, Nat.zero_le _, rfl, by rw [H0.out]; rfl, by rw [H0.out]; exact own_one w, by rw [H0.out]; decide, (Below.refl _ _).alloc (Nat.le_refl _) _⟩
      case round =>
        obtain ⟨k, r, cr, hk, rfl, rfl, ho, hl, hb⟩ := hrel
        have HO : Hid (OwnI wr w.heap.size r cr (D k)) := ho
        have HB : Hid (Below w.heap.size w wr) := hb
        have HL : Hid ((D k).length ≤ 256) := hl
        clear ho hb hl
        by_cases hlt : k < m
        · have hltI : (k : Int) < m := by omega
          by_cases hf : (D (k + 1)).length ≤ 256
          · go_wp2_with (go_at_call 62; refine Calls.mono (C3.out _ _ _ _ HB.out HO.out HL.out) ?_; rintro e w2 ⟨r2, c2, rfl, ho2, hb2⟩)
            go_roundw
            case rel => exact ⟨k + 1, r2, c2, by omega, by go_num, rfl, ho2, hf, hb2⟩
            case measure => simp [intOf]; omega
          · have hg := HG.out k hf (by omega)
            have HG2 : Hid (fitL (D m) = [] ∧ fitB (D m) = false) := hg
            clear hg
            go_wp2_with (go_at_call 62; refine Calls.mono (C3.out _ _ _ _ HB.out HO.out HL.out) ?_; rintro e w2 ⟨r2, c2, rfl, ho2, hb2⟩)
            go_ret2
            exact ⟨none, 0, by rw [HG2.out.1, HG2.out.2]; rfl, by rw [HG2.out.1]; exact OwnI.nil _ _, hb2⟩
        · have hkm : k = m := by omega
          subst hkm
          have hg := HE.out HL.out
          have HG2 : Hid (fitL (D k) = D k ∧ fitB (D k) = true) := hg
          clear hg
          go_wp2
          go_ret2
          exact ⟨r, cr, by rw [HG2.out.1, HG2.out.2]; rfl, by rw [HG2.out.1]; exact HO.out, HB.out⟩
    · rw [powO_no2 hn]
      have hn' : n < 0 ∨ 64 < n := by omega
      rcases hn' with h | h
      · go_enter Tryd.func64, Tryd.ntmps64
        go_wp2_with (go_at_call 85; refine (implOk_any _ _ xs _ ha hx).mono ?_; rintro e w' ⟨rfl, rfl⟩)
        go_ret2
        exact ⟨none, 0, rfl, OwnI.nil _ _, Below.refl _ _⟩
      · go_enter Tryd.func64, Tryd.ntmps64
        go_wp2_with (go_at_call 85; refine (implOk_any _ _ xs _ ha hx).mono ?_; rintro e w' ⟨rfl, rfl⟩)
        go_ret2
        exact ⟨none, 0, rfl, OwnI.nil _ _, Below.refl _ _⟩
end Go.Proofs.YthokphoojmpajagDoor
