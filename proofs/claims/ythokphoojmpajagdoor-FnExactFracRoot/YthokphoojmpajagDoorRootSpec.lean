/- The contract of spec.l1Root: the digits of the square root, down, bit by bit. -/
import Derived.Test.YthokphoojmpajagDoorPow2
import Derived.Test.YthokphoojmpajagDoorAdd
import Derived.Test.YthokphoojmpajagDoorMul
import Derived.Test.YthokphoojmpajagDoorCmp
import Derived.Deep.LoopGhost
namespace Go.Proofs.YthokphoojmpajagDoor
open Go.RowKit Go.Proofs.Pin

theorem root_len {r x : Nat} (h : r * r ≤ x) (hx : (dgs x).length ≤ 256) : (dgs r).length ≤ 256 := by
  refine Nat.le_trans (dgs_len_le ?_) hx
  rcases Nat.eq_zero_or_pos r with h0 | h0
  · omega
  · have := Nat.le_mul_of_pos_left r h0
    omega
theorem sg_le {x y : Int} (h : x ≤ y) : sg x y ≤ 0 := by
  rcases Int.lt_or_eq_of_le h with h1 | h1
  · rw [sg_lt h1]; decide
  · rw [sg_eq h1]; decide

set_option maxRecDepth 20000 in
set_option maxHeartbeats 1600000 in
theorem l1Root_any (a : Option Addr) (ca : Nat) (x : Nat) (w : World) (ha : Sl w a (dgs x)) (hx : (dgs x).length ≤ 256) :
    Calls Tryd.prog 65 #[.slice a (dgs x).length ca] w fun e w' => ∃ r cr, e = .returned (.slice r (dgs (rt x)).length cr) ∧ OwnI w' w.heap.size r cr (dgs (rt x)) ∧ Below w.heap.size w w' := by
  obtain ⟨hb1, hb2, hb3⟩ := bits_lt (x := x)
  obtain ⟨B, hB⟩ : ∃ B : Nat, bitsOf (dgs x) = (B : Int) := ⟨(bitsOf (dgs x)).toNat, by omega⟩
  have hB4 : B ≤ 4096 := by omega
  have CB : Hid (Calls Tryd.prog 87 #[.slice a (dgs x).length ca] w fun e w' => e = .returned (.int .i64 (B : Int)) ∧ w = w') := by
    have h := l1Bits_any a ca (dgs x) w ha hx (fun i hi => by have := (Dg_dgs x).at i; exact dig_yes this.1 this.2)
    rw [hB] at h
    exact h.mono fun e w' h => ⟨h.1, h.2.symm⟩
  have hst : x < 2 ^ ((B + 1) / 2 + 1) * 2 ^ ((B + 1) / 2 + 1) := half_sq (by rw [hB, Int.toNat_natCast]; omega)
  obtain ⟨K, hK⟩ : ∃ K, K = (B + 1) / 2 := ⟨_, rfl⟩
  have hKI : ((B : Int) + 1) / 2 = (K : Int) := by omega
  have hK2 : K ≤ 2048 := by omega
  rw [← hK] at hst
  have H0 : Hid (∃ (r : Nat) (a' : Option Addr) (ca' : Nat), Value.slice none 0 0 = .slice a' (dgs r).length ca' ∧ Value.int .i64 (((B : Int) + 1) / 2) = .int .i64 (((K + 1 : Nat) : Int) - 1) ∧ OwnI w w.heap.size a' ca' (dgs r) ∧ r * r ≤ x ∧ x < (r + 2 ^ (K + 1)) * (r + 2 ^ (K + 1)) ∧ K + 1 ≤ 2100 ∧ Below w.heap.size w w) :=
    ⟨0, none, 0, rfl, by congr 1; omega, OwnI.nil _ _, by omega, by rw [Nat.zero_add]; exact hst, by omega, Below.refl _ _⟩
  have HX : Hid ((dgs x).length ≤ 256) := hx
  have HA : Hid (∀ W, Below w.heap.size w W → Sl W a (dgs x)) := fun W h => ha.keep h
  obtain ⟨Z, hZ⟩ : ∃ Z, Z = dgs x := ⟨_, rfl⟩
  have HZ : Hid (Z = dgs x) := hZ
  rw [← hZ] at CB HA ⊢
  obtain ⟨R, hR⟩ : ∃ R, R = dgs (rt x) := ⟨_, rfl⟩
  have HR : Hid (R = dgs (rt x)) := hR
  rw [← hR]
  clear hb1 hb2 hb3 hB hst hK hKI ha hx hZ hR
  go_enter Tryd.func65, Tryd.ntmps65
  go_wp2_with fail
  refine Calls.mono CB.out ?_
  rintro e w1 ⟨rfl, rfl⟩
  go_wp2_with fail
  go_loopg [3, 4] (K + 1) (fun j d e wr => ∃ (r : Nat) (a' : Option Addr) (ca' : Nat), d = .slice a' (dgs r).length ca' ∧ e = .int .i64 ((j : Int) - 1) ∧ OwnI wr w.heap.size a' ca' (dgs r) ∧ r * r ≤ x ∧ x < (r + 2 ^ j) * (r + 2 ^ j) ∧ j ≤ 2100 ∧ Below w.heap.size w wr)
  case atStart => exact H0.out
  case round =>
    obtain ⟨r, a', ca', rfl, rfl, ho, hlo, hhi, hj, hbw⟩ := hrel
    by_cases h0 : gk = 0
    · subst h0
      have hrr : r = rt x := rt_eq hlo (by simpa using hhi)
      have HO : Hid (OwnI wr w.heap.size a' ca' (dgs r) ∧ Below w.heap.size w wr ∧ R = dgs r) := ⟨ho, hbw, by rw [HR.out, hrr]⟩
      obtain ⟨U, hU⟩ : ∃ U, U = dgs r := ⟨_, rfl⟩
      rw [← hU] at HO ⊢
      clear hlo hhi ho hbw hrr hU H0
      go_wp2
      go_ret
      rw [HO.out.2.2]
      exact ⟨a', ca', rfl, HO.out.1, HO.out.2.1⟩
    · obtain ⟨j, rfl⟩ : ∃ j, gk = j + 1 := ⟨gk - 1, by omega⟩
      have hjI : (((j + 1 : Nat) : Int) - 1) = (j : Int) := by omega
      rw [hjI]
      have hrl := root_len hlo HX.out
      have hpl : (dgs (2 ^ j)).length ≤ 256 := Nat.le_trans (pow_len j) (by omega)
      have hml := sum_len hrl hpl
      have C1 : Hid (Calls Tryd.prog 88 #[.int .i64 (j : Int)] wr fun e w' => ∃ r cr, e = .returned (.slice r (dgs (2 ^ j)).length cr) ∧ OwnI w' wr.heap.size r cr (dgs (2 ^ j)) ∧ Below wr.heap.size wr w') := l1Pow2_any j wr (by omega)
      have C2 : Hid (∀ W b cb, Sl W a' (dgs r) → Sl W b (dgs (2 ^ j)) → Calls Tryd.prog 50 #[.slice a' (dgs r).length ca', .slice b (dgs (2 ^ j)).length cb] W fun e w' => ∃ s cs, e = .returned (.slice s (dgs (r + 2 ^ j)).length cs) ∧ OwnI w' W.heap.size s cs (dgs (r + 2 ^ j)) ∧ Below W.heap.size W w') := fun W b cb h1 h2 => l1Add_any a' b ca' cb r (2 ^ j) W h1 h2 (by omega) (by omega)
      obtain ⟨p, hp⟩ : ∃ p, p = 2 ^ j := ⟨_, rfl⟩
      have hhi' : x < (r + 2 * p) * (r + 2 * p) := by rw [Nat.pow_succ, Nat.mul_comm (2 ^ j), ← hp] at hhi; exact hhi
      rw [← hp] at C1 C2 hml
      obtain ⟨M, hM⟩ : ∃ M, M = r + p := ⟨_, rfl⟩
      rw [← hM] at C2 hml
      have C3 : Hid (∀ W b cb, Sl W b (dgs M) → Calls Tryd.prog 41 #[.slice b (dgs M).length cb, .slice b (dgs M).length cb] W fun e w' => ∃ s cs, e = .returned (.slice s (dgs (M * M)).length cs) ∧ OwnI w' W.heap.size s cs (dgs (M * M)) ∧ Below W.heap.size W w') := fun W b cb h1 => l1Mul_any b b cb cb M M W h1 h1 (by omega) (by omega)
      have hmm : (dgs (M * M)).length ≤ 1048576 := Nat.le_trans (mul_len hml hml) (by decide)
      have C4 : Hid (∀ W b cb, Sl W b (dgs (M * M)) → Sl W a Z → Calls Tryd.prog 66 #[.slice b (dgs (M * M)).length cb, .slice a Z.length ca] W fun e w' => e = .returned (.int .i64 (sg ((M * M : Nat) : Int) (x : Int))) ∧ ∃ q, w' = W.drewN q) := fun W b cb h1 h2 => by
        have h := l1Cmp_any b a cb ca (dgs (M * M)) Z W h1 h2 hmm (by rw [HZ.out]; exact Nat.le_trans HX.out (by decide))
        rw [HZ.out, cmp_dgs] at h
        rw [HZ.out]
        exact h
      obtain ⟨c, hc⟩ : ∃ c, c = sg ((M * M : Nat) : Int) (x : Int) := ⟨_, rfl⟩
      rw [← hc] at C4
      obtain ⟨MM, hMM⟩ : ∃ MM, MM = dgs (M * M) := ⟨_, rfl⟩
      rw [← hMM] at C3 C4
      obtain ⟨P, hP⟩ : ∃ P, P = dgs p := ⟨_, rfl⟩
      rw [← hP] at C1 C2
      obtain ⟨DM, hDM⟩ : ∃ DM, DM = dgs M := ⟨_, rfl⟩
      rw [← hDM] at C2 C3
      obtain ⟨U, hU⟩ : ∃ U, U = dgs r := ⟨_, rfl⟩
      rw [← hU] at C2 ho ⊢
      have HU : Hid (U = dgs r ∧ DM = dgs M ∧ M = r + p ∧ p = 2 ^ j ∧ r * r ≤ x ∧ x < (r + 2 * p) * (r + 2 * p) ∧ j ≤ 2100) := ⟨hU, hDM, hM, hp, hlo, hhi', by omega⟩
      have HO : Hid (OwnI wr w.heap.size a' ca' U ∧ Below w.heap.size w wr) := ⟨ho, hbw⟩
      have hcase : (c ≤ 0 ∧ M * M ≤ x) ∨ (0 < c ∧ x < M * M) := by
        rcases Nat.lt_or_ge x (M * M) with h | h
        · right
          exact ⟨by rw [hc, sg_gt (by omega)]; decide, h⟩
        · left
          exact ⟨by rw [hc]; exact sg_le (by omega), h⟩
      clear hc hMM hP hDM hU hM hp hlo hhi hhi' ho hbw hrl hpl hml hmm H0 h0 hjI
      have hj0 : (0 : Int) ≤ (j : Int) := by omega
      rcases hcase with ⟨hc, hle⟩ | ⟨hc, hle⟩
      all_goals
        have HL : Hid _ := hle
        clear hle
        go_wp2_with fail
        refine Calls.mono C1.out ?_
        rintro e w2 ⟨r2, c2, rfl, o2, b2⟩
        go_wp2_with fail
        refine Calls.mono (C2.out _ _ _ (HO.out.1.sl.keep b2) o2.sl) ?_
        rintro e w3 ⟨r3, c3, rfl, o3, b3⟩
        have b13 := b2.trans (b3.mono b2.size)
        have o3' := o3.mono b2.size
        clear o2 b2 b3 o3
        go_wp2_with fail
        refine Calls.mono (C3.out _ _ _ o3'.sl) ?_
        rintro e w4 ⟨r4, c4, rfl, o4, b4⟩
        have b14 := b13.trans (b4.mono b13.size)
        have o34 := o3'.keep b4
        have hB4' : Below w.heap.size w w4 := HO.out.2.trans (b14.mono HO.out.2.size)
        have o34' := o34.mono HO.out.2.size
        have oU := HO.out.1.keep b14
        clear b13 o3' b4
        go_wp2_with fail
        refine Calls.mono (C4.out _ _ _ o4.sl (HA.out _ hB4')) ?_
        rintro e w5 ⟨rfl, q, hq⟩
        have b45 : Below w4.heap.size w4 w5 := by rw [hq]; exact below_dN (Below.refl _ _) q
        have HF : Hid (OwnI w5 w.heap.size a' ca' U ∧ OwnI w5 w.heap.size r3 c3 DM ∧ Below w.heap.size w w5) := ⟨oU.keep b45, o34'.keep b45, hB4'.trans (b45.mono hB4'.size)⟩
        clear oU o34' hB4' o34 o4 b14 hq b45 C1 C2 C3 C4
        go_wp2
        go_roundg j
        case measure => omega
        case rel =>
          obtain ⟨h1, h2, h3, h4, h5, h6, h7⟩ := HU.out
          obtain ⟨f1, f2, f3⟩ := HF.out
          first
            | exact ⟨M, r3, c3, by rw [h2], rfl, by rw [← h2]; exact f2, HL.out, by rw [← h4, h3]; exact bit_yes h6, h7, f3⟩
            | exact ⟨r, a', ca', by rw [h1], rfl, by rw [← h1]; exact f1, h5, by rw [← h4, ← h3]; exact HL.out, h7, f3⟩
end Go.Proofs.YthokphoojmpajagDoor
