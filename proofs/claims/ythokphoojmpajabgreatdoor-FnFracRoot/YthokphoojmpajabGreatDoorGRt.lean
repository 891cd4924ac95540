/- The contracts of spec.l1Bits, spec.NatBits, math/bits.Len64 and Len (below 2^16), digits.bitCount and impl.NatBits: how many bits a number has; they leave the world as it is. The arithmetic of the square root, down: bit by bit, and by Newton's way from above; no Go text in sight. The contract of spec.l1Pow2: the digits of a power of two. The contract of spec.l1Root: the digits of the square root, down, bit by bit. -/
import Derived.Test.YthokphoojmpajabGreatDoorProg
import Derived.Test.YthokphoojmpajabGreatDoorBase
import Derived.Test.YthokphoojmpajabGreatDoorGMark
import Derived.WalkKit
import Derived.Outline
import Derived.WalkSpells
import Derived.Lib.BitFns
import Derived.Test.YthokphoojmpajabGreatDoorGCmpN
import Derived.Test.YthokphoojmpajabGreatDoorGAr
import Derived.Test.YthokphoojmpajabGreatDoorGShl
import Derived.Test.YthokphoojmpajabGreatDoorGSA
import Derived.Test.YthokphoojmpajabGreatDoorMul
import Derived.Test.YthokphoojmpajabGreatDoorCmp
import Derived.Deep.LoopGhost
namespace Go.Proofs.YthokphoojmpajabGreatDoor
open Go.RowKit Go.Proofs.Pin

/-- The bits of the number whose digits are zs. -/
def bitsOf (zs : List Int) : Int := if zs.length = 0 then 0 else 16 * ((zs.length : Int) - 1) + (Lib.bitLen (zs.getD (zs.length - 1) 0).toNat : Int)

theorem bitsOf_nil {zs : List Int} (h : zs.length = 0) : bitsOf zs = 0 := by simp [bitsOf, h]
theorem bitsOf_some {zs : List Int} {n : Nat} {z : Int} (hn : n = zs.length) (h : n ≠ 0) (hz : z = zs.getD (zs.length - 1) 0) : bitsOf zs = 16 * ((n : Int) - 1) + (Lib.bitLen z.toNat : Int) := by
  subst hn
  simp [bitsOf, h, hz]

theorem bitLen_dig {z : Int} (h1 : z ≤ 65535) : Lib.bitLen z.toNat ≤ 16 := Lib.bitLen_le _ 16 (by omega) (by omega)

set_option maxRecDepth 20000 in
set_option maxHeartbeats 400000 in
theorem l1Bits_any (a : Option Addr) (cap : Nat) (zs : List Int) (w : World) (h : Sl w a zs) (hl : zs.length ≤ 256) (hd : ∀ i, i < zs.length → dig (zs.getD i 0) = true) :
    Calls Tryz.prog 86 #[.slice a zs.length cap] w fun e w' => e = .returned (.int .i64 (bitsOf zs)) ∧ w' = w := by
  obtain ⟨n, hn⟩ : ∃ n, n = zs.length := ⟨_, rfl⟩
  by_cases h0 : n = 0
  · have e0 : bitsOf zs = 0 := bitsOf_nil (by omega)
    rw [← hn, e0, h0]
    clear e0
    go_enter Tryz.func86, Tryz.ntmps86
    go_wp2
    go_ret
    exact ⟨rfl, rfl⟩
  · rcases h with rfl | ⟨b, off, rfl, _, hc⟩
    · exact absurd hn h0
    obtain ⟨z, hz⟩ : ∃ z, z = zs.getD (zs.length - 1) 0 := ⟨_, rfl⟩
    have hcell := hc (zs.length - 1) (by omega)
    have hdz := hd (zs.length - 1) (by omega)
    rw [bitsOf_some hn h0 hz]
    rw [← hz] at hcell hdz
    rw [← hn] at hcell ⊢
    have hz0 : 0 ≤ z := by simp [dig] at hdz; omega
    have hz1 : z < 65536 := by simp [dig] at hdz; omega
    have hn0 : ((n : Int) == 0) = false := by simp; omega
    have hn1 : (0 : Int) < n := by omega
    have hn2 : n ≤ 256 := by omega
    have hb := bitLen_dig (z := z) (by omega)
    clear hc hd hdz hz hn hl
    go_enter Tryz.func86, Tryz.ntmps86
    go_wp2
    go_loop [3, 4] (fun t d => ∃ k : Nat, k ≤ z.toNat ∧ d = .int .i64 k ∧ ∃ m : Int, t = .int .i64 m ∧ 0 ≤ m ∧ m + Lib.bitLen k = 16 * ((n : Int) - 1) + Lib.bitLen z.toNat) (fun _ d => (intOf d).toNat)
    case atStart => exact ⟨z.toNat, Nat.le_refl _, by go_num, _, rfl, by omega, rfl⟩
    case round =>
      obtain ⟨k, hk, rfl, m, rfl, hm0, hm⟩ := hrel
      have HM : Hid (m + Lib.bitLen k = 16 * ((n : Int) - 1) + Lib.bitLen z.toNat) := hm
      have hm1 : m ≤ 4096 := by omega
      clear hm
      by_cases hk0 : 0 < k
      · have hk0' : (0 : Int) < k := by omega
        have hk1 : (k : Int) < 65536 := by omega
        go_wp2
        go_round
        case rel =>
          have e := Lib.bitLen_half k (by omega) (by omega)
          have h := HM.out
          exact ⟨k / 2, by omega, by go_num, m + 1, rfl, by omega, by omega⟩
        case measure => simp [intOf]; omega
      · have hk0' : k = 0 := by omega
        subst hk0'
        have hmm : m = 16 * ((n : Int) - 1) + Lib.bitLen z.toNat := by
          have h := HM.out
          have e : Lib.bitLen 0 = 0 := by decide
          omega
        have HE : Hid (m = 16 * ((n : Int) - 1) + Lib.bitLen z.toNat) := hmm
        clear hmm
        go_wp2
        go_ret
        exact ⟨ret_int HE.out, rfl⟩

set_option maxHeartbeats 1000000 in
set_option maxRecDepth 100000 in
theorem len64_dig (x : Int) (w : World) (h0 : 0 ≤ x) (h1 : x ≤ 65535) :
    Calls Tryz.prog 126 #[.int .u64 x] w fun e w' => e = .returned (.int .i64 (Lib.bitLen x.toNat)) ∧ w' = w := by
  by_cases hx : x ≤ 255
  · have l := Lib.bitLen_le8' x (by omega) (by omega)
    have e := Lib.len8_of x (by omega) (by omega)
    have HE : Hid (Lib.len8 x = (Lib.bitLen x.toNat : Int)) := e
    have l0 : 0 ≤ Lib.len8 x := by omega
    have l1 : Lib.len8 x ≤ 8 := by omega
    clear e l
    go_enter Tryz.func126, Tryz.ntmps126
    go_wp2
    go_ret
    exact ⟨ret_int HE.out, rfl⟩
  · have h2 : x / 256 ≤ 255 := by omega
    have h3 : 0 ≤ x / 256 := by omega
    have l := Lib.bitLen_le8' (x / 256) (by omega) (by omega)
    have e := Lib.len8_of (x / 256) (by omega) (by omega)
    have HE : Hid (8 + Lib.len8 (x / 256) = (Lib.bitLen x.toNat : Int)) := by
      have s := Lib.bitLen_shift8 x.toNat (by omega) (by omega)
      have e2 : (x / 256).toNat = x.toNat / 256 := by omega
      rw [e2] at e
      show 8 + Lib.len8 (x / 256) = (Lib.bitLen x.toNat : Int)
      omega
    have l0 : 0 ≤ Lib.len8 (x / 256) := by omega
    have l1 : Lib.len8 (x / 256) ≤ 8 := by omega
    clear e l
    go_enter Tryz.func126, Tryz.ntmps126
    go_wp2
    go_ret
    exact ⟨ret_int HE.out, rfl⟩

set_option maxRecDepth 20000 in
theorem len_dig (x : Int) (w : World) (h0 : 0 ≤ x) (h1 : x ≤ 65535) :
    Calls Tryz.prog 118 #[.int .u64 x] w fun e w' => e = .returned (.int .i64 (Lib.bitLen x.toNat)) ∧ w' = w := by
  go_enter Tryz.func118, Tryz.ntmps118
  go_wp2_with (go_at_call 126; refine (len64_dig x _ h0 h1).mono ?_; rintro e w' ⟨rfl, rfl⟩)
  go_ret
  exact ⟨rfl, rfl⟩

set_option maxRecDepth 20000 in
set_option maxHeartbeats 400000 in
theorem bitCount_any (a : Option Addr) (cap : Nat) (zs : List Int) (w : World) (h : Sl w a zs) (hl : zs.length ≤ 256) (hd : ∀ i, i < zs.length → dig (zs.getD i 0) = true) :
    Calls Tryz.prog 107 #[.slice a zs.length cap] w fun e w' => e = .returned (.int .i64 (bitsOf zs)) ∧ w' = w := by
  obtain ⟨n, hn⟩ : ∃ n, n = zs.length := ⟨_, rfl⟩
  by_cases h0 : n = 0
  · have e0 : bitsOf zs = 0 := bitsOf_nil (by omega)
    rw [← hn, e0, h0]
    clear e0
    go_enter Tryz.func107, Tryz.ntmps107
    go_wp2
    go_ret
    exact ⟨rfl, rfl⟩
  · rcases h with rfl | ⟨b, off, rfl, _, hc⟩
    · exact absurd hn h0
    obtain ⟨z, hz⟩ : ∃ z, z = zs.getD (zs.length - 1) 0 := ⟨_, rfl⟩
    have hcell := hc (zs.length - 1) (by omega)
    have hdz := hd (zs.length - 1) (by omega)
    rw [bitsOf_some hn h0 hz]
    rw [← hz] at hcell hdz
    rw [← hn] at hcell ⊢
    have hz0 : 0 ≤ z := by simp [dig] at hdz; omega
    have hz1 : z < 65536 := by simp [dig] at hdz; omega
    have hn0 : ((n : Int) == 0) = false := by simp; omega
    have hn1 : (0 : Int) < n := by omega
    have hn2 : n ≤ 256 := by omega
    have hb := bitLen_dig (z := z) (by omega)
    clear hc hd hdz hz hn hl
    go_enter Tryz.func107, Tryz.ntmps107
    go_wp2_with (go_at_call 118; refine (len_dig z _ (by omega) (by omega)).mono ?_; rintro e w' ⟨rfl, rfl⟩)
    go_ret
    exact ⟨ret_int (by omega), rfl⟩

def bitsAns (zs : List Int) : Int := if okB zs = true then bitsOf zs else -1

end Go.Proofs.YthokphoojmpajabGreatDoor

namespace Go.Proofs.YthokphoojmpajabGreatDoor
open Go.RowKit Go.Proofs.Pin

def rtF (n : Nat) : Nat → Nat
  | 0 => 0
  | k + 1 => if (k + 1) * (k + 1) ≤ n then k + 1 else rtF n k
/-- The square root, down. -/
def rt (n : Nat) : Nat := rtF n n
theorem rtF_ok (n : Nat) : ∀ k, n < (k + 1) * (k + 1) → rtF n k * rtF n k ≤ n ∧ n < (rtF n k + 1) * (rtF n k + 1)
  | 0, h => by
    simp only [rtF]
    omega
  | k + 1, h => by
    simp only [rtF]
    split
    · rename_i h1
      exact ⟨h1, h⟩
    · rename_i h1
      exact rtF_ok n k (by omega)
theorem rt_ok (n : Nat) : rt n * rt n ≤ n ∧ n < (rt n + 1) * (rt n + 1) := by
  refine rtF_ok n n ?_
  rw [Nat.add_mul, Nat.mul_add]
  omega
theorem sq_lt {r s : Nat} (h : r * r < s * s) : r < s := by
  apply Nat.lt_of_not_le
  intro k
  have := Nat.mul_le_mul k k
  omega
theorem rt_eq {n r : Nat} (h1 : r * r ≤ n) (h2 : n < (r + 1) * (r + 1)) : r = rt n := by
  obtain ⟨k1, k2⟩ := rt_ok n
  have a := sq_lt (Nat.lt_of_le_of_lt h1 k2)
  have b := sq_lt (Nat.lt_of_le_of_lt k1 h2)
  omega
theorem rt_le {n r : Nat} (h : r * r ≤ n) : r ≤ rt n := by
  have := sq_lt (Nat.lt_of_le_of_lt h (rt_ok n).2)
  omega
theorem rt_lt {n g : Nat} (h : n < g * g) : rt n < g := sq_lt (Nat.lt_of_le_of_lt (rt_ok n).1 h)
theorem rt_pos {n : Nat} (h : n ≠ 0) : rt n ≠ 0 := by
  intro e
  have := (rt_ok n).2
  rw [e] at this
  omega
theorem rt_self (n : Nat) : rt n ≤ n := by
  rcases Nat.eq_zero_or_pos (rt n) with h | h
  · omega
  · have := (rt_ok n).1
    have := Nat.le_mul_of_pos_left (rt n) h
    omega

/-- Newton's next guess is not below the root. -/
theorem newton_ge {n g : Nat} (hg : rt n ≤ g) (h0 : g ≠ 0) : rt n ≤ (g + n / g) / 2 := by
  obtain ⟨k1, _⟩ := rt_ok n
  generalize rt n = r at *
  have hq : n < g * (n / g + 1) := by
    have := Nat.lt_mul_div_succ n (Nat.pos_of_ne_zero h0)
    exact this
  generalize n / g = q at *
  rcases Nat.lt_or_ge (g + q) (2 * r) with h | h
  · exfalso
    obtain ⟨t, rfl⟩ : ∃ t, g = r + t := ⟨g - r, by omega⟩
    have h1 : q + 1 + t ≤ r := by omega
    have h2 : (r + t) * (q + 1) = r * (q + 1) + t * (q + 1) := Nat.add_mul _ _ _
    have h3 : t * (q + 1) ≤ r * t := by rw [Nat.mul_comm r t]; exact Nat.mul_le_mul_left t (by omega)
    have h4 : r * (q + 1) + r * t = r * (q + 1 + t) := (Nat.mul_add _ _ _).symm
    have h5 : r * (q + 1 + t) ≤ r * r := Nat.mul_le_mul_left r h1
    omega
  · omega
/-- Where the next guess is not below it the guess is the root. -/
theorem newton_end {n g : Nat} (hg : rt n ≤ g) (h : g ≤ (g + n / g) / 2) : g = rt n := by
  have h1 : g ≤ n / g := by omega
  have h2 : g * g ≤ n := Nat.le_trans (Nat.mul_le_mul_left g h1) (Nat.mul_div_le n g)
  have := rt_le h2
  omega
/-- A bit of the root more. -/
theorem bit_yes {n r p : Nat} (h : n < (r + 2 * p) * (r + 2 * p)) : n < (r + p + p) * (r + p + p) := by rw [Nat.add_assoc, ← Nat.two_mul]; exact h

theorem bitLen_lt : ∀ (k x : Nat), x < 2 ^ k → k ≤ 63 → x < 2 ^ Lib.bitLen x
  | 0, x, h, _ => by
    have : x = 0 := by simpa using h
    subst this
    exact Nat.two_pow_pos _
  | k + 1, x, h, hk => by
    by_cases h0 : x = 0
    · subst h0; exact Nat.two_pow_pos _
    · have h64 : x < 2 ^ 64 := Nat.lt_of_lt_of_le h (Nat.pow_le_pow_right (by decide) (by omega))
      rw [Lib.bitLen_half x h0 h64, Nat.pow_add, Nat.pow_one]
      have := bitLen_lt k (x / 2) (by rw [Nat.pow_succ] at h; omega) (by omega)
      omega

theorem two_16 (k : Nat) : 2 ^ (16 * k) = 65536 ^ k := by rw [Nat.pow_mul]

theorem bits_lt {x : Nat} : (x : Int) < 2 ^ (bitsOf (dgs x)).toNat ∧ 0 ≤ bitsOf (dgs x) ∧ bitsOf (dgs x) ≤ 16 * (dgs x).length := by
  have hd := Dg_dgs x
  have hv := val_dgs x
  generalize dgs x = zs at *
  rcases Nat.eq_zero_or_pos zs.length with h0 | h0
  · rw [bitsOf_nil h0]
    rw [List.length_eq_zero_iff.mp h0] at hv
    simp only [val] at hv
    rw [← hv]
    simp
    omega
  · obtain ⟨n, hn⟩ : ∃ n, zs.length = n + 1 := ⟨zs.length - 1, by omega⟩
    have e : zs.take n ++ [zs.getD n 0] = zs := by
      rw [← take_next (by omega), ← hn, List.take_length]
    have hdz := hd.at n
    have hb : bitsOf zs = 16 * ((n : Nat) : Int) + (Lib.bitLen (zs.getD n 0).toNat : Int) := by
      rw [bitsOf_some (n := n + 1) (z := zs.getD n 0) hn.symm (by omega) (by rw [hn]; rfl)]
      omega
    have hl := bitLen_dig (z := zs.getD n 0) (by omega)
    have hlt := bitLen_lt 16 (zs.getD n 0).toNat (by omega) (by decide)
    have hval : (x : Int) < pw n * (zs.getD n 0 + 1) := by
      have h1 := val_snoc (zs.take n) (zs.getD n 0)
      rw [e, hv, List.length_take, Nat.min_eq_left (by omega)] at h1
      have h2 := val_lt' (hd.take n)
      rw [List.length_take, Nat.min_eq_left (by omega)] at h2
      rw [Int.mul_add, Int.mul_one]
      omega
    rw [hb]
    refine ⟨?_, by omega, by omega⟩
    have e2 : (16 * ((n : Nat) : Int) + (Lib.bitLen (zs.getD n 0).toNat : Int)).toNat = 16 * n + Lib.bitLen (zs.getD n 0).toNat := by omega
    rw [e2]
    have h3 : zs.getD n 0 + 1 ≤ ((2 ^ Lib.bitLen (zs.getD n 0).toNat : Nat) : Int) := by omega
    have h4 : pw n * (zs.getD n 0 + 1) ≤ pw n * ((2 ^ Lib.bitLen (zs.getD n 0).toNat : Nat) : Int) := Int.mul_le_mul_of_nonneg_left h3 (Int.le_of_lt (pw_pos n))
    have h5 : ((2 : Int) ^ (16 * n + Lib.bitLen (zs.getD n 0).toNat)) = pw n * ((2 ^ Lib.bitLen (zs.getD n 0).toNat : Nat) : Int) := by
      rw [Int.pow_add, pw_nat, ← two_16]
      push_cast
      rfl
    rw [h5]
    omega

theorem bits_nat {x : Nat} : x < 2 ^ (bitsOf (dgs x)).toNat := by
  have := (bits_lt (x := x)).1
  exact_mod_cast this

theorem half_sq {x k : Nat} (h : (bitsOf (dgs x)).toNat ≤ 2 * k) : x < 2 ^ k * 2 ^ k := by
  rw [← Nat.pow_add, ← Nat.two_mul]
  exact Nat.lt_of_lt_of_le bits_nat (Nat.pow_le_pow_right (by decide) h)

theorem pow2_split (k : Nat) : 2 ^ (k % 16) * 65536 ^ (k / 16) = 2 ^ k := by
  rw [← two_16, ← Nat.pow_add]
  congr 1
  omega
theorem dgs_one {n : Nat} (h0 : n ≠ 0) (h : n < 65536) : dgs n = [(n : Int)] := by
  rw [dgs_pos h0, Nat.mod_eq_of_lt h, Nat.div_eq_of_lt h, dgs_zero]
theorem pow16_lt (k : Nat) : 2 ^ (k % 16) < 65536 := by
  have : k % 16 ≤ 15 := by omega
  have h := Nat.pow_le_pow_right (n := 2) (by decide) this
  exact Nat.lt_of_le_of_lt h (by decide)
theorem pow_len (k : Nat) : (dgs (2 ^ k)).length ≤ k / 16 + 1 := by
  rw [dgs_len_iff, ← two_16]
  exact Nat.pow_lt_pow_right (by decide) (by omega)
theorem nz_len {v : Nat} (h : v ≠ 0) : 0 < (dgs v).length := by
  rw [dgs_pos h]
  simp
/-- How long a product is. -/
theorem mul_len {x y K L : Nat} (hx : (dgs x).length ≤ K) (hy : (dgs y).length ≤ L) : (dgs (x * y)).length ≤ K + L := by
  rw [dgs_len_iff] at hx hy ⊢
  rw [Nat.pow_add]
  exact Nat.mul_lt_mul_of_lt_of_lt hx hy
/-- How long a sum is. -/
theorem sum_len {x y K : Nat} (hx : (dgs x).length ≤ K) (hy : (dgs y).length ≤ K) : (dgs (x + y)).length ≤ K + 1 := by
  rw [dgs_len_iff] at hx hy ⊢
  rw [Nat.pow_succ]
  omega
end Go.Proofs.YthokphoojmpajabGreatDoor

namespace Go.Proofs.YthokphoojmpajabGreatDoor
open Go.RowKit Go.Proofs.Pin

theorem wrap_small (P : Nat) (h : P < 65536) : wrap64 (P : Int) = (P : Int) := by unfold wrap64; omega
theorem wrap_pow (k : Nat) : wrap64 ((2 : Int) ^ (k % 16)) = ((2 ^ (k % 16) : Nat) : Int) := by
  rw [← wrap_small _ (pow16_lt k)]
  push_cast
  rfl

set_option maxRecDepth 20000 in
theorem l1Pow2_any (k : Nat) (w : World) (hk : k ≤ 5000) :
    Calls Tryz.prog 87 #[.int .i64 (k : Int)] w fun e w' => ∃ r cr, e = .returned (.slice r (dgs (2 ^ k)).length cr) ∧ OwnI w' w.heap.size r cr (dgs (2 ^ k)) ∧ Below w.heap.size w w' := by
  have hp := wrap_pow k
  have hd : dgs (2 ^ (k % 16)) = [((2 ^ (k % 16) : Nat) : Int)] := dgs_one (Nat.ne_of_gt (Nat.two_pow_pos _)) (pow16_lt k)
  obtain ⟨W, hW⟩ : ∃ W, W = w.alloc (.cells #[.int .i64 ((2 ^ (k % 16) : Nat) : Int)] 3) := ⟨_, rfl⟩
  have B0 : Below w.heap.size w W := by rw [hW]; exact (Below.refl _ w).alloc (Nat.le_refl _) _
  have hs : Sl W (some ⟨w.heap.size, 0, none⟩) (dgs (2 ^ (k % 16))) := by
    rw [hd, hW]
    exact (own_of_block (base := w.heap.size) (zs := [((2 ^ (k % 16) : Nat) : Int)]) (World.alloc_heap_new w _) (Nat.le_refl _) (by simp [maxLen])).sl
  have C := l1Shl_any (some ⟨w.heap.size, 0, none⟩) 1 (2 ^ (k % 16)) (k / 16) W hs (by rw [hd]; simp) (by omega)
  rw [pow2_split, show (dgs (2 ^ (k % 16))).length = 1 by rw [hd]; rfl, show ((k / 16 : Nat) : Int) = (k : Int) / 16 by omega] at C
  have CH : Hid _ := C
  obtain ⟨D, hD⟩ : ∃ D, D = dgs (2 ^ k) := ⟨_, rfl⟩
  rw [← hD] at CH ⊢
  have HP : Hid (wrap64 ((2 : Int) ^ (k % 16)) = ((2 ^ (k % 16) : Nat) : Int)) := hp
  clear C hs hd hp hD
  go_enter Tryz.func87, Tryz.ntmps87
  go_wp2_with fail
  rw [HP.out, ← hW]
  refine Calls.mono CH.out ?_
  rintro e w2 ⟨r, cr, rfl, ho, hb⟩
  have ho2 := ho.mono B0.size
  have hb2 := B0.trans (hb.mono B0.size)
  clear ho hb hW B0
  go_wp2
  go_ret
  exact ⟨r, cr, rfl, ho2, hb2⟩
end Go.Proofs.YthokphoojmpajabGreatDoor

namespace Go.Proofs.YthokphoojmpajabGreatDoor
open Go.RowKit Go.Proofs.Pin

theorem root_len {r x : Nat} (h : r * r ≤ x) (hx : (dgs x).length ≤ 256) : (dgs r).length ≤ 256 := by
  refine Nat.le_trans (dgs_len_le ?_) hx
  rcases Nat.eq_zero_or_pos r with h0 | h0
  · omega
  · have := Nat.le_mul_of_pos_left r h0
    omega
theorem sg_le {x y : Int} (h : x ≤ y) : sg x y ≤ 0 := by
  rcases Int.lt_or_eq_of_le h with h1 | h1
  · rw [sg_lt h1]; decide
  · rw [sg_eq h1]; decide

set_option maxRecDepth 20000 in
set_option maxHeartbeats 1600000 in
theorem l1Root_any (a : Option Addr) (ca : Nat) (x : Nat) (w : World) (ha : Sl w a (dgs x)) (hx : (dgs x).length ≤ 256) :
    Calls Tryz.prog 55 #[.slice a (dgs x).length ca] w fun e w' => ∃ r cr, e = .returned (.slice r (dgs (rt x)).length cr) ∧ OwnI w' w.heap.size r cr (dgs (rt x)) ∧ Below w.heap.size w w' := by
  obtain ⟨hb1, hb2, hb3⟩ := bits_lt (x := x)
  obtain ⟨B, hB⟩ : ∃ B : Nat, bitsOf (dgs x) = (B : Int) := ⟨(bitsOf (dgs x)).toNat, by omega⟩
  have hB4 : B ≤ 4096 := by omega
  have CB : Hid (Calls Tryz.prog 86 #[.slice a (dgs x).length ca] w fun e w' => e = .returned (.int .i64 (B : Int)) ∧ w = w') := by
    have h := l1Bits_any a ca (dgs x) w ha hx (fun i hi => by have := (Dg_dgs x).at i; exact dig_yes this.1 this.2)
    rw [hB] at h
    exact h.mono fun e w' h => ⟨h.1, h.2.symm⟩
  have hst : x < 2 ^ ((B + 1) / 2 + 1) * 2 ^ ((B + 1) / 2 + 1) := half_sq (by rw [hB, Int.toNat_natCast]; omega)
  obtain ⟨K, hK⟩ : ∃ K, K = (B + 1) / 2 := ⟨_, rfl⟩
  have hKI : ((B : Int) + 1) / 2 = (K : Int) := by omega
  have hK2 : K ≤ 2048 := by omega
  rw [← hK] at hst
  have H0 : Hid (∃ (r : Nat) (a' : Option Addr) (ca' : Nat), Value.slice none 0 0 = .slice a' (dgs r).length ca' ∧ Value.int .i64 (((B : Int) + 1) / 2) = .int .i64 (((K + 1 : Nat) : Int) - 1) ∧ OwnI w w.heap.size a' ca' (dgs r) ∧ r * r ≤ x ∧ x < (r + 2 ^ (K + 1)) * (r + 2 ^ (K + 1)) ∧ K + 1 ≤ 2100 ∧ Below w.heap.size w w) :=
    ⟨0, none, 0, rfl, by congr 1; omega, OwnI.nil _ _, by omega, by rw [Nat.zero_add]; exact hst, by omega, Below.refl _ _⟩
  have HX : Hid ((dgs x).length ≤ 256) := hx
  have HA : Hid (∀ W, Below w.heap.size w W → Sl W a (dgs x)) := fun W h => ha.keep h
  obtain ⟨Z, hZ⟩ : ∃ Z, Z = dgs x := ⟨_, rfl⟩
  have HZ : Hid (Z = dgs x) := hZ
  rw [← hZ] at CB HA ⊢
  obtain ⟨R, hR⟩ : ∃ R, R = dgs (rt x) := ⟨_, rfl⟩
  have HR : Hid (R = dgs (rt x)) := hR
  rw [← hR]
  clear hb1 hb2 hb3 hB hst hK hKI ha hx hZ hR
  go_enter Tryz.func55, Tryz.ntmps55
  go_wp2_with fail
  refine Calls.mono CB.out ?_
  rintro e w1 ⟨rfl, rfl⟩
  go_wp2_with fail
  go_loopg [3, 4] (K + 1) (fun j d e wr => ∃ (r : Nat) (a' : Option Addr) (ca' : Nat), d = .slice a' (dgs r).length ca' ∧ e = .int .i64 ((j : Int) - 1) ∧ OwnI wr w.heap.size a' ca' (dgs r) ∧ r * r ≤ x ∧ x < (r + 2 ^ j) * (r + 2 ^ j) ∧ j ≤ 2100 ∧ Below w.heap.size w wr)
  case atStart => exact H0.out
  case round =>
    obtain ⟨r, a', ca', rfl, rfl, ho, hlo, hhi, hj, hbw⟩ := hrel
    by_cases h0 : gk = 0
    · subst h0
      have hrr : r = rt x := rt_eq hlo (by simpa using hhi)
      have HO : Hid (OwnI wr w.heap.size a' ca' (dgs r) ∧ Below w.heap.size w wr ∧ R = dgs r) := ⟨ho, hbw, by rw [HR.out, hrr]⟩
      obtain ⟨U, hU⟩ : ∃ U, U = dgs r := ⟨_, rfl⟩
      rw [← hU] at HO ⊢
      clear hlo hhi ho hbw hrr hU H0
      go_wp2
      go_ret
      rw [HO.out.2.2]
      exact ⟨a', ca', rfl, HO.out.1, HO.out.2.1⟩
    · obtain ⟨j, rfl⟩ : ∃ j, gk = j + 1 := ⟨gk - 1, by omega⟩
      have hjI : (((j + 1 : Nat) : Int) - 1) = (j : Int) := by omega
      rw [hjI]
      have hrl := root_len hlo HX.out
      have hpl : (dgs (2 ^ j)).length ≤ 256 := Nat.le_trans (pow_len j) (by omega)
      have hml := sum_len hrl hpl
      have C1 : Hid (Calls Tryz.prog 87 #[.int .i64 (j : Int)] wr fun e w' => ∃ r cr, e = .returned (.slice r (dgs (2 ^ j)).length cr) ∧ OwnI w' wr.heap.size r cr (dgs (2 ^ j)) ∧ Below wr.heap.size wr w') := l1Pow2_any j wr (by omega)
      have C2 : Hid (∀ W b cb, Sl W a' (dgs r) → Sl W b (dgs (2 ^ j)) → Calls Tryz.prog 74 #[.slice a' (dgs r).length ca', .slice b (dgs (2 ^ j)).length cb] W fun e w' => ∃ s cs, e = .returned (.slice s (dgs (r + 2 ^ j)).length cs) ∧ OwnI w' W.heap.size s cs (dgs (r + 2 ^ j)) ∧ Below W.heap.size W w') := fun W b cb h1 h2 => l1Add_any a' b ca' cb r (2 ^ j) W h1 h2 (by omega) (by omega)
      obtain ⟨p, hp⟩ : ∃ p, p = 2 ^ j := ⟨_, rfl⟩
      have hhi' : x < (r + 2 * p) * (r + 2 * p) := by rw [Nat.pow_succ, Nat.mul_comm (2 ^ j), ← hp] at hhi; exact hhi
      rw [← hp] at C1 C2 hml
      obtain ⟨M, hM⟩ : ∃ M, M = r + p := ⟨_, rfl⟩
      rw [← hM] at C2 hml
      have C3 : Hid (∀ W b cb, Sl W b (dgs M) → Calls Tryz.prog 50 #[.slice b (dgs M).length cb, .slice b (dgs M).length cb] W fun e w' => ∃ s cs, e = .returned (.slice s (dgs (M * M)).length cs) ∧ OwnI w' W.heap.size s cs (dgs (M * M)) ∧ Below W.heap.size W w') := fun W b cb h1 => l1Mul_any b b cb cb M M W h1 h1 (by omega) (by omega)
      have hmm : (dgs (M * M)).length ≤ 1048576 := Nat.le_trans (mul_len hml hml) (by decide)
      have C4 : Hid (∀ W b cb, Sl W b (dgs (M * M)) → Sl W a Z → Calls Tryz.prog 56 #[.slice b (dgs (M * M)).length cb, .slice a Z.length ca] W fun e w' => e = .returned (.int .i64 (sg ((M * M : Nat) : Int) (x : Int))) ∧ ∃ q, w' = W.drewN q) := fun W b cb h1 h2 => by
        have h := l1Cmp_any b a cb ca (dgs (M * M)) Z W h1 h2 hmm (by rw [HZ.out]; exact Nat.le_trans HX.out (by decide))
        rw [HZ.out, cmp_dgs] at h
        rw [HZ.out]
        exact h
      obtain ⟨c, hc⟩ : ∃ c, c = sg ((M * M : Nat) : Int) (x : Int) := ⟨_, rfl⟩
      rw [← hc] at C4
      obtain ⟨MM, hMM⟩ : ∃ MM, MM = dgs (M * M) := ⟨_, rfl⟩
      rw [← hMM] at C3 C4
      obtain ⟨P, hP⟩ : ∃ P, P = dgs p := ⟨_, rfl⟩
      rw [← hP] at C1 C2
      obtain ⟨DM, hDM⟩ : ∃ DM, DM = dgs M := ⟨_, rfl⟩
      rw [← hDM] at C2 C3
      obtain ⟨U, hU⟩ : ∃ U, U = dgs r := ⟨_, rfl⟩
      rw [← hU] at C2 ho ⊢
      have HU : Hid (U = dgs r ∧ DM = dgs M ∧ M = r + p ∧ p = 2 ^ j ∧ r * r ≤ x ∧ x < (r + 2 * p) * (r + 2 * p) ∧ j ≤ 2100) := ⟨hU, hDM, hM, hp, hlo, hhi', by omega⟩
      have HO : Hid (OwnI wr w.heap.size a' ca' U ∧ Below w.heap.size w wr) := ⟨ho, hbw⟩
      have hcase : (c ≤ 0 ∧ M * M ≤ x) ∨ (0 < c ∧ x < M * M) := by
        rcases Nat.lt_or_ge x (M * M) with h | h
        · right
          exact ⟨by rw [hc, sg_gt (by omega)]; decide, h⟩
        · left
          exact ⟨by rw [hc]; exact sg_le (by omega), h⟩
      clear hc hMM hP hDM hU hM hp hlo hhi hhi' ho hbw hrl hpl hml hmm H0 h0 hjI
      have hj0 : (0 : Int) ≤ (j : Int) := by omega
      rcases hcase with ⟨hc, hle⟩ | ⟨hc, hle⟩
      all_goals
        have HL : Hid _ := hle
        clear hle
        go_wp2_with fail
        refine Calls.mono C1.out ?_
        rintro e w2 ⟨r2, c2, rfl, o2, b2⟩
        go_wp2_with fail
        refine Calls.mono (C2.out _ _ _ (HO.out.1.sl.keep b2) o2.sl) ?_
        rintro e w3 ⟨r3, c3, rfl, o3, b3⟩
        have b13 := b2.trans (b3.mono b2.size)
        have o3' := o3.mono b2.size
        clear o2 b2 b3 o3
        go_wp2_with fail
        refine Calls.mono (C3.out _ _ _ o3'.sl) ?_
        rintro e w4 ⟨r4, c4, rfl, o4, b4⟩
        have b14 := b13.trans (b4.mono b13.size)
        have o34 := o3'.keep b4
        have hB4' : Below w.heap.size w w4 := HO.out.2.trans (b14.mono HO.out.2.size)
        have o34' := o34.mono HO.out.2.size
        have oU := HO.out.1.keep b14
        clear b13 o3' b4
        go_wp2_with fail
        refine Calls.mono (C4.out _ _ _ o4.sl (HA.out _ hB4')) ?_
        rintro e w5 ⟨rfl, q, hq⟩
        have b45 : Below w4.heap.size w4 w5 := by rw [hq]; exact below_dN (Below.refl _ _) q
        have HF : Hid (OwnI w5 w.heap.size a' ca' U ∧ OwnI w5 w.heap.size r3 c3 DM ∧ Below w.heap.size w w5) := ⟨oU.keep b45, o34'.keep b45, hB4'.trans (b45.mono hB4'.size)⟩
        clear oU o34' hB4' o34 o4 b14 hq b45 C1 C2 C3 C4
        go_wp2
        go_roundg j
        case measure => omega
        case rel =>
          obtain ⟨h1, h2, h3, h4, h5, h6, h7⟩ := HU.out
          obtain ⟨f1, f2, f3⟩ := HF.out
          first
            | exact ⟨M, r3, c3, by rw [h2], rfl, by rw [← h2]; exact f2, HL.out, by rw [← h4, h3]; exact bit_yes h6, h7, f3⟩
            | exact ⟨r, a', ca', by rw [h1], rfl, by rw [← h1]; exact f1, h5, by rw [← h4, ← h3]; exact HL.out, h7, f3⟩
end Go.Proofs.YthokphoojmpajabGreatDoor
