/- The contracts of spec.l1Bits, spec.NatBits, math/bits.Len64 and Len (below 2^16), digits.bitCount and impl.NatBits: how many bits a number has; they leave the world as it is. -/
import Derived.Test.YthokphoojmpajagDoorProg
import Derived.Test.YthokphoojmpajagDoorBase
import Derived.Test.YthokphoojmpajagDoorGMark
import Derived.WalkKit
import Derived.Outline
import Derived.WalkSpells
import Derived.Lib.BitFns
namespace Go.Proofs.YthokphoojmpajagDoor
open Go.RowKit Go.Proofs.Pin

/-- The bits of the number whose digits are zs. -/
def bitsOf (zs : List Int) : Int := if zs.length = 0 then 0 else 16 * ((zs.length : Int) - 1) + (Lib.bitLen (zs.getD (zs.length - 1) 0).toNat : Int)

theorem bitsOf_nil {zs : List Int} (h : zs.length = 0) : bitsOf zs = 0 := by simp [bitsOf, h]
theorem bitsOf_some {zs : List Int} {n : Nat} {z : Int} (hn : n = zs.length) (h : n ≠ 0) (hz : z = zs.getD (zs.length - 1) 0) : bitsOf zs = 16 * ((n : Int) - 1) + (Lib.bitLen z.toNat : Int) := by
  subst hn
  simp [bitsOf, h, hz]

theorem bitLen_dig {z : Int} (h1 : z ≤ 65535) : Lib.bitLen z.toNat ≤ 16 := Lib.bitLen_le _ 16 (by omega) (by omega)

set_option maxRecDepth 20000 in
set_option maxHeartbeats 400000 in
theorem l1Bits_any (a : Option Addr) (cap : Nat) (zs : List Int) (w : World) (h : Sl w a zs) (hl : zs.length ≤ 256) (hd : ∀ i, i < zs.length → dig (zs.getD i 0) = true) :
    Calls Tryd.prog 87 #[.slice a zs.length cap] w fun e w' => e = .returned (.int .i64 (bitsOf zs)) ∧ w' = w := by
  obtain ⟨n, hn⟩ : ∃ n, n = zs.length := ⟨_, rfl⟩
  by_cases h0 : n = 0
  · have e0 : bitsOf zs = 0 := bitsOf_nil (by omega)
    rw [← hn, e0, h0]
    clear e0
    go_enter Tryd.func87, Tryd.ntmps87
    go_wp2
    go_ret
    exact ⟨rfl, rfl⟩
  · rcases h with rfl | ⟨b, off, rfl, _, hc⟩
    · exact absurd hn h0
    obtain ⟨z, hz⟩ : ∃ z, z = zs.getD (zs.length - 1) 0 := ⟨_, rfl⟩
    have hcell := hc (zs.length - 1) (by omega)
    have hdz := hd (zs.length - 1) (by omega)
    rw [bitsOf_some hn h0 hz]
    rw [← hz] at hcell hdz
    rw [← hn] at hcell ⊢
    have hz0 : 0 ≤ z := by simp [dig] at hdz; omega
    have hz1 : z < 65536 := by simp [dig] at hdz; omega
    have hn0 : ((n : Int) == 0) = false := by simp; omega
    have hn1 : (0 : Int) < n := by omega
    have hn2 : n ≤ 256 := by omega
    have hb := bitLen_dig (z := z) (by omega)
    clear hc hd hdz hz hn hl
    go_enter Tryd.func87, Tryd.ntmps87
    go_wp2
    go_loop [3, 4] (fun t d => ∃ k : Nat, k ≤ z.toNat ∧ d = .int .i64 k ∧ ∃ m : Int, t = .int .i64 m ∧ 0 ≤ m ∧ m + Lib.bitLen k = 16 * ((n : Int) - 1) + Lib.bitLen z.toNat) (fun _ d => (intOf d).toNat)
    case atStart => exact ⟨z.toNat, Nat.le_refl _, by go_num, _, rfl, by omega, rfl⟩
    case round =>
      obtain ⟨k, hk, rfl, m, rfl, hm0, hm⟩ := hrel
      have HM : Hid (m + Lib.bitLen k = 16 * ((n : Int) - 1) + Lib.bitLen z.toNat) := hm
      have hm1 : m ≤ 4096 := by omega
      clear hm
      by_cases hk0 : 0 < k
      · have hk0' : (0 : Int) < k := by omega
        have hk1 : (k : Int) < 65536 := by omega
        go_wp2
        go_round
        case rel =>
          have e := Lib.bitLen_half k (by omega) (by omega)
          have h := HM.out
          exact ⟨k / 2, by omega, by go_num, m + 1, rfl, by omega, by omega⟩
        case measure => simp [intOf]; omega
      · have hk0' : k = 0 := by omega
        subst hk0'
        have hmm : m = 16 * ((n : Int) - 1) + Lib.bitLen z.toNat := by
          have h := HM.out
          have e : Lib.bitLen 0 = 0 := by decide
          omega
        have HE : Hid (m = 16 * ((n : Int) - 1) + Lib.bitLen z.toNat) := hmm
        clear hmm
        go_wp2
        go_ret
        exact ⟨ret_int HE.out, rfl⟩

set_option maxHeartbeats 1000000 in
set_option maxRecDepth 100000 in
theorem len64_dig (x : Int) (w : World) (h0 : 0 ≤ x) (h1 : x ≤ 65535) :
    Calls Tryd.prog 109 #[.int .u64 x] w fun e w' => e = .returned (.int .i64 (Lib.bitLen x.toNat)) ∧ w' = w := by
  by_cases hx : x ≤ 255
  · have l := Lib.bitLen_le8' x (by omega) (by omega)
    have e := Lib.len8_of x (by omega) (by omega)
    have HE : Hid (Lib.len8 x = (Lib.bitLen x.toNat : Int)) := e
    have l0 : 0 ≤ Lib.len8 x := by omega
    have l1 : Lib.len8 x ≤ 8 := by omega
    clear e l
    go_enter Tryd.func109, Tryd.ntmps109
    go_wp2
    go_ret
    exact ⟨ret_int HE.out, rfl⟩
  · have h2 : x / 256 ≤ 255 := by omega
    have h3 : 0 ≤ x / 256 := by omega
    have l := Lib.bitLen_le8' (x / 256) (by omega) (by omega)
    have e := Lib.len8_of (x / 256) (by omega) (by omega)
    have HE : Hid (8 + Lib.len8 (x / 256) = (Lib.bitLen x.toNat : Int)) := by
      have s := Lib.bitLen_shift8 x.toNat (by omega) (by omega)
      have e2 : (x / 256).toNat = x.toNat / 256 := by omega
      rw [e2] at e
      show 8 + Lib.len8 (x / 256) = (Lib.bitLen x.toNat : Int)
      omega
    have l0 : 0 ≤ Lib.len8 (x / 256) := by omega
    have l1 : Lib.len8 (x / 256) ≤ 8 := by omega
    clear e l
    go_enter Tryd.func109, Tryd.ntmps109
    go_wp2
    go_ret
    exact ⟨ret_int HE.out, rfl⟩

set_option maxRecDepth 20000 in
theorem len_dig (x : Int) (w : World) (h0 : 0 ≤ x) (h1 : x ≤ 65535) :
    Calls Tryd.prog 106 #[.int .u64 x] w fun e w' => e = .returned (.int .i64 (Lib.bitLen x.toNat)) ∧ w' = w := by
  go_enter Tryd.func106, Tryd.ntmps106
  go_wp2_with (go_at_call 109; refine (len64_dig x _ h0 h1).mono ?_; rintro e w' ⟨rfl, rfl⟩)
  go_ret
  exact ⟨rfl, rfl⟩

set_option maxRecDepth 20000 in
set_option maxHeartbeats 400000 in
theorem bitCount_any (a : Option Addr) (cap : Nat) (zs : List Int) (w : World) (h : Sl w a zs) (hl : zs.length ≤ 256) (hd : ∀ i, i < zs.length → dig (zs.getD i 0) = true) :
    Calls Tryd.prog 99 #[.slice a zs.length cap] w fun e w' => e = .returned (.int .i64 (bitsOf zs)) ∧ w' = w := by
  obtain ⟨n, hn⟩ : ∃ n, n = zs.length := ⟨_, rfl⟩
  by_cases h0 : n = 0
  · have e0 : bitsOf zs = 0 := bitsOf_nil (by omega)
    rw [← hn, e0, h0]
    clear e0
    go_enter Tryd.func99, Tryd.ntmps99
    go_wp2
    go_ret
    exact ⟨rfl, rfl⟩
  · rcases h with rfl | ⟨b, off, rfl, _, hc⟩
    · exact absurd hn h0
    obtain ⟨z, hz⟩ : ∃ z, z = zs.getD (zs.length - 1) 0 := ⟨_, rfl⟩
    have hcell := hc (zs.length - 1) (by omega)
    have hdz := hd (zs.length - 1) (by omega)
    rw [bitsOf_some hn h0 hz]
    rw [← hz] at hcell hdz
    rw [← hn] at hcell ⊢
    have hz0 : 0 ≤ z := by simp [dig] at hdz; omega
    have hz1 : z < 65536 := by simp [dig] at hdz; omega
    have hn0 : ((n : Int) == 0) = false := by simp; omega
    have hn1 : (0 : Int) < n := by omega
    have hn2 : n ≤ 256 := by omega
    have hb := bitLen_dig (z := z) (by omega)
    clear hc hd hdz hz hn hl
    go_enter Tryd.func99, Tryd.ntmps99
    go_wp2_with (go_at_call 106; refine (len_dig z _ (by omega) (by omega)).mono ?_; rintro e w' ⟨rfl, rfl⟩)
    go_ret
    exact ⟨ret_int (by omega), rfl⟩

def bitsAns (zs : List Int) : Int := if okB zs = true then bitsOf zs else -1

end Go.Proofs.YthokphoojmpajagDoor
