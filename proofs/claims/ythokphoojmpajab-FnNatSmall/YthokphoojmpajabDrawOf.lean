/- The contract of DrawNatOf: some number of 64 bits. -/
import Derived.Test.YthokphoojmpajabDrawRaw
namespace Go.Proofs.Ythokphoojmpajab
open Go.RowKit Go.Proofs.Pin

theorem pow_step {m i v : Nat} (h : m < 256 ^ i) (hv : v < 256) : m * 256 + v < 256 ^ (i + 1) := by
  rw [Nat.pow_succ]
  have : (m + 1) * 256 ≤ 256 ^ i * 256 := Nat.mul_le_mul_right _ h
  omega
theorem pow_small {m i : Nat} (h : m < 256 ^ i) (hi : i ≤ 8) : m ≤ 18446744073709551615 := by
  have h1 : 256 ^ i ≤ 256 ^ 8 := Nat.pow_le_pow_right (by decide) hi
  have h2 : (256 : Nat) ^ 8 = 18446744073709551616 := by decide
  omega

set_option maxHeartbeats 1000000 in
theorem drawOf_any (a : Option Addr) (len cap : Nat) (bs : List Int) (w : World) (h : SlU w a bs) (hb : ByteL bs) (hl : bs.length = len) (hl2 : len ≤ 1048576) (hcap : len ≤ cap) :
    Calls Try.prog 10 #[.slice a len cap] w fun e w' => ∃ m : Nat, e = .returned (.int .u64 (m : Int)) ∧ m ≤ 18446744073709551615 ∧ Below w.heap.size w w' := by
  have C0 : Hid _ := open_any a len cap bs w h hb hl hl2 hcap
  clear h hb hl
  go_enter Try.func10, Try.ntmps10
  go_wp2_with fail
  refine Calls.mono C0.out ?_
  rintro e w1 ⟨g, lb, bs', rfl, hg, R1, B1⟩
  have CP : Hid (∀ (wr : World) (p' : Nat) (n : Int), Rd wr g a lb cap bs' p' → p' ≤ 1000000 → 1 ≤ n → n ≤ 65536 → Below w.heap.size w wr → Calls Try.prog 20 #[.pointer (some ⟨g, 0, none⟩), .int .i64 n] wr fun e w' => ∃ v : Nat, e = .returned (.int .i64 (v : Int)) ∧ (v : Int) < n ∧ Rd w' g a lb cap bs' (p' + 1) ∧ Below w.heap.size w w') := fun wr p' n hr hp hn1 hn2 hB => (pick_any g a lb cap bs' p' n wr hr hp hn1 hn2).mono fun e w' ⟨v, h1, h2, h3, h4, h5⟩ => ⟨v.toNat, by rw [h1]; congr 2; omega, by omega, h4, hB.grown h5 hB.size (fun k hk => by cases hk; exact hg)⟩
  clear C0
  go_wp2_with fail
  refine Calls.mono (CP.out w1 0 9 R1 (by omega) (by omega) (by omega) B1) ?_
  rintro e w2 ⟨k, rfl, hk, R2, B2⟩
  have H2 : Hid (Rd w2 g a lb cap bs' 1 ∧ Below w.heap.size w w2) := ⟨R2, B2⟩
  clear R1 B1 R2 B2
  go_wp2
  go_loopw [4, 6] (fun v i wr => ∃ (j m : Nat), i = .int .i64 (j : Int) ∧ j ≤ k ∧ v = .int .u64 (m : Int) ∧ m < 256 ^ j ∧ Rd wr g a lb cap bs' (1 + j) ∧ Below w.heap.size w wr) (fun _ i _ => k - (intOf i).toNat)
  case atStart => exact ⟨0, 0, rfl, Nat.zero_le _, rfl, by simp, H2.out.1, H2.out.2⟩
  case round =>
    obtain ⟨j, m, rfl, hj, rfl, hm, hr, hB⟩ := hrel
    have HM : Hid (m < 256 ^ j) := hm
    have hmb := pow_small hm (by omega)
    by_cases hlt : j < k
    · have hltI : (j : Int) < k := by omega
      have hmb2 := pow_small hm (show j ≤ 8 by omega)
      have hm7 : m < 72057594037927936 := by
        have h1 : 256 ^ j ≤ 256 ^ 7 := Nat.pow_le_pow_right (by decide) (by omega)
        have h2 : (256 : Nat) ^ 7 = 72057594037927936 := by decide
        omega
      have H3 : Hid (Rd wr g a lb cap bs' (1 + j) ∧ Below w.heap.size w wr) := ⟨hr, hB⟩
      have hm7I : (m : Int) < 72057594037927936 := by omega
      clear hr hB hm
      go_wp2_with fail
      refine Calls.mono (CP.out wr (1 + j) 256 H3.out.1 (by omega) (by omega) (by omega) H3.out.2) ?_
      rintro e w3 ⟨v, rfl, hv, R3, B3⟩
      have H4 : Hid (Rd w3 g a lb cap bs' (1 + j + 1) ∧ Below w.heap.size w w3 ∧ m * 256 + v < 256 ^ (j + 1)) := ⟨R3, B3, pow_step HM.out (by omega)⟩
      clear R3 B3
      go_wp2
      go_roundw
      case rel => exact ⟨j + 1, m * 256 + v, by go_num, by omega, by congr 1, H4.out.2.2, H4.out.1, H4.out.2.1⟩
      case measure => simp [intOf]; omega
    · have hge : ¬ (j : Int) < k := by omega
      have H3 : Hid (Below w.heap.size w wr) := hB
      clear hr hB hm
      go_wp2
      go_ret
      exact ⟨m, rfl, hmb, H3.out⟩
end Go.Proofs.Ythokphoojmpajab
