/- The contracts of strings.Repeat at a nought, of impl.pointed. -/
import Derived.Test.YthokphoojmpajahDoorProg
import Derived.Test.YthokphoojmpajahDoorBase
import Derived.Test.YthokphoojmpajahDoorGTxt
import Derived.Shelf.RegionOpen
import Derived.Shelf.RegionOpenPlain
import Derived.WalkKit
import Derived.Outline
import Derived.WalkSpells
import Derived.Deep.Cut
namespace Go.Proofs.YthokphoojmpajahDoor
open Go.RowKit Go.Shelf Go.Proofs.Pin

theorem and_mask64 (n : Nat) (hn : n ≤ 64) : bits BinOp.and IntKind.u64 (n : Int) 4294967295 = (n : Int) := by
  have h : ∀ k : Fin 65, bits BinOp.and IntKind.u64 ((k.1 : Nat) : Int) 4294967295 = ((k.1 : Nat) : Int) := by decide +kernel
  exact h ⟨n, by omega⟩
theorem u64_fit {z : Int} (h0 : 0 ≤ z) (h1 : z < 18446744073709551616) : IntKind.u64.wrap z = z := by
  simp [IntKind.wrap, IntKind.bits, IntKind.signed]
  omega
set_option maxRecDepth 20000 in
theorem mul64_one (n : Nat) (w : World) (hn : n ≤ 64) :
    Calls Tryd.prog 104 #[.int .u64 1, .int .u64 (n : Int)] w fun e w' => e = .returned (.tuple #[.int .u64 0, .int .u64 (n : Int)]) ∧ w = w' := by
  have a1 : bits BinOp.and IntKind.u64 1 4294967295 = 1 := by decide +kernel
  have a2 := and_mask64 n hn
  have a3 : bits BinOp.and IntKind.u64 0 4294967295 = 0 := by decide +kernel
  have d1 : (n : Int) / 4294967296 = 0 := by omega
  have w1 : IntKind.u64.wrap (n : Int) = (n : Int) := u64_fit (by omega) (by omega)
  have w0 : IntKind.u64.wrap 0 = 0 := by decide
  go_enter Tryd.func104, Tryd.ntmps104
  go_wp2
  go_ret2
  exact ⟨rfl, rfl⟩
set_option maxRecDepth 20000 in
theorem bmul_one (n : Nat) (w : World) (hn : n ≤ 64) :
    Calls Tryd.prog 90 #[.int .u64 1, .int .u64 (n : Int)] w fun e w' => e = .returned (.tuple #[.int .u64 0, .int .u64 (n : Int)]) ∧ w = w' := by
  have C : Hid _ := mul64_one n w hn
  go_enter Tryd.func90, Tryd.ntmps90
  go_wp2_with fail
  refine Calls.mono C.out ?_
  rintro e w' ⟨rfl, rfl⟩
  go_wp2
  go_ret2
  exact ⟨rfl, rfl⟩
set_option maxRecDepth 20000 in
theorem hasP0_in (s : ByteArray) (w : World) (b : Bool) (h1 : (1 : Int) ≤ (s.size : Int)) (hb : ((s.extract 0 1).toList == [48]) = b) :
    Calls Tryd.prog 83 #[.string s, .string ⟨#[48]⟩] w fun e w' => e = .returned (.bool b) ∧ w = w' := by
  go_enter Tryd.func83, Tryd.ntmps83
  go_wp2
  go_ret
  exact ⟨rfl, rfl⟩
set_option maxRecDepth 20000 in
theorem hasP0_any (s : ByteArray) (w : World) (b : Bool) (h1 : (1 : Int) ≤ (s.size : Int)) (hb : ((s.extract 0 1).toList == [48]) = b) :
    Calls Tryd.prog 91 #[.string s, .string ⟨#[48]⟩] w fun e w' => e = .returned (.bool b) ∧ w = w' := by
  have C : Hid _ := hasP0_in s w b h1 hb
  clear hb
  go_enter Tryd.func91, Tryd.ntmps91
  go_wp2_with fail
  refine Calls.mono C.out ?_
  rintro e w' ⟨rfl, rfl⟩
  go_wp2
  go_ret
  exact ⟨rfl, rfl⟩
/-- So many noughts. -/
def zer (n : Nat) : ByteArray := ⟨(List.replicate n 48).toArray⟩
def zer64 : ByteArray := ⟨#[48, 48, 48, 48, 48, 48, 48, 48, 48, 48, 48, 48, 48, 48, 48, 48, 48, 48, 48, 48, 48, 48, 48, 48, 48, 48, 48, 48, 48, 48, 48, 48, 48, 48, 48, 48, 48, 48, 48, 48, 48, 48, 48, 48, 48, 48, 48, 48, 48, 48, 48, 48, 48, 48, 48, 48, 48, 48, 48, 48, 48, 48, 48, 48]⟩
theorem zer_cut (n : Nat) (hn : n ≤ 64) : zer64.extract 0 n = zer n := by
  have h : ∀ k : Fin 65, (zer64.extract 0 k.1).data.toList = List.replicate k.1 48 := by decide +kernel
  have h1 := h ⟨n, by omega⟩
  have e : ∀ (s t : ByteArray), s.data.toList = t.data.toList → s = t := by
    intro s t h
    cases s; cases t
    simp at h
    simp [h]
  exact e _ _ (by rw [h1]; simp [zer])

set_option maxRecDepth 20000 in
set_option maxHeartbeats 4000000 in
theorem repeat0_any (n : Nat) (w : World) (hn : n ≤ 60) :
    Calls Tryd.prog 78 #[.string ⟨#[48]⟩, .int .i64 (n : Int)] w fun e w' => e = .returned (.string (zer n)) ∧ w = w' := by
  by_cases h0 : n = 0
  · subst h0
    go_enter Tryd.func78, Tryd.ntmps78
    go_wp2
    go_ret
    exact ⟨rfl, rfl⟩
  by_cases h1 : n = 1
  · subst h1
    go_enter Tryd.func78, Tryd.ntmps78
    go_wp2
    go_ret
    exact ⟨rfl, rfl⟩
  have e0 : ((n : Int) == 0) = false := by rw [beq_eq_false_iff_ne]; omega
  have e1 : ((n : Int) == 1) = false := by rw [beq_eq_false_iff_ne]; omega
  have e2 : ¬ (n : Int) < 0 := by omega
  have e3 : (n : Int) ≤ 128 := by omega
  have e4 : (n : Int) ≤ 64 := by omega
  have w1 : IntKind.u64.wrap (n : Int) = (n : Int) := u64_fit (by omega) (by omega)
  have C : Hid _ := bmul_one n w (by omega)
  have HZ : Hid _ := zer_cut n (by omega)
  go_enter Tryd.func78, Tryd.ntmps78
  go_wp2_with fail
  refine Calls.mono C.out ?_
  rintro e w' ⟨rfl, rfl⟩
  clear C
  have HP : Hid _ := hasP0_any
  go_wp2_with fail
  refine Calls.mono (HP.out _ _ false (by decide) (by rw [ByteArray.toList_eq]; decide +kernel)) ?_
  rintro e w' ⟨rfl, rfl⟩
  go_wp2_with fail
  refine Calls.mono (HP.out _ _ false (by decide) (by rw [ByteArray.toList_eq]; decide +kernel)) ?_
  rintro e w' ⟨rfl, rfl⟩
  go_wp2_with fail
  refine Calls.mono (HP.out _ _ true (by decide) (by rw [ByteArray.toList_eq]; decide +kernel)) ?_
  rintro e w' ⟨rfl, rfl⟩
  go_wp2
  go_ret
  exact ⟨by rw [← HZ.out]; rfl, rfl⟩

/-- A text with a point ahead of its last k decimals. -/
def padT (t : ByteArray) (k : Nat) : ByteArray := zer (k + 1 - t.size) ++ t
def pointT (t : ByteArray) (k : Nat) : ByteArray := if k = 0 then t else (padT t k).extract 0 ((padT t k).size - k) ++ ⟨#[46]⟩ ++ (padT t k).extract ((padT t k).size - k) (padT t k).size
theorem zer_size (n : Nat) : (zer n).size = n := by
  show (List.replicate n (48 : UInt8)).toArray.size = n
  simp
theorem pad_size (t : ByteArray) (k : Nat) : k + 1 ≤ (padT t k).size ∧ (padT t k).size = (k + 1 - t.size) + t.size := by
  unfold padT
  rw [ByteArray.size_append, zer_size]
  omega

set_option maxRecDepth 20000 in
set_option maxHeartbeats 2000000 in
theorem pointed_any (t : ByteArray) (k : Nat) (w : World) (hk : k ≤ 58) (ht : t.size ≤ 6000) :
    Calls Tryd.prog 59 #[.string t, .int .i64 (k : Int)] w fun e w' => e = .returned (.string (pointT t k)) ∧ ∃ n, w.drewN n = w' := by
  by_cases h0 : k = 0
  · subst h0
    have e : pointT t 0 = t := by simp [pointT]
    rw [e]
    go_enter Tryd.func59, Tryd.ntmps59
    go_wp2
    go_ret
    exact ⟨rfl, 0, rfl⟩
  · have e : pointT t k = (padT t k).extract 0 ((padT t k).size - k) ++ ⟨#[46]⟩ ++ (padT t k).extract ((padT t k).size - k) (padT t k).size := by simp [pointT, h0]
    rw [e]
    have e0 : ((k : Int) == 0) = false := by rw [beq_eq_false_iff_ne]; omega
    have hp := pad_size t k
    obtain ⟨m, hm⟩ : ∃ m, m = k + 1 - t.size := ⟨_, rfl⟩
    have C : Hid (∀ W, Calls Tryd.prog 78 #[.string ⟨#[48]⟩, .int .i64 (m : Int)] W fun e w' => e = .returned (.string (zer m)) ∧ W = w') := fun W => repeat0_any m W (by omega)
    have mixed : Tryd.prog.follows Departure.mixedOrders = true := by kernel_rfl
    obtain ⟨P, hP⟩ : ∃ P, P = padT t k := ⟨_, rfl⟩
    have hPe : zer m ++ t = P := by rw [hP, hm]; rfl
    rw [← hP] at hp ⊢
    have s1 : (0 : Int) ≤ (P.size : Int) - (k : Int) := by omega
    have s2 : (P.size : Int) - (k : Int) ≤ (P.size : Int) := by omega
    have s3 : ((P.size : Int) - (k : Int)).toNat = P.size - k := by omega
    have s4 : P.size ≤ 6100 := by omega
    have hzs : (zer m).size ≤ 64 := by rw [zer_size]; omega
    have HPE : Hid (zer m ++ t = P) := hPe
    clear e hP hPe
    by_cases hc : k + 1 ≤ t.size
    · have c1 : (k : Int) + 1 - (t.size : Int) ≤ 0 := by omega
      have c2 : ¬ (0 : Int) < (k : Int) + 1 - (t.size : Int) := by omega
      obtain rfl : m = 0 := by omega
      clear hm hp hc
      go_enter Tryd.func59, Tryd.ntmps59
      go_wp2_with fail
      refine Calls.mono (C.out _) ?_
      rintro e w' ⟨rfl, rfl⟩
      go_upto_region 5 with fail
      rw [HPE.out]
      go_wp2_with fail
      go_region_o
      go_wp2
      go_ret
      exact ⟨by rw [← s3]; rfl, 1, rfl⟩
    · have c1 : (0 : Int) < (k : Int) + 1 - (t.size : Int) := by omega
      have c2 : ¬ (k : Int) + 1 - (t.size : Int) ≤ 0 := by omega
      have c3 : (k : Int) + 1 - (t.size : Int) = (m : Int) := by omega
      have HC : Hid ((k : Int) + 1 - (t.size : Int) = (m : Int)) := c3
      clear hm hp hc c3
      go_enter Tryd.func59, Tryd.ntmps59
      go_wp2_with fail
      rw [HC.out]
      refine Calls.mono (C.out _) ?_
      rintro e w' ⟨rfl, rfl⟩
      go_upto_region 5 with fail
      rw [HPE.out]
      go_wp2_with fail
      go_region_o
      go_wp2
      go_ret
      exact ⟨by rw [← s3]; rfl, 1, rfl⟩
end Go.Proofs.YthokphoojmpajahDoor
