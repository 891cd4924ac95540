/- For every two slices of bytes the law FnNatSmall returns true and leaves its arguments as they were; no condition. -/
import Derived.Test.YthokphoojmpajabRows
import Derived.WalkKit
import Derived.ProofKit
import Derived.OpenShut
import Derived.ShutString
import Derived.ChangeOld
import Derived.Below
import Derived.Test.YthokphoojmpajabDrawDiv
import Derived.Test.YthokphoojmpajabDrawOf
import Derived.Test.YthokphoojmpajabOpMore
import Derived.Test.YthokphoojmpajabOfImpl
import Derived.Test.YthokphoojmpajabSmall
import Derived.Test.YthokphoojmpajabOk
import Derived.Test.YthokphoojmpajabNatCmp
import Derived.Test.YthokphoojmpajabNatSub
import Derived.Test.YthokphoojmpajabNatDiv
import Derived.Test.YthokphoojmpajabNatAdd
namespace Go.Proofs.Ythokphoojmpajab
namespace fnNatSmall
open Go.ChangeShapes Go.WideShapes Go.ChangeAt Go.RowKit Go.Proofs.Pin
open Go.ChangeMaps (open_string shut_string)
set_option linter.unusedVariables false

theorem own : ownKnob Try.prog.godebug = none := by kernel_rfl
theorem laidOut : laidOutB Try.prog = true := by kernel_rfl

/-! ### STEP 1: THE WALK: the Go text returns true, AND WRITES NOTHING THAT WAS THERE: 'Below w.heap.size w w'' (Derived/Below.lean: '.refl', '.alloc', '.drew', '.setCell' at a new block, '.trans'). Open each 'IsRow' by 'rcases' AHEAD of 'go_enter'; part every test ahead of the walk. -/

theorem small_dgs {x : Nat} : isSmall (dgs x) = decide (x < 18446744073709551616) := by
  unfold isSmall
  have e4 : (dgs x).length ≤ 4 ↔ x < 18446744073709551616 := by
    have h : (65536 : Nat) ^ 4 = 18446744073709551616 := by decide
    rw [dgs_len_iff, h]
  by_cases h : x < 18446744073709551616
  · have h4 := e4.2 h
    rw [dgs_ok (by omega)]
    simp [h4, h]
  · have h4 : ¬ (dgs x).length ≤ 4 := fun h' => h (e4.1 h')
    simp [h4, h]
theorem smallv_dgs {x : Nat} (h : x < 18446744073709551616) : smallVal (dgs x) = (x : Int) := by
  unfold smallVal
  rw [small_dgs, if_pos (by simpa using h), val_dgs]
theorem len5 {x : Nat} (h : x ≤ 36893488147419103230) : (dgs x).length ≤ 256 := by
  have h5 : (dgs x).length ≤ 5 := by
    have e : (65536 : Nat) ^ 5 = 1208925819614629174706176 := by decide
    rw [dgs_len_iff, e]
    omega
  omega
set_option maxRecDepth 200000 in
set_option maxHeartbeats 8000000 in
theorem walk (a0 : Option Addr) (len0 cap0 : Nat) (z0 : List Int) (a1 : Option Addr) (len1 cap1 : Nat) (z1 : List Int) (w : World) (w0 : IsRow .u8 w a0 len0 cap0 z0) (w1 : IsRow .u8 w a1 len1 cap1 z1) :
    Calls Try.prog 4 #[.slice a0 len0 cap0, .slice a1 len1 cap1] w fun e w' => e = .returned (.bool true) ∧ Below w.heap.size w w' := by
  obtain ⟨h1, h2, h3, h4⟩ := isRow_u8 w0
  obtain ⟨k1, k2, k3, k4⟩ := isRow_u8 w1
  clear w0 w1
  by_cases hb0 : (1048576 : Int) < (len0 : Int)
  · go_enter Try.func4, Try.ntmps4
    go_wp2
    go_ret
    exact ⟨rfl, Below.refl _ _⟩
  by_cases hb1 : (1048576 : Int) < (len1 : Int)
  · go_enter Try.func4, Try.ntmps4
    go_wp2
    go_ret
    exact ⟨rfl, Below.refl _ _⟩
  have C0 : Hid _ := drawOf_any a0 len0 cap0 _ w h1 h2 h3 (by omega) h4
  have C1 : Hid (∀ w1, Below w.heap.size w w1 → Calls Try.prog 10 #[.slice a1 len1 cap1] w1 fun e w' => ∃ m : Nat, e = .returned (.int .u64 (m : Int)) ∧ m ≤ 18446744073709551615 ∧ Below w1.heap.size w1 w') := fun w1 hB => drawOf_any a1 len1 cap1 _ w1 (by
      rcases k1 with h0 | ⟨b, off, he, hlt, hc⟩
      · exact .inl h0
      · exact .inr ⟨b, off, he, Nat.lt_of_lt_of_le hlt hB.size, fun i hi => (hB.cell (p := ⟨b, off + i, none⟩) hlt).trans (hc i hi)⟩) k2 k3 (by omega) k4
  have hl0 : (len0 : Int) ≤ 1048576 := by omega
  have hl1 : (len1 : Int) ≤ 1048576 := by omega
  clear h1 h2 h3 h4 k1 k2 k3 k4
  go_enter Try.func4, Try.ntmps4
  go_wp2_with fail
  refine Calls.mono C0.out ?_
  rintro e w1 ⟨m, rfl, hm, B1⟩
  clear C0
  go_wp2_with fail
  refine Calls.mono (C1.out _ B1) ?_
  rintro e w2 ⟨n, rfl, hn, b2⟩
  have B2 : Below w.heap.size w w2 := B1.trans (b2.mono B1.size)
  have c3 := implOf_any m w2 hm
  have c4 := fun w3 => implOf_any n w3 hn
  have lm : (dgs m).length ≤ 256 := len5 (by omega)
  have ln : (dgs n).length ≤ 256 := len5 (by omega)
  have c5 := fun (w4 : World) (r : Option Addr) (cr : Nat) (h : Sl w4 r (dgs m)) => implSmall_any r cr (dgs m) w4 h (by omega)
  have c6 := fun (w4 : World) (r : Option Addr) (cr : Nat) (h : Sl w4 r (dgs m)) => (implOk_any r cr (dgs m) w4 h (by omega)).mono (R' := fun e w' => e = .returned (.bool true) ∧ w4 = w') (fun e w' h => ⟨by rw [h.1, dgs_ok lm], h.2.symm⟩)
  have c7 := fun (w4 : World) (r s : Option Addr) (cr cs : Nat) (h1 : Sl w4 r (dgs m)) (h2 : Sl w4 s (dgs n)) => implCmp_any r s cr cs (dgs m) (dgs n) w4 h1 h2 (by omega) (by omega)
  simp only [smallv_dgs (x := m) (by omega), small_dgs (x := m)] at c5
  have hsm : decide (m < 18446744073709551616) = true := by simp; omega
  simp only [hsm] at c5
  have hcc : cmpAns (dgs m) (dgs n) = sg m n := by rw [cmpAns_yes (dgs_ok lm) (dgs_ok ln), cmp_dgs]
  simp only [hcc] at c7
  obtain ⟨cc, hce⟩ : ∃ cc, cc = sg (m : Int) (n : Int) := ⟨_, rfl⟩
  simp only [← hce] at c7
  obtain ⟨A, hA⟩ : ∃ A, A = dgs m := ⟨_, rfl⟩
  obtain ⟨N, hN⟩ : ∃ N, N = dgs n := ⟨_, rfl⟩
  simp only [← hA, ← hN] at c3 c4 c5 c6 c7
  have HA : Hid (A = dgs m ∧ N = dgs n ∧ cc = sg (m : Int) (n : Int)) := ⟨hA, hN, hce⟩
  have C3 : Hid _ := c3
  have C4 : Hid _ := c4
  have C5 : Hid _ := c5
  have C6 : Hid _ := c6
  have C7 : Hid _ := c7
  have hmm : ((m : Int) != (m : Int)) = false := by simp
  clear c3 c4 c5 c6 c7 hA hN hce hcc C1 b2 B1 hsm
  go_wp2_with fail
  refine Calls.mono C3.out ?_
  rintro e w3 ⟨r, cr, rfl, o3, b3⟩
  have B3 : Below w.heap.size w w3 := B2.trans (b3.mono B2.size)
  have sa3 := o3.sl
  have ka := own_cap o3
  clear C3 o3 b3 B2
  go_wp2_with fail
  refine Calls.mono (C4.out _) ?_
  rintro e w4 ⟨s, cs, rfl, o4, b4⟩
  have B4 : Below w.heap.size w w4 := B3.trans (b4.mono B3.size)
  have sa4 := sa3.keep b4
  have sn4 := o4.sl
  clear C4 o4 b4 B3 sa3
  go_wp2_with fail
  refine Calls.mono (C5.out _ _ _ sa4) ?_
  rintro e w5 ⟨rfl, b5⟩
  have B5 : Below w.heap.size w w5 := B4.trans (b5.mono B4.size)
  have sa5 := sa4.keep b5
  have sn5 := sn4.keep b5
  clear C5 b5 B4 sa4 sn4
  go_wp2_with fail
  refine Calls.mono (C6.out _ _ _ sa5) ?_
  rintro e w6 ⟨rfl, rfl⟩
  go_wp2_with fail
  refine Calls.mono (C7.out _ _ _ _ _ sa5 sn5) ?_
  rintro e w7 ⟨rfl, b7⟩
  have B7 : Below w.heap.size w w7 := B5.trans (b7.mono B5.size)
  have sa7 := sa5.keep b7
  have sn7 := sn5.keep b7
  clear C6 C7 b7 B5 sa5 sn5
  go_upto_region 11 with fail
  go_cut [76] from 63 (fun v wx => v = .bool false ∧ Below w.heap.size w wx ∧ Sl wx r A ∧ Sl wx s N)
  case first =>
    have hce := HA.out.2.2
    rcases Int.lt_trichotomy (m : Int) (n : Int) with hlt | heq | hgt
    · have e0 : cc = -1 := by rw [hce]; exact sg_lt hlt
      have e1 : (cc == -1) = true := by simp [e0]
      have e2 : (cc == 0) = false := by simp [e0]
      have e3 : ((m : Int) == (n : Int)) = false := by simp; omega
      clear hce e0
      go_wp2_with fail
      go_meet
      exact ⟨by first | (simp; done) | (simp; omega), B7, sa7, sn7⟩
    · have e0 : cc = 0 := by rw [hce]; exact sg_eq heq
      have e1 : (cc == -1) = false := by simp [e0]
      have e2 : (cc == 0) = true := by simp [e0]
      have e3 : ((m : Int) == (n : Int)) = true := by simp; omega
      have e4 : (n : Int) ≤ m := by omega
      have e5 : decide ((m : Int) < (n : Int)) = false := by simp; omega
      clear hce e0 heq
      go_wp2_with fail
      go_meet
      exact ⟨by first | (simp; done) | (simp; omega), B7, sa7, sn7⟩
    · have e0 : cc = 1 := by rw [hce]; exact sg_gt hgt
      have e1 : (cc == -1) = false := by simp [e0]
      have e2 : (cc == 0) = false := by simp [e0]
      have e3 : ((m : Int) == (n : Int)) = false := by simp; omega
      have e4 : ¬ (m : Int) < n := by omega
      clear hce e0
      go_wp2_with fail
      go_meet
      exact ⟨by first | (simp; done) | (simp; omega), B7, sa7, sn7⟩
  case rest =>
  obtain ⟨rfl, B8, sa8, sn8⟩ := hcut
  clear B7 sa7 sn7
  have CD : Hid (∀ (x : Nat) (w4 : World) (r : Option Addr) (cr : Nat), x < 18446744073709551616 → Sl w4 r (dgs x) → Calls Try.prog 12 #[.slice r (dgs x).length cr] w4 fun e w' => e = .returned (.tuple #[.int .u64 (x : Int), .bool true]) ∧ Below w4.heap.size w4 w') := fun x w4 r cr hx h => by
    have l5 : (dgs x).length ≤ 256 := len5 (by omega)
    have c := implSmall_any r cr (dgs x) w4 h (by omega)
    rw [smallv_dgs hx, small_dgs] at c
    simpa [hx] using c
  go_upto_if 79 with fail
  go_cut [] from 79 (fun wx => Below w.heap.size w wx ∧ Sl wx r A ∧ Sl wx s N)
  case first =>
    by_cases hge : n ≤ m
    · have c1 := implSub_op r s cr cs A N wc sa8 sn8 (by rw [HA.out.1]; omega) (by rw [HA.out.2.1]; omega)
      have lmn : (dgs (m - n)).length ≤ 256 := len5 (by omega)
      have e5 : op2 (fun x y => if y ≤ x then some (x - y) else none) A N = some (m - n) := by
        rw [HA.out.1, HA.out.2.1, op2_yes lm ln]
        simp [hge]
      simp only [e5, (ans_fit lmn).1, (ans_fit lmn).2] at c1
      have c2 := fun (w9 : World) (rd : Option Addr) (cd : Nat) (h : Sl w9 rd (dgs (m - n))) => CD.out (m - n) w9 rd cd (by omega) h
      have hcast : ((m - n : Nat) : Int) = (m : Int) - (n : Int) := by omega
      simp only [hcast] at c2
      obtain ⟨V, hV⟩ : ∃ V, V = dgs (m - n) := ⟨_, rfl⟩
      simp only [← hV] at c1 c2
      have D1 : Hid _ := c1
      have D2 : Hid _ := c2
      have hgeI : (n : Int) ≤ m := by omega
      have hdd : ((m : Int) - (n : Int) != (m : Int) - (n : Int)) = false := by simp
      clear c1 c2 hV e5 lmn hcast
      go_wp2_with fail
      refine Calls.mono D1.out ?_
      rintro e w9 ⟨rd, cd, rfl, o9, b9⟩
      have B9 : Below w.heap.size w w9 := B8.trans (b9.mono B8.size)
      have sa9 := sa8.keep b9
      have sn9 := sn8.keep b9
      have sd9 := o9.sl
      clear D1 o9 b9 B8 sa8 sn8
      go_wp2_with fail
      refine Calls.mono (D2.out _ _ _ sd9) ?_
      rintro e w10 ⟨rfl, b10⟩
      have B10 : Below w.heap.size w w10 := B9.trans (b10.mono B9.size)
      have sa10 := sa9.keep b10
      have sn10 := sn9.keep b10
      clear D2 b10 B9 sa9 sn9 sd9
      go_wp2_with fail
      go_meet
      exact ⟨B10, sa10, sn10⟩
    · have hgeI : ¬ (n : Int) ≤ m := by omega
      go_wp2_with fail
      go_meet
      exact ⟨B8, sa8, sn8⟩
  case rest =>
  obtain ⟨B9, sa9, sn9⟩ := hcut
  clear B8 sa8 sn8
  go_upto_if 105 with fail
  go_cut [] from 105 (fun wx => Below w.heap.size w wx ∧ Sl wx r A ∧ Sl wx s N)
  case first =>
    by_cases hn0 : 0 < n
    · have c1 := implDiv_op r s cr cs A N wc sa9 sn9 (by rw [HA.out.1]; omega) (by rw [HA.out.2.1]; omega) ka
      have e5 : dvB A N = true ∧ dvQ A N = dgs (m / n) ∧ dvR A N = dgs (m % n) := by
        rw [HA.out.1, HA.out.2.1]
        exact dv_yes lm ln (by omega)
      simp only [e5.1, e5.2.1, e5.2.2] at c1
      have hq : m / n ≤ m := Nat.div_le_self m n
      have hr : m % n ≤ m := Nat.mod_le m n
      have c2 := fun (w9 : World) (rd : Option Addr) (cd : Nat) (h : Sl w9 rd (dgs (m / n))) => CD.out (m / n) w9 rd cd (by omega) h
      have c3 := fun (w9 : World) (rd : Option Addr) (cd : Nat) (h : Sl w9 rd (dgs (m % n))) => CD.out (m % n) w9 rd cd (by omega) h
      have hcq : ((m / n : Nat) : Int) = (m : Int) / (n : Int) := by simp
      have hcr : ((m % n : Nat) : Int) = (m : Int) % (n : Int) := by simp
      simp only [hcq] at c2
      simp only [hcr] at c3
      obtain ⟨U, hU⟩ : ∃ U, U = dgs (m / n) := ⟨_, rfl⟩
      obtain ⟨V, hV⟩ : ∃ V, V = dgs (m % n) := ⟨_, rfl⟩
      simp only [← hU, ← hV] at c1 c2 c3
      have D1 : Hid _ := c1
      have D2 : Hid _ := c2
      have D3 : Hid _ := c3
      have hnI : (0 : Int) < n := by omega
      have h11 : ((m : Int) / (n : Int) != (m : Int) / (n : Int)) = false := by simp
      have h12 : ((m : Int) % (n : Int) != (m : Int) % (n : Int)) = false := by simp
      have hq0 : (0 : Int) ≤ (m : Int) / (n : Int) := by rw [← hcq]; exact Int.natCast_nonneg _
      have hq1 : (m : Int) / (n : Int) ≤ 18446744073709551615 := by rw [← hcq]; omega
      have hr0 : (0 : Int) ≤ (m : Int) % (n : Int) := by rw [← hcr]; exact Int.natCast_nonneg _
      have hr1 : (m : Int) % (n : Int) ≤ 18446744073709551615 := by rw [← hcr]; omega
      clear c1 c2 c3 hU hV e5 hcq hcr hq hr
      go_wp2_with fail
      refine Calls.mono D1.out ?_
      rintro e w10 ⟨rq, cq, rr, cr2, rfl, oq, or2, _, b10⟩
      have B10 : Below w.heap.size w w10 := B9.trans (b10.mono B9.size)
      have sa10 := sa9.keep b10
      have sn10 := sn9.keep b10
      have sq10 := oq.sl
      have sr10 := or2.sl
      clear D1 oq or2 b10 B9 sa9 sn9
      go_wp2_with fail
      refine Calls.mono (D2.out _ _ _ sq10) ?_
      rintro e w11 ⟨rfl, b11⟩
      have B11 : Below w.heap.size w w11 := B10.trans (b11.mono B10.size)
      have sa11 := sa10.keep b11
      have sn11 := sn10.keep b11
      have sr11 := sr10.keep b11
      clear D2 b11 B10 sa10 sn10 sr10 sq10
      go_wp2_with fail
      refine Calls.mono (D3.out _ _ _ sr11) ?_
      rintro e w12 ⟨rfl, b12⟩
      have B12 : Below w.heap.size w w12 := B11.trans (b12.mono B11.size)
      have sa12 := sa11.keep b12
      have sn12 := sn11.keep b12
      clear D3 b12 B11 sa11 sn11 sr11
      go_wp2_with fail
      go_meet
      exact ⟨B12, sa12, sn12⟩
    · have hnI : ¬ (0 : Int) < n := by omega
      go_wp2_with fail
      go_meet
      exact ⟨B9, sa9, sn9⟩
  case rest =>
  obtain ⟨B10, sa10, sn10⟩ := hcut
  clear B9 sa9 sn9
  have c1 := implAdd_op r s cr cs A N wc sa10 sn10 (by rw [HA.out.1]; omega) (by rw [HA.out.2.1]; omega)
  have ls : (dgs (m + n)).length ≤ 256 := len5 (by omega)
  have e5 : op2 (fun x y => some (x + y)) A N = some (m + n) := by rw [HA.out.1, HA.out.2.1, op2_yes lm ln]
  simp only [e5, (ans_fit ls).1, (ans_fit ls).2] at c1
  have c2 := fun (w9 : World) (rd : Option Addr) (cd : Nat) (h : Sl w9 rd (dgs (m + n))) => implSmall_any rd cd (dgs (m + n)) w9 h (by omega)
  by_cases hov : m + n < 18446744073709551616
  · have i1 := smallv_dgs hov
    have i2 : isSmall (dgs (m + n)) = true := by rw [small_dgs]; simpa using hov
    simp only [i1, i2] at c2
    obtain ⟨S, hS⟩ : ∃ S : Int, S = ((m + n : Nat) : Int) := ⟨_, rfl⟩
    simp only [← hS] at c2
    obtain ⟨V, hV⟩ : ∃ V, V = dgs (m + n) := ⟨_, rfl⟩
    simp only [← hV] at c1 c2
    have D1 : Hid _ := c1
    have D2 : Hid _ := c2
    have hwr : IntKind.u64.wrap ((m : Int) + (n : Int)) = S := by rw [hS]; simp [IntKind.wrap, IntKind.bits, IntKind.signed]; omega
    have hSm : (m : Int) ≤ S := by omega
    have hSS : (S == S) = true := by simp
    clear c1 c2 hV e5 ls hov i1 i2 hS
    go_wp2_with fail
    refine Calls.mono D1.out ?_
    rintro e w11 ⟨rs, cs2, rfl, o11, b11⟩
    have B11 : Below w.heap.size w w11 := B10.trans (b11.mono B10.size)
    have ss11 := o11.sl
    clear D1 o11 b11
    go_wp2_with fail
    refine Calls.mono (D2.out _ _ _ ss11) ?_
    rintro e w12 ⟨rfl, b12⟩
    have B12 : Below w.heap.size w w12 := B11.trans (b12.mono B11.size)
    clear D2 b12
    go_wp2_with fail
    go_ret
    exact ⟨rfl, B12⟩
  · have i2 : isSmall (dgs (m + n)) = false := by rw [small_dgs]; simpa using hov
    have i1 : smallVal (dgs (m + n)) = 0 := by unfold smallVal; rw [i2]; rfl
    simp only [i1, i2] at c2
    obtain ⟨S, hS⟩ : ∃ S : Int, S = (m : Int) + (n : Int) - 18446744073709551616 := ⟨_, rfl⟩
    obtain ⟨V, hV⟩ : ∃ V, V = dgs (m + n) := ⟨_, rfl⟩
    simp only [← hV] at c1 c2
    have D1 : Hid _ := c1
    have D2 : Hid _ := c2
    have hwr : IntKind.u64.wrap ((m : Int) + (n : Int)) = S := by rw [hS]; simp [IntKind.wrap, IntKind.bits, IntKind.signed]; omega
    have hSm : S < (m : Int) := by omega
    have hSm' : decide ((m : Int) ≤ S) = false := by simp; omega
    clear c1 c2 hV e5 ls hov i1 i2 hS
    go_wp2_with fail
    refine Calls.mono D1.out ?_
    rintro e w11 ⟨rs, cs2, rfl, o11, b11⟩
    have B11 : Below w.heap.size w w11 := B10.trans (b11.mono B10.size)
    have ss11 := o11.sl
    clear D1 o11 b11
    go_wp2_with fail
    refine Calls.mono (D2.out _ _ _ ss11) ?_
    rintro e w12 ⟨rfl, b12⟩
    have B12 : Below w.heap.size w w12 := B11.trans (b12.mono B11.size)
    clear D2 b12
    go_wp2_with fail
    go_ret
    exact ⟨rfl, B12⟩

/-! ### THE ROW's STEP: WRITTEN OUT: LEAVE IT -/
set_option maxRecDepth 100000 in
theorem lifted (os : Os) (started : os.Started) (H : Type) (enc : TypeId × Value → H) :
    ReturnsInHanded {} Try.checked os 4 .any (Rows.fnNatSmallSpec.pre6 enc Try.prog Try.f4 Rows.fnNatSmallRow.domain false) (Rows.fnNatSmallSpec.post enc Try.prog Try.f4 false true false false) := by
  refine returnsInHanded_of_change (C := Try.checked) own started (by kernel_rfl) Try.func4
    (ChangeSpec.witness6 (enc := enc) (C := Try.checked) false ⟨#[], #[.slice none 0 0, .slice none 0 0], []⟩ 8 (by kernel_rfl) (by kernel_rfl) (by kernel_rfl) (by kernel_rfl)) ?_
  intro W base args ds gs before hval0 hW hcnd _
  have hval : ∀ (j : Nat) t v, Try.f4.params[j]? = some t → args[j]? = some v → Value.okWide Try.prog W .any base t v := hval0
  have hW' := hW
  obtain ⟨p, q, hA0, hV, rfl, hfz, hnd⟩ := hW
  have hA : DataW.TrodAll enc Try.prog W 0 (fun _ => true) true Try.f4.params.toList args.toList ds p := hA0
  rw [Try.params4] at hA hval
  obtain ⟨v0, vs0, d0, ds0, p0, q0, hargs, rfl, rfl, h0, r0⟩ := trodAll_cons hA
  obtain ⟨v1, vs1, d1, ds1, p1, q1, rfl, rfl, rfl, h1, r1⟩ := trodAll_cons r0
  obtain ⟨rfl, rfl, rfl⟩ := trodAll_nil r1
  obtain rfl : args = #[v0, v1] := by cases args; simp_all
  obtain ⟨rfl, rfl⟩ := trodVars_none hV
  obtain ⟨a0, len0, cap0, rfl⟩ := okWide_slice Try.underlying22 (hval 0 22 v0 rfl rfl)
  have k0 := h0
  have lt0 : ∀ x ∈ p0, x.block < W.heap.size := by obtain ⟨m, hm⟩ := k0; exact DataW.trod_lt m _ _ _ hm
  obtain ⟨z0, w0⟩ : ∃ zs, IsRow .u8 W a0 len0 cap0 zs := by
    obtain ⟨fuel, hf⟩ := h0
    rcases open_ints Try.underlying22 Try.underlying5 (by kernel_rfl) hf with ⟨hcs, _⟩ | ⟨x, l, c, zs, hcs, _, hl, hm, hz, _, hcell, hwz⟩
    · simp [Value.cells] at hcs
      obtain ⟨rfl, rfl, rfl⟩ := hcs
      exact ⟨[], .inl ⟨rfl, rfl, rfl, rfl⟩⟩
    · simp [Value.cells] at hcs
      obtain ⟨rfl, rfl, rfl⟩ := hcs
      exact ⟨zs, .inr ⟨_, rfl, hl, hm, by simpa using hz, hcell, hwz⟩⟩
  obtain ⟨a1, len1, cap1, rfl⟩ := okWide_slice Try.underlying22 (hval 1 22 v1 rfl rfl)
  have k1 := h1
  have lt1 : ∀ x ∈ p1, x.block < W.heap.size := by obtain ⟨m, hm⟩ := k1; exact DataW.trod_lt m _ _ _ hm
  obtain ⟨z1, w1⟩ : ∃ zs, IsRow .u8 W a1 len1 cap1 zs := by
    obtain ⟨fuel, hf⟩ := h1
    rcases open_ints Try.underlying22 Try.underlying5 (by kernel_rfl) hf with ⟨hcs, _⟩ | ⟨x, l, c, zs, hcs, _, hl, hm, hz, _, hcell, hwz⟩
    · simp [Value.cells] at hcs
      obtain ⟨rfl, rfl, rfl⟩ := hcs
      exact ⟨[], .inl ⟨rfl, rfl, rfl, rfl⟩⟩
    · simp [Value.cells] at hcs
      obtain ⟨rfl, rfl, rfl⟩ := hcs
      exact ⟨zs, .inr ⟨_, rfl, hl, hm, by simpa using hz, hcell, hwz⟩⟩
  clear hA0 hval0
  refine (walk a0 len0 cap0 z0 a1 len1 cap1 z1 W w0 w1).mono fun e W' ⟨he, bel⟩ => ?_
  subst he
  exact ⟨_, rfl, _, _, _, [], _, [], hW', trodAll_mk1 (shut_bool Try.underlying4 _), (trodAll_cons_mk (Below.trod laidOut (by kernel_rfl) (of_decide_eq_true (by kernel_rfl)) k0 bel lt0) (trodAll_cons_mk (Below.trod laidOut (by kernel_rfl) (of_decide_eq_true (by kernel_rfl)) k1 bel lt1) trodAll_mk0)), rfl, bel.frame _, fun h => by cases h⟩

theorem over : Rows.fnNatSmallRow.holds Try.pinned (OpenSpec.ofChange Rows.fnNatSmallSpec) :=
  OpenClaim.holds_of_wide 4 Try.f4 rfl rfl rfl rfl rfl rfl rfl ⟨rfl, rfl, rfl, rfl, rfl⟩ rfl rfl rfl rfl rfl (by kernel_rfl) Try.func4 (by kernel_rfl)
    (of_decide_eq_true (by kernel_rfl)) (by unfold Func.isWrapper; first | (rw [if_pos (by decide +kernel)]; kernel_rfl) | (rw [if_neg (by decide +kernel)]; exact ⟨rfl, rfl⟩))
    (fun os started H enc _ => lifted os started H enc)

/-- ████ THE STATEMENT ████ -/
theorem proved : Rows.FnNatSmallSaid := over
end fnNatSmall
theorem fnNatSmall_holds : Rows.FnNatSmallSaid := fnNatSmall.proved
#print axioms fnNatSmall_holds
end Go.Proofs.Ythokphoojmpajab
